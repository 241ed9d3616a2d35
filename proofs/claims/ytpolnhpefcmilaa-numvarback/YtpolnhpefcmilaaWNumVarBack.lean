/- The walk of NumVarBack. -/
import Derived.Test.YtpolnhpefcmilaaNumX
import Derived.Test.YtpolnhpefcmilaaNumD
namespace Go.Proofs.Ytpolnhpefcmilaa
open Go.ChangeShapes Go.WideShapes Go.ChangeAt Go.RowKit Go.Deep
set_option linter.unusedVariables false
theorem numVarBack_walk (v : Int) (a : Option Addr) (len cap : Nat) (zs : List Int) (w : World) (w0 : (Lit.int .u64 v).wf = true) (w2 : IsRow .u8 w a len cap zs) :
    Calls Try.prog 6 #[.int .u64 v, .slice a len cap] w fun e w' => e = .returned (.bool true) ∧ Below w.heap.size w w' := by
  obtain ⟨v0, v1⟩ := wf_u64 w0
  obtain ⟨L, hL, hlen, hh, hb, hcap, hreach, hlt, hlc, hcm⟩ := w2.holds
  have HL : Hid (Holds w a L) := hh
  have HC : Hid (a = none → cap = 0) := hcap
  have HT : Hid (∀ x, a = some x → L ≠ [] → x.block < w.heap.size) := hlt
  have HB : Hid (IsBytes L) := hb
  clear w0 w2 hL hh hcap hlt hb
  go_enter Try.func6, Try.ntmps6
  go_wp2_with fail
  refine (var_any v v0 v1 w).mono ?_
  rintro e w' ⟨n, hn, rfl, hw⟩; obtain rfl := hw.symm; clear hw
  have h9 := hn.1
  have HN : Hid (Sev v n) := hn
  have hbytes := varL_bytes n v v0 hn.2.1
  have HV : Hid (IsBytes (varL n v)) := bytes_of_mem hbytes
  have HR : Hid (rv (varL n v ++ L) 0 0 = (v, (n : Int) + 1, 0)) := rv_back v n v0 v1 hn L
  have HK : Hid (rv ((varL n v).take n) 0 0 = (0, 0, 4)) := rv_cut n v 0 0 v0 (by omega)
  clear hn hbytes
  generalize hX : (Obj.cells ((varL n v).map (Value.int .u8)).toArray 5) = X
  have HX : Hid (Obj.cells ((varL n v).map (Value.int .u8)).toArray 5 = X) := hX
  clear hX
  have own0 : Owned ((w.alloc X).alloc (.cells #[] 5)) (w.heap.size + 1) (.slice (some ⟨w.heap.size + 1, 0, none⟩) 0 0) [] := by
    have h := owned_empty (w.alloc X) (w.heap.size + 1) (by simp)
    simpa using h
  have OWN : Hid (Owned ((w.alloc X).alloc (.cells #[] 5)) (w.heap.size + 1) (.slice (some ⟨w.heap.size + 1, 0, none⟩) 0 0) []) := own0
  have bel0 : Below (w.heap.size + 1) (w.alloc X) ((w.alloc X).alloc (.cells #[] 5)) := (Below.refl _ _).alloc (by simp) _
  have hf0 : Holds (w.alloc X) (some ⟨w.heap.size, 0, none⟩) (varL n v) := by rw [← HX.out]; exact holds_laid _ w _
  have HF1 : Hid (Holds ((w.alloc X).alloc (.cells #[] 5)) (some ⟨w.heap.size, 0, none⟩) (varL n v)) := hf0.below bel0 (by intro x hx _; simp at hx; subst hx; simp)
  have BEL1 : Hid (Below w.heap.size w ((w.alloc X).alloc (.cells #[] 5))) := ((Below.refl _ _).alloc (Nat.le_refl _) _).alloc (by simp) _
  clear own0 bel0 hf0
  go_wp2_with (first | (at_builtin; refine append_bytes rfl (.tmp 16) (.tmp 17) rfl (w.heap.size + 1) _ [] rfl OWN.out _ _ _ (varL n v) rfl (varL_length n v) HF1.out (fun h => by simp at h) (n + 1) (by simp) (by omega) (by simp) ?_; intro a1 c1 w1 hown1 hbel1; have OWN1 : Hid (Owned w1 (w.heap.size + 1) (.slice a1 (n + 1) c1) ([] ++ varL n v)) := hown1; have BEL2 : Hid (Below (w.heap.size + 1) _ w1) := hbel1; have hs1 : w.heap.size + 2 ≤ w1.heap.size := (by have := hbel1.size; simp at this; omega); clear hown1 hbel1) | (at_builtin; refine append_bytes rfl (.tmp 18) (.tmp 19) rfl (w.heap.size + 1) _ ([] ++ varL n v) rfl OWN1.out _ _ _ L rfl hlen (HL.out.below (BEL1.out.trans (BEL2.out.mono (by omega))) HT.out) HC.out (n + 1 + len) (by simp [varL_length]) (by omega) (by omega) ?_; intro a2 c2 w2 hown2 hbel2; have OWN2 : Hid (Owned w2 (w.heap.size + 1) (.slice a2 (n + 1 + len) c2) ([] ++ varL n v ++ L)) := hown2; have BEL3 : Hid (Below (w.heap.size + 1) w1 w2) := hbel2; have hs2 : w.heap.size + 2 ≤ w2.heap.size := (by have := hbel2.size; omega); clear hown2 hbel2))
  have hO := OWN2.out.holds
  rw [List.nil_append] at hO
  have rb := readVar_all (varL n v ++ L) (n + 1 + len) a2 c2 hO.2.1 (by omega) (bytes_app HV.out HB.out) w2 hO.1
  rw [HR.out, rvEnd] at rb
  refine rb.mono ?_
  rintro e w' ⟨rfl, hw⟩; obtain rfl := hw.symm; clear hw rb hO
  have HF2 : Hid (Holds w2 (some ⟨w.heap.size, 0, none⟩) (varL n v)) := HF1.out.below (BEL2.out.trans BEL3.out) (by intro x hx _; simp at hx; subst hx; simp)
  go_wp2_with fail
  have rc := readVar_all ((varL n v).take n) n (some ⟨w.heap.size, 0, none⟩) (n + 1) (by rw [List.length_take, varL_length]; omega) (by omega) (bytes_of_mem fun x hx => bytes_mem HV.out x (List.mem_of_mem_take hx)) w2 (HF2.out.take n)
  rw [HK.out, rvEnd] at rc
  refine rc.mono ?_
  rintro e w' ⟨rfl, hw⟩; obtain rfl := hw.symm; clear hw rc
  obtain ⟨s9, s1, s2⟩ := HN.out
  by_cases n9 : n = 9
  · subst n9
    have hp : (9223372036854775808 : Int) ≤ v := by
      rcases s2 with h | h
      · omega
      · exact h
    clear s1 s2 s9
    go_wp2_with (go_at_call 13; refine (works_true _).mono ?_; rintro e w' ⟨rfl, hwk⟩)
    go_ret
    exact ⟨rfl, (BEL1.out.trans (BEL2.out.mono (by omega))).trans ((BEL3.out.mono (by omega)).trans (Below.mono (by assumption) (by omega)))⟩
  · by_cases n0 : n = 0
    · subst n0
      have hp : v < 128 := s1
      clear s1 s2 s9
      go_wp2_with (go_at_call 13; refine (works_true _).mono ?_; rintro e w' ⟨rfl, hwk⟩)
      go_ret
      exact ⟨rfl, (BEL1.out.trans (BEL2.out.mono (by omega))).trans ((BEL3.out.mono (by omega)).trans (Below.mono (by assumption) (by omega)))⟩
    · have q1 : v < IntKind.u64.wrap (2 ^ (7 * (n + 1))) := by
        have p := pow_le9 (n + 1) (by omega)
        have p0 : (0 : Int) < 128 ^ (n + 1) := Int.pow_pos (by decide)
        rw [pow128, IntKind.wrap_u64, Int.emod_eq_of_lt (by omega) (by omega)]; exact s1
      have q2 : IntKind.u64.wrap (2 ^ (7 * n)) ≤ v := by
        have p := pow_le9 n (by omega)
        have p0 : (0 : Int) < 128 ^ n := Int.pow_pos (by decide)
        rw [pow128, IntKind.wrap_u64, Int.emod_eq_of_lt (by omega) (by omega)]
        rcases s2 with h | h
        · exact absurd h n0
        · exact h
      clear s1 s2 s9
      go_wp2_with (go_at_call 13; refine (works_true _).mono ?_; rintro e w' ⟨rfl, hwk⟩)
      go_ret
      exact ⟨rfl, (BEL1.out.trans (BEL2.out.mono (by omega))).trans ((BEL3.out.mono (by omega)).trans (Below.mono (by assumption) (by omega)))⟩
end Go.Proofs.Ytpolnhpefcmilaa
