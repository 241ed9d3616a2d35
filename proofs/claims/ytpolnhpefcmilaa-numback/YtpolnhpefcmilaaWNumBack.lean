/- The walk of NumBack. -/
import Derived.Test.YtpolnhpefcmilaaNumH
import Derived.Test.YtpolnhpefcmilaaNumD
namespace Go.Proofs.Ytpolnhpefcmilaa
open Go.ChangeShapes Go.WideShapes Go.ChangeAt Go.RowKit Go.Deep
set_option linter.unusedVariables false

theorem tmod8 (n : Int) : -8 < n.tmod 8 ∧ n.tmod 8 < 8 := by
  rcases Int.le_total 0 n with h | h
  · rw [Int.tmod_eq_emod_of_nonneg h]; omega
  · have e : n.tmod 8 = -((-n).tmod 8) := by rw [Int.neg_tmod, Int.neg_neg]
    rw [e, Int.tmod_eq_emod_of_nonneg (by omega)]; omega
theorem width8 (n : Int) : ∃ k : Nat, 1 ≤ k ∧ k ≤ 8 ∧ wrap64 (1 + (wrap64 (n.tmod 8 + 8)).tmod 8) = k := by
  have h := tmod8 n
  have e1 : wrap64 (n.tmod 8 + 8) = n.tmod 8 + 8 := by unfold wrap64; omega
  rw [e1]
  rw [Int.tmod_eq_emod_of_nonneg (by omega)]
  have e2 : wrap64 (1 + (n.tmod 8 + 8) % 8) = 1 + (n.tmod 8 + 8) % 8 := by unfold wrap64; omega
  rw [e2]
  refine ⟨(1 + (n.tmod 8 + 8) % 8).toNat, ?_, ?_, ?_⟩ <;> omega
theorem back_big (v n : Int) (k : Nat) (a : Option Addr) (len cap : Nat) (w : World) (v0 : 0 ≤ v) (v1 : v ≤ 18446744073709551615) (k1 : 1 ≤ k) (k8 : k ≤ 8)
    (hk : wrap64 (1 + (wrap64 (n.tmod 8 + 8)).tmod 8) = k) (hv : 256 ^ k ≤ v) :
    Calls Try.prog 5 #[.int .u64 v, .int .i64 n, .slice a len cap] w fun e w' => e = .returned (.bool true) ∧ Below w.heap.size w w' := by
  have kb := fixed_big v k k1 k8 v0 hv
  have k7 : k < 8 := by
    rcases (by omega : k < 8 ∨ k = 8) with h | rfl
    · exact h
    · have : (256 : Int) ^ 8 = 18446744073709551616 := by decide
      omega
  have hd : 0 < v / 2 ^ (8 * k) := by
    rw [pow256]
    have hp : (0 : Int) < 256 ^ k := Int.pow_pos (by decide)
    have := Int.ediv_le_ediv hp hv
    rw [Int.ediv_self (by omega)] at this
    omega
  have hd2 : decide (0 < v / 2 ^ (8 * k)) = true := by simpa using hd
  have k72 : decide ((k : Int) < 8) = true := by simp; omega
  clear hv
  go_enter Try.func5, Try.ntmps5
  go_wp2_with (first | (go_at_call 9; refine (kb _).mono ?_; rintro e w' ⟨rfl, hw⟩; obtain rfl := hw.symm; clear hw) | (go_at_call 13; refine (works_true _).mono ?_; rintro e w' ⟨rfl, hb⟩))
  go_ret
  exact ⟨rfl, by assumption⟩

theorem back_ok (v n : Int) (k : Nat) (a : Option Addr) (len cap : Nat) (L : List Int) (w : World) (v0 : 0 ≤ v) (k1 : 1 ≤ k) (k8 : k ≤ 8)
    (hk : wrap64 (1 + (wrap64 (n.tmod 8 + 8)).tmod 8) = k) (hv : v < 256 ^ k)
    (hlen : L.length = len) (hh : Holds w a L) (hb : IsBytes L) (hcap : a = none → cap = 0) (hreach : len ≤ 140737488351232) (hlt : ∀ x, a = some x → L ≠ [] → x.block < w.heap.size) :
    Calls Try.prog 5 #[.int .u64 v, .int .i64 n, .slice a len cap] w fun e w' => e = .returned (.bool true) ∧ Below w.heap.size w w' := by
  have kb := fixed_ok v k k1 k8 v0 hv
  have KB : Hid (∀ w, Calls Try.prog 9 #[.int .u64 v, .int .i64 k] w fun e w' => e = .returned (.tuple #[.slice (some ⟨w.heap.size, 0, none⟩) k k, .int .i64 0]) ∧ w' = w.alloc (.cells (fixA v k k) 5)) := kb
  have HL : Hid (Holds w a L) := hh
  have HC : Hid (a = none → cap = 0) := hcap
  have HT : Hid (∀ x, a = some x → L ≠ [] → x.block < w.heap.size) := hlt
  have HB : Hid (IsBytes L) := hb
  have own0 : Owned ((w.alloc (.cells (fixA v k k) 5)).alloc (.cells #[] 5)) (w.heap.size + 1) (.slice (some ⟨w.heap.size + 1, 0, none⟩) 0 0) [] := by
    have h := owned_empty (w.alloc (.cells (fixA v k k) 5)) (w.heap.size + 1) (by simp)
    simpa using h
  have OWN : Hid (Owned ((w.alloc (.cells (fixA v k k) 5)).alloc (.cells #[] 5)) (w.heap.size + 1) (.slice (some ⟨w.heap.size + 1, 0, none⟩) 0 0) []) := own0
  have bel0 : Below (w.heap.size + 1) (w.alloc (.cells (fixA v k k) 5)) ((w.alloc (.cells (fixA v k k) 5)).alloc (.cells #[] 5)) := (Below.refl _ _).alloc (by simp) _
  have hf1 : Holds ((w.alloc (.cells (fixA v k k) 5)).alloc (.cells #[] 5)) (some ⟨w.heap.size, 0, none⟩) (fixL v k) := (holds_fixed v k w).below bel0 (by intro x hx _; simp at hx; subst hx; simp)
  have HF1 : Hid (Holds ((w.alloc (.cells (fixA v k k) 5)).alloc (.cells #[] 5)) (some ⟨w.heap.size, 0, none⟩) (fixL v k)) := hf1
  have bel1 : Below w.heap.size w ((w.alloc (.cells (fixA v k k) 5)).alloc (.cells #[] 5)) := ((Below.refl _ _).alloc (Nat.le_refl _) _).alloc (by simp) _
  have BEL1 : Hid (Below w.heap.size w ((w.alloc (.cells (fixA v k k) 5)).alloc (.cells #[] 5))) := bel1
  clear kb hh own0 bel0 hf1 bel1 hcap hlt hb
  go_enter Try.func5, Try.ntmps5
  go_wp2_with (first | (go_at_call 9; refine (KB.out _).mono ?_; rintro e w' ⟨rfl, hw⟩; obtain rfl := hw.symm; clear hw) | (at_builtin; refine append_bytes rfl (.tmp 53) (.tmp 54) rfl (w.heap.size + 1) _ [] rfl OWN.out _ _ _ (fixL v k) rfl (fixL_length v k) HF1.out (fun h => by simp at h) k (by simp) (by omega) (by simp) ?_; intro a1 c1 w1 hown1 hbel1; have OWN1 : Hid (Owned w1 (w.heap.size + 1) (.slice a1 k c1) ([] ++ fixL v k)) := hown1; have BEL2 : Hid (Below (w.heap.size + 1) _ w1) := hbel1; have hs1 : w.heap.size + 2 ≤ w1.heap.size := (by have := hbel1.size; simp at this; omega); clear hown1 hbel1) | (at_builtin; refine append_bytes rfl (.tmp 55) (.tmp 56) rfl (w.heap.size + 1) _ ([] ++ fixL v k) rfl OWN1.out _ _ _ L rfl hlen (HL.out.below (BEL1.out.trans (BEL2.out.mono (by omega))) HT.out) HC.out (k + len) (by simp [fixL_length]) (by omega) (by omega) ?_; intro a2 c2 w2 hown2 hbel2; have OWN2 : Hid (Owned w2 (w.heap.size + 1) (.slice a2 (k + len) c2) ([] ++ fixL v k ++ L)) := hown2; have BEL3 : Hid (Below (w.heap.size + 1) w1 w2) := hbel2; have hs2 : w.heap.size + 2 ≤ w2.heap.size := (by have := hbel2.size; omega); clear hown2 hbel2))
  have hO := OWN2.out.holds
  rw [List.nil_append] at hO
  have hval : val ((fixL v k ++ L).take k) = v := by
    rw [List.take_left' (fixL_length v k), val_fixL v v0, Int.emod_eq_of_lt v0 hv]
  have rb := readFixed_ok (fixL v k ++ L) (k + len) k a2 c2 hO.2.1 (by omega) (bytes_app (fixL_bytes v k) HB.out) w2 hO.1 k1 k8 (by omega)
  rw [hval] at rb
  refine rb.mono ?_
  rintro e w' ⟨rfl, hw⟩; obtain rfl := hw.symm; clear hw rb hval hO hv
  have hsl : ((k : Int) - 1).toNat = k - 1 := by omega
  go_wp2_with fail
  refine (readFixed_end (k - 1) k _ _ _ k1 k8 (by omega)).mono ?_
  rintro e w' ⟨rfl, hw⟩; obtain rfl := hw.symm; clear hw
  go_wp2_with (go_at_call 13; refine (works_true _).mono ?_; rintro e w' ⟨rfl, hwk⟩)
  go_ret
  exact ⟨rfl, (BEL1.out.trans (BEL2.out.mono (by omega))).trans ((BEL3.out.mono (by omega)).trans (Below.mono (by assumption) (by omega)))⟩

theorem numBack_walk (v n : Int) (a : Option Addr) (len cap : Nat) (zs : List Int) (w : World) (w0 : (Lit.int .u64 v).wf = true) (w1 : (Lit.int .i64 n).wf = true) (w2 : IsRow .u8 w a len cap zs) :
    Calls Try.prog 5 #[.int .u64 v, .int .i64 n, .slice a len cap] w fun e w' => e = .returned (.bool true) ∧ Below w.heap.size w w' := by
  obtain ⟨v0, v1⟩ := wf_u64 w0
  obtain ⟨L, hL, hlen, hh, hb, hcap, hreach, hlt, hlc, hcm⟩ := w2.holds
  obtain ⟨k, k1, k8, hk⟩ := width8 n
  rcases Int.lt_or_le v (256 ^ k) with hv | hv
  · exact back_ok v n k a len cap L w v0 k1 k8 hk hv hlen hh hb hcap hreach hlt
  · exact back_big v n k a len cap w v0 v1 k1 k8 hk hv
end Go.Proofs.Ytpolnhpefcmilaa
