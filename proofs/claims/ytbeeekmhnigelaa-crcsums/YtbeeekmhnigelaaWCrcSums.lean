/- The walk of CrcSums. -/
import Derived.Test.YtbeeekmhnigelaaCrcB
namespace Go.Proofs.Ytbeeekmhnigelaa
open Go.ChangeShapes Go.WideShapes Go.ChangeAt Go.RowKit Go.Deep
set_option linter.unusedVariables false
set_option maxHeartbeats 1000000 in
theorem crcSums_walk (a : Option Addr) (len cap : Nat) (zs : List Int) (s : Int) (w : World) (w0 : IsRow .u8 w a len cap zs) (w1 : (Lit.int .u32 s).wf = true) :
    Calls Try.prog 3 #[.slice a len cap, .int .u32 s] w fun e w' => e = .returned (.bool true) ∧ Below w.heap.size w w' := by
  obtain ⟨s0, s1⟩ := bounds_u32 w1
  obtain ⟨S, rfl⟩ := Int.eq_ofNat_of_zero_le s0
  obtain ⟨L, hL, hlen, hh, hb, hcap, hreach, hlt, hlc, hcm⟩ := w0.holds
  have HL : Hid (Holds w a L) := hh
  have HC : Hid (a = none → cap = 0) := hcap
  have HT : Hid (∀ x, a = some x → L ≠ [] → x.block < w.heap.size) := hlt
  have HB : Hid (IsBytes L) := hb
  clear w0 w1 hL hh hcap hlt hb
  go_enter Try.func3, Try.ntmps3
  go_wp2_with (first | (at_builtin; refine append_bytes rfl (.tmp 6) (.tmp 7) rfl w.heap.size _ [] rfl (owned_empty w w.heap.size (Nat.le_refl _)) _ _ _ L rfl hlen (HL.out.below ((Below.refl _ _).alloc (Nat.le_refl _) _) HT.out) HC.out len (by simp) (by omega) (by simp) ?_; intro a3 c3 w3 hown3 hbel3; have OWN3 : Hid (Owned w3 w.heap.size (.slice a3 len c3) ([] ++ L)) := hown3; have B3 : Hid (Below w.heap.size _ w3) := hbel3; have hs3 : w.heap.size + 1 ≤ w3.heap.size := (by have := hbel3.size; simp at this; omega); clear hown3 hbel3) | (at_builtin; refine append_bytes rfl (.tmp 8) (.tmp 9) rfl w.heap.size _ ([] ++ L) rfl (OWN3.out.alloc _) _ _ _ [90] rfl rfl (holds_one w3 90) (fun h => by simp at h) (len + 1) (by simp [hlen]) (by omega) (by simp; omega) ?_; intro a4 c4 w4 hown4 hbel4; have OWN4 : Hid (Owned w4 w.heap.size (.slice a4 (len + 1) c4) ([] ++ L ++ [90])) := hown4; have B4 : Hid (Below w.heap.size _ w4) := hbel4; have hs4 : w3.heap.size + 1 ≤ w4.heap.size := (by have := hbel4.size; simp at this; omega); obtain ⟨hc4, hc5⟩ := hown4.cap; clear hown4 hbel4))
  have hO := OWN4.out.holds
  rw [List.nil_append] at hO
  have hpre : Holds w4 a4 L := hO.1.pre
  have bw : Below w.heap.size w w4 := ((Below.refl _ _).alloc (Nat.le_refl _) _).trans (B3.out.trans (((Below.refl _ _).alloc (by omega) _).trans B4.out))
  have HLW : Holds w4 a L := HL.out.below bw HT.out
  have cL := conv_str HLW len cap hlen
  have c4' := conv_str hO.1 (len + 1) c4 hO.2.1
  have BW : Hid (Below w.heap.size w w4) := bw
  have k1 : Hid (Calls Try.prog 9 #[.slice a4 len c4] w4 fun e w' => e = .returned (.int .u32 (cmore 0 L : Nat)) ∧ w' = w4) := sum_is L len a4 c4 hlen (by omega) HB.out w4 hpre
  have k2 : Hid (Calls Try.prog 10 #[.int .u32 0, .slice a len cap] w4 fun e w' => e = .returned (.int .u32 (cmore 0 L : Nat)) ∧ w' = w4) := rmore_is 0 (by decide) L len a cap hlen (by omega) HB.out w4 HLW
  have k3 : Hid (Calls Try.prog 11 #[.int .u32 S, .slice a4 len c4] w4 fun e w' => e = .returned (.int .u32 (cmore S L : Nat)) ∧ w' = w4) := more_is S (by omega) L len a4 c4 hlen (by omega) HB.out w4 hpre
  have k4 : Hid (Calls Try.prog 10 #[.int .u32 S, .slice a len cap] w4 fun e w' => e = .returned (.int .u32 (cmore S L : Nat)) ∧ w' = w4) := rmore_is S (by omega) L len a cap hlen (by omega) HB.out w4 HLW
  have hw4 : w.heap.size ≤ w4.heap.size := bw.size
  have fs : (strOfNums L).size = len := by rw [strOfNums_size, hlen]
  have fe : (strOfNums (L ++ [90])).toList = (strOfNums L ++ ⟨#[90]⟩).toList := str_snoc L 90
  clear bw hpre hO HLW OWN3 OWN4 B3 B4
  generalize cmore 0 L = x at *
  generalize cmore S L = y at *
  refine k1.out.mono ?_
  rintro e w' ⟨rfl, hw⟩; obtain rfl := hw.symm; clear hw
  go_wp2_with fail
  refine k2.out.mono ?_
  rintro e w' ⟨rfl, hw⟩; obtain rfl := hw.symm; clear hw
  go_wp2_with fail
  refine k3.out.mono ?_
  rintro e w' ⟨rfl, hw⟩; obtain rfl := hw.symm; clear hw
  go_wp2_with fail
  refine k4.out.mono ?_
  rintro e w' ⟨rfl, hw⟩; obtain rfl := hw.symm; clear hw
  go_wp2_with (go_at_call 12; refine (works_true _).mono ?_; rintro e w' ⟨rfl, hwk⟩)
  go_ret
  exact ⟨rfl, BW.out.trans (Below.mono (by assumption) hw4)⟩
end Go.Proofs.Ytbeeekmhnigelaa
