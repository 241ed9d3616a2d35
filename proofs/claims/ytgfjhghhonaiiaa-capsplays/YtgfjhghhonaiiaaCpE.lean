/- works -/
import Derived.Test.YtgfjhghhonaiiaaCpD
namespace Go.Proofs.Ytgfjhghhonaiiaa
open Go.ChangeShapes Go.WideShapes Go.ChangeAt Go.RowKit Go.Deep Go.Maps
set_option linter.unusedVariables false
set_option linter.unusedSimpArgs false
abbrev noQ : Qm := fun _ => none
abbrev noG : Gm := fun _ => none
def wkQ : Qm := tnQ noQ 1 100
def wkG : Gm := grG wkQ noG 1 2
theorem wk_e1 : tnE noQ 1 100 = 0 := by decide
theorem wk_e2 : ckE wkQ 1 2 = 0 := by decide
theorem wk_e3 : (wkG (1, 2)).isSome = true := by decide
theorem wk_e4 : (wkG (1, 3)).isSome = false := by decide
theorem wk_e5 : ftE wkQ 1 90 10 = 0 := by decide
theorem wk_e6 : ftE wkQ 1 90 11 = 17 := by decide
set_option maxRecDepth 100000 in
set_option maxHeartbeats 4000000 in
theorem cworks_true (w : World) : Calls Try.prog 14 #[] w fun e w' => e = .returned (.bool true) ∧ Below w.heap.size w w' := by
  have KN : Hid (Calls Try.prog 8 #[] w fun e w' => ∃ b F, e = .returned (.pointer (some ⟨b, 0, none⟩)) ∧ Tab w' F b 0 noQ noG ∧ Below w.heap.size w w' ∧ ∀ k, F k → w.heap.size ≤ k) := new_is w
  go_enter Try.func14, Try.ntmps14
  go_wp2_with fail
  refine KN.out.mono ?_
  rintro e w1 ⟨b, F, rfl, t1, b1, f1⟩
  have HF : Hid (∀ k, F k → w.heap.size ≤ k) := f1
  have HB : Hid (Below w.heap.size w w1) := b1
  have K1 : Hid (Calls Try.prog 10 #[.pointer (some ⟨b, 0, none⟩), .int .i64 1, .int .i64 100] w1 fun e w' => e = .returned (.int .i64 0) ∧ Tab w' F b 1 wkQ noG ∧ Off F w1 w') := by
    have := tenant_is w1 F b 0 noQ noG t1 (by omega) 1 100 (by unfold InI; omega)
    rwa [wk_e1] at this
  clear t1 b1 f1 KN
  go_wp2_with fail
  refine K1.out.mono ?_
  rintro e w2 ⟨rfl, t2, o2⟩
  have HO : Hid (Off F w1 w2) := o2
  have K2 : Hid (Calls Try.prog 11 #[.pointer (some ⟨b, 0, none⟩), .int .i64 1, .int .i64 2] w2 fun e w' => e = .returned (.int .i64 0) ∧ Tab w' F b 2 wkQ wkG ∧ Off F w2 w') := by
    have := grant_is w2 F b 1 wkQ noG t2 (by omega) 1 2
    rwa [wk_e2] at this
  clear t2 o2 K1
  go_wp2_with fail
  refine K2.out.mono ?_
  rintro e w3 ⟨rfl, t3, o3⟩
  have H3 : Hid (Tab w3 F b 2 wkQ wkG ∧ Below w.heap.size w w3) := ⟨t3, ((HO.out.trans o3 (fun k hk => .inl hk)).below (fun k hk => HF.out k hk) HB.out.size |> HB.out.trans)⟩
  have KM : Hid (∀ W, Below w3.heap.size w3 W → Calls Try.prog 17 #[.pointer (some ⟨b, 0, none⟩), .int .i64 1, .int .i64 2] W fun e w' => e = .returned (.bool true) ∧ Below W.heap.size W w') := fun W hW => by
    have := may_is W F b 2 wkQ wkG (H3.out.1.keep hW) 1 2 (by unfold InI; omega) (by unfold InI; omega)
    rwa [wk_e3] at this
  have KM3 : Hid (∀ W, Below w3.heap.size w3 W → Calls Try.prog 17 #[.pointer (some ⟨b, 0, none⟩), .int .i64 1, .int .i64 3] W fun e w' => e = .returned (.bool false) ∧ Below W.heap.size W w') := fun W hW => by
    have := may_is W F b 2 wkQ wkG (H3.out.1.keep hW) 1 3 (by unfold InI; omega) (by unfold InI; omega)
    rwa [wk_e4] at this
  have KF : Hid (∀ W, Below w3.heap.size w3 W → Calls Try.prog 18 #[.pointer (some ⟨b, 0, none⟩), .int .i64 1, .int .i64 90, .int .i64 10] W fun e w' => e = .returned (.int .i64 0) ∧ w' = W) := fun W hW => by
    have := fits_is W F b 2 wkQ wkG (H3.out.1.keep hW) 1 90 10 (by unfold InI; omega) (by unfold InI; omega) (by unfold InI; omega)
    rwa [wk_e5] at this
  have KF2 : Hid (∀ W, Below w3.heap.size w3 W → Calls Try.prog 18 #[.pointer (some ⟨b, 0, none⟩), .int .i64 1, .int .i64 90, .int .i64 11] W fun e w' => e = .returned (.int .i64 17) ∧ w' = W) := fun W hW => by
    have := fits_is W F b 2 wkQ wkG (H3.out.1.keep hW) 1 90 11 (by unfold InI; omega) (by unfold InI; omega) (by unfold InI; omega)
    rwa [wk_e6] at this
  clear t3 o3 K2
  go_wp2_with fail
  refine (KM.out _ (Below.refl _ _)).mono ?_
  rintro e w4 ⟨rfl, b4⟩
  have B4 : Hid (Below w3.heap.size w3 w4) := b4
  clear b4
  go_wp2_with fail
  refine (KM3.out _ B4.out).mono ?_
  rintro e w5 ⟨rfl, b5⟩
  have B5 : Hid (Below w3.heap.size w3 w5) := B4.out.trans (b5.mono B4.out.size)
  clear b5
  go_wp2_with fail
  refine (KF.out _ B5.out).mono ?_
  rintro e w6 ⟨rfl, hw⟩
  obtain rfl := hw.symm
  clear hw
  go_wp2_with fail
  refine (KF2.out _ B5.out).mono ?_
  rintro e w7 ⟨rfl, hw⟩
  obtain rfl := hw.symm
  clear hw
  go_wp2_with fail
  go_ret
  exact ⟨rfl, H3.out.2.trans (B5.out.mono H3.out.2.size)⟩
end Go.Proofs.Ytgfjhghhonaiiaa
