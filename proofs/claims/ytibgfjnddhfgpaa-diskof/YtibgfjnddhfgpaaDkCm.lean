/- cmp.Compare of two ints; disk's byBlock. -/
import Derived.Test.YtibgfjnddhfgpaaDkH
import Derived.Shelf.SlSortCmp.WholeK
namespace Go.Proofs.Ytibgfjnddhfgpaa
open Go.ChangeShapes Go.WideShapes Go.ChangeAt Go.RowKit Go.Deep Go.Maps
set_option linter.unusedVariables false
def cI (a b : Int) : Int := if a < b then -1 else if b < a then 1 else 0
theorem cmpInt_is (a b : Int) (w : World) : Calls Try.prog 50 #[.int .i64 a, .int .i64 b] w fun e w' => e = .returned (.int .i64 (cI a b)) ∧ w' = w := by
  have KN : Hid (∀ (a : Int) w, Calls Try.prog 61 #[.int .i64 a] w fun e w' => e = .returned (.bool false) ∧ w' = w) := by
    intro a w
    go_enter Try.func61, Try.ntmps61
    go_wp2
    go_ret
    exact ⟨rfl, rfl⟩
  go_enter Try.func50, Try.ntmps50
  go_wp2_with fail
  refine (KN.out _ _).mono ?_
  rintro e w' ⟨rfl, hw⟩
  obtain rfl := hw.symm
  clear hw
  go_wp2_with fail
  refine (KN.out _ _).mono ?_
  rintro e w' ⟨rfl, hw⟩
  obtain rfl := hw.symm
  clear hw
  by_cases h1 : a < b
  · have H1 : Hid (a < b) := h1
    go_wp2_with fail
    go_ret
    refine ⟨?_, rfl⟩
    have : cI a b = -1 := if_pos H1.out
    rw [this]
    rfl
  · have H1 : Hid (¬ a < b) := h1
    by_cases h2 : b < a
    · have H2 : Hid (b < a) := h2
      go_wp2_with fail
      go_ret
      refine ⟨?_, rfl⟩
      have : cI a b = 1 := by unfold cI; rw [if_neg (by have := H1.out; omega), if_pos (by have := H2.out; omega)]
      rw [this]
      rfl
    · have H2 : Hid (¬ b < a) := h2
      go_wp2_with fail
      go_ret
      refine ⟨?_, rfl⟩
      have : cI a b = 0 := by unfold cI; rw [if_neg (by have := H1.out; omega), if_neg (by have := H2.out; omega)]
      rw [this]
      rfl
theorem two_boxes (w : World) (b1 b2 : Obj) (k : Nat) : ((w.alloc b1).alloc b2).drewN k = Go.Sort.grow (w.drewN k) #[b1, b2] := by
  rw [Go.Sort.alloc_eq_grow, Go.Sort.alloc_eq_grow, Go.Sort.grow_grow]
  rfl
def cfW (x y : Wt) : Int := cI x.1 y.1
set_option maxRecDepth 100000 in
set_option maxHeartbeats 2000000 in
theorem byBlock_raw (xp yp xn yn : Int) (w : World) : Calls Try.prog 45 #[.agg #[.int .i64 xp, .int .i64 xn], .agg #[.int .i64 yp, .int .i64 yn]] w fun e w' => e = .returned (.int .i64 (cI xp yp)) ∧ ∃ q os', w' = Go.Sort.grow (w.drewN q) os' := by
  have K : Hid (∀ W, Calls Try.prog 50 #[.int .i64 xp, .int .i64 yp] W fun e w' => e = .returned (.int .i64 (cI xp yp)) ∧ w' = W) := fun W => cmpInt_is xp yp W
  generalize cI xp yp = r at *
  go_enter Try.func45, Try.ntmps45
  go_wp2_with fail
  refine (K.out _).mono ?_
  rintro e w3 ⟨rfl, hw⟩
  obtain rfl := hw.symm
  clear hw
  go_wp2_with fail
  go_ret
  exact ⟨rfl, 0, _, two_boxes w _ _ 0⟩
theorem byBlock_is (x y : Wt) (w : World) : Calls Try.prog 45 #[.agg (wcl x).toArray, .agg (wcl y).toArray] w fun e w' => e = .returned (.int .i64 (cfW x y)) ∧ ∃ q os', w' = Go.Sort.grow (w.drewN q) os' := byBlock_raw x.1 y.1 x.2 y.2 w
end Go.Proofs.Ytibgfjnddhfgpaa
