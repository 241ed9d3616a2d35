/- The statements' own works. -/
import Derived.Test.YtegdblacmghghaaDoorTrlC
namespace Go.Proofs.YtegdblacmghghaaDoor
open Go.ChangeShapes Go.WideShapes Go.ChangeAt Go.RowKit Go.Deep
set_option linter.unusedVariables false
theorem cln_works : cln [47, 117, 115, 114, 47, 47, 46, 47, 108, 105, 98, 47, 46, 46, 47, 98, 105, 110, 47] = ([117, 115, 114, 47, 98, 105, 110], 0) := by decide +kernel
theorem in_works1 : inn [117, 115, 114] [117, 115, 114, 47, 98, 105, 110] = true := by decide +kernel
theorem in_works2 : inn [117, 115, 114] [117, 115, 114, 120] = false := by decide +kernel
theorem les_works : les [97, 47, 98] [97, 45, 98] = true := by decide +kernel
theorem works_is (w : World) : Calls Tryd.prog 11 #[] w fun e w' => e = .returned (.bool true) ∧ Below w.heap.size w w' := by
  have K1 : Hid (Calls Tryd.prog 14 #[.string ⟨#[47, 117, 115, 114, 47, 47, 46, 47, 108, 105, 98, 47, 46, 46, 47, 98, 105, 110, 47]⟩] w fun e w' => e = .returned (.tuple #[.string ⟨#[117, 115, 114, 47, 98, 105, 110]⟩, .int .i64 0]) ∧ Below w.heap.size w w') := by
    have := clean_is [47, 117, 115, 114, 47, 47, 46, 47, 108, 105, 98, 47, 46, 46, 47, 98, 105, 110, 47] (by decide) w
    rw [cln_works] at this
    exact this
  have K2 : Hid (∀ w, Calls Tryd.prog 21 #[.string ⟨#[117, 115, 114]⟩, .string ⟨#[117, 115, 114, 47, 98, 105, 110]⟩] w fun e w' => e = .returned (.bool true) ∧ Below w.heap.size w w') := fun w => by
    have := in_is [117, 115, 114] [117, 115, 114, 47, 98, 105, 110] (by decide) w
    rw [in_works1] at this
    exact this
  have K3 : Hid (∀ w, Calls Tryd.prog 21 #[.string ⟨#[117, 115, 114]⟩, .string ⟨#[117, 115, 114, 120]⟩] w fun e w' => e = .returned (.bool false) ∧ Below w.heap.size w w') := fun w => by
    have := in_is [117, 115, 114] [117, 115, 114, 120] (by decide) w
    rw [in_works2] at this
    exact this
  have K4 : Hid (∀ w, Calls Tryd.prog 22 #[.string ⟨#[97, 47, 98]⟩, .string ⟨#[97, 45, 98]⟩] w fun e w' => e = .returned (.bool true) ∧ Below w.heap.size w w') := fun w => by
    have := less_is [97, 47, 98] [97, 45, 98] (by decide) (by decide) w
    rw [les_works] at this
    exact this
  go_enter Tryd.func11, Tryd.ntmps11
  go_wp2_with fail
  refine K1.out.mono ?_
  rintro e w1 ⟨rfl, hb1⟩
  go_wp2_with fail
  refine (K2.out _).mono ?_
  rintro e w2 ⟨rfl, hb2⟩
  go_wp2_with fail
  refine (K3.out _).mono ?_
  rintro e w3 ⟨rfl, hb3⟩
  go_wp2_with fail
  refine (K4.out _).mono ?_
  rintro e w4 ⟨rfl, hb4⟩
  have B2 := hb1.trans (hb2.mono hb1.size)
  have B3 := B2.trans (hb3.mono B2.size)
  have B4 : Hid (Below w.heap.size w w4) := B3.trans (hb4.mono B3.size)
  clear hb1 hb2 hb3 hb4 B2 B3
  go_wp2_with fail
  go_ret
  exact ⟨rfl, B4.out⟩
end Go.Proofs.YtegdblacmghghaaDoor
