/- Contract of the statements' own 'works': it answers true, and writes nothing that was there. -/
import Derived.Test.YtcppacgfoilpmaaNumZ
import Derived.Test.YtcppacgfoilpmaaNumB
import Derived.Test.YtcppacgfoilpmaaNumC
import Derived.Laws.BytesArg
namespace Go.Proofs.Ytcppacgfoilpmaa
open Go.ChangeShapes Go.WideShapes Go.ChangeAt Go.RowKit Go.Deep
set_option linter.unusedVariables false

theorem fix258 : fixA 258 3 3 = #[.int .u8 0, .int .u8 1, .int .u8 2] := by kernel_rfl
theorem rv172 : rv [172, 2, 7] 0 0 = (300, 2, 0) := by decide
theorem readVar_ex (w : World) (b : Nat) (hb : b = w.heap.size) :
    Calls Try.prog 17 #[.slice (some ⟨b, 0, none⟩) 3 3] (w.alloc (.cells #[.int .u8 172, .int .u8 2, .int .u8 7] 5)) fun e w' =>
      e = .returned (.tuple #[.int .u64 300, .int .i64 2, .int .i64 0]) ∧ w' = w.alloc (.cells #[.int .u8 172, .int .u8 2, .int .u8 7] 5) := by
  subst hb
  have h := readVar_any [172, 2, 7] w.heap.size 0 3 3 rfl (by decide) (by decide) (w.alloc (.cells #[.int .u8 172, .int .u8 2, .int .u8 7] 5)) (by
    intro i hi
    rcases (by omega : i = 0 ∨ i = 1 ∨ i = 2) with rfl | rfl | rfl <;> simp [go_sem])
  rw [rv172] at h
  exact h
theorem works_true (w : World) : Calls Try.prog 11 #[] w fun e w' => e = .returned (.bool true) ∧ Below w.heap.size w w' := by
  have k1 := fixed_ok 258 3 (by decide) (by decide) (by decide) (by decide)
  rw [fix258] at k1
  have H1 : Hid _ := k1
  clear k1
  have hcv := run_convert_bytes_arg (P := Try.prog) ((w.alloc (.cells #[.int .u8 0, .int .u8 1, .int .u8 2] 5)).alloc (.cells #[.int .u8 172, .int .u8 2, .int .u8 7] 5)) 33 5 Try.underlying33 Try.underlying5 w.heap.size 0 3 3 [0, 1, 2] rfl
    (by intro i hi; rcases (by omega : i = 0 ∨ i = 1 ∨ i = 2) with rfl | rfl | rfl <;> simp [go_sem]) 9 Try.underlying9
  rw [show strOfNums [0, 1, 2] = ⟨#[0, 1, 2]⟩ from rfl] at hcv
  go_enter Try.func11, Try.ntmps11
  go_wp2_with (first | (go_at_call 16; refine (H1.out _).mono ?_; rintro e w' ⟨rfl, hw⟩; obtain rfl := hw.symm; clear hw) | (go_at_call 17; refine (readVar_ex _ _ (by simp [go_sem])).mono ?_; rintro e w' ⟨rfl, hw⟩; obtain rfl := hw.symm; clear hw) | (go_at_call 7; refine (zig_neg _ (by decide) (by decide) _).mono ?_; rintro e w' ⟨rfl, hw⟩; obtain rfl := hw.symm; clear hw))
  go_ret
  exact ⟨rfl, ((Below.refl _ _).alloc (Nat.le_refl _) _).alloc (by simp) _⟩
end Go.Proofs.Ytcppacgfoilpmaa
