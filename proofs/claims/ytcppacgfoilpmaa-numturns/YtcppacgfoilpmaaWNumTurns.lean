/- The walk of NumTurns. -/
import Derived.Test.YtcppacgfoilpmaaNumE
import Derived.Test.YtcppacgfoilpmaaBase
namespace Go.Proofs.Ytcppacgfoilpmaa
open Go.ChangeShapes Go.WideShapes Go.ChangeAt Go.RowKit
set_option linter.unusedVariables false
theorem turns_00 (a b : Int) (a0 : 0 ≤ a) (a1 : a ≤ 18446744073709551615) (b0 : 0 ≤ b) (b1 : b ≤ 18446744073709551615) (hA : a + b ≤ 18446744073709551615) (hP : a * b ≤ 18446744073709551615) (w : World) :
    Calls Try.prog 6 #[.int .u64 a, .int .u64 b] w fun e w' => e = .returned (.bool true) ∧ Below w.heap.size w w' := by
  have e1 : (a + b != b + a) = false := by rw [Int.add_comm]; simp
  have e2 : (a * b != b * a) = false := by rw [Int.mul_comm]; simp
  have e3 : (a + b - b != a) = false := by simp
  have hQ : b * a ≤ 18446744073709551615 := by rw [Int.mul_comm]; exact hP
  go_enter Try.func6, Try.ntmps6
  go_wp2_with (first | (go_at_call 12; refine (add_ok _ _ (by omega) (by omega) (by omega) _).mono ?_; rintro e w' ⟨rfl, hw⟩; obtain rfl := hw.symm; clear hw) | (go_at_call 13; refine (sub_ok _ _ (by omega) (by omega) (by omega) _).mono ?_; rintro e w' ⟨rfl, hw⟩; obtain rfl := hw.symm; clear hw) | (go_at_call 14; refine (mul_ok _ _ (by omega) (by omega) (by omega) (by omega) (by assumption) _).mono ?_; rintro e w' ⟨rfl, hw⟩; obtain rfl := hw.symm; clear hw) | (go_at_call 11; refine (works_true _).mono ?_; rintro e w' ⟨rfl, hb⟩))
  go_ret
  exact ⟨rfl, by assumption⟩
theorem turns_01 (a b : Int) (a0 : 0 ≤ a) (a1 : a ≤ 18446744073709551615) (b0 : 0 ≤ b) (b1 : b ≤ 18446744073709551615) (hA : a + b ≤ 18446744073709551615) (hP : 18446744073709551615 < a * b) (w : World) :
    Calls Try.prog 6 #[.int .u64 a, .int .u64 b] w fun e w' => e = .returned (.bool true) ∧ Below w.heap.size w w' := by
  have e1 : (a + b != b + a) = false := by rw [Int.add_comm]; simp
  have e2 : (a * b != b * a) = false := by rw [Int.mul_comm]; simp
  have e3 : (a + b - b != a) = false := by simp
  have hQ : 18446744073709551615 < b * a := by rw [Int.mul_comm]; exact hP
  go_enter Try.func6, Try.ntmps6
  go_wp2_with (first | (go_at_call 12; refine (add_ok _ _ (by omega) (by omega) (by omega) _).mono ?_; rintro e w' ⟨rfl, hw⟩; obtain rfl := hw.symm; clear hw) | (go_at_call 13; refine (sub_ok _ _ (by omega) (by omega) (by omega) _).mono ?_; rintro e w' ⟨rfl, hw⟩; obtain rfl := hw.symm; clear hw) | (go_at_call 14; refine (mul_no _ _ (by omega) (by omega) (by omega) (by omega) (by assumption) _).mono ?_; rintro e w' ⟨rfl, hw⟩; obtain rfl := hw.symm; clear hw) | (go_at_call 11; refine (works_true _).mono ?_; rintro e w' ⟨rfl, hb⟩))
  go_ret
  exact ⟨rfl, by assumption⟩
theorem turns_10 (a b : Int) (a0 : 0 ≤ a) (a1 : a ≤ 18446744073709551615) (b0 : 0 ≤ b) (b1 : b ≤ 18446744073709551615) (hA : 18446744073709551615 < a + b) (hP : a * b ≤ 18446744073709551615) (w : World) :
    Calls Try.prog 6 #[.int .u64 a, .int .u64 b] w fun e w' => e = .returned (.bool true) ∧ Below w.heap.size w w' := by
  have e1 : (a + b != b + a) = false := by rw [Int.add_comm]; simp
  have e2 : (a * b != b * a) = false := by rw [Int.mul_comm]; simp
  have e3 : (a + b - b != a) = false := by simp
  have hQ : b * a ≤ 18446744073709551615 := by rw [Int.mul_comm]; exact hP
  go_enter Try.func6, Try.ntmps6
  go_wp2_with (first | (go_at_call 12; refine (add_no _ _ (by omega) (by omega) (by omega) (by omega) (by omega) _).mono ?_; rintro e w' ⟨rfl, hw⟩; obtain rfl := hw.symm; clear hw) | (go_at_call 13; refine (sub_ok _ _ (by omega) (by omega) (by omega) _).mono ?_; rintro e w' ⟨rfl, hw⟩; obtain rfl := hw.symm; clear hw) | (go_at_call 14; refine (mul_ok _ _ (by omega) (by omega) (by omega) (by omega) (by assumption) _).mono ?_; rintro e w' ⟨rfl, hw⟩; obtain rfl := hw.symm; clear hw) | (go_at_call 11; refine (works_true _).mono ?_; rintro e w' ⟨rfl, hb⟩))
  go_ret
  exact ⟨rfl, by assumption⟩
theorem turns_11 (a b : Int) (a0 : 0 ≤ a) (a1 : a ≤ 18446744073709551615) (b0 : 0 ≤ b) (b1 : b ≤ 18446744073709551615) (hA : 18446744073709551615 < a + b) (hP : 18446744073709551615 < a * b) (w : World) :
    Calls Try.prog 6 #[.int .u64 a, .int .u64 b] w fun e w' => e = .returned (.bool true) ∧ Below w.heap.size w w' := by
  have e1 : (a + b != b + a) = false := by rw [Int.add_comm]; simp
  have e2 : (a * b != b * a) = false := by rw [Int.mul_comm]; simp
  have e3 : (a + b - b != a) = false := by simp
  have hQ : 18446744073709551615 < b * a := by rw [Int.mul_comm]; exact hP
  go_enter Try.func6, Try.ntmps6
  go_wp2_with (first | (go_at_call 12; refine (add_no _ _ (by omega) (by omega) (by omega) (by omega) (by omega) _).mono ?_; rintro e w' ⟨rfl, hw⟩; obtain rfl := hw.symm; clear hw) | (go_at_call 13; refine (sub_ok _ _ (by omega) (by omega) (by omega) _).mono ?_; rintro e w' ⟨rfl, hw⟩; obtain rfl := hw.symm; clear hw) | (go_at_call 14; refine (mul_no _ _ (by omega) (by omega) (by omega) (by omega) (by assumption) _).mono ?_; rintro e w' ⟨rfl, hw⟩; obtain rfl := hw.symm; clear hw) | (go_at_call 11; refine (works_true _).mono ?_; rintro e w' ⟨rfl, hb⟩))
  go_ret
  exact ⟨rfl, by assumption⟩
theorem numTurns_walk (a b : Int) (w0 : (Lit.int .u64 a).wf = true) (w1 : (Lit.int .u64 b).wf = true) (w : World) :
    Calls Try.prog 6 #[.int .u64 a, .int .u64 b] w fun e w' => e = .returned (.bool true) ∧ Below w.heap.size w w' := by
  obtain ⟨a0, a1⟩ := wf_u64 w0
  obtain ⟨b0, b1⟩ := wf_u64 w1
  rcases Int.lt_or_le 18446744073709551615 (a + b) with hA | hA <;> rcases Int.lt_or_le 18446744073709551615 (a * b) with hP | hP
  · exact turns_11 a b a0 a1 b0 b1 hA hP w
  · exact turns_10 a b a0 a1 b0 b1 hA hP w
  · exact turns_01 a b a0 a1 b0 b1 hA hP w
  · exact turns_00 a b a0 a1 b0 b1 hA hP w
end Go.Proofs.Ytcppacgfoilpmaa
