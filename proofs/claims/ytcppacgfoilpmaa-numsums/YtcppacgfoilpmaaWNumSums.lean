/- The walk of NumSums: sums, differences and products, each within 64 bits or not. -/
import Derived.Test.YtcppacgfoilpmaaNumE
import Derived.Test.YtcppacgfoilpmaaBase
namespace Go.Proofs.Ytcppacgfoilpmaa
open Go.ChangeShapes Go.WideShapes Go.ChangeAt Go.RowKit
set_option linter.unusedVariables false
theorem sums_000 (a b : Int) (a0 : 0 ≤ a) (a1 : a ≤ 18446744073709551615) (b0 : 0 ≤ b) (b1 : b ≤ 18446744073709551615) (hA : a + b ≤ 18446744073709551615) (hS : b ≤ a) (hP : a * b ≤ 18446744073709551615) (w : World) :
    Calls Try.prog 4 #[.int .u64 a, .int .u64 b] w fun e w' => e = .returned (.bool true) ∧ Below w.heap.size w w' := by
  go_enter Try.func4, Try.ntmps4
  go_wp2_with (first | (go_at_call 12; refine (add_ok _ _ a0 b0 hA _).mono ?_; rintro e w' ⟨rfl, hw⟩; obtain rfl := hw.symm; clear hw) | (go_at_call 13; refine (sub_ok _ _ b0 hS a1 _).mono ?_; rintro e w' ⟨rfl, hw⟩; obtain rfl := hw.symm; clear hw) | (go_at_call 14; refine (mul_ok _ _ a0 a1 b0 b1 hP _).mono ?_; rintro e w' ⟨rfl, hw⟩; obtain rfl := hw.symm; clear hw) | (go_at_call 15; refine (wide_in _ _ a0 a1 b0 b1 hP _).mono ?_; rintro e w' ⟨rfl, hw⟩; obtain rfl := hw.symm; clear hw) | (go_at_call 11; refine (works_true _).mono ?_; rintro e w' ⟨rfl, hb⟩))
  go_ret
  exact ⟨rfl, by assumption⟩
theorem sums_001 (a b : Int) (a0 : 0 ≤ a) (a1 : a ≤ 18446744073709551615) (b0 : 0 ≤ b) (b1 : b ≤ 18446744073709551615) (hA : a + b ≤ 18446744073709551615) (hS : b ≤ a) (hP : 18446744073709551615 < a * b) (w : World) :
    Calls Try.prog 4 #[.int .u64 a, .int .u64 b] w fun e w' => e = .returned (.bool true) ∧ Below w.heap.size w w' := by
  go_enter Try.func4, Try.ntmps4
  go_wp2_with (first | (go_at_call 12; refine (add_ok _ _ a0 b0 hA _).mono ?_; rintro e w' ⟨rfl, hw⟩; obtain rfl := hw.symm; clear hw) | (go_at_call 13; refine (sub_ok _ _ b0 hS a1 _).mono ?_; rintro e w' ⟨rfl, hw⟩; obtain rfl := hw.symm; clear hw) | (go_at_call 14; refine (mul_no _ _ a0 a1 b0 b1 hP _).mono ?_; rintro e w' ⟨rfl, hw⟩; obtain rfl := hw.symm; clear hw) | (go_at_call 15; refine (wide_out _ _ a0 a1 b0 b1 hP _).mono ?_; rintro e w' ⟨o, d, rfl, ho, hw⟩; obtain rfl := hw.symm; clear hw) | (go_at_call 11; refine (works_true _).mono ?_; rintro e w' ⟨rfl, hb⟩))
  go_ret
  exact ⟨rfl, by assumption⟩
theorem sums_010 (a b : Int) (a0 : 0 ≤ a) (a1 : a ≤ 18446744073709551615) (b0 : 0 ≤ b) (b1 : b ≤ 18446744073709551615) (hA : a + b ≤ 18446744073709551615) (hS : a < b) (hP : a * b ≤ 18446744073709551615) (w : World) :
    Calls Try.prog 4 #[.int .u64 a, .int .u64 b] w fun e w' => e = .returned (.bool true) ∧ Below w.heap.size w w' := by
  go_enter Try.func4, Try.ntmps4
  go_wp2_with (first | (go_at_call 12; refine (add_ok _ _ a0 b0 hA _).mono ?_; rintro e w' ⟨rfl, hw⟩; obtain rfl := hw.symm; clear hw) | (go_at_call 13; refine (sub_no _ _ a0 hS _).mono ?_; rintro e w' ⟨rfl, hw⟩; obtain rfl := hw.symm; clear hw) | (go_at_call 14; refine (mul_ok _ _ a0 a1 b0 b1 hP _).mono ?_; rintro e w' ⟨rfl, hw⟩; obtain rfl := hw.symm; clear hw) | (go_at_call 15; refine (wide_in _ _ a0 a1 b0 b1 hP _).mono ?_; rintro e w' ⟨rfl, hw⟩; obtain rfl := hw.symm; clear hw) | (go_at_call 11; refine (works_true _).mono ?_; rintro e w' ⟨rfl, hb⟩))
  go_ret
  exact ⟨rfl, by assumption⟩
theorem sums_011 (a b : Int) (a0 : 0 ≤ a) (a1 : a ≤ 18446744073709551615) (b0 : 0 ≤ b) (b1 : b ≤ 18446744073709551615) (hA : a + b ≤ 18446744073709551615) (hS : a < b) (hP : 18446744073709551615 < a * b) (w : World) :
    Calls Try.prog 4 #[.int .u64 a, .int .u64 b] w fun e w' => e = .returned (.bool true) ∧ Below w.heap.size w w' := by
  go_enter Try.func4, Try.ntmps4
  go_wp2_with (first | (go_at_call 12; refine (add_ok _ _ a0 b0 hA _).mono ?_; rintro e w' ⟨rfl, hw⟩; obtain rfl := hw.symm; clear hw) | (go_at_call 13; refine (sub_no _ _ a0 hS _).mono ?_; rintro e w' ⟨rfl, hw⟩; obtain rfl := hw.symm; clear hw) | (go_at_call 14; refine (mul_no _ _ a0 a1 b0 b1 hP _).mono ?_; rintro e w' ⟨rfl, hw⟩; obtain rfl := hw.symm; clear hw) | (go_at_call 15; refine (wide_out _ _ a0 a1 b0 b1 hP _).mono ?_; rintro e w' ⟨o, d, rfl, ho, hw⟩; obtain rfl := hw.symm; clear hw) | (go_at_call 11; refine (works_true _).mono ?_; rintro e w' ⟨rfl, hb⟩))
  go_ret
  exact ⟨rfl, by assumption⟩
theorem sums_100 (a b : Int) (a0 : 0 ≤ a) (a1 : a ≤ 18446744073709551615) (b0 : 0 ≤ b) (b1 : b ≤ 18446744073709551615) (hA : 18446744073709551615 < a + b) (hS : b ≤ a) (hP : a * b ≤ 18446744073709551615) (w : World) :
    Calls Try.prog 4 #[.int .u64 a, .int .u64 b] w fun e w' => e = .returned (.bool true) ∧ Below w.heap.size w w' := by
  go_enter Try.func4, Try.ntmps4
  go_wp2_with (first | (go_at_call 12; refine (add_no _ _ a0 b0 a1 b1 hA _).mono ?_; rintro e w' ⟨rfl, hw⟩; obtain rfl := hw.symm; clear hw) | (go_at_call 13; refine (sub_ok _ _ b0 hS a1 _).mono ?_; rintro e w' ⟨rfl, hw⟩; obtain rfl := hw.symm; clear hw) | (go_at_call 14; refine (mul_ok _ _ a0 a1 b0 b1 hP _).mono ?_; rintro e w' ⟨rfl, hw⟩; obtain rfl := hw.symm; clear hw) | (go_at_call 15; refine (wide_in _ _ a0 a1 b0 b1 hP _).mono ?_; rintro e w' ⟨rfl, hw⟩; obtain rfl := hw.symm; clear hw) | (go_at_call 11; refine (works_true _).mono ?_; rintro e w' ⟨rfl, hb⟩))
  go_ret
  exact ⟨rfl, by assumption⟩
theorem sums_101 (a b : Int) (a0 : 0 ≤ a) (a1 : a ≤ 18446744073709551615) (b0 : 0 ≤ b) (b1 : b ≤ 18446744073709551615) (hA : 18446744073709551615 < a + b) (hS : b ≤ a) (hP : 18446744073709551615 < a * b) (w : World) :
    Calls Try.prog 4 #[.int .u64 a, .int .u64 b] w fun e w' => e = .returned (.bool true) ∧ Below w.heap.size w w' := by
  go_enter Try.func4, Try.ntmps4
  go_wp2_with (first | (go_at_call 12; refine (add_no _ _ a0 b0 a1 b1 hA _).mono ?_; rintro e w' ⟨rfl, hw⟩; obtain rfl := hw.symm; clear hw) | (go_at_call 13; refine (sub_ok _ _ b0 hS a1 _).mono ?_; rintro e w' ⟨rfl, hw⟩; obtain rfl := hw.symm; clear hw) | (go_at_call 14; refine (mul_no _ _ a0 a1 b0 b1 hP _).mono ?_; rintro e w' ⟨rfl, hw⟩; obtain rfl := hw.symm; clear hw) | (go_at_call 15; refine (wide_out _ _ a0 a1 b0 b1 hP _).mono ?_; rintro e w' ⟨o, d, rfl, ho, hw⟩; obtain rfl := hw.symm; clear hw) | (go_at_call 11; refine (works_true _).mono ?_; rintro e w' ⟨rfl, hb⟩))
  go_ret
  exact ⟨rfl, by assumption⟩
theorem sums_110 (a b : Int) (a0 : 0 ≤ a) (a1 : a ≤ 18446744073709551615) (b0 : 0 ≤ b) (b1 : b ≤ 18446744073709551615) (hA : 18446744073709551615 < a + b) (hS : a < b) (hP : a * b ≤ 18446744073709551615) (w : World) :
    Calls Try.prog 4 #[.int .u64 a, .int .u64 b] w fun e w' => e = .returned (.bool true) ∧ Below w.heap.size w w' := by
  go_enter Try.func4, Try.ntmps4
  go_wp2_with (first | (go_at_call 12; refine (add_no _ _ a0 b0 a1 b1 hA _).mono ?_; rintro e w' ⟨rfl, hw⟩; obtain rfl := hw.symm; clear hw) | (go_at_call 13; refine (sub_no _ _ a0 hS _).mono ?_; rintro e w' ⟨rfl, hw⟩; obtain rfl := hw.symm; clear hw) | (go_at_call 14; refine (mul_ok _ _ a0 a1 b0 b1 hP _).mono ?_; rintro e w' ⟨rfl, hw⟩; obtain rfl := hw.symm; clear hw) | (go_at_call 15; refine (wide_in _ _ a0 a1 b0 b1 hP _).mono ?_; rintro e w' ⟨rfl, hw⟩; obtain rfl := hw.symm; clear hw) | (go_at_call 11; refine (works_true _).mono ?_; rintro e w' ⟨rfl, hb⟩))
  go_ret
  exact ⟨rfl, by assumption⟩
theorem sums_111 (a b : Int) (a0 : 0 ≤ a) (a1 : a ≤ 18446744073709551615) (b0 : 0 ≤ b) (b1 : b ≤ 18446744073709551615) (hA : 18446744073709551615 < a + b) (hS : a < b) (hP : 18446744073709551615 < a * b) (w : World) :
    Calls Try.prog 4 #[.int .u64 a, .int .u64 b] w fun e w' => e = .returned (.bool true) ∧ Below w.heap.size w w' := by
  go_enter Try.func4, Try.ntmps4
  go_wp2_with (first | (go_at_call 12; refine (add_no _ _ a0 b0 a1 b1 hA _).mono ?_; rintro e w' ⟨rfl, hw⟩; obtain rfl := hw.symm; clear hw) | (go_at_call 13; refine (sub_no _ _ a0 hS _).mono ?_; rintro e w' ⟨rfl, hw⟩; obtain rfl := hw.symm; clear hw) | (go_at_call 14; refine (mul_no _ _ a0 a1 b0 b1 hP _).mono ?_; rintro e w' ⟨rfl, hw⟩; obtain rfl := hw.symm; clear hw) | (go_at_call 15; refine (wide_out _ _ a0 a1 b0 b1 hP _).mono ?_; rintro e w' ⟨o, d, rfl, ho, hw⟩; obtain rfl := hw.symm; clear hw) | (go_at_call 11; refine (works_true _).mono ?_; rintro e w' ⟨rfl, hb⟩))
  go_ret
  exact ⟨rfl, by assumption⟩
theorem numSums_walk (a b : Int) (w0 : (Lit.int .u64 a).wf = true) (w1 : (Lit.int .u64 b).wf = true) (w : World) :
    Calls Try.prog 4 #[.int .u64 a, .int .u64 b] w fun e w' => e = .returned (.bool true) ∧ Below w.heap.size w w' := by
  obtain ⟨a0, a1⟩ := wf_u64 w0
  obtain ⟨b0, b1⟩ := wf_u64 w1
  rcases Int.lt_or_le 18446744073709551615 (a + b) with hA | hA <;> rcases Int.lt_or_le a b with hS | hS <;> rcases Int.lt_or_le 18446744073709551615 (a * b) with hP | hP
  · exact sums_111 a b a0 a1 b0 b1 hA hS hP w
  · exact sums_110 a b a0 a1 b0 b1 hA hS hP w
  · exact sums_101 a b a0 a1 b0 b1 hA hS hP w
  · exact sums_100 a b a0 a1 b0 b1 hA hS hP w
  · exact sums_011 a b a0 a1 b0 b1 hA hS hP w
  · exact sums_010 a b a0 a1 b0 b1 hA hS hP w
  · exact sums_001 a b a0 a1 b0 b1 hA hS hP w
  · exact sums_000 a b a0 a1 b0 b1 hA hS hP w
end Go.Proofs.Ytcppacgfoilpmaa
