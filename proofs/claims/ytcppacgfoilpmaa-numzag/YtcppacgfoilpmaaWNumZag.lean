/- The walk of NumZag. -/
import Derived.Test.YtcppacgfoilpmaaNumE
import Derived.Test.YtcppacgfoilpmaaBase
namespace Go.Proofs.Ytcppacgfoilpmaa
open Go.ChangeShapes Go.WideShapes Go.ChangeAt Go.RowKit
set_option linter.unusedVariables false

theorem zag_zigI (n : Int) : zagI (zigI n) = n := by
  unfold zagI zigI
  split <;> split <;> omega
theorem zig_zagI (v : Int) (h : 0 ≤ v) : zigI (zagI v) = v := by
  unfold zagI zigI
  split <;> split <;> omega
theorem zigI_bd (n : Int) (h0 : -9223372036854775808 ≤ n) (h1 : n ≤ 9223372036854775807) : 0 ≤ zigI n ∧ zigI n ≤ 18446744073709551615 := by
  unfold zigI
  split <;> omega
theorem zagI_bd (v : Int) (h0 : 0 ≤ v) (h1 : v ≤ 18446744073709551615) : -9223372036854775808 ≤ zagI v ∧ zagI v ≤ 9223372036854775807 := by
  unfold zagI
  split <;> omega
theorem numZag_walk (a0 : Int) (a1 : Int) (w0 : (Lit.int .i64 a0).wf = true) (w1 : (Lit.int .u64 a1).wf = true) (w : World) :
    Calls Try.prog 5 #[.int .i64 a0, .int .u64 a1] w fun e w' => e = .returned (.bool true) ∧ Below w.heap.size w w' := by
  obtain ⟨b0, b1⟩ := wf_i64 w0
  obtain ⟨c0, c1⟩ := wf_u64 w1
  obtain ⟨z0, z1⟩ := zigI_bd a0 b0 b1
  obtain ⟨y0, y1⟩ := zagI_bd a1 c0 c1
  have e1 : (zagI (zigI a0) == a0) = true := by rw [zag_zigI]; simp
  have e2 : (zigI (zagI a1) == a1) = true := by rw [zig_zagI a1 c0]; simp
  clear w0 w1
  by_cases s1 : a0 < -1000
  · go_enter Try.func5, Try.ntmps5
    go_wp2_with (first | (go_at_call 7; refine (zig_any _ (by omega) (by omega) _).mono ?_; rintro e w' ⟨rfl, hw⟩; obtain rfl := hw.symm; clear hw) | (go_at_call 9; refine (zag_any _ (by omega) (by omega) _).mono ?_; rintro e w' ⟨rfl, hw⟩; obtain rfl := hw.symm; clear hw) | (go_at_call 11; refine (works_true _).mono ?_; rintro e w' ⟨rfl, hb⟩))
    go_ret
    exact ⟨rfl, by assumption⟩
  · by_cases s2 : 1000 < a0
    · go_enter Try.func5, Try.ntmps5
      go_wp2_with (first | (go_at_call 7; refine (zig_any _ (by omega) (by omega) _).mono ?_; rintro e w' ⟨rfl, hw⟩; obtain rfl := hw.symm; clear hw) | (go_at_call 9; refine (zag_any _ (by omega) (by omega) _).mono ?_; rintro e w' ⟨rfl, hw⟩; obtain rfl := hw.symm; clear hw) | (go_at_call 11; refine (works_true _).mono ?_; rintro e w' ⟨rfl, hb⟩))
      go_ret
      exact ⟨rfl, by assumption⟩
    · have s3 : zigI a0 ≤ 2000 := by unfold zigI; split <;> omega
      have s4 : decide (zigI a0 ≤ 2000) = true := by simpa using s3
      go_enter Try.func5, Try.ntmps5
      go_wp2_with (first | (go_at_call 7; refine (zig_any _ (by omega) (by omega) _).mono ?_; rintro e w' ⟨rfl, hw⟩; obtain rfl := hw.symm; clear hw) | (go_at_call 9; refine (zag_any _ (by omega) (by omega) _).mono ?_; rintro e w' ⟨rfl, hw⟩; obtain rfl := hw.symm; clear hw) | (go_at_call 11; refine (works_true _).mono ?_; rintro e w' ⟨rfl, hb⟩))
      go_ret
      exact ⟨rfl, by assumption⟩
end Go.Proofs.Ytcppacgfoilpmaa
