/- Contracts of the document's own answers (veneerref01): Zig, Zag, Wide: plain arithmetic; the world stays. -/
import Derived.Test.YtcppacgfoilpmaaNumD
import Derived.Test.YtcppacgfoilpmaaNumA
namespace Go.Proofs.Ytcppacgfoilpmaa
open Go.ChangeShapes Go.WideShapes Go.ChangeAt Go.RowKit
set_option linter.unusedVariables false
def zigI (n : Int) : Int := if 0 ≤ n then 2 * n else 2 * -(n + 1) + 1
def zagI (v : Int) : Int := if v % 2 = 0 then v / 2 else -(v / 2) - 1
theorem zig_any (n : Int) (h0 : -9223372036854775808 ≤ n) (h1 : n ≤ 9223372036854775807) (w : World) :
    Calls Try.prog 7 #[.int .i64 n] w fun e w' => e = .returned (.int .u64 (zigI n)) ∧ w' = w := by
  unfold zigI
  split
  · exact zig_pos n (by omega) h1 w
  · exact zig_neg n (by omega) h0 w
theorem zag_any (v : Int) (h0 : 0 ≤ v) (h1 : v ≤ 18446744073709551615) (w : World) :
    Calls Try.prog 9 #[.int .u64 v] w fun e w' => e = .returned (.int .i64 (zagI v)) ∧ w' = w := by
  unfold zagI
  split
  · exact zag_even v h0 h1 (by omega) w
  · exact zag_odd v h0 h1 (by omega) w
theorem rzig_any (n : Int) (h0 : -9223372036854775808 ≤ n) (h1 : n ≤ 9223372036854775807) (w : World) :
    Calls Try.prog 8 #[.int .i64 n] w fun e w' => e = .returned (.int .u64 (zigI n)) ∧ w' = w := by
  unfold zigI
  split
  · go_enter Try.func8, Try.ntmps8
    go_wp2
    go_ret
    exact ⟨rfl, rfl⟩
  · go_enter Try.func8, Try.ntmps8
    go_wp2
    go_ret
    exact ⟨rfl, rfl⟩
theorem rzag_any (v : Int) (h0 : 0 ≤ v) (h1 : v ≤ 18446744073709551615) (w : World) :
    Calls Try.prog 10 #[.int .u64 v] w fun e w' => e = .returned (.int .i64 (zagI v)) ∧ w' = w := by
  unfold zagI
  split
  · go_enter Try.func10, Try.ntmps10
    go_wp2
    go_ret
    exact ⟨rfl, rfl⟩
  · have h2 : v % 2 = 1 := by omega
    go_enter Try.func10, Try.ntmps10
    go_wp2
    go_ret
    exact ⟨rfl, rfl⟩
theorem wide_hi (a b : Int) (a0 : 0 ≤ a) (a1 : a ≤ 18446744073709551615) (b0 : 0 ≤ b) (b1 : b ≤ 18446744073709551615) : IntKind.u64.wrap (IntKind.u64.wrap (IntKind.u64.wrap (a / 4294967296 * (b / 4294967296)) + IntKind.u64.wrap ((IntKind.u64.wrap (IntKind.u64.wrap (a / 4294967296 * (b % 4294967296)) + IntKind.u64.wrap ((IntKind.u64.wrap (a % 4294967296 * (b % 4294967296))).tdiv 4294967296))).tdiv 4294967296)) + IntKind.u64.wrap ((IntKind.u64.wrap (IntKind.u64.wrap (a % 4294967296 * (b / 4294967296)) + (IntKind.u64.wrap (IntKind.u64.wrap (a / 4294967296 * (b % 4294967296)) + IntKind.u64.wrap ((IntKind.u64.wrap (a % 4294967296 * (b % 4294967296))).tdiv 4294967296))).tmod 4294967296)).tdiv 4294967296)) = a * b / 18446744073709551616 := by
  have ea : a = a / 4294967296 * 4294967296 + a % 4294967296 := by omega
  have eb : b = b / 4294967296 * 4294967296 + b % 4294967296 := by omega
  have k := split_mul (a / 4294967296) (a % 4294967296) (b / 4294967296) (b % 4294967296)
  rw [← ea, ← eb] at k
  have p1 := prod_bound (a / 4294967296) (b / 4294967296) (by omega) (by omega) (by omega) (by omega)
  have p2 := prod_bound (a / 4294967296) (b % 4294967296) (by omega) (by omega) (by omega) (by omega)
  have p3 := prod_bound (a % 4294967296) (b / 4294967296) (by omega) (by omega) (by omega) (by omega)
  have p4 := prod_bound (a % 4294967296) (b % 4294967296) (by omega) (by omega) (by omega) (by omega)
  have td : ∀ z : Int, (z % 18446744073709551616).tdiv 4294967296 = z % 18446744073709551616 / 4294967296 := fun z => Int.tdiv_eq_ediv_of_nonneg (by omega)
  simp only [IntKind.wrap_u64, tmod_of_emod, td]
  rw [k]
  generalize a / 4294967296 * (b / 4294967296) = P at *
  generalize a / 4294967296 * (b % 4294967296) = Q at *
  generalize a % 4294967296 * (b / 4294967296) = R at *
  generalize a % 4294967296 * (b % 4294967296) = S at *
  clear ea eb k td a0 a1 b0 b1
  omega
theorem wide_lo (a b : Int) (a0 : 0 ≤ a) (a1 : a ≤ 18446744073709551615) (b0 : 0 ≤ b) (b1 : b ≤ 18446744073709551615) : IntKind.u64.wrap (IntKind.u64.wrap ((IntKind.u64.wrap (IntKind.u64.wrap (a % 4294967296 * (b / 4294967296)) + (IntKind.u64.wrap (IntKind.u64.wrap (a / 4294967296 * (b % 4294967296)) + IntKind.u64.wrap ((IntKind.u64.wrap (a % 4294967296 * (b % 4294967296))).tdiv 4294967296))).tmod 4294967296)).tmod 4294967296 * 4294967296) + (IntKind.u64.wrap (a % 4294967296 * (b % 4294967296))).tmod 4294967296) = a * b % 18446744073709551616 := by
  have ea : a = a / 4294967296 * 4294967296 + a % 4294967296 := by omega
  have eb : b = b / 4294967296 * 4294967296 + b % 4294967296 := by omega
  have k := split_mul (a / 4294967296) (a % 4294967296) (b / 4294967296) (b % 4294967296)
  rw [← ea, ← eb] at k
  have p1 := prod_bound (a / 4294967296) (b / 4294967296) (by omega) (by omega) (by omega) (by omega)
  have p2 := prod_bound (a / 4294967296) (b % 4294967296) (by omega) (by omega) (by omega) (by omega)
  have p3 := prod_bound (a % 4294967296) (b / 4294967296) (by omega) (by omega) (by omega) (by omega)
  have p4 := prod_bound (a % 4294967296) (b % 4294967296) (by omega) (by omega) (by omega) (by omega)
  have td : ∀ z : Int, (z % 18446744073709551616).tdiv 4294967296 = z % 18446744073709551616 / 4294967296 := fun z => Int.tdiv_eq_ediv_of_nonneg (by omega)
  simp only [IntKind.wrap_u64, tmod_of_emod, td]
  rw [k]
  generalize a / 4294967296 * (b / 4294967296) = P at *
  generalize a / 4294967296 * (b % 4294967296) = Q at *
  generalize a % 4294967296 * (b / 4294967296) = R at *
  generalize a % 4294967296 * (b % 4294967296) = S at *
  clear ea eb k td a0 a1 b0 b1
  omega
theorem wide_any (a b : Int) (a0 : 0 ≤ a) (a1 : a ≤ 18446744073709551615) (b0 : 0 ≤ b) (b1 : b ≤ 18446744073709551615) (w : World) :
    Calls Try.prog 15 #[.int .u64 a, .int .u64 b] w fun e w' => e = .returned (.tuple #[.int .u64 (a * b / 18446744073709551616), .int .u64 (a * b % 18446744073709551616)]) ∧ w' = w := by
  go_enter Try.func15, Try.ntmps15
  go_wp2
  go_ret2
  exact ⟨ret_int2 (wide_hi a b a0 a1 b0 b1) (wide_lo a b a0 a1 b0 b1), rfl⟩
theorem wide_in (a b : Int) (a0 : 0 ≤ a) (a1 : a ≤ 18446744073709551615) (b0 : 0 ≤ b) (b1 : b ≤ 18446744073709551615) (h : a * b ≤ 18446744073709551615) (w : World) :
    Calls Try.prog 15 #[.int .u64 a, .int .u64 b] w fun e w' => e = .returned (.tuple #[.int .u64 0, .int .u64 (a * b)]) ∧ w' = w := by
  refine (wide_any a b a0 a1 b0 b1 w).mono ?_
  rintro e w' ⟨rfl, rfl⟩
  have h0 : 0 ≤ a * b := Int.mul_nonneg a0 b0
  exact ⟨ret_int2 (by omega) (by omega), rfl⟩
theorem wide_out (a b : Int) (a0 : 0 ≤ a) (a1 : a ≤ 18446744073709551615) (b0 : 0 ≤ b) (b1 : b ≤ 18446744073709551615) (h : 18446744073709551615 < a * b) (w : World) :
    Calls Try.prog 15 #[.int .u64 a, .int .u64 b] w fun e w' => ∃ o d, e = .returned (.tuple #[.int .u64 o, .int .u64 d]) ∧ 0 < o ∧ w' = w := by
  refine (wide_any a b a0 a1 b0 b1 w).mono ?_
  rintro e w' ⟨rfl, rfl⟩
  exact ⟨_, _, rfl, by omega, rfl⟩
end Go.Proofs.Ytcppacgfoilpmaa
