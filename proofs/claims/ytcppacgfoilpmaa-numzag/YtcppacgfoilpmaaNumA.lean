/- Contracts of the functions of package num that only compute: Zig, Zag, within, Add, Sub, Mul: each returns what plain arithmetic says, and leaves the world as it was. -/
import Derived.Test.YtcppacgfoilpmaaNumZ
import Derived.WalkKit
import Derived.ProofKit
import Derived.OpenShut
import Derived.WalkSpells
import Derived.WalkLawsBesides
import Derived.Outline
import Derived.Laws.Externs
import Derived.Laws.MathBits
import Derived.Laws.Bits64
namespace Go.Proofs.Ytcppacgfoilpmaa
open Go.ChangeShapes Go.WideShapes Go.ChangeAt Go.RowKit
set_option linter.unusedVariables false

theorem zag_even (v : Int) (h0 : 0 ≤ v) (h1 : v ≤ 18446744073709551615) (h2 : v % 2 = 0) (w : World) :
    Calls Try.prog 9 #[.int .u64 v] w fun e w' => e = .returned (.int .i64 (v / 2)) ∧ w' = w := by
  go_enter Try.func9, Try.ntmps9
  go_wp2
  go_ret
  exact ⟨rfl, rfl⟩
theorem zag_odd (v : Int) (h0 : 0 ≤ v) (h1 : v ≤ 18446744073709551615) (h2 : v % 2 = 1) (w : World) :
    Calls Try.prog 9 #[.int .u64 v] w fun e w' => e = .returned (.int .i64 (-(v / 2) - 1)) ∧ w' = w := by
  go_enter Try.func9, Try.ntmps9
  go_wp2
  go_ret
  exact ⟨rfl, rfl⟩
theorem within_ok (v : Int) (w : World) :
    Calls Try.prog 19 #[.int .u64 v, .int .u64 0] w fun e w' => e = .returned (.tuple #[.int .u64 v, .int .i64 0]) ∧ w' = w := by
  go_enter Try.func19, Try.ntmps19
  go_wp2
  go_ret2
  exact ⟨rfl, rfl⟩
theorem within_no (v o : Int) (h : (o != 0) = true) (w : World) :
    Calls Try.prog 19 #[.int .u64 v, .int .u64 o] w fun e w' => e = .returned (.tuple #[.int .u64 0, .int .i64 3]) ∧ w' = w := by
  go_enter Try.func19, Try.ntmps19
  go_wp2
  go_ret2
  exact ⟨rfl, rfl⟩

/-! ### math/bits.Add64, Sub64: the model's own entries, at carry 0 -/
theorem add64_in (x y : Int) (hx : 0 ≤ x) (hy : 0 ≤ y) (h : x + y ≤ 18446744073709551615) (w : World) :
    (callFunc 18 #[.int .u64 x, .int .u64 y, .int .u64 0]).run Try.prog w = .ok (.value (.tuple #[.int .u64 (x + y), .int .u64 0])) w := by
  rw [run_callFunc_extern Try.func18 (by kernel_rfl) (by kernel_rfl) (by kernel_rfl) (e := add64Entry) (by kernel_rfl), run_add64 x y 0 hx hy (by omega) (by omega)]
  rw [show (x + y + 0) % 18446744073709551616 = x + y by omega, show (x + y + 0) / 18446744073709551616 = 0 by omega]
  rfl
theorem add64_out (x y : Int) (hx : 0 ≤ x) (hy : 0 ≤ y) (hx1 : x ≤ 18446744073709551615) (hy1 : y ≤ 18446744073709551615) (h : 18446744073709551615 < x + y) :
    ∃ d, ∀ w, (callFunc 18 #[.int .u64 x, .int .u64 y, .int .u64 0]).run Try.prog w = .ok (.value (.tuple #[.int .u64 d, .int .u64 1])) w := by
  refine ⟨(x + y + 0) % 18446744073709551616, fun w => ?_⟩
  rw [run_callFunc_extern Try.func18 (by kernel_rfl) (by kernel_rfl) (by kernel_rfl) (e := add64Entry) (by kernel_rfl), run_add64 x y 0 hx hy (by omega) (by omega)]
  rw [show (x + y + 0) / 18446744073709551616 = 1 by omega]
  rfl
/-- the model's own entry for Sub64, by its place -/
def subRow : Array Value → Sem Value := (Extern.MathBitsCarry.rows[1]'(by decide)).2
theorem run_sub64_0 (x y : Nat) (w : World) :
    (subRow #[.int .u64 x, .int .u64 y, .int .u64 0]).run Try.prog w =
      .ok (.tuple #[.int .u64 (((x + 18446744073709551616 - y - 0) % 18446744073709551616 : Nat) : Int), .int .u64 ((if x < y + 0 then 1 else 0 : Nat) : Int)]) w := rfl
theorem sub64_in (x y : Int) (hy : 0 ≤ y) (h : y ≤ x) (hx1 : x ≤ 18446744073709551615) (w : World) :
    (callFunc 20 #[.int .u64 x, .int .u64 y, .int .u64 0]).run Try.prog w = .ok (.value (.tuple #[.int .u64 (x - y), .int .u64 0])) w := by
  obtain ⟨X, rfl⟩ := Int.eq_ofNat_of_zero_le (show 0 ≤ x by omega)
  obtain ⟨Y, rfl⟩ := Int.eq_ofNat_of_zero_le hy
  rw [run_callFunc_extern Try.func20 (by kernel_rfl) (by kernel_rfl) (by kernel_rfl) (e := subRow) (by kernel_rfl), run_sub64_0 X Y w]
  rw [if_neg (by omega), show (((X + 18446744073709551616 - Y - 0) % 18446744073709551616 : Nat) : Int) = (X : Int) - Y by omega]
  rfl
theorem sub64_out (x y : Int) (hx : 0 ≤ x) (h : x < y) :
    ∃ d, ∀ w, (callFunc 20 #[.int .u64 x, .int .u64 y, .int .u64 0]).run Try.prog w = .ok (.value (.tuple #[.int .u64 d, .int .u64 1])) w := by
  obtain ⟨X, rfl⟩ := Int.eq_ofNat_of_zero_le hx
  obtain ⟨Y, rfl⟩ := Int.eq_ofNat_of_zero_le (show 0 ≤ y by omega)
  refine ⟨(((X + 18446744073709551616 - Y - 0) % 18446744073709551616 : Nat) : Int), fun w => ?_⟩
  rw [run_callFunc_extern Try.func20 (by kernel_rfl) (by kernel_rfl) (by kernel_rfl) (e := subRow) (by kernel_rfl), run_sub64_0 X Y w]
  rw [if_pos (by omega)]
  rfl

theorem add_ok (a b : Int) (a0 : 0 ≤ a) (b0 : 0 ≤ b) (h : a + b ≤ 18446744073709551615) (w : World) :
    Calls Try.prog 12 #[.int .u64 a, .int .u64 b] w fun e w' => e = .returned (.tuple #[.int .u64 (a + b), .int .i64 0]) ∧ w' = w := by
  have k := add64_in a b a0 b0 h
  go_enter Try.func12, Try.ntmps12
  go_wp2_with (go_at_call 19; refine (within_ok _ _).mono ?_; rintro e w' ⟨rfl, rfl⟩)
  go_ret2
  exact ⟨rfl, rfl⟩
theorem add_no (a b : Int) (a0 : 0 ≤ a) (b0 : 0 ≤ b) (a1 : a ≤ 18446744073709551615) (b1 : b ≤ 18446744073709551615) (h : 18446744073709551615 < a + b) (w : World) :
    Calls Try.prog 12 #[.int .u64 a, .int .u64 b] w fun e w' => e = .returned (.tuple #[.int .u64 0, .int .i64 3]) ∧ w' = w := by
  obtain ⟨d, k⟩ := add64_out a b a0 b0 a1 b1 h
  go_enter Try.func12, Try.ntmps12
  go_wp2_with (go_at_call 19; refine (within_no _ 1 rfl _).mono ?_; rintro e w' ⟨rfl, rfl⟩)
  go_ret2
  exact ⟨rfl, rfl⟩
theorem sub_ok (a b : Int) (b0 : 0 ≤ b) (h : b ≤ a) (a1 : a ≤ 18446744073709551615) (w : World) :
    Calls Try.prog 13 #[.int .u64 a, .int .u64 b] w fun e w' => e = .returned (.tuple #[.int .u64 (a - b), .int .i64 0]) ∧ w' = w := by
  have k := sub64_in a b b0 h a1
  go_enter Try.func13, Try.ntmps13
  go_wp2_with (go_at_call 19; refine (within_ok _ _).mono ?_; rintro e w' ⟨rfl, rfl⟩)
  go_ret2
  exact ⟨rfl, rfl⟩
theorem sub_no (a b : Int) (a0 : 0 ≤ a) (h : a < b) (w : World) :
    Calls Try.prog 13 #[.int .u64 a, .int .u64 b] w fun e w' => e = .returned (.tuple #[.int .u64 0, .int .i64 3]) ∧ w' = w := by
  obtain ⟨d, k⟩ := sub64_out a b a0 h
  go_enter Try.func13, Try.ntmps13
  go_wp2_with (go_at_call 19; refine (within_no _ 1 rfl _).mono ?_; rintro e w' ⟨rfl, rfl⟩)
  go_ret2
  exact ⟨rfl, rfl⟩
/-! ### math/bits.Mul64: the school method on halves -/
theorem ret_int2 {k l : IntKind} {a b c d : Int} (h : a = c) (g : b = d) : Ending.returned (.tuple #[.int k a, .int l b]) = .returned (.tuple #[.int k c, .int l d]) := by rw [h, g]
theorem mul64_hi (x y : Int) (hx0 : 0 ≤ x) (hx : x ≤ 18446744073709551615) (hy0 : 0 ≤ y) (hy : y ≤ 18446744073709551615) :
    (IntKind.u64.wrap (IntKind.u64.wrap (IntKind.u64.wrap (x / 4294967296 * (y / 4294967296)) + IntKind.u64.wrap (IntKind.u64.wrap (x / 4294967296 * (y % 4294967296)) + IntKind.u64.wrap (x % 4294967296 * (y % 4294967296)) / 4294967296) / 4294967296) +
      IntKind.u64.wrap (bits BinOp.and IntKind.u64 (IntKind.u64.wrap (IntKind.u64.wrap (x / 4294967296 * (y % 4294967296)) + IntKind.u64.wrap (x % 4294967296 * (y % 4294967296)) / 4294967296)) 4294967295 + IntKind.u64.wrap (x % 4294967296 * (y / 4294967296))) / 4294967296)) = x * y / 18446744073709551616 := by
  have key := mul64_arith x y hx0 (by omega) hy0 (by omega)
  have e4 := fun (z : Int) => and_low32 (z % 18446744073709551616) (by omega) (by omega)
  simp only [IntKind.wrap_u64, e4]
  exact key
theorem mul64 (x y : Int) (hx0 : 0 ≤ x) (hx : x ≤ 18446744073709551615) (hy0 : 0 ≤ y) (hy : y ≤ 18446744073709551615) (w : World) :
    Calls Try.prog 21 #[.int .u64 x, .int .u64 y] w fun e w' => e = .returned (.tuple #[.int .u64 (x * y / 18446744073709551616), .int .u64 (IntKind.u64.wrap (x * y))]) ∧ w' = w := by
  have ex := and_low32 x hx0 (by omega)
  have ey := and_low32 y hy0 (by omega)
  go_enter Try.func21, Try.ntmps21
  go_wp2
  go_ret2
  exact ⟨ret_int2 (mul64_hi x y hx0 hx hy0 hy) rfl, rfl⟩
theorem mul64_in (x y : Int) (hx0 : 0 ≤ x) (hx : x ≤ 18446744073709551615) (hy0 : 0 ≤ y) (hy : y ≤ 18446744073709551615) (h : x * y ≤ 18446744073709551615) (w : World) :
    Calls Try.prog 21 #[.int .u64 x, .int .u64 y] w fun e w' => e = .returned (.tuple #[.int .u64 0, .int .u64 (x * y)]) ∧ w' = w := by
  refine (mul64 x y hx0 hx hy0 hy w).mono ?_
  rintro e w' ⟨rfl, rfl⟩
  have h0 : 0 ≤ x * y := Int.mul_nonneg hx0 hy0
  refine ⟨ret_int2 (by omega) ?_, rfl⟩
  rw [IntKind.wrap_u64]; omega
theorem mul64_out (x y : Int) (hx0 : 0 ≤ x) (hx : x ≤ 18446744073709551615) (hy0 : 0 ≤ y) (hy : y ≤ 18446744073709551615) (h : 18446744073709551615 < x * y) (w : World) :
    Calls Try.prog 21 #[.int .u64 x, .int .u64 y] w fun e w' => ∃ o d, e = .returned (.tuple #[.int .u64 o, .int .u64 d]) ∧ (o != 0) = true ∧ w' = w := by
  refine (mul64 x y hx0 hx hy0 hy w).mono ?_
  rintro e w' ⟨rfl, rfl⟩
  refine ⟨_, _, rfl, ?_, rfl⟩
  simp; omega
theorem mul_ok (a b : Int) (a0 : 0 ≤ a) (a1 : a ≤ 18446744073709551615) (b0 : 0 ≤ b) (b1 : b ≤ 18446744073709551615) (h : a * b ≤ 18446744073709551615) (w : World) :
    Calls Try.prog 14 #[.int .u64 a, .int .u64 b] w fun e w' => e = .returned (.tuple #[.int .u64 (a * b), .int .i64 0]) ∧ w' = w := by
  go_enter Try.func14, Try.ntmps14
  go_wp2_with (first | (go_at_call 21; refine (mul64_in a b a0 a1 b0 b1 h _).mono ?_; rintro e w' ⟨rfl, rfl⟩) | (go_at_call 19; refine (within_ok _ _).mono ?_; rintro e w' ⟨rfl, rfl⟩))
  go_ret2
  exact ⟨rfl, rfl⟩
theorem mul_no (a b : Int) (a0 : 0 ≤ a) (a1 : a ≤ 18446744073709551615) (b0 : 0 ≤ b) (b1 : b ≤ 18446744073709551615) (h : 18446744073709551615 < a * b) (w : World) :
    Calls Try.prog 14 #[.int .u64 a, .int .u64 b] w fun e w' => e = .returned (.tuple #[.int .u64 0, .int .i64 3]) ∧ w' = w := by
  go_enter Try.func14, Try.ntmps14
  go_wp2_with (first | (go_at_call 21; refine (mul64_out a b a0 a1 b0 b1 h _).mono ?_; rintro e w' ⟨o, d, rfl, ho, rfl⟩) | (go_at_call 19; refine (within_no _ _ (by assumption) _).mono ?_; rintro e w' ⟨rfl, rfl⟩))
  go_ret2
  exact ⟨rfl, rfl⟩
end Go.Proofs.Ytcppacgfoilpmaa
