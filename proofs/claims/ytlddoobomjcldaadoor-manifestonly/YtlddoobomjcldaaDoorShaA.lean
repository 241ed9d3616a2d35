/- Rows of numbers of 32 bits; contracts of sha.rot and of one step of a block. -/
import Derived.Test.YtlddoobomjcldaaDoorShaM
import Derived.Test.YtlddoobomjcldaaDoorMem
import Derived.Deep.WholeRow
import Derived.Deep.MidRow
import Derived.Deep.RegionWith
import Derived.Deep.RegionHeld3
import Derived.Lib.SlBytesConst
namespace Go.Proofs.YtlddoobomjcldaaDoor
open Go.ChangeShapes Go.WideShapes Go.ChangeAt Go.RowKit Go.Deep
set_option linter.unusedVariables false
theorem add32 (a b : Nat) : ((a : Int) + (b : Int)) % 4294967296 = ((ad a b : Nat) : Int) := by simp [ad]
theorem mod_of_lt {a : Nat} (h : a < 4294967296) : a % 4294967296 = a := Nat.mod_eq_of_lt h
theorem xor32 (a b : Nat) (ha : a < 4294967296) (hb : b < 4294967296) : bits .xor .u32 (a : Int) (b : Int) = ((xo a b : Nat) : Int) := by
  rw [u32_xor_nat a b ha hb]
  have h : a ^^^ b < 2 ^ 32 := Nat.xor_lt_two_pow (by simpa using ha) (by simpa using hb)
  unfold xo
  rw [Nat.mod_eq_of_lt (by simpa using h)]
theorem and32 (a b : Nat) (ha : a < 4294967296) (hb : b < 4294967296) : bits .and .u32 (a : Int) (b : Int) = ((an a b : Nat) : Int) := by
  rw [u32_and_nat a b ha hb]
  have h : a &&& b < 2 ^ 32 := Nat.and_lt_two_pow a (by simpa using hb)
  unfold an
  rw [Nat.mod_eq_of_lt (by simpa using h)]
theorem or_add (x n : Nat) (hx : x < 4294967296) (hn : n ≤ 32) : (x * 2 ^ (32 - n) % 4294967296) ||| (x / 2 ^ n) = rotr x n := by
  have e32 : (4294967296 : Nat) = 2 ^ 32 := by decide
  have hsplit : (2 : Nat) ^ 32 = 2 ^ n * 2 ^ (32 - n) := by rw [← Nat.pow_add]; congr 1; omega
  have hlow : x / 2 ^ n < 2 ^ (32 - n) := by
    rw [Nat.div_lt_iff_lt_mul (Nat.two_pow_pos n), Nat.mul_comm, ← hsplit, ← e32]; exact hx
  have hhigh : x * 2 ^ (32 - n) % 4294967296 = (x % 2 ^ n) * 2 ^ (32 - n) := by
    rw [e32, hsplit, Nat.mul_mod_mul_right]
  have hor : (x % 2 ^ n) * 2 ^ (32 - n) ||| (x / 2 ^ n) = (x % 2 ^ n) * 2 ^ (32 - n) + x / 2 ^ n := by
    have := Nat.shiftLeft_add_eq_or_of_lt hlow (x % 2 ^ n)
    rw [Nat.shiftLeft_eq] at this
    exact this.symm
  have hm : x % 2 ^ n < 2 ^ n := Nat.mod_lt _ (Nat.two_pow_pos n)
  have hsum : (x % 2 ^ n) * 2 ^ (32 - n) + x / 2 ^ n < 4294967296 := by
    have h1 : (x % 2 ^ n + 1) * 2 ^ (32 - n) ≤ 2 ^ n * 2 ^ (32 - n) := Nat.mul_le_mul_right _ hm
    rw [← hsplit, ← e32, Nat.add_mul, Nat.one_mul] at h1
    omega
  unfold rotr ad
  rw [hhigh, hor, Nat.add_comm (x / 2 ^ n), Nat.mod_eq_of_lt hsum]
theorem shl_lt (x n : Nat) : x * 2 ^ n % 4294967296 < 4294967296 := Nat.mod_lt _ (by decide)
theorem shr_lt (x n : Nat) (h : x < 4294967296) : x / 2 ^ n < 4294967296 := Nat.lt_of_le_of_lt (Nat.div_le_self _ _) h
theorem orI (x n : Nat) (hx : x < 4294967296) (hn : n ≤ 32) : bits .or .u32 ((x : Int) * 2 ^ (32 - n) % 4294967296) ((x : Int) / 2 ^ n) = ((rotr x n : Nat) : Int) := by
  have e1 : (x : Int) * 2 ^ (32 - n) % 4294967296 = ((x * 2 ^ (32 - n) % 4294967296 : Nat) : Int) := by simp
  have e2 : (x : Int) / 2 ^ n = ((x / 2 ^ n : Nat) : Int) := by simp
  rw [e1, e2, u32_or_nat _ _ (shl_lt _ _) (shr_lt x n hx), or_add x n hx hn]
theorem rotateLeft_is (x n : Nat) (hx : x < 4294967296) (hn : n ∈ [2, 6, 7, 11, 13, 17, 18, 19, 22, 25]) (w : World) :
    Calls Tryd.prog 115 #[.int .u32 x, .int .i64 (-(n : Int))] w fun e w' => e = .returned (.int .u32 (rotr x n : Nat)) ∧ w' = w := by
  have k : Hid (∀ n, n ≤ 32 → bits .or .u32 ((x : Int) * 2 ^ (32 - n) % 4294967296) ((x : Int) / 2 ^ n) = ((rotr x n : Nat) : Int)) := fun n h => orI x n hx h
  simp only [List.mem_cons, List.not_mem_nil, or_false] at hn
  rcases hn with rfl | rfl | rfl | rfl | rfl | rfl | rfl | rfl | rfl | rfl
  · have ea : bits .and .u64 (IntKind.u64.wrap (-2)) 31 = 30 := by decide
    go_enter Tryd.func115, Tryd.ntmps115
    go_wp2
    go_ret
    exact ⟨by have := k.out 2 (by decide); simpa using this, rfl⟩
  · have ea : bits .and .u64 (IntKind.u64.wrap (-6)) 31 = 26 := by decide
    go_enter Tryd.func115, Tryd.ntmps115
    go_wp2
    go_ret
    exact ⟨by have := k.out 6 (by decide); simpa using this, rfl⟩
  · have ea : bits .and .u64 (IntKind.u64.wrap (-7)) 31 = 25 := by decide
    go_enter Tryd.func115, Tryd.ntmps115
    go_wp2
    go_ret
    exact ⟨by have := k.out 7 (by decide); simpa using this, rfl⟩
  · have ea : bits .and .u64 (IntKind.u64.wrap (-11)) 31 = 21 := by decide
    go_enter Tryd.func115, Tryd.ntmps115
    go_wp2
    go_ret
    exact ⟨by have := k.out 11 (by decide); simpa using this, rfl⟩
  · have ea : bits .and .u64 (IntKind.u64.wrap (-13)) 31 = 19 := by decide
    go_enter Tryd.func115, Tryd.ntmps115
    go_wp2
    go_ret
    exact ⟨by have := k.out 13 (by decide); simpa using this, rfl⟩
  · have ea : bits .and .u64 (IntKind.u64.wrap (-17)) 31 = 15 := by decide
    go_enter Tryd.func115, Tryd.ntmps115
    go_wp2
    go_ret
    exact ⟨by have := k.out 17 (by decide); simpa using this, rfl⟩
  · have ea : bits .and .u64 (IntKind.u64.wrap (-18)) 31 = 14 := by decide
    go_enter Tryd.func115, Tryd.ntmps115
    go_wp2
    go_ret
    exact ⟨by have := k.out 18 (by decide); simpa using this, rfl⟩
  · have ea : bits .and .u64 (IntKind.u64.wrap (-19)) 31 = 13 := by decide
    go_enter Tryd.func115, Tryd.ntmps115
    go_wp2
    go_ret
    exact ⟨by have := k.out 19 (by decide); simpa using this, rfl⟩
  · have ea : bits .and .u64 (IntKind.u64.wrap (-22)) 31 = 10 := by decide
    go_enter Tryd.func115, Tryd.ntmps115
    go_wp2
    go_ret
    exact ⟨by have := k.out 22 (by decide); simpa using this, rfl⟩
  · have ea : bits .and .u64 (IntKind.u64.wrap (-25)) 31 = 7 := by decide
    go_enter Tryd.func115, Tryd.ntmps115
    go_wp2
    go_ret
    exact ⟨by have := k.out 25 (by decide); simpa using this, rfl⟩
theorem rot_is (x n : Nat) (hx : x < 4294967296) (hn : n ∈ [2, 6, 7, 11, 13, 17, 18, 19, 22, 25]) (w : World) :
    Calls Tryd.prog 103 #[.int .u32 x, .int .i64 (n : Int)] w fun e w' => e = .returned (.int .u32 (rotr x n : Nat)) ∧ w' = w := by
  have H : Hid (Calls Tryd.prog 115 #[.int .u32 x, .int .i64 (-(n : Int))] w fun e w' => e = .returned (.int .u32 (rotr x n : Nat)) ∧ w' = w) := rotateLeft_is x n hx hn w
  have hn' : n ≤ 25 := by
    simp only [List.mem_cons, List.not_mem_nil, or_false] at hn
    omega
  clear hn
  go_enter Tryd.func103, Tryd.ntmps103
  go_wp2_with (go_at_call 115; refine H.out.mono ?_; rintro e w' ⟨rfl, hw⟩; obtain rfl := hw.symm; clear hw)
  go_ret
  exact ⟨rfl, rfl⟩
end Go.Proofs.YtlddoobomjcldaaDoor
