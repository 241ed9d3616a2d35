/- Contracts of num.isWidth, num.Fixed and num.ReadFixed, over Mem's words. -/
import Derived.Test.YtlddoobomjcldaaDoorMem
import Derived.WalkSpells
import Derived.Outline
namespace Go.Proofs.YtlddoobomjcldaaDoor
open Go.ChangeShapes Go.WideShapes Go.ChangeAt Go.RowKit Go.Deep
set_option linter.unusedVariables false

/-- the cells of a row of k bytes of which the last c are v's lowest -/
def fixA (v : Int) (k c : Nat) : Array Value := Array.ofFn (n := k) fun j => .int .u8 (if k - 1 - j.val < c then v / 256 ^ (k - 1 - j.val) % 256 else 0)

theorem fixA_zero (v : Int) (k : Nat) : madeCells #[.int .u8 0] k = fixA v k 0 := by
  apply Array.ext
  · simp [madeCells, fixA]
  · intro i h1 h2
    simp [madeCells, fixA, Nat.mod_one]

theorem fixA_step (v : Int) (k c : Nat) (h : c < k) (x : Int) (hx : x = v / 256 ^ c % 256) :
    (fixA v k c).setIfInBounds (k - 1 - c) (.int .u8 x) = fixA v k (c + 1) := by
  subst hx
  apply Array.ext
  · simp [fixA]
  · intro i h1 h2
    have hi : i < k := by simpa [fixA] using h2
    rw [Array.getElem_setIfInBounds]
    by_cases e : k - 1 - c = i
    · have : k - 1 - i = c := by omega
      simp [fixA, e, this]
    · have a : (k - 1 - i < c) ↔ (k - 1 - i < c + 1) := by omega
      simp [fixA, e, a]
    · simpa [fixA] using hi

theorem isWidth_yes (k : Int) (h1 : 1 ≤ k) (h8 : k ≤ 8) (w : World) :
    Calls Tryd.prog 50 #[.int .i64 k] w fun e w' => e = .returned (.bool true) ∧ w' = w := by
  have e : decide (k ≤ 8) = true := by simpa using h8
  go_enter Tryd.func50, Tryd.ntmps50
  go_wp2
  go_ret
  exact ⟨rfl, rfl⟩
theorem isWidth_no (k : Int) (h : k < 1 ∨ 8 < k) (w : World) :
    Calls Tryd.prog 50 #[.int .i64 k] w fun e w' => e = .returned (.bool false) ∧ w' = w := by
  rcases h with h | h
  · have e : decide (1 ≤ k) = false := by simp; omega
    go_enter Tryd.func50, Tryd.ntmps50
    go_wp2
    go_ret
    exact ⟨rfl, rfl⟩
  · have e : decide (k ≤ 8) = false := by simp; omega
    have e2 : decide (1 ≤ k) = true := by simp; omega
    go_enter Tryd.func50, Tryd.ntmps50
    go_wp2
    go_ret
    exact ⟨rfl, rfl⟩
theorem pow256 (k : Nat) : (2 : Int) ^ (8 * k) = 256 ^ k := by rw [Int.pow_mul]; rfl
theorem fixed_ok (v : Int) (k : Nat) (h1 : 1 ≤ k) (h8 : k ≤ 8) (v0 : 0 ≤ v) (hv : v < 256 ^ k) (w : World) :
    Calls Tryd.prog 28 #[.int .u64 v, .int .i64 k] w fun e w' => e = .returned (.tuple #[.slice (some ⟨w.heap.size, 0, none⟩) k k, .int .i64 0]) ∧ w' = w.alloc (.cells (fixA v k k) 5) := by
  have hmk := run_make_row' (P := Tryd.prog) 23 5 (.int .u8 0) 1 Tryd.underlying23 info8 rfl .i64 .i64 k (by omega) (by omega)
  rw [fixA_zero v k] at hmk
  have hd : (v / 2 ^ (8 * k) != 0) = false := by rw [pow256, Int.ediv_eq_zero_of_lt v0 hv]; rfl
  clear hv
  go_enter Tryd.func28, Tryd.ntmps28
  go_wp2_with (go_at_call 50; refine (isWidth_yes _ (by omega) (by omega) _).mono ?_; rintro e w' ⟨rfl, hw⟩; obtain rfl := hw.symm)
  go_loopg [19] k (fun g i wr => ∃ c : Nat, c ≤ k ∧ g = k - c ∧ i = .int .i64 c ∧ wr = w.alloc (.cells (fixA v k c) 5))
  case atStart => exact ⟨0, Nat.zero_le _, rfl, rfl, rfl⟩
  case round =>
    obtain ⟨c, hc, rfl, rfl, rfl⟩ := hrel
    by_cases hlt : c < k
    · obtain ⟨old, hold⟩ : ∃ old, (fixA v k c)[k - 1 - c]? = some old := ⟨_, Array.getElem?_eq_getElem (by simp [fixA]; omega)⟩
      have hs := fixA_step v k c hlt (v / 2 ^ (8 * c) % 256) (by rw [pow256])
      have HS : Hid _ := hs
      clear hs
      go_wp2
      go_roundg (k - (c + 1))
      case measure => omega
      case rel => exact ⟨c + 1, by omega, rfl, by go_num, by rw [HS.out]⟩
    · have e : c = k := by omega
      subst e
      go_wp2
      go_ret2
      exact ⟨rfl, rfl⟩
theorem fixed_big (v : Int) (k : Nat) (h1 : 1 ≤ k) (h8 : k ≤ 8) (v0 : 0 ≤ v) (hv : 256 ^ k ≤ v) (w : World) :
    Calls Tryd.prog 28 #[.int .u64 v, .int .i64 k] w fun e w' => e = .returned (.tuple #[.slice none 0 0, .int .i64 3]) ∧ w' = w := by
  have hd : (v / 2 ^ (8 * k) != 0) = true := by
    rw [pow256]
    have hp : (0 : Int) < 256 ^ k := Int.pow_pos (by decide)
    have := Int.ediv_le_ediv hp hv
    rw [Int.ediv_self (by omega)] at this
    simp; omega
  clear hv
  go_enter Tryd.func28, Tryd.ntmps28
  go_wp2_with (go_at_call 50; refine (isWidth_yes _ (by omega) (by omega) _).mono ?_; rintro e w' ⟨rfl, hw⟩; obtain rfl := hw.symm)
  go_ret2
  exact ⟨rfl, rfl⟩
theorem fixed_arg (v k : Int) (h : k < 1 ∨ 8 < k) (w : World) :
    Calls Tryd.prog 28 #[.int .u64 v, .int .i64 k] w fun e w' => e = .returned (.tuple #[.slice none 0 0, .int .i64 2]) ∧ w' = w := by
  go_enter Tryd.func28, Tryd.ntmps28
  go_wp2_with (go_at_call 50; refine (isWidth_no _ h _).mono ?_; rintro e w' ⟨rfl, hw⟩; obtain rfl := hw.symm)
  go_ret2
  exact ⟨rfl, rfl⟩
theorem or_byte (i : Nat) (hi : i < 8) (x c : Int) (x0 : 0 ≤ x) (x1 : x < 256 ^ i) (c0 : 0 ≤ c) (c1 : c ≤ 255) : bits .or .u64 (IntKind.u64.wrap (x * 256)) c = x * 256 + c := by
  have p : (256 : Int) ^ i ≤ 72057594037927936 := by
    rcases (by omega : i = 0 ∨ i = 1 ∨ i = 2 ∨ i = 3 ∨ i = 4 ∨ i = 5 ∨ i = 6 ∨ i = 7) with rfl | rfl | rfl | rfl | rfl | rfl | rfl | rfl <;> decide
  rw [IntKind.wrap_u64, Int.emod_eq_of_lt (by omega) (by omega)]
  rw [u64_or (x * 256) c (by omega) (by omega) c0 (by omega)]
  obtain ⟨X, rfl⟩ := Int.eq_ofNat_of_zero_le x0
  obtain ⟨C, rfl⟩ := Int.eq_ofNat_of_zero_le c0
  rw [show ((X : Int) * 256).toNat = X * 256 by omega, Int.toNat_natCast, nat_join 8 (X * 256) C (by omega) (by omega)]
  omega
theorem pow_i8 (i : Nat) (hi : i < 8) : (256 : Int) ^ i ≤ 72057594037927936 := by
  rcases (by omega : i = 0 ∨ i = 1 ∨ i = 2 ∨ i = 3 ∨ i = 4 ∨ i = 5 ∨ i = 6 ∨ i = 7) with rfl | rfl | rfl | rfl | rfl | rfl | rfl | rfl <;> decide

theorem readFixed_ok (L : List Int) (n k : Nat) (a : Option Addr) (cap : Nat) (hn : L.length = n) (hm : n ≤ 4611686018427387904) (hb : IsBytes L) (w : World) (hh : Holds w a L) (h1 : 1 ≤ k) (h8 : k ≤ 8) (hk : k ≤ n) :
    Calls Tryd.prog 62 #[.slice a n cap, .int .i64 k] w fun e w' => e = .returned (.tuple #[.int .u64 (val (L.take k)), .int .i64 0]) ∧ w' = w := by
  obtain ⟨b, off, rfl, hcell⟩ : ∃ b off, a = some ⟨b, off, none⟩ ∧ ∀ i, i < L.length → w.cell? ⟨b, off + i, none⟩ = some (.int .u8 (L.getD i 0)) := by
    rcases hh with rfl | h
    · simp at hn; omega
    · exact h
  have hlt : ¬ ((n : Int) < k) := by omega
  go_enter Tryd.func62, Tryd.ntmps62
  go_wp2_with (go_at_call 50; refine (isWidth_yes _ (by omega) (by omega) _).mono ?_; rintro e w' ⟨rfl, hw⟩; obtain rfl := hw.symm; clear hw)
  go_loop [6, 16] (fun v i => ∃ c : Nat, c ≤ k ∧ i = .int .i64 c ∧ v = .int .u64 (val (L.take c))) (fun _ i => k - (intOf i).toNat)
  case atStart => exact ⟨0, Nat.zero_le _, rfl, rfl⟩
  case round =>
    obtain ⟨c, hc, rfl, rfl⟩ := hrel
    by_cases hck : c < k
    · have hcc := hcell c (by omega)
      obtain ⟨d0, d1⟩ := hb c (by omega)
      obtain ⟨v0, v1⟩ := val_bd L hb c (by omega)
      have hs := val_step L c (by omega)
      have eo := or_byte c (by omega) (val (L.take c)) (L.getD c 0) v0 v1 d0 d1
      rw [← hs] at eo
      have EO : Hid _ := eo
      clear eo hs v1 hcell
      generalize L.getD c 0 = z at *
      generalize val (L.take c) = y at *
      go_wp2
      go_round
      case rel => exact ⟨c + 1, by omega, by go_num, by rw [EO.out]⟩
      case measure => simp [intOf]; omega
    · have e : c = k := by omega
      subst e
      clear hcell
      go_wp2
      go_ret2
      exact ⟨rfl, rfl⟩
theorem readFixed_end (n k : Nat) (a : Option Addr) (cap : Nat) (w : World) (h1 : 1 ≤ k) (h8 : k ≤ 8) (hk : n < k) :
    Calls Tryd.prog 62 #[.slice a n cap, .int .i64 k] w fun e w' => e = .returned (.tuple #[.int .u64 0, .int .i64 4]) ∧ w' = w := by
  have hlt : ((n : Int) < k) := by omega
  go_enter Tryd.func62, Tryd.ntmps62
  go_wp2_with (go_at_call 50; refine (isWidth_yes _ (by omega) (by omega) _).mono ?_; rintro e w' ⟨rfl, hw⟩; obtain rfl := hw.symm; clear hw)
  go_ret2
  exact ⟨rfl, rfl⟩
theorem readFixed_arg (n : Nat) (k : Int) (a : Option Addr) (cap : Nat) (w : World) (h : k < 1 ∨ 8 < k) :
    Calls Tryd.prog 62 #[.slice a n cap, .int .i64 k] w fun e w' => e = .returned (.tuple #[.int .u64 0, .int .i64 2]) ∧ w' = w := by
  go_enter Tryd.func62, Tryd.ntmps62
  go_wp2_with (go_at_call 50; refine (isWidth_no _ h _).mono ?_; rintro e w' ⟨rfl, hw⟩; obtain rfl := hw.symm; clear hw)
  go_ret2
  exact ⟨rfl, rfl⟩
end Go.Proofs.YtlddoobomjcldaaDoor
