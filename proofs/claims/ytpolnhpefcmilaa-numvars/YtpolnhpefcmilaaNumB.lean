/- Contract of num.Fixed: in a width that may be, a number that fits gives its bytes, the highest first, in one new block; else the refusals. -/
import Derived.Test.YtpolnhpefcmilaaRows
import Derived.WalkKit
import Derived.ProofKit
import Derived.OpenShut
import Derived.WalkSpells
import Derived.WalkLawsBesides
import Derived.Outline
import Derived.LoopTactic
import Derived.Deep.LoopGhost
import Derived.Deep.OwnRows
namespace Go.Proofs.Ytpolnhpefcmilaa
open Go.ChangeShapes Go.WideShapes Go.ChangeAt Go.RowKit Go.Deep
set_option linter.unusedVariables false

/-- the cells of a row of k bytes of which the last c are v's lowest -/
def fixA (v : Int) (k c : Nat) : Array Value := Array.ofFn (n := k) fun j => .int .u8 (if k - 1 - j.val < c then v / 256 ^ (k - 1 - j.val) % 256 else 0)

theorem fixA_zero (v : Int) (k : Nat) : madeCells #[.int .u8 0] k = fixA v k 0 := by
  apply Array.ext
  · simp [madeCells, fixA]
  · intro i h1 h2
    simp [madeCells, fixA, Nat.mod_one]

theorem fixA_step (v : Int) (k c : Nat) (h : c < k) (x : Int) (hx : x = v / 256 ^ c % 256) :
    (fixA v k c).setIfInBounds (k - 1 - c) (.int .u8 x) = fixA v k (c + 1) := by
  subst hx
  apply Array.ext
  · simp [fixA]
  · intro i h1 h2
    have hi : i < k := by simpa [fixA] using h2
    rw [Array.getElem_setIfInBounds]
    by_cases e : k - 1 - c = i
    · have : k - 1 - i = c := by omega
      simp [fixA, e, this]
    · have a : (k - 1 - i < c) ↔ (k - 1 - i < c + 1) := by omega
      simp [fixA, e, a]
    · simpa [fixA] using hi

theorem info8 : (Try.prog.info? 5).map (fun i => (i.zero, i.size, i.bytes)) = some (some (.int .u8 0), 1, 1) := by kernel_rfl

theorem isWidth_yes (k : Int) (h1 : 1 ≤ k) (h8 : k ≤ 8) (w : World) :
    Calls Try.prog 18 #[.int .i64 k] w fun e w' => e = .returned (.bool true) ∧ w' = w := by
  have e : decide (k ≤ 8) = true := by simpa using h8
  go_enter Try.func18, Try.ntmps18
  go_wp2
  go_ret
  exact ⟨rfl, rfl⟩
theorem isWidth_no (k : Int) (h : k < 1 ∨ 8 < k) (w : World) :
    Calls Try.prog 18 #[.int .i64 k] w fun e w' => e = .returned (.bool false) ∧ w' = w := by
  rcases h with h | h
  · have e : decide (1 ≤ k) = false := by simp; omega
    go_enter Try.func18, Try.ntmps18
    go_wp2
    go_ret
    exact ⟨rfl, rfl⟩
  · have e : decide (k ≤ 8) = false := by simp; omega
    have e2 : decide (1 ≤ k) = true := by simp; omega
    go_enter Try.func18, Try.ntmps18
    go_wp2
    go_ret
    exact ⟨rfl, rfl⟩
theorem pow256 (k : Nat) : (2 : Int) ^ (8 * k) = 256 ^ k := by rw [Int.pow_mul]; rfl
theorem fixed_ok (v : Int) (k : Nat) (h1 : 1 ≤ k) (h8 : k ≤ 8) (v0 : 0 ≤ v) (hv : v < 256 ^ k) (w : World) :
    Calls Try.prog 9 #[.int .u64 v, .int .i64 k] w fun e w' => e = .returned (.tuple #[.slice (some ⟨w.heap.size, 0, none⟩) k k, .int .i64 0]) ∧ w' = w.alloc (.cells (fixA v k k) 5) := by
  have hmk := run_make_row' (P := Try.prog) 23 5 (.int .u8 0) 1 Try.underlying23 info8 rfl .i64 .i64 k (by omega) (by omega)
  rw [fixA_zero v k] at hmk
  have hd : (v / 2 ^ (8 * k) != 0) = false := by rw [pow256, Int.ediv_eq_zero_of_lt v0 hv]; rfl
  clear hv
  go_enter Try.func9, Try.ntmps9
  go_wp2_with (go_at_call 18; refine (isWidth_yes _ (by omega) (by omega) _).mono ?_; rintro e w' ⟨rfl, hw⟩; obtain rfl := hw.symm)
  go_loopg [19] k (fun g i wr => ∃ c : Nat, c ≤ k ∧ g = k - c ∧ i = .int .i64 c ∧ wr = w.alloc (.cells (fixA v k c) 5))
  case atStart => exact ⟨0, Nat.zero_le _, rfl, rfl, rfl⟩
  case round =>
    obtain ⟨c, hc, rfl, rfl, rfl⟩ := hrel
    by_cases hlt : c < k
    · obtain ⟨old, hold⟩ : ∃ old, (fixA v k c)[k - 1 - c]? = some old := ⟨_, Array.getElem?_eq_getElem (by simp [fixA]; omega)⟩
      have hs := fixA_step v k c hlt (v / 2 ^ (8 * c) % 256) (by rw [pow256])
      have HS : Hid _ := hs
      clear hs
      go_wp2
      go_roundg (k - (c + 1))
      case measure => omega
      case rel => exact ⟨c + 1, by omega, rfl, by go_num, by rw [HS.out]⟩
    · have e : c = k := by omega
      subst e
      go_wp2
      go_ret2
      exact ⟨rfl, rfl⟩
theorem fixed_big (v : Int) (k : Nat) (h1 : 1 ≤ k) (h8 : k ≤ 8) (v0 : 0 ≤ v) (hv : 256 ^ k ≤ v) (w : World) :
    Calls Try.prog 9 #[.int .u64 v, .int .i64 k] w fun e w' => e = .returned (.tuple #[.slice none 0 0, .int .i64 3]) ∧ w' = w := by
  have hd : (v / 2 ^ (8 * k) != 0) = true := by
    rw [pow256]
    have hp : (0 : Int) < 256 ^ k := Int.pow_pos (by decide)
    have := Int.ediv_le_ediv hp hv
    rw [Int.ediv_self (by omega)] at this
    simp; omega
  clear hv
  go_enter Try.func9, Try.ntmps9
  go_wp2_with (go_at_call 18; refine (isWidth_yes _ (by omega) (by omega) _).mono ?_; rintro e w' ⟨rfl, hw⟩; obtain rfl := hw.symm)
  go_ret2
  exact ⟨rfl, rfl⟩
theorem fixed_arg (v k : Int) (h : k < 1 ∨ 8 < k) (w : World) :
    Calls Try.prog 9 #[.int .u64 v, .int .i64 k] w fun e w' => e = .returned (.tuple #[.slice none 0 0, .int .i64 2]) ∧ w' = w := by
  go_enter Try.func9, Try.ntmps9
  go_wp2_with (go_at_call 18; refine (isWidth_no _ h _).mono ?_; rintro e w' ⟨rfl, hw⟩; obtain rfl := hw.symm)
  go_ret2
  exact ⟨rfl, rfl⟩
end Go.Proofs.Ytpolnhpefcmilaa
