/- Contracts of the document's own answers (veneerref01) for widths: Fixed, ReadFixed. -/
import Derived.Test.YtpolnhpefcmilaaNumF
namespace Go.Proofs.Ytpolnhpefcmilaa
open Go.ChangeShapes Go.WideShapes Go.ChangeAt Go.RowKit Go.Deep
set_option linter.unusedVariables false
theorem rreadFixed_ok (L : List Int) (n k : Nat) (a : Option Addr) (cap : Nat) (hn : L.length = n) (hm : n ≤ 4611686018427387904) (hb : IsBytes L) (w : World) (hh : Holds w a L) (h1 : 1 ≤ k) (h8 : k ≤ 8) (hk : k ≤ n) :
    Calls Try.prog 12 #[.slice a n cap, .int .i64 k] w fun e w' => e = .returned (.tuple #[.int .u64 (val (L.take k)), .int .i64 0]) ∧ w' = w := by
  obtain ⟨b, off, rfl, hcell⟩ : ∃ b off, a = some ⟨b, off, none⟩ ∧ ∀ i, i < L.length → w.cell? ⟨b, off + i, none⟩ = some (.int .u8 (L.getD i 0)) := by
    rcases hh with rfl | h
    · simp at hn; omega
    · exact h
  have hlt : ¬ ((n : Int) < k) := by omega
  have e1 : decide ((k : Int) < 1) = false := by simp; omega
  have e8 : decide ((8 : Int) < k) = false := by simp; omega
  go_enter Try.func12, Try.ntmps12
  go_wp2
  go_loop [6, 7] (fun v i => ∃ c : Nat, c ≤ k ∧ i = .int .i64 c ∧ v = .int .u64 (val (L.take c))) (fun _ i => k - (intOf i).toNat)
  case atStart => exact ⟨0, Nat.zero_le _, rfl, rfl⟩
  case round =>
    obtain ⟨c, hc, rfl, rfl⟩ := hrel
    by_cases hck : c < k
    · have hcc := hcell c (by omega)
      obtain ⟨d0, d1⟩ := hb c (by omega)
      obtain ⟨v0, v1⟩ := val_bd L hb c (by omega)
      have hp := pow_i8 c (by omega)
      have v2 : val (L.take c) ≤ 72057594037927935 := by omega
      have hs := val_step L c (by omega)
      have HS : Hid _ := hs
      clear hs v1 hp hcell
      generalize L.getD c 0 = z at *
      generalize val (L.take c) = y at *
      go_wp2
      go_round
      case rel => exact ⟨c + 1, by omega, by go_num, by rw [HS.out]⟩
      case measure => simp [intOf]; omega
    · have e : c = k := by omega
      subst e
      clear hcell
      go_wp2
      go_ret2
      exact ⟨rfl, rfl⟩
theorem rreadFixed_end (n k : Nat) (a : Option Addr) (cap : Nat) (w : World) (h1 : 1 ≤ k) (h8 : k ≤ 8) (hk : n < k) :
    Calls Try.prog 12 #[.slice a n cap, .int .i64 k] w fun e w' => e = .returned (.tuple #[.int .u64 0, .int .i64 4]) ∧ w' = w := by
  have hlt : ((n : Int) < k) := by omega
  have e1 : decide ((k : Int) < 1) = false := by simp; omega
  have e8 : decide ((8 : Int) < k) = false := by simp; omega
  go_enter Try.func12, Try.ntmps12
  go_wp2
  go_ret2
  exact ⟨rfl, rfl⟩
theorem rreadFixed_arg (n : Nat) (k : Int) (a : Option Addr) (cap : Nat) (w : World) (h : k < 1 ∨ 8 < k) :
    Calls Try.prog 12 #[.slice a n cap, .int .i64 k] w fun e w' => e = .returned (.tuple #[.int .u64 0, .int .i64 2]) ∧ w' = w := by
  rcases h with h | h
  · go_enter Try.func12, Try.ntmps12
    go_wp2
    go_ret2
    exact ⟨rfl, rfl⟩
  · have e1 : decide ((k : Int) < 1) = false := by simp; omega
    have e8 : decide ((8 : Int) < k) = true := by simp; omega
    go_enter Try.func12, Try.ntmps12
    go_wp2
    go_ret2
    exact ⟨rfl, rfl⟩
theorem rfixed_arg (v k : Int) (h : k < 1 ∨ 8 < k) (w : World) :
    Calls Try.prog 10 #[.int .u64 v, .int .i64 k] w fun e w' => e = .returned (.tuple #[.slice none 0 0, .int .i64 2]) ∧ w' = w := by
  rcases h with h | h
  · go_enter Try.func10, Try.ntmps10
    go_wp2
    go_ret2
    exact ⟨rfl, rfl⟩
  · have e1 : decide ((k : Int) < 1) = false := by simp; omega
    have e8 : decide ((8 : Int) < k) = true := by simp; omega
    go_enter Try.func10, Try.ntmps10
    go_wp2
    go_ret2
    exact ⟨rfl, rfl⟩
/-- the document's Fixed in a width that may be: its bytes in one new block, or the refusal (the block stays behind) -/
theorem rfixed_any (v : Int) (k : Nat) (h1 : 1 ≤ k) (h8 : k ≤ 8) (v0 : 0 ≤ v) (vm : v ≤ 18446744073709551615) (w : World) :
    Calls Try.prog 10 #[.int .u64 v, .int .i64 k] w fun e w' =>
      e = (if 0 < v / 256 ^ k then .returned (.tuple #[.slice none 0 0, .int .i64 3]) else .returned (.tuple #[.slice (some ⟨w.heap.size, 0, none⟩) k k, .int .i64 0])) ∧ w' = w.alloc (.cells (fixA v k k) 5) := by
  have hmk := run_make_row' (P := Try.prog) 23 5 (.int .u8 0) 1 Try.underlying23 info8 rfl .i64 .i64 k (by omega) (by omega)
  rw [fixA_zero v k] at hmk
  have e1 : decide ((k : Int) < 1) = false := by simp; omega
  have e8 : decide ((8 : Int) < k) = false := by simp; omega
  go_enter Try.func10, Try.ntmps10
  go_wp2
  go_loopg [0, 7] k (fun g x i wr => ∃ c : Nat, c ≤ k ∧ g = k - c ∧ x = .int .u64 (v / 256 ^ c) ∧ i = .int .i64 ((k : Int) - 1 - c) ∧ wr = w.alloc (.cells (fixA v k c) 5))
  case atStart => exact ⟨0, Nat.zero_le _, rfl, by simp, by simp, rfl⟩
  case round =>
    obtain ⟨c, hc, rfl, rfl, rfl, rfl⟩ := hrel
    have q0 : 0 ≤ v / 256 ^ c := Int.ediv_nonneg v0 (Int.le_of_lt (Int.pow_pos (by decide)))
    have q1 : v / 256 ^ c ≤ 18446744073709551615 := Int.le_trans (Int.ediv_le_self _ v0) vm
    by_cases hlt : c < k
    · obtain ⟨old, hold⟩ : ∃ old, (fixA v k c)[k - 1 - c]? = some old := ⟨_, Array.getElem?_eq_getElem (by simp [fixA]; omega)⟩
      have hs := fixA_step v k c hlt (v / 256 ^ c % 256) rfl
      have hq : v / 256 ^ (c + 1) = v / 256 ^ c / 256 := by
        rw [Int.pow_succ, Int.ediv_ediv_of_nonneg (Int.le_of_lt (Int.pow_pos (by decide)))]
      have HS : Hid _ := hs
      have HQ : Hid _ := hq
      clear hs hq
      generalize v / 256 ^ c = y at *
      have et : ((k : Int) - 1 - c).toNat = k - 1 - c := by omega
      go_wp2
      go_roundg (k - (c + 1))
      case measure => omega
      case rel => 
        refine ⟨c + 1, by omega, rfl, by rw [HQ.out], ?_, by rw [HS.out]⟩
        congr 1; omega
    · have e : c = k := by omega
      subst e
      by_cases hz : 0 < v / 256 ^ c
      · go_wp2
        go_ret2
        exact ⟨rfl, rfl⟩
      · go_wp2
        go_ret2
        exact ⟨rfl, rfl⟩
end Go.Proofs.Ytpolnhpefcmilaa
