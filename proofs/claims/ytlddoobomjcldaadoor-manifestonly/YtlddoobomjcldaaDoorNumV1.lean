/- Contract of num.Var: the sevens of any number, in one new block. -/
import Derived.Test.YtlddoobomjcldaaDoorNumL1
import Derived.Test.YtlddoobomjcldaaDoorMem
namespace Go.Proofs.YtlddoobomjcldaaDoor
open Go.ChangeShapes Go.WideShapes Go.ChangeAt Go.RowKit Go.Deep
set_option linter.unusedVariables false

/-- the cells of a row of n + 1 bytes of which the first c are laid -/
def varA (v : Int) (n c : Nat) : Array Value := Array.ofFn (n := n + 1) fun j => .int .u8 (if j.val < c then v / 128 ^ j.val % 128 + 128 else 0)
theorem varA_zero (v : Int) (n : Nat) : madeCells #[.int .u8 0] (n + 1) = varA v n 0 := by
  apply Array.ext
  · simp [madeCells, varA]
  · intro i h1 h2
    simp [madeCells, varA, Nat.mod_one]
theorem varA_step (v : Int) (n c : Nat) (h : c < n) : (varA v n c).setIfInBounds c (.int .u8 (v / 128 ^ c % 128 + 128)) = varA v n (c + 1) := by
  apply Array.ext
  · simp [varA]
  · intro i h1 h2
    have hi : i < n + 1 := by simpa [varA] using h2
    rw [Array.getElem_setIfInBounds (by simpa [varA] using hi)]
    by_cases e : c = i
    · subst e; simp [varA]
    · have a : (i < c) ↔ (i < c + 1) := by omega
      simp [varA, e, a]
theorem varA_last (v : Int) (n : Nat) (h0 : 0 ≤ v) : (varA v n n).setIfInBounds n (.int .u8 (v / 128 ^ n)) = ((varL n v).map (Value.int .u8)).toArray := by
  apply Array.ext
  · simp [varA, varL_length]
  · intro i h1 h2
    have hi : i < n + 1 := by simpa [varA] using h1
    have hg := varL_getD n v h0 i (by omega)
    have hl : i < (varL n v).length := by rw [varL_length]; exact hi
    have hg2 : (varL n v)[i] = if i < n then v / 128 ^ i % 128 + 128 else v / 128 ^ i := by
      rw [← hg]; simp [List.getD, List.getElem?_eq_getElem hl]
    rw [Array.getElem_setIfInBounds (by simpa [varA] using hi)]
    by_cases e : n = i
    · subst e; simp [hg2]
    · have a : i < n := by omega
      simp [varA, e, a, hg2]
theorem or128 (y : Int) (h : 0 ≤ y) : bits .or .u8 (y % 256) 128 = y % 128 + 128 := by
  rw [u8_or (y % 256) 128 (by omega) (by omega) (by decide) (by decide)]
  obtain ⟨Y, rfl⟩ := Int.eq_ofNat_of_zero_le h
  rw [show ((Y : Int) % 256).toNat = Y % 256 by omega, show (128 : Int).toNat = 128 from rfl]
  have key : ∀ z : Fin 256, z.val ||| 128 = z.val % 128 + 128 := by decide +kernel
  have := key ⟨Y % 256, by omega⟩
  simp only at this
  rw [this]
  omega
theorem pow128_lt (v : Int) (n : Nat) (h0 : 0 ≤ v) (h : v < 128 ^ (n + 1)) : 0 ≤ v / 128 ^ n ∧ v / 128 ^ n ≤ 127 := by
  have hp : (0 : Int) < 128 ^ n := Int.pow_pos (by decide)
  refine ⟨Int.ediv_nonneg h0 (by omega), ?_⟩
  have : v / 128 ^ n < 128 := Int.ediv_lt_of_lt_mul hp (by rw [Int.mul_comm, ← Int.pow_succ]; exact h)
  omega
/-- what Var leaves -/
def VarEnd (w : World) (v : Int) (e : Ending) (w' : World) : Prop :=
  ∃ n : Nat, Sev v n ∧ e = .returned (.slice (some ⟨w.heap.size, 0, none⟩) (n + 1) (n + 1)) ∧ w' = w.alloc (.cells ((varL n v).map (Value.int .u8)).toArray 5)
theorem var_any (v : Int) (h0 : 0 ≤ v) (h1 : v ≤ 18446744073709551615) (w : World) : Calls Tryd.prog 27 #[.int .u64 v] w (VarEnd w v) := by
  go_enter Tryd.func27, Tryd.ntmps27
  go_wp2_with fail
  refine (sevens_any v h0 h1 _).mono ?_
  rintro e w' ⟨n, hn, rfl, hw⟩; obtain rfl := hw.symm; clear hw
  have h9 := hn.1
  obtain ⟨l0, l1⟩ := pow128_lt v n h0 hn.2.1
  have HN : Hid (Sev v n) := hn
  clear hn
  have hmk := run_make_row' (P := Tryd.prog) 23 5 (.int .u8 0) 1 Tryd.underlying23 info8 rfl .i64 .i64 (n + 1) (by omega) (by omega)
  rw [varA_zero v n, show ((n + 1 : Nat) : Int) = (n : Int) + 1 by omega] at hmk
  go_wp2
  go_loopg [13] n (fun g i wr => ∃ c : Nat, c ≤ n ∧ g = n - c ∧ i = .int .i64 c ∧ wr = w.alloc (.cells (varA v n c) 5))
  case atStart => exact ⟨0, Nat.zero_le _, rfl, rfl, rfl⟩
  case round =>
    obtain ⟨c, hc, rfl, rfl, rfl⟩ := hrel
    by_cases hlt : c < n
    · obtain ⟨old, hold⟩ : ∃ old, (varA v n c)[c]? = some old := ⟨_, Array.getElem?_eq_getElem (by simp [varA]; omega)⟩
      have hs := varA_step v n c hlt
      have q0 : 0 ≤ v / 128 ^ c := Int.ediv_nonneg h0 (Int.le_of_lt (Int.pow_pos (by decide)))
      have eo := or128 (v / 128 ^ c) q0
      rw [← pow128] at eo
      have HS : Hid ((varA v n c).setIfInBounds c (.int .u8 (v / 128 ^ c % 128 + 128)) = varA v n (c + 1)) := hs
      clear hs q0 hmk
      go_wp2
      go_roundg (n - (c + 1))
      case measure => omega
      case rel => exact ⟨c + 1, by omega, rfl, by go_num, by rw [← HS.out, pow128]⟩
    · have e : c = n := by omega
      subst e
      obtain ⟨old, hold⟩ : ∃ old, (varA v c c)[c]? = some old := ⟨_, Array.getElem?_eq_getElem (by simp [varA])⟩
      have hs := varA_last v c h0
      have HS : Hid ((varA v c c).setIfInBounds c (.int .u8 (v / 128 ^ c)) = ((varL c v).map (Value.int .u8)).toArray) := hs
      clear hs hmk
      rw [← pow128] at l0 l1
      go_wp2
      go_ret
      refine ⟨c, HN.out, rfl, ?_⟩
      rw [← HS.out, ← pow128]
theorem readVar_all (L : List Int) (n : Nat) (a : Option Addr) (cap : Nat) (hn : L.length = n) (hm : n ≤ 140737488355328) (hb : IsBytes L) (w : World) (hh : Holds w a L) :
    Calls Tryd.prog 75 #[.slice a n cap] w fun e w' => e = rvEnd (rv L 0 0) ∧ w' = w := by
  rcases hh with rfl | ⟨b, off, rfl, hc⟩
  · simp at hn
    subst hn
    exact readVar_none a cap w
  · subst hn
    exact readVar_any L b off _ cap rfl hm hb w hc
end Go.Proofs.YtlddoobomjcldaaDoor
