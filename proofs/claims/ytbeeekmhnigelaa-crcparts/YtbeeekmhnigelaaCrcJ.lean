/- The steps of the register as arrays: byteStep, of, squared. -/
import Derived.Test.YtbeeekmhnigelaaCrcA
import Derived.Laws.CopyOwn
namespace Go.Proofs.Ytbeeekmhnigelaa
open Go.ChangeShapes Go.WideShapes Go.ChangeAt Go.RowKit Go.Deep
set_option linter.unusedVariables false
/-- the first c places of a step of m shifts, the others 0 -/
def stC (m c : Nat) : Array Value := (Array.range 32).map fun i => .int .u32 (if i < c then ((shs m (2 ^ i) : Nat) : Int) else 0)
theorem stC_size (m c : Nat) : (stC m c).size = 32 := by simp [stC]
theorem stC_get (m c i : Nat) (h : i < 32) : (stC m c)[i]? = some (.int .u32 (if i < c then ((shs m (2 ^ i) : Nat) : Int) else 0)) := by
  rw [Array.getElem?_eq_getElem (by rw [stC_size]; exact h)]
  simp [stC]
theorem stC_step (m c : Nat) (h : c < 32) : (stC m c).setIfInBounds c (.int .u32 (shs m (2 ^ c) : Nat)) = stC m (c + 1) := by
  apply Array.ext
  · simp [stC]
  · intro i h1 h2
    simp only [Array.size_setIfInBounds, stC_size] at h1
    rw [Array.getElem_setIfInBounds (by rw [stC_size]; exact h1)]
    simp only [stC, Array.getElem_map, Array.getElem_range]
    by_cases e : c = i
    · subst e; simp
    · rw [if_neg e]
      congr 1
      by_cases hi : i < c
      · rw [if_pos hi, if_pos (by omega)]
      · rw [if_neg hi, if_neg (by omega)]
theorem stC_one (m c : Nat) : (stC m c).all (·.oneCell') = true := by
  rw [Array.all_eq_true]
  intro i h
  simp [stC, Value.oneCell']
theorem stC_zero (m : Nat) : stC m 0 = stC 0 0 := by simp [stC]
theorem info44 : (Try.prog.info? 44).map (·.size) = some 32 := by kernel_rfl
theorem st0 : stC 8 0 = #[.int .u32 0, .int .u32 0, .int .u32 0, .int .u32 0, .int .u32 0, .int .u32 0, .int .u32 0, .int .u32 0, .int .u32 0, .int .u32 0, .int .u32 0, .int .u32 0, .int .u32 0, .int .u32 0, .int .u32 0, .int .u32 0, .int .u32 0, .int .u32 0, .int .u32 0, .int .u32 0, .int .u32 0, .int .u32 0, .int .u32 0, .int .u32 0, .int .u32 0, .int .u32 0, .int .u32 0, .int .u32 0, .int .u32 0, .int .u32 0, .int .u32 0, .int .u32 0] := by kernel_rfl
theorem size44 (m c : Nat) : (Try.prog.info? 44).map (·.size) = some (stC m c).size := by rw [stC_size]; exact info44
theorem two_pow_lt (c : Nat) (h : c < 32) : 2 ^ c < 4294967296 := by
  have p : (2 : Nat) ^ c < 2 ^ 32 := Nat.pow_lt_pow_right (by decide) h
  have e : (2 : Nat) ^ 32 = 4294967296 := by decide
  omega
theorem shl_one (c : Nat) (h : c < 32) : (2 : Int) ^ c % 4294967296 = ((2 ^ c : Nat) : Int) := by
  have p := two_pow_lt c h
  have e : (2 : Int) ^ c = ((2 ^ c : Nat) : Int) := by simp
  have p' : ((2 ^ c : Nat) : Int) < 4294967296 := Int.ofNat_lt.2 p
  rw [e, Int.emod_eq_of_lt (Int.natCast_nonneg _) p']
theorem byteStep_is (w : World) :
    Calls Try.prog 17 #[] w fun e w' => e = .returned (.agg (stC 8 32)) ∧ Below w.heap.size w w' := by
  go_enter Try.func17, Try.ntmps17
  go_wp2
  go_loopg [3] 32 (fun g i wr => ∃ c : Nat, c ≤ 32 ∧ g = 32 - c ∧ i = .int .i64 c ∧ wr = (w.alloc (.cells (stC 8 0) 44)).alloc (.cells (stC 8 c) 44))
  case atStart => exact ⟨0, Nat.zero_le _, rfl, rfl, by rw [st0]⟩
  case round =>
    obtain ⟨c, hc, rfl, rfl, rfl⟩ := hrel
    by_cases hlt : c < 32
    · have hget := stC_get 8 c c hlt
      rw [if_neg (by omega)] at hget
      have HS : Hid ((stC 8 c).setIfInBounds c (.int .u32 (shs 8 (2 ^ c) : Nat)) = stC 8 (c + 1)) := stC_step 8 c hlt
      have hs := shl_one c hlt
      have k : Hid (∀ w, Calls Try.prog 16 #[.int .u32 (2 ^ c % 4294967296)] w fun e w' => e = .returned (.int .u32 (shs 8 (2 ^ c) : Nat)) ∧ w' = w) := fun w => by rw [hs]; exact shiftByte_is _ (two_pow_lt c hlt) w
      clear hs
      go_wp2_with (go_at_call 16; refine (k.out _).mono ?_; rintro e w' ⟨rfl, hw⟩; obtain rfl := hw.symm; clear hw)
      go_roundg (32 - (c + 1))
      case measure => omega
      case rel => exact ⟨c + 1, by omega, rfl, by go_num, by rw [HS.out]⟩
    · have e : c = 32 := by omega
      subst e
      have H1 : Hid (((w.alloc (.cells (stC 8 0) 44)).alloc (.cells (stC 8 32) 44)).heap[w.heap.size + 1]? = some (.cells (stC 8 32) 44)) := by
        have := heap_alloc_last (w.alloc (.cells (stC 8 0) 44)) (.cells (stC 8 32) 44)
        show _ = _
        simpa using this
      have H0 : Hid (((w.alloc (.cells (stC 8 0) 44)).alloc (.cells (stC 8 32) 44)).heap[w.heap.size]? = some (.cells (stC 8 0) 44)) := by
        have := heap_alloc_last w (.cells (stC 8 0) 44)
        show _ = _
        rw [Below.heap_alloc _ _ _ (by simp)]
        exact this
      go_wp2_with (first | (refine wpList_load_row rfl 44 (.tmp 1) rfl (w.heap.size + 1) rfl 44 (stC 8 32) (0, 0) _ H1.out Try.underlying44 rfl (size44 _ _) ?_) | (refine wpList_store_row rfl 44 (.tmp 0) (.tmp 12) rfl w.heap.size (stC 8 32) rfl rfl 44 (stC 8 0) H0.out (size44 _ _) (by simp only [stC_size]) (stC_one _ _) ?_))
      refine bodyPost_ret (results_cell_row rfl _ _ w.heap.size 44 (stC 8 32) (0, 0) _ rfl (setRow_heap _ _ _ _ _ _ H0.out) Try.underlying44 rfl (size44 _ _)) rfl ⟨rfl, ?_⟩
      exact below_setRow (((Below.refl _ _).alloc (Nat.le_refl _) _).alloc (by simp) _) (Nat.le_refl _) _
theorem bit_int (r c : Nat) (hr : r < 4294967296) : bits .and .u32 ((r : Int) / 2 ^ c) 1 = ((r / 2 ^ c % 2 : Nat) : Int) := by
  have e : (r : Int) / 2 ^ c = ((r / 2 ^ c : Nat) : Int) := by simp
  have h : r / 2 ^ c < 4294967296 := Nat.lt_of_le_of_lt (Nat.div_le_self _ _) hr
  rw [e, show (1 : Int) = ((1 : Nat) : Int) from rfl, u32_and_nat _ 1 h (by decide), Nat.and_one_is_mod]
theorem of_is (m r : Nat) (hr : r < 4294967296) (w : World) :
    Calls Try.prog 18 #[.agg (stC m 32), .int .u32 r] w fun e w' => e = .returned (.int .u32 (shs m r : Nat)) ∧ w' = w.alloc (.cells (stC m 32) 44) := by
  go_enter Try.func18, Try.ntmps18
  go_wp2
  go_loop [5, 7] (fun v i => ∃ c : Nat, c ≤ 32 ∧ i = .int .i64 c ∧ v = .int .u32 (shs m (r % 2 ^ c) : Nat)) (fun _ i => 32 - (intOf i).toNat)
  case atStart => exact ⟨0, Nat.zero_le _, rfl, by simp [Nat.mod_one, shs_zero]⟩
  case round =>
    obtain ⟨c, hc, rfl, rfl⟩ := hrel
    have hx : shs m (r % 2 ^ c) < 4294967296 := shs_lt _ _ (Nat.lt_of_le_of_lt (Nat.mod_le _ _) hr)
    by_cases hlt : c < 32
    · have hget := stC_get m 32 c hlt
      rw [if_pos hlt] at hget
      have hy : shs m (2 ^ c) < 4294967296 := shs_lt _ _ (two_pow_lt c hlt)
      have HS : Hid (shs m (r % 2 ^ (c + 1)) = if r / 2 ^ c % 2 = 1 then shs m (r % 2 ^ c) ^^^ shs m (2 ^ c) else shs m (r % 2 ^ c)) := shs_low m r c
      have ea := bit_int r c hr
      generalize shs m (r % 2 ^ c) = x at *
      generalize shs m (2 ^ c) = y at *
      have EX : Hid (bits .xor .u32 (x : Int) (y : Int) = ((x ^^^ y : Nat) : Int)) := u32_xor_nat x y hx hy
      rcases Nat.mod_two_eq_zero_or_one (r / 2 ^ c) with h2 | h2
      · rw [h2] at ea
        have H2 : Hid (r / 2 ^ c % 2 = 0) := h2
        clear h2
        go_wp2
        go_round
        case rel => exact ⟨c + 1, by omega, by go_num, by rw [HS.out, H2.out]; rfl⟩
        case measure => simp [intOf]; omega
      · rw [h2] at ea
        have H2 : Hid (r / 2 ^ c % 2 = 1) := h2
        clear h2
        go_wp2
        go_round
        case rel => exact ⟨c + 1, by omega, by go_num, by rw [HS.out, H2.out, if_pos rfl, ← EX.out]⟩
        case measure => simp [intOf]; omega
    · have e : c = 32 := by omega
      subst e
      have E : Hid (r % 2 ^ 32 = r) := Nat.mod_eq_of_lt hr
      go_wp2
      go_ret
      exact ⟨by rw [E.out]; rfl, rfl⟩
end Go.Proofs.Ytbeeekmhnigelaa
