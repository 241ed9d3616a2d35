/- Contract of crc.Join. -/
import Derived.Test.YtbeeekmhnigelaaCrcK
namespace Go.Proofs.Ytbeeekmhnigelaa
open Go.ChangeShapes Go.WideShapes Go.ChangeAt Go.RowKit Go.Deep
set_option linter.unusedVariables false
theorem join_no (a b : Nat) (n : Int) (h : n < 0 ∨ 65536 < n) (w : World) :
    Calls Try.prog 13 #[.int .u32 a, .int .u32 b, .int .i64 n] w fun e w' => e = .returned (.tuple #[.int .u32 0, .int .i64 2]) ∧ w' = w := by
  rcases h with h | h
  · go_enter Try.func13, Try.ntmps13
    go_wp2
    go_ret2
    exact ⟨rfl, rfl⟩
  · have e1 : decide (n < 0) = false := decide_eq_false (by omega)
    have e8 : decide (65536 < n) = true := decide_eq_true h
    go_enter Try.func13, Try.ntmps13
    go_wp2
    go_ret2
    exact ⟨rfl, rfl⟩
theorem join_ok (a b n : Nat) (ha : a < 4294967296) (hb : b < 4294967296) (h : n ≤ 65536) (w : World) :
    Calls Try.prog 13 #[.int .u32 a, .int .u32 b, .int .i64 n] w fun e w' => e = .returned (.tuple #[.int .u32 (shs (8 * n) a ^^^ b : Nat), .int .i64 0]) ∧ Below w.heap.size w w' := by
  have e1 : decide ((n : Int) < 0) = false := by simp
  have e8 : decide (65536 < (n : Int)) = false := by simp; omega
  obtain ⟨N, hN⟩ : ∃ N, N = w.heap.size := ⟨_, rfl⟩
  have HN : Hid (N = w.heap.size) := hN
  clear hN
  go_enter Try.func13, Try.ntmps13
  go_wp2_with (first | (go_at_call 17; refine (byteStep_is _).mono ?_; rintro e w1 ⟨rfl, hb1⟩; have HB1 : Hid (Below w.heap.size w w1) := hb1; clear hb1) | (refine wpList_store_row rfl 44 (.tmp 8) (.tmp 16) rfl w1.heap.size (stC 8 32) rfl rfl 44 _ (heap_alloc_last w1 _) (size44 _ _) (by rw [stC_size]; rfl) (stC_one _ _) ?_))
  obtain ⟨B, hB⟩ : ∃ B, B = w1.heap.size := ⟨_, rfl⟩
  have HBB : Hid (B = w1.heap.size) := hB
  rw [← hB]
  clear hB
  go_loopg [0, 9] n (fun g x i wr => ∃ (m l y : Nat), l = g ∧ l ≤ 65536 ∧ i = .int .i64 l ∧ x = .int .u32 y ∧ y < 4294967296 ∧ shs (m * l) y = shs (8 * n) a ∧ Below N w wr ∧ N ≤ B ∧ wr.heap[B]? = some (.cells (stC m 32) 44))
  case atStart =>
    refine ⟨8, n, a, rfl, h, rfl, rfl, ha, rfl, ?_, ?_, ?_⟩
    · rw [HN.out]
      exact below_setRow (HB1.out.alloc (by have := HB1.out.size; omega) _) (by rw [HBB.out]; exact HB1.out.size) _
    · rw [HN.out, HBB.out]; exact HB1.out.size
    · rw [HBB.out]; exact setRow_heap _ _ _ _ _ _ (heap_alloc_last w1 _)
  case round =>
    obtain ⟨m, l, y, rfl, hl, rfl, rfl, hy, hs, hbel, hNB, hblk⟩ := hrel
    have HS : Hid (shs (m * l) y = shs (8 * n) a) := hs
    have HB : Hid (Below N w wr) := hbel
    have HK : Hid (wr.heap[B]? = some (.cells (stC m 32) 44)) := hblk
    clear hs hbel hblk
    by_cases hl0 : 0 < l
    · have g1 : decide ((0 : Int) < l) = true := by simp; omega
      rcases Nat.mod_two_eq_zero_or_one l with h2 | h2
      · have g2 : ((l : Int) % 2 == 1) = false := by rw [beq_eq_false_iff_ne]; omega
        have E : Hid (shs ((m + m) * (l / 2)) y = shs (8 * n) a) := by
          show _ = _
          rw [← HS.out]
          congr 1
          conv => rhs; rw [show l = 2 * (l / 2) by omega]
          rw [Nat.add_mul, ← Nat.mul_assoc, Nat.mul_comm m 2, Nat.mul_assoc, Nat.two_mul]
        go_wp2_with (first | (refine wpList_load_row rfl 44 (.tmp 8) rfl B rfl 44 (stC m 32) (0, 0) _ (by first | exact HK.out | exact HK1.out) Try.underlying44 rfl (size44 _ _) ?_) | (go_at_call 19; refine (squared_is m _).mono ?_; rintro e w2 ⟨rfl, hb2⟩; have HB2 : Hid (Below (wr).heap.size (wr) w2) := hb2; clear hb2; have HK2 : Hid (w2.heap[B]? = some (.cells (stC m 32) 44)) := (HB2.out.block B (lt_of_heap HK.out)).trans HK.out) | (refine wpList_store_row rfl 44 (.tmp 8) (.tmp 29) rfl B (stC (m + m) 32) rfl rfl 44 (stC m 32) HK2.out (size44 _ _) (by simp only [stC_size]) (stC_one _ _) ?_))
        go_roundg (l / 2)
        case measure => omega
        case rel => exact ⟨m + m, l / 2, y, rfl, by omega, by congr 1, rfl, hy, E.out, below_setRow (HB.out.trans (HB2.out.mono (by have := lt_of_heap HK.out; omega))) hNB _, hNB, setRow_heap _ _ _ _ _ _ HK2.out⟩
      · have g2 : ((l : Int) % 2 == 1) = true := by rw [beq_iff_eq]; omega
        have E : Hid (shs ((m + m) * (l / 2)) (shs m y) = shs (8 * n) a) := by
          show _ = _
          rw [← HS.out, ← shs_add]
          congr 1
          conv => rhs; rw [show l = 2 * (l / 2) + 1 by omega]
          rw [Nat.add_mul, Nat.mul_add, ← Nat.mul_assoc, Nat.mul_comm m 2, Nat.mul_assoc, Nat.two_mul, Nat.mul_one, Nat.add_comm]
        go_wp2_with (first | (refine wpList_load_row rfl 44 (.tmp 8) rfl B rfl 44 (stC m 32) (0, 0) _ (by first | exact HK.out | exact HK1.out) Try.underlying44 rfl (size44 _ _) ?_) | (go_at_call 18; refine (of_is m y hy _).mono ?_; rintro e w' ⟨rfl, hw⟩; obtain rfl := hw.symm; clear hw; have HK1 : Hid ((wr.alloc (.cells (stC m 32) 44)).heap[B]? = some (.cells (stC m 32) 44)) := (Below.heap_alloc wr _ B (lt_of_heap HK.out)).trans HK.out) | (go_at_call 19; refine (squared_is m _).mono ?_; rintro e w2 ⟨rfl, hb2⟩; have HB2 : Hid (Below (wr.alloc (.cells (stC m 32) 44)).heap.size (wr.alloc (.cells (stC m 32) 44)) w2) := hb2; clear hb2; have HK2 : Hid (w2.heap[B]? = some (.cells (stC m 32) 44)) := (HB2.out.block B (lt_of_heap HK1.out)).trans HK1.out) | (refine wpList_store_row rfl 44 (.tmp 8) (.tmp 29) rfl B (stC (m + m) 32) rfl rfl 44 (stC m 32) HK2.out (size44 _ _) (by simp only [stC_size]) (stC_one _ _) ?_))
        go_roundg (l / 2)
        case measure => omega
        case rel => exact ⟨m + m, l / 2, shs m y, rfl, by omega, by congr 1, rfl, shs_lt _ _ hy, E.out, below_setRow ((HB.out.alloc (by have := lt_of_heap HK.out; omega) _).trans (HB2.out.mono (by have := lt_of_heap HK1.out; omega))) hNB _, hNB, setRow_heap _ _ _ _ _ _ HK2.out⟩
    · have e : l = 0 := by omega
      subst e
      have E : Hid (shs (8 * n) a = y) := HS.out.symm
      go_wp2
      go_ret2
      refine ⟨?_, by rw [← HN.out]; exact HB.out⟩
      rw [E.out, ← u32_xor_nat _ b hy hb]; rfl
end Go.Proofs.Ytbeeekmhnigelaa
