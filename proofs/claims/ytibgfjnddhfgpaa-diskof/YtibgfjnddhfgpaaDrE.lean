/- The document's disk: New. Written by gen_rnew.py. -/
import Derived.Test.YtibgfjnddhfgpaaDrD
import Derived.Test.YtibgfjnddhfgpaaOrdE
namespace Go.Proofs.Ytibgfjnddhfgpaa
open Go.ChangeShapes Go.WideShapes Go.ChangeAt Go.RowKit Go.Deep Go.Maps
set_option linter.unusedVariables false
theorem rnew_bad (n : Int) (hn : ¬ (1 ≤ n ∧ n ≤ 4096)) (w : World) : Calls Try.prog 10 #[.int .i64 n] w fun e w' => e = .returned (.tuple #[.pointer none, .int .i64 2]) ∧ w' = w := by
  by_cases h1 : n < 1
  · have f1 : decide (n < 1) = true := by rw [decide_eq_true_eq]; exact h1
    go_enter Try.func10, Try.ntmps10
    go_wp2_with fail
    go_ret2
    exact ⟨rfl, rfl⟩
  · have f1 : decide (n < 1) = false := by rw [decide_eq_false_iff_not]; exact h1
    have f2 : decide (4096 < n) = true := by rw [decide_eq_true_eq]; omega
    go_enter Try.func10, Try.ntmps10
    go_wp2_with fail
    go_ret2
    exact ⟨rfl, rfl⟩
set_option linter.unusedSimpArgs false in
set_option maxRecDepth 100000 in
set_option maxHeartbeats 8000000 in
theorem rk_new (n : Nat) (h1 : 1 ≤ n) (h2 : n ≤ 4096) (w : World) : Calls Try.prog 10 #[.int .i64 (n : Int)] w fun e w' => ∃ b F, e = .returned (.tuple #[.pointer (some ⟨b, 0, none⟩), .int .i64 0]) ∧ Rk w' F b 0 (Ds.new n) ∧ Below w.heap.size w w' ∧ ∀ k, F k → w.heap.size ≤ k := by
  have f1 : decide ((n : Int) < 1) = false := by rw [decide_eq_false_iff_not]; omega
  have f2 : decide (4096 < (n : Int)) = false := by rw [decide_eq_false_iff_not]; omega
  have hmk : ∀ W : World, (Instr.makeSlice 35 (.int .i64 64) (.int .i64 64)).run Try.prog W = .ok (.slice (some ⟨W.heap.size, 0, none⟩) 64 64) (W.alloc (.cells (madeCells #[.int .u8 0] 64) 5)) := fun W => run_make_row' 35 5 (.int .u8 0) 1 Try.underlying35 info8 rfl .i64 .i64 64 (by omega) (by omega) W
  have OM : Hid (∀ W : World, Owned (W.alloc (.cells (madeCells #[.int .u8 0] 64) 5)) W.heap.size (.slice (some ⟨W.heap.size, 0, none⟩) 64 64) nought) := fun W => madeO W 64 (by omega)
  generalize madeCells #[.int .u8 0] 64 = mc at *
  obtain ⟨W1, hW1⟩ : ∃ W1, w.alloc (.cells #[.slice none 0 0, .slice none 0 0, .int .i64 (-1), .bool false, .int .i64 0] 69) = W1 := ⟨_, rfl⟩
  have X1 : Hid (W1.heap[w.heap.size]? = some (.cells #[.slice none 0 0, .slice none 0 0, .int .i64 (-1), .bool false, .int .i64 0] 69) ∧ Below w.heap.size w W1) := by
    rw [← hW1]
    exact ⟨heap_alloc_new w _, below1 _ _⟩
  have HW1 : Hid (w.alloc (.cells #[.slice none 0 0, .slice none 0 0, .int .i64 (-1), .bool false, .int .i64 0] 69) = W1) := hW1
  clear hW1
  go_enter Try.func10, Try.ntmps10
  go_wp2_with fail
  rw [show World.alloc _ _ = W1 from HW1.out]
  go_loopg [5] n (fun gg iv wr => ∃ (i : Nat) (oa : Option Addr) (oc : Nat), i ≤ n ∧ gg = n - i ∧ iv = .int .i64 (i : Int) ∧ Hid (RkP wr w.heap.size (noughts i) [] false 0 (-1) (.slice oa i oc) (.slice none 0 0) ∧ RowT wr w.heap.size (.slice oa i oc) (noughts i)) ∧ Hid (Below w.heap.size w wr))
  case atStart => exact ⟨0, none, 0, by omega, rfl, rfl, ⟨⟨X1.out.1, RowT.nil _ _, OwnN.nil _ _⟩, RowT.nil _ _⟩, X1.out.2⟩
  case round =>
    obtain ⟨i, oa, oc, hin, rfl, rfl, PR, BW⟩ := hrel
    obtain ⟨d0, d1, d2, d3, d4⟩ := r5_of PR.out.1.cell
    by_cases hi : i < n
    · have g1 : decide ((i : Int) < (n : Int)) = true := by rw [decide_eq_true_eq]; omega
      have ri : IntKind.i64.wrap ((i : Int) + 1) = (i : Int) + 1 := by rw [IntKind.wrap_i64]; omega
      have lb : Hid (w.heap.size < wr.heap.size) := (Array.getElem?_eq_some_iff.1 PR.out.1.cell).1
      go_wp2_with fail
      refine AnyE.start (S := (fun Wd : World => Wd.cell? ⟨w.heap.size, 0, none⟩ = some (.slice oa i oc))) (E := [11]) (by kernel_rfl) ?hSa (fun hHeld => ?resta)
      case hSa => exact d0
      case resta =>
        refine AnyE.take (i := 0) (v := .pointer (some ⟨w.heap.size, 0, none⟩)) rfl (by kernel_rfl) (by kernel_rfl) (by kernel_rfl) (by kernel_rfl) (fun _ _ _ h => h) (Or.inl ⟨by rfl, ?hy0⟩) hHeld ?r0
        case hy0 => (intro w hSw; (try dsimp only at hSw); clear hSw; go_simp; try with_reducible rfl)
        try simp only [Act.put, List.setIfInBounds_toArray, List.set_cons_zero, List.set_cons_succ, List.getElem_toArray, List.getElem_cons_zero]
        refine AnyE.take (i := 1) (v := .pointer (some ⟨w.heap.size, 0, none⟩)) rfl (by kernel_rfl) (by kernel_rfl) (by kernel_rfl) (by kernel_rfl) (fun _ _ _ h => h) (Or.inl ⟨by rfl, ?hy1⟩) hHeld ?r1
        case hy1 => (intro w hSw; (try dsimp only at hSw); clear hSw; go_simp; try with_reducible rfl)
        try simp only [Act.put, List.setIfInBounds_toArray, List.set_cons_zero, List.set_cons_succ, List.getElem_toArray, List.getElem_cons_zero, List.getElem_cons_succ]
        refine AnyE.take (i := 2) (v := .pointer (some ⟨w.heap.size, 0, none⟩)) rfl (by kernel_rfl) (by kernel_rfl) (by kernel_rfl) (by kernel_rfl) (fun _ _ _ h => h) (Or.inl ⟨by rfl, ?hy2⟩) hHeld ?r2
        case hy2 => (intro w hSw; (try dsimp only at hSw); clear hSw; go_simp; try with_reducible rfl)
        try simp only [Act.put, List.setIfInBounds_toArray, List.set_cons_zero, List.set_cons_succ, List.getElem_toArray, List.getElem_cons_zero, List.getElem_cons_succ]
        refine AnyE.take (i := 3) (v := .pointer (some ⟨w.heap.size, 0, none⟩)) rfl (by kernel_rfl) (by kernel_rfl) (by kernel_rfl) (by kernel_rfl) (fun _ _ _ h => h) (Or.inl ⟨by rfl, ?hy3⟩) hHeld ?r3
        case hy3 => (intro w hSw; (try dsimp only at hSw); clear hSw; go_simp; try with_reducible rfl)
        try simp only [Act.put, List.setIfInBounds_toArray, List.set_cons_zero, List.set_cons_succ, List.getElem_toArray, List.getElem_cons_zero, List.getElem_cons_succ]
        refine AnyE.take (i := 4) (v := .slice oa i oc) rfl (by kernel_rfl) (by kernel_rfl) (by kernel_rfl) (by kernel_rfl) (fun _ _ _ h => h) (Or.inl ⟨by rfl, ?hy4⟩) hHeld ?r4
        case hy4 => (intro w hSw; have hS1 := hSw; clear hSw; go_simp; try with_reducible rfl)
        try simp only [Act.put, List.setIfInBounds_toArray, List.set_cons_zero, List.set_cons_succ, List.getElem_toArray, List.getElem_cons_zero, List.getElem_cons_succ]
        have B5 : Hid (Below wr.heap.size wr (wr.alloc (.cells mc 5)).drew) := (below1 wr _).drew
        have c5 : Hid (((wr.alloc (.cells mc 5)).drew).cell? ⟨w.heap.size, 0, none⟩ = some (.slice oa i oc)) := (B5.out.cell (p := ⟨w.heap.size, 0, none⟩) lb.out).trans d0
        have m5 := hmk wr.drew
        have cv : (convert 35 9 (.slice (some ⟨wr.heap.size, 0, none⟩) 64 64)).run Try.prog (wr.alloc (.cells mc 5)).drew = .ok (.string (strOfNums nought)) (wr.alloc (.cells mc 5)).drew := conv_str (w := (wr.alloc (.cells mc 5)).drew) (OM.out wr).holds.1 64 64 rfl
        refine AnyE.ready (rs := [5]) (by kernel_rfl) (by simp) ?_
        refine (ReadyE.cons rfl (fun K hK => ?_) ReadyE.nil)
        go_simp
        refine hK.out _ _ ?hS5 (fun hHeld => ?r5)
        case hS5 => exact c5.out
        clear hK K
        try simp only [Act.put, List.setIfInBounds_toArray, List.set_cons_zero, List.set_cons_succ, List.getElem_toArray, List.getElem_cons_zero, List.getElem_cons_succ]
        refine AnyE.ready (rs := [6]) (by kernel_rfl) (by simp) ?_
        refine (ReadyE.cons rfl (fun K hK => ?_) ReadyE.nil)
        go_simp
        refine hK.out _ _ ?hS6 (fun hHeld => ?r6)
        case hS6 => exact c5.out
        clear hK K
        try simp only [Act.put, List.setIfInBounds_toArray, List.set_cons_zero, List.set_cons_succ, List.getElem_toArray, List.getElem_cons_zero, List.getElem_cons_succ]
        obtain ⟨w5, hw5⟩ : ∃ w5, (wr.alloc (.cells mc 5)).drew = w5 := ⟨_, rfl⟩
        rw [hw5] at B5 c5 ⊢
        clear hw5 cv m5
        have B7 : Hid (Below wr.heap.size wr (w5.alloc (.cells #[.string (strOfNums nought)] 9))) := B5.out.trans ((below1 w5 _).mono B5.out.size)
        have c7 : Hid ((w5.alloc (.cells #[.string (strOfNums nought)] 9)).cell? ⟨w.heap.size, 0, none⟩ = some (.slice oa i oc)) := (B7.out.cell (p := ⟨w.heap.size, 0, none⟩) lb.out).trans d0
        have N7 : Hid ((w5.alloc (.cells #[.string (strOfNums nought)] 9)).cell? ⟨w5.heap.size, 0, none⟩ = some (sT nought)) := by
          rw [cell_of_row _ w5.heap.size 0 _ _ (0, 0) (heap_alloc_new w5 _)]
          rfl
        refine AnyE.ready (rs := [7]) (by kernel_rfl) (by simp) ?_
        refine (ReadyE.cons rfl (fun K hK => ?_) ReadyE.nil)
        go_simp
        refine hK.out _ _ ?hS7 (fun hHeld => ?r7)
        case hS7 => exact c7.out
        clear hK K
        try simp only [Act.put, List.setIfInBounds_toArray, List.set_cons_zero, List.set_cons_succ, List.getElem_toArray, List.getElem_cons_zero, List.getElem_cons_succ]
        refine AnyE.ready (rs := [8]) (by kernel_rfl) (by simp) ?_
        refine (ReadyE.cons rfl (fun K hK => ?_) ReadyE.nil)
        refine wp_textT (.tmp 23) (.tmp 26) rfl w.heap.size (.slice oa i oc) (noughts i) rfl (PR.out.2.keep B7.out) w5.heap.size 1 nought rfl N7.out (by simp [noughts]; omega) (Nat.le_trans BW.out.size B7.out.size) ?_
        intro g' c' w9 o9 hg9 hat
        have ln : (noughts i).length = i := by simp [noughts]
        have O9 : Hid (RowT w9 w.heap.size (.slice (some ⟨g', 0, none⟩) (i + 1) c') (noughts (i + 1)) ∧ w.heap.size < g') := by
          have e : noughts i ++ [nought] = noughts (i + 1) := by simp [noughts, List.replicate_succ']
          rw [ln, e] at o9
          refine ⟨o9, ?_⟩
          have := (o9.own g' rfl).1
          rcases hat with e | e
          · have := (PR.out.1.off.1 g' e).1; omega
          · have := B7.out.size; have := lb.out; omega
        have X9 : Hid (w9.heap[w.heap.size]? = some (.cells #[.slice oa i oc, .slice none 0 0, .int .i64 (-1), .bool false, .int .i64 0] 69)) := (hg9.block _ (Nat.lt_of_lt_of_le lb.out B7.out.size) (fun e => (PR.out.1.off.1 _ e.symm).1 rfl)).trans ((B7.out.block _ lb.out).trans PR.out.1.cell)
        have B9 : Hid (Below w.heap.size w w9) := (BW.out.trans (B7.out.mono BW.out.size)).grown hg9 (Nat.le_trans BW.out.size B7.out.size) (fun k e => (PR.out.2.own k e).1)
        have c9 : Hid (w9.cell? ⟨w.heap.size, 0, none⟩ = some (.slice oa i oc)) := (r5_of X9.out).1
        rw [ln]
        clear o9 hg9 hat
        refine hK.out _ _ ?hS8 (fun hHeld => ?r8)
        case hS8 => exact c9.out
        clear hK K
        try simp only [Act.put, List.setIfInBounds_toArray, List.set_cons_zero, List.set_cons_succ, List.getElem_toArray, List.getElem_cons_zero, List.getElem_cons_succ]
        refine AnyE.ready (rs := [9]) (by kernel_rfl) (by simp) ?_
        refine (ReadyE.cons rfl (fun K hK => ?_) ReadyE.nil)
        go_simp
        refine hK.out _ _ ?hS9 (fun hHeld => ?r9)
        case hS9 => exact c9.out
        clear hK K
        try simp only [Act.put, List.setIfInBounds_toArray, List.set_cons_zero, List.set_cons_succ, List.getElem_toArray, List.getElem_cons_zero, List.getElem_cons_succ]
        refine AnyE.ready (rs := [10]) (by kernel_rfl) (by simp) ?_
        refine (ReadyE.cons rfl (fun K hK => ?_) ReadyE.nil)
        go_simp
        refine hK.out _ _ ?hS10 (fun hHeld => ?r10)
        case hS10 => exact c9.out
        clear hK K
        try simp only [Act.put, List.setIfInBounds_toArray, List.set_cons_zero, List.set_cons_succ, List.getElem_toArray, List.getElem_cons_zero, List.getElem_cons_succ]
        refine AnyE.ready (rs := [11]) (by kernel_rfl) (by simp) ?_
        refine ReadyE.last rfl (by simp) (fun K hK => ?_) ReadyE.nil
        refine wp_store_val 46 (.tmp 29) (.tmp 27) rfl w.heap.size 0 (.slice (some ⟨g', 0, none⟩) (i + 1) c') rfl rfl rfl rfl (by rw [c9.out]; rfl) (frozen_not X9.out 0) (by kernel_rfl) ?_
        have G10 := grown_set w9 w.heap.size 0 (.slice (some ⟨g', 0, none⟩) (i + 1) c')
        have R10 : RowT (w9.setCell ⟨w.heap.size, 0, none⟩ (.slice (some ⟨g', 0, none⟩) (i + 1) c')) w.heap.size (.slice (some ⟨g', 0, none⟩) (i + 1) c') (noughts (i + 1)) := O9.out.1.kept fun k hk => by
          have e : g' = k := by simpa [Value.ownBlock] using hk
          subst e
          exact G10.block _ (O9.out.1.own g' rfl).2 (by have := O9.out.2; simp; omega)
        have P10 : Hid (RkP (w9.setCell ⟨w.heap.size, 0, none⟩ (.slice (some ⟨g', 0, none⟩) (i + 1) c')) w.heap.size (noughts (i + 1)) [] false 0 (-1) (.slice (some ⟨g', 0, none⟩) (i + 1) c') (.slice none 0 0) ∧ RowT (w9.setCell ⟨w.heap.size, 0, none⟩ (.slice (some ⟨g', 0, none⟩) (i + 1) c')) w.heap.size (.slice (some ⟨g', 0, none⟩) (i + 1) c') (noughts (i + 1))) := by
          refine ⟨⟨set_own w9 w.heap.size 0 _ _ X9.out _, ⟨R10.1, ?_⟩, OwnN.nil _ _⟩, R10⟩
          rcases R10.2 with h | ⟨g, c, cur, e, _, rest⟩
          · exact .inl h
          · exact .inr ⟨g, c, cur, e, Nat.zero_le _, rest⟩
        have B10 : Hid (Below w.heap.size w (w9.setCell ⟨w.heap.size, 0, none⟩ (.slice (some ⟨g', 0, none⟩) (i + 1) c'))) := B9.out.grown G10 B9.out.size (fun k e => by have := Option.some.inj e; omega)
        refine hK.out _ _ ?_
        clear hK K
        try simp only [Act.put, List.setIfInBounds_toArray, List.set_cons_zero, List.set_cons_succ, List.getElem_toArray, List.getElem_cons_zero, List.getElem_cons_succ]
        refine AnyE.done (by kernel_rfl) ?_ _
        go_wp2_with fail
        go_roundg (n - (i + 1))
        case measure => omega
        case rel => exact ⟨i + 1, some ⟨g', 0, none⟩, c', by omega, rfl, by simp, P10, B10⟩
    · have g1 : decide ((i : Int) < (n : Int)) = false := by rw [decide_eq_false_iff_not]; omega
      obtain rfl : i = n := by omega
      go_wp2_with fail
      go_ret2
      refine ⟨w.heap.size, RFp w.heap.size (.slice oa i oc) (.slice none 0 0), rfl, ⟨[], _, _, PR.out.1, fun _ => Iff.rfl, fun _ => rfl, by simp [Ds.new, noughts]; omega, Nat.zero_le _, ⟨Int.le_refl _, Int.le_refl _⟩, by show (-1 : Int) ≤ _; omega⟩, BW.out, fun k hk => ?_⟩
      rcases hk with e | e | e
      · omega
      · exact (PR.out.2.own k e).1
      · simp [Value.ownBlock] at e
end Go.Proofs.Ytibgfjnddhfgpaa
