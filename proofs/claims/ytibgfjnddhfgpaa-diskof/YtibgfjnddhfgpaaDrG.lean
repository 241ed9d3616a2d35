/- The document's disk: Of. Written by gen_rof.py. -/
import Derived.Test.YtibgfjnddhfgpaaDrE
import Derived.Test.YtibgfjnddhfgpaaDkI2
namespace Go.Proofs.Ytibgfjnddhfgpaa
open Go.ChangeShapes Go.WideShapes Go.ChangeAt Go.RowKit Go.Deep Go.Maps
set_option linter.unusedVariables false
theorem rof_bad (a : Option Addr) (len cap : Nat) (hn : ¬ (1 ≤ len ∧ len ≤ 4096)) (w : World) : Calls Try.prog 18 #[.slice a len cap] w fun e w' => e = .returned (.tuple #[.pointer none, .int .i64 2]) ∧ w' = w := by
  by_cases h1 : len < 1
  · have f1 : decide ((len : Int) < 1) = true := by rw [decide_eq_true_eq]; omega
    go_enter Try.func18, Try.ntmps18
    go_wp2_with fail
    go_ret2
    exact ⟨rfl, rfl⟩
  · have f1 : decide ((len : Int) < 1) = false := by rw [decide_eq_false_iff_not]; omega
    have f2 : decide (4096 < (len : Int)) = true := by rw [decide_eq_true_eq]; omega
    go_enter Try.func18, Try.ntmps18
    go_wp2_with fail
    go_ret2
    exact ⟨rfl, rfl⟩
def firstM (M : Nat → List Int) (i : Nat) : List (List Int) := (List.range i).map M
theorem firstM_len (M : Nat → List Int) (i : Nat) : (firstM M i).length = i := by simp [firstM]
theorem firstM_succ (M : Nat → List Int) (i : Nat) : firstM M i ++ [M i] = firstM M (i + 1) := by simp [firstM, List.range_succ]
set_option linter.unusedSimpArgs false in
set_option maxRecDepth 100000 in
set_option maxHeartbeats 8000000 in
theorem rof_is (a : Option Addr) (n cap : Nat) (V : Nat → Option Addr × Nat × Nat) (M : Nat → List Int) (w : World) (h1 : 1 ≤ n) (h2 : n ≤ 4096) (hI : In2 w a n V M) :
    Calls Try.prog 18 #[.slice a n cap] w fun e w' => Below w.heap.size w w' ∧ (((∃ i, i < n ∧ (M i).length ≠ 64) ∧ e = .returned (.tuple #[.pointer none, .int .i64 2])) ∨
      ((∀ i, i < n → (M i).length = 64) ∧ ∃ b F, e = .returned (.tuple #[.pointer (some ⟨b, 0, none⟩), .int .i64 0]) ∧ Rk w' F b 0 (Ds.of M n) ∧ ∀ k, F k → w.heap.size ≤ k)) := by
  have f1 : decide ((n : Int) < 1) = false := by rw [decide_eq_false_iff_not]; omega
  have f2 : decide (4096 < (n : Int)) = false := by rw [decide_eq_false_iff_not]; omega
  have HI : Hid (In2 w a n V M) := hI
  clear hI
  obtain ⟨W1, hW1⟩ : ∃ W1, w.alloc (.cells #[.slice none 0 0, .slice none 0 0, .int .i64 (-1), .bool false, .int .i64 0] 69) = W1 := ⟨_, rfl⟩
  have X1 : Hid (W1.heap[w.heap.size]? = some (.cells #[.slice none 0 0, .slice none 0 0, .int .i64 (-1), .bool false, .int .i64 0] 69) ∧ Below w.heap.size w W1) := by
    rw [← hW1]
    exact ⟨heap_alloc_new w _, below1 _ _⟩
  have HW1 : Hid (w.alloc (.cells #[.slice none 0 0, .slice none 0 0, .int .i64 (-1), .bool false, .int .i64 0] 69) = W1) := hW1
  clear hW1
  go_enter Try.func18, Try.ntmps18
  go_wp2_with fail
  rw [show World.alloc _ _ = W1 from HW1.out]
  go_loopg [5] n (fun gg iv wr => ∃ (i : Nat) (oa : Option Addr) (oc : Nat), i ≤ n ∧ gg = n - i ∧ iv = .int .i64 (i : Int) ∧ Hid (RkP wr w.heap.size (firstM M i) [] false 0 (-1) (.slice oa i oc) (.slice none 0 0) ∧ RowT wr w.heap.size (.slice oa i oc) (firstM M i) ∧ ∀ j, j < i → (M j).length = 64) ∧ Hid (Below w.heap.size w wr))
  case atStart => exact ⟨0, none, 0, by omega, rfl, rfl, ⟨⟨X1.out.1, RowT.nil _ _, OwnN.nil _ _⟩, RowT.nil _ _, fun j hj => by omega⟩, X1.out.2⟩
  case round =>
    obtain ⟨i, oa, oc, hin, rfl, rfl, PR, BW⟩ := hrel
    obtain ⟨d0, d1, d2, d3, d4⟩ := r5_of PR.out.1.cell
    by_cases hi : i < n
    · have g1 : decide ((i : Int) < (n : Int)) = true := by rw [decide_eq_true_eq]; omega
      have ri : IntKind.i64.wrap ((i : Int) + 1) = (i : Int) + 1 := by rw [IntKind.wrap_i64]; omega
      have lb : Hid (w.heap.size < wr.heap.size) := (Array.getElem?_eq_some_iff.1 PR.out.1.cell).1
      have hia := HI.out.below BW.out
      obtain ⟨ib, off, rfl, hib, hcells⟩ := HI.out.1 (by omega)
      have c00 := hcells i hi
      have c0 := (BW.out.cell (p := ⟨ib, off + i, none⟩) hib).trans c00
      obtain ⟨r1, r2, r3, r4, r5, r6, r7⟩ := hia.2 i hi
      generalize hv : V i = v at *
      obtain ⟨va, vl, vc⟩ := v
      simp only at c0 c00 r1 r2 r4 r5 r6 r7
      by_cases hl : vl = 64
      · subst hl
        have cv0 : (convert 35 9 (.slice va 64 vc)).run Try.prog wr.drew = .ok (.string (strOfNums (M i))) wr.drew := conv_str (w := wr.drew) r1 64 vc r2
        have R2 : Hid ((M i).length = 64) := r2
        obtain ⟨x, hx⟩ : ∃ x, M i = x := ⟨_, rfl⟩
        have HX : Hid (M i = x) := hx
        rw [hx] at cv0
        clear r1 r2 r3 r4 r5 r6 r7 hia hcells hx
        go_wp2_with fail
        refine AnyE.start (S := (fun Wd : World => Wd.cell? ⟨w.heap.size, 0, none⟩ = some (.slice oa i oc) ∧ Wd.cell? ⟨ib, off + i, none⟩ = some (.slice va 64 vc))) (E := [14]) (by kernel_rfl) ?hSa (fun hHeld => ?resta)
        case hSa => exact ⟨d0, c0⟩
        case resta =>
          refine AnyE.take (i := 0) (v := .pointer (some ⟨w.heap.size, 0, none⟩)) rfl (by kernel_rfl) (by kernel_rfl) (by kernel_rfl) (by kernel_rfl) (fun _ _ _ h => h) (Or.inl ⟨by rfl, ?hy0⟩) hHeld ?r0
          case hy0 => (intro w hSw; (try dsimp only at hSw); clear hSw; go_simp; try with_reducible rfl)
          try simp only [Act.put, List.setIfInBounds_toArray, List.set_cons_zero, List.set_cons_succ, List.getElem_toArray, List.getElem_cons_zero]
          refine AnyE.take (i := 1) (v := .pointer (some ⟨w.heap.size, 0, none⟩)) rfl (by kernel_rfl) (by kernel_rfl) (by kernel_rfl) (by kernel_rfl) (fun _ _ _ h => h) (Or.inl ⟨by rfl, ?hy1⟩) hHeld ?r1
          case hy1 => (intro w hSw; (try dsimp only at hSw); clear hSw; go_simp; try with_reducible rfl)
          try simp only [Act.put, List.setIfInBounds_toArray, List.set_cons_zero, List.set_cons_succ, List.getElem_toArray, List.getElem_cons_zero, List.getElem_cons_succ]
          refine AnyE.take (i := 2) (v := .pointer (some ⟨w.heap.size, 0, none⟩)) rfl (by kernel_rfl) (by kernel_rfl) (by kernel_rfl) (by kernel_rfl) (fun _ _ _ h => h) (Or.inl ⟨by rfl, ?hy2⟩) hHeld ?r2
          case hy2 => (intro w hSw; (try dsimp only at hSw); clear hSw; go_simp; try with_reducible rfl)
          try simp only [Act.put, List.setIfInBounds_toArray, List.set_cons_zero, List.set_cons_succ, List.getElem_toArray, List.getElem_cons_zero, List.getElem_cons_succ]
          refine AnyE.take (i := 3) (v := .pointer (some ⟨w.heap.size, 0, none⟩)) rfl (by kernel_rfl) (by kernel_rfl) (by kernel_rfl) (by kernel_rfl) (fun _ _ _ h => h) (Or.inl ⟨by rfl, ?hy3⟩) hHeld ?r3
          case hy3 => (intro w hSw; (try dsimp only at hSw); clear hSw; go_simp; try with_reducible rfl)
          try simp only [Act.put, List.setIfInBounds_toArray, List.set_cons_zero, List.set_cons_succ, List.getElem_toArray, List.getElem_cons_zero, List.getElem_cons_succ]
          refine AnyE.take (i := 4) (v := .slice oa i oc) rfl (by kernel_rfl) (by kernel_rfl) (by kernel_rfl) (by kernel_rfl) (fun _ _ _ h => h) (Or.inl ⟨by rfl, ?hy4⟩) hHeld ?r4
          case hy4 => (intro w hSw; obtain ⟨hS1, hS2⟩ := hSw; go_simp; try with_reducible rfl)
          try simp only [Act.put, List.setIfInBounds_toArray, List.set_cons_zero, List.set_cons_succ, List.getElem_toArray, List.getElem_cons_zero, List.getElem_cons_succ]
          refine AnyE.take (i := 5) (v := .slice (some ⟨ib, off, none⟩) n cap) rfl (by kernel_rfl) (by kernel_rfl) (by kernel_rfl) (by kernel_rfl) (fun _ _ _ h => h) (Or.inl ⟨by rfl, ?hy5⟩) hHeld ?r5
          case hy5 => (intro w hSw; (try dsimp only at hSw); clear hSw; go_simp; try with_reducible rfl)
          try simp only [Act.put, List.setIfInBounds_toArray, List.set_cons_zero, List.set_cons_succ, List.getElem_toArray, List.getElem_cons_zero, List.getElem_cons_succ]
          refine AnyE.take (i := 6) (v := .int .i64 (i : Int)) rfl (by kernel_rfl) (by kernel_rfl) (by kernel_rfl) (by kernel_rfl) (fun _ _ _ h => h) (Or.inl ⟨by rfl, ?hy6⟩) hHeld ?r6
          case hy6 => (intro w hSw; (try dsimp only at hSw); clear hSw; go_simp; try with_reducible rfl)
          try simp only [Act.put, List.setIfInBounds_toArray, List.set_cons_zero, List.set_cons_succ, List.getElem_toArray, List.getElem_cons_zero, List.getElem_cons_succ]
          refine AnyE.take (i := 7) (v := .pointer (some ⟨ib, off + i, none⟩)) rfl (by kernel_rfl) (by kernel_rfl) (by kernel_rfl) (by kernel_rfl) (fun _ _ _ h => h) (Or.inl ⟨by rfl, ?hy7⟩) hHeld ?r7
          case hy7 => (intro w hSw; (try dsimp only at hSw); clear hSw; go_simp; try with_reducible rfl)
          try simp only [Act.put, List.setIfInBounds_toArray, List.set_cons_zero, List.set_cons_succ, List.getElem_toArray, List.getElem_cons_zero, List.getElem_cons_succ]
          refine AnyE.take (i := 8) (v := .slice va 64 vc) rfl (by kernel_rfl) (by kernel_rfl) (by kernel_rfl) (by kernel_rfl) (fun _ _ _ h => h) (Or.inl ⟨by rfl, ?hy8⟩) hHeld ?r8
          case hy8 => (intro w hSw; obtain ⟨hS1, hS2⟩ := hSw; go_simp; try with_reducible rfl)
          try simp only [Act.put, List.setIfInBounds_toArray, List.set_cons_zero, List.set_cons_succ, List.getElem_toArray, List.getElem_cons_zero, List.getElem_cons_succ]
          refine AnyE.ready (rs := [9]) (by kernel_rfl) (by simp) ?_
          refine (ReadyE.cons rfl (fun K hK => ?_) ReadyE.nil)
          go_simp
          refine hK.out _ _ ?hS9 (fun hHeld => ?r9)
          case hS9 => exact ⟨d0, c0⟩
          clear hK K
          try simp only [Act.put, List.setIfInBounds_toArray, List.set_cons_zero, List.set_cons_succ, List.getElem_toArray, List.getElem_cons_zero, List.getElem_cons_succ]
          obtain ⟨w5, hw5⟩ : ∃ w5, wr.drew = w5 := ⟨_, rfl⟩
          have B5 : Hid (Below wr.heap.size wr w5) := by rw [← hw5]; exact (Below.refl _ _).drew
          have LI : Hid (ib < wr.heap.size) := Nat.lt_of_lt_of_le hib BW.out.size
          rw [hw5]
          clear hw5 cv0 hHeld
          have B7 : Hid (Below wr.heap.size wr (w5.alloc (.cells #[.string (strOfNums x)] 9))) := B5.out.trans ((below1 w5 _).mono B5.out.size)
          have c7 : Hid ((w5.alloc (.cells #[.string (strOfNums x)] 9)).cell? ⟨w.heap.size, 0, none⟩ = some (.slice oa i oc)) := (B7.out.cell (p := ⟨w.heap.size, 0, none⟩) lb.out).trans d0
          have N7 : Hid ((w5.alloc (.cells #[.string (strOfNums x)] 9)).cell? ⟨w5.heap.size, 0, none⟩ = some (sT x)) := by
            rw [cell_of_row _ w5.heap.size 0 _ _ (0, 0) (heap_alloc_new w5 _)]
            rfl
          refine AnyE.ready (rs := [10]) (by kernel_rfl) (by simp) ?_
          refine (ReadyE.cons rfl (fun K hK => ?_) ReadyE.nil)
          go_simp
          refine hK.out _ _ ?hS10 (fun hHeld => ?r10)
          case hS10 => exact ⟨c7.out, (B7.out.cell (p := ⟨ib, off + i, none⟩) LI.out).trans c0⟩
          clear hK K
          try simp only [Act.put, List.setIfInBounds_toArray, List.set_cons_zero, List.set_cons_succ, List.getElem_toArray, List.getElem_cons_zero, List.getElem_cons_succ]
          refine AnyE.ready (rs := [11]) (by kernel_rfl) (by simp) ?_
          refine (ReadyE.cons rfl (fun K hK => ?_) ReadyE.nil)
          refine wp_textT (.tmp 32) (.tmp 38) rfl w.heap.size (.slice oa i oc) (firstM M i) rfl (PR.out.2.1.keep B7.out) w5.heap.size 1 x rfl N7.out (by rw [firstM_len]; omega) (Nat.le_trans BW.out.size B7.out.size) ?_
          intro g' c' w9 o9 hg9 hat
          have ln : (firstM M i).length = i := firstM_len M i
          have O9 : Hid (RowT w9 w.heap.size (.slice (some ⟨g', 0, none⟩) (i + 1) c') (firstM M (i + 1)) ∧ w.heap.size < g') := by
            have e : firstM M i ++ [x] = firstM M (i + 1) := by rw [← HX.out]; exact firstM_succ M i
            rw [ln, e] at o9
            refine ⟨o9, ?_⟩
            have := (o9.own g' rfl).1
            rcases hat with e | e
            · have := (PR.out.1.off.1 g' e).1; omega
            · have := B7.out.size; have := lb.out; omega
          have X9 : Hid (w9.heap[w.heap.size]? = some (.cells #[.slice oa i oc, .slice none 0 0, .int .i64 (-1), .bool false, .int .i64 0] 69)) := (hg9.block _ (Nat.lt_of_lt_of_le lb.out B7.out.size) (fun e => (PR.out.1.off.1 _ e.symm).1 rfl)).trans ((B7.out.block _ lb.out).trans PR.out.1.cell)
          have B9 : Hid (Below w.heap.size w w9) := (BW.out.trans (B7.out.mono BW.out.size)).grown hg9 (Nat.le_trans BW.out.size B7.out.size) (fun k e => (PR.out.2.1.own k e).1)
          have c9 : Hid (w9.cell? ⟨w.heap.size, 0, none⟩ = some (.slice oa i oc)) := (r5_of X9.out).1
          have C9 : Hid (w9.cell? ⟨ib, off + i, none⟩ = some (.slice va 64 vc)) := (B9.out.cell (p := ⟨ib, off + i, none⟩) hib).trans c00
          rw [ln]
          clear o9 hg9 hat
          refine hK.out _ _ ?hS11 (fun hHeld => ?r11)
          case hS11 => exact ⟨c9.out, C9.out⟩
          clear hK K
          try simp only [Act.put, List.setIfInBounds_toArray, List.set_cons_zero, List.set_cons_succ, List.getElem_toArray, List.getElem_cons_zero, List.getElem_cons_succ]
          refine AnyE.ready (rs := [12]) (by kernel_rfl) (by simp) ?_
          refine (ReadyE.cons rfl (fun K hK => ?_) ReadyE.nil)
          go_simp
          refine hK.out _ _ ?hS12 (fun hHeld => ?r12)
          case hS12 => exact ⟨c9.out, C9.out⟩
          clear hK K
          try simp only [Act.put, List.setIfInBounds_toArray, List.set_cons_zero, List.set_cons_succ, List.getElem_toArray, List.getElem_cons_zero, List.getElem_cons_succ]
          refine AnyE.ready (rs := [13]) (by kernel_rfl) (by simp) ?_
          refine (ReadyE.cons rfl (fun K hK => ?_) ReadyE.nil)
          go_simp
          refine hK.out _ _ ?hS13 (fun hHeld => ?r13)
          case hS13 => exact ⟨c9.out, C9.out⟩
          clear hK K
          try simp only [Act.put, List.setIfInBounds_toArray, List.set_cons_zero, List.set_cons_succ, List.getElem_toArray, List.getElem_cons_zero, List.getElem_cons_succ]
          refine AnyE.ready (rs := [14]) (by kernel_rfl) (by simp) ?_
          refine ReadyE.last rfl (by simp) (fun K hK => ?_) ReadyE.nil
          refine wp_store_val 46 (.tmp 41) (.tmp 39) rfl w.heap.size 0 (.slice (some ⟨g', 0, none⟩) (i + 1) c') rfl rfl rfl rfl (by rw [c9.out]; rfl) (frozen_not X9.out 0) (by kernel_rfl) ?_
          have G10 := grown_set w9 w.heap.size 0 (.slice (some ⟨g', 0, none⟩) (i + 1) c')
          have R10 : RowT (w9.setCell ⟨w.heap.size, 0, none⟩ (.slice (some ⟨g', 0, none⟩) (i + 1) c')) w.heap.size (.slice (some ⟨g', 0, none⟩) (i + 1) c') (firstM M (i + 1)) := O9.out.1.kept fun k hk => by
            have e : g' = k := by simpa [Value.ownBlock] using hk
            subst e
            exact G10.block _ (O9.out.1.own g' rfl).2 (by have := O9.out.2; simp; omega)
          have P10 : Hid (RkP (w9.setCell ⟨w.heap.size, 0, none⟩ (.slice (some ⟨g', 0, none⟩) (i + 1) c')) w.heap.size (firstM M (i + 1)) [] false 0 (-1) (.slice (some ⟨g', 0, none⟩) (i + 1) c') (.slice none 0 0) ∧ RowT (w9.setCell ⟨w.heap.size, 0, none⟩ (.slice (some ⟨g', 0, none⟩) (i + 1) c')) w.heap.size (.slice (some ⟨g', 0, none⟩) (i + 1) c') (firstM M (i + 1)) ∧ ∀ j, j < i + 1 → (M j).length = 64) := by
            refine ⟨⟨set_own w9 w.heap.size 0 _ _ X9.out _, ⟨R10.1, ?_⟩, OwnN.nil _ _⟩, R10, fun j hj => by
              by_cases e : j = i
              · rw [e]; exact R2.out
              · exact PR.out.2.2 j (by omega)⟩
            rcases R10.2 with h | ⟨g, c, cur, e, _, rest⟩
            · exact .inl h
            · exact .inr ⟨g, c, cur, e, Nat.zero_le _, rest⟩
          have B10 : Hid (Below w.heap.size w (w9.setCell ⟨w.heap.size, 0, none⟩ (.slice (some ⟨g', 0, none⟩) (i + 1) c'))) := B9.out.grown G10 B9.out.size (fun k e => by have := Option.some.inj e; omega)
          refine hK.out _ _ ?_
          clear hK K
          try simp only [Act.put, List.setIfInBounds_toArray, List.set_cons_zero, List.set_cons_succ, List.getElem_toArray, List.getElem_cons_zero, List.getElem_cons_succ]
          refine AnyE.done (by kernel_rfl) ?_ _
          go_wp2_with fail
          go_roundg (n - (i + 1))
          case measure => omega
          case rel => exact ⟨i + 1, some ⟨g', 0, none⟩, c', by omega, rfl, by simp, P10, B10⟩
      · have e1 : ((vl : Int) != 64) = true := by simp; omega
        go_wp2_with fail
        go_ret2
        exact ⟨BW.out, .inl ⟨⟨i, hi, by rw [r2]; exact hl⟩, rfl⟩⟩
    · have g1 : decide ((i : Int) < (n : Int)) = false := by rw [decide_eq_false_iff_not]; omega
      obtain rfl : i = n := by omega
      go_wp2_with fail
      go_ret2
      refine ⟨BW.out, .inr ⟨PR.out.2.2, w.heap.size, RFp w.heap.size (.slice oa i oc) (.slice none 0 0), rfl, ⟨[], _, _, PR.out.1, fun _ => Iff.rfl, fun _ => rfl, ⟨by rw [show (Ds.of M i).D.length = i from firstM_len M i]; exact h1, by rw [show (Ds.of M i).D.length = i from firstM_len M i]; exact h2⟩, Nat.zero_le _, ⟨Int.le_refl _, Int.le_refl _⟩, by show (-1 : Int) ≤ _; omega⟩, fun k hk => ?_⟩⟩
      rcases hk with e | e | e
      · omega
      · exact (PR.out.2.1.own k e).1
      · simp [Value.ownBlock] at e
end Go.Proofs.Ytibgfjnddhfgpaa
