/- The step of twice as many bytes: squared. -/
import Derived.Test.YtbeeekmhnigelaaCrcJ
import Derived.Deep.RegionWith
import Derived.Deep.RegionHeld3
namespace Go.Proofs.Ytbeeekmhnigelaa
open Go.ChangeShapes Go.WideShapes Go.ChangeAt Go.RowKit Go.Deep
set_option linter.unusedVariables false
theorem lt_of_heap {w : World} {b : Nat} {o : Obj} (h : w.heap[b]? = some o) : b < w.heap.size := (Array.getElem?_eq_some_iff.1 h).1
theorem heap_setCell_own (w : World) (b i : Nat) (cs : Array Value) (t : TypeId) (fr : Nat × Nat) (h : w.heap[b]? = some (.cells cs t fr)) (v : Value) : (w.setCell ⟨b, i, none⟩ v).heap[b]? = some (.cells (cs.setIfInBounds i v) t fr) := by
  simp [World.setCell, Array.getElem?_modify, h]
theorem heap_first (w : World) (a b c : Obj) : (((w.alloc a).alloc b).alloc c).heap[w.heap.size]? = some a := by
  rw [Below.heap_alloc _ _ _ (by simp; omega), Below.heap_alloc _ _ _ (by simp)]
  exact heap_alloc_last w a
theorem heap_second (w : World) (a b c : Obj) : (((w.alloc a).alloc b).alloc c).heap[w.heap.size + 1]? = some b := by
  rw [Below.heap_alloc _ _ _ (by simp)]
  have := heap_alloc_last (w.alloc a) b
  rwa [World.size_alloc] at this
theorem heap_third (w : World) (a b c : Obj) : (((w.alloc a).alloc b).alloc c).heap[w.heap.size + 2]? = some c := by
  have := heap_alloc_last ((w.alloc a).alloc b) c
  rwa [World.size_alloc, World.size_alloc] at this
theorem load_row_run (w : World) (a : Act) (o : Oper) (ty : TypeId) (x : Operand) (ho : o.op = .load ty x) (g : Nat) (hx : a.eval x = .pointer (some ⟨g, 0, none⟩)) (t : TypeId) (cs : Array Value) (fr : Nat × Nat) (n : Nat) (e : TypeId) (hg : w.heap[g]? = some (.cells cs t fr))
    (hu : Try.prog.underlying ty = some (.array n e)) (hi : (Try.prog.info? ty).map (·.size) = some cs.size) :
    (execOp a.eval o).run Try.prog w = .ok (.value (.agg cs)) w := by
  unfold execOp
  simp only [ho, hx, Instr.loadAt, Instr.sureAddr, Sem.run_bind, Sem.run_pure, Result.andThen_ok, run_loadVar_row w g t ty cs fr _ hg hu rfl hi]
set_option maxHeartbeats 1000000 in
theorem squared_is (m : Nat) (w : World) :
    Calls Try.prog 19 #[.agg (stC m 32)] w fun e w' => e = .returned (.agg (stC (m + m) 32)) ∧ Below w.heap.size w w' := by
  obtain ⟨N, hN⟩ : ∃ N, N = w.heap.size := ⟨_, rfl⟩
  go_enter Try.func19, Try.ntmps19
  go_wp2
  rw [← hN]
  have HN : Hid (N = w.heap.size) := hN
  clear hN
  go_loopg [5] 32 (fun g i wr => ∃ c : Nat, c ≤ 32 ∧ g = 32 - c ∧ i = .int .i64 c ∧ Below N w wr ∧ wr.heap[N]? = some (.cells (stC m 32) 44) ∧ wr.heap[N + 1]? = some (.cells (stC 8 0) 44) ∧ wr.heap[N + 2]? = some (.cells (stC (m + m) c) 44))
  case atStart =>
    refine ⟨0, Nat.zero_le _, rfl, rfl, ?_, ?_, ?_, ?_⟩
    · exact (((Below.refl _ _).alloc (Nat.le_of_eq HN.out) _).alloc (by rw [HN.out]; simp) _).alloc (by rw [HN.out]; simp; omega) _
    · have hN := HN.out; subst hN
      exact heap_first _ _ _ _
    · have hN := HN.out; subst hN
      rw [st0]
      exact heap_second _ _ _ _
    · have hN := HN.out; subst hN
      rw [stC_zero, ← stC_zero 8, st0]
      exact heap_third _ _ _ _
  case round =>
    obtain ⟨c, hc, rfl, rfl, hbel, h0, h1, h2⟩ := hrel
    by_cases hlt : c < 32
    · have hget := stC_get m 32 c hlt
      rw [if_pos hlt] at hget
      have hy : shs m (2 ^ c) < 4294967296 := shs_lt _ _ (two_pow_lt c hlt)
      have HS : Hid ((stC (m + m) c).setIfInBounds c (.int .u32 (shs (m + m) (2 ^ c) : Nat)) = stC (m + m) (c + 1)) := stC_step (m + m) c hlt
      have HA : Hid (shs (m + m) (2 ^ c) = shs m (shs m (2 ^ c))) := shs_add m m _
      go_wp2_with fail
      have hcell : wr.cell? ⟨N, c, none⟩ = some (.int .u32 (shs m (2 ^ c) : Nat)) := by rw [cell_of_row _ _ c _ _ (0, 0) h0]; exact hget
      refine wp_region_noPanic ?_
      refine wp_region_held_drew (S := (fun W : World => W.heap[N]? = some (.cells (stC m 32) 44) ∧ W.cell? ⟨N, c, none⟩ = some (.int .u32 (shs m (2 ^ c) : Nat)))) (by kernel_rfl) ?hSa (fun hHeld => ?resta)
      case hSa => exact ⟨h0, hcell⟩
      case resta =>
        refine wpAnyH_take (i := 0) (v := ?v0) rfl (by kernel_rfl) (by kernel_rfl) (by kernel_rfl) (fun _ _ _ h => h) (Or.inl ⟨by rfl, ?hy0⟩) hHeld ?rest0
        case hy0 => (intro w hSw; (try dsimp only at hSw); go_simp; try with_reducible rfl)
        try simp only [Act.put, List.setIfInBounds_toArray, List.set_cons_zero, List.set_cons_succ, List.getElem_toArray, List.getElem_cons_zero]
        refine wpAnyH_take (i := 2) (v := ?v2) rfl (by kernel_rfl) (by kernel_rfl) (by kernel_rfl) (fun _ _ _ h => h) (Or.inl ⟨by rfl, ?hy2⟩) hHeld ?rest2
        case hy2 => (intro w hSw; (try dsimp only at hSw); go_simp; try with_reducible rfl)
        try simp only [Act.put, List.setIfInBounds_toArray, List.set_cons_zero, List.set_cons_succ, List.getElem_toArray, List.getElem_cons_zero, List.getElem_cons_succ]
        refine wpAnyH_take (i := 1) (v := .agg (stC m 32)) rfl (by kernel_rfl) (by kernel_rfl) (by kernel_rfl) (fun _ _ _ h => h) (Or.inl ⟨by rfl, ?hy1⟩) hHeld ?rest1
        case hy1 => (intro w hSw; exact load_row_run _ _ _ _ (.tmp 1) rfl N rfl _ _ _ _ _ hSw.1 Try.underlying44 (size44 _ _))
        try simp only [Act.put, List.setIfInBounds_toArray, List.set_cons_zero, List.set_cons_succ, List.getElem_toArray, List.getElem_cons_zero, List.getElem_cons_succ]
        refine wpAnyH_take (i := 3) (v := ?v3) rfl (by kernel_rfl) (by kernel_rfl) (by kernel_rfl) (fun _ _ _ h => h) (Or.inl ⟨by rfl, ?hy3⟩) hHeld ?rest3
        case hy3 => (intro w hSw; (try dsimp only at hSw); go_simp; try with_reducible rfl)
        try simp only [Act.put, List.setIfInBounds_toArray, List.set_cons_zero, List.set_cons_succ, List.getElem_toArray, List.getElem_cons_zero, List.getElem_cons_succ]
        refine wpAnyH_take (i := 4) (v := .int .u32 (shs m (2 ^ c) : Nat)) rfl (by kernel_rfl) (by kernel_rfl) (by kernel_rfl) (fun _ _ _ h => h) (Or.inl ⟨by rfl, ?hy4⟩) hHeld ?rest4
        case hy4 => (intro w hSw; obtain ⟨_, hS2⟩ := hSw; go_simp; try with_reducible rfl)
        try simp only [Act.put, List.setIfInBounds_toArray, List.set_cons_zero, List.set_cons_succ, List.getElem_toArray, List.getElem_cons_zero, List.getElem_cons_succ]
        have g0 : (wr.alloc (.cells (stC m 32) 44)).drew.heap[N]? = some (.cells (stC m 32) 44) := (Below.heap_alloc wr _ N (lt_of_heap h0)).trans h0
        have g1 : (wr.alloc (.cells (stC m 32) 44)).drew.heap[N + 1]? = some (.cells (stC 8 0) 44) := (Below.heap_alloc wr _ (N + 1) (lt_of_heap h1)).trans h1
        have g2 : (wr.alloc (.cells (stC m 32) 44)).drew.heap[N + 1 + 1]? = some (.cells (stC (m + m) c) 44) := (Below.heap_alloc wr _ (N + 2) (lt_of_heap h2)).trans h2
        have c2 : (wr.alloc (.cells (stC m 32) 44)).drew.cell? ⟨N + 1 + 1, c, none⟩ = some (.int .u32 0) := by rw [cell_of_row _ _ c _ _ (0, 0) g2, stC_get (m + m) c c hlt, if_neg (Nat.lt_irrefl c)]
        have c0 : (wr.alloc (.cells (stC m 32) 44)).drew.cell? ⟨N, c, none⟩ = some (.int .u32 (shs m (2 ^ c) : Nat)) := by rw [cell_of_row _ _ c _ _ (0, 0) g0]; exact hget
        have bel1 : Below N w (wr.alloc (.cells (stC m 32) 44)).drew := (hbel.alloc (Nat.le_of_lt (lt_of_heap h0)) _).drew
        have G : Hid ((wr.alloc (.cells (stC m 32) 44)).drew.heap[N]? = some (.cells (stC m 32) 44) ∧ (wr.alloc (.cells (stC m 32) 44)).drew.heap[N + 1]? = some (.cells (stC 8 0) 44) ∧ (wr.alloc (.cells (stC m 32) 44)).drew.heap[N + 1 + 1]? = some (.cells (stC (m + m) c) 44) ∧ (wr.alloc (.cells (stC m 32) 44)).drew.cell? ⟨N, c, none⟩ = some (.int .u32 (shs m (2 ^ c) : Nat)) ∧ Below N w (wr.alloc (.cells (stC m 32) 44)).drew ∧ (wr.alloc (.cells (stC m 32) 44)).drew.cell? ⟨N + 1 + 1, c, none⟩ = some (.int .u32 0)) := ⟨g0, g1, g2, c0, bel1, c2⟩
        clear g0 g1 g2 c0 bel1 c2 hget
        refine wpAnyH_ready (rs := [5]) (by kernel_rfl) (by simp) ?_
        refine AllReadyH.cons rfl (fun K hK => ?_) AllReadyH.nil
        go_simp; refine (of_is m _ hy _).mono ?_; rintro e w' ⟨rfl, hw⟩; obtain rfl := hw.symm; clear hw; go_wp2_with fail
        refine hK.out _ _ ?hS5 (fun hHeld => ?rest5)
        case hS5 => exact ⟨G.out.1, G.out.2.2.2.1⟩
        clear hK K
        try simp only [Act.put, List.setIfInBounds_toArray, List.set_cons_zero, List.set_cons_succ, List.getElem_toArray, List.getElem_cons_zero, List.getElem_cons_succ]
        have c2 := G.out.2.2.2.2.2
        have fz : (wr.alloc (.cells (stC m 32) 44)).drew.frozen? ⟨N + 1 + 1, c, none⟩ = false := by simp only [World.frozen?, G.out.2.2.1]; simp
        refine wpAnyH_take (i := 6) (v := ?v6) rfl (by kernel_rfl) (by kernel_rfl) (by kernel_rfl) (fun _ _ _ h => h) (Or.inl ⟨by rfl, ?hy6⟩) hHeld ?rest6
        case hy6 => (intro w hSw; (try dsimp only at hSw); go_simp; try with_reducible rfl)
        try simp only [Act.put, List.setIfInBounds_toArray, List.set_cons_zero, List.set_cons_succ, List.getElem_toArray, List.getElem_cons_zero, List.getElem_cons_succ]
        have KW : Hid (((wr.alloc (.cells (stC m 32) 44)).drew.setCell ⟨N + 1 + 1, c, none⟩ (.int .u32 (shs m (shs m (2 ^ c)) : Nat))).heap[N]? = some (.cells (stC m 32) 44) ∧ ((wr.alloc (.cells (stC m 32) 44)).drew.setCell ⟨N + 1 + 1, c, none⟩ (.int .u32 (shs m (shs m (2 ^ c)) : Nat))).cell? ⟨N, c, none⟩ = some (.int .u32 (shs m (2 ^ c) : Nat)) ∧ ((wr.alloc (.cells (stC m 32) 44)).drew.setCell ⟨N + 1 + 1, c, none⟩ (.int .u32 (shs m (shs m (2 ^ c)) : Nat))).heap[N + 1]? = some (.cells (stC 8 0) 44) ∧ ((wr.alloc (.cells (stC m 32) 44)).drew.setCell ⟨N + 1 + 1, c, none⟩ (.int .u32 (shs m (shs m (2 ^ c)) : Nat))).heap[N + 2]? = some (.cells (stC (m + m) (c + 1)) 44) ∧ Below N w ((wr.alloc (.cells (stC m 32) 44)).drew.setCell ⟨N + 1 + 1, c, none⟩ (.int .u32 (shs m (shs m (2 ^ c)) : Nat)))) := by
          have hget := stC_get m 32 c hlt
          rw [if_pos hlt] at hget
          obtain ⟨g0, g1, g2, c0, b1, c2⟩ := G.out
          have k0 : ((wr.alloc (.cells (stC m 32) 44)).drew.setCell ⟨N + 1 + 1, c, none⟩ (.int .u32 (shs m (shs m (2 ^ c)) : Nat))).heap[N]? = some (.cells (stC m 32) 44) := (Below.heap_setCell _ _ _ N (by show N ≠ N + 1 + 1; omega)).trans g0
          have k2 := heap_setCell_own _ (N + 1 + 1) c _ _ _ g2 (.int .u32 (shs m (shs m (2 ^ c)) : Nat))
          rw [← HA.out, HS.out, HA.out] at k2
          exact ⟨k0, by rw [cell_of_row _ _ c _ _ (0, 0) k0]; exact hget, (Below.heap_setCell _ _ _ (N + 1) (by show N + 1 ≠ N + 1 + 1; omega)).trans g1, k2, b1.setCell (by show N ≤ N + 1 + 1; omega) _⟩
        refine wpAnyH_ready (rs := [7]) (by kernel_rfl) (by simp) ?_
        refine AllReadyH.cons rfl (fun K hK => ?_) AllReadyH.nil
        go_wp2_with fail
        refine hK.out _ _ ?hS7 (fun hHeld => ?rest7)
        case hS7 => exact ⟨KW.out.1, KW.out.2.1⟩
        clear hK K
        try simp only [Act.put, List.setIfInBounds_toArray, List.set_cons_zero, List.set_cons_succ, List.getElem_toArray, List.getElem_cons_zero, List.getElem_cons_succ]
        refine wpAnyH_done (by kernel_rfl) ?_ _
        refine NoPanic.normal ?_
        go_wp2_with fail
        go_roundg (32 - (c + 1))
        case measure => omega
        case rel => exact ⟨c + 1, by omega, rfl, by go_num, KW.out.2.2.2.2, KW.out.1, KW.out.2.2.1, KW.out.2.2.2.1⟩
    · have e : c = 32 := by omega
      subst e
      have HB : Hid (Below N w wr) := hbel
      have H1 : Hid (wr.heap[N + 1]? = some (.cells (stC 8 0) 44)) := h1
      have H2 : Hid (wr.heap[N + 1 + 1]? = some (.cells (stC (m + m) 32) 44)) := h2
      clear hbel h0 h1 h2
      go_wp2_with (first | (refine wpList_load_row rfl 44 (.tmp 3) rfl (N + 1 + 1) rfl 44 (stC (m + m) 32) (0, 0) _ H2.out Try.underlying44 rfl (size44 _ _) ?_) | (refine wpList_store_row rfl 44 (.tmp 2) (.tmp 16) rfl (N + 1) (stC (m + m) 32) rfl rfl 44 (stC 8 0) H1.out (size44 _ _) (by simp only [stC_size]) (stC_one _ _) ?_))
      refine bodyPost_ret (results_cell_row rfl _ _ (N + 1) 44 (stC (m + m) 32) (0, 0) _ rfl (setRow_heap _ _ _ _ _ _ H1.out) Try.underlying44 rfl (size44 _ _)) rfl ⟨rfl, ?_⟩
      rw [← HN.out]
      exact below_setRow HB.out (by omega) _
end Go.Proofs.Ytbeeekmhnigelaa
