/- References held against each other; the document's Same of manifests. The document's Same of packages (gen_pu.py). -/
import Derived.Test.YthaeidbnbgghkaaMgCz4
import Derived.Laws.StructEq
namespace Go.Proofs.Ythaeidbnbgghkaa
open Go.ChangeShapes Go.WideShapes Go.ChangeAt Go.RowKit Go.Deep Go.Maps
set_option linter.unusedVariables false
theorem sizeDg_run (w : World) : (sizeOf 107).run Try.prog w = .ok 32 w := by
  cases hq : Try.prog.info? 107 with
  | none => have := sizeDg; rw [hq] at this; simp at this
  | some i =>
    have := sizeDg
    rw [hq] at this
    simp at this
    simp [sizeOf, typeInfo, hq, this]
theorem rcl_part (x : Rf) (hx : x.1.length = 32) (w : World) : (part 107 (rcl x).toArray 0).run Try.prog w = .ok (.agg (u8s x.1)) w := by
  have e : (rcl x).toArray.extract 0 (0 + 32) = u8s x.1 := by
    unfold rcl u8s
    simp [hx]
  simp only [part, isAgg, Sem.run_bind, run_underlying Try.underlying107, Result.andThen_ok, Sem.run_pure, if_true, sizeDg_run, e]
theorem rcl_part2 (x : Rf) (hx : x.1.length = 32) (w : World) : (part 3 (rcl x).toArray 32).run Try.prog w = .ok (.int .i64 x.2) w := by
  have e : (rcl x).toArray[32]? = some (.int .i64 x.2) := by
    unfold rcl
    simp [hx]
  simp [part, isAgg, run_underlying Try.underlying3, e]
theorem equal_ref (d : Nat) (x y : Rf) (hx : x.1.length = 32) (hy : y.1.length = 32) (w : World) : (Op.equalIn (d + 3) 109 (.agg (rcl x).toArray) (.agg (rcl y).toArray)).run Try.prog w = .ok (decide (x = y)) w := by
  rw [run_equalIn_struct w (d + 2) 109 _ _ (by simp [Program.fieldsOf, Try.underlying109]) (by kernel_rfl)]
  have ex : decide (x = y) = (decide (x.1 = y.1) && decide (x.2 = y.2)) := by
    obtain ⟨a, b⟩ := x
    obtain ⟨c, e⟩ := y
    rw [Bool.eq_iff_iff]
    simp
  rw [ex]
  simp only [Program.fieldsOf, Try.underlying109, Op.eqFields]
  simp [rcl_part x hx, rcl_part y hy, rcl_part2 x hx, rcl_part2 y hy, equal_digest d x.1 y.1 hx hy, run_equalIn_int w (d + 1) 3 .i64 .i64 _ _ Try.underlying3]
  by_cases h1 : x.1 = y.1 <;> by_cases h2 : x.2 = y.2 <;> simp [h1, h2]
theorem guardR : Try.prog.eqGuardType Try.prog.depth 109 = false := by kernel_rfl
theorem two_boxes {w : World} {a b : Obj} : ((w.alloc a).alloc b).heap[w.heap.size]? = some a ∧ ((w.alloc a).alloc b).heap[w.heap.size + 1]? = some b ∧ w.heap.size + 1 < ((w.alloc a).alloc b).heap.size ∧ Below w.heap.size w ((w.alloc a).alloc b) := by
  have e1 : (w.alloc a).heap.size = w.heap.size + 1 := by simp
  have h1 : Below w.heap.size w (w.alloc a) := (Below.refl _ _).alloc (Nat.le_refl _) _
  have h2 : Below (w.heap.size + 1) (w.alloc a) ((w.alloc a).alloc b) := (Below.refl _ _).alloc (by omega) _
  refine ⟨(h2.block _ (by omega)).trans (heap_alloc_new w a), ?_, by simp, h1.trans (h2.mono (by omega))⟩
  have := heap_alloc_new (w.alloc a) b
  rwa [e1] at this
set_option maxRecDepth 100000 in
set_option maxHeartbeats 8000000 in
theorem rmsame_is (m1 m2 : Mf) (n1 n2 c1 c2 : Nat) (a1 a2 : Option Addr) (w : World) (hn1 : m1.2.2.length = n1) (hn2 : m2.2.2.length = n2) (hb1 : n1 ≤ 4611686018427387904) (hb2 : n2 ≤ 4611686018427387904) (hd1 : Dgs m1.2.2) (hd2 : Dgs m2.2.2) (hi1 : InR w a1 m1.2.2) (hi2 : InR w a2 m2.2.2) :
    Calls Try.prog 66 #[mv m1 a1 n1 c1, mv m2 a2 n2 c2] w fun e w' => e = .returned (.bool (decide (m1 = m2))) ∧ Below w.heap.size w w' := by
  obtain ⟨N1, V1, l1⟩ := m1
  obtain ⟨N2, V2, l2⟩ := m2
  simp only at *
  obtain ⟨r, hr⟩ : ∃ r, r = decide ((N1, V1, l1) = (N2, V2, l2)) := ⟨_, rfl⟩
  have HR : Hid (r = (decide (N1 = N2) && (decide (V1 = V2) && decide (l1 = l2)))) := by
    show _ = _
    rw [hr, Bool.eq_iff_iff]
    simp
  rw [← hr]
  clear hr
  unfold mv
  simp only
  have tN := tx_eq N1 N2
  have tV := tx_eq V1 V2
  obtain ⟨W0, hW0⟩ : ∃ W0, W0 = (w.alloc (.cells #[.string (tx N1), .string (tx V1), .slice a1 n1 c1] 92)).alloc (.cells #[.string (tx N2), .string (tx V2), .slice a2 n2 c2] 92) := ⟨_, rfl⟩
  obtain ⟨ga, gb, hlt0, hB⟩ := two_boxes (w := w) (a := .cells #[.string (tx N1), .string (tx V1), .slice a1 n1 c1] 92) (b := .cells #[.string (tx N2), .string (tx V2), .slice a2 n2 c2] 92)
  rw [← hW0] at ga gb hlt0 hB
  have B0 : Hid (Below w.heap.size w W0) := hB
  have I1 : Hid (InR W0 a1 l1) := hi1.keep B0.out
  have I2 : Hid (InR W0 a2 l2) := hi2.keep B0.out
  have D1 : Hid (Dgs l1) := hd1
  have D2 : Hid (Dgs l2) := hd2
  have H1 : Hid (l1.length = n1) := hn1
  have H2 : Hid (l2.length = n2) := hn2
  have x0 : W0.cell? ⟨w.heap.size, 0, none⟩ = some (.string (tx N1)) := by rw [cell_of_row W0 _ 0 _ _ _ ga]; rfl
  have x1 : W0.cell? ⟨w.heap.size, 1, none⟩ = some (.string (tx V1)) := by rw [cell_of_row W0 _ 1 _ _ _ ga]; rfl
  have x2 : W0.cell? ⟨w.heap.size, 2, none⟩ = some (.slice a1 n1 c1) := by rw [cell_of_row W0 _ 2 _ _ _ ga]; rfl
  have y0 : W0.cell? ⟨w.heap.size + 1, 0, none⟩ = some (.string (tx N2)) := by rw [cell_of_row W0 _ 0 _ _ _ gb]; rfl
  have y1 : W0.cell? ⟨w.heap.size + 1, 1, none⟩ = some (.string (tx V2)) := by rw [cell_of_row W0 _ 1 _ _ _ gb]; rfl
  have y2 : W0.cell? ⟨w.heap.size + 1, 2, none⟩ = some (.slice a2 n2 c2) := by rw [cell_of_row W0 _ 2 _ _ _ gb]; rfl
  have X2 : Hid (W0.cell? ⟨w.heap.size, 2, none⟩ = some (.slice a1 n1 c1)) := x2
  have Y2 : Hid (W0.cell? ⟨w.heap.size + 1, 2, none⟩ = some (.slice a2 n2 c2)) := y2
  have HW0 : Hid ((w.alloc (.cells #[.string (tx N1), .string (tx V1), .slice a1 n1 c1] 92)).alloc (.cells #[.string (tx N2), .string (tx V2), .slice a2 n2 c2] 92) = W0) := hW0.symm
  clear hi1 hi2 hd1 hd2 hn1 hn2 hW0 ga gb hB
  have HB2 : Hid (Below w.heap.size w ((w.alloc (.cells #[.string (tx N1), .string (tx V1), .slice a1 n1 c1] 92)).alloc (.cells #[.string (tx N2), .string (tx V2), .slice a2 n2 c2] 92))) := by rw [HW0.out]; exact B0
  by_cases hN : N1 = N2
  · rw [decide_eq_true hN] at tN
    by_cases hV : V1 = V2
    · rw [decide_eq_true hV] at tV
      have HR2 : Hid (r = decide (l1 = l2)) := by show _ = _; rw [HR.out, decide_eq_true hN, decide_eq_true hV]; rfl
      clear HR hN hV
      by_cases hne : n1 = n2
      · subst hne
        have e0 : ((n1 : Int) != (n1 : Int)) = false := by simp
        clear x0 x1 x2 y0 y1 y2 HB2
        go_enter Try.func66, Try.ntmps66
        go_wp2_with fail
        rw [HW0.out]
        go_loopg [5] n1 (fun g i wr => ∃ (j : Nat), j ≤ n1 ∧ g = n1 - j ∧ i = .int .i64 j ∧ Hid (l1.take j = l2.take j) ∧ Hid (Below W0.heap.size W0 wr))
        case atStart => exact ⟨0, Nat.zero_le _, rfl, rfl, rfl, Below.refl _ _⟩
        case round =>
          obtain ⟨j, hj, rfl, rfl, HT, HW⟩ := hrel
          have d1 : wr.cell? ⟨w.heap.size, 2, none⟩ = some (.slice a1 n1 c1) := (HW.out.cell (p := ⟨w.heap.size, 2, none⟩) (Nat.lt_of_succ_lt hlt0)).trans X2.out
          have d2 : wr.cell? ⟨w.heap.size + 1, 2, none⟩ = some (.slice a2 n1 c2) := (HW.out.cell (p := ⟨w.heap.size + 1, 2, none⟩) hlt0).trans Y2.out
          have HBB : Hid (Below w.heap.size w wr) := B0.out.trans (HW.out.mono B0.out.size)
          by_cases hlt : j < n1
          · have j1 : (j : Int) < (n1 : Int) := by omega
            obtain ⟨x, hx⟩ : ∃ x, l1[j]? = some x := ⟨l1[j]'(by rw [H1.out]; exact hlt), by simp [H1.out, hlt]⟩
            obtain ⟨y, hy⟩ : ∃ y, l2[j]? = some y := ⟨l2[j]'(by rw [H2.out]; exact hlt), by simp [H2.out, hlt]⟩
            obtain ⟨b1, o1, rfl, hbw1, hr1⟩ := I1.out.at hx
            obtain ⟨b2, o2, rfl, hbw2, hr2⟩ := I2.out.at hy
            have hx32 := (D1.out x (List.mem_of_getElem? hx)).1
            have hy32 := (D2.out y (List.mem_of_getElem? hy)).1
            have RX : Hid (wr.rangeAt b1 (o1 + j * 33) (rcl x)) := rangeAt_below hr1 HW.out hbw1
            have RY : Hid (wr.rangeAt b2 (o2 + j * 33) (rcl y)) := rangeAt_below hr2 HW.out hbw2
            have HLX : Hid ((rcl x).length = 33) := rcl_len hx32
            have HLY : Hid ((rcl y).length = 33) := rcl_len hy32
            have hq : ∀ w, (Op.equalIn 10000 109 (.agg (rcl x).toArray) (.agg (rcl y).toArray)).run Try.prog w = .ok (decide (x = y)) w := equal_ref 9997 x y hx32 hy32
            have hgd := guardR
            have HX : Hid (l1[j]? = some x) := hx
            have HY : Hid (l2[j]? = some y) := hy
            clear hx hy hr1 hr2 hx32 hy32
            generalize hEX : rcl x = EX at *
            generalize hEY : rcl y = EY at *
            clear hEX hEY
            by_cases hxy : x = y
            · rw [decide_eq_true hxy] at hq
              have HT2 : Hid (l1.take (j + 1) = l2.take (j + 1)) := by
                show _ = _
                obtain ⟨q1, e1⟩ := List.getElem?_eq_some_iff.1 HX.out
                obtain ⟨q2, e2⟩ := List.getElem?_eq_some_iff.1 HY.out
                rw [List.take_succ_eq_append_getElem q1, List.take_succ_eq_append_getElem q2, HT.out, e1, e2, hxy]
              clear hxy HX HY
              go_wp2_with fail
              refine wp_region_noPanic ?_
              refine wp_region_held_drew (S := (fun W : World => W.cell? ⟨w.heap.size, 2, none⟩ = some (.slice (some ⟨b1, o1, none⟩) n1 c1) ∧ W.cell? ⟨w.heap.size + 1, 2, none⟩ = some (.slice (some ⟨b2, o2, none⟩) n1 c2) ∧ W.rangeAt b1 (o1 + j * 33) EX ∧ W.rangeAt b2 (o2 + j * 33) EY)) (by kernel_rfl) ?hSaa (fun hHeld => ?restaa)
              case hSaa => exact ⟨d1, d2, RX.out, RY.out⟩
              case restaa =>
              refine wpAnyH_take (i := 0) (v := ?v0a) rfl (by kernel_rfl) (by kernel_rfl) (by kernel_rfl) (fun _ _ _ h => h) (Or.inl ⟨by rfl, ?hy0a⟩) hHeld ?rest0a
              case hy0a => (intro w hSw; (try dsimp only at hSw); go_simp; try with_reducible rfl)
              try simp only [Act.put, List.setIfInBounds_toArray, List.set_cons_zero, List.set_cons_succ, List.getElem_toArray, List.getElem_cons_zero]
              refine wpAnyH_take (i := 1) (v := ?v1a) rfl (by kernel_rfl) (by kernel_rfl) (by kernel_rfl) (fun _ _ _ h => h) (Or.inl ⟨by rfl, ?hy1a⟩) hHeld ?rest1a
              case hy1a => (intro w hSw; (try dsimp only at hSw); go_simp; try with_reducible rfl)
              try simp only [Act.put, List.setIfInBounds_toArray, List.set_cons_zero, List.set_cons_succ, List.getElem_toArray, List.getElem_cons_zero, List.getElem_cons_succ]
              refine wpAnyH_take (i := 2) (v := ?v2a) rfl (by kernel_rfl) (by kernel_rfl) (by kernel_rfl) (fun _ _ _ h => h) (Or.inl ⟨by rfl, ?hy2a⟩) hHeld ?rest2a
              case hy2a => (intro w hSw; (try dsimp only at hSw); go_simp; try with_reducible rfl)
              try simp only [Act.put, List.setIfInBounds_toArray, List.set_cons_zero, List.set_cons_succ, List.getElem_toArray, List.getElem_cons_zero, List.getElem_cons_succ]
              refine wpAnyH_take (i := 3) (v := ?v3a) rfl (by kernel_rfl) (by kernel_rfl) (by kernel_rfl) (fun _ _ _ h => h) (Or.inl ⟨by rfl, ?hy3a⟩) hHeld ?rest3a
              case hy3a => (intro w hSw; (try dsimp only at hSw); go_simp; try with_reducible rfl)
              try simp only [Act.put, List.setIfInBounds_toArray, List.set_cons_zero, List.set_cons_succ, List.getElem_toArray, List.getElem_cons_zero, List.getElem_cons_succ]
              refine wpAnyH_take (i := 4) (v := .agg EX.toArray) rfl (by kernel_rfl) (by kernel_rfl) (by kernel_rfl) (fun _ _ _ h => h) (yieldsIf_load_mid (by rfl) 109 (.tmp 37) rfl b1 (o1 + j * 33) rfl EX _ (fun w h => h.2.2.1) Try.underlying109 rfl (by rw [HLX.out]; exact size33)) hHeld ?rest4a
              case rest4a =>
              try simp only [Act.put, List.setIfInBounds_toArray, List.set_cons_zero, List.set_cons_succ, List.getElem_toArray, List.getElem_cons_zero, List.getElem_cons_succ]
              refine wpAnyH_take (i := 5) (v := ?v5a) rfl (by kernel_rfl) (by kernel_rfl) (by kernel_rfl) (fun _ _ _ h => h) (Or.inl ⟨by rfl, ?hy5a⟩) hHeld ?rest5a
              case hy5a => (intro w hSw; (try dsimp only at hSw); go_simp; try with_reducible rfl)
              try simp only [Act.put, List.setIfInBounds_toArray, List.set_cons_zero, List.set_cons_succ, List.getElem_toArray, List.getElem_cons_zero, List.getElem_cons_succ]
              refine wpAnyH_take (i := 6) (v := ?v6a) rfl (by kernel_rfl) (by kernel_rfl) (by kernel_rfl) (fun _ _ _ h => h) (Or.inl ⟨by rfl, ?hy6a⟩) hHeld ?rest6a
              case hy6a => (intro w hSw; (try dsimp only at hSw); go_simp; try with_reducible rfl)
              try simp only [Act.put, List.setIfInBounds_toArray, List.set_cons_zero, List.set_cons_succ, List.getElem_toArray, List.getElem_cons_zero, List.getElem_cons_succ]
              refine wpAnyH_take (i := 7) (v := ?v7a) rfl (by kernel_rfl) (by kernel_rfl) (by kernel_rfl) (fun _ _ _ h => h) (Or.inl ⟨by rfl, ?hy7a⟩) hHeld ?rest7a
              case hy7a => (intro w hSw; (try dsimp only at hSw); go_simp; try with_reducible rfl)
              try simp only [Act.put, List.setIfInBounds_toArray, List.set_cons_zero, List.set_cons_succ, List.getElem_toArray, List.getElem_cons_zero, List.getElem_cons_succ]
              refine wpAnyH_take (i := 8) (v := ?v8a) rfl (by kernel_rfl) (by kernel_rfl) (by kernel_rfl) (fun _ _ _ h => h) (Or.inl ⟨by rfl, ?hy8a⟩) hHeld ?rest8a
              case hy8a => (intro w hSw; (try dsimp only at hSw); go_simp; try with_reducible rfl)
              try simp only [Act.put, List.setIfInBounds_toArray, List.set_cons_zero, List.set_cons_succ, List.getElem_toArray, List.getElem_cons_zero, List.getElem_cons_succ]
              refine wpAnyH_take (i := 9) (v := .agg EY.toArray) rfl (by kernel_rfl) (by kernel_rfl) (by kernel_rfl) (fun _ _ _ h => h) (yieldsIf_load_mid (by rfl) 109 (.tmp 42) rfl b2 (o2 + j * 33) rfl EY _ (fun w h => h.2.2.2) Try.underlying109 rfl (by rw [HLY.out]; exact size33)) hHeld ?rest9a
              case rest9a =>
              try simp only [Act.put, List.setIfInBounds_toArray, List.set_cons_zero, List.set_cons_succ, List.getElem_toArray, List.getElem_cons_zero, List.getElem_cons_succ]
              refine wpAnyH_take (i := 10) (v := ?v10a) rfl (by kernel_rfl) (by kernel_rfl) (by kernel_rfl) (fun _ _ _ h => h) (Or.inl ⟨by rfl, ?hy10a⟩) hHeld ?rest10a
              case hy10a => (intro w hSw; (try dsimp only at hSw); go_simp; try with_reducible rfl)
              try simp only [Act.put, List.setIfInBounds_toArray, List.set_cons_zero, List.set_cons_succ, List.getElem_toArray, List.getElem_cons_zero, List.getElem_cons_succ]
              refine wpAnyH_done (by kernel_rfl) ?_ _
              refine NoPanic.normal ?_
              go_wp2_with fail
              go_roundg (n1 - (j + 1))
              case measure => omega
              case rel => exact ⟨j + 1, by omega, rfl, by go_num, HT2, below_drewM HW.out⟩
            · rw [decide_eq_false hxy] at hq
              have HF : Hid (r = false) := by
                show _ = _
                rw [HR2.out, decide_eq_false_iff_not]
                intro e
                subst e
                exact hxy (Option.some.inj (HX.out.symm.trans HY.out))
              clear hxy HX HY
              go_wp2_with fail
              refine wp_region_noPanic ?_
              refine wp_region_held_drew (S := (fun W : World => W.cell? ⟨w.heap.size, 2, none⟩ = some (.slice (some ⟨b1, o1, none⟩) n1 c1) ∧ W.cell? ⟨w.heap.size + 1, 2, none⟩ = some (.slice (some ⟨b2, o2, none⟩) n1 c2) ∧ W.rangeAt b1 (o1 + j * 33) EX ∧ W.rangeAt b2 (o2 + j * 33) EY)) (by kernel_rfl) ?hSab (fun hHeld => ?restab)
              case hSab => exact ⟨d1, d2, RX.out, RY.out⟩
              case restab =>
              refine wpAnyH_take (i := 0) (v := ?v0b) rfl (by kernel_rfl) (by kernel_rfl) (by kernel_rfl) (fun _ _ _ h => h) (Or.inl ⟨by rfl, ?hy0b⟩) hHeld ?rest0b
              case hy0b => (intro w hSw; (try dsimp only at hSw); go_simp; try with_reducible rfl)
              try simp only [Act.put, List.setIfInBounds_toArray, List.set_cons_zero, List.set_cons_succ, List.getElem_toArray, List.getElem_cons_zero]
              refine wpAnyH_take (i := 1) (v := ?v1b) rfl (by kernel_rfl) (by kernel_rfl) (by kernel_rfl) (fun _ _ _ h => h) (Or.inl ⟨by rfl, ?hy1b⟩) hHeld ?rest1b
              case hy1b => (intro w hSw; (try dsimp only at hSw); go_simp; try with_reducible rfl)
              try simp only [Act.put, List.setIfInBounds_toArray, List.set_cons_zero, List.set_cons_succ, List.getElem_toArray, List.getElem_cons_zero, List.getElem_cons_succ]
              refine wpAnyH_take (i := 2) (v := ?v2b) rfl (by kernel_rfl) (by kernel_rfl) (by kernel_rfl) (fun _ _ _ h => h) (Or.inl ⟨by rfl, ?hy2b⟩) hHeld ?rest2b
              case hy2b => (intro w hSw; (try dsimp only at hSw); go_simp; try with_reducible rfl)
              try simp only [Act.put, List.setIfInBounds_toArray, List.set_cons_zero, List.set_cons_succ, List.getElem_toArray, List.getElem_cons_zero, List.getElem_cons_succ]
              refine wpAnyH_take (i := 3) (v := ?v3b) rfl (by kernel_rfl) (by kernel_rfl) (by kernel_rfl) (fun _ _ _ h => h) (Or.inl ⟨by rfl, ?hy3b⟩) hHeld ?rest3b
              case hy3b => (intro w hSw; (try dsimp only at hSw); go_simp; try with_reducible rfl)
              try simp only [Act.put, List.setIfInBounds_toArray, List.set_cons_zero, List.set_cons_succ, List.getElem_toArray, List.getElem_cons_zero, List.getElem_cons_succ]
              refine wpAnyH_take (i := 4) (v := .agg EX.toArray) rfl (by kernel_rfl) (by kernel_rfl) (by kernel_rfl) (fun _ _ _ h => h) (yieldsIf_load_mid (by rfl) 109 (.tmp 37) rfl b1 (o1 + j * 33) rfl EX _ (fun w h => h.2.2.1) Try.underlying109 rfl (by rw [HLX.out]; exact size33)) hHeld ?rest4b
              case rest4b =>
              try simp only [Act.put, List.setIfInBounds_toArray, List.set_cons_zero, List.set_cons_succ, List.getElem_toArray, List.getElem_cons_zero, List.getElem_cons_succ]
              refine wpAnyH_take (i := 5) (v := ?v5b) rfl (by kernel_rfl) (by kernel_rfl) (by kernel_rfl) (fun _ _ _ h => h) (Or.inl ⟨by rfl, ?hy5b⟩) hHeld ?rest5b
              case hy5b => (intro w hSw; (try dsimp only at hSw); go_simp; try with_reducible rfl)
              try simp only [Act.put, List.setIfInBounds_toArray, List.set_cons_zero, List.set_cons_succ, List.getElem_toArray, List.getElem_cons_zero, List.getElem_cons_succ]
              refine wpAnyH_take (i := 6) (v := ?v6b) rfl (by kernel_rfl) (by kernel_rfl) (by kernel_rfl) (fun _ _ _ h => h) (Or.inl ⟨by rfl, ?hy6b⟩) hHeld ?rest6b
              case hy6b => (intro w hSw; (try dsimp only at hSw); go_simp; try with_reducible rfl)
              try simp only [Act.put, List.setIfInBounds_toArray, List.set_cons_zero, List.set_cons_succ, List.getElem_toArray, List.getElem_cons_zero, List.getElem_cons_succ]
              refine wpAnyH_take (i := 7) (v := ?v7b) rfl (by kernel_rfl) (by kernel_rfl) (by kernel_rfl) (fun _ _ _ h => h) (Or.inl ⟨by rfl, ?hy7b⟩) hHeld ?rest7b
              case hy7b => (intro w hSw; (try dsimp only at hSw); go_simp; try with_reducible rfl)
              try simp only [Act.put, List.setIfInBounds_toArray, List.set_cons_zero, List.set_cons_succ, List.getElem_toArray, List.getElem_cons_zero, List.getElem_cons_succ]
              refine wpAnyH_take (i := 8) (v := ?v8b) rfl (by kernel_rfl) (by kernel_rfl) (by kernel_rfl) (fun _ _ _ h => h) (Or.inl ⟨by rfl, ?hy8b⟩) hHeld ?rest8b
              case hy8b => (intro w hSw; (try dsimp only at hSw); go_simp; try with_reducible rfl)
              try simp only [Act.put, List.setIfInBounds_toArray, List.set_cons_zero, List.set_cons_succ, List.getElem_toArray, List.getElem_cons_zero, List.getElem_cons_succ]
              refine wpAnyH_take (i := 9) (v := .agg EY.toArray) rfl (by kernel_rfl) (by kernel_rfl) (by kernel_rfl) (fun _ _ _ h => h) (yieldsIf_load_mid (by rfl) 109 (.tmp 42) rfl b2 (o2 + j * 33) rfl EY _ (fun w h => h.2.2.2) Try.underlying109 rfl (by rw [HLY.out]; exact size33)) hHeld ?rest9b
              case rest9b =>
              try simp only [Act.put, List.setIfInBounds_toArray, List.set_cons_zero, List.set_cons_succ, List.getElem_toArray, List.getElem_cons_zero, List.getElem_cons_succ]
              refine wpAnyH_take (i := 10) (v := ?v10b) rfl (by kernel_rfl) (by kernel_rfl) (by kernel_rfl) (fun _ _ _ h => h) (Or.inl ⟨by rfl, ?hy10b⟩) hHeld ?rest10b
              case hy10b => (intro w hSw; (try dsimp only at hSw); go_simp; try with_reducible rfl)
              try simp only [Act.put, List.setIfInBounds_toArray, List.set_cons_zero, List.set_cons_succ, List.getElem_toArray, List.getElem_cons_zero, List.getElem_cons_succ]
              refine wpAnyH_done (by kernel_rfl) ?_ _
              refine NoPanic.normal ?_
              go_wp2_with fail
              go_ret
              exact ⟨by rw [HF.out]; rfl, (by first | exact below_drewM HBB.out | exact HBB.out)⟩
          · have e : j = n1 := by omega
            subst e
            have j1 : ¬ (j : Int) < (j : Int) := by omega
            have HF : Hid (r = true) := by
              show _ = _
              rw [HR2.out, decide_eq_true_iff]
              have := HT.out
              rwa [List.take_of_length_le (by rw [H1.out]; omega), List.take_of_length_le (by rw [H2.out]; omega)] at this
            go_wp2_with fail
            go_ret
            exact ⟨by rw [HF.out]; rfl, HBB.out⟩
      · have e0 : ((n1 : Int) != (n2 : Int)) = true := by simp; omega
        have HF : Hid (r = false) := by
          show _ = _
          rw [HR2.out, decide_eq_false_iff_not]
          intro e
          exact hne (by rw [← H1.out, ← H2.out, e])
        clear x0 x1 x2 y0 y1 y2 HW0
        go_enter Try.func66, Try.ntmps66
        go_wp2_with fail
        go_ret
        exact ⟨by rw [HF.out]; rfl, HB2.out⟩
    · rw [decide_eq_false hV] at tV
      have HF : Hid (r = false) := by show _ = _; rw [HR.out, decide_eq_false hV]; simp
      clear x0 x1 x2 y0 y1 y2 HW0 hN hV HR
      go_enter Try.func66, Try.ntmps66
      go_wp2_with fail
      go_ret
      exact ⟨by rw [HF.out]; rfl, HB2.out⟩
  · rw [decide_eq_false hN] at tN
    have HF : Hid (r = false) := by show _ = _; rw [HR.out, decide_eq_false hN]; simp
    clear x0 x1 x2 y0 y1 y2 HW0 hN HR
    go_enter Try.func66, Try.ntmps66
    go_wp2_with fail
    go_ret
    exact ⟨by rw [HF.out]; rfl, HB2.out⟩
end Go.Proofs.Ythaeidbnbgghkaa
namespace Go.Proofs.Ythaeidbnbgghkaa
open Go.ChangeShapes Go.WideShapes Go.ChangeAt Go.RowKit Go.Deep Go.Maps
set_option linter.unusedVariables false
set_option linter.unusedSimpArgs false
/-- packages that tell the same, wherever their layers lie -/
def Alike (L1 L2 : List Pk) : Prop := L1.length = L2.length ∧ ∀ (i : Nat) (x y : Pk), L1[i]? = some x → L2[i]? = some y → x.o = y.o ∧ x.n = y.n ∧ x.v = y.v ∧ x.l = y.l
theorem Alike.refl (L : List Pk) : Alike L L := ⟨rfl, fun i x y h1 h2 => by rw [h1] at h2; cases h2; exact ⟨rfl, rfl, rfl, rfl⟩⟩
theorem pkc_sub {w : World} {b o : Nat} {x : Pk} (h : Pkc w b o x) : w.cell? ⟨b, o, none⟩ = some (.int .i64 x.o) ∧ w.cell? ⟨b, o + 1, none⟩ = some (.string (tx x.n)) ∧ w.cell? ⟨b, o + 1 + 1, none⟩ = some (.string (tx x.v)) ∧ w.cell? ⟨b, o + 1 + 2, none⟩ = some (.slice x.la x.ln x.lc) := h
set_option maxRecDepth 100000 in
set_option maxHeartbeats 8000000 in
theorem rpsame_true (w : World) (a1 a2 : Option Addr) (n c1 c2 : Nat) (L1 L2 : List Pk) (h1 : L1.length = n) (i1 : InPk w a1 L1) (i2 : InPk w a2 L2) (hk : Alike L1 L2) (hN : n ≤ 1000000) :
    Calls Try.prog 59 #[.slice a1 n c1, .slice a2 n c2] w fun e w' => e = .returned (.bool true) ∧ Below w.heap.size w w' := by
  have HL : Hid (InPk w a1 L1 ∧ InPk w a2 L2 ∧ Alike L1 L2 ∧ L1.length = n) := ⟨i1, i2, hk, h1⟩
  clear h1 i1 i2 hk
  go_enter Try.func59, Try.ntmps59
  go_wp2_with fail
  go_loopg [5] n (fun g i wr => ∃ j : Nat, j ≤ n ∧ g = n - j ∧ i = .int .i64 (j : Int) ∧ Hid (Below w.heap.size w wr))
  case atStart => exact ⟨0, Nat.zero_le _, rfl, rfl, Below.refl _ _⟩
  obtain ⟨j, hj, rfl, rfl, RW⟩ := hrel
  by_cases hlt : j < n
  · have j1 : decide ((j : Int) < (n : Int)) = true := by rw [decide_eq_true_eq]; omega
    have j2 : (j : Int) < (n : Int) := by omega
    obtain ⟨x, hx⟩ : ∃ x, L1[j]? = some x := ⟨L1[j]'(by rw [HL.out.2.2.2]; exact hlt), by simp [HL.out.2.2.2, hlt]⟩
    obtain ⟨y, hy⟩ : ∃ y, L2[j]? = some y := ⟨L2[j]'(by rw [← HL.out.2.2.1.1, HL.out.2.2.2]; exact hlt), by simp [← HL.out.2.2.1.1, HL.out.2.2.2, hlt]⟩
    obtain ⟨b1, o1, rfl, hb1, p1, k1⟩ := (HL.out.1.keep RW.out).at hx
    obtain ⟨b2, o2, rfl, hb2, p2, k2⟩ := (HL.out.2.1.keep RW.out).at hy
    obtain ⟨q1, q2, q3, q4⟩ := HL.out.2.2.1.2 j x y hx hy
    have KX : Hid (∀ W, Below wr.heap.size wr W → W.cell? ⟨b1, o1 + j * 4, none⟩ = some (.int .i64 x.o) ∧ W.cell? ⟨b1, o1 + j * 4 + 1, none⟩ = some (.string (tx x.n)) ∧ W.cell? ⟨b1, o1 + j * 4 + 1 + 1, none⟩ = some (.string (tx x.v)) ∧ W.cell? ⟨b1, o1 + j * 4 + 1 + 2, none⟩ = some (.slice x.la x.ln x.lc)) := fun W hW => pkc_sub (p1.kept (hW.block b1 hb1))
    have KY : Hid (∀ W, Below wr.heap.size wr W → W.cell? ⟨b2, o2 + j * 4, none⟩ = some (.int .i64 y.o) ∧ W.cell? ⟨b2, o2 + j * 4 + 1, none⟩ = some (.string (tx y.n)) ∧ W.cell? ⟨b2, o2 + j * 4 + 1 + 1, none⟩ = some (.string (tx y.v)) ∧ W.cell? ⟨b2, o2 + j * 4 + 1 + 2, none⟩ = some (.slice y.la y.ln y.lc)) := fun W hW => pkc_sub (p2.kept (hW.block b2 hb2))
    have KS : Hid (∀ W, Below wr.heap.size wr W → Calls Try.prog 66 #[.agg #[.string (tx x.n), .string (tx x.v), .slice x.la x.ln x.lc], .agg #[.string (tx y.n), .string (tx y.v), .slice y.la y.ln y.lc]] W fun e w' => e = .returned (.bool true) ∧ Below W.heap.size W w') := fun W hW => by
      have hr := rmsame_is x.mf y.mf x.ln y.ln x.lc y.lc x.la y.la W k1.len k2.len (by have := k1.big; omega) (by have := k2.big; omega) k1.dg k2.dg (k1.inr.keep hW) (k2.inr.keep hW)
      rw [show decide (x.mf = y.mf) = true by rw [decide_eq_true_eq]; unfold Pk.mf; rw [q2, q3, q4]] at hr
      exact hr
    have e0 : (x.o != y.o) = false := by rw [q1]; simp
    have ri : IntKind.i64.wrap ((j : Int) + 1) = (j : Int) + 1 := by rw [IntKind.wrap_i64]; omega
    clear hx hy p1 p2 k1 k2 q1 q2 q3 q4 hb1 hb2
    go_wp2_with fail
    refine wp_region_noPanic ?_
    refine wp_region_held_drew (S := (fun u : World => Below wr.heap.size wr u)) (by kernel_rfl) ?hSap (fun hHeld => ?restap)
    case hSap => exact (Below.refl _ _).drew
    case restap =>
    refine wpAnyH_take (i := 0) (v := .slice (some ⟨b1, o1, none⟩) n c1) rfl (by kernel_rfl) (by kernel_rfl) (by kernel_rfl) (fun _ _ _ h => h) (Or.inl ⟨by kernel_rfl, ?hy0p⟩) hHeld ?rest0p
    case hy0p => (intro w' hSw; go_simp; try with_reducible rfl)
    try simp only [Act.put, List.setIfInBounds_toArray, List.set_cons_zero, List.set_cons_succ, List.getElem_toArray, List.getElem_cons_zero, List.getElem_cons_succ]
    refine wpAnyH_take (i := 1) (v := .int .i64 (j : Int)) rfl (by kernel_rfl) (by kernel_rfl) (by kernel_rfl) (fun _ _ _ h => h) (Or.inl ⟨by kernel_rfl, ?hy1p⟩) hHeld ?rest1p
    case hy1p => (intro w' hSw; go_simp; try with_reducible rfl)
    try simp only [Act.put, List.setIfInBounds_toArray, List.set_cons_zero, List.set_cons_succ, List.getElem_toArray, List.getElem_cons_zero, List.getElem_cons_succ]
    refine wpAnyH_take (i := 2) (v := .pointer (some ⟨b1, o1 + j * 4, none⟩)) rfl (by kernel_rfl) (by kernel_rfl) (by kernel_rfl) (fun _ _ _ h => h) (Or.inl ⟨by kernel_rfl, ?hy2p⟩) hHeld ?rest2p
    case hy2p => (intro w' hSw; go_simp; try with_reducible rfl)
    try simp only [Act.put, List.setIfInBounds_toArray, List.set_cons_zero, List.set_cons_succ, List.getElem_toArray, List.getElem_cons_zero, List.getElem_cons_succ]
    refine wpAnyH_take (i := 3) (v := .pointer (some ⟨b1, o1 + j * 4, none⟩)) rfl (by kernel_rfl) (by kernel_rfl) (by kernel_rfl) (fun _ _ _ h => h) (Or.inl ⟨by kernel_rfl, ?hy3p⟩) hHeld ?rest3p
    case hy3p => (intro w' hSw; go_simp; try with_reducible rfl)
    try simp only [Act.put, List.setIfInBounds_toArray, List.set_cons_zero, List.set_cons_succ, List.getElem_toArray, List.getElem_cons_zero, List.getElem_cons_succ]
    refine wpAnyH_take (i := 4) (v := .int .i64 x.o) rfl (by kernel_rfl) (by kernel_rfl) (by kernel_rfl) (fun _ _ _ h => h) (Or.inl ⟨by kernel_rfl, ?hy4p⟩) hHeld ?rest4p
    case hy4p => (intro w' hSw; obtain ⟨s0, s1, s2, s3⟩ := KX.out _ hSw; go_simp; try with_reducible rfl)
    try simp only [Act.put, List.setIfInBounds_toArray, List.set_cons_zero, List.set_cons_succ, List.getElem_toArray, List.getElem_cons_zero, List.getElem_cons_succ]
    refine wpAnyH_take (i := 5) (v := .slice (some ⟨b2, o2, none⟩) n c2) rfl (by kernel_rfl) (by kernel_rfl) (by kernel_rfl) (fun _ _ _ h => h) (Or.inl ⟨by kernel_rfl, ?hy5p⟩) hHeld ?rest5p
    case hy5p => (intro w' hSw; go_simp; try with_reducible rfl)
    try simp only [Act.put, List.setIfInBounds_toArray, List.set_cons_zero, List.set_cons_succ, List.getElem_toArray, List.getElem_cons_zero, List.getElem_cons_succ]
    refine wpAnyH_take (i := 6) (v := .int .i64 (j : Int)) rfl (by kernel_rfl) (by kernel_rfl) (by kernel_rfl) (fun _ _ _ h => h) (Or.inl ⟨by kernel_rfl, ?hy6p⟩) hHeld ?rest6p
    case hy6p => (intro w' hSw; go_simp; try with_reducible rfl)
    try simp only [Act.put, List.setIfInBounds_toArray, List.set_cons_zero, List.set_cons_succ, List.getElem_toArray, List.getElem_cons_zero, List.getElem_cons_succ]
    refine wpAnyH_take (i := 7) (v := .pointer (some ⟨b2, o2 + j * 4, none⟩)) rfl (by kernel_rfl) (by kernel_rfl) (by kernel_rfl) (fun _ _ _ h => h) (Or.inl ⟨by kernel_rfl, ?hy7p⟩) hHeld ?rest7p
    case hy7p => (intro w' hSw; go_simp; try with_reducible rfl)
    try simp only [Act.put, List.setIfInBounds_toArray, List.set_cons_zero, List.set_cons_succ, List.getElem_toArray, List.getElem_cons_zero, List.getElem_cons_succ]
    refine wpAnyH_take (i := 8) (v := .pointer (some ⟨b2, o2 + j * 4, none⟩)) rfl (by kernel_rfl) (by kernel_rfl) (by kernel_rfl) (fun _ _ _ h => h) (Or.inl ⟨by kernel_rfl, ?hy8p⟩) hHeld ?rest8p
    case hy8p => (intro w' hSw; go_simp; try with_reducible rfl)
    try simp only [Act.put, List.setIfInBounds_toArray, List.set_cons_zero, List.set_cons_succ, List.getElem_toArray, List.getElem_cons_zero, List.getElem_cons_succ]
    refine wpAnyH_take (i := 9) (v := .int .i64 y.o) rfl (by kernel_rfl) (by kernel_rfl) (by kernel_rfl) (fun _ _ _ h => h) (Or.inl ⟨by kernel_rfl, ?hy9p⟩) hHeld ?rest9p
    case hy9p => (intro w' hSw; obtain ⟨s0, s1, s2, s3⟩ := KY.out _ hSw; go_simp; try with_reducible rfl)
    try simp only [Act.put, List.setIfInBounds_toArray, List.set_cons_zero, List.set_cons_succ, List.getElem_toArray, List.getElem_cons_zero, List.getElem_cons_succ]
    refine wpAnyH_take (i := 10) (v := .bool false) rfl (by kernel_rfl) (by kernel_rfl) (by kernel_rfl) (fun _ _ _ h => h) (Or.inl ⟨by kernel_rfl, ?hy10p⟩) hHeld ?rest10p
    case hy10p => (intro w' hSw; go_simp; try with_reducible rfl)
    try simp only [Act.put, List.setIfInBounds_toArray, List.set_cons_zero, List.set_cons_succ, List.getElem_toArray, List.getElem_cons_zero, List.getElem_cons_succ]
    refine wpAnyH_take (i := 11) (v := .bool false) rfl (by kernel_rfl) (by kernel_rfl) (by kernel_rfl) (fun _ _ _ h => h) (Or.inl ⟨by kernel_rfl, ?hy11p⟩) hHeld ?rest11p
    case hy11p => (intro w' hSw; go_simp; try with_reducible rfl)
    try simp only [Act.put, List.setIfInBounds_toArray, List.set_cons_zero, List.set_cons_succ, List.getElem_toArray, List.getElem_cons_zero, List.getElem_cons_succ]
    refine wpAnyH_take (i := 12) (v := .slice (some ⟨b1, o1, none⟩) n c1) rfl (by kernel_rfl) (by kernel_rfl) (by kernel_rfl) (fun _ _ _ h => h) (Or.inl ⟨by kernel_rfl, ?hy12p⟩) hHeld ?rest12p
    case hy12p => (intro w' hSw; go_simp; try with_reducible rfl)
    try simp only [Act.put, List.setIfInBounds_toArray, List.set_cons_zero, List.set_cons_succ, List.getElem_toArray, List.getElem_cons_zero, List.getElem_cons_succ]
    refine wpAnyH_take (i := 13) (v := .int .i64 (j : Int)) rfl (by kernel_rfl) (by kernel_rfl) (by kernel_rfl) (fun _ _ _ h => h) (Or.inl ⟨by kernel_rfl, ?hy13p⟩) hHeld ?rest13p
    case hy13p => (intro w' hSw; go_simp; try with_reducible rfl)
    try simp only [Act.put, List.setIfInBounds_toArray, List.set_cons_zero, List.set_cons_succ, List.getElem_toArray, List.getElem_cons_zero, List.getElem_cons_succ]
    refine wpAnyH_take (i := 14) (v := .pointer (some ⟨b1, o1 + j * 4, none⟩)) rfl (by kernel_rfl) (by kernel_rfl) (by kernel_rfl) (fun _ _ _ h => h) (Or.inl ⟨by kernel_rfl, ?hy14p⟩) hHeld ?rest14p
    case hy14p => (intro w' hSw; go_simp; try with_reducible rfl)
    try simp only [Act.put, List.setIfInBounds_toArray, List.set_cons_zero, List.set_cons_succ, List.getElem_toArray, List.getElem_cons_zero, List.getElem_cons_succ]
    refine wpAnyH_take (i := 15) (v := .pointer (some ⟨b1, o1 + j * 4 + 1, none⟩)) rfl (by kernel_rfl) (by kernel_rfl) (by kernel_rfl) (fun _ _ _ h => h) (Or.inl ⟨by kernel_rfl, ?hy15p⟩) hHeld ?rest15p
    case hy15p => (intro w' hSw; go_simp; try with_reducible rfl)
    try simp only [Act.put, List.setIfInBounds_toArray, List.set_cons_zero, List.set_cons_succ, List.getElem_toArray, List.getElem_cons_zero, List.getElem_cons_succ]
    refine wpAnyH_take (i := 16) (v := .agg #[.string (tx x.n), .string (tx x.v), .slice x.la x.ln x.lc]) rfl (by kernel_rfl) (by kernel_rfl) (by kernel_rfl) (fun _ _ _ h => h) (Or.inl ⟨by kernel_rfl, ?hy16p⟩) hHeld ?rest16p
    case hy16p => (intro w' hSw; obtain ⟨s0, s1, s2, s3⟩ := KX.out _ hSw; go_simp; try with_reducible rfl)
    try simp only [Act.put, List.setIfInBounds_toArray, List.set_cons_zero, List.set_cons_succ, List.getElem_toArray, List.getElem_cons_zero, List.getElem_cons_succ]
    refine wpAnyH_take (i := 17) (v := .slice (some ⟨b2, o2, none⟩) n c2) rfl (by kernel_rfl) (by kernel_rfl) (by kernel_rfl) (fun _ _ _ h => h) (Or.inl ⟨by kernel_rfl, ?hy17p⟩) hHeld ?rest17p
    case hy17p => (intro w' hSw; go_simp; try with_reducible rfl)
    try simp only [Act.put, List.setIfInBounds_toArray, List.set_cons_zero, List.set_cons_succ, List.getElem_toArray, List.getElem_cons_zero, List.getElem_cons_succ]
    refine wpAnyH_take (i := 18) (v := .int .i64 (j : Int)) rfl (by kernel_rfl) (by kernel_rfl) (by kernel_rfl) (fun _ _ _ h => h) (Or.inl ⟨by kernel_rfl, ?hy18p⟩) hHeld ?rest18p
    case hy18p => (intro w' hSw; go_simp; try with_reducible rfl)
    try simp only [Act.put, List.setIfInBounds_toArray, List.set_cons_zero, List.set_cons_succ, List.getElem_toArray, List.getElem_cons_zero, List.getElem_cons_succ]
    refine wpAnyH_take (i := 19) (v := .pointer (some ⟨b2, o2 + j * 4, none⟩)) rfl (by kernel_rfl) (by kernel_rfl) (by kernel_rfl) (fun _ _ _ h => h) (Or.inl ⟨by kernel_rfl, ?hy19p⟩) hHeld ?rest19p
    case hy19p => (intro w' hSw; go_simp; try with_reducible rfl)
    try simp only [Act.put, List.setIfInBounds_toArray, List.set_cons_zero, List.set_cons_succ, List.getElem_toArray, List.getElem_cons_zero, List.getElem_cons_succ]
    refine wpAnyH_take (i := 20) (v := .pointer (some ⟨b2, o2 + j * 4 + 1, none⟩)) rfl (by kernel_rfl) (by kernel_rfl) (by kernel_rfl) (fun _ _ _ h => h) (Or.inl ⟨by kernel_rfl, ?hy20p⟩) hHeld ?rest20p
    case hy20p => (intro w' hSw; go_simp; try with_reducible rfl)
    try simp only [Act.put, List.setIfInBounds_toArray, List.set_cons_zero, List.set_cons_succ, List.getElem_toArray, List.getElem_cons_zero, List.getElem_cons_succ]
    refine wpAnyH_take (i := 21) (v := .agg #[.string (tx y.n), .string (tx y.v), .slice y.la y.ln y.lc]) rfl (by kernel_rfl) (by kernel_rfl) (by kernel_rfl) (fun _ _ _ h => h) (Or.inl ⟨by kernel_rfl, ?hy21p⟩) hHeld ?rest21p
    case hy21p => (intro w' hSw; obtain ⟨s0, s1, s2, s3⟩ := KY.out _ hSw; go_simp; try with_reducible rfl)
    try simp only [Act.put, List.setIfInBounds_toArray, List.set_cons_zero, List.set_cons_succ, List.getElem_toArray, List.getElem_cons_zero, List.getElem_cons_succ]
    refine wpAnyH_ready (rs := [22]) (by kernel_rfl) (by simp) ?_
    refine AllReadyH.cons rfl (fun K hK => ?_) AllReadyH.nil
    go_simp; refine (KS.out _ hHeld).mono ?_; rintro e w8 ⟨rfl, b8⟩; have B8 : Hid (Below wr.heap.size wr w8) := (hHeld : Below _ _ _).trans (b8.mono (hHeld : Below _ _ _).size); clear b8; go_wp2_with fail
    refine hK.out _ _ ?hS22p (fun hHeld => ?rest22p)
    case hS22p => exact B8.out
    clear hK K
    try simp only [Act.put, List.setIfInBounds_toArray, List.set_cons_zero, List.set_cons_succ, List.getElem_toArray, List.getElem_cons_zero, List.getElem_cons_succ]
    refine wpAnyH_take (i := 23) (v := .bool false) rfl (by kernel_rfl) (by kernel_rfl) (by kernel_rfl) (fun _ _ _ h => h) (Or.inl ⟨by kernel_rfl, ?hy23p⟩) hHeld ?rest23p
    case hy23p => (intro w' hSw; go_simp; try with_reducible rfl)
    try simp only [Act.put, List.setIfInBounds_toArray, List.set_cons_zero, List.set_cons_succ, List.getElem_toArray, List.getElem_cons_zero, List.getElem_cons_succ]
    refine wpAnyH_take (i := 24) (v := .bool false) rfl (by kernel_rfl) (by kernel_rfl) (by kernel_rfl) (fun _ _ _ h => h) (Or.inl ⟨by kernel_rfl, ?hy24p⟩) hHeld ?rest24p
    case hy24p => (intro w' hSw; go_simp; try with_reducible rfl)
    try simp only [Act.put, List.setIfInBounds_toArray, List.set_cons_zero, List.set_cons_succ, List.getElem_toArray, List.getElem_cons_zero, List.getElem_cons_succ]
    refine wpAnyH_done (by kernel_rfl) ?_ _
    refine NoPanic.normal ?_
    go_wp2_with fail
    go_roundg (n - (j + 1))
    case measure => omega
    case rel => exact ⟨j + 1, by omega, rfl, by push_cast; rfl, RW.out.trans (B8.out.mono RW.out.size)⟩
  · have j1 : decide ((j : Int) < (n : Int)) = false := by rw [decide_eq_false_iff_not]; omega
    go_wp2_with fail
    go_ret
    exact ⟨rfl, RW.out⟩
end Go.Proofs.Ythaeidbnbgghkaa
