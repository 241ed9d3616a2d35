/- The walk of ShaHexes. -/
import Derived.Test.YtofnibjpgkglnaaDoorShaK
import Derived.Test.YtofnibjpgkglnaaDoorShaY
import Derived.Test.YtofnibjpgkglnaaDoorShaQ
namespace Go.Proofs.YtofnibjpgkglnaaDoor
open Go.ChangeShapes Go.WideShapes Go.ChangeAt Go.RowKit Go.Deep
set_option linter.unusedVariables false
set_option maxRecDepth 100000 in
set_option maxHeartbeats 8000000 in
theorem shaHexes_walk (D : List Int) (s : ByteArray) (w : World) (l0 : D.length = 32) (w0 : IsBytes D) (hs : s.size ≤ 140737488355328) (hk : KIs w) :
    Calls Tryd.prog 4 #[.agg (u8s D), .string s] w fun e w' => e = .returned (.bool true) ∧ Below w.heap.size w w' := by
  have HK : Hid (KIs w) := hk
  have hz24 := (zero_of_info zero24_info).1
  have hgd := guard_digest
  have KH : Hid (∀ W : World, Calls Tryd.prog 14 #[.agg (u8s D)] W fun e w' => e = .returned (.string (strOfNums (hexL D))) ∧ Below W.heap.size W w') := fun W => hex_is D l0 w0 W
  have KG : Hid (∀ W : World, Calls Tryd.prog 15 #[.agg (u8s D)] W fun e w' => e = .returned (.string (strOfNums (hexL D))) ∧ Below W.heap.size W w') := fun W => rhex_is D l0 w0 W
  have K1 : Hid (∀ W : World, Calls Tryd.prog 12 #[.string s] W fun e w' => e = .returned (.tuple #[.agg (u8s (rdD s)), .int .i64 (rdE s)]) ∧ Below W.heap.size W w') := fun W => read_is s hs W
  have K2 : Hid (∀ W : World, Calls Tryd.prog 13 #[.string s] W fun e w' => e = .returned (.tuple #[.agg (u8s (rdD s)), .int .i64 (rdE s)]) ∧ Below W.heap.size W w') := fun W => rread_is s hs W
  have hR := rdD_len s
  have heq := fun W : World => eq_digest (rdD s) (rdD s) hR hR W
  rw [decide_eq_true rfl] at heq
  generalize rdD s = RD at *
  generalize rdE s = RE at *
  generalize strOfNums (hexL D) = tx at *
  have Hw0_D : Hid ((w.alloc (.cells (u8s D) 24)).heap[w.heap.size]? = some (.cells (u8s D) 24)) := heap_alloc_last w _
  have Bw0 : Hid (Below w.heap.size w (w.alloc (.cells (u8s D) 24))) := (Below.refl _ _).alloc (Nat.le_refl _) _
  clear hk w0
  go_enter Tryd.func4, Tryd.ntmps4
  go_wp2_with fail
  refine (K1.out _).mono ?_
  rintro e w1 ⟨rfl, hb⟩
  have Hw1_D : Hid (w1.heap[w.heap.size]? = some (.cells (u8s D) 24)) := (hb.block _ (lt_of_heap Hw0_D.out)).trans Hw0_D.out
  have Bw1 : Hid (Below w.heap.size w w1) := Bw0.out.trans (hb.mono Bw0.out.size)
  clear hb
  have HAw1 : Hid ((w1.alloc (.cells z32 24)).heap[w1.heap.size]? = some (.cells z32 24)) := heap_alloc_last w1 _
  have Hu1_X : Hid (((w1.alloc (.cells z32 24)).setRow w1.heap.size (u8s RD)).heap[w1.heap.size]? = some (.cells (u8s RD) 24)) := setRow_heap _ _ _ _ _ _ HAw1.out
  have Hu1_D : Hid (((w1.alloc (.cells z32 24)).setRow w1.heap.size (u8s RD)).heap[w.heap.size]? = some (.cells (u8s D) 24)) := (setRow_other _ _ _ _ (Nat.ne_of_lt (lt_of_heap Hw1_D.out))).trans ((Below.heap_alloc _ _ _ (lt_of_heap Hw1_D.out)).trans Hw1_D.out)
  have Bu1 : Hid (Below w.heap.size w ((w1.alloc (.cells z32 24)).setRow w1.heap.size (u8s RD))) := below_setRow (Bw1.out.alloc Bw1.out.size _) Bw1.out.size _
  go_wp2_with (refine wpList_store_row rfl 24 (.tmp 5) (.tmp 12) rfl w1.heap.size (u8s RD) rfl rfl 24 z32 HAw1.out (size32l _ hR) (by rw [z32_size, u8s_size, hR]) (u8s_one _) ?_)
  generalize ((w1.alloc (.cells z32 24)).setRow w1.heap.size (u8s RD)) = u1 at *
  refine (K2.out _).mono ?_
  rintro e w2 ⟨rfl, hb⟩
  have Hw2_D : Hid (w2.heap[w.heap.size]? = some (.cells (u8s D) 24)) := (hb.block _ (lt_of_heap Hu1_D.out)).trans Hu1_D.out
  have Hw2_X : Hid (w2.heap[w1.heap.size]? = some (.cells (u8s RD) 24)) := (hb.block _ (lt_of_heap Hu1_X.out)).trans Hu1_X.out
  have Bw2 : Hid (Below w.heap.size w w2) := Bu1.out.trans (hb.mono Bu1.out.size)
  clear hb
  have HAw2 : Hid ((w2.alloc (.cells z32 24)).heap[w2.heap.size]? = some (.cells z32 24)) := heap_alloc_last w2 _
  have Hu2_Y : Hid (((w2.alloc (.cells z32 24)).setRow w2.heap.size (u8s RD)).heap[w2.heap.size]? = some (.cells (u8s RD) 24)) := setRow_heap _ _ _ _ _ _ HAw2.out
  have Hu2_D : Hid (((w2.alloc (.cells z32 24)).setRow w2.heap.size (u8s RD)).heap[w.heap.size]? = some (.cells (u8s D) 24)) := (setRow_other _ _ _ _ (Nat.ne_of_lt (lt_of_heap Hw2_D.out))).trans ((Below.heap_alloc _ _ _ (lt_of_heap Hw2_D.out)).trans Hw2_D.out)
  have Hu2_X : Hid (((w2.alloc (.cells z32 24)).setRow w2.heap.size (u8s RD)).heap[w1.heap.size]? = some (.cells (u8s RD) 24)) := (setRow_other _ _ _ _ (Nat.ne_of_lt (lt_of_heap Hw2_X.out))).trans ((Below.heap_alloc _ _ _ (lt_of_heap Hw2_X.out)).trans Hw2_X.out)
  have Bu2 : Hid (Below w.heap.size w ((w2.alloc (.cells z32 24)).setRow w2.heap.size (u8s RD))) := below_setRow (Bw2.out.alloc Bw2.out.size _) Bw2.out.size _
  go_wp2_with (refine wpList_store_row rfl 24 (.tmp 7) (.tmp 17) rfl w2.heap.size (u8s RD) rfl rfl 24 z32 HAw2.out (size32l _ hR) (by rw [z32_size, u8s_size, hR]) (u8s_one _) ?_)
  generalize ((w2.alloc (.cells z32 24)).setRow w2.heap.size (u8s RD)) = u2 at *
  refine wp_region_noPanic ?_
  refine wp_region_held_drew (S := (fun W : World => W.heap[w.heap.size]? = some (.cells (u8s D) 24) ∧ W.heap[w1.heap.size]? = some (.cells (u8s RD) 24) ∧ W.heap[w2.heap.size]? = some (.cells (u8s RD) 24))) (by kernel_rfl) ?hSa (fun hHeld => ?resta)
  case hSa => exact ⟨Hu2_D.out, Hu2_X.out, Hu2_Y.out⟩
  case resta =>
    refine wpAnyH_take (i := 0) (v := .agg (u8s D)) rfl (by kernel_rfl) (by kernel_rfl) (by kernel_rfl) (fun _ _ _ h => h) (Or.inl ⟨by rfl, ?hy0⟩) hHeld ?rest0
    case hy0 => (intro w hSw; exact load_row_run _ _ _ _ (.tmp 2) rfl _ rfl _ _ _ _ _ hSw.1 Tryd.underlying24 (size32l D l0))
    try simp only [Act.put, List.setIfInBounds_toArray, List.set_cons_zero, List.set_cons_succ, List.getElem_toArray, List.getElem_cons_zero]
    refine wpAnyH_take (i := 2) (v := .agg (u8s D)) rfl (by kernel_rfl) (by kernel_rfl) (by kernel_rfl) (fun _ _ _ h => h) (Or.inl ⟨by rfl, ?hy2⟩) hHeld ?rest2
    case hy2 => (intro w hSw; exact load_row_run _ _ _ _ (.tmp 2) rfl _ rfl _ _ _ _ _ hSw.1 Tryd.underlying24 (size32l D l0))
    try simp only [Act.put, List.setIfInBounds_toArray, List.set_cons_zero, List.set_cons_succ, List.getElem_toArray, List.getElem_cons_zero, List.getElem_cons_succ]
    refine wpAnyH_ready (rs := [1]) (by kernel_rfl) (by simp) ?_
    refine AllReadyH.cons rfl (fun K hK => ?_) AllReadyH.nil
    go_simp; refine (KH.out _).mono ?_; rintro e v1 ⟨rfl, hb⟩; have Hv1_D : Hid (v1.heap[w.heap.size]? = some (.cells (u8s D) 24)) := (hb.block _ (lt_of_heap Hu2_D.out)).trans Hu2_D.out; have Hv1_X : Hid (v1.heap[w1.heap.size]? = some (.cells (u8s RD) 24)) := (hb.block _ (lt_of_heap Hu2_X.out)).trans Hu2_X.out; have Hv1_Y : Hid (v1.heap[w2.heap.size]? = some (.cells (u8s RD) 24)) := (hb.block _ (lt_of_heap Hu2_Y.out)).trans Hu2_Y.out; have Bv1 : Hid (Below w.heap.size w v1) := Bu2.out.drew.trans (hb.mono Bu2.out.size); clear hb; go_wp2_with fail
    refine hK.out _ _ ?hS1 (fun hHeld => ?rest1)
    case hS1 => exact ⟨Hv1_D.out, Hv1_X.out, Hv1_Y.out⟩
    clear hK K
    try simp only [Act.put, List.setIfInBounds_toArray, List.set_cons_zero, List.set_cons_succ, List.getElem_toArray, List.getElem_cons_zero, List.getElem_cons_succ]
    refine wpAnyH_ready (rs := [3]) (by kernel_rfl) (by simp) ?_
    refine AllReadyH.cons rfl (fun K hK => ?_) AllReadyH.nil
    go_simp; refine (KG.out _).mono ?_; rintro e v2 ⟨rfl, hb⟩; have Hv2_D : Hid (v2.heap[w.heap.size]? = some (.cells (u8s D) 24)) := (hb.block _ (lt_of_heap Hv1_D.out)).trans Hv1_D.out; have Hv2_X : Hid (v2.heap[w1.heap.size]? = some (.cells (u8s RD) 24)) := (hb.block _ (lt_of_heap Hv1_X.out)).trans Hv1_X.out; have Hv2_Y : Hid (v2.heap[w2.heap.size]? = some (.cells (u8s RD) 24)) := (hb.block _ (lt_of_heap Hv1_Y.out)).trans Hv1_Y.out; have Bv2 : Hid (Below w.heap.size w v2) := Bv1.out.trans (hb.mono Bv1.out.size); clear hb; go_wp2_with fail
    refine hK.out _ _ ?hS3 (fun hHeld => ?rest3)
    case hS3 => exact ⟨Hv2_D.out, Hv2_X.out, Hv2_Y.out⟩
    clear hK K
    try simp only [Act.put, List.setIfInBounds_toArray, List.set_cons_zero, List.set_cons_succ, List.getElem_toArray, List.getElem_cons_zero, List.getElem_cons_succ]
    refine wpAnyH_take (i := 4) (v := ?v4) rfl (by kernel_rfl) (by kernel_rfl) (by kernel_rfl) (fun _ _ _ h => h) (Or.inl ⟨by rfl, ?hy4⟩) hHeld ?rest4
    case hy4 => (intro w hSw; (try dsimp only at hSw); go_simp; try with_reducible rfl)
    try simp only [Act.put, List.setIfInBounds_toArray, List.set_cons_zero, List.set_cons_succ, List.getElem_toArray, List.getElem_cons_zero, List.getElem_cons_succ]
    refine wpAnyH_take (i := 5) (v := ?v5) rfl (by kernel_rfl) (by kernel_rfl) (by kernel_rfl) (fun _ _ _ h => h) (Or.inl ⟨by rfl, ?hy5⟩) hHeld ?rest5
    case hy5 => (intro w hSw; (try dsimp only at hSw); go_simp; try with_reducible rfl)
    try simp only [Act.put, List.setIfInBounds_toArray, List.set_cons_zero, List.set_cons_succ, List.getElem_toArray, List.getElem_cons_zero, List.getElem_cons_succ]
    refine wpAnyH_take (i := 6) (v := .agg (u8s RD)) rfl (by kernel_rfl) (by kernel_rfl) (by kernel_rfl) (fun _ _ _ h => h) (Or.inl ⟨by rfl, ?hy6⟩) hHeld ?rest6
    case hy6 => (intro w hSw; exact load_row_run _ _ _ _ (.tmp 5) rfl _ rfl _ _ _ _ _ hSw.2.1 Tryd.underlying24 (size32l RD hR))
    try simp only [Act.put, List.setIfInBounds_toArray, List.set_cons_zero, List.set_cons_succ, List.getElem_toArray, List.getElem_cons_zero, List.getElem_cons_succ]
    refine wpAnyH_take (i := 7) (v := .agg (u8s RD)) rfl (by kernel_rfl) (by kernel_rfl) (by kernel_rfl) (fun _ _ _ h => h) (Or.inl ⟨by rfl, ?hy7⟩) hHeld ?rest7
    case hy7 => (intro w hSw; exact load_row_run _ _ _ _ (.tmp 7) rfl _ rfl _ _ _ _ _ hSw.2.2 Tryd.underlying24 (size32l RD hR))
    try simp only [Act.put, List.setIfInBounds_toArray, List.set_cons_zero, List.set_cons_succ, List.getElem_toArray, List.getElem_cons_zero, List.getElem_cons_succ]
    refine wpAnyH_take (i := 8) (v := .bool true) rfl (by kernel_rfl) (by kernel_rfl) (by kernel_rfl) (fun _ _ _ h => h) (Or.inl ⟨by rfl, ?hy8⟩) hHeld ?rest8
    case hy8 => (intro w hSw; clear hSw; go_simp; try with_reducible rfl)
    try simp only [Act.put, List.setIfInBounds_toArray, List.set_cons_zero, List.set_cons_succ, List.getElem_toArray, List.getElem_cons_zero, List.getElem_cons_succ]
    refine wpAnyH_take (i := 9) (v := ?v9) rfl (by kernel_rfl) (by kernel_rfl) (by kernel_rfl) (fun _ _ _ h => h) (Or.inl ⟨by rfl, ?hy9⟩) hHeld ?rest9
    case hy9 => (intro w hSw; (try dsimp only at hSw); go_simp; try with_reducible rfl)
    try simp only [Act.put, List.setIfInBounds_toArray, List.set_cons_zero, List.set_cons_succ, List.getElem_toArray, List.getElem_cons_zero, List.getElem_cons_succ]
    refine wpAnyH_take (i := 10) (v := ?v10) rfl (by kernel_rfl) (by kernel_rfl) (by kernel_rfl) (fun _ _ _ h => h) (Or.inl ⟨by rfl, ?hy10⟩) hHeld ?rest10
    case hy10 => (intro w hSw; (try dsimp only at hSw); go_simp; try with_reducible rfl)
    try simp only [Act.put, List.setIfInBounds_toArray, List.set_cons_zero, List.set_cons_succ, List.getElem_toArray, List.getElem_cons_zero, List.getElem_cons_succ]
    refine wpAnyH_take (i := 11) (v := ?v11) rfl (by kernel_rfl) (by kernel_rfl) (by kernel_rfl) (fun _ _ _ h => h) (Or.inl ⟨by rfl, ?hy11⟩) hHeld ?rest11
    case hy11 => (intro w hSw; (try dsimp only at hSw); go_simp; try with_reducible rfl)
    try simp only [Act.put, List.setIfInBounds_toArray, List.set_cons_zero, List.set_cons_succ, List.getElem_toArray, List.getElem_cons_zero, List.getElem_cons_succ]
    refine wpAnyH_take (i := 12) (v := ?v12) rfl (by kernel_rfl) (by kernel_rfl) (by kernel_rfl) (fun _ _ _ h => h) (Or.inl ⟨by rfl, ?hy12⟩) hHeld ?rest12
    case hy12 => (intro w hSw; (try dsimp only at hSw); go_simp; try with_reducible rfl)
    try simp only [Act.put, List.setIfInBounds_toArray, List.set_cons_zero, List.set_cons_succ, List.getElem_toArray, List.getElem_cons_zero, List.getElem_cons_succ]
    refine wpAnyH_take (i := 13) (v := ?v13) rfl (by kernel_rfl) (by kernel_rfl) (by kernel_rfl) (fun _ _ _ h => h) (Or.inl ⟨by rfl, ?hy13⟩) hHeld ?rest13
    case hy13 => (intro w hSw; (try dsimp only at hSw); go_simp; try with_reducible rfl)
    try simp only [Act.put, List.setIfInBounds_toArray, List.set_cons_zero, List.set_cons_succ, List.getElem_toArray, List.getElem_cons_zero, List.getElem_cons_succ]
    refine wpAnyH_take (i := 14) (v := ?v14) rfl (by kernel_rfl) (by kernel_rfl) (by kernel_rfl) (fun _ _ _ h => h) (Or.inl ⟨by rfl, ?hy14⟩) hHeld ?rest14
    case hy14 => (intro w hSw; (try dsimp only at hSw); go_simp; try with_reducible rfl)
    try simp only [Act.put, List.setIfInBounds_toArray, List.set_cons_zero, List.set_cons_succ, List.getElem_toArray, List.getElem_cons_zero, List.getElem_cons_succ]
    refine wpAnyH_take (i := 15) (v := ?v15) rfl (by kernel_rfl) (by kernel_rfl) (by kernel_rfl) (fun _ _ _ h => h) (Or.inl ⟨by rfl, ?hy15⟩) hHeld ?rest15
    case hy15 => (intro w hSw; (try dsimp only at hSw); go_simp; try with_reducible rfl)
    try simp only [Act.put, List.setIfInBounds_toArray, List.set_cons_zero, List.set_cons_succ, List.getElem_toArray, List.getElem_cons_zero, List.getElem_cons_succ]
    refine wpAnyH_ready (rs := [16]) (by kernel_rfl) (by simp) ?_
    refine AllReadyH.cons rfl (fun K hK => ?_) AllReadyH.nil
    go_simp; refine (works_true _ (HK.out.below Bv2.out HK.out.pos)).mono ?_; rintro e v3 ⟨rfl, hb⟩; have Hv3_D : Hid (v3.heap[w.heap.size]? = some (.cells (u8s D) 24)) := (hb.block _ (lt_of_heap Hv2_D.out)).trans Hv2_D.out; have Hv3_X : Hid (v3.heap[w1.heap.size]? = some (.cells (u8s RD) 24)) := (hb.block _ (lt_of_heap Hv2_X.out)).trans Hv2_X.out; have Hv3_Y : Hid (v3.heap[w2.heap.size]? = some (.cells (u8s RD) 24)) := (hb.block _ (lt_of_heap Hv2_Y.out)).trans Hv2_Y.out; have Bv3 : Hid (Below w.heap.size w v3) := Bv2.out.trans (hb.mono Bv2.out.size); clear hb; go_wp2_with fail
    refine hK.out _ _ ?hS16 (fun hHeld => ?rest16)
    case hS16 => exact ⟨Hv3_D.out, Hv3_X.out, Hv3_Y.out⟩
    clear hK K
    try simp only [Act.put, List.setIfInBounds_toArray, List.set_cons_zero, List.set_cons_succ, List.getElem_toArray, List.getElem_cons_zero, List.getElem_cons_succ]
    refine wpAnyH_take (i := 17) (v := ?v17) rfl (by kernel_rfl) (by kernel_rfl) (by kernel_rfl) (fun _ _ _ h => h) (Or.inl ⟨by rfl, ?hy17⟩) hHeld ?rest17
    case hy17 => (intro w hSw; (try dsimp only at hSw); go_simp; try with_reducible rfl)
    try simp only [Act.put, List.setIfInBounds_toArray, List.set_cons_zero, List.set_cons_succ, List.getElem_toArray, List.getElem_cons_zero, List.getElem_cons_succ]
    refine wpAnyH_take (i := 18) (v := ?v18) rfl (by kernel_rfl) (by kernel_rfl) (by kernel_rfl) (fun _ _ _ h => h) (Or.inl ⟨by rfl, ?hy18⟩) hHeld ?rest18
    case hy18 => (intro w hSw; (try dsimp only at hSw); go_simp; try with_reducible rfl)
    try simp only [Act.put, List.setIfInBounds_toArray, List.set_cons_zero, List.set_cons_succ, List.getElem_toArray, List.getElem_cons_zero, List.getElem_cons_succ]
    refine wpAnyH_done (by kernel_rfl) ?_ _
    refine NoPanic.normal ?_
    go_wp2
    go_ret
    exact ⟨rfl, Bv3.out⟩
end Go.Proofs.YtofnibjpgkglnaaDoor
