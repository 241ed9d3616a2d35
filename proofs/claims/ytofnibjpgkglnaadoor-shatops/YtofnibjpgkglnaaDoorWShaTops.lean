/- The walk of ShaTops. -/
import Derived.Test.YtofnibjpgkglnaaDoorShaK
import Derived.Test.YtofnibjpgkglnaaDoorShaT
namespace Go.Proofs.YtofnibjpgkglnaaDoor
open Go.ChangeShapes Go.WideShapes Go.ChangeAt Go.RowKit Go.Deep
set_option linter.unusedVariables false
set_option maxHeartbeats 4000000 in
theorem shaTops_walk (D : List Int) (n : Int) (w : World) (l0 : D.length = 32) (w0 : IsBytes D) (w1 : (Lit.int .i64 n).wf = true) (hk : KIs w) :
    Calls Tryd.prog 5 #[.agg (u8s D), .int .i64 n] w fun e w' => e = .returned (.bool true) ∧ Below w.heap.size w w' := by
  have HK : Hid (KIs w) := hk
  have H0 : Hid ((w.alloc (.cells (u8s D) 24)).drew.heap[w.heap.size]? = some (.cells (u8s D) 24)) := heap_alloc_last w _
  have B0 : Hid (Below w.heap.size w (w.alloc (.cells (u8s D) 24)).drew) := ((Below.refl _ _).alloc (Nat.le_refl _) _).drew
  have KT : Hid (∀ W : World, Calls Tryd.prog 16 #[.agg (u8s D), .int .i64 n] W fun e w' => e = .returned (.int .u64 ((topN D (topM n) : Nat) : Int)) ∧ Below W.heap.size W w') := fun W => top_is D l0 w0 n w1 W
  have KR : Hid (∀ W : World, Calls Tryd.prog 17 #[.agg (u8s D), .int .i64 n] W fun e w' => e = .returned (.int .u64 ((topN D (topM n) : Nat) : Int)) ∧ Below W.heap.size W w') := fun W => rtop_is D l0 w0 n w1 W
  generalize topN D (topM n) = T at *
  clear hk
  go_enter Tryd.func5, Tryd.ntmps5
  go_wp2_with fail
  refine wp_region_noPanic ?_
  refine wp_region_held_drew (S := (fun W : World => W.heap[w.heap.size]? = some (.cells (u8s D) 24))) (by kernel_rfl) ?hSa (fun hHeld => ?resta)
  case hSa => exact H0.out
  case resta =>
    refine wpAnyH_take (i := 0) (v := .agg (u8s D)) rfl (by kernel_rfl) (by kernel_rfl) (by kernel_rfl) (fun _ _ _ h => h) (Or.inl ⟨by rfl, ?hy0⟩) hHeld ?rest0
    case hy0 => (intro w hSw; exact load_row_run _ _ _ _ (.tmp 2) rfl _ rfl _ _ _ _ _ hSw Tryd.underlying24 (size32l D l0))
    try simp only [Act.put, List.setIfInBounds_toArray, List.set_cons_zero, List.set_cons_succ, List.getElem_toArray, List.getElem_cons_zero]
    refine wpAnyH_take (i := 1) (v := ?v1) rfl (by kernel_rfl) (by kernel_rfl) (by kernel_rfl) (fun _ _ _ h => h) (Or.inl ⟨by rfl, ?hy1⟩) hHeld ?rest1
    case hy1 => (intro w hSw; (try dsimp only at hSw); go_simp; try with_reducible rfl)
    try simp only [Act.put, List.setIfInBounds_toArray, List.set_cons_zero, List.set_cons_succ, List.getElem_toArray, List.getElem_cons_zero, List.getElem_cons_succ]
    refine wpAnyH_take (i := 3) (v := .agg (u8s D)) rfl (by kernel_rfl) (by kernel_rfl) (by kernel_rfl) (fun _ _ _ h => h) (Or.inl ⟨by rfl, ?hy3⟩) hHeld ?rest3
    case hy3 => (intro w hSw; exact load_row_run _ _ _ _ (.tmp 2) rfl _ rfl _ _ _ _ _ hSw Tryd.underlying24 (size32l D l0))
    try simp only [Act.put, List.setIfInBounds_toArray, List.set_cons_zero, List.set_cons_succ, List.getElem_toArray, List.getElem_cons_zero, List.getElem_cons_succ]
    refine wpAnyH_take (i := 4) (v := ?v4) rfl (by kernel_rfl) (by kernel_rfl) (by kernel_rfl) (fun _ _ _ h => h) (Or.inl ⟨by rfl, ?hy4⟩) hHeld ?rest4
    case hy4 => (intro w hSw; (try dsimp only at hSw); go_simp; try with_reducible rfl)
    try simp only [Act.put, List.setIfInBounds_toArray, List.set_cons_zero, List.set_cons_succ, List.getElem_toArray, List.getElem_cons_zero, List.getElem_cons_succ]
    refine wpAnyH_ready (rs := [2]) (by kernel_rfl) (by simp) ?_
    refine AllReadyH.cons rfl (fun K hK => ?_) AllReadyH.nil
    go_simp; refine (KT.out _).mono ?_; rintro e w1 ⟨rfl, hb1⟩; have H1 : Hid (w1.heap[w.heap.size]? = some (.cells (u8s D) 24)) := (hb1.block _ (lt_of_heap H0.out)).trans H0.out; have B1 : Hid (Below w.heap.size w w1) := B0.out.trans (hb1.mono B0.out.size); clear hb1; go_wp2_with fail
    refine hK.out _ _ ?hS2 (fun hHeld => ?rest2)
    case hS2 => exact H1.out
    clear hK K
    try simp only [Act.put, List.setIfInBounds_toArray, List.set_cons_zero, List.set_cons_succ, List.getElem_toArray, List.getElem_cons_zero, List.getElem_cons_succ]
    refine wpAnyH_ready (rs := [5]) (by kernel_rfl) (by simp) ?_
    refine AllReadyH.cons rfl (fun K hK => ?_) AllReadyH.nil
    go_simp; refine (KR.out _).mono ?_; rintro e w2 ⟨rfl, hb1⟩; have H2 : Hid (w2.heap[w.heap.size]? = some (.cells (u8s D) 24)) := (hb1.block _ (lt_of_heap H1.out)).trans H1.out; have B2 : Hid (Below w.heap.size w w2) := B1.out.trans (hb1.mono B1.out.size); clear hb1; go_wp2_with fail
    refine hK.out _ _ ?hS5 (fun hHeld => ?rest5)
    case hS5 => exact H2.out
    clear hK K
    try simp only [Act.put, List.setIfInBounds_toArray, List.set_cons_zero, List.set_cons_succ, List.getElem_toArray, List.getElem_cons_zero, List.getElem_cons_succ]
    refine wpAnyH_take (i := 6) (v := ?v6) rfl (by kernel_rfl) (by kernel_rfl) (by kernel_rfl) (fun _ _ _ h => h) (Or.inl ⟨by rfl, ?hy6⟩) hHeld ?rest6
    case hy6 => (intro w hSw; (try dsimp only at hSw); go_simp; try with_reducible rfl)
    try simp only [Act.put, List.setIfInBounds_toArray, List.set_cons_zero, List.set_cons_succ, List.getElem_toArray, List.getElem_cons_zero, List.getElem_cons_succ]
    refine wpAnyH_take (i := 7) (v := ?v7) rfl (by kernel_rfl) (by kernel_rfl) (by kernel_rfl) (fun _ _ _ h => h) (Or.inl ⟨by rfl, ?hy7⟩) hHeld ?rest7
    case hy7 => (intro w hSw; (try dsimp only at hSw); go_simp; try with_reducible rfl)
    try simp only [Act.put, List.setIfInBounds_toArray, List.set_cons_zero, List.set_cons_succ, List.getElem_toArray, List.getElem_cons_zero, List.getElem_cons_succ]
    refine wpAnyH_ready (rs := [8]) (by kernel_rfl) (by simp) ?_
    refine AllReadyH.cons rfl (fun K hK => ?_) AllReadyH.nil
    go_simp; refine (works_true _ (HK.out.below B2.out HK.out.pos)).mono ?_; rintro e w3 ⟨rfl, hb1⟩; have H3 : Hid (w3.heap[w.heap.size]? = some (.cells (u8s D) 24)) := (hb1.block _ (lt_of_heap H2.out)).trans H2.out; have B3 : Hid (Below w.heap.size w w3) := B2.out.trans (hb1.mono B2.out.size); clear hb1; go_wp2_with fail
    refine hK.out _ _ ?hS8 (fun hHeld => ?rest8)
    case hS8 => exact H3.out
    clear hK K
    try simp only [Act.put, List.setIfInBounds_toArray, List.set_cons_zero, List.set_cons_succ, List.getElem_toArray, List.getElem_cons_zero, List.getElem_cons_succ]
    refine wpAnyH_take (i := 9) (v := ?v9) rfl (by kernel_rfl) (by kernel_rfl) (by kernel_rfl) (fun _ _ _ h => h) (Or.inl ⟨by rfl, ?hy9⟩) hHeld ?rest9
    case hy9 => (intro w hSw; (try dsimp only at hSw); go_simp; try with_reducible rfl)
    try simp only [Act.put, List.setIfInBounds_toArray, List.set_cons_zero, List.set_cons_succ, List.getElem_toArray, List.getElem_cons_zero, List.getElem_cons_succ]
    refine wpAnyH_take (i := 10) (v := ?v10) rfl (by kernel_rfl) (by kernel_rfl) (by kernel_rfl) (fun _ _ _ h => h) (Or.inl ⟨by rfl, ?hy10⟩) hHeld ?rest10
    case hy10 => (intro w hSw; (try dsimp only at hSw); go_simp; try with_reducible rfl)
    try simp only [Act.put, List.setIfInBounds_toArray, List.set_cons_zero, List.set_cons_succ, List.getElem_toArray, List.getElem_cons_zero, List.getElem_cons_succ]
    refine wpAnyH_done (by kernel_rfl) ?_ _
    refine NoPanic.normal ?_
    go_wp2
    go_ret
    exact ⟨rfl, B3.out⟩
end Go.Proofs.YtofnibjpgkglnaaDoor
