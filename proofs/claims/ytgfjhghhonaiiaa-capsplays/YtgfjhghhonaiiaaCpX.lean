/- copied, Copy (gen_ccopy2.py). -/
import Derived.Test.YtgfjhghhonaiiaaCpW
import Derived.Deep.RegionWith
import Derived.Laws.CopyOwn
import Derived.OrdersHeld
import Derived.Deep.RegionHeld3
namespace Go.Proofs.Ytgfjhghhonaiiaa
open Go.ChangeShapes Go.WideShapes Go.ChangeAt Go.RowKit Go.Deep Go.Maps
set_option linter.unusedVariables false
set_option linter.unusedSimpArgs false
theorem results_2 {fn : Func} {p : Tmp} (h : fn.results = #[.cell p 39]) (tmps : Array Value) (w : World) (g : Nat) (D : Array Value) (hD : D.size = 2)
    (hp : tmps.getD p undef = .pointer (some ⟨g, 0, none⟩)) (hg : w.heap[g]? = some (.cells D 39)) :
    (results fn tmps).run Try.prog w = .ok (.agg D) w := by
  have hp' : tmps[p]?.getD undef = .pointer (some ⟨g, 0, none⟩) := by simpa using hp
  have size2 : (Try.prog.info? 39).map (·.size) = some 2 := by kernel_rfl
  simp [results, h, hp', asAddr, run_loadVar_row w g 39 39 D (0, 0) _ hg Try.underlying39 rfl (by rw [hD]; exact size2)]
theorem setRow_at (w : World) (g : Nat) (old cs : Array Value) (t : TypeId) (h : w.heap[g]? = some (.cells old t (0, 0))) : (w.setRow g cs).heap[g]? = some (.cells cs t (0, 0)) := by
  have := lt_of_heapK h
  simp [World.setRow, h, Array.getElem?_modify]
set_option maxRecDepth 100000 in
set_option maxHeartbeats 4000000 in
theorem copied_is (w : World) (mq mg N : Nat) (Q : Qm) (G : Gm) (hq : ScQ w mq N Q) (hg : ScG w mg N G) : Calls Try.prog 23 #[.agg #[.map (some mq), .map (some mg)]] w fun e w' => ∃ nq ng, e = .returned (.agg #[.map (some nq), .map (some ng)]) ∧ ScQ w' nq N Q ∧ ScG w' ng N G ∧ w.heap.size ≤ nq ∧ w.heap.size ≤ ng ∧ nq ≠ ng ∧ nq < w'.heap.size ∧ ng < w'.heap.size ∧ Below w.heap.size w w' := by
  have z1 : (w.alloc (.cells #[.map (some mq), .map (some mg)] 39)).heap.size = w.heap.size + 1 := by simp
  have z2 : ((w.alloc (.cells #[.map (some mq), .map (some mg)] 39)).alloc (.cells #[.map none, .map none] 39)).heap.size = w.heap.size + 1 + 1 := by simp
  have b0 : Below w.heap.size w ((w.alloc (.cells #[.map (some mq), .map (some mg)] 39)).alloc (.cells #[.map none, .map none] 39)).drew := (((Below.refl _ _).alloc (Nat.le_refl _) _).alloc (by simp) _).drew
  have e0 : ((w.alloc (.cells #[.map (some mq), .map (some mg)] 39)).alloc (.cells #[.map none, .map none] 39)).heap[w.heap.size]? = some (.cells #[.map (some mq), .map (some mg)] 39) := (Below.heap_alloc _ _ _ (by omega)).trans (heap_alloc_new w _)
  have e1 : ((w.alloc (.cells #[.map (some mq), .map (some mg)] 39)).alloc (.cells #[.map none, .map none] 39)).heap[w.heap.size + 1]? = some (.cells #[.map none, .map none] 39) := by
    have := heap_alloc_new (w.alloc (.cells #[.map (some mq), .map (some mg)] 39)) (.cells #[.map none, .map none] 39)
    rwa [z1] at this
  have s0 : ((w.alloc (.cells #[.map (some mq), .map (some mg)] 39)).alloc (.cells #[.map none, .map none] 39)).drew.cell? ⟨w.heap.size, 0, none⟩ = some (.map (some mq)) ∧ ((w.alloc (.cells #[.map (some mq), .map (some mg)] 39)).alloc (.cells #[.map none, .map none] 39)).drew.cell? ⟨w.heap.size, 1, none⟩ = some (.map (some mg)) := by
    have e2 : ((w.alloc (.cells #[.map (some mq), .map (some mg)] 39)).alloc (.cells #[.map none, .map none] 39)).drew.heap[w.heap.size]? = some (.cells #[.map (some mq), .map (some mg)] 39) := e0
    refine ⟨?_, ?_⟩ <;> simp [World.cell?, e2]
  have HS : Hid (((w.alloc (.cells #[.map (some mq), .map (some mg)] 39)).alloc (.cells #[.map none, .map none] 39)).drew.cell? ⟨w.heap.size, 0, none⟩ = some (.map (some mq)) ∧ ((w.alloc (.cells #[.map (some mq), .map (some mg)] 39)).alloc (.cells #[.map none, .map none] 39)).drew.cell? ⟨w.heap.size, 1, none⟩ = some (.map (some mg))) := s0
  have K1 : Hid (Calls Try.prog 33 #[.map (some mq)] ((w.alloc (.cells #[.map (some mq), .map (some mg)] 39)).alloc (.cells #[.map none, .map none] 39)).drew fun e w' => e = .returned (.map (some (w.heap.size + 1 + 1))) ∧ ScQ w' (w.heap.size + 1 + 1) N Q ∧ ScG w' mg N G ∧ Below (w.heap.size + 1 + 1) ((w.alloc (.cells #[.map (some mq), .map (some mg)] 39)).alloc (.cells #[.map none, .map none] 39)).drew w' ∧ w.heap.size + 1 + 1 < w'.heap.size) := by
    have hk := qclone_is ((w.alloc (.cells #[.map (some mq), .map (some mg)] 39)).alloc (.cells #[.map none, .map none] 39)).drew mq N Q (hq.keep b0)
    rw [show ((w.alloc (.cells #[.map (some mq), .map (some mg)] 39)).alloc (.cells #[.map none, .map none] 39)).drew.heap.size = w.heap.size + 1 + 1 from z2] at hk
    refine hk.mono ?_
    rintro e w' ⟨rfl, a1, a2, a3⟩
    exact ⟨rfl, a1, (hg.keep b0).blk (a3.block mg (by have := hg.lt; omega)), a3, a1.lt⟩
  have HB : Hid (Below w.heap.size w ((w.alloc (.cells #[.map (some mq), .map (some mg)] 39)).alloc (.cells #[.map none, .map none] 39)).drew ∧ ((w.alloc (.cells #[.map (some mq), .map (some mg)] 39)).alloc (.cells #[.map none, .map none] 39)).drew.heap.size = w.heap.size + 1 + 1 ∧ ((w.alloc (.cells #[.map (some mq), .map (some mg)] 39)).alloc (.cells #[.map none, .map none] 39)).drew.heap[w.heap.size]? = some (.cells #[.map (some mq), .map (some mg)] 39) ∧ ((w.alloc (.cells #[.map (some mq), .map (some mg)] 39)).alloc (.cells #[.map none, .map none] 39)).drew.heap[w.heap.size + 1]? = some (.cells #[.map none, .map none] 39)) := ⟨b0, z2, e0, e1⟩
  clear hq hg b0 e0 e1 s0 z1 z2
  go_enter Try.func23, Try.ntmps23
  go_wp2_with fail
  refine wp_region_noPanic ?_
  refine wp_region_held_drew (S := (fun u : World => u.cell? ⟨w.heap.size, 0, none⟩ = some (.map (some mq)) ∧ u.cell? ⟨w.heap.size, 1, none⟩ = some (.map (some mg)))) (by kernel_rfl) ?hSac (fun hHeld => ?restac)
  case hSac => exact HS.out
  case restac =>
  refine wpAnyH_take (i := 0) (v := .pointer (some ⟨w.heap.size, 0, none⟩)) rfl (by kernel_rfl) (by kernel_rfl) (by kernel_rfl) (fun _ _ _ h => h) (Or.inl ⟨by kernel_rfl, ?hy0c⟩) hHeld ?rest0c
  case hy0c => (intro w' hSw; obtain ⟨s0, s1⟩ := hSw; go_simp; try with_reducible rfl)
  try simp only [Act.put, List.setIfInBounds_toArray, List.set_cons_zero, List.set_cons_succ, List.getElem_toArray, List.getElem_cons_zero, List.getElem_cons_succ]
  refine wpAnyH_take (i := 1) (v := .map (some mq)) rfl (by kernel_rfl) (by kernel_rfl) (by kernel_rfl) (fun _ _ _ h => h) (Or.inl ⟨by kernel_rfl, ?hy1c⟩) hHeld ?rest1c
  case hy1c => (intro w' hSw; obtain ⟨s0, s1⟩ := hSw; go_simp; try with_reducible rfl)
  try simp only [Act.put, List.setIfInBounds_toArray, List.set_cons_zero, List.set_cons_succ, List.getElem_toArray, List.getElem_cons_zero, List.getElem_cons_succ]
  refine wpAnyH_take (i := 3) (v := .pointer (some ⟨w.heap.size, 1, none⟩)) rfl (by kernel_rfl) (by kernel_rfl) (by kernel_rfl) (fun _ _ _ h => h) (Or.inl ⟨by kernel_rfl, ?hy3c⟩) hHeld ?rest3c
  case hy3c => (intro w' hSw; obtain ⟨s0, s1⟩ := hSw; go_simp; try with_reducible rfl)
  try simp only [Act.put, List.setIfInBounds_toArray, List.set_cons_zero, List.set_cons_succ, List.getElem_toArray, List.getElem_cons_zero, List.getElem_cons_succ]
  refine wpAnyH_take (i := 4) (v := .map (some mg)) rfl (by kernel_rfl) (by kernel_rfl) (by kernel_rfl) (fun _ _ _ h => h) (Or.inl ⟨by kernel_rfl, ?hy4c⟩) hHeld ?rest4c
  case hy4c => (intro w' hSw; obtain ⟨s0, s1⟩ := hSw; go_simp; try with_reducible rfl)
  try simp only [Act.put, List.setIfInBounds_toArray, List.set_cons_zero, List.set_cons_succ, List.getElem_toArray, List.getElem_cons_zero, List.getElem_cons_succ]
  refine wpAnyH_ready (rs := [2]) (by kernel_rfl) (by simp) ?_
  refine AllReadyH.cons rfl (fun K hK => ?_) AllReadyH.nil
  go_simp; refine K1.out.mono ?_; rintro e w5 ⟨rfl, a1, a2, a3, a4⟩; have H5 : Hid (ScQ w5 (w.heap.size + 1 + 1) N Q ∧ ScG w5 mg N G ∧ Below (w.heap.size + 1 + 1) ((w.alloc (.cells #[.map (some mq), .map (some mg)] 39)).alloc (.cells #[.map none, .map none] 39)).drew w5 ∧ w.heap.size + 1 + 1 < w5.heap.size) := ⟨a1, a2, a3, a4⟩; clear a1 a2 a3 a4; go_wp2_with fail
  refine hK.out _ _ ?hS2c (fun hHeld => ?rest2c)
  case hS2c => (have h5 : w5.heap[w.heap.size]? = some (.cells #[.map (some mq), .map (some mg)] 39) := (H5.out.2.2.1.block _ (by omega)).trans HB.out.2.2.1; exact ⟨by simp [World.cell?, h5], by simp [World.cell?, h5]⟩)
  clear hK K
  try simp only [Act.put, List.setIfInBounds_toArray, List.set_cons_zero, List.set_cons_succ, List.getElem_toArray, List.getElem_cons_zero, List.getElem_cons_succ]
  have K2 : Hid (Calls Try.prog 34 #[.map (some mg)] w5 fun e w' => e = .returned (.map (some w5.heap.size)) ∧ ScG w' w5.heap.size N G ∧ Below w5.heap.size w5 w' ∧ w5.heap.size < w'.heap.size) := by
    refine (gclone_is w5 mg N G H5.out.2.1).mono ?_
    rintro e w' ⟨rfl, a1, a2, a3⟩
    exact ⟨rfl, a1, a3, a1.lt⟩
  refine wpAnyH_ready (rs := [5]) (by kernel_rfl) (by simp) ?_
  refine AllReadyH.cons rfl (fun K hK => ?_) AllReadyH.nil
  go_simp; refine K2.out.mono ?_; rintro e w6 ⟨rfl, a1, a3, a4⟩; have H6 : Hid (ScG w6 w5.heap.size N G ∧ Below w5.heap.size w5 w6 ∧ w5.heap.size < w6.heap.size) := ⟨a1, a3, a4⟩; clear a1 a3 a4; go_wp2_with fail
  refine hK.out _ _ ?hS5c (fun hHeld => ?rest5c)
  case hS5c => (have h5 : w6.heap[w.heap.size]? = some (.cells #[.map (some mq), .map (some mg)] 39) := (H6.out.2.1.block _ (by have := H5.out.2.2.2; omega)).trans ((H5.out.2.2.1.block _ (by omega)).trans HB.out.2.2.1); exact ⟨by simp [World.cell?, h5], by simp [World.cell?, h5]⟩)
  clear hK K
  try simp only [Act.put, List.setIfInBounds_toArray, List.set_cons_zero, List.set_cons_succ, List.getElem_toArray, List.getElem_cons_zero, List.getElem_cons_succ]
  refine wpAnyH_take (i := 6) (v := .agg #[.map (some (w.heap.size + 1 + 1)), .map (some w5.heap.size)]) rfl (by kernel_rfl) (by kernel_rfl) (by kernel_rfl) (fun _ _ _ h => h) (Or.inl ⟨by kernel_rfl, ?hy6c⟩) hHeld ?rest6c
  case hy6c => (intro w' hSw; obtain ⟨s0, s1⟩ := hSw; go_simp; try with_reducible rfl)
  try simp only [Act.put, List.setIfInBounds_toArray, List.set_cons_zero, List.set_cons_succ, List.getElem_toArray, List.getElem_cons_zero, List.getElem_cons_succ]
  have h6 : Hid (w6.heap[w.heap.size + 1]? = some (.cells #[.map none, .map none] 39)) := (H6.out.2.1.block _ (by have := H5.out.2.2.2; omega)).trans ((H5.out.2.2.1.block _ (by omega)).trans HB.out.2.2.2)
  refine wpAnyH_ready (rs := [7]) (by kernel_rfl) (by simp) ?_
  refine AllReadyH.cons rfl (fun K hK => ?_) AllReadyH.nil
  rw [if_pos (by kernel_rfl)]; refine wp_store_row 39 (.tmp 2) (.tmp 9) rfl (w.heap.size + 1) #[.map (some (w.heap.size + 1 + 1)), .map (some w5.heap.size)] rfl rfl 39 #[.map none, .map none] h6.out (by kernel_rfl) rfl (by simp [Value.oneCell']) ?_
  refine hK.out _ _ ?hS7c (fun hHeld => ?rest7c)
  case hS7c => (have h5 : (w6.setRow (w.heap.size + 1) #[.map (some (w.heap.size + 1 + 1)), .map (some w5.heap.size)]).heap[w.heap.size]? = some (.cells #[.map (some mq), .map (some mg)] 39) := (setRow_other _ _ _ _ (by omega)).trans ((H6.out.2.1.block _ (by have := H5.out.2.2.2; omega)).trans ((H5.out.2.2.1.block _ (by omega)).trans HB.out.2.2.1)); exact ⟨by simp [World.cell?, h5], by simp [World.cell?, h5]⟩)
  clear hK K
  refine wpAnyH_done (by kernel_rfl) ?_ _
  refine NoPanic.normal ?_
  go_wp2_with fail
  refine bodyPost_ret (results_2 rfl _ _ (w.heap.size + 1) #[.map (some (w.heap.size + 1 + 1)), .map (some w5.heap.size)] rfl rfl (setRow_at _ _ _ _ _ h6.out)) rfl ?_
  have q5 := H5.out
  have q6 := H6.out
  have bb : Below w.heap.size w w6 := (HB.out.1.trans (q5.2.2.1.mono (by omega))).trans (q6.2.1.mono (by omega))
  refine ⟨_, _, rfl, (q5.1.keep (q6.2.1)).blk (setRow_other _ _ _ _ (by omega)), q6.1.blk (setRow_other _ _ _ _ (by omega)), by omega, by omega, by omega, ?_, ?_, below_setRow bb (by omega) _⟩
  · rw [setRow_size]; omega
  · rw [setRow_size]; omega
set_option maxRecDepth 100000 in
set_option maxHeartbeats 4000000 in
theorem copy_is (w : World) (F : Nat → Prop) (b N : Nat) (Q : Qm) (G : Gm) (h : Tab w F b N Q G) : Calls Try.prog 9 #[.pointer (some ⟨b, 0, none⟩)] w fun e w' => ∃ b2 F2, e = .returned (.pointer (some ⟨b2, 0, none⟩)) ∧ Tab w' F2 b2 N Q G ∧ Below w.heap.size w w' ∧ ∀ k, F2 k → w.heap.size ≤ k := by
  have KN : Hid (∀ W, W = w → Calls Try.prog 22 #[.pointer (some ⟨b, 0, none⟩)] W fun e w' => e = .returned (.bool false) ∧ w' = W) := fun W hW => by rw [hW]; exact none_is w F b N Q G h
  obtain ⟨mq, mg, h1, hF⟩ := h
  obtain ⟨c0, c1⟩ := tab_cells h1.box
  have KC : Hid (∀ W, W = w → Calls Try.prog 23 #[.agg #[.map (some mq), .map (some mg)]] W fun e w' => ∃ nq ng, e = .returned (.agg #[.map (some nq), .map (some ng)]) ∧ ScQ w' nq N Q ∧ ScG w' ng N G ∧ w.heap.size ≤ nq ∧ w.heap.size ≤ ng ∧ nq ≠ ng ∧ nq < w'.heap.size ∧ ng < w'.heap.size ∧ Below w.heap.size w w') := fun W hW => by rw [hW]; exact copied_is w mq mg N Q G h1.sq h1.sg
  have HG : Hid (Gd Q G) := h1.gd
  clear h1 hF
  go_enter Try.func9, Try.ntmps9
  go_wp2_with fail
  refine (KN.out _ rfl).mono ?_
  rintro e w1 ⟨rfl, hw⟩
  obtain rfl := hw.symm
  clear hw
  go_wp2_with fail
  refine (KC.out _ rfl).mono ?_
  rintro e w2 ⟨nq, ng, rfl, a1, a2, a3, a4, a5, a6, a7, a8⟩
  have H2 : Hid (ScQ w2 nq N Q ∧ ScG w2 ng N G ∧ w.heap.size ≤ nq ∧ w.heap.size ≤ ng ∧ nq ≠ ng ∧ nq < w2.heap.size ∧ ng < w2.heap.size ∧ Below w.heap.size w w2) := ⟨a1, a2, a3, a4, a5, a6, a7, a8⟩
  clear a1 a2 a3 a4 a5 a6 a7 a8 c0 c1
  go_wp2_with fail
  go_ret
  obtain ⟨a1, a2, a3, a4, a5, a6, a7, a8⟩ := H2.out
  refine ⟨w2.heap.size, TF w2.heap.size nq ng, rfl, ⟨nq, ng, ⟨heap_alloc_new w2 _, a1.keep (below1 _ _), a2.keep (below1 _ _), ⟨by omega, by omega, a5⟩, HG.out⟩, fun k => Iff.rfl⟩, a8.alloc a8.size _, ?_⟩
  have := a8.size
  rintro k (rfl | rfl | rfl) <;> omega
end Go.Proofs.Ytgfjhghhonaiiaa
