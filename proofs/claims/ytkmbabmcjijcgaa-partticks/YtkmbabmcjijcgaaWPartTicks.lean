/- PartTicks's walk. -/
import Derived.Test.YtkmbabmcjijcgaaPtM
import Derived.Test.YtkmbabmcjijcgaaPtT
namespace Go.Proofs.Ytkmbabmcjijcgaa
open Go.ChangeShapes Go.WideShapes Go.ChangeAt Go.RowKit Go.Deep Go.Maps
set_option linter.unusedVariables false
set_option linter.unusedSimpArgs false
def tcL (r s : Int) (D : List Int) : List Dd := if gdP r s D = true then tcD r s D else []
theorem tc_list {w w' : World} {r s : Int} {D : List Int} {V : Value} (h : TcSaid w w' r s D V) : OwnD w' 0 V (tcL r s D) ∧ Below w.heap.size w w' := by
  obtain ⟨h1, h2, h3⟩ := h
  refine ⟨?_, h3⟩
  unfold tcL
  by_cases hg : gdP r s D = true
  · rw [if_pos hg]; exact (h1 hg).base (Nat.zero_le _)
  · rw [if_neg hg, h2 (by simpa using hg)]; exact OwnD.nil _ _
theorem tc_bare (r s : Int) (D : List Int) : (∀ y ∈ tcL r s D, y.bare) ∧ (tcL r s D).length ≤ 1000 := by
  unfold tcL
  split
  · unfold tcD
    split
    · unfold dSe
      split
      · exact ⟨(fun y hy => by simp [some9, dP] at hy), by decide⟩
      · refine ⟨fun y hy => ?_, Nat.le_trans (List.length_filter_le _ _) (by simp)⟩
        have := (List.mem_filter.1 hy).1
        rw [List.mem_singleton.1 this]
        exact ⟨rfl, rfl⟩
    · exact ⟨(fun y hy => by rw [List.mem_singleton.1 hy]; exact ⟨rfl, rfl⟩), by simp⟩
  · exact ⟨(fun y hy => by simp at hy), by simp⟩
set_option maxRecDepth 100000 in
set_option maxHeartbeats 8000000 in
theorem partTicks_walk (r s : Int) (ad : Option Addr) (nd cd : Nat) (D : List Int) (w : World) (hp : PtIn w r s ad nd cd D) :
    Calls Try.prog 4 #[.agg #[.int .i64 r, .int .i64 s, .slice ad nd cd]] w fun e w' => e = .returned (.bool true) ∧ Below w.heap.size w w' := by
  obtain ⟨hpI, hnd, hdc, hda, hD, hdN⟩ := hp
  obtain ⟨W0, hW0⟩ : ∃ W0, W0 = w.alloc (.cells #[.int .i64 r, .int .i64 s, .slice ad nd cd] 24) := ⟨_, rfl⟩
  have HE : Hid (W0 = w.alloc (.cells #[.int .i64 r, .int .i64 s, .slice ad nd cd] 24)) := hW0
  have hb0 : Below w.heap.size w W0 := by rw [hW0]; exact below1 _ _
  have HQ : Hid (Below w.heap.size w W0) := hb0
  have KF : Hid (Calls Try.prog 9 #[.agg #[.int .i64 r, .int .i64 s, .slice ad nd cd], .agg #[.int .i64 0, .int .i64 0, .int .i64 0, .int .i64 0, .bool false, .slice none 0 0]] W0 (fun e w' => FwSaid W0 w' r s 0 0 0 0 false D [] e)) := fewp_is W0 r s ad nd cd D hnd (hD.keep hb0) hda hdc 0 0 0 0 false none 0 0 [] rfl (.inl rfl) (Nat.le_refl _) (fun x hx => by simp at hx)
  have KW : Hid (∀ u, Calls Try.prog 17 #[] u fun e w' => e = .returned (.bool true) ∧ Below u.heap.size u w') := pworks_true
  clear hW0 hb0 hpI hnd hdc hda hD hdN
  go_enter Try.func4, Try.ntmps4
  go_wp2_with fail
  rw [← HE.out]
  clear HE
  refine KF.out.mono ?_
  intro e w1 hsd
  obtain ⟨a5, m5, c5, a9, m9, c9, M, rfl, oz, -, hpa, -, -, hb1⟩ := fw_open hsd
  obtain ⟨DT, hDT⟩ : ∃ DT, DT = D.take 100 := ⟨_, rfl⟩
  rw [← hDT] at oz hpa
  obtain ⟨w2, hw2⟩ : ∃ w2, w2 = (w1.alloc (.cells #[.int .i64 r, .int .i64 s, .slice a5 m5 c5] 24)).alloc (.cells #[.int .i64 0, .int .i64 0, .int .i64 0, .int .i64 0, .bool false, .slice a9 m9 c9] 27) := ⟨_, rfl⟩
  have B2 : Below w1.heap.size w1 w2 := by rw [hw2]; exact ((Below.refl _ _).alloc (Nat.le_refl _) _).alloc (by simp) _
  have X2 : Hid (Bx w2 w1.heap.size r s a5 m5 c5 ∧ PrtAt w2 a5 m5 c5 DT ∧ Below w.heap.size w w2) := by
    refine ⟨?_, hpa.keep B2, (HQ.out.trans (hb1.mono HQ.out.size)).trans (B2.mono (HQ.out.trans (hb1.mono HQ.out.size)).size)⟩
    rw [hw2]
    exact (Below.heap_alloc _ _ _ (by simp)).trans (heap_alloc_new w1 _)
  have HW2 : Hid (w2 = (w1.alloc (.cells #[.int .i64 r, .int .i64 s, .slice a5 m5 c5] 24)).alloc (.cells #[.int .i64 0, .int .i64 0, .int .i64 0, .int .i64 0, .bool false, .slice a9 m9 c9] 27)) := hw2
  clear hsd oz hpa hb1 hDT hw2 B2 KF HQ
  go_upto_region 2 with fail
  rw [← HW2.out]
  clear HW2
  obtain ⟨b3, hb3⟩ : ∃ b3, b3 = w1.heap.size := ⟨_, rfl⟩
  simp only [← hb3] at X2 ⊢
  clear hb3
  obtain ⟨G, hG⟩ : ∃ G, gdP r s DT = G := ⟨_, rfl⟩
  have KG : Hid (∀ W, Below w2.heap.size w2 W → Calls Try.prog 13 #[.agg #[.int .i64 r, .int .i64 s, .slice a5 m5 c5]] W fun e w' => e = .returned (.bool G) ∧ Below W.heap.size W w') := fun W hW => by rw [← hG]; exact good_at (X2.out.2.1.keep hW) r s
  have KR : Hid (∀ W, Below w2.heap.size w2 W → Calls Try.prog 14 #[.agg #[.int .i64 r, .int .i64 s, .slice a5 m5 c5]] W fun e w' => e = .returned (.bool G) ∧ Below W.heap.size W w') := fun W hW => by rw [← hG]; exact rgood_is W r s a5 m5 c5 DT (X2.out.2.1.keep hW)
  have KT : Hid (∀ W, Below w2.heap.size w2 W → Calls Try.prog 18 #[.agg #[.int .i64 r, .int .i64 s, .slice a5 m5 c5]] W fun e w' => ∃ V, e = .returned V ∧ TcSaid W w' r s DT V) := fun W hW => tick_at (X2.out.2.1.keep hW) r s
  have KU : Hid (∀ W, Below w2.heap.size w2 W → Calls Try.prog 19 #[.agg #[.int .i64 r, .int .i64 s, .slice a5 m5 c5]] W fun e w' => ∃ V, e = .returned V ∧ TcSaid W w' r s DT V) := fun W hW => rtick_is W r s a5 m5 c5 DT (X2.out.2.1.keep hW)
  have KC : Hid (∀ W, Below w2.heap.size w2 W → (W.cell? ⟨b3, 0, none⟩ = some (.int .i64 r) ∧ W.cell? ⟨b3, 1, none⟩ = some (.int .i64 s) ∧ W.cell? ⟨b3, 2, none⟩ = some (.slice a5 m5 c5))) := fun W hW => (X2.out.1.keep hW).cells
  have gg : (G == G) = true := by simp
  clear hG
  refine wp_region_noPanic ?_
  refine wp_region_held_drew (S := (fun W : World => Below w2.heap.size w2 W)) (by kernel_rfl) ?hSat (fun hHeld => ?restat)
  case hSat => exact below_drewM (Below.refl _ _)
  case restat =>
    refine wpAnyH_take (i := 0) (v := .agg #[.int .i64 r, .int .i64 s, .slice a5 m5 c5]) rfl (by kernel_rfl) (by kernel_rfl) (by kernel_rfl) (fun _ _ _ h => h) (Or.inl ⟨by kernel_rfl, ?hy0t⟩) hHeld ?rest0t
    case hy0t => (intro w' hSw; (try dsimp only at hSw); obtain ⟨q0, q1, q2⟩ := KC.out _ hSw; go_simp; try with_reducible rfl)
    try simp only [Act.put, List.setIfInBounds_toArray, List.set_cons_zero, List.set_cons_succ, List.getElem_toArray, List.getElem_cons_zero, List.getElem_cons_succ]
    refine wpAnyH_take (i := 2) (v := .agg #[.int .i64 r, .int .i64 s, .slice a5 m5 c5]) rfl (by kernel_rfl) (by kernel_rfl) (by kernel_rfl) (fun _ _ _ h => h) (Or.inl ⟨by kernel_rfl, ?hy2t⟩) hHeld ?rest2t
    case hy2t => (intro w' hSw; (try dsimp only at hSw); obtain ⟨q0, q1, q2⟩ := KC.out _ hSw; go_simp; try with_reducible rfl)
    try simp only [Act.put, List.setIfInBounds_toArray, List.set_cons_zero, List.set_cons_succ, List.getElem_toArray, List.getElem_cons_zero, List.getElem_cons_succ]
    refine wpAnyH_ready (rs := [1]) (by kernel_rfl) (by simp) ?_
    refine AllReadyH.cons rfl (fun K hK => ?_) AllReadyH.nil
    go_simp; refine (KT.out _ hHeld).mono ?_; rintro e u1 ⟨V1, rfl, hT1⟩; obtain ⟨o1, hbu1⟩ := tc_list hT1; have O1 : Hid (OwnD u1 0 V1 (tcL r s DT)) := o1; clear hT1 o1; have Hu1 : Hid (Below w2.heap.size w2 u1) := (hHeld : Below _ _ _).trans (hbu1.mono (hHeld : Below _ _ _).size); clear hbu1; go_wp2_with fail
    refine hK.out _ _ ?hS1t (fun hHeld => ?rest1t)
    case hS1t => exact Hu1.out
    clear hK K
    try simp only [Act.put, List.setIfInBounds_toArray, List.set_cons_zero, List.set_cons_succ, List.getElem_toArray, List.getElem_cons_zero, List.getElem_cons_succ]
    refine wpAnyH_ready (rs := [3]) (by kernel_rfl) (by simp) ?_
    refine AllReadyH.cons rfl (fun K hK => ?_) AllReadyH.nil
    go_simp; refine (KU.out _ hHeld).mono ?_; rintro e u2 ⟨V2, rfl, hT2⟩; obtain ⟨o2, hbu2⟩ := tc_list hT2; have O2 : Hid (OwnD u2 0 V2 (tcL r s DT) ∧ OwnD u2 0 V1 (tcL r s DT)) := ⟨o2, O1.out.keep hbu2⟩; clear hT2 o2; have Hu2 : Hid (Below w2.heap.size w2 u2) := (hHeld : Below _ _ _).trans (hbu2.mono (hHeld : Below _ _ _).size); clear hbu2; go_wp2_with fail
    refine hK.out _ _ ?hS3t (fun hHeld => ?rest3t)
    case hS3t => exact Hu2.out
    clear hK K
    try simp only [Act.put, List.setIfInBounds_toArray, List.set_cons_zero, List.set_cons_succ, List.getElem_toArray, List.getElem_cons_zero, List.getElem_cons_succ]
    refine wpAnyH_ready (rs := [4]) (by kernel_rfl) (by simp) ?_
    refine AllReadyH.cons rfl (fun K hK => ?_) AllReadyH.nil
    go_simp; refine (rsameD_is _ V1 V2 (tcL r s DT) O2.out.2 O2.out.1 (tc_bare r s DT).1 (tc_bare r s DT).2).mono ?_; rintro e u3 ⟨rfl, hbu3⟩;  have Hu3 : Hid (Below w2.heap.size w2 u3) := (hHeld : Below _ _ _).trans (hbu3.mono (hHeld : Below _ _ _).size); clear hbu3; go_wp2_with fail
    refine hK.out _ _ ?hS4t (fun hHeld => ?rest4t)
    case hS4t => exact Hu3.out
    clear hK K
    try simp only [Act.put, List.setIfInBounds_toArray, List.set_cons_zero, List.set_cons_succ, List.getElem_toArray, List.getElem_cons_zero, List.getElem_cons_succ]
    refine wpAnyH_take (i := 5) (v := .bool true) rfl (by kernel_rfl) (by kernel_rfl) (by kernel_rfl) (fun _ _ _ h => h) (Or.inl ⟨by kernel_rfl, ?hy5t⟩) hHeld ?rest5t
    case hy5t => (intro w' hSw; (try dsimp only at hSw); go_simp; try with_reducible rfl)
    try simp only [Act.put, List.setIfInBounds_toArray, List.set_cons_zero, List.set_cons_succ, List.getElem_toArray, List.getElem_cons_zero, List.getElem_cons_succ]
    refine wpAnyH_take (i := 6) (v := .agg #[.int .i64 r, .int .i64 s, .slice a5 m5 c5]) rfl (by kernel_rfl) (by kernel_rfl) (by kernel_rfl) (fun _ _ _ h => h) (Or.inl ⟨by kernel_rfl, ?hy6t⟩) hHeld ?rest6t
    case hy6t => (intro w' hSw; (try dsimp only at hSw); obtain ⟨q0, q1, q2⟩ := KC.out _ hSw; go_simp; try with_reducible rfl)
    try simp only [Act.put, List.setIfInBounds_toArray, List.set_cons_zero, List.set_cons_succ, List.getElem_toArray, List.getElem_cons_zero, List.getElem_cons_succ]
    refine wpAnyH_take (i := 8) (v := .agg #[.int .i64 r, .int .i64 s, .slice a5 m5 c5]) rfl (by kernel_rfl) (by kernel_rfl) (by kernel_rfl) (fun _ _ _ h => h) (Or.inl ⟨by kernel_rfl, ?hy8t⟩) hHeld ?rest8t
    case hy8t => (intro w' hSw; (try dsimp only at hSw); obtain ⟨q0, q1, q2⟩ := KC.out _ hSw; go_simp; try with_reducible rfl)
    try simp only [Act.put, List.setIfInBounds_toArray, List.set_cons_zero, List.set_cons_succ, List.getElem_toArray, List.getElem_cons_zero, List.getElem_cons_succ]
    refine wpAnyH_ready (rs := [7]) (by kernel_rfl) (by simp) ?_
    refine AllReadyH.cons rfl (fun K hK => ?_) AllReadyH.nil
    go_simp; refine (KG.out _ hHeld).mono ?_; rintro e u4 ⟨rfl, hbu4⟩;  have Hu4 : Hid (Below w2.heap.size w2 u4) := (hHeld : Below _ _ _).trans (hbu4.mono (hHeld : Below _ _ _).size); clear hbu4; go_wp2_with fail
    refine hK.out _ _ ?hS7t (fun hHeld => ?rest7t)
    case hS7t => exact Hu4.out
    clear hK K
    try simp only [Act.put, List.setIfInBounds_toArray, List.set_cons_zero, List.set_cons_succ, List.getElem_toArray, List.getElem_cons_zero, List.getElem_cons_succ]
    refine wpAnyH_ready (rs := [9]) (by kernel_rfl) (by simp) ?_
    refine AllReadyH.cons rfl (fun K hK => ?_) AllReadyH.nil
    go_simp; refine (KR.out _ hHeld).mono ?_; rintro e u5 ⟨rfl, hbu5⟩;  have Hu5 : Hid (Below w2.heap.size w2 u5) := (hHeld : Below _ _ _).trans (hbu5.mono (hHeld : Below _ _ _).size); clear hbu5; go_wp2_with fail
    refine hK.out _ _ ?hS9t (fun hHeld => ?rest9t)
    case hS9t => exact Hu5.out
    clear hK K
    try simp only [Act.put, List.setIfInBounds_toArray, List.set_cons_zero, List.set_cons_succ, List.getElem_toArray, List.getElem_cons_zero, List.getElem_cons_succ]
    refine wpAnyH_take (i := 10) (v := .bool true) rfl (by kernel_rfl) (by kernel_rfl) (by kernel_rfl) (fun _ _ _ h => h) (Or.inl ⟨by kernel_rfl, ?hy10t⟩) hHeld ?rest10t
    case hy10t => (intro w' hSw; (try dsimp only at hSw); go_simp; try with_reducible rfl)
    try simp only [Act.put, List.setIfInBounds_toArray, List.set_cons_zero, List.set_cons_succ, List.getElem_toArray, List.getElem_cons_zero, List.getElem_cons_succ]
    refine wpAnyH_take (i := 11) (v := .bool true) rfl (by kernel_rfl) (by kernel_rfl) (by kernel_rfl) (fun _ _ _ h => h) (Or.inl ⟨by kernel_rfl, ?hy11t⟩) hHeld ?rest11t
    case hy11t => (intro w' hSw; (try dsimp only at hSw); go_simp; try with_reducible rfl)
    try simp only [Act.put, List.setIfInBounds_toArray, List.set_cons_zero, List.set_cons_succ, List.getElem_toArray, List.getElem_cons_zero, List.getElem_cons_succ]
    refine wpAnyH_take (i := 12) (v := .bool true) rfl (by kernel_rfl) (by kernel_rfl) (by kernel_rfl) (fun _ _ _ h => h) (Or.inl ⟨by kernel_rfl, ?hy12t⟩) hHeld ?rest12t
    case hy12t => (intro w' hSw; (try dsimp only at hSw); go_simp; try with_reducible rfl)
    try simp only [Act.put, List.setIfInBounds_toArray, List.set_cons_zero, List.set_cons_succ, List.getElem_toArray, List.getElem_cons_zero, List.getElem_cons_succ]
    refine wpAnyH_ready (rs := [13]) (by kernel_rfl) (by simp) ?_
    refine AllReadyH.cons rfl (fun K hK => ?_) AllReadyH.nil
    go_simp; refine (KW.out _).mono ?_; rintro e u6 ⟨rfl, hbu6⟩;  have Hu6 : Hid (Below w2.heap.size w2 u6) := (hHeld : Below _ _ _).trans (hbu6.mono (hHeld : Below _ _ _).size); clear hbu6; go_wp2_with fail
    refine hK.out _ _ ?hS13t (fun hHeld => ?rest13t)
    case hS13t => exact Hu6.out
    clear hK K
    try simp only [Act.put, List.setIfInBounds_toArray, List.set_cons_zero, List.set_cons_succ, List.getElem_toArray, List.getElem_cons_zero, List.getElem_cons_succ]
    refine wpAnyH_take (i := 14) (v := .bool true) rfl (by kernel_rfl) (by kernel_rfl) (by kernel_rfl) (fun _ _ _ h => h) (Or.inl ⟨by kernel_rfl, ?hy14t⟩) hHeld ?rest14t
    case hy14t => (intro w' hSw; (try dsimp only at hSw); go_simp; try with_reducible rfl)
    try simp only [Act.put, List.setIfInBounds_toArray, List.set_cons_zero, List.set_cons_succ, List.getElem_toArray, List.getElem_cons_zero, List.getElem_cons_succ]
    refine wpAnyH_take (i := 15) (v := .bool true) rfl (by kernel_rfl) (by kernel_rfl) (by kernel_rfl) (fun _ _ _ h => h) (Or.inl ⟨by kernel_rfl, ?hy15t⟩) hHeld ?rest15t
    case hy15t => (intro w' hSw; (try dsimp only at hSw); go_simp; try with_reducible rfl)
    try simp only [Act.put, List.setIfInBounds_toArray, List.set_cons_zero, List.set_cons_succ, List.getElem_toArray, List.getElem_cons_zero, List.getElem_cons_succ]
    refine wpAnyH_done (by kernel_rfl) ?_ _
    refine NoPanic.normal ?_
    go_wp2_with fail
    go_ret
    exact ⟨rfl, X2.out.2.2.trans (Hu6.out.mono X2.out.2.2.size)⟩
end Go.Proofs.Ytkmbabmcjijcgaa
