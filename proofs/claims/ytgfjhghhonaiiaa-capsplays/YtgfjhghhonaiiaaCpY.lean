/- The program's table beside the document's; does (gen_cplays.py). -/
import Derived.Test.YtgfjhghhonaiiaaCpX
namespace Go.Proofs.Ytgfjhghhonaiiaa
open Go.ChangeShapes Go.WideShapes Go.ChangeAt Go.RowKit Go.Deep Go.Maps
set_option linter.unusedVariables false
set_option linter.unusedSimpArgs false
/-- the program's table beside the document's, both new since w0 -/
structure Tr (w0 w : World) (F1 F2 : Nat → Prop) (b1 b2 N : Nat) (Q : Qm) (G : Gm) (Q' : Qm) (G' : Gm) : Prop where
  l : Tab w F1 b1 N Q G
  r : Rt w F2 b2 N Q' G'
  ap : ∀ k, F1 k → ¬ F2 k
  n1 : ∀ k, F1 k → w0.heap.size ≤ k
  n2 : ∀ k, F2 k → w0.heap.size ≤ k
  bel : Below w0.heap.size w0 w
section
variable {w0 w w' : World} {F1 F2 : Nat → Prop} {b1 b2 N : Nat} {Q Q' : Qm} {G G' : Gm}
theorem Tr.keep (h : Tr w0 w F1 F2 b1 b2 N Q G Q' G') (hb : Below w.heap.size w w') : Tr w0 w' F1 F2 b1 b2 N Q G Q' G' := ⟨h.l.keep hb, h.r.keep hb, h.ap, h.n1, h.n2, h.bel.trans (hb.mono h.bel.size)⟩
theorem Tr.more {N' : Nat} (h : Tr w0 w F1 F2 b1 b2 N Q G Q' G') (hN : N ≤ N') : Tr w0 w F1 F2 b1 b2 N' Q G Q' G' := ⟨h.l.more hN, h.r.more hN, h.ap, h.n1, h.n2, h.bel⟩
theorem Tr.left {Q1 : Qm} {G1 : Gm} (h : Tr w0 w F1 F2 b1 b2 N Q G Q' G') (t : Tab w' F1 b1 (N + 1) Q1 G1) (ho : Off F1 w w') : Tr w0 w' F1 F2 b1 b2 (N + 1) Q1 G1 Q' G' := ⟨t, (h.r.apart ho (fun k h2 h1 => h.ap k h1 h2)).more (Nat.le_succ _), h.ap, h.n1, h.n2, h.bel.trans (ho.below h.n1 h.bel.size)⟩
theorem Tr.right {Q1 : Qm} {G1 : Gm} {F2' : Nat → Prop} (h : Tr w0 w F1 F2 b1 b2 N Q G Q' G') (t : Rt w' F2' b2 (N + 1) Q1 G1) (hs : Step F2 F2' w w') : Tr w0 w' F1 F2' b1 b2 (N + 1) Q G Q1 G1 :=
  ⟨(h.l.apart hs.off h.ap).more (Nat.le_succ _), t, fun k h1 h2 => (hs.sub k h2).elim (h.ap k h1) (fun e => by have := h.l.lt k h1; omega), h.n1, fun k hk => (hs.sub k hk).elim (h.n2 k) (fun e => Nat.le_trans h.bel.size e), h.bel.trans (hs.off.below h.n2 h.bel.size)⟩
/-- what a call of both leaves alone -/
def Rest (F1 F2 F2' : Nat → Prop) (w w' : World) : Prop := (∀ k, k < w.heap.size → ¬ F1 k → ¬ F2 k → w'.heap[k]? = w.heap[k]?) ∧ (∀ k, F2' k → F2 k ∨ w.heap.size ≤ k) ∧ w.heap.size ≤ w'.heap.size
end
theorem act_cells {w : World} {g : Nat} {ak ai ar aq au am : Int} (h : w.heap[g]? = some (.cells #[.int .i64 ak, .int .i64 ai, .int .i64 ar, .int .i64 aq, .int .i64 au, .int .i64 am] 30)) : w.cell? ⟨g, 0, none⟩ = some (.int .i64 ak) ∧ w.cell? ⟨g, 1, none⟩ = some (.int .i64 ai) ∧ w.cell? ⟨g, 2, none⟩ = some (.int .i64 ar) ∧ w.cell? ⟨g, 3, none⟩ = some (.int .i64 aq) ∧ w.cell? ⟨g, 4, none⟩ = some (.int .i64 au) ∧ w.cell? ⟨g, 5, none⟩ = some (.int .i64 am) := by
  refine ⟨?_, ?_, ?_, ?_, ?_, ?_⟩ <;> simp [World.cell?, h]
set_option maxRecDepth 100000 in
set_option maxHeartbeats 4000000 in
theorem does_is (w0 w : World) (F1 F2 : Nat → Prop) (b1 b2 N : Nat) (Q : Qm) (G : Gm) (h : Tr w0 w F1 F2 b1 b2 N Q G Q G) (hN : N ≤ 100000) (ak ai ar aq au am : Int) (hok : Ca.ok ⟨ak, ai, ar, aq, au, am⟩) : Calls Try.prog 12 #[.pointer (some ⟨b1, 0, none⟩), .pointer (some ⟨b2, 0, none⟩), .agg #[.int .i64 ak, .int .i64 ai, .int .i64 ar, .int .i64 aq, .int .i64 au, .int .i64 am]] w fun e w' => e = .returned (.bool true) ∧ ∃ F2', Tr w0 w' F1 F2' b1 b2 (N + 1) (stQ Q ⟨ak, ai, ar, aq, au, am⟩) (stG Q G ⟨ak, ai, ar, aq, au, am⟩) (stQ Q ⟨ak, ai, ar, aq, au, am⟩) (stG Q G ⟨ak, ai, ar, aq, au, am⟩) ∧ Rest F1 F2 F2' w w' := by
  have e0 : (w.alloc (.cells #[.int .i64 ak, .int .i64 ai, .int .i64 ar, .int .i64 aq, .int .i64 au, .int .i64 am] 30)).heap[w.heap.size]? = some (.cells #[.int .i64 ak, .int .i64 ai, .int .i64 ar, .int .i64 aq, .int .i64 au, .int .i64 am] 30) := heap_alloc_new w _
  have E0 : Hid ((w.alloc (.cells #[.int .i64 ak, .int .i64 ai, .int .i64 ar, .int .i64 aq, .int .i64 au, .int .i64 am] 30)).heap[w.heap.size]? = some (.cells #[.int .i64 ak, .int .i64 ai, .int .i64 ar, .int .i64 aq, .int .i64 au, .int .i64 am] 30)) := e0
  have T0 : Hid (Tr w0 (w.alloc (.cells #[.int .i64 ak, .int .i64 ai, .int .i64 ar, .int .i64 aq, .int .i64 au, .int .i64 am] 30)) F1 F2 b1 b2 N Q G Q G) := h.keep (below1 _ _)
  have T0d : Hid (Tr w0 (w.alloc (.cells #[.int .i64 ak, .int .i64 ai, .int .i64 ar, .int .i64 aq, .int .i64 au, .int .i64 am] 30)).drew F1 F2 b1 b2 N Q G Q G) := (h.keep (below1 _ _)).keep (Below.refl _ _).drew
  have HD : Hid (∀ w', Off F1 (w.alloc (.cells #[.int .i64 ak, .int .i64 ai, .int .i64 ar, .int .i64 aq, .int .i64 au, .int .i64 am] 30)).drew w' → Off F1 (w.alloc (.cells #[.int .i64 ak, .int .i64 ai, .int .i64 ar, .int .i64 aq, .int .i64 au, .int .i64 am] 30)) w') := fun w' a => ⟨a.os, a.tape, a.output, a.size, a.block⟩
  have HF : Hid (¬ F1 w.heap.size ∧ ¬ F2 w.heap.size) := ⟨fun e => by have := h.l.lt _ e; omega, fun e => by have := h.r.lt _ e; omega⟩
  have HR : Hid (∀ F2' w5 w6, Off F1 (w.alloc (.cells #[.int .i64 ak, .int .i64 ai, .int .i64 ar, .int .i64 aq, .int .i64 au, .int .i64 am] 30)) w5 → Step F2 F2' w5 w6 → Rest F1 F2 F2' w w6) := by
    intro F2' w5 w6 o5 s6
    have z : (w.alloc (.cells #[.int .i64 ak, .int .i64 ai, .int .i64 ar, .int .i64 aq, .int .i64 au, .int .i64 am] 30)).heap.size = w.heap.size + 1 := by simp
    have z5 := o5.size
    have z6 := s6.off.size
    refine ⟨fun k hk h1 h2 => ?_, fun k hk => (s6.sub k hk).elim (fun e => .inl e) (fun e => .inr (by omega)), by omega⟩
    rw [s6.off.block k (by omega) h2, o5.block k (by omega) h1]
    exact Below.heap_alloc _ _ _ hk
  have HOK : Hid (Ca.ok ⟨ak, ai, ar, aq, au, am⟩) := hok
  obtain ⟨c0, c1, c2, c3, c4, c5⟩ := act_cells e0
  clear h hok e0
  by_cases hk0 : ak = 0
  · have t0 : (ak == 0) = true := by simp [hk0]
    have ES : Hid (stQ Q ⟨ak, ai, ar, aq, au, am⟩ = tnQ Q ai aq ∧ stG Q G ⟨ak, ai, ar, aq, au, am⟩ = G) := ⟨by unfold stQ; simp [hk0], by unfold stG; simp [hk0]⟩
    obtain ⟨E, hE⟩ : ∃ E : Int, E = tnE Q ai aq := ⟨_, rfl⟩
    have ee : (E == E) = true := by simp
    have K1 : Hid (Calls Try.prog 10 #[.pointer (some ⟨b1, 0, none⟩), .int .i64 ai, .int .i64 aq] (w.alloc (.cells #[.int .i64 ak, .int .i64 ai, .int .i64 ar, .int .i64 aq, .int .i64 au, .int .i64 am] 30)).drew fun e w' => e = .returned (.int .i64 E) ∧ Tab w' F1 b1 (N + 1) (stQ Q ⟨ak, ai, ar, aq, au, am⟩) (stG Q G ⟨ak, ai, ar, aq, au, am⟩) ∧ Off F1 (w.alloc (.cells #[.int .i64 ak, .int .i64 ai, .int .i64 ar, .int .i64 aq, .int .i64 au, .int .i64 am] 30)).drew w') := by
      rw [hE, ES.out.1, ES.out.2]
      exact tenant_is (w.alloc (.cells #[.int .i64 ak, .int .i64 ai, .int .i64 ar, .int .i64 aq, .int .i64 au, .int .i64 am] 30)).drew F1 b1 N Q G T0d.out.l (by omega) ai aq HOK.out.2.2.2.1
    have K2 : Hid (∀ W, Rt W F2 b2 N Q G → Calls Try.prog 26 #[.pointer (some ⟨b2, 0, none⟩), .int .i64 ai, .int .i64 aq] W fun e w' => e = .returned (.int .i64 E) ∧ ∃ F2', Rt w' F2' b2 (N + 1) (stQ Q ⟨ak, ai, ar, aq, au, am⟩) (stG Q G ⟨ak, ai, ar, aq, au, am⟩) ∧ Step F2 F2' W w') := fun W hW => by
      rw [hE, ES.out.1, ES.out.2]
      exact rtenant_is W F2 b2 N Q G hW (by omega) ai aq HOK.out.2.2.2.1
    clear hk0 hE
    go_enter Try.func12, Try.ntmps12
    go_wp2_with fail
    refine wp_region_noPanic ?_
    refine wp_region_held_drew (S := (fun u : World => u.heap[w.heap.size]? = some (.cells #[.int .i64 ak, .int .i64 ai, .int .i64 ar, .int .i64 aq, .int .i64 au, .int .i64 am] 30))) (by kernel_rfl) ?hSak0 (fun hHeld => ?restak0)
    case hSak0 => exact E0.out
    case restak0 =>
    refine wpAnyH_take (i := 0) (v := .pointer (some ⟨b1, 0, none⟩)) rfl (by kernel_rfl) (by kernel_rfl) (by kernel_rfl) (fun _ _ _ h => h) (Or.inl ⟨by kernel_rfl, ?hy0k0⟩) hHeld ?rest0k0
    case hy0k0 => (intro w' hSw; obtain ⟨s0, s1, s2, s3, s4, s5⟩ := act_cells hSw; go_simp; try with_reducible rfl)
    try simp only [Act.put, List.setIfInBounds_toArray, List.set_cons_zero, List.set_cons_succ, List.getElem_toArray, List.getElem_cons_zero, List.getElem_cons_succ]
    refine wpAnyH_take (i := 1) (v := .pointer (some ⟨w.heap.size, 1, none⟩)) rfl (by kernel_rfl) (by kernel_rfl) (by kernel_rfl) (fun _ _ _ h => h) (Or.inl ⟨by kernel_rfl, ?hy1k0⟩) hHeld ?rest1k0
    case hy1k0 => (intro w' hSw; obtain ⟨s0, s1, s2, s3, s4, s5⟩ := act_cells hSw; go_simp; try with_reducible rfl)
    try simp only [Act.put, List.setIfInBounds_toArray, List.set_cons_zero, List.set_cons_succ, List.getElem_toArray, List.getElem_cons_zero, List.getElem_cons_succ]
    refine wpAnyH_take (i := 2) (v := .int .i64 ai) rfl (by kernel_rfl) (by kernel_rfl) (by kernel_rfl) (fun _ _ _ h => h) (Or.inl ⟨by kernel_rfl, ?hy2k0⟩) hHeld ?rest2k0
    case hy2k0 => (intro w' hSw; obtain ⟨s0, s1, s2, s3, s4, s5⟩ := act_cells hSw; go_simp; try with_reducible rfl)
    try simp only [Act.put, List.setIfInBounds_toArray, List.set_cons_zero, List.set_cons_succ, List.getElem_toArray, List.getElem_cons_zero, List.getElem_cons_succ]
    refine wpAnyH_take (i := 3) (v := .pointer (some ⟨w.heap.size, 3, none⟩)) rfl (by kernel_rfl) (by kernel_rfl) (by kernel_rfl) (fun _ _ _ h => h) (Or.inl ⟨by kernel_rfl, ?hy3k0⟩) hHeld ?rest3k0
    case hy3k0 => (intro w' hSw; obtain ⟨s0, s1, s2, s3, s4, s5⟩ := act_cells hSw; go_simp; try with_reducible rfl)
    try simp only [Act.put, List.setIfInBounds_toArray, List.set_cons_zero, List.set_cons_succ, List.getElem_toArray, List.getElem_cons_zero, List.getElem_cons_succ]
    refine wpAnyH_take (i := 4) (v := .int .i64 aq) rfl (by kernel_rfl) (by kernel_rfl) (by kernel_rfl) (fun _ _ _ h => h) (Or.inl ⟨by kernel_rfl, ?hy4k0⟩) hHeld ?rest4k0
    case hy4k0 => (intro w' hSw; obtain ⟨s0, s1, s2, s3, s4, s5⟩ := act_cells hSw; go_simp; try with_reducible rfl)
    try simp only [Act.put, List.setIfInBounds_toArray, List.set_cons_zero, List.set_cons_succ, List.getElem_toArray, List.getElem_cons_zero, List.getElem_cons_succ]
    refine wpAnyH_take (i := 6) (v := .pointer (some ⟨b2, 0, none⟩)) rfl (by kernel_rfl) (by kernel_rfl) (by kernel_rfl) (fun _ _ _ h => h) (Or.inl ⟨by kernel_rfl, ?hy6k0⟩) hHeld ?rest6k0
    case hy6k0 => (intro w' hSw; obtain ⟨s0, s1, s2, s3, s4, s5⟩ := act_cells hSw; go_simp; try with_reducible rfl)
    try simp only [Act.put, List.setIfInBounds_toArray, List.set_cons_zero, List.set_cons_succ, List.getElem_toArray, List.getElem_cons_zero, List.getElem_cons_succ]
    refine wpAnyH_take (i := 7) (v := .pointer (some ⟨w.heap.size, 1, none⟩)) rfl (by kernel_rfl) (by kernel_rfl) (by kernel_rfl) (fun _ _ _ h => h) (Or.inl ⟨by kernel_rfl, ?hy7k0⟩) hHeld ?rest7k0
    case hy7k0 => (intro w' hSw; obtain ⟨s0, s1, s2, s3, s4, s5⟩ := act_cells hSw; go_simp; try with_reducible rfl)
    try simp only [Act.put, List.setIfInBounds_toArray, List.set_cons_zero, List.set_cons_succ, List.getElem_toArray, List.getElem_cons_zero, List.getElem_cons_succ]
    refine wpAnyH_take (i := 8) (v := .int .i64 ai) rfl (by kernel_rfl) (by kernel_rfl) (by kernel_rfl) (fun _ _ _ h => h) (Or.inl ⟨by kernel_rfl, ?hy8k0⟩) hHeld ?rest8k0
    case hy8k0 => (intro w' hSw; obtain ⟨s0, s1, s2, s3, s4, s5⟩ := act_cells hSw; go_simp; try with_reducible rfl)
    try simp only [Act.put, List.setIfInBounds_toArray, List.set_cons_zero, List.set_cons_succ, List.getElem_toArray, List.getElem_cons_zero, List.getElem_cons_succ]
    refine wpAnyH_take (i := 9) (v := .pointer (some ⟨w.heap.size, 3, none⟩)) rfl (by kernel_rfl) (by kernel_rfl) (by kernel_rfl) (fun _ _ _ h => h) (Or.inl ⟨by kernel_rfl, ?hy9k0⟩) hHeld ?rest9k0
    case hy9k0 => (intro w' hSw; obtain ⟨s0, s1, s2, s3, s4, s5⟩ := act_cells hSw; go_simp; try with_reducible rfl)
    try simp only [Act.put, List.setIfInBounds_toArray, List.set_cons_zero, List.set_cons_succ, List.getElem_toArray, List.getElem_cons_zero, List.getElem_cons_succ]
    refine wpAnyH_take (i := 10) (v := .int .i64 aq) rfl (by kernel_rfl) (by kernel_rfl) (by kernel_rfl) (fun _ _ _ h => h) (Or.inl ⟨by kernel_rfl, ?hy10k0⟩) hHeld ?rest10k0
    case hy10k0 => (intro w' hSw; obtain ⟨s0, s1, s2, s3, s4, s5⟩ := act_cells hSw; go_simp; try with_reducible rfl)
    try simp only [Act.put, List.setIfInBounds_toArray, List.set_cons_zero, List.set_cons_succ, List.getElem_toArray, List.getElem_cons_zero, List.getElem_cons_succ]
    refine wpAnyH_ready (rs := [5]) (by kernel_rfl) (by simp) ?_
    refine AllReadyH.cons rfl (fun K hK => ?_) AllReadyH.nil
    go_simp; refine K1.out.mono ?_; rintro e w5 ⟨rfl, a1, a2⟩; have H5 : Hid (Tr w0 w5 F1 F2 b1 b2 (N + 1) (stQ Q ⟨ak, ai, ar, aq, au, am⟩) (stG Q G ⟨ak, ai, ar, aq, au, am⟩) Q G ∧ Off F1 (w.alloc (.cells #[.int .i64 ak, .int .i64 ai, .int .i64 ar, .int .i64 aq, .int .i64 au, .int .i64 am] 30)) w5 ∧ Rt w5 F2 b2 N Q G) := ⟨T0d.out.left a1 a2, HD.out _ a2, T0d.out.r.apart a2 (fun k h2 h1 => T0d.out.ap k h1 h2)⟩; clear a1 a2; go_wp2_with fail
    refine hK.out _ _ ?hS5k0 (fun hHeld => ?rest5k0)
    case hS5k0 => exact (H5.out.2.1.block _ (by simp) HF.out.1).trans E0.out
    clear hK K
    try simp only [Act.put, List.setIfInBounds_toArray, List.set_cons_zero, List.set_cons_succ, List.getElem_toArray, List.getElem_cons_zero, List.getElem_cons_succ]
    refine wpAnyH_ready (rs := [11]) (by kernel_rfl) (by simp) ?_
    refine AllReadyH.cons rfl (fun K hK => ?_) AllReadyH.nil
    go_simp; refine (K2.out _ H5.out.2.2).mono ?_; rintro e w6 ⟨rfl, F2', a1, a2⟩; have H6 : Hid (Rt w6 F2' b2 (N + 1) (stQ Q ⟨ak, ai, ar, aq, au, am⟩) (stG Q G ⟨ak, ai, ar, aq, au, am⟩) ∧ Step F2 F2' w5 w6) := ⟨a1, a2⟩; clear a1 a2; go_wp2_with fail
    refine hK.out _ _ ?hS11k0 (fun hHeld => ?rest11k0)
    case hS11k0 => exact (H6.out.2.off.block _ (by have := H5.out.2.1.size; simp at this; omega) HF.out.2).trans ((H5.out.2.1.block _ (by simp) HF.out.1).trans E0.out)
    clear hK K
    try simp only [Act.put, List.setIfInBounds_toArray, List.set_cons_zero, List.set_cons_succ, List.getElem_toArray, List.getElem_cons_zero, List.getElem_cons_succ]
    refine wpAnyH_take (i := 12) (v := .bool true) rfl (by kernel_rfl) (by kernel_rfl) (by kernel_rfl) (fun _ _ _ h => h) (Or.inl ⟨by kernel_rfl, ?hy12k0⟩) hHeld ?rest12k0
    case hy12k0 => (intro w' hSw; obtain ⟨s0, s1, s2, s3, s4, s5⟩ := act_cells hSw; go_simp; try with_reducible rfl)
    try simp only [Act.put, List.setIfInBounds_toArray, List.set_cons_zero, List.set_cons_succ, List.getElem_toArray, List.getElem_cons_zero, List.getElem_cons_succ]
    refine wpAnyH_take (i := 13) (v := .bool true) rfl (by kernel_rfl) (by kernel_rfl) (by kernel_rfl) (fun _ _ _ h => h) (Or.inl ⟨by kernel_rfl, ?hy13k0⟩) hHeld ?rest13k0
    case hy13k0 => (intro w' hSw; obtain ⟨s0, s1, s2, s3, s4, s5⟩ := act_cells hSw; go_simp; try with_reducible rfl)
    try simp only [Act.put, List.setIfInBounds_toArray, List.set_cons_zero, List.set_cons_succ, List.getElem_toArray, List.getElem_cons_zero, List.getElem_cons_succ]
    refine wpAnyH_done (by kernel_rfl) ?_ _
    refine NoPanic.normal ?_
    go_wp2_with fail
    go_ret
    have t := H5.out.1.right (H6.out.1.more (Nat.le_succ _)) H6.out.2
    exact ⟨rfl, F2', ⟨H5.out.1.l.apart H6.out.2.off H5.out.1.ap, H6.out.1, t.ap, t.n1, t.n2, t.bel⟩, HR.out _ _ _ H5.out.2.1 H6.out.2⟩
  have t0 : (ak == 0) = false := by simpa using hk0
  by_cases hk1 : ak = 1
  · have t1 : (ak == 1) = true := by simp [hk1]
    have ES : Hid (stQ Q ⟨ak, ai, ar, aq, au, am⟩ = Q ∧ stG Q G ⟨ak, ai, ar, aq, au, am⟩ = grG Q G ai ar) := ⟨by unfold stQ; simp [hk1], by unfold stG; simp [hk1]⟩
    obtain ⟨E, hE⟩ : ∃ E : Int, E = ckE Q ai ar := ⟨_, rfl⟩
    have ee : (E == E) = true := by simp
    have K1 : Hid (Calls Try.prog 11 #[.pointer (some ⟨b1, 0, none⟩), .int .i64 ai, .int .i64 ar] (w.alloc (.cells #[.int .i64 ak, .int .i64 ai, .int .i64 ar, .int .i64 aq, .int .i64 au, .int .i64 am] 30)).drew fun e w' => e = .returned (.int .i64 E) ∧ Tab w' F1 b1 (N + 1) (stQ Q ⟨ak, ai, ar, aq, au, am⟩) (stG Q G ⟨ak, ai, ar, aq, au, am⟩) ∧ Off F1 (w.alloc (.cells #[.int .i64 ak, .int .i64 ai, .int .i64 ar, .int .i64 aq, .int .i64 au, .int .i64 am] 30)).drew w') := by
      rw [hE, ES.out.1, ES.out.2]
      exact grant_is (w.alloc (.cells #[.int .i64 ak, .int .i64 ai, .int .i64 ar, .int .i64 aq, .int .i64 au, .int .i64 am] 30)).drew F1 b1 N Q G T0d.out.l (by omega) ai ar
    have K2 : Hid (∀ W, Rt W F2 b2 N Q G → Calls Try.prog 27 #[.pointer (some ⟨b2, 0, none⟩), .int .i64 ai, .int .i64 ar, .bool true] W fun e w' => e = .returned (.int .i64 E) ∧ ∃ F2', Rt w' F2' b2 (N + 1) (stQ Q ⟨ak, ai, ar, aq, au, am⟩) (stG Q G ⟨ak, ai, ar, aq, au, am⟩) ∧ Step F2 F2' W w') := fun W hW => by
      rw [hE, ES.out.1, ES.out.2]
      refine (rset_is W F2 b2 N Q G hW (by omega) ai ar true).mono ?_
      rintro e w' ⟨rfl, r1, o1⟩
      exact ⟨rfl, F2, (by simpa using r1.more (Nat.le_succ _)), ⟨o1, fun k hk => .inl hk⟩⟩
    clear hk1 hE
    go_enter Try.func12, Try.ntmps12
    go_wp2_with fail
    refine wp_region_noPanic ?_
    refine wp_region_held_drew (S := (fun u : World => u.heap[w.heap.size]? = some (.cells #[.int .i64 ak, .int .i64 ai, .int .i64 ar, .int .i64 aq, .int .i64 au, .int .i64 am] 30))) (by kernel_rfl) ?hSak1 (fun hHeld => ?restak1)
    case hSak1 => exact E0.out
    case restak1 =>
    refine wpAnyH_take (i := 0) (v := .pointer (some ⟨b1, 0, none⟩)) rfl (by kernel_rfl) (by kernel_rfl) (by kernel_rfl) (fun _ _ _ h => h) (Or.inl ⟨by kernel_rfl, ?hy0k1⟩) hHeld ?rest0k1
    case hy0k1 => (intro w' hSw; obtain ⟨s0, s1, s2, s3, s4, s5⟩ := act_cells hSw; go_simp; try with_reducible rfl)
    try simp only [Act.put, List.setIfInBounds_toArray, List.set_cons_zero, List.set_cons_succ, List.getElem_toArray, List.getElem_cons_zero, List.getElem_cons_succ]
    refine wpAnyH_take (i := 1) (v := .pointer (some ⟨w.heap.size, 1, none⟩)) rfl (by kernel_rfl) (by kernel_rfl) (by kernel_rfl) (fun _ _ _ h => h) (Or.inl ⟨by kernel_rfl, ?hy1k1⟩) hHeld ?rest1k1
    case hy1k1 => (intro w' hSw; obtain ⟨s0, s1, s2, s3, s4, s5⟩ := act_cells hSw; go_simp; try with_reducible rfl)
    try simp only [Act.put, List.setIfInBounds_toArray, List.set_cons_zero, List.set_cons_succ, List.getElem_toArray, List.getElem_cons_zero, List.getElem_cons_succ]
    refine wpAnyH_take (i := 2) (v := .int .i64 ai) rfl (by kernel_rfl) (by kernel_rfl) (by kernel_rfl) (fun _ _ _ h => h) (Or.inl ⟨by kernel_rfl, ?hy2k1⟩) hHeld ?rest2k1
    case hy2k1 => (intro w' hSw; obtain ⟨s0, s1, s2, s3, s4, s5⟩ := act_cells hSw; go_simp; try with_reducible rfl)
    try simp only [Act.put, List.setIfInBounds_toArray, List.set_cons_zero, List.set_cons_succ, List.getElem_toArray, List.getElem_cons_zero, List.getElem_cons_succ]
    refine wpAnyH_take (i := 3) (v := .pointer (some ⟨w.heap.size, 2, none⟩)) rfl (by kernel_rfl) (by kernel_rfl) (by kernel_rfl) (fun _ _ _ h => h) (Or.inl ⟨by kernel_rfl, ?hy3k1⟩) hHeld ?rest3k1
    case hy3k1 => (intro w' hSw; obtain ⟨s0, s1, s2, s3, s4, s5⟩ := act_cells hSw; go_simp; try with_reducible rfl)
    try simp only [Act.put, List.setIfInBounds_toArray, List.set_cons_zero, List.set_cons_succ, List.getElem_toArray, List.getElem_cons_zero, List.getElem_cons_succ]
    refine wpAnyH_take (i := 4) (v := .int .i64 ar) rfl (by kernel_rfl) (by kernel_rfl) (by kernel_rfl) (fun _ _ _ h => h) (Or.inl ⟨by kernel_rfl, ?hy4k1⟩) hHeld ?rest4k1
    case hy4k1 => (intro w' hSw; obtain ⟨s0, s1, s2, s3, s4, s5⟩ := act_cells hSw; go_simp; try with_reducible rfl)
    try simp only [Act.put, List.setIfInBounds_toArray, List.set_cons_zero, List.set_cons_succ, List.getElem_toArray, List.getElem_cons_zero, List.getElem_cons_succ]
    refine wpAnyH_take (i := 6) (v := .pointer (some ⟨b2, 0, none⟩)) rfl (by kernel_rfl) (by kernel_rfl) (by kernel_rfl) (fun _ _ _ h => h) (Or.inl ⟨by kernel_rfl, ?hy6k1⟩) hHeld ?rest6k1
    case hy6k1 => (intro w' hSw; obtain ⟨s0, s1, s2, s3, s4, s5⟩ := act_cells hSw; go_simp; try with_reducible rfl)
    try simp only [Act.put, List.setIfInBounds_toArray, List.set_cons_zero, List.set_cons_succ, List.getElem_toArray, List.getElem_cons_zero, List.getElem_cons_succ]
    refine wpAnyH_take (i := 7) (v := .pointer (some ⟨w.heap.size, 1, none⟩)) rfl (by kernel_rfl) (by kernel_rfl) (by kernel_rfl) (fun _ _ _ h => h) (Or.inl ⟨by kernel_rfl, ?hy7k1⟩) hHeld ?rest7k1
    case hy7k1 => (intro w' hSw; obtain ⟨s0, s1, s2, s3, s4, s5⟩ := act_cells hSw; go_simp; try with_reducible rfl)
    try simp only [Act.put, List.setIfInBounds_toArray, List.set_cons_zero, List.set_cons_succ, List.getElem_toArray, List.getElem_cons_zero, List.getElem_cons_succ]
    refine wpAnyH_take (i := 8) (v := .int .i64 ai) rfl (by kernel_rfl) (by kernel_rfl) (by kernel_rfl) (fun _ _ _ h => h) (Or.inl ⟨by kernel_rfl, ?hy8k1⟩) hHeld ?rest8k1
    case hy8k1 => (intro w' hSw; obtain ⟨s0, s1, s2, s3, s4, s5⟩ := act_cells hSw; go_simp; try with_reducible rfl)
    try simp only [Act.put, List.setIfInBounds_toArray, List.set_cons_zero, List.set_cons_succ, List.getElem_toArray, List.getElem_cons_zero, List.getElem_cons_succ]
    refine wpAnyH_take (i := 9) (v := .pointer (some ⟨w.heap.size, 2, none⟩)) rfl (by kernel_rfl) (by kernel_rfl) (by kernel_rfl) (fun _ _ _ h => h) (Or.inl ⟨by kernel_rfl, ?hy9k1⟩) hHeld ?rest9k1
    case hy9k1 => (intro w' hSw; obtain ⟨s0, s1, s2, s3, s4, s5⟩ := act_cells hSw; go_simp; try with_reducible rfl)
    try simp only [Act.put, List.setIfInBounds_toArray, List.set_cons_zero, List.set_cons_succ, List.getElem_toArray, List.getElem_cons_zero, List.getElem_cons_succ]
    refine wpAnyH_take (i := 10) (v := .int .i64 ar) rfl (by kernel_rfl) (by kernel_rfl) (by kernel_rfl) (fun _ _ _ h => h) (Or.inl ⟨by kernel_rfl, ?hy10k1⟩) hHeld ?rest10k1
    case hy10k1 => (intro w' hSw; obtain ⟨s0, s1, s2, s3, s4, s5⟩ := act_cells hSw; go_simp; try with_reducible rfl)
    try simp only [Act.put, List.setIfInBounds_toArray, List.set_cons_zero, List.set_cons_succ, List.getElem_toArray, List.getElem_cons_zero, List.getElem_cons_succ]
    refine wpAnyH_ready (rs := [5]) (by kernel_rfl) (by simp) ?_
    refine AllReadyH.cons rfl (fun K hK => ?_) AllReadyH.nil
    go_simp; refine K1.out.mono ?_; rintro e w5 ⟨rfl, a1, a2⟩; have H5 : Hid (Tr w0 w5 F1 F2 b1 b2 (N + 1) (stQ Q ⟨ak, ai, ar, aq, au, am⟩) (stG Q G ⟨ak, ai, ar, aq, au, am⟩) Q G ∧ Off F1 (w.alloc (.cells #[.int .i64 ak, .int .i64 ai, .int .i64 ar, .int .i64 aq, .int .i64 au, .int .i64 am] 30)) w5 ∧ Rt w5 F2 b2 N Q G) := ⟨T0d.out.left a1 a2, HD.out _ a2, T0d.out.r.apart a2 (fun k h2 h1 => T0d.out.ap k h1 h2)⟩; clear a1 a2; go_wp2_with fail
    refine hK.out _ _ ?hS5k1 (fun hHeld => ?rest5k1)
    case hS5k1 => exact (H5.out.2.1.block _ (by simp) HF.out.1).trans E0.out
    clear hK K
    try simp only [Act.put, List.setIfInBounds_toArray, List.set_cons_zero, List.set_cons_succ, List.getElem_toArray, List.getElem_cons_zero, List.getElem_cons_succ]
    refine wpAnyH_ready (rs := [11]) (by kernel_rfl) (by simp) ?_
    refine AllReadyH.cons rfl (fun K hK => ?_) AllReadyH.nil
    go_simp; refine (K2.out _ H5.out.2.2).mono ?_; rintro e w6 ⟨rfl, F2', a1, a2⟩; have H6 : Hid (Rt w6 F2' b2 (N + 1) (stQ Q ⟨ak, ai, ar, aq, au, am⟩) (stG Q G ⟨ak, ai, ar, aq, au, am⟩) ∧ Step F2 F2' w5 w6) := ⟨a1, a2⟩; clear a1 a2; go_wp2_with fail
    refine hK.out _ _ ?hS11k1 (fun hHeld => ?rest11k1)
    case hS11k1 => exact (H6.out.2.off.block _ (by have := H5.out.2.1.size; simp at this; omega) HF.out.2).trans ((H5.out.2.1.block _ (by simp) HF.out.1).trans E0.out)
    clear hK K
    try simp only [Act.put, List.setIfInBounds_toArray, List.set_cons_zero, List.set_cons_succ, List.getElem_toArray, List.getElem_cons_zero, List.getElem_cons_succ]
    refine wpAnyH_take (i := 12) (v := .bool true) rfl (by kernel_rfl) (by kernel_rfl) (by kernel_rfl) (fun _ _ _ h => h) (Or.inl ⟨by kernel_rfl, ?hy12k1⟩) hHeld ?rest12k1
    case hy12k1 => (intro w' hSw; obtain ⟨s0, s1, s2, s3, s4, s5⟩ := act_cells hSw; go_simp; try with_reducible rfl)
    try simp only [Act.put, List.setIfInBounds_toArray, List.set_cons_zero, List.set_cons_succ, List.getElem_toArray, List.getElem_cons_zero, List.getElem_cons_succ]
    refine wpAnyH_take (i := 13) (v := .bool true) rfl (by kernel_rfl) (by kernel_rfl) (by kernel_rfl) (fun _ _ _ h => h) (Or.inl ⟨by kernel_rfl, ?hy13k1⟩) hHeld ?rest13k1
    case hy13k1 => (intro w' hSw; obtain ⟨s0, s1, s2, s3, s4, s5⟩ := act_cells hSw; go_simp; try with_reducible rfl)
    try simp only [Act.put, List.setIfInBounds_toArray, List.set_cons_zero, List.set_cons_succ, List.getElem_toArray, List.getElem_cons_zero, List.getElem_cons_succ]
    refine wpAnyH_done (by kernel_rfl) ?_ _
    refine NoPanic.normal ?_
    go_wp2_with fail
    go_ret
    have t := H5.out.1.right (H6.out.1.more (Nat.le_succ _)) H6.out.2
    exact ⟨rfl, F2', ⟨H5.out.1.l.apart H6.out.2.off H5.out.1.ap, H6.out.1, t.ap, t.n1, t.n2, t.bel⟩, HR.out _ _ _ H5.out.2.1 H6.out.2⟩
  have t1 : (ak == 1) = false := by simpa using hk1
  by_cases hk2 : ak = 2
  · have t2 : (ak == 2) = true := by simp [hk2]
    have ES : Hid (stQ Q ⟨ak, ai, ar, aq, au, am⟩ = Q ∧ stG Q G ⟨ak, ai, ar, aq, au, am⟩ = rvG Q G ai ar) := ⟨by unfold stQ; simp [hk2], by unfold stG; simp [hk2]⟩
    obtain ⟨E, hE⟩ : ∃ E : Int, E = ckE Q ai ar := ⟨_, rfl⟩
    have ee : (E == E) = true := by simp
    have K1 : Hid (Calls Try.prog 16 #[.pointer (some ⟨b1, 0, none⟩), .int .i64 ai, .int .i64 ar] (w.alloc (.cells #[.int .i64 ak, .int .i64 ai, .int .i64 ar, .int .i64 aq, .int .i64 au, .int .i64 am] 30)).drew fun e w' => e = .returned (.int .i64 E) ∧ Tab w' F1 b1 (N + 1) (stQ Q ⟨ak, ai, ar, aq, au, am⟩) (stG Q G ⟨ak, ai, ar, aq, au, am⟩) ∧ Off F1 (w.alloc (.cells #[.int .i64 ak, .int .i64 ai, .int .i64 ar, .int .i64 aq, .int .i64 au, .int .i64 am] 30)).drew w') := by
      rw [hE, ES.out.1, ES.out.2]
      exact revoke_is (w.alloc (.cells #[.int .i64 ak, .int .i64 ai, .int .i64 ar, .int .i64 aq, .int .i64 au, .int .i64 am] 30)).drew F1 b1 N Q G T0d.out.l (by omega) ai ar
    have K2 : Hid (∀ W, Rt W F2 b2 N Q G → Calls Try.prog 27 #[.pointer (some ⟨b2, 0, none⟩), .int .i64 ai, .int .i64 ar, .bool false] W fun e w' => e = .returned (.int .i64 E) ∧ ∃ F2', Rt w' F2' b2 (N + 1) (stQ Q ⟨ak, ai, ar, aq, au, am⟩) (stG Q G ⟨ak, ai, ar, aq, au, am⟩) ∧ Step F2 F2' W w') := fun W hW => by
      rw [hE, ES.out.1, ES.out.2]
      refine (rset_is W F2 b2 N Q G hW (by omega) ai ar false).mono ?_
      rintro e w' ⟨rfl, r1, o1⟩
      exact ⟨rfl, F2, (by simpa using r1.more (Nat.le_succ _)), ⟨o1, fun k hk => .inl hk⟩⟩
    clear hk2 hE
    go_enter Try.func12, Try.ntmps12
    go_wp2_with fail
    refine wp_region_noPanic ?_
    refine wp_region_held_drew (S := (fun u : World => u.heap[w.heap.size]? = some (.cells #[.int .i64 ak, .int .i64 ai, .int .i64 ar, .int .i64 aq, .int .i64 au, .int .i64 am] 30))) (by kernel_rfl) ?hSak2 (fun hHeld => ?restak2)
    case hSak2 => exact E0.out
    case restak2 =>
    refine wpAnyH_take (i := 0) (v := .pointer (some ⟨b1, 0, none⟩)) rfl (by kernel_rfl) (by kernel_rfl) (by kernel_rfl) (fun _ _ _ h => h) (Or.inl ⟨by kernel_rfl, ?hy0k2⟩) hHeld ?rest0k2
    case hy0k2 => (intro w' hSw; obtain ⟨s0, s1, s2, s3, s4, s5⟩ := act_cells hSw; go_simp; try with_reducible rfl)
    try simp only [Act.put, List.setIfInBounds_toArray, List.set_cons_zero, List.set_cons_succ, List.getElem_toArray, List.getElem_cons_zero, List.getElem_cons_succ]
    refine wpAnyH_take (i := 1) (v := .pointer (some ⟨w.heap.size, 1, none⟩)) rfl (by kernel_rfl) (by kernel_rfl) (by kernel_rfl) (fun _ _ _ h => h) (Or.inl ⟨by kernel_rfl, ?hy1k2⟩) hHeld ?rest1k2
    case hy1k2 => (intro w' hSw; obtain ⟨s0, s1, s2, s3, s4, s5⟩ := act_cells hSw; go_simp; try with_reducible rfl)
    try simp only [Act.put, List.setIfInBounds_toArray, List.set_cons_zero, List.set_cons_succ, List.getElem_toArray, List.getElem_cons_zero, List.getElem_cons_succ]
    refine wpAnyH_take (i := 2) (v := .int .i64 ai) rfl (by kernel_rfl) (by kernel_rfl) (by kernel_rfl) (fun _ _ _ h => h) (Or.inl ⟨by kernel_rfl, ?hy2k2⟩) hHeld ?rest2k2
    case hy2k2 => (intro w' hSw; obtain ⟨s0, s1, s2, s3, s4, s5⟩ := act_cells hSw; go_simp; try with_reducible rfl)
    try simp only [Act.put, List.setIfInBounds_toArray, List.set_cons_zero, List.set_cons_succ, List.getElem_toArray, List.getElem_cons_zero, List.getElem_cons_succ]
    refine wpAnyH_take (i := 3) (v := .pointer (some ⟨w.heap.size, 2, none⟩)) rfl (by kernel_rfl) (by kernel_rfl) (by kernel_rfl) (fun _ _ _ h => h) (Or.inl ⟨by kernel_rfl, ?hy3k2⟩) hHeld ?rest3k2
    case hy3k2 => (intro w' hSw; obtain ⟨s0, s1, s2, s3, s4, s5⟩ := act_cells hSw; go_simp; try with_reducible rfl)
    try simp only [Act.put, List.setIfInBounds_toArray, List.set_cons_zero, List.set_cons_succ, List.getElem_toArray, List.getElem_cons_zero, List.getElem_cons_succ]
    refine wpAnyH_take (i := 4) (v := .int .i64 ar) rfl (by kernel_rfl) (by kernel_rfl) (by kernel_rfl) (fun _ _ _ h => h) (Or.inl ⟨by kernel_rfl, ?hy4k2⟩) hHeld ?rest4k2
    case hy4k2 => (intro w' hSw; obtain ⟨s0, s1, s2, s3, s4, s5⟩ := act_cells hSw; go_simp; try with_reducible rfl)
    try simp only [Act.put, List.setIfInBounds_toArray, List.set_cons_zero, List.set_cons_succ, List.getElem_toArray, List.getElem_cons_zero, List.getElem_cons_succ]
    refine wpAnyH_take (i := 6) (v := .pointer (some ⟨b2, 0, none⟩)) rfl (by kernel_rfl) (by kernel_rfl) (by kernel_rfl) (fun _ _ _ h => h) (Or.inl ⟨by kernel_rfl, ?hy6k2⟩) hHeld ?rest6k2
    case hy6k2 => (intro w' hSw; obtain ⟨s0, s1, s2, s3, s4, s5⟩ := act_cells hSw; go_simp; try with_reducible rfl)
    try simp only [Act.put, List.setIfInBounds_toArray, List.set_cons_zero, List.set_cons_succ, List.getElem_toArray, List.getElem_cons_zero, List.getElem_cons_succ]
    refine wpAnyH_take (i := 7) (v := .pointer (some ⟨w.heap.size, 1, none⟩)) rfl (by kernel_rfl) (by kernel_rfl) (by kernel_rfl) (fun _ _ _ h => h) (Or.inl ⟨by kernel_rfl, ?hy7k2⟩) hHeld ?rest7k2
    case hy7k2 => (intro w' hSw; obtain ⟨s0, s1, s2, s3, s4, s5⟩ := act_cells hSw; go_simp; try with_reducible rfl)
    try simp only [Act.put, List.setIfInBounds_toArray, List.set_cons_zero, List.set_cons_succ, List.getElem_toArray, List.getElem_cons_zero, List.getElem_cons_succ]
    refine wpAnyH_take (i := 8) (v := .int .i64 ai) rfl (by kernel_rfl) (by kernel_rfl) (by kernel_rfl) (fun _ _ _ h => h) (Or.inl ⟨by kernel_rfl, ?hy8k2⟩) hHeld ?rest8k2
    case hy8k2 => (intro w' hSw; obtain ⟨s0, s1, s2, s3, s4, s5⟩ := act_cells hSw; go_simp; try with_reducible rfl)
    try simp only [Act.put, List.setIfInBounds_toArray, List.set_cons_zero, List.set_cons_succ, List.getElem_toArray, List.getElem_cons_zero, List.getElem_cons_succ]
    refine wpAnyH_take (i := 9) (v := .pointer (some ⟨w.heap.size, 2, none⟩)) rfl (by kernel_rfl) (by kernel_rfl) (by kernel_rfl) (fun _ _ _ h => h) (Or.inl ⟨by kernel_rfl, ?hy9k2⟩) hHeld ?rest9k2
    case hy9k2 => (intro w' hSw; obtain ⟨s0, s1, s2, s3, s4, s5⟩ := act_cells hSw; go_simp; try with_reducible rfl)
    try simp only [Act.put, List.setIfInBounds_toArray, List.set_cons_zero, List.set_cons_succ, List.getElem_toArray, List.getElem_cons_zero, List.getElem_cons_succ]
    refine wpAnyH_take (i := 10) (v := .int .i64 ar) rfl (by kernel_rfl) (by kernel_rfl) (by kernel_rfl) (fun _ _ _ h => h) (Or.inl ⟨by kernel_rfl, ?hy10k2⟩) hHeld ?rest10k2
    case hy10k2 => (intro w' hSw; obtain ⟨s0, s1, s2, s3, s4, s5⟩ := act_cells hSw; go_simp; try with_reducible rfl)
    try simp only [Act.put, List.setIfInBounds_toArray, List.set_cons_zero, List.set_cons_succ, List.getElem_toArray, List.getElem_cons_zero, List.getElem_cons_succ]
    refine wpAnyH_ready (rs := [5]) (by kernel_rfl) (by simp) ?_
    refine AllReadyH.cons rfl (fun K hK => ?_) AllReadyH.nil
    go_simp; refine K1.out.mono ?_; rintro e w5 ⟨rfl, a1, a2⟩; have H5 : Hid (Tr w0 w5 F1 F2 b1 b2 (N + 1) (stQ Q ⟨ak, ai, ar, aq, au, am⟩) (stG Q G ⟨ak, ai, ar, aq, au, am⟩) Q G ∧ Off F1 (w.alloc (.cells #[.int .i64 ak, .int .i64 ai, .int .i64 ar, .int .i64 aq, .int .i64 au, .int .i64 am] 30)) w5 ∧ Rt w5 F2 b2 N Q G) := ⟨T0d.out.left a1 a2, HD.out _ a2, T0d.out.r.apart a2 (fun k h2 h1 => T0d.out.ap k h1 h2)⟩; clear a1 a2; go_wp2_with fail
    refine hK.out _ _ ?hS5k2 (fun hHeld => ?rest5k2)
    case hS5k2 => exact (H5.out.2.1.block _ (by simp) HF.out.1).trans E0.out
    clear hK K
    try simp only [Act.put, List.setIfInBounds_toArray, List.set_cons_zero, List.set_cons_succ, List.getElem_toArray, List.getElem_cons_zero, List.getElem_cons_succ]
    refine wpAnyH_ready (rs := [11]) (by kernel_rfl) (by simp) ?_
    refine AllReadyH.cons rfl (fun K hK => ?_) AllReadyH.nil
    go_simp; refine (K2.out _ H5.out.2.2).mono ?_; rintro e w6 ⟨rfl, F2', a1, a2⟩; have H6 : Hid (Rt w6 F2' b2 (N + 1) (stQ Q ⟨ak, ai, ar, aq, au, am⟩) (stG Q G ⟨ak, ai, ar, aq, au, am⟩) ∧ Step F2 F2' w5 w6) := ⟨a1, a2⟩; clear a1 a2; go_wp2_with fail
    refine hK.out _ _ ?hS11k2 (fun hHeld => ?rest11k2)
    case hS11k2 => exact (H6.out.2.off.block _ (by have := H5.out.2.1.size; simp at this; omega) HF.out.2).trans ((H5.out.2.1.block _ (by simp) HF.out.1).trans E0.out)
    clear hK K
    try simp only [Act.put, List.setIfInBounds_toArray, List.set_cons_zero, List.set_cons_succ, List.getElem_toArray, List.getElem_cons_zero, List.getElem_cons_succ]
    refine wpAnyH_take (i := 12) (v := .bool true) rfl (by kernel_rfl) (by kernel_rfl) (by kernel_rfl) (fun _ _ _ h => h) (Or.inl ⟨by kernel_rfl, ?hy12k2⟩) hHeld ?rest12k2
    case hy12k2 => (intro w' hSw; obtain ⟨s0, s1, s2, s3, s4, s5⟩ := act_cells hSw; go_simp; try with_reducible rfl)
    try simp only [Act.put, List.setIfInBounds_toArray, List.set_cons_zero, List.set_cons_succ, List.getElem_toArray, List.getElem_cons_zero, List.getElem_cons_succ]
    refine wpAnyH_take (i := 13) (v := .bool true) rfl (by kernel_rfl) (by kernel_rfl) (by kernel_rfl) (fun _ _ _ h => h) (Or.inl ⟨by kernel_rfl, ?hy13k2⟩) hHeld ?rest13k2
    case hy13k2 => (intro w' hSw; obtain ⟨s0, s1, s2, s3, s4, s5⟩ := act_cells hSw; go_simp; try with_reducible rfl)
    try simp only [Act.put, List.setIfInBounds_toArray, List.set_cons_zero, List.set_cons_succ, List.getElem_toArray, List.getElem_cons_zero, List.getElem_cons_succ]
    refine wpAnyH_done (by kernel_rfl) ?_ _
    refine NoPanic.normal ?_
    go_wp2_with fail
    go_ret
    have t := H5.out.1.right (H6.out.1.more (Nat.le_succ _)) H6.out.2
    exact ⟨rfl, F2', ⟨H5.out.1.l.apart H6.out.2.off H5.out.1.ap, H6.out.1, t.ap, t.n1, t.n2, t.bel⟩, HR.out _ _ _ H5.out.2.1 H6.out.2⟩
  have t2 : (ak == 2) = false := by simpa using hk2
  have ES : Hid (stQ Q ⟨ak, ai, ar, aq, au, am⟩ = Q ∧ stG Q G ⟨ak, ai, ar, aq, au, am⟩ = G) := ⟨by unfold stQ; simp [hk0], by unfold stG; simp [hk1, hk2]⟩
  rw [ES.out.1, ES.out.2]
  clear hk0 hk1 hk2
  go_enter Try.func12, Try.ntmps12
  go_wp2_with fail
  go_ret
  exact ⟨rfl, F2, T0.out.more (Nat.le_succ _), HR.out _ _ _ (Off.refl _ _) (Step.refl _ _)⟩
end Go.Proofs.Ytgfjhghhonaiiaa
