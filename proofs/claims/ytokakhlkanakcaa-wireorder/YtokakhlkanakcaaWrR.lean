/- lose. -/
import Derived.Test.YtokakhlkanakcaaWrQ
namespace Go.Proofs.Ytokakhlkanakcaa
open Go.ChangeShapes Go.WideShapes Go.ChangeAt Go.RowKit Go.Deep Go.Maps
set_option linter.unusedVariables false
set_option linter.unusedSimpArgs false
/-- one place's messages lie in a new row -/
theorem net_put {w u u2 : World} {F : Nat → Prop} {b N ml mb : Nat} {H : Pl → Option Hd} {T : Pl → List Mv} (h : Nt w b N ml mb H T) (hF : ∀ k, F k ↔ NF b ml mb H k) (p : Pl) (y : Hd) (l : List Mv) (hbu : Below w.heap.size w u) (hrow : OwnM u w.heap.size (hv y) l)
    (hsl : ScL u2 ml (N + 1) (fun q => updH H p y (.inl q))) (hsb : ScB u2 mb (N + 1) (fun q => updH H p y (.inr q))) (mm : Nat) (hmm : mm = ml ∨ mm = mb) (hg : u.grownBy u2 (some mm)) :
    Net u2 (NF b ml mb (updH H p y)) b (N + 1) (putT T p l) ∧ Step F (NF b ml mb (updH H p y)) w u2 := by
  have hlt := h.lt
  have hmmN : NF b ml mb H mm := hmm.elim (fun e => .inr (.inl e)) (fun e => .inr (.inr (.inl e)))
  have hat : ∀ k, y.1 = k + 1 → (∃ x, H p = some x ∧ x.1 = k + 1) ∨ w.heap.size ≤ k := fun k hk => .inr (hrow.own k (hv_own.2 hk)).1
  have E : ∀ k, k < w.heap.size → k ≠ mm → u2.heap[k]? = w.heap[k]? := fun k h1 h2 => (hg.block k (Nat.lt_of_lt_of_le h1 hbu.size) (fun e => h2 (Option.some.inj e))).trans (hbu.block k h1)
  refine ⟨⟨ml, mb, _, Nt.put h p y l (E b (hlt b (.inl rfl)) (fun e => hmm.elim (fun q => h.ne.1.1 (e.trans q)) (fun q => h.ne.1.2.1 (e.trans q)))) hsl hsb ?_ ?_ hat, fun k => Iff.rfl⟩, ⟨⟨hg.os.trans hbu.os, hg.tape.trans hbu.tape, hg.output.trans hbu.output, Nat.le_trans hbu.size hg.size, fun k hk hn => E k hk (fun e => hn ((hF k).2 (e ▸ hmmN)))⟩, fun k hk => ?_⟩⟩
  · refine (hrow.base (Nat.zero_le _)).kept fun k hk => hg.block k (hrow.own k hk).2 (fun e => ?_)
    have h1 := (hrow.own k hk).1
    have h2 := hlt mm hmmN
    have e2 := Option.some.inj e
    omega
  · intro q x k _ hx hxk
    refine E k (hlt k (.inr (.inr (.inr ⟨q, x, hx, hxk⟩)))) (fun e => ?_)
    have q2 := h.ne.2 q x k hx hxk
    exact hmm.elim (fun r => q2.2.1 (e.trans r)) (fun r => q2.2.2 (e.trans r))
  · rcases nf_upd hat hk with h | h
    · exact .inl ((hF k).2 h)
    · exact .inr h
theorem upd_l (H : Pl → Option Hd) (p : Int × Int) (y : Hd) : (fun q : Int × Int => updH H (.inl p) y (.inl q)) = fun q => if q = p then some y else H (.inl q) := by
  funext q
  unfold updH
  by_cases h : q = p
  · rw [if_pos h, if_pos (by rw [h])]
  · rw [if_neg h, if_neg (fun e => h (Sum.inl.inj e))]
theorem upd_lr (H : Pl → Option Hd) (p : Int × Int) (y : Hd) : (fun q : Int => updH H (.inl p) y (.inr q)) = fun q => H (.inr q) := by
  funext q
  unfold updH
  rw [if_neg (fun e => by cases e)]
theorem upd_r (H : Pl → Option Hd) (p : Int) (y : Hd) : (fun q : Int => updH H (.inr p) y (.inr q)) = fun q => if q = p then some y else H (.inr q) := by
  funext q
  unfold updH
  by_cases h : q = p
  · rw [if_pos h, if_pos (by rw [h])]
  · rw [if_neg h, if_neg (fun e => h (Sum.inr.inj e))]
theorem upd_rl (H : Pl → Option Hd) (p : Int) (y : Hd) : (fun q : Int × Int => updH H (.inr p) y (.inl q)) = fun q => H (.inl q) := by
  funext q
  unfold updH
  rw [if_neg (fun e => by cases e)]
set_option maxRecDepth 100000 in
set_option maxHeartbeats 4000000 in
theorem lose_is (w : World) (F : Nat → Prop) (b N : Nat) (T : Pl → List Mv) (h : Net w F b N T) (hN : N < 1000000000) (f t : Int) (i : Nat) (hi : i < (T (.inl (f, t))).length) (hl : (T (.inl (f, t))).length ≤ 64) (hf : InI f) (ht : InI t) :
    Calls Try.prog 32 #[.pointer (some ⟨b, 0, none⟩), .int .i64 f, .int .i64 t, .int .i64 (i : Int)] w fun e w' => e = .returned (.tuple #[]) ∧ ∃ F', Net w' F' b (N + 1) (putT T (.inl (f, t)) (outL (T (.inl (f, t))) i)) ∧ Step F F' w w' := by
  obtain ⟨ml, mb, H, h1, hF⟩ := h
  have N1 : Hid (Nt w b N ml mb H T) := h1
  have HF : Hid (∀ k, F k ↔ NF b ml mb H k) := hF
  have HI : Hid (InL (f, t)) := ⟨hf, ht⟩
  obtain ⟨L, hLe⟩ : ∃ L, T (.inl (f, t)) = L := ⟨_, rfl⟩
  have HLE : Hid (T (.inl (f, t)) = L) := hLe
  rw [hLe] at hi hl ⊢
  have HIL : Hid (i < L.length ∧ L.length ≤ 64) := ⟨hi, hl⟩
  have hb0 : Below w.heap.size w (w.alloc (.cells #[.int .i64 f, .int .i64 t] 63)) := below1 _ _
  have NA : Hid (Nt (w.alloc (.cells #[.int .i64 f, .int .i64 t] 63)) b N ml mb H T ∧ (w.alloc (.cells #[.int .i64 f, .int .i64 t] 63)).heap[w.heap.size]? = some (.cells #[.int .i64 f, .int .i64 t] 63) ∧ Below w.heap.size w (w.alloc (.cells #[.int .i64 f, .int .i64 t] 63))) := ⟨h1.kept fun k hk => hb0.block k (h1.lt k hk), heap_alloc_new w _, hb0⟩
  clear h1 hF hf ht hLe hi hl hb0
  go_enter Try.func32, Try.ntmps32
  go_wp2_with fail
  refine wp_region_noPanic ?_
  refine wp_region_held_drew (S := (fun W : World => W.heap[b]? = some (.cells #[.map (some ml), .map (some mb)] 61) ∧ W.heap[w.heap.size]? = some (.cells #[.int .i64 f, .int .i64 t] 63))) (by kernel_rfl) ?hSaa (fun hHeld => ?restaa)
  case hSaa => exact ⟨NA.out.1.box, NA.out.2.1⟩
  case restaa =>

  have NU : Hid (Nt (World.drew (w.alloc (.cells #[.int .i64 f, .int .i64 t] 63))) b N ml mb H T ∧ (World.drew (w.alloc (.cells #[.int .i64 f, .int .i64 t] 63))).heap[w.heap.size]? = some (.cells #[.int .i64 f, .int .i64 t] 63) ∧ Below w.heap.size w (World.drew (w.alloc (.cells #[.int .i64 f, .int .i64 t] 63)))) := ⟨NA.out.1.kept fun _ _ => rfl, NA.out.2.1, NA.out.2.2.trans ⟨rfl, rfl, rfl, Nat.le_refl _, fun _ _ => rfl⟩⟩
  generalize World.drew (w.alloc (.cells #[.int .i64 f, .int .i64 t] 63)) = u0 at hHeld NU ⊢
  clear NA
  refine wpAnyH_take (i := 0) (v := .pointer (some ⟨b, 0, none⟩)) rfl (by kernel_rfl) (by kernel_rfl) (by kernel_rfl) (fun _ _ _ h => h) (Or.inl ⟨by kernel_rfl, ?hy0a⟩) hHeld ?rest0a
  case hy0a => (intro u hSu; obtain ⟨qf, qg⟩ := net_cells hSu.1; obtain ⟨ql, qm⟩ := lk_cells hSu.2; clear hSu; go_simp; try with_reducible rfl)
  try simp only [Act.put, List.setIfInBounds_toArray, List.set_cons_zero, List.set_cons_succ, List.getElem_toArray, List.getElem_cons_zero]
  refine wpAnyH_take (i := 1) (v := .pointer (some ⟨b, 0, none⟩)) rfl (by kernel_rfl) (by kernel_rfl) (by kernel_rfl) (fun _ _ _ h => h) (Or.inl ⟨by kernel_rfl, ?hy1a⟩) hHeld ?rest1a
  case hy1a => (intro u hSu; obtain ⟨qf, qg⟩ := net_cells hSu.1; obtain ⟨ql, qm⟩ := lk_cells hSu.2; clear hSu; go_simp; try with_reducible rfl)
  try simp only [Act.put, List.setIfInBounds_toArray, List.set_cons_zero, List.set_cons_succ, List.getElem_toArray, List.getElem_cons_zero, List.getElem_cons_succ]
  refine wpAnyH_take (i := 2) (v := .pointer (some ⟨b, 0, none⟩)) rfl (by kernel_rfl) (by kernel_rfl) (by kernel_rfl) (fun _ _ _ h => h) (Or.inl ⟨by kernel_rfl, ?hy2a⟩) hHeld ?rest2a
  case hy2a => (intro u hSu; obtain ⟨qf, qg⟩ := net_cells hSu.1; obtain ⟨ql, qm⟩ := lk_cells hSu.2; clear hSu; go_simp; try with_reducible rfl)
  try simp only [Act.put, List.setIfInBounds_toArray, List.set_cons_zero, List.set_cons_succ, List.getElem_toArray, List.getElem_cons_zero, List.getElem_cons_succ]
  refine wpAnyH_take (i := 3) (v := .map (some ml)) rfl (by kernel_rfl) (by kernel_rfl) (by kernel_rfl) (fun _ _ _ h => h) (Or.inl ⟨by kernel_rfl, ?hy3a⟩) hHeld ?rest3a
  case hy3a => (intro u hSu; obtain ⟨qf, qg⟩ := net_cells hSu.1; obtain ⟨ql, qm⟩ := lk_cells hSu.2; clear hSu; go_simp; try with_reducible rfl)
  try simp only [Act.put, List.setIfInBounds_toArray, List.set_cons_zero, List.set_cons_succ, List.getElem_toArray, List.getElem_cons_zero, List.getElem_cons_succ]
  refine wpAnyH_take (i := 4) (v := .agg #[.int .i64 f, .int .i64 t]) rfl (by kernel_rfl) (by kernel_rfl) (by kernel_rfl) (fun _ _ _ h => h) (Or.inl ⟨by kernel_rfl, ?hy4a⟩) hHeld ?rest4a
  case hy4a => (intro u hSu; obtain ⟨qf, qg⟩ := net_cells hSu.1; obtain ⟨ql, qm⟩ := lk_cells hSu.2; clear hSu; go_simp; try with_reducible rfl)
  try simp only [Act.put, List.setIfInBounds_toArray, List.set_cons_zero, List.set_cons_succ, List.getElem_toArray, List.getElem_cons_zero, List.getElem_cons_succ]
  refine wpAnyH_take (i := 5) (v := .pointer (some ⟨b, 0, none⟩)) rfl (by kernel_rfl) (by kernel_rfl) (by kernel_rfl) (fun _ _ _ h => h) (Or.inl ⟨by kernel_rfl, ?hy5a⟩) hHeld ?rest5a
  case hy5a => (intro u hSu; obtain ⟨qf, qg⟩ := net_cells hSu.1; obtain ⟨ql, qm⟩ := lk_cells hSu.2; clear hSu; go_simp; try with_reducible rfl)
  try simp only [Act.put, List.setIfInBounds_toArray, List.set_cons_zero, List.set_cons_succ, List.getElem_toArray, List.getElem_cons_zero, List.getElem_cons_succ]
  refine wpAnyH_take (i := 6) (v := .pointer (some ⟨b, 0, none⟩)) rfl (by kernel_rfl) (by kernel_rfl) (by kernel_rfl) (fun _ _ _ h => h) (Or.inl ⟨by kernel_rfl, ?hy6a⟩) hHeld ?rest6a
  case hy6a => (intro u hSu; obtain ⟨qf, qg⟩ := net_cells hSu.1; obtain ⟨ql, qm⟩ := lk_cells hSu.2; clear hSu; go_simp; try with_reducible rfl)
  try simp only [Act.put, List.setIfInBounds_toArray, List.set_cons_zero, List.set_cons_succ, List.getElem_toArray, List.getElem_cons_zero, List.getElem_cons_succ]
  refine wpAnyH_take (i := 7) (v := .pointer (some ⟨b, 0, none⟩)) rfl (by kernel_rfl) (by kernel_rfl) (by kernel_rfl) (fun _ _ _ h => h) (Or.inl ⟨by kernel_rfl, ?hy7a⟩) hHeld ?rest7a
  case hy7a => (intro u hSu; obtain ⟨qf, qg⟩ := net_cells hSu.1; obtain ⟨ql, qm⟩ := lk_cells hSu.2; clear hSu; go_simp; try with_reducible rfl)
  try simp only [Act.put, List.setIfInBounds_toArray, List.set_cons_zero, List.set_cons_succ, List.getElem_toArray, List.getElem_cons_zero, List.getElem_cons_succ]
  refine wpAnyH_take (i := 8) (v := .map (some ml)) rfl (by kernel_rfl) (by kernel_rfl) (by kernel_rfl) (fun _ _ _ h => h) (Or.inl ⟨by kernel_rfl, ?hy8a⟩) hHeld ?rest8a
  case hy8a => (intro u hSu; obtain ⟨qf, qg⟩ := net_cells hSu.1; obtain ⟨ql, qm⟩ := lk_cells hSu.2; clear hSu; go_simp; try with_reducible rfl)
  try simp only [Act.put, List.setIfInBounds_toArray, List.set_cons_zero, List.set_cons_succ, List.getElem_toArray, List.getElem_cons_zero, List.getElem_cons_succ]
  refine wpAnyH_take (i := 9) (v := .agg #[.int .i64 f, .int .i64 t]) rfl (by kernel_rfl) (by kernel_rfl) (by kernel_rfl) (fun _ _ _ h => h) (Or.inl ⟨by kernel_rfl, ?hy9a⟩) hHeld ?rest9a
  case hy9a => (intro u hSu; obtain ⟨qf, qg⟩ := net_cells hSu.1; obtain ⟨ql, qm⟩ := lk_cells hSu.2; clear hSu; go_simp; try with_reducible rfl)
  try simp only [Act.put, List.setIfInBounds_toArray, List.set_cons_zero, List.set_cons_succ, List.getElem_toArray, List.getElem_cons_zero, List.getElem_cons_succ]
  refine wpAnyH_take (i := 11) (v := .int .i64 (i : Int)) rfl (by kernel_rfl) (by kernel_rfl) (by kernel_rfl) (fun _ _ _ h => h) (Or.inl ⟨by kernel_rfl, ?hy11a⟩) hHeld ?rest11a
  case hy11a => (intro u hSu; obtain ⟨qf, qg⟩ := net_cells hSu.1; obtain ⟨ql, qm⟩ := lk_cells hSu.2; clear hSu; go_simp; try with_reducible rfl)
  try simp only [Act.put, List.setIfInBounds_toArray, List.set_cons_zero, List.set_cons_succ, List.getElem_toArray, List.getElem_cons_zero, List.getElem_cons_succ]

  obtain ⟨aq, cq, hh, hin, hlc, hc9, _⟩ := NU.out.1.hd (.inl (f, t))
  have hlk := NU.out.1.sl.look (f, t) HI.out
  rw [hh, HLE.out] at hlk
  rw [HLE.out] at hin hlc
  unfold lkV at hlk
  try simp only at hlk
  obtain ⟨nl, hnl⟩ : ∃ nl, L.length = nl := ⟨_, rfl⟩
  have KW : Hid (Calls Try.prog 47 #[.slice aq nl cq, .int .i64 (i : Int)] u0 fun e w' => ∃ v, e = .returned v ∧ OwnM w' u0.heap.size v (outL L i) ∧ Below u0.heap.size u0 w') := without_is u0 aq nl cq L hnl hin ⟨by rw [← hnl]; exact hlc, hc9⟩ i (by rw [← hnl]; exact HIL.out.1) (by have := HIL.out.2; omega)
  rw [hnl] at hlk
  clear hh hin hlc hc9 hnl
  refine wpAnyH_ready (rs := [10]) (by kernel_rfl) (by simp) ?_
  refine AllReadyH.cons rfl (fun K hK => ?_) AllReadyH.nil
  go_simp
  refine hK.out _ _ ?hS10a (fun hHeld => ?rest10a)
  case hS10a => exact ⟨NU.out.1.box, NU.out.2.1⟩
  clear hK K
  try simp only [Act.put, List.setIfInBounds_toArray, List.set_cons_zero, List.set_cons_succ, List.getElem_toArray, List.getElem_cons_zero, List.getElem_cons_succ]

  refine wpAnyH_ready (rs := [12]) (by kernel_rfl) (by simp) ?_
  refine AllReadyH.cons rfl (fun K hK => ?_) AllReadyH.nil
  go_simp; refine KW.out.mono ?_; rintro e u1 ⟨v1, rfl, ho1, hb1⟩; obtain ⟨y, rfl⟩ := ho1.hd; have O1 : Hid (OwnM u1 w.heap.size (hv y) (outL L i) ∧ Below w.heap.size w u1 ∧ Below u0.heap.size u0 u1) := ⟨ho1.base NU.out.2.2.size, NU.out.2.2.trans (hb1.mono NU.out.2.2.size), hb1⟩; clear ho1 hb1; go_wp2_with fail
  refine hK.out _ _ ?hS12a (fun hHeld => ?rest12a)
  case hS12a => exact ⟨(O1.out.2.2.block b (lt_of_heapK NU.out.1.box)).trans NU.out.1.box, (O1.out.2.2.block _ (lt_of_heapK NU.out.2.1)).trans NU.out.2.1⟩
  clear hK K
  try simp only [Act.put, List.setIfInBounds_toArray, List.set_cons_zero, List.set_cons_succ, List.getElem_toArray, List.getElem_cons_zero, List.getElem_cons_succ]

  have N2 : Hid (Nt u1 b N ml mb H T ∧ u1.heap[w.heap.size]? = some (.cells #[.int .i64 f, .int .i64 t] 63)) := ⟨NU.out.1.kept fun k hk => O1.out.2.2.block k (NU.out.1.lt k hk), (O1.out.2.2.block _ (lt_of_heapK NU.out.2.1)).trans NU.out.2.1⟩
  obtain ⟨u2, hs2, hsc2, hg2⟩ := N2.out.1.sl.store (by omega) (f, t) HI.out y
  unfold lkV at hs2
  try simp only at hs2
  have FIN : Hid (Net u2 (NF b ml mb (updH H (.inl (f, t)) y)) b (N + 1) (putT T (.inl (f, t)) (outL L i)) ∧ Step F (NF b ml mb (updH H (.inl (f, t)) y)) w u2) := net_put N1.out HF.out (.inl (f, t)) y (outL L i) O1.out.2.1 O1.out.1 (by rw [upd_l]; exact hsc2) (by rw [upd_lr]; exact (N2.out.1.sb.blk (hg2.block mb N2.out.1.sb.lt (fun e => N2.out.1.ne.1.2.2 (Option.some.inj e).symm))).mono (by omega)) ml (.inl rfl) hg2
  have S2 : Hid (u2.heap[b]? = some (.cells #[.map (some ml), .map (some mb)] 61) ∧ u2.heap[w.heap.size]? = some (.cells #[.int .i64 f, .int .i64 t] 63)) := ⟨(hg2.block b (lt_of_heapK N2.out.1.box) (fun e => N2.out.1.ne.1.1 (Option.some.inj e))).trans N2.out.1.box, (hg2.block _ (lt_of_heapK N2.out.2) (fun e => by have e2 := Option.some.inj e; have := N1.out.lt ml (.inr (.inl rfl)); omega)).trans N2.out.2⟩
  clear hsc2 hg2
  refine wpAnyH_ready (rs := [13]) (by kernel_rfl) (by simp) ?_
  refine AllReadyH.cons rfl (fun K hK => ?_) AllReadyH.nil
  go_simp
  refine hK.out _ _ ?hS13a (fun hHeld => ?rest13a)
  case hS13a => exact S2.out
  clear hK K
  try simp only [Act.put, List.setIfInBounds_toArray, List.set_cons_zero, List.set_cons_succ, List.getElem_toArray, List.getElem_cons_zero, List.getElem_cons_succ]
  refine wpAnyH_done (by kernel_rfl) ?_ _
  refine NoPanic.normal ?_

  go_wp2_with fail
  refine bodyPost_end (results_none rfl _ _ _) rfl ?_
  exact ⟨rfl, _, FIN.out⟩

end Go.Proofs.Ytokakhlkanakcaa
