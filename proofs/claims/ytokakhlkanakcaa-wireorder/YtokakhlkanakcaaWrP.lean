/- letGo. -/
import Derived.Test.YtokakhlkanakcaaWrO
import Derived.Test.YtokakhlkanakcaaWrE
import Derived.Deep.DeepCutAuto
import Derived.Deep.RegionHeld3
namespace Go.Proofs.Ytokakhlkanakcaa
open Go.ChangeShapes Go.WideShapes Go.ChangeAt Go.RowKit Go.Deep Go.Maps
set_option linter.unusedVariables false
set_option linter.unusedSimpArgs false
def putT (T : Pl → List Mv) (p : Pl) (l : List Mv) : Pl → List Mv := fun q => if q = p then l else T q
def updH (H : Pl → Option Hd) (p : Pl) (y : Hd) : Pl → Option Hd := fun q => if q = p then some y else H q
theorem OwnM.hd {w : World} {base : Nat} {v : Value} {l : List Mv} (h : OwnM w base v l) : ∃ y : Hd, v = hv y := by
  rcases h.2 with ⟨rfl, _⟩ | ⟨g, cap, cur, rfl, _⟩
  · exact ⟨(0, 0, 0), rfl⟩
  · exact ⟨(g + 1, _, _), rfl⟩
/-- one place's messages are put in place of others -/
theorem Nt.put {w w' : World} {b N ml mb : Nat} {H : Pl → Option Hd} {T : Pl → List Mv} (h : Nt w b N ml mb H T) (p : Pl) (y : Hd) (l : List Mv) (hbox : w'.heap[b]? = w.heap[b]?)
    (hsl : ScL w' ml (N + 1) (fun q => updH H p y (.inl q))) (hsb : ScB w' mb (N + 1) (fun q => updH H p y (.inr q))) (hrow : OwnM w' 0 (hv y) l)
    (hkeep : ∀ q x k, q ≠ p → H q = some x → x.1 = k + 1 → w'.heap[k]? = w.heap[k]?) (hat : ∀ k, y.1 = k + 1 → (∃ x, H p = some x ∧ x.1 = k + 1) ∨ w.heap.size ≤ k) : Nt w' b (N + 1) ml mb (updH H p y) (putT T p l) := by
  have hlt := h.lt
  refine ⟨hbox.trans h.box, hsl, hsb, fun q x hq => ?_, fun q hq => ?_, fun q q2 x x2 k hq hq2 hx hx2 => ?_, h.ne.1, fun q x k hq hx => ?_⟩
  · unfold updH at hq
    unfold putT
    by_cases e : q = p
    · rw [if_pos e] at hq ⊢
      cases hq
      exact hrow
    · rw [if_neg e] at hq ⊢
      exact (h.row q x hq).kept fun k hk => hkeep q x k e hq (hv_own.1 hk)
  · unfold updH at hq
    unfold putT
    by_cases e : q = p
    · rw [if_pos e] at hq; cases hq
    · rw [if_neg e] at hq ⊢
      exact h.nil q hq
  · unfold updH at hq hq2
    by_cases e : q = p
    · by_cases e2 : q2 = p
      · rw [e, e2]
      · rw [if_pos e] at hq
        rw [if_neg e2] at hq2
        cases hq
        rcases hat k hx with ⟨z, hz, hzk⟩ | hz
        · exact e.trans (h.ap p q2 z x2 k hz hq2 hzk hx2)
        · have := hlt k (.inr (.inr (.inr ⟨q2, x2, hq2, hx2⟩)))
          omega
    · by_cases e2 : q2 = p
      · rw [if_neg e] at hq
        rw [if_pos e2] at hq2
        cases hq2
        rcases hat k hx2 with ⟨z, hz, hzk⟩ | hz
        · exact (h.ap q p x z k hq hz hx hzk).trans e2.symm
        · have := hlt k (.inr (.inr (.inr ⟨q, x, hq, hx⟩)))
          omega
      · rw [if_neg e] at hq
        rw [if_neg e2] at hq2
        exact h.ap q q2 x x2 k hq hq2 hx hx2
  · unfold updH at hq
    by_cases e : q = p
    · rw [if_pos e] at hq
      cases hq
      rcases hat k hx with ⟨z, hz, hzk⟩ | hz
      · exact h.ne.2 p z k hz hzk
      · have h1 := hlt b (.inl rfl)
        have h2 := hlt ml (.inr (.inl rfl))
        have h3 := hlt mb (.inr (.inr (.inl rfl)))
        exact ⟨by omega, by omega, by omega⟩
    · rw [if_neg e] at hq
      exact h.ne.2 q x k hq hx
theorem nf_upd {b ml mb : Nat} {H : Pl → Option Hd} {p : Pl} {y : Hd} {z k : Nat} (hat : ∀ k, y.1 = k + 1 → (∃ x, H p = some x ∧ x.1 = k + 1) ∨ z ≤ k) (hk : NF b ml mb (updH H p y) k) : NF b ml mb H k ∨ z ≤ k := by
  rcases hk with h | h | h | ⟨q, x, hq, hx⟩
  · exact .inl (.inl h)
  · exact .inl (.inr (.inl h))
  · exact .inl (.inr (.inr (.inl h)))
  · unfold updH at hq
    by_cases e : q = p
    · rw [if_pos e] at hq
      cases hq
      rcases hat k hx with ⟨z, hz, hzk⟩ | hz
      · exact .inl (.inr (.inr (.inr ⟨p, z, hz, hzk⟩)))
      · exact .inr hz
    · rw [if_neg e] at hq
      exact .inl (.inr (.inr (.inr ⟨q, x, hq, hx⟩)))
theorem lk_cells {w : World} {g : Nat} {x y : Value} {t : TypeId} (h : w.heap[g]? = some (.cells #[x, y] t)) : w.cell? ⟨g, 0, none⟩ = some x ∧ w.cell? ⟨g, 1, none⟩ = some y := by
  refine ⟨?_, ?_⟩ <;> simp [World.cell?, h]
theorem msg_cells {w : World} {g : Nat} {a b c d e f : Value} {t : TypeId} (h : w.heap[g]? = some (.cells #[a, b, c, d, e, f] t)) : w.cell? ⟨g, 0, none⟩ = some a ∧ w.cell? ⟨g, 1, none⟩ = some b ∧ w.cell? ⟨g, 2, none⟩ = some c ∧ w.cell? ⟨g, 3, none⟩ = some d ∧ w.cell? ⟨g, 4, none⟩ = some e ∧ w.cell? ⟨g, 5, none⟩ = some f := by
  refine ⟨?_, ?_, ?_, ?_, ?_, ?_⟩ <;> simp [World.cell?, h]
theorem lt_of_same1 {a b : Nat} (h : a < b) : a < b := h
set_option maxRecDepth 100000 in
set_option maxHeartbeats 8000000 in
theorem letGo_is (w : World) (F : Nat → Prop) (b N : Nat) (T : Pl → List Mv) (h : Net w F b N T) (hN : N < 1000000000) (m : Mv) (hf : InI m.f) (ht : InI m.t) (hL : (T (.inl (m.f, m.t))).length < 64) :
    Calls Try.prog 40 #[.pointer (some ⟨b, 0, none⟩), .agg (mC m)] w fun e w' => e = .returned (.int .i64 0) ∧ ∃ F', Net w' F' b (N + 1) (putT T (.inl (m.f, m.t)) (T (.inl (m.f, m.t)) ++ [m])) ∧ Step F F' w w' := by
  obtain ⟨ml, mb, H, h1, hF⟩ := h
  obtain ⟨mk, mf, mt, mx, my, mpa, mpn, mpc⟩ := m
  simp only at hf ht hL ⊢
  unfold mC
  simp only
  obtain ⟨wa, hwa⟩ : ∃ wa, (w.alloc (.cells #[.int .i64 mk, .int .i64 mf, .int .i64 mt, .int .i64 mx, .bool my, .slice mpa mpn mpc] 31)).alloc (.cells #[.int .i64 mf, .int .i64 mt] 63) = wa := ⟨_, rfl⟩
  have z1 : (w.alloc (.cells #[.int .i64 mk, .int .i64 mf, .int .i64 mt, .int .i64 mx, .bool my, .slice mpa mpn mpc] 31)).heap.size = w.heap.size + 1 := by simp
  have hba : Below w.heap.size w wa := by
    rw [← hwa]
    exact (below1 w _).trans ((below1 _ _).mono (below1 w _).size)
  have XL : Hid (wa.heap[w.heap.size + 1]? = some (.cells #[.int .i64 mf, .int .i64 mt] 63)) := by
    show _ = _
    rw [← hwa]
    have := heap_alloc_new (w.alloc (.cells #[.int .i64 mk, .int .i64 mf, .int .i64 mt, .int .i64 mx, .bool my, .slice mpa mpn mpc] 31)) (.cells #[.int .i64 mf, .int .i64 mt] 63)
    rw [z1] at this
    exact this
  have XM : Hid (wa.heap[w.heap.size]? = some (.cells #[.int .i64 mk, .int .i64 mf, .int .i64 mt, .int .i64 mx, .bool my, .slice mpa mpn mpc] 31)) := by
    show _ = _
    rw [← hwa, (below1 _ _).block _ (by rw [z1]; omega)]
    exact heap_alloc_new w _
  have WAE : Hid ((w.alloc (.cells #[.int .i64 mk, .int .i64 mf, .int .i64 mt, .int .i64 mx, .bool my, .slice mpa mpn mpc] 31)).alloc (.cells #[.int .i64 mf, .int .i64 mt] 63) = wa) := hwa
  have BA : Hid (Below w.heap.size w wa) := hba
  have N1 : Hid (Nt w b N ml mb H T) := h1
  have NA : Hid (Nt wa b N ml mb H T) := h1.kept fun k hk => hba.block k (h1.lt k hk)
  have HF : Hid (∀ k, F k ↔ NF b ml mb H k) := hF
  have HI : Hid (InL (mf, mt)) := ⟨hf, ht⟩
  have HL6 : Hid ((T (.inl (mf, mt))).length < 64) := hL
  clear h1 hF hwa z1 hba hf ht hL
  go_enter Try.func40, Try.ntmps40
  go_upto_region 2 with fail
  rw [show World.alloc (World.alloc w _) _ = wa from WAE.out]
  go_cut [17] (fun c wx => c = .bool false ∧ wx = wa.drew)
  case first =>
    refine wp_region_noPanic ?_
    refine wp_region_held_drew (S := (fun W : World => W.heap[b]? = some (.cells #[.map (some ml), .map (some mb)] 61) ∧ W.heap[w.heap.size + 1]? = some (.cells #[.int .i64 mf, .int .i64 mt] 63))) (by kernel_rfl) ?hSaa (fun hHeld => ?restaa)
    case hSaa => exact ⟨NA.out.box, XL.out⟩
    case restaa =>
      refine wpAnyH_take (i := 0) (v := .pointer (some ⟨b, 0, none⟩)) rfl (by kernel_rfl) (by kernel_rfl) (by kernel_rfl) (fun _ _ _ h => h) (Or.inl ⟨by kernel_rfl, ?hy0a⟩) hHeld ?rest0a
      case hy0a => (intro u hSu; obtain ⟨qf, qg⟩ := net_cells hSu.1; obtain ⟨ql, qm⟩ := lk_cells hSu.2; clear hSu; go_simp; try with_reducible rfl)
      try simp only [Act.put, List.setIfInBounds_toArray, List.set_cons_zero, List.set_cons_succ, List.getElem_toArray, List.getElem_cons_zero]
      refine wpAnyH_take (i := 1) (v := .pointer (some ⟨b, 0, none⟩)) rfl (by kernel_rfl) (by kernel_rfl) (by kernel_rfl) (fun _ _ _ h => h) (Or.inl ⟨by kernel_rfl, ?hy1a⟩) hHeld ?rest1a
      case hy1a => (intro u hSu; obtain ⟨qf, qg⟩ := net_cells hSu.1; obtain ⟨ql, qm⟩ := lk_cells hSu.2; clear hSu; go_simp; try with_reducible rfl)
      try simp only [Act.put, List.setIfInBounds_toArray, List.set_cons_zero, List.set_cons_succ, List.getElem_toArray, List.getElem_cons_zero, List.getElem_cons_succ]
      refine wpAnyH_take (i := 2) (v := .pointer (some ⟨b, 0, none⟩)) rfl (by kernel_rfl) (by kernel_rfl) (by kernel_rfl) (fun _ _ _ h => h) (Or.inl ⟨by kernel_rfl, ?hy2a⟩) hHeld ?rest2a
      case hy2a => (intro u hSu; obtain ⟨qf, qg⟩ := net_cells hSu.1; obtain ⟨ql, qm⟩ := lk_cells hSu.2; clear hSu; go_simp; try with_reducible rfl)
      try simp only [Act.put, List.setIfInBounds_toArray, List.set_cons_zero, List.set_cons_succ, List.getElem_toArray, List.getElem_cons_zero, List.getElem_cons_succ]
      refine wpAnyH_take (i := 3) (v := .map (some ml)) rfl (by kernel_rfl) (by kernel_rfl) (by kernel_rfl) (fun _ _ _ h => h) (Or.inl ⟨by kernel_rfl, ?hy3a⟩) hHeld ?rest3a
      case hy3a => (intro u hSu; obtain ⟨qf, qg⟩ := net_cells hSu.1; obtain ⟨ql, qm⟩ := lk_cells hSu.2; clear hSu; go_simp; try with_reducible rfl)
      try simp only [Act.put, List.setIfInBounds_toArray, List.set_cons_zero, List.set_cons_succ, List.getElem_toArray, List.getElem_cons_zero, List.getElem_cons_succ]
      refine wpAnyH_take (i := 4) (v := .agg #[.int .i64 mf, .int .i64 mt]) rfl (by kernel_rfl) (by kernel_rfl) (by kernel_rfl) (fun _ _ _ h => h) (Or.inl ⟨by kernel_rfl, ?hy4a⟩) hHeld ?rest4a
      case hy4a => (intro u hSu; obtain ⟨qf, qg⟩ := net_cells hSu.1; obtain ⟨ql, qm⟩ := lk_cells hSu.2; clear hSu; go_simp; try with_reducible rfl)
      try simp only [Act.put, List.setIfInBounds_toArray, List.set_cons_zero, List.set_cons_succ, List.getElem_toArray, List.getElem_cons_zero, List.getElem_cons_succ]

      obtain ⟨aq, cq, hh, _, hlc, hc9, _⟩ := NA.out.hd (.inl (mf, mt))
      have hlk := (ScL.look (w := wa.drew) (NA.out.sl.blk rfl) (mf, mt) HI.out)
      rw [hh] at hlk
      unfold lkV at hlk
      try simp only at hlk
      obtain ⟨nl, hnl⟩ : ∃ nl, (T (.inl (mf, mt))).length = nl := ⟨_, rfl⟩
      have hnl6 : nl < 64 := by rw [← hnl]; exact HL6.out
      rw [hnl] at hlk
      clear hh hlc hc9 hnl
      refine wpAnyH_ready (rs := [5]) (by kernel_rfl) (by simp) ?_
      refine AllReadyH.cons rfl (fun K hK => ?_) AllReadyH.nil
      go_simp
      refine hK.out _ _ ?hS5a (fun hHeld => ?rest5a)
      case hS5a => exact ⟨NA.out.box, XL.out⟩
      clear hK K
      try simp only [Act.put, List.setIfInBounds_toArray, List.set_cons_zero, List.set_cons_succ, List.getElem_toArray, List.getElem_cons_zero, List.getElem_cons_succ]

      have KFu : Hid (Calls Try.prog 44 #[.slice aq nl cq] wa.drew fun e w' => e = .returned (.bool false) ∧ w' = wa.drew) := by
        have k := full_is wa.drew aq nl cq (by omega)
        rw [decide_eq_false (by omega)] at k
        exact k
      refine wpAnyH_ready (rs := [6]) (by kernel_rfl) (by simp) ?_
      refine AllReadyH.cons rfl (fun K hK => ?_) AllReadyH.nil
      go_simp; refine KFu.out.mono ?_; rintro e w' ⟨rfl, hw⟩; obtain rfl := hw.symm; clear hw; go_wp2_with fail
      refine hK.out _ _ ?hS6a (fun hHeld => ?rest6a)
      case hS6a => exact ⟨NA.out.box, XL.out⟩
      clear hK K
      try simp only [Act.put, List.setIfInBounds_toArray, List.set_cons_zero, List.set_cons_succ, List.getElem_toArray, List.getElem_cons_zero, List.getElem_cons_succ]
      refine wpAnyH_done (by kernel_rfl) ?_ _
      refine NoPanic.normal ?_

      try go_wp2_with fail
      go_meet
      case rel => exact ⟨rfl, rfl⟩
  case rest =>
    obtain ⟨rfl, hwc⟩ := hcut
    subst hwc
    obtain ⟨L, hLe⟩ : ∃ L, T (.inl (mf, mt)) = L := ⟨_, rfl⟩
    have HLE : Hid (T (.inl (mf, mt)) = L) := hLe
    clear hLe
    go_wp2_with fail
    refine wp_region_noPanic ?_
    refine wp_region_held_drew (S := (fun W : World => W.heap[b]? = some (.cells #[.map (some ml), .map (some mb)] 61) ∧ W.heap[w.heap.size + 1]? = some (.cells #[.int .i64 mf, .int .i64 mt] 63) ∧ W.heap[w.heap.size]? = some (.cells #[.int .i64 mk, .int .i64 mf, .int .i64 mt, .int .i64 mx, .bool my, .slice mpa mpn mpc] 31))) (by kernel_rfl) ?hSab (fun hHeld => ?restab)
    case hSab => exact ⟨NA.out.box, XL.out, XM.out⟩
    case restab =>

      have NU : Hid (Nt (World.drew wa.drew) b N ml mb H T ∧ Below w.heap.size w (World.drew wa.drew) ∧ (World.drew wa.drew).heap[w.heap.size + 1]? = some (.cells #[.int .i64 mf, .int .i64 mt] 63) ∧ (World.drew wa.drew).heap[w.heap.size]? = some (.cells #[.int .i64 mk, .int .i64 mf, .int .i64 mt, .int .i64 mx, .bool my, .slice mpa mpn mpc] 31) ∧ w.heap.size + 2 ≤ (World.drew wa.drew).heap.size) := ⟨NA.out.kept fun _ _ => rfl, BA.out.trans ⟨rfl, rfl, rfl, Nat.le_refl _, fun _ _ => rfl⟩, XL.out, XM.out, by have := lt_of_heapK XL.out; exact this⟩
      generalize World.drew wa.drew = u0 at hHeld NU ⊢
      clear NA XL XM WAE BA
      refine wpAnyH_take (i := 0) (v := .pointer (some ⟨b, 0, none⟩)) rfl (by kernel_rfl) (by kernel_rfl) (by kernel_rfl) (fun _ _ _ h => h) (Or.inl ⟨by kernel_rfl, ?hy0b⟩) hHeld ?rest0b
      case hy0b => (intro u hSu; obtain ⟨qf, qg⟩ := net_cells hSu.1; obtain ⟨ql, qm⟩ := lk_cells hSu.2.1; obtain ⟨y0, y1, y2, y3, y4, y5⟩ := msg_cells hSu.2.2; clear hSu; go_simp; try with_reducible rfl)
      try simp only [Act.put, List.setIfInBounds_toArray, List.set_cons_zero, List.set_cons_succ, List.getElem_toArray, List.getElem_cons_zero]
      refine wpAnyH_take (i := 1) (v := .pointer (some ⟨b, 0, none⟩)) rfl (by kernel_rfl) (by kernel_rfl) (by kernel_rfl) (fun _ _ _ h => h) (Or.inl ⟨by kernel_rfl, ?hy1b⟩) hHeld ?rest1b
      case hy1b => (intro u hSu; obtain ⟨qf, qg⟩ := net_cells hSu.1; obtain ⟨ql, qm⟩ := lk_cells hSu.2.1; obtain ⟨y0, y1, y2, y3, y4, y5⟩ := msg_cells hSu.2.2; clear hSu; go_simp; try with_reducible rfl)
      try simp only [Act.put, List.setIfInBounds_toArray, List.set_cons_zero, List.set_cons_succ, List.getElem_toArray, List.getElem_cons_zero, List.getElem_cons_succ]
      refine wpAnyH_take (i := 2) (v := .pointer (some ⟨b, 0, none⟩)) rfl (by kernel_rfl) (by kernel_rfl) (by kernel_rfl) (fun _ _ _ h => h) (Or.inl ⟨by kernel_rfl, ?hy2b⟩) hHeld ?rest2b
      case hy2b => (intro u hSu; obtain ⟨qf, qg⟩ := net_cells hSu.1; obtain ⟨ql, qm⟩ := lk_cells hSu.2.1; obtain ⟨y0, y1, y2, y3, y4, y5⟩ := msg_cells hSu.2.2; clear hSu; go_simp; try with_reducible rfl)
      try simp only [Act.put, List.setIfInBounds_toArray, List.set_cons_zero, List.set_cons_succ, List.getElem_toArray, List.getElem_cons_zero, List.getElem_cons_succ]
      refine wpAnyH_take (i := 3) (v := .map (some ml)) rfl (by kernel_rfl) (by kernel_rfl) (by kernel_rfl) (fun _ _ _ h => h) (Or.inl ⟨by kernel_rfl, ?hy3b⟩) hHeld ?rest3b
      case hy3b => (intro u hSu; obtain ⟨qf, qg⟩ := net_cells hSu.1; obtain ⟨ql, qm⟩ := lk_cells hSu.2.1; obtain ⟨y0, y1, y2, y3, y4, y5⟩ := msg_cells hSu.2.2; clear hSu; go_simp; try with_reducible rfl)
      try simp only [Act.put, List.setIfInBounds_toArray, List.set_cons_zero, List.set_cons_succ, List.getElem_toArray, List.getElem_cons_zero, List.getElem_cons_succ]
      refine wpAnyH_take (i := 4) (v := .agg #[.int .i64 mf, .int .i64 mt]) rfl (by kernel_rfl) (by kernel_rfl) (by kernel_rfl) (fun _ _ _ h => h) (Or.inl ⟨by kernel_rfl, ?hy4b⟩) hHeld ?rest4b
      case hy4b => (intro u hSu; obtain ⟨qf, qg⟩ := net_cells hSu.1; obtain ⟨ql, qm⟩ := lk_cells hSu.2.1; obtain ⟨y0, y1, y2, y3, y4, y5⟩ := msg_cells hSu.2.2; clear hSu; go_simp; try with_reducible rfl)
      try simp only [Act.put, List.setIfInBounds_toArray, List.set_cons_zero, List.set_cons_succ, List.getElem_toArray, List.getElem_cons_zero, List.getElem_cons_succ]
      refine wpAnyH_take (i := 5) (v := .agg #[.int .i64 mk, .int .i64 mf, .int .i64 mt, .int .i64 mx, .bool my, .slice mpa mpn mpc]) rfl (by kernel_rfl) (by kernel_rfl) (by kernel_rfl) (fun _ _ _ h => h) (Or.inl ⟨by kernel_rfl, ?hy5b⟩) hHeld ?rest5b
      case hy5b => (intro u hSu; obtain ⟨qf, qg⟩ := net_cells hSu.1; obtain ⟨ql, qm⟩ := lk_cells hSu.2.1; obtain ⟨y0, y1, y2, y3, y4, y5⟩ := msg_cells hSu.2.2; clear hSu; go_simp; try with_reducible rfl)
      try simp only [Act.put, List.setIfInBounds_toArray, List.set_cons_zero, List.set_cons_succ, List.getElem_toArray, List.getElem_cons_zero, List.getElem_cons_succ]
      refine wpAnyH_ready (rs := [6]) (by kernel_rfl) (by simp) ?_
      refine AllReadyH.cons rfl (fun K hK => ?_) AllReadyH.nil
      go_simp
      refine hK.out _ _ ?hS6b (fun hHeld => ?rest6b)
      case hS6b => exact ⟨(Below.heap_alloc _ _ _ (lt_of_heapK NU.out.1.box)).trans NU.out.1.box, (Below.heap_alloc _ _ _ (lt_of_heapK NU.out.2.2.1)).trans NU.out.2.2.1, (Below.heap_alloc _ _ _ (lt_of_heapK NU.out.2.2.2.1)).trans NU.out.2.2.2.1⟩
      clear hK K
      try simp only [Act.put, List.setIfInBounds_toArray, List.set_cons_zero, List.set_cons_succ, List.getElem_toArray, List.getElem_cons_zero, List.getElem_cons_succ]

      obtain ⟨u1, hu1⟩ : ∃ u1, u0.alloc (.cells #[.int .i64 mk, .int .i64 mf, .int .i64 mt, .int .i64 mx, .bool my, .slice mpa mpn mpc] 31) = u1 := ⟨_, rfl⟩
      have hb01 : Below u0.heap.size u0 u1 := by rw [← hu1]; exact below1 _ _
      have X1 : Hid (u1.heap[u0.heap.size]? = some (.cells (mC ⟨mk, mf, mt, mx, my, mpa, mpn, mpc⟩) 31)) := by show _ = _; rw [← hu1]; exact heap_alloc_new u0 _
      have N1' : Hid (Nt u1 b N ml mb H T ∧ Below w.heap.size w u1 ∧ u1.heap[w.heap.size + 1]? = some (.cells #[.int .i64 mf, .int .i64 mt] 63) ∧ u1.heap[w.heap.size]? = some (.cells #[.int .i64 mk, .int .i64 mf, .int .i64 mt, .int .i64 mx, .bool my, .slice mpa mpn mpc] 31) ∧ w.heap.size + 2 ≤ u1.heap.size) := ⟨NU.out.1.kept fun k hk => hb01.block k (NU.out.1.lt k hk), NU.out.2.1.trans (hb01.mono (by have := NU.out.2.2.2.2; omega)), (hb01.block _ (lt_of_heapK NU.out.2.2.1)).trans NU.out.2.2.1, (hb01.block _ (lt_of_heapK NU.out.2.2.2.1)).trans NU.out.2.2.2.1, by have h1 := NU.out.2.2.2.2; have h2 := hb01.size; omega⟩
      have hz01 : w.heap.size + 2 ≤ u0.heap.size := NU.out.2.2.2.2
      rw [hu1] at hHeld ⊢
      obtain ⟨st, u2, hen, hg12, hz12, hst⟩ := N1'.out.1.sl.entry (by omega) (mf, mt) HI.out
      try simp only at hen
      have HST : Hid (∀ w2 y, w2.heap[ml]? = u2.heap[ml]? → ∃ w3, (Instr.entryStore 58 (.map (some ml)) (goInt st) (hv y)).run Try.prog w2 = .ok () w3 ∧ ScL w3 ml (N + 1) (fun q => if q = (mf, mt) then some y else H (.inl q)) ∧ w2.grownBy w3 (some ml)) := hst
      have G12 : Hid (u1.grownBy u2 (some ml) ∧ u2.heap.size = u1.heap.size) := ⟨hg12, hz12⟩
      have hne := N1'.out.1.ne
      have OW : Hid (OwnM u1 0 (hv ((H (.inl (mf, mt))).getD noH)) L) := by have q := N1'.out.1.at (.inl (mf, mt)); rw [HLE.out] at q; exact q
      have NR : Hid (∀ k, (hv ((H (.inl (mf, mt))).getD noH)).ownBlock = some k → k ≠ b ∧ k ≠ ml ∧ k ≠ mb ∧ k < w.heap.size ∧ ∃ x, H (.inl (mf, mt)) = some x ∧ x.1 = k + 1) := fun k hk => by
        cases e : H (.inl (mf, mt)) with
        | none => rw [e] at hk; cases hk
        | some x =>
          rw [e] at hk
          have hx := hv_own.1 hk
          have q := hne.2 _ x k e hx
          exact ⟨q.1, q.2.1, q.2.2, N1.out.lt k (.inr (.inr (.inr ⟨_, x, e, hx⟩))), x, rfl, hx⟩
      obtain ⟨v0, hv0⟩ : ∃ v0, hv ((H (.inl (mf, mt))).getD noH) = v0 := ⟨_, rfl⟩
      rw [hv0] at hen OW NR
      have BB2 : Hid (∀ k, k < u1.heap.size → k ≠ ml → u2.heap[k]? = u1.heap[k]?) := fun k hk hn => hg12.block k hk (fun e => hn (Option.some.inj e))
      unfold lkV at hen
      try simp only at hen
      clear hst hg12 hz12 hb01 hv0 hu1 hne
      refine wpAnyH_ready (rs := [7]) (by kernel_rfl) (by simp) ?_
      refine AllReadyH.cons rfl (fun K hK => ?_) AllReadyH.nil
      go_simp
      refine hK.out _ _ ?hS7b (fun hHeld => ?rest7b)
      case hS7b => exact ⟨(BB2.out b (lt_of_heapK N1'.out.1.box) N1'.out.1.ne.1.1).trans N1'.out.1.box, (BB2.out _ (lt_of_heapK N1'.out.2.2.1) (by have := N1.out.lt ml (.inr (.inl rfl)); omega)).trans N1'.out.2.2.1, (BB2.out _ (lt_of_heapK N1'.out.2.2.2.1) (by have := N1.out.lt ml (.inr (.inl rfl)); omega)).trans N1'.out.2.2.2.1⟩
      clear hK K
      try simp only [Act.put, List.setIfInBounds_toArray, List.set_cons_zero, List.set_cons_succ, List.getElem_toArray, List.getElem_cons_zero, List.getElem_cons_succ]

      refine wpAnyH_take (i := 8) (v := v0) rfl (by kernel_rfl) (by kernel_rfl) (by kernel_rfl) (fun _ _ _ h => h) (Or.inl ⟨by kernel_rfl, ?hy8b⟩) hHeld ?rest8b
      case hy8b => (intro u hSu; obtain ⟨qf, qg⟩ := net_cells hSu.1; obtain ⟨ql, qm⟩ := lk_cells hSu.2.1; obtain ⟨y0, y1, y2, y3, y4, y5⟩ := msg_cells hSu.2.2; clear hSu; go_simp; try with_reducible rfl)
      try simp only [Act.put, List.setIfInBounds_toArray, List.set_cons_zero, List.set_cons_succ, List.getElem_toArray, List.getElem_cons_zero, List.getElem_cons_succ]
      refine wpAnyH_take (i := 10) (v := goInt st) rfl (by kernel_rfl) (by kernel_rfl) (by kernel_rfl) (fun _ _ _ h => h) (Or.inl ⟨by kernel_rfl, ?hy10b⟩) hHeld ?rest10b
      case hy10b => (intro u hSu; obtain ⟨qf, qg⟩ := net_cells hSu.1; obtain ⟨ql, qm⟩ := lk_cells hSu.2.1; obtain ⟨y0, y1, y2, y3, y4, y5⟩ := msg_cells hSu.2.2; clear hSu; go_simp; try with_reducible rfl)
      try simp only [Act.put, List.setIfInBounds_toArray, List.set_cons_zero, List.set_cons_succ, List.getElem_toArray, List.getElem_cons_zero, List.getElem_cons_succ]

      refine wpAnyH_ready (rs := [9]) (by kernel_rfl) (by simp) ?_
      refine AllReadyH.cons rfl (fun K hK => ?_) AllReadyH.nil
      refine appMw (.tmp 23) (.tmp 25) rfl v0 L rfl (OW.out.kept fun k hk => BB2.out k (by have := (NR.out k hk).2.2.2.1; have := N1'.out.2.2.2.2; omega) (NR.out k hk).2.1) u0.heap.size 1 ⟨mk, mf, mt, mx, my, mpa, mpn, mpc⟩ rfl ((BB2.out _ (lt_of_heapK X1.out) (by have := N1.out.lt ml (.inr (.inl rfl)); omega)).trans X1.out) (by have h1 := HL6.out; rw [HLE.out] at h1; omega) ?_
      intro v3 u3 ho3 hg3 hat3
      obtain ⟨y, rfl⟩ := ho3.hd
      have K3 : Hid (∀ k, k < u1.heap.size → k ≠ ml → (∀ x, H (.inl (mf, mt)) = some x → x.1 ≠ k + 1) → u3.heap[k]? = u1.heap[k]?) := fun k h1 h2 h3 => (hg3.block k (by rw [G12.out.2]; exact h1) (fun e => by
        obtain ⟨_, _, _, _, x, hx, hxk⟩ := NR.out k e.symm
        exact h3 x hx hxk)).trans (BB2.out k h1 h2)
      have KM : u3.heap[ml]? = u2.heap[ml]? := hg3.block ml (by rw [G12.out.2]; exact lt_of_same1 N1'.out.1.sl.lt) (fun e => (NR.out ml e.symm).2.1 rfl)
      obtain ⟨u4, hs4, hsc4, hg4⟩ := HST.out u3 y KM
      have ZS : Hid (u1.heap.size ≤ u3.heap.size) := by have := hg3.size; rw [G12.out.2] at this; exact this
      have HAT : Hid (∀ k, y.1 = k + 1 → (∃ x, H (.inl (mf, mt)) = some x ∧ x.1 = k + 1) ∨ w.heap.size ≤ k) := fun k hk => by
        rcases hat3 with e | e
        · rw [hv_own.2 hk] at e
          exact .inl (NR.out k e.symm).2.2.2.2
        · rw [hv_own.2 hk] at e
          have e2 := Option.some.inj e
          have := N1'.out.2.2.2.2
          exact .inr (by rw [G12.out.2] at e2; omega)
      have O3 : Hid (OwnM u3 0 (hv y) (L ++ [⟨mk, mf, mt, mx, my, mpa, mpn, mpc⟩])) := ho3
      have S4 : Hid (ScL u4 ml (N + 1) (fun q => if q = (mf, mt) then some y else H (.inl q)) ∧ u3.grownBy u4 (some ml)) := ⟨hsc4, hg4⟩
      refine hK.out _ _ ?hS9b (fun hHeld => ?rest9b)
      case hS9b =>
        have hwl : ∀ k, k = w.heap.size ∨ k = w.heap.size + 1 → u3.heap[k]? = u1.heap[k]? := fun k hk => K3.out k (by have := N1'.out.2.2.2.2; omega) (by have := N1.out.lt ml (.inr (.inl rfl)); omega) (fun x hx hxk => by have := N1.out.lt k (.inr (.inr (.inr ⟨_, x, hx, hxk⟩))); omega)
        exact ⟨(K3.out b (lt_of_heapK N1'.out.1.box) N1'.out.1.ne.1.1 (fun x hx hxk => (N1'.out.1.ne.2 _ x b hx hxk).1 rfl)).trans N1'.out.1.box, (hwl _ (.inr rfl)).trans N1'.out.2.2.1, (hwl _ (.inl rfl)).trans N1'.out.2.2.2.1⟩
      clear hK K
      try simp only [Act.put, List.setIfInBounds_toArray, List.set_cons_zero, List.set_cons_succ, List.getElem_toArray, List.getElem_cons_zero, List.getElem_cons_succ]
      have EV : Hid (u4.os = w.os ∧ u4.tape = w.tape ∧ u4.output = w.output ∧ w.heap.size ≤ u4.heap.size) := by
        have b1 := N1'.out.2.1
        have g1 := G12.out.1
        have z4 := S4.out.2.size
        have z3 := ZS.out
        have z1 := N1'.out.2.2.2.2
        exact ⟨S4.out.2.os.trans (hg3.os.trans (g1.os.trans b1.os)), S4.out.2.tape.trans (hg3.tape.trans (g1.tape.trans b1.tape)), S4.out.2.output.trans (hg3.output.trans (g1.output.trans b1.output)), by omega⟩
      have E4 : Hid (∀ k, k < w.heap.size → k ≠ ml → (∀ x, H (.inl (mf, mt)) = some x → x.1 ≠ k + 1) → u4.heap[k]? = w.heap[k]?) := fun k h1 h2 h3 => by
        have z1 := N1'.out.2.2.2.2
        have z3 := ZS.out
        exact (S4.out.2.block k (by omega) (fun e => h2 (Option.some.inj e))).trans ((K3.out k (by omega) h2 h3).trans (N1'.out.2.1.block k h1))
      have hs5 : (Instr.entryStore 58 (.map (some ml)) (.int .i64 (st : Int)) (hv y)).run Try.prog u3 = .ok () u4 := hs4
      clear hat3 ho3 hg3 hsc4 hg4 KM hen hs4
      refine wpAnyH_ready (rs := [11]) (by kernel_rfl) (by simp) ?_
      refine AllReadyH.cons rfl (fun K hK => ?_) AllReadyH.nil
      go_simp
      refine hK.out _ _ ?hS11b (fun hHeld => ?rest11b)
      case hS11b => (
        have hwl : ∀ k, k < u1.heap.size → k ≠ ml → (∀ x, H (.inl (mf, mt)) = some x → x.1 ≠ k + 1) → u4.heap[k]? = u1.heap[k]? := fun k h1 h2 h3 => (S4.out.2.block k (by have := ZS.out; omega) (fun e => h2 (Option.some.inj e))).trans (K3.out k h1 h2 h3)
        have hw2 : ∀ k, k = w.heap.size ∨ k = w.heap.size + 1 → u4.heap[k]? = u1.heap[k]? := fun k hk => hwl k (by have := N1'.out.2.2.2.2; omega) (by have := N1.out.lt ml (.inr (.inl rfl)); omega) (fun x hx hxk => by have := N1.out.lt k (.inr (.inr (.inr ⟨_, x, hx, hxk⟩))); omega)
        exact ⟨(hwl b (lt_of_heapK N1'.out.1.box) N1'.out.1.ne.1.1 (fun x hx hxk => (N1'.out.1.ne.2 _ x b hx hxk).1 rfl)).trans N1'.out.1.box, (hw2 _ (.inr rfl)).trans N1'.out.2.2.1, (hw2 _ (.inl rfl)).trans N1'.out.2.2.2.1⟩)
      clear hK K
      try simp only [Act.put, List.setIfInBounds_toArray, List.set_cons_zero, List.set_cons_succ, List.getElem_toArray, List.getElem_cons_zero, List.getElem_cons_succ]
      refine wpAnyH_done (by kernel_rfl) ?_ _
      refine NoPanic.normal ?_

      have FIN : Hid (Net u4 (NF b ml mb (updH H (.inl (mf, mt)) y)) b (N + 1) (putT T (.inl (mf, mt)) (T (.inl (mf, mt)) ++ [⟨mk, mf, mt, mx, my, mpa, mpn, mpc⟩])) ∧ Step F (NF b ml mb (updH H (.inl (mf, mt)) y)) w u4) := by
        have hlt := N1.out.lt
        have nrow : ∀ k, k = b ∨ k = mb → ∀ x, H (.inl (mf, mt)) = some x → x.1 ≠ k + 1 := fun k hk x hx hxk => by
          have q := N1.out.ne.2 _ x k hx hxk
          rcases hk with e | e
          · exact q.1 e
          · exact q.2.2 e
        refine ⟨⟨ml, mb, _, Nt.put N1.out (.inl (mf, mt)) y _ (E4.out b (hlt b (.inl rfl)) N1.out.ne.1.1 (nrow b (.inl rfl))) ?_ ?_ ?_ ?_ HAT.out, fun k => Iff.rfl⟩, ⟨⟨EV.out.1, EV.out.2.1, EV.out.2.2.1, EV.out.2.2.2, fun k hk hF => ?_⟩, fun k hk => ?_⟩⟩
        · have e : (fun q : Int × Int => updH H (.inl (mf, mt)) y (.inl q)) = fun q => if q = (mf, mt) then some y else H (.inl q) := by
            funext q
            unfold updH
            by_cases h : q = (mf, mt)
            · rw [if_pos h, if_pos (by rw [h])]
            · rw [if_neg h, if_neg (fun e => h (Sum.inl.inj e))]
          rw [e]
          exact S4.out.1
        · have e : (fun q : Int => updH H (.inl (mf, mt)) y (.inr q)) = fun q => H (.inr q) := by
            funext q
            unfold updH
            rw [if_neg (fun e => by cases e)]
          rw [e]
          exact (N1.out.sb.blk (E4.out mb (hlt mb (.inr (.inr (.inl rfl)))) (fun e => N1.out.ne.1.2.2 e.symm) (nrow mb (.inr rfl)))).mono (by omega)
        · rw [HLE.out]
          refine O3.out.kept fun k hk => S4.out.2.block k (O3.out.own k hk).2 (fun e => ?_)
          have e2 := Option.some.inj e
          rcases HAT.out k (hv_own.1 hk) with ⟨x, hx, hxk⟩ | h
          · exact (N1.out.ne.2 _ x k hx hxk).2.1 e2
          · have := hlt ml (.inr (.inl rfl)); omega
        · intro q x k hq hx hxk
          refine E4.out k (hlt k (.inr (.inr (.inr ⟨q, x, hx, hxk⟩)))) (N1.out.ne.2 q x k hx hxk).2.1 (fun x2 hx2 hxk2 => hq (N1.out.ap q _ x x2 k hx hx2 hxk hxk2))
        · have hn : ¬ NF b ml mb H k := fun e => hF ((HF.out k).2 e)
          exact E4.out k hk (fun e => hn (.inr (.inl e))) (fun x hx hxk => hn (.inr (.inr (.inr ⟨_, x, hx, hxk⟩))))
        · rcases nf_upd HAT.out hk with h | h
          · exact .inl ((HF.out k).2 h)
          · exact .inr h
      go_wp2_with fail
      go_ret
      exact ⟨rfl, _, FIN.out⟩

end Go.Proofs.Ytokakhlkanakcaa
