/- Take (gen_wt2.py). -/
import Derived.Test.YtokakhlkanakcaaWtC
namespace Go.Proofs.Ytokakhlkanakcaa
open Go.ChangeShapes Go.WideShapes Go.ChangeAt Go.RowKit Go.Deep Go.Maps
set_option linter.unusedVariables false
set_option linter.unusedSimpArgs false
set_option maxRecDepth 100000 in
set_option maxHeartbeats 8000000 in
theorem take_yes (w : World) (F : Nat → Prop) (b N : Nat) (T : Pl → List Mv) (h : Net w F b N T) (hN : N < 1000000000) (t : Int) (ht : InI t) (mk mf mt mx : Int) (my : Bool) (mpa : Option Addr) (mpn mpc : Nat) (Rr : List Mv) (L : List Pk) (hb : T (.inr t) = ⟨mk, mf, mt, mx, my, mpa, mpn, mpc⟩ :: Rr) (hl : Rr.length ≤ 63) (hs : Sf w F ⟨mk, mf, mt, mx, my, mpa, mpn, mpc⟩ L) :
    Calls Try.prog 25 #[.pointer (some ⟨b, 0, none⟩), .int .i64 t] w fun e w' => ∃ a c M, e = .returned (.tuple #[.agg #[.int .i64 mk, .int .i64 mf, .int .i64 mt, .int .i64 mx, .bool my, .slice a mpn c], .bool true]) ∧ (∃ F', Net w' F' b (N + 1) (putT T (.inr t) Rr) ∧ Step F F' w w') ∧ MsgAt w' a mpn c M ∧ Alike L M := by
  have KN : Hid (∀ W, Below w.heap.size w W → Calls Try.prog 29 #[.pointer (some ⟨b, 0, none⟩)] W fun e w' => e = .returned (.bool false) ∧ w' = W) := fun W hW => none_is W F b N T (h.keep hW)
  obtain ⟨ml, mb, H, h1, hF⟩ := h
  have N1 : Hid (Nt w b N ml mb H T) := h1
  have HF : Hid (∀ k, F k ↔ NF b ml mb H k) := hF
  have HI : Hid (InI t) := ht
  have HS : Hid (Sf w F ⟨mk, mf, mt, mx, my, mpa, mpn, mpc⟩ L) := hs
  have B0 : Hid (Below w.heap.size w (w.alloc (.cells #[.int .i64 0, .int .i64 0, .int .i64 0, .int .i64 0, .bool false, .slice none 0 0] 31))) := below1 _ _
  have HN : Hid (N < 1000000000) := hN
  have HTT : Hid (T (.inr t) = ⟨mk, mf, mt, mx, my, mpa, mpn, mpc⟩ :: Rr) := hb
  have h2 : Nt (w.alloc (.cells #[.int .i64 0, .int .i64 0, .int .i64 0, .int .i64 0, .bool false, .slice none 0 0] 31)) b N ml mb H T := h1.kept fun k hk => B0.out.block k (h1.lt k hk)
  obtain ⟨c0, c1⟩ := net_cells h2.box
  have hlk := h2.sb.look t ht
  obtain ⟨aq, cq, hh, hin, hlc, hc9, hnq⟩ := h2.hd (.inr t)
  rw [hh, hb] at hlk
  rw [hb] at hin
  obtain ⟨nl, hnl⟩ : ∃ nl, nl = (⟨mk, mf, mt, mx, my, mpa, mpn, mpc⟩ :: Rr : List Mv).length := ⟨_, rfl⟩
  rw [← hnl] at hlk
  obtain ⟨g, off, rfl, hg, hc⟩ := hin.at (i := 0) (x := ⟨mk, mf, mt, mx, my, mpa, mpn, mpc⟩) rfl
  obtain ⟨k0, k1, k2, k3, k4, k5⟩ := hc
  simp only [Nat.zero_mul, Nat.add_zero] at k0 k1 k2 k3 k4 k5
  have n0 : ((nl : Int) == 0) = false := by rw [hnl]; simp <;> omega
  have n1 : (0 : Int) < (nl : Int) := by rw [hnl]; simp <;> omega
  have n2 : 0 < nl := by rw [hnl]; simp
  have HNL : Hid (nl = Rr.length + 1 ∧ Rr.length ≤ 63) := ⟨by rw [hnl]; rfl, hl⟩
  have NA : Hid (Nt ((w.alloc (.cells #[.int .i64 0, .int .i64 0, .int .i64 0, .int .i64 0, .bool false, .slice none 0 0] 31)).alloc (.cells #[.int .i64 mk, .int .i64 mf, .int .i64 mt, .int .i64 mx, .bool my, .slice mpa mpn mpc] 31)) b N ml mb H T ∧ ((w.alloc (.cells #[.int .i64 0, .int .i64 0, .int .i64 0, .int .i64 0, .bool false, .slice none 0 0] 31)).alloc (.cells #[.int .i64 mk, .int .i64 mf, .int .i64 mt, .int .i64 mx, .bool my, .slice mpa mpn mpc] 31)).heap[w.heap.size]? = some (.cells #[.int .i64 0, .int .i64 0, .int .i64 0, .int .i64 0, .bool false, .slice none 0 0] 31) ∧ ((w.alloc (.cells #[.int .i64 0, .int .i64 0, .int .i64 0, .int .i64 0, .bool false, .slice none 0 0] 31)).alloc (.cells #[.int .i64 mk, .int .i64 mf, .int .i64 mt, .int .i64 mx, .bool my, .slice mpa mpn mpc] 31)).heap[w.heap.size + 1]? = some (.cells #[.int .i64 mk, .int .i64 mf, .int .i64 mt, .int .i64 mx, .bool my, .slice mpa mpn mpc] 31) ∧ Below w.heap.size w ((w.alloc (.cells #[.int .i64 0, .int .i64 0, .int .i64 0, .int .i64 0, .bool false, .slice none 0 0] 31)).alloc (.cells #[.int .i64 mk, .int .i64 mf, .int .i64 mt, .int .i64 mx, .bool my, .slice mpa mpn mpc] 31)) ∧ ((w.alloc (.cells #[.int .i64 0, .int .i64 0, .int .i64 0, .int .i64 0, .bool false, .slice none 0 0] 31)).alloc (.cells #[.int .i64 mk, .int .i64 mf, .int .i64 mt, .int .i64 mx, .bool my, .slice mpa mpn mpc] 31)).heap.size = w.heap.size + 2) := ⟨h2.kept fun k hk => (below1 (w.alloc (.cells #[.int .i64 0, .int .i64 0, .int .i64 0, .int .i64 0, .bool false, .slice none 0 0] 31)) (.cells #[.int .i64 mk, .int .i64 mf, .int .i64 mt, .int .i64 mx, .bool my, .slice mpa mpn mpc] 31)).block k (h2.lt k hk), (Below.heap_alloc _ _ _ (by simp)).trans (heap_alloc_new w _), heap_two w _ _, B0.out.trans ((below1 _ _).mono B0.out.size), by simp⟩
  clear h1 h2 hF ht hs hh hin hlc hc9 hnq hnl hl hb hg hN
  go_enter Try.func25, Try.ntmps25
  go_wp2_with fail
  refine (KN.out _ B0.out).mono ?_
  rintro e w1 ⟨rfl, hw⟩
  obtain rfl := hw.symm
  clear hw
  go_wp2_with fail
  refine wp_region_noPanic ?_
  refine wp_region_held_drew (S := (fun W : World => W.heap[b]? = some (.cells #[.map (some ml), .map (some mb)] 61))) (by kernel_rfl) ?hSaa (fun hHeld => ?restaa)
  case hSaa => exact NA.out.1.box
  case restaa =>

  have NU : Hid (Nt ((w.alloc (.cells #[.int .i64 0, .int .i64 0, .int .i64 0, .int .i64 0, .bool false, .slice none 0 0] 31)).alloc (.cells #[.int .i64 mk, .int .i64 mf, .int .i64 mt, .int .i64 mx, .bool my, .slice mpa mpn mpc] 31)).drew b N ml mb H T ∧ ((w.alloc (.cells #[.int .i64 0, .int .i64 0, .int .i64 0, .int .i64 0, .bool false, .slice none 0 0] 31)).alloc (.cells #[.int .i64 mk, .int .i64 mf, .int .i64 mt, .int .i64 mx, .bool my, .slice mpa mpn mpc] 31)).drew.heap[w.heap.size]? = some (.cells #[.int .i64 0, .int .i64 0, .int .i64 0, .int .i64 0, .bool false, .slice none 0 0] 31) ∧ ((w.alloc (.cells #[.int .i64 0, .int .i64 0, .int .i64 0, .int .i64 0, .bool false, .slice none 0 0] 31)).alloc (.cells #[.int .i64 mk, .int .i64 mf, .int .i64 mt, .int .i64 mx, .bool my, .slice mpa mpn mpc] 31)).drew.heap[w.heap.size + 1]? = some (.cells #[.int .i64 mk, .int .i64 mf, .int .i64 mt, .int .i64 mx, .bool my, .slice mpa mpn mpc] 31) ∧ Below w.heap.size w ((w.alloc (.cells #[.int .i64 0, .int .i64 0, .int .i64 0, .int .i64 0, .bool false, .slice none 0 0] 31)).alloc (.cells #[.int .i64 mk, .int .i64 mf, .int .i64 mt, .int .i64 mx, .bool my, .slice mpa mpn mpc] 31)).drew ∧ ((w.alloc (.cells #[.int .i64 0, .int .i64 0, .int .i64 0, .int .i64 0, .bool false, .slice none 0 0] 31)).alloc (.cells #[.int .i64 mk, .int .i64 mf, .int .i64 mt, .int .i64 mx, .bool my, .slice mpa mpn mpc] 31)).drew.heap.size = w.heap.size + 2) := ⟨NA.out.1.kept fun _ _ => rfl, NA.out.2.1, NA.out.2.2.1, NA.out.2.2.2.1.trans ⟨rfl, rfl, rfl, Nat.le_refl _, fun _ _ => rfl⟩, NA.out.2.2.2.2⟩
  generalize World.drew ((w.alloc (.cells #[.int .i64 0, .int .i64 0, .int .i64 0, .int .i64 0, .bool false, .slice none 0 0] 31)).alloc (.cells #[.int .i64 mk, .int .i64 mf, .int .i64 mt, .int .i64 mx, .bool my, .slice mpa mpn mpc] 31)) = u0 at hHeld NU ⊢
  clear NA k0 k1 k2 k3 k4 k5 hlk c0 c1
  refine wpAnyH_take (i := 0) (v := .pointer (some ⟨b, 0, none⟩)) rfl (by kernel_rfl) (by kernel_rfl) (by kernel_rfl) (fun _ _ _ h => h) (Or.inl ⟨by kernel_rfl, ?hy0a⟩) hHeld ?rest0a
  case hy0a => (intro u hSu; obtain ⟨qf, qg⟩ := net_cells hSu; clear hSu; go_simp; try with_reducible rfl)
  try simp only [Act.put, List.setIfInBounds_toArray, List.set_cons_zero, List.set_cons_succ, List.getElem_toArray, List.getElem_cons_zero, List.getElem_cons_succ]
  refine wpAnyH_take (i := 1) (v := .pointer (some ⟨b, 0, none⟩)) rfl (by kernel_rfl) (by kernel_rfl) (by kernel_rfl) (fun _ _ _ h => h) (Or.inl ⟨by kernel_rfl, ?hy1a⟩) hHeld ?rest1a
  case hy1a => (intro u hSu; obtain ⟨qf, qg⟩ := net_cells hSu; clear hSu; go_simp; try with_reducible rfl)
  try simp only [Act.put, List.setIfInBounds_toArray, List.set_cons_zero, List.set_cons_succ, List.getElem_toArray, List.getElem_cons_zero, List.getElem_cons_succ]
  refine wpAnyH_take (i := 2) (v := .pointer (some ⟨b, 1, none⟩)) rfl (by kernel_rfl) (by kernel_rfl) (by kernel_rfl) (fun _ _ _ h => h) (Or.inl ⟨by kernel_rfl, ?hy2a⟩) hHeld ?rest2a
  case hy2a => (intro u hSu; obtain ⟨qf, qg⟩ := net_cells hSu; clear hSu; go_simp; try with_reducible rfl)
  try simp only [Act.put, List.setIfInBounds_toArray, List.set_cons_zero, List.set_cons_succ, List.getElem_toArray, List.getElem_cons_zero, List.getElem_cons_succ]
  refine wpAnyH_take (i := 3) (v := .map (some mb)) rfl (by kernel_rfl) (by kernel_rfl) (by kernel_rfl) (fun _ _ _ h => h) (Or.inl ⟨by kernel_rfl, ?hy3a⟩) hHeld ?rest3a
  case hy3a => (intro u hSu; obtain ⟨qf, qg⟩ := net_cells hSu; clear hSu; go_simp; try with_reducible rfl)
  try simp only [Act.put, List.setIfInBounds_toArray, List.set_cons_zero, List.set_cons_succ, List.getElem_toArray, List.getElem_cons_zero, List.getElem_cons_succ]
  refine wpAnyH_take (i := 4) (v := .int .i64 t) rfl (by kernel_rfl) (by kernel_rfl) (by kernel_rfl) (fun _ _ _ h => h) (Or.inl ⟨by kernel_rfl, ?hy4a⟩) hHeld ?rest4a
  case hy4a => (intro u hSu; obtain ⟨qf, qg⟩ := net_cells hSu; clear hSu; go_simp; try with_reducible rfl)
  try simp only [Act.put, List.setIfInBounds_toArray, List.set_cons_zero, List.set_cons_succ, List.getElem_toArray, List.getElem_cons_zero, List.getElem_cons_succ]
  refine wpAnyH_take (i := 5) (v := .pointer (some ⟨b, 0, none⟩)) rfl (by kernel_rfl) (by kernel_rfl) (by kernel_rfl) (fun _ _ _ h => h) (Or.inl ⟨by kernel_rfl, ?hy5a⟩) hHeld ?rest5a
  case hy5a => (intro u hSu; obtain ⟨qf, qg⟩ := net_cells hSu; clear hSu; go_simp; try with_reducible rfl)
  try simp only [Act.put, List.setIfInBounds_toArray, List.set_cons_zero, List.set_cons_succ, List.getElem_toArray, List.getElem_cons_zero, List.getElem_cons_succ]
  refine wpAnyH_take (i := 6) (v := .pointer (some ⟨b, 0, none⟩)) rfl (by kernel_rfl) (by kernel_rfl) (by kernel_rfl) (fun _ _ _ h => h) (Or.inl ⟨by kernel_rfl, ?hy6a⟩) hHeld ?rest6a
  case hy6a => (intro u hSu; obtain ⟨qf, qg⟩ := net_cells hSu; clear hSu; go_simp; try with_reducible rfl)
  try simp only [Act.put, List.setIfInBounds_toArray, List.set_cons_zero, List.set_cons_succ, List.getElem_toArray, List.getElem_cons_zero, List.getElem_cons_succ]
  refine wpAnyH_take (i := 7) (v := .pointer (some ⟨b, 1, none⟩)) rfl (by kernel_rfl) (by kernel_rfl) (by kernel_rfl) (fun _ _ _ h => h) (Or.inl ⟨by kernel_rfl, ?hy7a⟩) hHeld ?rest7a
  case hy7a => (intro u hSu; obtain ⟨qf, qg⟩ := net_cells hSu; clear hSu; go_simp; try with_reducible rfl)
  try simp only [Act.put, List.setIfInBounds_toArray, List.set_cons_zero, List.set_cons_succ, List.getElem_toArray, List.getElem_cons_zero, List.getElem_cons_succ]
  refine wpAnyH_take (i := 8) (v := .map (some mb)) rfl (by kernel_rfl) (by kernel_rfl) (by kernel_rfl) (fun _ _ _ h => h) (Or.inl ⟨by kernel_rfl, ?hy8a⟩) hHeld ?rest8a
  case hy8a => (intro u hSu; obtain ⟨qf, qg⟩ := net_cells hSu; clear hSu; go_simp; try with_reducible rfl)
  try simp only [Act.put, List.setIfInBounds_toArray, List.set_cons_zero, List.set_cons_succ, List.getElem_toArray, List.getElem_cons_zero, List.getElem_cons_succ]
  refine wpAnyH_take (i := 9) (v := .int .i64 t) rfl (by kernel_rfl) (by kernel_rfl) (by kernel_rfl) (fun _ _ _ h => h) (Or.inl ⟨by kernel_rfl, ?hy9a⟩) hHeld ?rest9a
  case hy9a => (intro u hSu; obtain ⟨qf, qg⟩ := net_cells hSu; clear hSu; go_simp; try with_reducible rfl)
  try simp only [Act.put, List.setIfInBounds_toArray, List.set_cons_zero, List.set_cons_succ, List.getElem_toArray, List.getElem_cons_zero, List.getElem_cons_succ]

  obtain ⟨ar, cr, hh, hin, hlc, hc9, _⟩ := NU.out.1.hd (.inr t)
  have hlk := NU.out.1.sb.look t HI.out
  rw [hh, HTT.out] at hlk
  rw [HTT.out] at hin hlc
  obtain ⟨nr, hnr⟩ : ∃ nr, (⟨mk, mf, mt, mx, my, mpa, mpn, mpc⟩ :: Rr : List Mv).length = nr := ⟨_, rfl⟩
  have KW : Hid (Calls Try.prog 47 #[.slice ar nr cr, .int .i64 0] u0 fun e w' => ∃ v, e = .returned v ∧ OwnM w' u0.heap.size v Rr ∧ Below u0.heap.size u0 w') := by
    have hk := without_is u0 ar nr cr _ hnr hin ⟨by rw [← hnr]; exact hlc, hc9⟩ 0 (by rw [← hnr]; simp) (by rw [← hnr]; have := HNL.out.2; simp; omega)
    exact hk
  rw [hnr] at hlk
  clear hh hin hlc hc9 hnr
  refine wpAnyH_ready (rs := [10]) (by kernel_rfl) (by simp) ?_
  refine AllReadyH.cons rfl (fun K hK => ?_) AllReadyH.nil
  go_simp
  refine hK.out _ _ ?hS10a (fun hHeld => ?rest10a)
  case hS10a => exact NU.out.1.box
  clear hK K
  try simp only [Act.put, List.setIfInBounds_toArray, List.set_cons_zero, List.set_cons_succ, List.getElem_toArray, List.getElem_cons_zero, List.getElem_cons_succ]
  refine wpAnyH_ready (rs := [11]) (by kernel_rfl) (by simp) ?_
  refine AllReadyH.cons rfl (fun K hK => ?_) AllReadyH.nil
  go_simp; refine KW.out.mono ?_; rintro e u1 ⟨v1, rfl, ho1, hb1⟩; obtain ⟨y, rfl⟩ := ho1.hd; have O1 : Hid (OwnM u1 u0.heap.size (hv y) Rr ∧ Below w.heap.size w u1 ∧ Below u0.heap.size u0 u1) := ⟨ho1, NU.out.2.2.2.1.trans (hb1.mono NU.out.2.2.2.1.size), hb1⟩; clear ho1 hb1; go_wp2_with fail
  refine hK.out _ _ ?hS11a (fun hHeld => ?rest11a)
  case hS11a => exact (O1.out.2.2.block b (lt_of_heapK NU.out.1.box)).trans NU.out.1.box
  clear hK K
  try simp only [Act.put, List.setIfInBounds_toArray, List.set_cons_zero, List.set_cons_succ, List.getElem_toArray, List.getElem_cons_zero, List.getElem_cons_succ]

  have N2 : Hid (Nt u1 b N ml mb H T) := NU.out.1.kept fun k hk => O1.out.2.2.block k (NU.out.1.lt k hk)
  obtain ⟨u2, hs2, hsc2, hg2⟩ := N2.out.sb.store (by have := HN.out; omega) t HI.out y
  have FIN : Hid (Net u2 (NF b ml mb (updH H (.inr t) y)) b (N + 1) (putT T (.inr t) Rr) ∧ Step F (NF b ml mb (updH H (.inr t) y)) w u2) := net_put N1.out HF.out (.inr t) y Rr O1.out.2.1 (O1.out.1.base NU.out.2.2.2.1.size) (by rw [upd_rl]; exact (N2.out.sl.blk (hg2.block ml N2.out.sl.lt (fun e => N2.out.ne.1.2.2 (Option.some.inj e)))).mono (by omega)) (by rw [upd_r]; exact hsc2) mb (.inr rfl) hg2
  have FN : Hid (∀ k, NF b ml mb (updH H (.inr t) y) k → k < w.heap.size ∨ w.heap.size + 2 ≤ k) := fun k hk => by
    rcases nf_upd (z := w.heap.size + 2) (fun q hq => .inr (by have := (O1.out.1.own q (hv_own.2 hq)).1; have := NU.out.2.2.2.2; omega)) hk with e | e
    · exact .inl (N1.out.lt k e)
    · exact .inr e
  have U2 : Hid (u2.heap[w.heap.size]? = some (.cells #[.int .i64 0, .int .i64 0, .int .i64 0, .int .i64 0, .bool false, .slice none 0 0] 31) ∧ u2.heap[w.heap.size + 1]? = some (.cells #[.int .i64 mk, .int .i64 mf, .int .i64 mt, .int .i64 mx, .bool my, .slice mpa mpn mpc] 31) ∧ w.heap.size + 2 ≤ u2.heap.size ∧ u2.heap[b]? = some (.cells #[.map (some ml), .map (some mb)] 61)) := by
    have q0 := NU.out.2.2.2.2
    have q1 := N1.out.lt mb (.inr (.inr (.inl rfl)))
    have q2 := O1.out.2.2.size
    refine ⟨(hg2.block _ (by omega) (fun e => by have e2 := Option.some.inj e; omega)).trans ((O1.out.2.2.block _ (by omega)).trans NU.out.2.1), (hg2.block _ (by omega) (fun e => by have e2 := Option.some.inj e; omega)).trans ((O1.out.2.2.block _ (by omega)).trans NU.out.2.2.1), by have := hg2.size; omega, (hg2.block b (lt_of_heapK N2.out.box) (fun e => N2.out.ne.1.2.1 (Option.some.inj e))).trans N2.out.box⟩
  clear hsc2 hg2
  refine wpAnyH_ready (rs := [12]) (by kernel_rfl) (by simp) ?_
  refine AllReadyH.cons rfl (fun K hK => ?_) AllReadyH.nil
  go_simp
  refine hK.out _ _ ?hS12a (fun hHeld => ?rest12a)
  case hS12a => exact U2.out.2.2.2
  clear hK K
  try simp only [Act.put, List.setIfInBounds_toArray, List.set_cons_zero, List.set_cons_succ, List.getElem_toArray, List.getElem_cons_zero, List.getElem_cons_succ]
  refine wpAnyH_done (by kernel_rfl) ?_ _
  refine NoPanic.normal ?_

  have S2 : Hid (Sf u2 (NF b ml mb (updH H (.inr t) y)) ⟨mk, mf, mt, mx, my, mpa, mpn, mpc⟩ L) := HS.out.step FIN.out.2
  obtain ⟨k0, k1, k2, k3, k4, k5⟩ := mc_cells (x := ⟨mk, mf, mt, mx, my, mpa, mpn, mpc⟩) U2.out.2.1
  simp only at k0 k1 k2 k3 k4 k5
  clear hHeld
  go_wp2_with fail
  refine (copied_msg u2 mk mf mt mx my mpa mpn mpc L S2.out.1).mono ?_
  rintro e w3 ⟨a3, q3, M3, rfl, x1, x2, x3, x4⟩
  have X3 : Hid (MsgAt w3 a3 mpn q3 M3 ∧ Alike L M3 ∧ (∀ k, PkF a3 M3 k → u2.heap.size ≤ k ∧ k < w3.heap.size) ∧ Below u2.heap.size u2 w3 ∧ w3.heap[w.heap.size]? = some (.cells #[.int .i64 0, .int .i64 0, .int .i64 0, .int .i64 0, .bool false, .slice none 0 0] 31)) := ⟨x1, x2, x3, x4, (x4.block _ (by have := U2.out.2.2.1; omega)).trans U2.out.1⟩
  clear x1 x2 x3 x4 k0 k1 k2 k3 k4 k5
  go_wp2_with (refine wpList_store_row rfl 31 (.tmp 4) (.tmp 41) rfl w.heap.size #[.int .i64 mk, .int .i64 mf, .int .i64 mt, .int .i64 mx, .bool my, .slice a3 mpn q3] rfl rfl 31 _ X3.out.2.2.2.2 size6M rfl (by simp [Value.oneCell']) ?_)
  refine bodyPost_ret (results_mq rfl _ _ w.heap.size _ rfl rfl _ rfl (setRow_heap _ _ _ _ _ _ X3.out.2.2.2.2)) rfl ?_
  have z2 := U2.out.2.2.1
  have hne : ∀ k, k ≠ w.heap.size → (w3.setRow w.heap.size #[.int .i64 mk, .int .i64 mf, .int .i64 mt, .int .i64 mx, .bool my, .slice a3 mpn q3]).heap[k]? = w3.heap[k]? := fun k hk => setRow_other _ _ _ _ hk
  refine ⟨a3, q3, M3, rfl, ⟨_, (FIN.out.1.keep X3.out.2.2.2.1).kept (fun k hk => hne k (fun e => by have := FN.out k hk; omega)), ?_⟩, X3.out.1.kept (by rw [setRow_size]; exact Nat.le_refl _) (fun k hk => hne k (fun e => by have := (X3.out.2.2.1 k hk).1; omega)), X3.out.2.1⟩
  refine ⟨⟨X3.out.2.2.2.1.os.trans FIN.out.2.off.os, X3.out.2.2.2.1.tape.trans FIN.out.2.off.tape, X3.out.2.2.2.1.output.trans FIN.out.2.off.output, by rw [setRow_size]; have := X3.out.2.2.2.1.size; have := FIN.out.2.off.size; omega, fun k hk hF => ?_⟩, FIN.out.2.sub⟩
  rw [hne k (by omega), X3.out.2.2.2.1.block k (by omega)]
  exact FIN.out.2.off.block k hk hF
set_option maxRecDepth 100000 in
set_option maxHeartbeats 8000000 in
theorem take_no (w : World) (F : Nat → Prop) (b N : Nat) (T : Pl → List Mv) (h : Net w F b N T) (hN : N < 1000000000) (t : Int) (ht : InI t) (hb : T (.inr t) = []) :
    Calls Try.prog 25 #[.pointer (some ⟨b, 0, none⟩), .int .i64 t] w fun e w' => e = .returned (.tuple #[.agg #[.int .i64 0, .int .i64 0, .int .i64 0, .int .i64 0, .bool false, .slice none 0 0], .bool false]) ∧ Below w.heap.size w w' := by
  have KN : Hid (∀ W, Below w.heap.size w W → Calls Try.prog 29 #[.pointer (some ⟨b, 0, none⟩)] W fun e w' => e = .returned (.bool false) ∧ w' = W) := fun W hW => none_is W F b N T (h.keep hW)
  obtain ⟨ml, mb, H, h1, hF⟩ := h
  have B0 : Hid (Below w.heap.size w (w.alloc (.cells #[.int .i64 0, .int .i64 0, .int .i64 0, .int .i64 0, .bool false, .slice none 0 0] 31))) := below1 _ _
  have h2 : Nt (w.alloc (.cells #[.int .i64 0, .int .i64 0, .int .i64 0, .int .i64 0, .bool false, .slice none 0 0] 31)) b N ml mb H T := h1.kept fun k hk => B0.out.block k (h1.lt k hk)
  obtain ⟨c0, c1⟩ := net_cells h2.box
  have hlk := h2.sb.look t ht
  obtain ⟨aq, cq, hh, hin, hlc, hc9, hnq⟩ := h2.hd (.inr t)
  rw [hh, hb] at hlk
  simp only [List.length_nil] at hlk
  have hz : (w.alloc (.cells #[.int .i64 0, .int .i64 0, .int .i64 0, .int .i64 0, .bool false, .slice none 0 0] 31)).heap[w.heap.size]? = some (.cells #[.int .i64 0, .int .i64 0, .int .i64 0, .int .i64 0, .bool false, .slice none 0 0] 31) := heap_alloc_new w _
  have HZ : Hid ((w.alloc (.cells #[.int .i64 0, .int .i64 0, .int .i64 0, .int .i64 0, .bool false, .slice none 0 0] 31)).heap[w.heap.size]? = some (.cells #[.int .i64 0, .int .i64 0, .int .i64 0, .int .i64 0, .bool false, .slice none 0 0] 31)) := hz
  clear h1 h2 hF ht hh hin hlc hc9 hnq hb hN hz
  go_enter Try.func25, Try.ntmps25
  go_wp2_with fail
  refine (KN.out _ B0.out).mono ?_
  rintro e w1 ⟨rfl, hw⟩
  obtain rfl := hw.symm
  clear hw
  go_wp2_with fail
  refine bodyPost_ret (results_mq rfl _ _ w.heap.size _ rfl rfl _ rfl HZ.out) rfl ?_
  exact ⟨rfl, B0.out⟩
end Go.Proofs.Ytokakhlkanakcaa
