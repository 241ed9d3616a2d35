/- Deliver. -/
import Derived.Test.YtokakhlkanakcaaWrR
namespace Go.Proofs.Ytokakhlkanakcaa
open Go.ChangeShapes Go.WideShapes Go.ChangeAt Go.RowKit Go.Deep Go.Maps
set_option linter.unusedVariables false
set_option linter.unusedSimpArgs false
/-- a message is put behind a place's -/
theorem net_app {w u3 u4 : World} {F : Nat → Prop} {b N ml mb z : Nat} {H : Pl → Option Hd} {T : Pl → List Mv} (h : Nt w b N ml mb H T) (hF : ∀ k, F k ↔ NF b ml mb H k) (p : Pl) (y : Hd) (l : List Mv) (hz : w.heap.size ≤ z)
    (hK : ∀ k, k < w.heap.size → (∀ x, H p = some x → x.1 ≠ k + 1) → u3.heap[k]? = w.heap[k]?) (hev : u3.os = w.os ∧ u3.tape = w.tape ∧ u3.output = w.output ∧ w.heap.size ≤ u3.heap.size)
    (hrow : OwnM u3 0 (hv y) l) (hat : ∀ k, y.1 = k + 1 → (∃ x, H p = some x ∧ x.1 = k + 1) ∨ z ≤ k)
    (hsl : ScL u4 ml (N + 1) (fun q => updH H p y (.inl q))) (hsb : ScB u4 mb (N + 1) (fun q => updH H p y (.inr q))) (mm : Nat) (hmm : mm = ml ∨ mm = mb) (hg : u3.grownBy u4 (some mm)) :
    Net u4 (NF b ml mb (updH H p y)) b (N + 1) (putT T p l) ∧ Step F (NF b ml mb (updH H p y)) w u4 := by
  have hlt := h.lt
  have hmmN : NF b ml mb H mm := hmm.elim (fun e => .inr (.inl e)) (fun e => .inr (.inr (.inl e)))
  have hat2 : ∀ k, y.1 = k + 1 → (∃ x, H p = some x ∧ x.1 = k + 1) ∨ w.heap.size ≤ k := fun k hk => (hat k hk).elim .inl (fun e => .inr (Nat.le_trans hz e))
  have E : ∀ k, k < w.heap.size → k ≠ mm → (∀ x, H p = some x → x.1 ≠ k + 1) → u4.heap[k]? = w.heap[k]? := fun k h1 h2 h3 => (hg.block k (Nat.lt_of_lt_of_le h1 hev.2.2.2) (fun e => h2 (Option.some.inj e))).trans (hK k h1 h3)
  have nrow : ∀ x, H p = some x → x.1 ≠ b + 1 := fun x hx hxk => (h.ne.2 p x b hx hxk).1 rfl
  refine ⟨⟨ml, mb, _, Nt.put h p y l (E b (hlt b (.inl rfl)) (fun e => hmm.elim (fun q => h.ne.1.1 (e.trans q)) (fun q => h.ne.1.2.1 (e.trans q))) nrow) hsl hsb ?_ ?_ hat2, fun k => Iff.rfl⟩, ⟨⟨hg.os.trans hev.1, hg.tape.trans hev.2.1, hg.output.trans hev.2.2.1, Nat.le_trans hev.2.2.2 hg.size, fun k hk hn => ?_⟩, fun k hk => ?_⟩⟩
  · refine hrow.kept fun k hk => hg.block k (hrow.own k hk).2 (fun e => ?_)
    have e2 := Option.some.inj e
    rcases hat2 k (hv_own.1 hk) with ⟨x, hx, hxk⟩ | h1
    · have q := h.ne.2 p x k hx hxk
      exact hmm.elim (fun r => q.2.1 (e2.trans r)) (fun r => q.2.2 (e2.trans r))
    · have := hlt mm hmmN; omega
  · intro q x k hq hx hxk
    have q2 := h.ne.2 q x k hx hxk
    exact E k (hlt k (.inr (.inr (.inr ⟨q, x, hx, hxk⟩)))) (fun e => hmm.elim (fun r => q2.2.1 (e.trans r)) (fun r => q2.2.2 (e.trans r))) (fun x2 hx2 hxk2 => hq (h.ap q p x x2 k hx hx2 hxk hxk2))
  · have hn2 : ¬ NF b ml mb H k := fun e => hn ((hF k).2 e)
    exact E k hk (fun e => hn2 (e ▸ hmmN)) (fun x hx hxk => hn2 (.inr (.inr (.inr ⟨p, x, hx, hxk⟩))))
  · rcases nf_upd hat2 hk with h | h
    · exact .inl ((hF k).2 h)
    · exact .inr h
set_option maxRecDepth 100000 in
set_option maxHeartbeats 8000000 in
theorem deliver_yes (w : World) (F : Nat → Prop) (b N : Nat) (T : Pl → List Mv) (h : Net w F b N T) (hN : N < 1000000000) (f t : Int) (i : Nat) (m : Mv) (hm : (T (.inl (f, t)))[i]? = some m) (hl : (T (.inl (f, t))).length ≤ 64) (hb : (T (.inr t)).length < 64) (hf : InI f) (ht : InI t) :
    Calls Try.prog 20 #[.pointer (some ⟨b, 0, none⟩), .int .i64 f, .int .i64 t, .int .i64 (i : Int)] w fun e w' => e = .returned (.int .i64 0) ∧ ∃ F', Net w' F' b (N + 1 + 1) (putT (putT T (.inl (f, t)) (outL (T (.inl (f, t))) i)) (.inr t) (T (.inr t) ++ [m])) ∧ Step F F' w w' := by
  have KF : Hid (Calls Try.prog 31 #[.pointer (some ⟨b, 0, none⟩), .int .i64 f, .int .i64 t, .int .i64 (i : Int)] w fun e w' => e = .returned (.tuple #[.agg (mC m), .int .i64 0]) ∧ Below w.heap.size w w') := find_yes w F b N T h f t i m hm hf ht
  have KLo : Hid (∀ W, Net W F b N T → Calls Try.prog 32 #[.pointer (some ⟨b, 0, none⟩), .int .i64 f, .int .i64 t, .int .i64 (i : Int)] W fun e w' => e = .returned (.tuple #[]) ∧ ∃ F', Net w' F' b (N + 1) (putT T (.inl (f, t)) (outL (T (.inl (f, t))) i)) ∧ Step F F' W w') := fun W hW => lose_is W F b N T hW hN f t i (List.getElem?_eq_some_iff.1 hm).1 hl hf ht
  have H0 : Hid (Net w F b N T) := h
  have HT : Hid (InI t ∧ (T (.inr t)).length < 64) := ⟨ht, hb⟩
  have HTT : Hid (putT T (.inl (f, t)) (outL (T (.inl (f, t))) i) (.inr t) = T (.inr t)) := by show _ = _; unfold putT; rw [if_neg (fun e => by cases e)]
  obtain ⟨mk, mf, mt, mx, my, mpa, mpn, mpc⟩ := m
  unfold mC at KF
  simp only at KF
  clear h hm hl hb hf ht
  go_enter Try.func20, Try.ntmps20
  go_wp2_with fail
  refine KF.out.mono ?_
  rintro e w1 ⟨rfl, hb1⟩
  have hb1' : Below w.heap.size w (w1.alloc (.cells #[.int .i64 mk, .int .i64 mf, .int .i64 mt, .int .i64 mx, .bool my, .slice mpa mpn mpc] 31)) := hb1.trans ((below1 w1 _).mono hb1.size)
  have B1 : Hid (Below w.heap.size w (w1.alloc (.cells #[.int .i64 mk, .int .i64 mf, .int .i64 mt, .int .i64 mx, .bool my, .slice mpa mpn mpc] 31)) ∧ w.heap.size ≤ w1.heap.size) := ⟨hb1', hb1.size⟩
  obtain ⟨ml, mb, H, n1, hF1⟩ := H0.out.keep hb1'
  have X1 : Hid ((w1.alloc (.cells #[.int .i64 mk, .int .i64 mf, .int .i64 mt, .int .i64 mx, .bool my, .slice mpa mpn mpc] 31)).heap[w1.heap.size]? = some (.cells #[.int .i64 mk, .int .i64 mf, .int .i64 mt, .int .i64 mx, .bool my, .slice mpa mpn mpc] 31)) := heap_alloc_new _ _
  obtain ⟨c0, c1⟩ := net_cells n1.box
  obtain ⟨aq, cq, hh, _, hlc, hc9, _⟩ := n1.hd (.inr t)
  have hlk := n1.sb.look t HT.out.1
  rw [hh] at hlk
  obtain ⟨nl, hnl⟩ : ∃ nl, (T (.inr t)).length = nl := ⟨_, rfl⟩
  have hnl6 : nl < 64 := by rw [← hnl]; exact HT.out.2
  rw [hnl] at hlk
  have KFu : Hid (∀ W, Calls Try.prog 44 #[.slice aq nl cq] W fun e w' => e = .returned (.bool false) ∧ w' = W) := fun W => by
    have k := full_is W aq nl cq (by omega)
    rw [decide_eq_false (by omega)] at k
    exact k
  clear hb1 hb1' n1 hF1 hh hlc hc9 hnl
  go_wp2_with fail
  refine (KFu.out _).mono ?_
  rintro e w' ⟨rfl, hw⟩
  obtain rfl := hw.symm
  clear hw hlk c0 c1
  go_wp2_with fail
  refine (KLo.out _ (H0.out.keep B1.out.1)).mono ?_
  rintro e w2 ⟨rfl, F2, hn2, hs2⟩
  have Z1 : (w1.alloc (.cells #[.int .i64 mk, .int .i64 mf, .int .i64 mt, .int .i64 mx, .bool my, .slice mpa mpn mpc] 31)).heap.size = w1.heap.size + 1 := by simp
  have X2 : Hid (w2.heap[w1.heap.size]? = some (.cells #[.int .i64 mk, .int .i64 mf, .int .i64 mt, .int .i64 mx, .bool my, .slice mpa mpn mpc] 31)) := (hs2.off.block _ (by rw [Z1]; omega) (fun e => by have q1 := H0.out.lt _ e; have q2 := B1.out.2; omega)).trans X1.out
  have ST2 : Hid (Step F F2 w w2) := (Step.below B1.out.1).trans hs2
  have ZW : Hid (w.heap.size ≤ w2.heap.size) := ST2.out.off.size
  have NX : Hid (∃ ml mb H, Nt w2 b (N + 1) ml mb H (putT T (.inl (f, t)) (outL (T (.inl (f, t))) i)) ∧ ∀ k, F2 k ↔ NF b ml mb H k) := hn2
  have NG : Hid (¬ F2 w1.heap.size) := fun e => by
    rcases hs2.sub _ e with q | q
    · have q1 := H0.out.lt _ q; have q2 := B1.out.2; omega
    · rw [Z1] at q; omega
  obtain ⟨g0, hg0⟩ : ∃ g0, w1.heap.size = g0 := ⟨_, rfl⟩
  rw [hg0] at X2 NG ⊢
  clear hn2 hs2 Z1 X1 B1 KLo KFu KF hg0
  obtain ⟨T2, hT2⟩ : ∃ T2, putT T (.inl (f, t)) (outL (T (.inl (f, t))) i) = T2 := ⟨_, rfl⟩
  have HT2 : Hid (putT T (.inl (f, t)) (outL (T (.inl (f, t))) i) = T2) := hT2
  rw [hT2] at NX HTT
  clear hT2
  obtain ⟨ml, mb, H, n2, hF2⟩ := NX.out
  have N2 : Hid (Nt w2 b (N + 1) ml mb H T2) := n2
  have HF : Hid (∀ k, F2 k ↔ NF b ml mb H k) := hF2
  have HT64 : Hid ((T2 (.inr t)).length < 64) := by show _ < _; rw [HTT.out]; exact HT.out.2
  obtain ⟨L, hLe⟩ : ∃ L, T2 (.inr t) = L := ⟨_, rfl⟩
  have HLE : Hid (T2 (.inr t) = L) := hLe
  rw [hLe] at HT64
  have HLT : Hid (L = T (.inr t)) := by show _ = _; rw [← hLe, HTT.out]
  clear n2 hF2 NX hLe HTT
  go_wp2_with fail
  refine wp_region_noPanic ?_
  refine wp_region_held_drew (S := (fun W : World => W.heap[b]? = some (.cells #[.map (some ml), .map (some mb)] 61) ∧ W.heap[g0]? = some (.cells #[.int .i64 mk, .int .i64 mf, .int .i64 mt, .int .i64 mx, .bool my, .slice mpa mpn mpc] 31))) (by kernel_rfl) ?hSaa (fun hHeld => ?restaa)
  case hSaa => exact ⟨N2.out.box, X2.out⟩
  case restaa =>

  have NU : Hid (Nt (World.drew w2) b (N + 1) ml mb H T2 ∧ (World.drew w2).heap[g0]? = some (.cells #[.int .i64 mk, .int .i64 mf, .int .i64 mt, .int .i64 mx, .bool my, .slice mpa mpn mpc] 31) ∧ Below w2.heap.size w2 (World.drew w2)) := ⟨N2.out.kept fun _ _ => rfl, X2.out, ⟨rfl, rfl, rfl, Nat.le_refl _, fun _ _ => rfl⟩⟩
  generalize World.drew w2 = u0 at hHeld NU ⊢
  refine wpAnyH_take (i := 0) (v := .pointer (some ⟨b, 0, none⟩)) rfl (by kernel_rfl) (by kernel_rfl) (by kernel_rfl) (fun _ _ _ h => h) (Or.inl ⟨by kernel_rfl, ?hy0a⟩) hHeld ?rest0a
  case hy0a => (intro u hSu; obtain ⟨qf, qg⟩ := net_cells hSu.1; obtain ⟨y0, y1, y2, y3, y4, y5⟩ := msg_cells hSu.2; clear hSu; go_simp; try with_reducible rfl)
  try simp only [Act.put, List.setIfInBounds_toArray, List.set_cons_zero, List.set_cons_succ, List.getElem_toArray, List.getElem_cons_zero]
  refine wpAnyH_take (i := 1) (v := .pointer (some ⟨b, 0, none⟩)) rfl (by kernel_rfl) (by kernel_rfl) (by kernel_rfl) (fun _ _ _ h => h) (Or.inl ⟨by kernel_rfl, ?hy1a⟩) hHeld ?rest1a
  case hy1a => (intro u hSu; obtain ⟨qf, qg⟩ := net_cells hSu.1; obtain ⟨y0, y1, y2, y3, y4, y5⟩ := msg_cells hSu.2; clear hSu; go_simp; try with_reducible rfl)
  try simp only [Act.put, List.setIfInBounds_toArray, List.set_cons_zero, List.set_cons_succ, List.getElem_toArray, List.getElem_cons_zero, List.getElem_cons_succ]
  refine wpAnyH_take (i := 2) (v := .pointer (some ⟨b, 1, none⟩)) rfl (by kernel_rfl) (by kernel_rfl) (by kernel_rfl) (fun _ _ _ h => h) (Or.inl ⟨by kernel_rfl, ?hy2a⟩) hHeld ?rest2a
  case hy2a => (intro u hSu; obtain ⟨qf, qg⟩ := net_cells hSu.1; obtain ⟨y0, y1, y2, y3, y4, y5⟩ := msg_cells hSu.2; clear hSu; go_simp; try with_reducible rfl)
  try simp only [Act.put, List.setIfInBounds_toArray, List.set_cons_zero, List.set_cons_succ, List.getElem_toArray, List.getElem_cons_zero, List.getElem_cons_succ]
  refine wpAnyH_take (i := 3) (v := .map (some mb)) rfl (by kernel_rfl) (by kernel_rfl) (by kernel_rfl) (fun _ _ _ h => h) (Or.inl ⟨by kernel_rfl, ?hy3a⟩) hHeld ?rest3a
  case hy3a => (intro u hSu; obtain ⟨qf, qg⟩ := net_cells hSu.1; obtain ⟨y0, y1, y2, y3, y4, y5⟩ := msg_cells hSu.2; clear hSu; go_simp; try with_reducible rfl)
  try simp only [Act.put, List.setIfInBounds_toArray, List.set_cons_zero, List.set_cons_succ, List.getElem_toArray, List.getElem_cons_zero, List.getElem_cons_succ]
  refine wpAnyH_take (i := 4) (v := .int .i64 t) rfl (by kernel_rfl) (by kernel_rfl) (by kernel_rfl) (fun _ _ _ h => h) (Or.inl ⟨by kernel_rfl, ?hy4a⟩) hHeld ?rest4a
  case hy4a => (intro u hSu; obtain ⟨qf, qg⟩ := net_cells hSu.1; obtain ⟨y0, y1, y2, y3, y4, y5⟩ := msg_cells hSu.2; clear hSu; go_simp; try with_reducible rfl)
  try simp only [Act.put, List.setIfInBounds_toArray, List.set_cons_zero, List.set_cons_succ, List.getElem_toArray, List.getElem_cons_zero, List.getElem_cons_succ]
  refine wpAnyH_take (i := 5) (v := .pointer (some ⟨b, 0, none⟩)) rfl (by kernel_rfl) (by kernel_rfl) (by kernel_rfl) (fun _ _ _ h => h) (Or.inl ⟨by kernel_rfl, ?hy5a⟩) hHeld ?rest5a
  case hy5a => (intro u hSu; obtain ⟨qf, qg⟩ := net_cells hSu.1; obtain ⟨y0, y1, y2, y3, y4, y5⟩ := msg_cells hSu.2; clear hSu; go_simp; try with_reducible rfl)
  try simp only [Act.put, List.setIfInBounds_toArray, List.set_cons_zero, List.set_cons_succ, List.getElem_toArray, List.getElem_cons_zero, List.getElem_cons_succ]
  refine wpAnyH_take (i := 6) (v := .pointer (some ⟨b, 0, none⟩)) rfl (by kernel_rfl) (by kernel_rfl) (by kernel_rfl) (fun _ _ _ h => h) (Or.inl ⟨by kernel_rfl, ?hy6a⟩) hHeld ?rest6a
  case hy6a => (intro u hSu; obtain ⟨qf, qg⟩ := net_cells hSu.1; obtain ⟨y0, y1, y2, y3, y4, y5⟩ := msg_cells hSu.2; clear hSu; go_simp; try with_reducible rfl)
  try simp only [Act.put, List.setIfInBounds_toArray, List.set_cons_zero, List.set_cons_succ, List.getElem_toArray, List.getElem_cons_zero, List.getElem_cons_succ]
  refine wpAnyH_take (i := 7) (v := .pointer (some ⟨b, 1, none⟩)) rfl (by kernel_rfl) (by kernel_rfl) (by kernel_rfl) (fun _ _ _ h => h) (Or.inl ⟨by kernel_rfl, ?hy7a⟩) hHeld ?rest7a
  case hy7a => (intro u hSu; obtain ⟨qf, qg⟩ := net_cells hSu.1; obtain ⟨y0, y1, y2, y3, y4, y5⟩ := msg_cells hSu.2; clear hSu; go_simp; try with_reducible rfl)
  try simp only [Act.put, List.setIfInBounds_toArray, List.set_cons_zero, List.set_cons_succ, List.getElem_toArray, List.getElem_cons_zero, List.getElem_cons_succ]
  refine wpAnyH_take (i := 8) (v := .map (some mb)) rfl (by kernel_rfl) (by kernel_rfl) (by kernel_rfl) (fun _ _ _ h => h) (Or.inl ⟨by kernel_rfl, ?hy8a⟩) hHeld ?rest8a
  case hy8a => (intro u hSu; obtain ⟨qf, qg⟩ := net_cells hSu.1; obtain ⟨y0, y1, y2, y3, y4, y5⟩ := msg_cells hSu.2; clear hSu; go_simp; try with_reducible rfl)
  try simp only [Act.put, List.setIfInBounds_toArray, List.set_cons_zero, List.set_cons_succ, List.getElem_toArray, List.getElem_cons_zero, List.getElem_cons_succ]
  refine wpAnyH_take (i := 9) (v := .int .i64 t) rfl (by kernel_rfl) (by kernel_rfl) (by kernel_rfl) (fun _ _ _ h => h) (Or.inl ⟨by kernel_rfl, ?hy9a⟩) hHeld ?rest9a
  case hy9a => (intro u hSu; obtain ⟨qf, qg⟩ := net_cells hSu.1; obtain ⟨y0, y1, y2, y3, y4, y5⟩ := msg_cells hSu.2; clear hSu; go_simp; try with_reducible rfl)
  try simp only [Act.put, List.setIfInBounds_toArray, List.set_cons_zero, List.set_cons_succ, List.getElem_toArray, List.getElem_cons_zero, List.getElem_cons_succ]
  refine wpAnyH_take (i := 11) (v := .agg #[.int .i64 mk, .int .i64 mf, .int .i64 mt, .int .i64 mx, .bool my, .slice mpa mpn mpc]) rfl (by kernel_rfl) (by kernel_rfl) (by kernel_rfl) (fun _ _ _ h => h) (Or.inl ⟨by kernel_rfl, ?hy11a⟩) hHeld ?rest11a
  case hy11a => (intro u hSu; obtain ⟨qf, qg⟩ := net_cells hSu.1; obtain ⟨y0, y1, y2, y3, y4, y5⟩ := msg_cells hSu.2; clear hSu; go_simp; try with_reducible rfl)
  try simp only [Act.put, List.setIfInBounds_toArray, List.set_cons_zero, List.set_cons_succ, List.getElem_toArray, List.getElem_cons_zero, List.getElem_cons_succ]

  obtain ⟨v0, hv0⟩ : ∃ v0, hv ((H (.inr t)).getD noH) = v0 := ⟨_, rfl⟩
  obtain ⟨u1, hu1⟩ : ∃ u1, u0.alloc (.cells #[.int .i64 mk, .int .i64 mf, .int .i64 mt, .int .i64 mx, .bool my, .slice mpa mpn mpc] 31) = u1 := ⟨_, rfl⟩
  have hb01 : Below u0.heap.size u0 u1 := by rw [← hu1]; exact below1 _ _
  have N3 : Hid (Nt u1 b (N + 1) ml mb H T2 ∧ u1.heap[g0]? = some (.cells #[.int .i64 mk, .int .i64 mf, .int .i64 mt, .int .i64 mx, .bool my, .slice mpa mpn mpc] 31) ∧ Below w2.heap.size w2 u1 ∧ u1.heap[u0.heap.size]? = some (.cells (mC ⟨mk, mf, mt, mx, my, mpa, mpn, mpc⟩) 31)) := ⟨NU.out.1.kept fun k hk => hb01.block k (NU.out.1.lt k hk), (hb01.block _ (lt_of_heapK NU.out.2.1)).trans NU.out.2.1, NU.out.2.2.trans (hb01.mono NU.out.2.2.size), by rw [← hu1]; exact heap_alloc_new u0 _⟩
  have U1E : Hid (u0.alloc (.cells #[.int .i64 mk, .int .i64 mf, .int .i64 mt, .int .i64 mx, .bool my, .slice mpa mpn mpc] 31) = u1) := hu1
  have lk0 := NU.out.1.sb.look t HT.out.1
  have lk1 := N3.out.1.sb.look t HT.out.1
  rw [hv0] at lk0 lk1
  have OW : Hid (OwnM u1 0 v0 L) := by have q := N3.out.1.at (.inr t); rw [HLE.out, hv0] at q; exact q
  have NR : Hid (∀ k, v0.ownBlock = some k → k ≠ b ∧ k ≠ ml ∧ k ≠ mb ∧ k ≠ g0 ∧ k < w2.heap.size ∧ ∃ x, H (.inr t) = some x ∧ x.1 = k + 1) := fun k hk => by
    rw [← hv0] at hk
    cases e : H (.inr t) with
    | none => rw [e] at hk; cases hk
    | some x =>
      rw [e] at hk
      have hx := hv_own.1 hk
      have q := N2.out.ne.2 _ x k e hx
      have hnf : NF b ml mb H k := .inr (.inr (.inr ⟨_, x, e, hx⟩))
      exact ⟨q.1, q.2.1, q.2.2, fun e2 => NG.out (e2 ▸ (HF.out k).2 hnf), N2.out.lt k hnf, x, rfl, hx⟩
  clear hb01 hv0 hu1
  refine wpAnyH_ready (rs := [10, 12]) (by kernel_rfl) (by simp) ?_
  refine AllReadyH.cons rfl (fun K hK => ?_) (AllReadyH.cons rfl (fun K hK => ?_) AllReadyH.nil)
  · go_simp
    refine hK.out _ _ ?hS10b (fun hHeld => ?rest10b)
    case hS10b => exact ⟨NU.out.1.box, NU.out.2.1⟩
    clear hK K
    try simp only [Act.put, List.setIfInBounds_toArray, List.set_cons_zero, List.set_cons_succ, List.getElem_toArray, List.getElem_cons_zero, List.getElem_cons_succ]
    refine wpAnyH_ready (rs := [12]) (by kernel_rfl) (by simp) ?_
    refine AllReadyH.cons rfl (fun K hK => ?_) AllReadyH.nil
    go_simp
    rw [show World.alloc u0 _ = u1 from U1E.out]
    refine hK.out _ _ ?hS12b (fun hHeld => ?rest12b)
    case hS12b => exact ⟨N3.out.1.box, N3.out.2.1⟩
    clear hK K
    try simp only [Act.put, List.setIfInBounds_toArray, List.set_cons_zero, List.set_cons_succ, List.getElem_toArray, List.getElem_cons_zero, List.getElem_cons_succ]
    refine wpAnyH_ready (rs := [13]) (by kernel_rfl) (by simp) ?_
    refine AllReadyH.cons rfl (fun K hK => ?_) AllReadyH.nil
    refine appMw (.tmp 44) (.tmp 46) rfl v0 L rfl OW.out u0.heap.size 1 ⟨mk, mf, mt, mx, my, mpa, mpn, mpc⟩ rfl N3.out.2.2.2 (by have := HT64.out; omega) ?_
    intro v3 u3 ho3 hg3 hat3
    obtain ⟨y, rfl⟩ := ho3.hd
    have K3 : Hid (∀ k, k < u1.heap.size → (∀ x, H (.inr t) = some x → x.1 ≠ k + 1) → u3.heap[k]? = u1.heap[k]?) := fun k h1 h3 => hg3.block k h1 (fun e => by
      obtain ⟨_, _, _, _, _, x, hx, hxk⟩ := NR.out k e.symm
      exact h3 x hx hxk)
    have z1 := N3.out.2.2.1.size
    have kb : ∀ k, k = b ∨ k = ml ∨ k = mb ∨ k = g0 → k < u1.heap.size → u3.heap[k]? = u1.heap[k]? := fun k hk hlt => K3.out k hlt (fun x hx hxk => by
      rcases hk with rfl | rfl | rfl | rfl
      · exact (N2.out.ne.2 _ x _ hx hxk).1 rfl
      · exact (N2.out.ne.2 _ x _ hx hxk).2.1 rfl
      · exact (N2.out.ne.2 _ x _ hx hxk).2.2 rfl
      · exact NG.out ((HF.out _).2 (.inr (.inr (.inr ⟨_, x, hx, hxk⟩)))))
    obtain ⟨u4, hs4, hsc4, hg4⟩ := (N3.out.1.sb.blk (kb mb (.inr (.inr (.inl rfl))) N3.out.1.sb.lt)).store (by omega) t HT.out.1 y
    have hat : ∀ k, y.1 = k + 1 → (∃ x, H (.inr t) = some x ∧ x.1 = k + 1) ∨ w2.heap.size ≤ k := fun k hk => by
      rcases hat3 with e | e
      · rw [hv_own.2 hk] at e
        exact .inl (NR.out k e.symm).2.2.2.2.2
      · rw [hv_own.2 hk] at e
        have e2 := Option.some.inj e
        exact .inr (by omega)
    have FIN : Hid (Net u4 (NF b ml mb (updH H (.inr t) y)) b (N + 1 + 1) (putT T2 (.inr t) (L ++ [⟨mk, mf, mt, mx, my, mpa, mpn, mpc⟩])) ∧ Step F2 (NF b ml mb (updH H (.inr t) y)) w2 u4) := net_app N2.out HF.out (.inr t) y _ (Nat.le_refl _) (fun k h1 h3 => (K3.out k (by omega) h3).trans (N3.out.2.2.1.block k h1)) ⟨hg3.os.trans N3.out.2.2.1.os, hg3.tape.trans N3.out.2.2.1.tape, hg3.output.trans N3.out.2.2.1.output, Nat.le_trans z1 hg3.size⟩ ho3 hat (by rw [upd_rl]; exact (N3.out.1.sl.blk ((hg4.block ml (Nat.lt_of_lt_of_le N3.out.1.sl.lt hg3.size) (fun e => N2.out.ne.1.2.2 (Option.some.inj e))).trans (kb ml (.inr (.inl rfl)) N3.out.1.sl.lt))).mono (by omega)) (by rw [upd_r]; exact hsc4) mb (.inr rfl) hg4
    have S3 : Hid (u3.heap[b]? = some (.cells #[.map (some ml), .map (some mb)] 61) ∧ u3.heap[g0]? = some (.cells #[.int .i64 mk, .int .i64 mf, .int .i64 mt, .int .i64 mx, .bool my, .slice mpa mpn mpc] 31)) := ⟨(kb b (.inl rfl) (lt_of_heapK N3.out.1.box)).trans N3.out.1.box, (kb g0 (.inr (.inr (.inr rfl))) (lt_of_heapK N3.out.2.1)).trans N3.out.2.1⟩
    have S4 : Hid (u4.heap[b]? = some (.cells #[.map (some ml), .map (some mb)] 61) ∧ u4.heap[g0]? = some (.cells #[.int .i64 mk, .int .i64 mf, .int .i64 mt, .int .i64 mx, .bool my, .slice mpa mpn mpc] 31)) := ⟨(hg4.block b (lt_of_heapK S3.out.1) (fun e => N2.out.ne.1.2.1 (Option.some.inj e))).trans S3.out.1, (hg4.block g0 (lt_of_heapK S3.out.2) (fun e => NG.out ((HF.out g0).2 (.inr (.inr (.inl (Option.some.inj e))))))).trans S3.out.2⟩
    clear hat3 ho3 hg3 hsc4 hg4 kb hat K3
    refine hK.out _ _ ?hS13b (fun hHeld => ?rest13b)
    case hS13b => exact S3.out
    clear hK K
    try simp only [Act.put, List.setIfInBounds_toArray, List.set_cons_zero, List.set_cons_succ, List.getElem_toArray, List.getElem_cons_zero, List.getElem_cons_succ]
    refine wpAnyH_ready (rs := [14]) (by kernel_rfl) (by simp) ?_
    refine AllReadyH.cons rfl (fun K hK => ?_) AllReadyH.nil
    go_simp
    refine hK.out _ _ ?hS14b (fun hHeld => ?rest14b)
    case hS14b => exact S4.out
    clear hK K
    try simp only [Act.put, List.setIfInBounds_toArray, List.set_cons_zero, List.set_cons_succ, List.getElem_toArray, List.getElem_cons_zero, List.getElem_cons_succ]
    refine wpAnyH_done (by kernel_rfl) ?_ _
    refine NoPanic.normal ?_
    go_wp2_with fail
    go_ret
    exact ⟨rfl, _, by rw [HT2.out, ← HLT.out]; exact FIN.out.1, ST2.out.trans FIN.out.2⟩
  · go_simp
    rw [show World.alloc u0 _ = u1 from U1E.out]
    refine hK.out _ _ ?hS12c (fun hHeld => ?rest12c)
    case hS12c => exact ⟨N3.out.1.box, N3.out.2.1⟩
    clear hK K
    try simp only [Act.put, List.setIfInBounds_toArray, List.set_cons_zero, List.set_cons_succ, List.getElem_toArray, List.getElem_cons_zero, List.getElem_cons_succ]
    refine wpAnyH_ready (rs := [10]) (by kernel_rfl) (by simp) ?_
    refine AllReadyH.cons rfl (fun K hK => ?_) AllReadyH.nil
    go_simp
    refine hK.out _ _ ?hS10c (fun hHeld => ?rest10c)
    case hS10c => exact ⟨N3.out.1.box, N3.out.2.1⟩
    clear hK K
    try simp only [Act.put, List.setIfInBounds_toArray, List.set_cons_zero, List.set_cons_succ, List.getElem_toArray, List.getElem_cons_zero, List.getElem_cons_succ]
    refine wpAnyH_ready (rs := [13]) (by kernel_rfl) (by simp) ?_
    refine AllReadyH.cons rfl (fun K hK => ?_) AllReadyH.nil
    refine appMw (.tmp 44) (.tmp 46) rfl v0 L rfl OW.out u0.heap.size 1 ⟨mk, mf, mt, mx, my, mpa, mpn, mpc⟩ rfl N3.out.2.2.2 (by have := HT64.out; omega) ?_
    intro v3 u3 ho3 hg3 hat3
    obtain ⟨y, rfl⟩ := ho3.hd
    have K3 : Hid (∀ k, k < u1.heap.size → (∀ x, H (.inr t) = some x → x.1 ≠ k + 1) → u3.heap[k]? = u1.heap[k]?) := fun k h1 h3 => hg3.block k h1 (fun e => by
      obtain ⟨_, _, _, _, _, x, hx, hxk⟩ := NR.out k e.symm
      exact h3 x hx hxk)
    have z1 := N3.out.2.2.1.size
    have kb : ∀ k, k = b ∨ k = ml ∨ k = mb ∨ k = g0 → k < u1.heap.size → u3.heap[k]? = u1.heap[k]? := fun k hk hlt => K3.out k hlt (fun x hx hxk => by
      rcases hk with rfl | rfl | rfl | rfl
      · exact (N2.out.ne.2 _ x _ hx hxk).1 rfl
      · exact (N2.out.ne.2 _ x _ hx hxk).2.1 rfl
      · exact (N2.out.ne.2 _ x _ hx hxk).2.2 rfl
      · exact NG.out ((HF.out _).2 (.inr (.inr (.inr ⟨_, x, hx, hxk⟩)))))
    obtain ⟨u4, hs4, hsc4, hg4⟩ := (N3.out.1.sb.blk (kb mb (.inr (.inr (.inl rfl))) N3.out.1.sb.lt)).store (by omega) t HT.out.1 y
    have hat : ∀ k, y.1 = k + 1 → (∃ x, H (.inr t) = some x ∧ x.1 = k + 1) ∨ w2.heap.size ≤ k := fun k hk => by
      rcases hat3 with e | e
      · rw [hv_own.2 hk] at e
        exact .inl (NR.out k e.symm).2.2.2.2.2
      · rw [hv_own.2 hk] at e
        have e2 := Option.some.inj e
        exact .inr (by omega)
    have FIN : Hid (Net u4 (NF b ml mb (updH H (.inr t) y)) b (N + 1 + 1) (putT T2 (.inr t) (L ++ [⟨mk, mf, mt, mx, my, mpa, mpn, mpc⟩])) ∧ Step F2 (NF b ml mb (updH H (.inr t) y)) w2 u4) := net_app N2.out HF.out (.inr t) y _ (Nat.le_refl _) (fun k h1 h3 => (K3.out k (by omega) h3).trans (N3.out.2.2.1.block k h1)) ⟨hg3.os.trans N3.out.2.2.1.os, hg3.tape.trans N3.out.2.2.1.tape, hg3.output.trans N3.out.2.2.1.output, Nat.le_trans z1 hg3.size⟩ ho3 hat (by rw [upd_rl]; exact (N3.out.1.sl.blk ((hg4.block ml (Nat.lt_of_lt_of_le N3.out.1.sl.lt hg3.size) (fun e => N2.out.ne.1.2.2 (Option.some.inj e))).trans (kb ml (.inr (.inl rfl)) N3.out.1.sl.lt))).mono (by omega)) (by rw [upd_r]; exact hsc4) mb (.inr rfl) hg4
    have S3 : Hid (u3.heap[b]? = some (.cells #[.map (some ml), .map (some mb)] 61) ∧ u3.heap[g0]? = some (.cells #[.int .i64 mk, .int .i64 mf, .int .i64 mt, .int .i64 mx, .bool my, .slice mpa mpn mpc] 31)) := ⟨(kb b (.inl rfl) (lt_of_heapK N3.out.1.box)).trans N3.out.1.box, (kb g0 (.inr (.inr (.inr rfl))) (lt_of_heapK N3.out.2.1)).trans N3.out.2.1⟩
    have S4 : Hid (u4.heap[b]? = some (.cells #[.map (some ml), .map (some mb)] 61) ∧ u4.heap[g0]? = some (.cells #[.int .i64 mk, .int .i64 mf, .int .i64 mt, .int .i64 mx, .bool my, .slice mpa mpn mpc] 31)) := ⟨(hg4.block b (lt_of_heapK S3.out.1) (fun e => N2.out.ne.1.2.1 (Option.some.inj e))).trans S3.out.1, (hg4.block g0 (lt_of_heapK S3.out.2) (fun e => NG.out ((HF.out g0).2 (.inr (.inr (.inl (Option.some.inj e))))))).trans S3.out.2⟩
    clear hat3 ho3 hg3 hsc4 hg4 kb hat K3
    refine hK.out _ _ ?hS13c (fun hHeld => ?rest13c)
    case hS13c => exact S3.out
    clear hK K
    try simp only [Act.put, List.setIfInBounds_toArray, List.set_cons_zero, List.set_cons_succ, List.getElem_toArray, List.getElem_cons_zero, List.getElem_cons_succ]
    refine wpAnyH_ready (rs := [14]) (by kernel_rfl) (by simp) ?_
    refine AllReadyH.cons rfl (fun K hK => ?_) AllReadyH.nil
    go_simp
    refine hK.out _ _ ?hS14c (fun hHeld => ?rest14c)
    case hS14c => exact S4.out
    clear hK K
    try simp only [Act.put, List.setIfInBounds_toArray, List.set_cons_zero, List.set_cons_succ, List.getElem_toArray, List.getElem_cons_zero, List.getElem_cons_succ]
    refine wpAnyH_done (by kernel_rfl) ?_ _
    refine NoPanic.normal ?_
    go_wp2_with fail
    go_ret
    exact ⟨rfl, _, by rw [HT2.out, ← HLT.out]; exact FIN.out.1, ST2.out.trans FIN.out.2⟩


end Go.Proofs.Ytokakhlkanakcaa
