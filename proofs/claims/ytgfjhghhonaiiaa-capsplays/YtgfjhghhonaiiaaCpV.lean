/- The document's table: Tenant, Set, Tenants, Roots (gen_crt.py). -/
import Derived.Test.YtgfjhghhonaiiaaCpU
namespace Go.Proofs.Ytgfjhghhonaiiaa
open Go.ChangeShapes Go.WideShapes Go.ChangeAt Go.RowKit Go.Deep Go.Maps
set_option linter.unusedVariables false
set_option linter.unusedSimpArgs false
theorem tnl_at (x : Tn) (s : Nat) (hs : s < 7) : (tnl x)[2 + s]? = some (.bool (x.f s)) := by
  rcases (by omega : s = 0 ∨ s = 1 ∨ s = 2 ∨ s = 3 ∨ s = 4 ∨ s = 5 ∨ s = 6) with rfl | rfl | rfl | rfl | rfl | rfl | rfl <;> rfl
def Tn.set (x : Tn) (s : Nat) (v : Bool) : Tn := ⟨x.i, x.q, fun r => if r = s then v else x.f r⟩
theorem tnl_set (x : Tn) (s : Nat) (v : Bool) (hs : s < 7) : tnl (x.set s v) = (tnl x).set (2 + s) (.bool v) := by
  rcases (by omega : s = 0 ∨ s = 1 ∨ s = 2 ∨ s = 3 ∨ s = 4 ∨ s = 5 ∨ s = 6) with rfl | rfl | rfl | rfl | rfl | rfl | rfl <;> rfl
theorem tns_set (l : List Tn) (k : Nat) (x x' : Tn) (h : l[k]? = some x) (t : Nat) (ht : t < 9) (v : Value) (hx : tnl x' = (tnl x).set t v) : (tns l).set (k * 9 + t) v = tns (l.set k x') := by
  induction l generalizing k with
  | nil => simp at h
  | cons y l ih =>
    cases k with
    | zero =>
      simp at h
      subst h
      simp only [tns, List.set_cons_zero, List.flatMap_cons, Nat.zero_mul, Nat.zero_add]
      rw [List.set_append_left _ _ (by simp [tnl]; omega), hx]
    | succ k =>
      simp only [List.getElem?_cons_succ] at h
      have := ih k h
      simp only [tns, List.set_cons_succ, List.flatMap_cons] at this ⊢
      rw [List.set_append_right _ _ (by simp [tnl]; omega), ← this]
      congr 2
      simp [tnl]
      omega
theorem Lk.snoc {l : List Tn} {Q : Qm} {G : Gm} (h : Lk l Q G) (hg : Gd Q G) (i q : Int) (hq : Q i = none) : Lk (l ++ [⟨i, q, fun _ => false⟩]) (fun k => if k = i then some q else Q k) G := by
  have hni : ∀ (k : Nat) x, l[k]? = some x → x.i ≠ i := fun k x hx e => by
    have := (h.inl k x hx).1
    rw [e, hq] at this
    cases this
  have hsp : ∀ (k : Nat) x, (l ++ [(⟨i, q, fun _ => false⟩ : Tn)])[k]? = some x → (l[k]? = some x) ∨ (k = l.length ∧ x = ⟨i, q, fun _ => false⟩) := fun k x hx => by
    by_cases hk : k < l.length
    · rw [List.getElem?_append_left hk] at hx
      exact .inl hx
    · rw [List.getElem?_append_right (by omega)] at hx
      have : k - l.length = 0 := by
        have := (List.getElem?_eq_some_iff.1 hx).1
        simp at this
        omega
      rw [this] at hx
      simp at hx
      exact .inr ⟨by omega, hx.symm⟩
  refine ⟨fun k x hx => ?_, fun j hj => ?_, fun a b x y hx hy e => ?_⟩
  · rcases hsp k x hx with hx | ⟨_, rfl⟩
    · exact ⟨by rw [if_neg (hni k x hx)]; exact (h.inl k x hx).1, (h.inl k x hx).2⟩
    · refine ⟨if_pos rfl, fun r _ _ => ?_⟩
      rw [g_none hg hq]
      rfl
  · have h1 : i ≠ j := hj l.length ⟨i, q, fun _ => false⟩ (by simp)
    show (if j = i then some q else Q j) = none
    rw [if_neg (Ne.symm h1)]
    refine h.all j fun k x hx => hj k x ?_
    rw [List.getElem?_append_left (List.getElem?_eq_some_iff.1 hx).1]
    exact hx
  · rcases hsp a x hx with hx | ⟨rfl, rfl⟩ <;> rcases hsp b y hy with hy | ⟨rfl, rfl⟩
    · exact h.one a b x y hx hy e
    · exact absurd e (hni a x hx)
    · exact absurd e.symm (hni b y hy)
    · rfl
theorem Lk.put {l : List Tn} {Q : Qm} {G G' : Gm} (h : Lk l Q G) (k : Nat) (x : Tn) (hk : l[k]? = some x) (s : Nat) (v : Bool) (hs : (G' (x.i, (s : Int))).isSome = v) (ho : ∀ p, p ≠ (x.i, (s : Int)) → G' p = G p) : Lk (l.set k (x.set s v)) Q G' := by
  have hsp : ∀ (j : Nat) y, (l.set k (x.set s v))[j]? = some y → (j ≠ k ∧ l[j]? = some y) ∨ (j = k ∧ y = x.set s v) := fun j y hy => by
    by_cases e : j = k
    · subst e
      rw [List.getElem?_set_self (List.getElem?_eq_some_iff.1 hk).1] at hy
      exact .inr ⟨rfl, (Option.some.inj hy).symm⟩
    · rw [List.getElem?_set_ne (Ne.symm e)] at hy
      exact .inl ⟨e, hy⟩
  refine ⟨fun j y hy => ?_, fun i hi => ?_, fun a b y z hy hz e => ?_⟩
  · rcases hsp j y hy with ⟨e, hy⟩ | ⟨rfl, rfl⟩
    · refine ⟨(h.inl j y hy).1, fun r h1 h2 => ?_⟩
      rw [ho _ (fun e2 => e (h.one j k y x hy hk (by injection e2)))]
      exact (h.inl j y hy).2 r h1 h2
    · refine ⟨(h.inl j x hk).1, fun r h1 h2 => ?_⟩
      show (G' (x.i, (r : Int))).isSome = if r = s then v else x.f r
      by_cases e : r = s
      · subst e
        rw [if_pos rfl]
        exact hs
      · rw [if_neg e, ho _ (fun e2 => e (by injection e2 with _ e3; omega))]
        exact (h.inl j x hk).2 r h1 h2
  · refine h.all i fun j y hy => ?_
    by_cases e : j = k
    · subst e
      rw [hk] at hy
      cases hy
      exact hi j (x.set s v) (List.getElem?_set_self (List.getElem?_eq_some_iff.1 hk).1)
    · exact hi j y (by rw [List.getElem?_set_ne (Ne.symm e)]; exact hy)
  · have red : ∀ (j : Nat) y, (l.set k (x.set s v))[j]? = some y → ∃ y0, l[j]? = some y0 ∧ y0.i = y.i := fun j y hy => by
      rcases hsp j y hy with ⟨_, hy⟩ | ⟨rfl, rfl⟩
      · exact ⟨y, hy, rfl⟩
      · exact ⟨x, hk, rfl⟩
    obtain ⟨y0, a1, a2⟩ := red a y hy
    obtain ⟨z0, b1, b2⟩ := red b z hz
    exact h.one a b y0 z0 a1 b1 (a2.trans (e.trans b2.symm))
set_option maxRecDepth 100000 in
set_option maxHeartbeats 4000000 in
theorem rtenant_bad (w : World) (F : Nat → Prop) (b N : Nat) (Q : Qm) (G : Gm) (h : Rt w F b N Q G) (hN : N ≤ 1000000) (i q : Int) (hbad : i < 1 ∨ 8 < i ∨ q < 0) : Calls Try.prog 26 #[.pointer (some ⟨b, 0, none⟩), .int .i64 i, .int .i64 q] w fun e w' => e = .returned (.int .i64 2) ∧ w' = w := by
  by_cases b0 : i < 1
  · have d0 : decide (i < 1) = true := decide_eq_true b0
    clear h hbad b0
    go_enter Try.func26, Try.ntmps26
    go_wp2_with fail
    go_ret
    exact ⟨rfl, rfl⟩
  have d0 : decide (i < 1) = false := decide_eq_false b0
  by_cases b1 : 8 < i
  · have d1 : decide (8 < i) = true := decide_eq_true b1
    clear h hbad b0 b1
    go_enter Try.func26, Try.ntmps26
    go_wp2_with fail
    go_ret
    exact ⟨rfl, rfl⟩
  have d1 : decide (8 < i) = false := decide_eq_false b1
  by_cases b2 : q < 0
  · have d2 : decide (q < 0) = true := decide_eq_true b2
    clear h hbad b0 b1 b2
    go_enter Try.func26, Try.ntmps26
    go_wp2_with fail
    go_ret
    exact ⟨rfl, rfl⟩
  have d2 : decide (q < 0) = false := decide_eq_false b2
  exfalso
  omega
set_option maxRecDepth 100000 in
set_option maxHeartbeats 4000000 in
theorem rtenant_is (w : World) (F : Nat → Prop) (b N : Nat) (Q : Qm) (G : Gm) (h : Rt w F b N Q G) (hN : N ≤ 1000000) (i q : Int) (hq9 : InI q) : Calls Try.prog 26 #[.pointer (some ⟨b, 0, none⟩), .int .i64 i, .int .i64 q] w fun e w' => e = .returned (.int .i64 (tnE Q i q)) ∧ ∃ F', Rt w' F' b (N + 1) (tnQ Q i q) G ∧ Step F F' w w' := by
  unfold tnQ tnE
  by_cases hb : i < 1 ∨ 8 < i ∨ q < 0
  · simp only [if_pos hb]
    rw [if_neg (by omega)]
    refine (rtenant_bad w F b N Q G h hN i q hb).mono ?_
    rintro e w' ⟨rfl, rfl⟩
    exact ⟨rfl, F, h.more (Nat.le_succ _), Step.refl _ _⟩
  simp only [if_neg hb]
  have d0 : decide (i < 1) = false := by rw [decide_eq_false_iff_not]; omega
  have d1 : decide (8 < i) = false := by rw [decide_eq_false_iff_not]; omega
  have d2 : decide (q < 0) = false := by rw [decide_eq_false_iff_not]; omega
  have hgd := h.gd
  obtain ⟨hq, kf⟩ | ⟨k, x, g, n, c, l, hbx, ho, hgb, hF, hL, hl, hnN, hk, hx, hxi, hq, kf⟩ := rfind_by w F b N Q G h hN i
  · rw [hq]
    simp only [Option.isSome_none, Bool.false_eq_true, if_false, if_true]
    have hgd2 : Gd (fun k => if k = i then some q else Q k) G := by
      have := hgd.tn i q hq9
      unfold tnQ at this
      rwa [if_pos (by unfold tnE; rw [if_neg hb, hq]; rfl)] at this
    have KF : Hid (∀ W, W = w → Calls Try.prog 36 #[.pointer (some ⟨b, 0, none⟩), .int .i64 i] W fun e w' => e = .returned (.int .i64 (-1)) ∧ w' = W) := fun W hW => by rw [hW]; exact kf
    obtain ⟨v, l, h1, h2, h3, h4, h5, h6, h7⟩ := h
    obtain ⟨a, c, rfl, hin, -⟩ := h2.slice
    have c0 := rt_cell h1
    have HH : Hid (w.heap[b]? = some (.cells #[.slice a l.length c] 28) ∧ OwnT w 0 (.slice a l.length c) l ∧ Value.ownBlock (.slice a l.length c) ≠ some b ∧ (∀ k, F k ↔ k = b ∨ Value.ownBlock (.slice a l.length c) = some k) ∧ l.length ≤ N ∧ N ≤ 1000000) := ⟨h1, h2, h3, h4, h6, hN⟩
    have HL : Hid (Lk (l ++ [⟨i, q, fun _ => false⟩]) (fun k => if k = i then some q else Q k) G ∧ Gd (fun k => if k = i then some q else Q k) G) := ⟨h5.snoc h7 i q hq, hgd2⟩
    obtain ⟨nl, hnl⟩ : ∃ nl, nl = l.length := ⟨_, rfl⟩
    rw [← hnl] at c0 HH
    have HN : Hid (nl = l.length) := hnl
    clear h1 h2 h3 h4 h5 h6 h7 hin hgd2 hgd hq hb hnl kf hN hq9
    have O1 : Hid (OwnT (w.alloc (.cells (tnC ⟨i, q, fun _ => false⟩) 70)) 0 (.slice a nl c) l ∧ (w.alloc (.cells (tnC ⟨i, q, fun _ => false⟩) 70)).heap[w.heap.size]? = some (.cells (tnC ⟨i, q, fun _ => false⟩) 70)) := ⟨HH.out.2.1.keep (below1 _ _), heap_alloc_new w _⟩
    unfold tnC at O1
    simp only at O1
    go_enter Try.func26, Try.ntmps26
    go_wp2_with fail
    refine (KF.out _ rfl).mono ?_
    rintro e w1 ⟨rfl, hw⟩
    obtain rfl := hw.symm
    clear hw
    go_wp2_with (at_builtin; refine append_tn rfl (.tmp 25) (.tmp 29) rfl 0 (.slice a nl c) l rfl O1.out.1 w.heap.size 1 ⟨i, q, fun _ => false⟩ rfl O1.out.2 (by have := HH.out.2.2.2.2; have := HN.out; omega) (Nat.zero_le _) ?_; intro v5 u5 o5 g5 l5; have O5 : Hid (OwnT u5 0 v5 (l ++ [⟨i, q, fun _ => false⟩]) ∧ (w.alloc (.cells (tnC ⟨i, q, fun _ => false⟩) 70)).grownBy u5 (Value.ownBlock (.slice a nl c)) ∧ (v5.ownBlock = Value.ownBlock (.slice a nl c) ∨ v5.ownBlock = some (w.heap.size + 1))) := ⟨o5, g5, by simpa using l5⟩; have b5 : u5.heap[b]? = some (.cells #[.slice a nl c] 28) := (g5.block b (by have := lt_of_heapK HH.out.1; simp; omega) (fun e => HH.out.2.2.1 e.symm)).trans ((Below.heap_alloc _ _ _ (lt_of_heapK HH.out.1)).trans HH.out.1); obtain ⟨a5, c5, rfl, -⟩ := o5.slice; obtain ⟨n5, hn5⟩ : ∃ n5, n5 = (l ++ [(⟨i, q, fun _ => false⟩ : Tn)]).length := ⟨_, rfl⟩; rw [← hn5] at O5; rw [← hn5]; have f5 : u5.frozen? ⟨b, 0, none⟩ = false := (by simp [World.frozen?, b5]); have e5 := rt_cell b5; have HB5 : Hid (u5.heap[b]? = some (.cells #[.slice a nl c] 28)) := b5; have HN5 : Hid (n5 = (l ++ [(⟨i, q, fun _ => false⟩ : Tn)]).length) := hn5; clear o5 g5 l5 b5 hn5)
    go_ret
    have hbn : Value.ownBlock (.slice a5 n5 c5) ≠ some b := by
      intro e
      rcases O5.out.2.2 with h | h
      · exact HH.out.2.2.1 (h.symm.trans e)
      · have h9 := h.symm.trans e
        have := lt_of_heapK HH.out.1
        simp at h9
        omega
    refine ⟨rfl, fun k => k = b ∨ Value.ownBlock (.slice a5 n5 c5) = some k, ⟨.slice a5 n5 c5, _, ?_, ?_, hbn, fun k => Iff.rfl, HL.out.1, ?_, HL.out.2⟩, ⟨⟨?_, ?_, ?_, ?_, ?_⟩, ?_⟩⟩
    · exact heap_setCell_same u5 b 0 _ _ _ HB5.out
    · exact O5.out.1.kept fun k hk => set_off u5 b 0 k _ (fun e => hbn (by rw [hk, e]))
    · have := HH.out.2.2.2.2.1
      have := HN.out
      simp
      omega
    · exact O5.out.2.1.os
    · exact O5.out.2.1.tape
    · exact O5.out.2.1.output
    · have := O5.out.2.1.size
      simp at this ⊢
      omega
    · intro k hk hF
      have n1 : k ≠ b := fun e => hF ((HH.out.2.2.2.1 k).2 (.inl e))
      rw [set_off u5 b 0 k _ n1, O5.out.2.1.block k (by simp; omega) (fun e => hF ((HH.out.2.2.2.1 k).2 (.inr e.symm)))]
      exact Below.heap_alloc _ _ _ hk
    · intro k hk
      rcases hk with rfl | hk
      · exact .inl ((HH.out.2.2.2.1 k).2 (.inl rfl))
      · rcases O5.out.2.2 with h | h
        · exact .inl ((HH.out.2.2.2.1 k).2 (.inr (h.symm.trans hk)))
        · have h9 := h.symm.trans hk
          simp at h9
          exact .inr (by omega)
  · rw [hq]
    simp only [Option.isSome_some, if_true]
    rw [if_neg (by omega)]
    have HR : Hid (Rt w F b N Q G) := h
    have KF : Hid (∀ W, W = w → Calls Try.prog 36 #[.pointer (some ⟨b, 0, none⟩), .int .i64 i] W fun e w' => e = .returned (.int .i64 (k : Int)) ∧ w' = W) := fun W hW => by rw [hW]; exact kf
    have k1 : decide (0 ≤ (k : Int)) = true := by rw [decide_eq_true_eq]; omega
    clear h kf hq ho hF hL hl hnN hx hxi hN hbx hgd hb hq9
    go_enter Try.func26, Try.ntmps26
    go_wp2_with fail
    refine (KF.out _ rfl).mono ?_
    rintro e w1 ⟨rfl, hw⟩
    obtain rfl := hw.symm
    clear hw
    go_wp2_with fail
    go_ret
    exact ⟨rfl, F, HR.out.more (Nat.le_succ _), Step.refl _ _⟩
set_option maxRecDepth 100000 in
set_option maxHeartbeats 4000000 in
theorem rset_bad (w : World) (F : Nat → Prop) (b N : Nat) (Q : Qm) (G : Gm) (h : Rt w F b N Q G) (hN : N ≤ 1000000) (i r : Int) (v : Bool) (hbad : i < 1 ∨ 8 < i ∨ r < 1 ∨ 6 < r) : Calls Try.prog 27 #[.pointer (some ⟨b, 0, none⟩), .int .i64 i, .int .i64 r, .bool v] w fun e w' => e = .returned (.int .i64 2) ∧ w' = w := by
  by_cases b0 : i < 1
  · have d0 : decide (i < 1) = true := decide_eq_true b0
    clear h hbad b0
    go_enter Try.func27, Try.ntmps27
    go_wp2_with fail
    go_ret
    exact ⟨rfl, rfl⟩
  have d0 : decide (i < 1) = false := decide_eq_false b0
  by_cases b1 : 8 < i
  · have d1 : decide (8 < i) = true := decide_eq_true b1
    clear h hbad b0 b1
    go_enter Try.func27, Try.ntmps27
    go_wp2_with fail
    go_ret
    exact ⟨rfl, rfl⟩
  have d1 : decide (8 < i) = false := decide_eq_false b1
  by_cases b2 : r < 1
  · have d2 : decide (r < 1) = true := decide_eq_true b2
    clear h hbad b0 b1 b2
    go_enter Try.func27, Try.ntmps27
    go_wp2_with fail
    go_ret
    exact ⟨rfl, rfl⟩
  have d2 : decide (r < 1) = false := decide_eq_false b2
  by_cases b3 : 6 < r
  · have d3 : decide (6 < r) = true := decide_eq_true b3
    clear h hbad b0 b1 b2 b3
    go_enter Try.func27, Try.ntmps27
    go_wp2_with fail
    go_ret
    exact ⟨rfl, rfl⟩
  have d3 : decide (6 < r) = false := decide_eq_false b3
  exfalso
  omega
set_option maxRecDepth 100000 in
set_option maxHeartbeats 4000000 in
theorem rset_is (w : World) (F : Nat → Prop) (b N : Nat) (Q : Qm) (G : Gm) (h : Rt w F b N Q G) (hN : N ≤ 1000000) (i r : Int) (v : Bool) : Calls Try.prog 27 #[.pointer (some ⟨b, 0, none⟩), .int .i64 i, .int .i64 r, .bool v] w fun e w' => e = .returned (.int .i64 (ckE Q i r)) ∧ Rt w' F b N Q (if v then grG Q G i r else rvG Q G i r) ∧ Off F w w' := by
  have hgd := h.gd
  by_cases hb : i < 1 ∨ 8 < i ∨ r < 1 ∨ 6 < r
  · have hc : ckE Q i r = 2 := by unfold ckE; rw [if_pos hb]
    have hG : (if v then grG Q G i r else rvG Q G i r) = G := by
      have e1 : grG Q G i r = G := by unfold grG; rw [if_neg (by rw [hc]; omega)]
      have e2 : rvG Q G i r = G := by unfold rvG; rw [if_neg (by rw [hc]; omega)]
      rw [e1, e2]
      simp
    rw [hc, hG]
    refine (rset_bad w F b N Q G h hN i r v hb).mono ?_
    rintro e w' ⟨rfl, rfl⟩
    exact ⟨rfl, h, Off.refl _ _⟩
  have d0 : decide (i < 1) = false := by rw [decide_eq_false_iff_not]; omega
  have d1 : decide (8 < i) = false := by rw [decide_eq_false_iff_not]; omega
  have d2 : decide (r < 1) = false := by rw [decide_eq_false_iff_not]; omega
  have d3 : decide (6 < r) = false := by rw [decide_eq_false_iff_not]; omega
  obtain ⟨hq, kf⟩ | ⟨k, x, g, n, c, l, hbx, ho, hgb, hF, hL, hl, hnN, hk, hx, hxi, hq, kf⟩ := rfind_by w F b N Q G h hN i
  · have hc : ckE Q i r = 9 := by unfold ckE; rw [if_neg hb, hq]; rfl
    have hG : (if v then grG Q G i r else rvG Q G i r) = G := by
      have e1 : grG Q G i r = G := by unfold grG; rw [if_neg (by rw [hc]; omega)]
      have e2 : rvG Q G i r = G := by unfold rvG; rw [if_neg (by rw [hc]; omega)]
      rw [e1, e2]
      simp
    rw [hc, hG]
    have HR : Hid (Rt w F b N Q G) := h
    have KF : Hid (∀ W, W = w → Calls Try.prog 36 #[.pointer (some ⟨b, 0, none⟩), .int .i64 i] W fun e w' => e = .returned (.int .i64 (-1)) ∧ w' = W) := fun W hW => by rw [hW]; exact kf
    clear h kf hq hgd hb hc hG
    go_enter Try.func27, Try.ntmps27
    go_wp2_with fail
    refine (KF.out _ rfl).mono ?_
    rintro e w1 ⟨rfl, hw⟩
    obtain rfl := hw.symm
    clear hw
    go_wp2_with fail
    go_ret
    exact ⟨rfl, HR.out, Off.refl _ _⟩
  · have hc : ckE Q i r = 0 := by unfold ckE; rw [if_neg hb, hq]; rfl
    obtain ⟨s, rfl⟩ : ∃ s : Nat, r = (s : Int) := ⟨r.toNat, by omega⟩
    have hgd2 : Gd Q (if v then grG Q G i (s : Int) else rvG Q G i (s : Int)) := by cases v <;> simp <;> first | exact hgd.gr i s | exact hgd.rv i s
    have hL2 : Lk (l.set k (x.set s v)) Q (if v then grG Q G i (s : Int) else rvG Q G i (s : Int)) := by
      refine hL.put k x hx s v ?_ fun p hp => ?_
      · rw [hxi]
        have e1 : grG Q G i (s : Int) = fun k => if k = (i, (s : Int)) then some () else G k := by unfold grG; rw [if_pos hc]
        have e2 : rvG Q G i (s : Int) = fun k => if k = (i, (s : Int)) then none else G k := by unfold rvG; rw [if_pos hc]
        rw [e1, e2]
        cases v <;> simp
      · rw [hxi] at hp
        have e1 : grG Q G i (s : Int) = fun k => if k = (i, (s : Int)) then some () else G k := by unfold grG; rw [if_pos hc]
        have e2 : rvG Q G i (s : Int) = fun k => if k = (i, (s : Int)) then none else G k := by unfold rvG; rw [if_pos hc]
        rw [e1, e2]
        cases v <;> simp [hp]
    rw [hc]
    generalize (if v then grG Q G i (s : Int) else rvG Q G i (s : Int)) = G2 at hgd2 hL2 ⊢
    have hc0 := rt_cell hbx
    have hst := World.ownsRow.stored (h := (by unfold OwnT at ho; rw [hl] at ho; exact ho : w.ownsRow 0 70 9 (.slice (some ⟨g, 0, none⟩) n c) n (tns l))) (k * 9 + 2 + s) (.bool v)
    have hca := World.ownsRow.cellAt (h := (by unfold OwnT at ho; rw [hl] at ho; exact ho : w.ownsRow 0 70 9 (.slice (some ⟨g, 0, none⟩) n c) n (tns l))) (k * 9 + 2 + s) (by omega)
    have hfz := World.ownsRow.frozenAt (h := (by unfold OwnT at ho; rw [hl] at ho; exact ho : w.ownsRow 0 70 9 (.slice (some ⟨g, 0, none⟩) n c) n (tns l))) (k * 9 + 2 + s)
    rw [Nat.add_assoc, tns_at l k x hx (2 + s) (by omega), tnl_at x s (by omega), ← Nat.add_assoc] at hca
    rw [Nat.add_assoc (k * 9) 2 s, tns_set l k x (x.set s v) hx (2 + s) (by omega) (.bool v) (tnl_set x s v (by omega)), ← Nat.add_assoc] at hst
    generalize x.f s = yb at hca
    have HST : Hid ((w.setCell ⟨g, k * 9 + 2 + s, none⟩ (.bool v)).ownsRow 0 70 9 (.slice (some ⟨g, 0, none⟩) n c) n (tns (l.set k (x.set s v))) ∧ w.grownBy (w.setCell ⟨g, k * 9 + 2 + s, none⟩ (.bool v)) (some g)) := hst
    have HH : Hid (w.heap[b]? = some (.cells #[.slice (some ⟨g, 0, none⟩) n c] 28) ∧ g ≠ b ∧ (∀ k, F k ↔ k = b ∨ g = k) ∧ l.length = n ∧ n ≤ N) := ⟨hbx, hgb, hF, hl, hnN⟩
    have HL : Hid (Lk (l.set k (x.set s v)) Q G2 ∧ Gd Q G2) := ⟨hL2, hgd2⟩
    have KF : Hid (∀ W, W = w → Calls Try.prog 36 #[.pointer (some ⟨b, 0, none⟩), .int .i64 i] W fun e w' => e = .returned (.int .i64 (k : Int)) ∧ w' = W) := fun W hW => by rw [hW]; exact kf
    have k0 : decide ((k : Int) < 0) = false := by rw [decide_eq_false_iff_not]; omega
    have k2 : (k : Int) < (n : Int) := by omega
    have k3 : k < n := hk
    have s1 : (s : Int) < 7 := by omega
    have s2 : s < 7 := by omega
    clear h kf hq ho hF hL hl hnN hx hxi hN hbx hgd hb hc hst hL2 hgd2 hk
    go_enter Try.func27, Try.ntmps27
    go_wp2_with fail
    refine (KF.out _ rfl).mono ?_
    rintro e w1 ⟨rfl, hw⟩
    obtain rfl := hw.symm
    clear hw
    go_wp2_with fail
    go_ret
    refine ⟨rfl, ⟨.slice (some ⟨g, 0, none⟩) n c, _, ?_, ?_, ?_, ?_, HL.out.1, ?_, HL.out.2⟩, (Off.refl F w).grown HST.out.2 (fun q hq => by cases hq; exact .inl ((HH.out.2.2.1 g).2 (.inr rfl)))⟩
    · exact (set_off w g _ b _ (Ne.symm HH.out.2.1)).trans HH.out.1
    · show World.ownsRow _ _ _ _ _ _ _
      rw [List.length_set, HH.out.2.2.2.1]
      exact HST.out.1
    · intro e
      simp [Value.ownBlock] at e
      exact HH.out.2.1 e
    · intro q
      rw [HH.out.2.2.1 q]
      simp [Value.ownBlock]
    · rw [List.length_set]
      have := HH.out.2.2.2
      omega
set_option maxRecDepth 100000 in
set_option maxHeartbeats 4000000 in
theorem rtenants_is (w : World) (F : Nat → Prop) (b N : Nat) (Q : Qm) (G : Gm) (h : Rt w F b N Q G) (hN : N ≤ 1000000) : Calls Try.prog 31 #[.pointer (some ⟨b, 0, none⟩)] w fun e w' => ∃ v, e = .returned v ∧ OwnZ w' w.heap.size v (sel (fun k => (Q k).isSome) 8) ∧ Below w.heap.size w w' := by
  have KQ : Hid (∀ W k, Below w.heap.size w W → InI k → Calls Try.prog 36 #[.pointer (some ⟨b, 0, none⟩), .int .i64 k] W fun e w' => (∃ z : Int, e = .returned (.int .i64 z) ∧ decide (0 ≤ z) = (Q k).isSome) ∧ w' = W) := fun W k hW hk => by
    obtain ⟨hq, kf⟩ | ⟨k2, x, g, n, c, l, hb, ho, hgb, hF, hL, hl, hnN, hk2, hx, hxi, hq, kf⟩ := rfind_by W F b N Q G (h.keep hW) hN k
    · refine kf.mono ?_
      rintro e w' ⟨rfl, rfl⟩
      exact ⟨⟨_, rfl, by rw [hq]; rfl⟩, rfl⟩
    · refine kf.mono ?_
      rintro e w' ⟨rfl, rfl⟩
      exact ⟨⟨_, rfl, by rw [hq]; simp⟩, rfl⟩
  clear h hN
  have HO : Hid (OwnZ w w.heap.size (.slice none 0 0) []) := OwnZ.nil _ _
  obtain ⟨T, hT⟩ : ∃ T : Int → Bool, T = (fun k => (Q k).isSome) := ⟨_, rfl⟩
  rw [← hT]
  have HT : Hid (T = (fun k => (Q k).isSome)) := hT
  clear hT
  go_enter Try.func31, Try.ntmps31
  go_wp2_with fail
  go_loopg [3, 4] 8 (fun g V i wr => ∃ j : Nat, j ≤ 8 ∧ g = 8 - j ∧ i = .int .i64 ((j : Int) + 1) ∧ Hid (OwnZ wr w.heap.size V (sel T j) ∧ Below w.heap.size w wr))
  case atStart => exact ⟨0, Nat.zero_le _, rfl, rfl, HO.out, Below.refl _ _⟩
  obtain ⟨j, hj, rfl, rfl, RW⟩ := hrel
  generalize u3 = V1 at *
  by_cases hlt : j < 8
  · have j1 : decide ((j : Int) + 1 ≤ 8) = true := by rw [decide_eq_true_eq]; omega
    have ri : IntKind.i64.wrap ((j : Int) + 1 + 1) = (j : Int) + 1 + 1 := by rw [IntKind.wrap_i64]; omega
    have hsl : (sel T j).length ≤ j := sel_len T j
    have N2 : Hid ((sel T j).length + 1 ≤ 17592186044416) := by show _ ≤ _; omega
    clear hsl
    have hjI : InI ((j : Int) + 1) := by unfold InI; omega
    obtain ⟨x, hx⟩ : ∃ x : Int, x = (j : Int) + 1 := ⟨_, rfl⟩
    have HX : Hid (x = (j : Int) + 1) := hx
    go_wp2_with fail
    refine (KQ.out _ _ RW.out.2 hjI).mono ?_
    rintro e w1 ⟨⟨z, rfl, hz⟩, hw⟩
    obtain rfl := hw.symm
    clear hw hjI
    have R1 : Hid (OwnZ wr w.heap.size V1 (sel T j) ∧ Below w.heap.size w wr) := RW.out
    cases ht : T ((j : Int) + 1) with
    | false =>
      have E : Hid (sel T (j + 1) = sel T j) := by show sel T j ++ _ = _; rw [ht]; simp
      have et : (fun k => (Q k).isSome) ((j : Int) + 1) = false := by rw [← HT.out]; exact ht
      simp only at et
      rw [et] at hz
      clear ht et hx
      go_wp2_with fail
      go_roundg (8 - (j + 1))
      case measure => omega
      case rel => exact ⟨j + 1, by omega, rfl, by push_cast; rfl, by rw [E.out]; exact R1.out.1, R1.out.2⟩
    | true =>
      have E : Hid (sel T (j + 1) = sel T j ++ [(j : Int) + 1]) := by show sel T j ++ _ = _; rw [ht]; simp
      have et : (fun k => (Q k).isSome) ((j : Int) + 1) = true := by rw [← HT.out]; exact ht
      simp only at et
      rw [et] at hz
      clear ht et hx
      have O2 : Hid (OwnZ (wr.alloc (.cells #[.int .i64 ((j : Int) + 1)] 3)) w.heap.size V1 (sel T j) ∧ InZ (wr.alloc (.cells #[.int .i64 ((j : Int) + 1)] 3)) (some ⟨wr.heap.size, 0, none⟩) [(j : Int) + 1] ∧ w.heap.size ≤ (wr.alloc (.cells #[.int .i64 ((j : Int) + 1)] 3)).heap.size ∧ Below w.heap.size w (wr.alloc (.cells #[.int .i64 ((j : Int) + 1)] 3))) := ⟨R1.out.1.keep (below1 _ _), inZ_one _ _, by have := R1.out.2.size; simp; omega, R1.out.2.alloc (by exact R1.out.2.size) _⟩
      go_wp2_with (at_builtin; refine append_ints rfl (.tmp 13) (.tmp 15) rfl w.heap.size V1 (sel T j) rfl O2.out.1 (some ⟨wr.heap.size, 0, none⟩) 1 1 [(j : Int) + 1] rfl rfl O2.out.2.1 (fun e => by cases e) N2.out O2.out.2.2.1 ?_; intro v5 u5 o5 g5; have O5 : Hid (OwnZ u5 w.heap.size v5 (sel T (j + 1)) ∧ Below w.heap.size w u5) := ⟨by rw [E.out]; exact o5, O2.out.2.2.2.grown g5 O2.out.2.2.1 (fun k hk => (O2.out.1.own k hk).1)⟩; clear o5 g5)
      go_roundg (8 - (j + 1))
      case measure => omega
      case rel => exact ⟨j + 1, by omega, rfl, by push_cast; rfl, O5.out⟩
  · have j1 : decide ((j : Int) + 1 ≤ 8) = false := by rw [decide_eq_false_iff_not]; omega
    obtain rfl : j = 8 := by omega
    go_wp2_with fail
    go_ret
    exact ⟨V1, rfl, RW.out⟩
set_option maxRecDepth 100000 in
set_option maxHeartbeats 4000000 in
theorem rroots_is (w : World) (F : Nat → Prop) (b N : Nat) (Q : Qm) (G : Gm) (h : Rt w F b N Q G) (hN : N ≤ 1000000) (i : Int) : Calls Try.prog 32 #[.pointer (some ⟨b, 0, none⟩), .int .i64 i] w fun e w' => ∃ v, e = .returned v ∧ OwnZ w' w.heap.size v (sel (fun k => (G (i, k)).isSome) 6) ∧ Below w.heap.size w w' := by
  have KQ : Hid (∀ W k, Below w.heap.size w W → Calls Try.prog 29 #[.pointer (some ⟨b, 0, none⟩), .int .i64 i, .int .i64 k] W fun e w' => e = .returned (.bool (G (i, k)).isSome) ∧ w' = W) := fun W k hW => rmay_is W F b N Q G (h.keep hW) hN i k
  clear h hN
  have HO : Hid (OwnZ w w.heap.size (.slice none 0 0) []) := OwnZ.nil _ _
  obtain ⟨T, hT⟩ : ∃ T : Int → Bool, T = (fun k => (G (i, k)).isSome) := ⟨_, rfl⟩
  rw [← hT]
  have HT : Hid (T = (fun k => (G (i, k)).isSome)) := hT
  clear hT
  go_enter Try.func32, Try.ntmps32
  go_wp2_with fail
  go_loopg [5, 6] 6 (fun g V i wr => ∃ j : Nat, j ≤ 6 ∧ g = 6 - j ∧ i = .int .i64 ((j : Int) + 1) ∧ Hid (OwnZ wr w.heap.size V (sel T j) ∧ Below w.heap.size w wr))
  case atStart => exact ⟨0, Nat.zero_le _, rfl, rfl, HO.out, Below.refl _ _⟩
  obtain ⟨j, hj, rfl, rfl, RW⟩ := hrel
  generalize u5 = V1 at *
  by_cases hlt : j < 6
  · have j1 : decide ((j : Int) + 1 ≤ 6) = true := by rw [decide_eq_true_eq]; omega
    have ri : IntKind.i64.wrap ((j : Int) + 1 + 1) = (j : Int) + 1 + 1 := by rw [IntKind.wrap_i64]; omega
    have hsl : (sel T j).length ≤ j := sel_len T j
    have N2 : Hid ((sel T j).length + 1 ≤ 17592186044416) := by show _ ≤ _; omega
    clear hsl
    have hjI : InI ((j : Int) + 1) := by unfold InI; omega
    obtain ⟨x, hx⟩ : ∃ x : Int, x = (j : Int) + 1 := ⟨_, rfl⟩
    have HX : Hid (x = (j : Int) + 1) := hx
    go_wp2_with fail
    refine (KQ.out _ _ RW.out.2).mono ?_
    rintro e w1 ⟨rfl, hw⟩
    obtain rfl := hw.symm
    clear hw hjI
    have R1 : Hid (OwnZ wr w.heap.size V1 (sel T j) ∧ Below w.heap.size w wr) := RW.out
    cases ht : T ((j : Int) + 1) with
    | false =>
      have E : Hid (sel T (j + 1) = sel T j) := by show sel T j ++ _ = _; rw [ht]; simp
      have et : (fun k => (G (i, k)).isSome) ((j : Int) + 1) = false := by rw [← HT.out]; exact ht
      simp only at et
      rw [et]
      clear ht et hx
      go_wp2_with fail
      go_roundg (6 - (j + 1))
      case measure => omega
      case rel => exact ⟨j + 1, by omega, rfl, by push_cast; rfl, by rw [E.out]; exact R1.out.1, R1.out.2⟩
    | true =>
      have E : Hid (sel T (j + 1) = sel T j ++ [(j : Int) + 1]) := by show sel T j ++ _ = _; rw [ht]; simp
      have et : (fun k => (G (i, k)).isSome) ((j : Int) + 1) = true := by rw [← HT.out]; exact ht
      simp only at et
      rw [et]
      clear ht et hx
      have O2 : Hid (OwnZ (wr.alloc (.cells #[.int .i64 ((j : Int) + 1)] 3)) w.heap.size V1 (sel T j) ∧ InZ (wr.alloc (.cells #[.int .i64 ((j : Int) + 1)] 3)) (some ⟨wr.heap.size, 0, none⟩) [(j : Int) + 1] ∧ w.heap.size ≤ (wr.alloc (.cells #[.int .i64 ((j : Int) + 1)] 3)).heap.size ∧ Below w.heap.size w (wr.alloc (.cells #[.int .i64 ((j : Int) + 1)] 3))) := ⟨R1.out.1.keep (below1 _ _), inZ_one _ _, by have := R1.out.2.size; simp; omega, R1.out.2.alloc (by exact R1.out.2.size) _⟩
      go_wp2_with (at_builtin; refine append_ints rfl (.tmp 15) (.tmp 17) rfl w.heap.size V1 (sel T j) rfl O2.out.1 (some ⟨wr.heap.size, 0, none⟩) 1 1 [(j : Int) + 1] rfl rfl O2.out.2.1 (fun e => by cases e) N2.out O2.out.2.2.1 ?_; intro v5 u5 o5 g5; have O5 : Hid (OwnZ u5 w.heap.size v5 (sel T (j + 1)) ∧ Below w.heap.size w u5) := ⟨by rw [E.out]; exact o5, O2.out.2.2.2.grown g5 O2.out.2.2.1 (fun k hk => (O2.out.1.own k hk).1)⟩; clear o5 g5)
      go_roundg (6 - (j + 1))
      case measure => omega
      case rel => exact ⟨j + 1, by omega, rfl, by push_cast; rfl, O5.out⟩
  · have j1 : decide ((j : Int) + 1 ≤ 6) = false := by rw [decide_eq_false_iff_not]; omega
    obtain rfl : j = 6 := by omega
    go_wp2_with fail
    go_ret
    exact ⟨V1, rfl, RW.out⟩
end Go.Proofs.Ytgfjhghhonaiiaa
