/- overlay's open. overlay's put. overlay.Merge. -/
import Derived.Test.YtbefmcagpmgkiaaDoorMgMe2
import Derived.Test.YtbefmcagpmgkiaaDoorMgMe8
import Derived.Maps.OwnIn
namespace Go.Proofs.YtbefmcagpmgkiaaDoor
open Go.RowKit Go.Shelf Go.Deep Go.Maps
set_option linter.unusedVariables false
attribute [local go_sem] Oper.semAt_some
/-- what one step of open leaves -/
def opn1 (P : Tx) (T : Tx → Option En) (p : Tx) : Tx → Option En := if p ≠ [] ∧ p ≠ P ∧ ((T p).getD noE).k ≠ 2 then fun q => if q = p then some (p, 2, 0, []) else T q else T
def openT (P : Tx) (T : Tx → Option En) (l : List Tx) : Tx → Option En := l.foldl (opn1 P) T
theorem openT_snoc (P : Tx) (T : Tx → Option En) (l : List Tx) (p : Tx) : openT P T (l ++ [p]) = opn1 P (openT P T l) p := by simp [openT]
theorem wk_len (P : Tx) : (wk P).length ≤ 9 := by
  unfold wk
  split
  · rw [wkL_len]; have := (prt_facts P).2; omega
  · simp
/-- 'm[k] = v', in a fence -/
theorem wpListIn_put_sc {F : Fence} {nF : Nat} {ops : Array Oper} {rest : List Oper} {o : Oper} {a : Act} {Q : Exit → Act → World → Prop} {w : World} (hg : o.guard = none) (m x v : Operand) (hop : o.op = Op.mapUpdate 57 m x v) (b n : Nat) (T : Tx → Option En) (hm : a.eval m = .map (some b)) (hs : Sc w b n T) (hn : n < 4611686018427387904) (p : Tx) (hp : p.length ≤ 140737488355328) (y : En) (hx : a.eval x = .string (tx p)) (hv : a.eval v = ag y)
    (hK : ∀ w', Sc w' b (n + 1) (fun q => if q = p then some y else T q) → w.grownBy w' (some b) → wpListIn F nF Tryd.prog ops Q rest (a.put o.dst undef) w') : wpListIn F nF Tryd.prog ops Q (o :: rest) a w := by
  obtain ⟨D, h1, h2⟩ := hs
  refine wpListIn_mapUpdate_own w hg m x v 57 hop 9 34 lawS Tryd.underlying57 eR b n D hm h1 (by unfold maxLen; omega) _ _ _ hx hv (keyS p hp) _ [] (eR_ag y) ?_
  intro w' ho hgr
  exact hK w' ⟨_, ho, h2.put h1.isMap p y⟩ hgr
set_option maxRecDepth 100000 in
set_option maxHeartbeats 8000000 in
theorem open_is (w : World) (b n : Nat) (T : Tx → Option En) (P : Tx) (hP : P.length ≤ 100000000) (hs : Sc w b n T) (hn : n ≤ 1000000000) :
    Calls Tryd.prog 47 #[.map (some b), .string (tx P)] w fun e w' => e = .returned (.tuple #[]) ∧ Sc w' b (n + 9) (openT P T (wk P)) ∧ w.grownBy w' (some b) := by
  have KM : Hid (∀ w, Calls Tryd.prog 66 #[.string (tx P)] w fun e w' => e = .returned (.func (.func 76) #[] #[.pointer (some ⟨w.heap.size, 0, none⟩)]) ∧ w' = w.alloc (.cells #[.string (tx P)] 9)) := walk_is P
  have fnil : ∀ (b : Array Value) (w : World), (binOp .eql 100 (.func (.func 76) #[] b) .nilFunc).run Tryd.prog w = .ok (.bool false) w := fun b => run_eql_func Tryd.underlying100 _ _ b
  have HS : Hid (Sc w b n T) := hs
  clear hs
  refine (callsIn_wide (n := 3)).1 ?_
  refine callsIn_of_wp_marks Tryd.func47 rfl trivial ?_ rfl
  simp only [Tryd.ntmps47, List.size_toArray, List.length_cons, List.length_nil, Nat.reduceAdd, Nat.reduceSub, Array.replicate_succ, Array.replicate_zero, List.push_toArray, List.append_toArray, List.nil_append, List.cons_append]
  gi_wp2_with fail
  refine ⟨trivial, (callsIn_wide.2 (KM.out _)).mono ?_⟩
  rintro e w3 ⟨rfl, hw3⟩
  obtain rfl := hw3.symm
  clear hw3
  gi_wp2_with fail
  obtain ⟨w3, hw3⟩ : ∃ w3, w3 = ((w.alloc (.cells #[.map (some b)] 57)).alloc (.cells #[.string (tx P)] 9)).alloc (.cells #[.string (tx P)] 9) := ⟨_, rfl⟩
  have hs3 : w3.heap.size = w.heap.size + 3 := by rw [hw3]; simp
  have hlt := HS.out.lt
  have B3 : Hid (Below w.heap.size w w3) := by rw [hw3]; exact (below2 _ _ _).alloc (by simp; omega) _
  have C1 : Hid (w3.heap[w.heap.size]? = some (.cells #[.map (some b)] 57)) := by
    show _ = _
    rw [hw3, Below.heap_alloc _ _ _ (by simp; omega), Below.heap_alloc _ _ _ (by simp)]
    exact heap_alloc_new w _
  have C2 : Hid (w3.heap[w.heap.size + 1]? = some (.cells #[.string (tx P)] 9)) := by
    show _ = _
    rw [hw3, Below.heap_alloc _ _ _ (by simp)]
    exact heap2 _ _ _
  have C3 : Hid (w3.heap[w.heap.size + 1 + 1]? = some (.cells #[.string (tx P)] 9)) := by
    show _ = _
    rw [hw3]
    have := heap_alloc_new ((w.alloc (.cells #[.map (some b)] 57)).alloc (.cells #[.string (tx P)] 9)) (.cells #[.string (tx P)] 9)
    simpa using this
  rw [← hw3]
  have hc3 : w3.cell? ⟨w.heap.size + 1 + 1, 0, none⟩ = some (.string (tx P)) := by simp only [World.cell?, C3.out]; rfl
  clear hw3
  refine wpIn_rangeFunc_ownG rfl (by omega) (gf := 76) (lb := #[.pointer (some ⟨w.heap.size + 1 + 1, 0, none⟩)]) rfl trivial (enters_of Tryd.func76 (by kernel_rfl) rfl)
    (walk1_stops P (by omega) (3 - 1) (by omega) (w.heap.size + 1 + 1) w3 (by omega) hc3) (fun h k => KC.trans h k) (fun W l o o' _ h1 h2 _ => KC.put W l o o' h1 h2) (Below.refl _ _) (fun _ => rfl)
    (fun pre W => Sc W b (n + pre.length) (openT P T (bxs pre)) ∧ w3.grownBy W (some b)) (fun _ _ _ => False)
    (fun s X Y row h hg hr => ⟨h.1.kept hg (fun e => by have := (hr b e.symm).1; omega), h.2.andThen hg (fun j hj => Or.inl (hr j hj).1)⟩)
    (fun c s X Y row h _ _ => h)
    ⟨HS.out.keep B3.out, ⟨rfl, rfl, rfl, Nat.le_refl _, fun _ _ _ => rfl⟩⟩
    (fun x => { tmps := #[.map (some b), .string (tx P), .pointer (some ⟨w.heap.size, 0, none⟩), .pointer (some ⟨w.heap.size + 1, 0, none⟩), .string (tx x.t), .string (tx P), .func (.func 76) #[] #[.pointer (some ⟨w.heap.size + 1 + 1, 0, none⟩)], .string (tx x.t), undef, undef, undef, undef, undef, undef, undef, undef, undef, undef, undef, undef, undef, undef, undef, undef, undef, undef], defers := [] }) ?assign ?body ?done ?stop
  case assign =>
    intro l x W K hK
    gi_wp2
    exact hK
  case body =>
    rintro l pre x W ⟨hsc, hgw⟩ hlt
    have hc1 : W.cell? ⟨w.heap.size, 0, none⟩ = some (.map (some b)) := by
      simp only [World.cell?, hgw.block w.heap.size (by omega) (fun e => by cases e; omega), C1.out]; rfl
    have hc2 : W.cell? ⟨w.heap.size + 1, 0, none⟩ = some (.string (tx P)) := by
      simp only [World.cell?, hgw.block (w.heap.size + 1) (by omega) (fun e => by cases e; omega), C2.out]; rfl
    have SC : Hid (Sc W b (n + pre.length) (openT P T (bxs pre))) := hsc
    have GW : Hid (w3.grownBy W (some b)) := hgw
    have hlook := hsc.look x.t x.2
    have hpl := x.2
    have hfk := field_kind
    have HO : Hid (openT P T (bxs (pre ++ [x])) = opn1 P (openT P T (bxs pre)) x.t) := by show _ = _; rw [bxs_snoc, openT_snoc]; rfl
    have HLn : Hid ((pre ++ [x]).length = pre.length + 1) := by show _ = _; simp
    have hwl := wk_len P
    have SAME : Hid (opn1 P (openT P T (bxs pre)) x.t = openT P T (bxs pre) → ownPostG w3.heap.size KC (fun pre W => Sc W b (n + pre.length) (openT P T (bxs pre)) ∧ w3.grownBy W (some b)) (fun _ _ _ => False) (pre ++ [x]) W .normal { tmps := #[], defers := [] } W) := fun e => ⟨KeepsFrom.refl _ _, fun g o h _ => h, ⟨by rw [HLn.out, HO.out, e]; exact SC.out.mono (by omega), GW.out⟩⟩
    clear hsc hgw
    change x.t.length ≤ _ at hpl
    generalize x.t = p at *
    generalize openT P T (bxs pre) = T1 at *
    have htP := tx_toList P
    by_cases h1 : p = []
    · subst h1
      have e0 : (tx []).toList = [] := tx_toList []
      gi_wp2_with fail
      exact SAME.out (by unfold opn1; rw [if_neg (by simp)])
    have htp := tx_toList p
    by_cases h2 : p = P
    · subst h2
      have h1e : p.isEmpty = false := by simpa using h1
      gi_wp2_with fail
      exact SAME.out (by unfold opn1; rw [if_neg (by simp)])
    have h1e : p.isEmpty = false := by simpa using h1
    have h2e : (p == P) = false := by simpa using h2
    by_cases h3 : ((T1 p).getD noE).k = 2
    · have S2 := SAME.out (by unfold opn1; rw [if_neg (by simp [h3])])
      generalize hz : (T1 p).getD noE = z at *
      obtain ⟨zp, zk, zm, zb⟩ := z
      simp only [ag, En.p, En.k, En.m, En.b] at *
      subst h3
      gi_wp2_with fail
      exact S2
    · have HN : Hid (opn1 P T1 p = fun q => if q = p then some (p, 2, 0, []) else T1 q) := by show _ = _; unfold opn1; rw [if_pos ⟨h1, h2, h3⟩]
      have h3e : (((T1 p).getD noE).k == 2) = false := by simpa using h3
      generalize hz : (T1 p).getD noE = z at *
      obtain ⟨zp, zk, zm, zb⟩ := z
      simp only [ag, En.p, En.k, En.m, En.b] at *
      gi_wp2_with (first | (gi_at_mapUpdate; refine wpListIn_put_sc rfl (.tmp 22) (.tmp 23) (.tmp 25) rfl b (n + pre.length) T1 rfl SC.out (by omega) p hpl (p, 2, 0, []) rfl rfl ?_; intro w4 hs4 hg4; have S4 : Hid (Sc w4 b (n + pre.length + 1) (fun q => if q = p then some (p, 2, 0, []) else T1 q)) := hs4; have G4 : Hid (W.grownBy w4 (some b)) := hg4; clear hs4 hg4))
      refine ⟨KeepsFrom.of_grownBy G4.out (fun j hj => by cases hj; omega), ?_, ?_, ?_⟩
      · intro g o hg ho
        rw [← hg]
        refine G4.out.block g (Array.getElem?_eq_some_iff.1 hg).1 (fun e => ?_)
        cases e
        obtain ⟨D, ⟨es, cl, hb, _⟩, _⟩ := SC.out
        rw [hb] at hg
        cases hg
        cases ho
      · rw [HLn.out, HO.out, HN.out]
        exact S4.out
      · exact GW.out.andThen G4.out (fun j hj => by cases hj; exact Or.inr rfl)
  case done =>
    rintro D ys W hD hys ⟨hsc, hgw⟩ hK
    have SC : Hid (Sc W b (n + ys.length) (openT P T (bxs ys))) := hsc
    have GW : Hid (w3.grownBy W (some b)) := hgw
    have HK : Hid (W.heap[D]? = some (.deferred (some []))) := hK
    clear hsc hgw hK
    gi_wp2_with fail
    refine ⟨by simp, .inl ⟨_, _, rfl, run_takeDeferred HK.out, ?_⟩⟩
    have hy9 : ys.length ≤ 9 := by rw [← bxs_len, hys]; exact wk_len P
    have gD : W.grownBy (W.putObj D (.deferred none)) (some D) := grownBy_putObj' W D _
    refine ⟨_, results_none rfl _ _ _, rfl, ?_, ?_⟩
    · rw [← hys]
      exact (SC.out.kept gD (fun e => by cases e; omega)).mono (by omega)
    · exact ((grown_of_below B3.out).but _).andThen (GW.out.andThen gD (fun j hj => by cases hj; exact Or.inl hD)) (fun j hj => by cases hj; exact Or.inr rfl)
  case stop =>
    rintro D c pre W hD hpre h hK
    exact h.elim
end Go.Proofs.YtbefmcagpmgkiaaDoor
namespace Go.Proofs.YtbefmcagpmgkiaaDoor
open Go.ChangeShapes Go.WideShapes Go.ChangeAt Go.RowKit Go.Deep Go.Maps
set_option linter.unusedVariables false
/-- what is there behind put -/
def putT (T : Tx → Option En) (x : En) : Tx → Option En :=
  if x.k = 3 then dropT T x.p
  else if x.k = 1 then fun q => if q = x.p then some x else dropT (openT x.p T (wk x.p)) x.p q
  else if x.k = 4 then fun q => if q = x.p then some (x.p, 2, x.m, x.b) else dropT (openT x.p T (wk x.p)) x.p q
  else fun q => if q = x.p then some x else openT x.p T (wk x.p) q
theorem grownBy_setAt (w : World) (a : Addr) (u : Value) : w.grownBy (w.setCell a u) (some a.block) :=
  ⟨rfl, rfl, rfl, by simp [World.setCell], fun k _ hk => Below.heap_setCell w a u k (fun e => hk (by rw [e]))⟩
set_option maxRecDepth 100000 in
set_option maxHeartbeats 8000000 in
theorem put_is (w : World) (b n : Nat) (T : Tx → Option En) (x : En) (hx : x.p.length ≤ 100000000) (hs : Sc w b n T) (hn : n ≤ 1000000000) :
    Calls Tryd.prog 27 #[.map (some b), ag x] w fun e w' => e = .returned (.tuple #[]) ∧ Sc w' b (n + 10) (putT T x) ∧ w.grownBy w' (some b) := by
  obtain ⟨p, k, m, B⟩ := x
  have KD : Hid (∀ (w : World) (n : Nat) (T : Tx → Option En), Sc w b n T → Calls Tryd.prog 46 #[.map (some b), .string (tx p)] w fun e w' => e = .returned (.tuple #[]) ∧ Sc w' b n (dropT T p) ∧ w.grownBy w' (some b)) := fun w n T h => drop_is w b n T p (Nat.le_trans hx (by omega)) h
  have KO : Hid (∀ (w : World), Sc w b n T → Calls Tryd.prog 47 #[.map (some b), .string (tx p)] w fun e w' => e = .returned (.tuple #[]) ∧ Sc w' b (n + 9) (openT p T (wk p)) ∧ w.grownBy w' (some b)) := fun w h => open_is w b n T p hx h hn
  have hp : p.length ≤ 100000000 := hx
  have hbl := hs.lt
  obtain ⟨w1, hw1⟩ : ∃ w1, w1 = w.alloc (.cells #[.string (tx p), .int .i64 k, .int .i64 m, .string (tx B)] 34) := ⟨_, rfl⟩
  have B1 : Below w.heap.size w w1 := by rw [hw1]; exact (Below.refl _ _).alloc (Nat.le_refl _) _
  have S1 : Hid (Sc w1 b n T) := hs.keep B1
  have X1 : Hid (w1.heap[w.heap.size]? = some (.cells (ec (tx p) k m (tx B)) 34)) := by show _ = _; rw [hw1]; exact heap_alloc_new w _
  have G1 : Hid (w.grownBy w1 (some b)) := (grown_of_below B1).but _
  have HW1 : Hid (w1 = w.alloc (.cells #[.string (tx p), .int .i64 k, .int .i64 m, .string (tx B)] 34)) := hw1
  obtain ⟨PT, hPT⟩ : ∃ PT, PT = putT T (p, k, m, B) := ⟨_, rfl⟩
  rw [← hPT]
  have PTE : Hid (PT = putT T (p, k, m, B)) := hPT
  clear hs hx B1 hw1 hPT
  unfold ag
  simp only [En.p, En.k, En.m, En.b]
  by_cases k3 : k = 3
  · subst k3
    have HP : Hid (PT = dropT T p) := by show _ = _; rw [PTE.out]; rfl
    rw [HP.out]
    clear HP PTE
    go_enter Tryd.func27, Tryd.ntmps27
    go_wp2_with fail
    rw [show w.alloc _ = w1 from HW1.out.symm]
    refine (KD.out w1 n T S1.out).mono ?_
    rintro e w2 ⟨rfl, hs2, hg2⟩
    have S2 : Hid (Sc w2 b (n + 10) (dropT T p)) := hs2.mono (by omega)
    have G2 : Hid (w.grownBy w2 (some b)) := G1.out.andThen hg2 (fun j hj => by cases hj; exact Or.inr rfl)
    clear hs2 hg2
    go_wp2
    refine bodyPost_ret (results_none rfl _ _ _) rfl ?_
    exact ⟨rfl, S2.out, G2.out⟩
  have k3e : (k == 3) = false := by simpa using k3
  have HNE : Hid ( ∀ {u v : World}, u.grownBy v (some b) → w.heap.size < u.heap.size → v.heap[w.heap.size]? = u.heap[w.heap.size]?) := fun hg hlt => hg.block w.heap.size hlt (fun e => by cases e; omega)
  go_enter Tryd.func27, Tryd.ntmps27
  go_wp2_with fail
  rw [show w.alloc _ = w1 from HW1.out.symm]
  refine (KO.out w1 S1.out).mono ?_
  rintro e w2 ⟨rfl, hs2, hg2⟩
  have S2 : Hid (Sc w2 b (n + 9) (openT p T (wk p))) := hs2
  have G2 : Hid (w.grownBy w2 (some b)) := G1.out.andThen hg2 (fun j hj => by cases hj; exact Or.inr rfl)
  have x2 : w2.heap[w.heap.size]? = some (.cells (ec (tx p) k m (tx B)) 34) := (HNE.out hg2 (Array.getElem?_eq_some_iff.1 X1.out).1).trans X1.out
  have X2 : Hid (w2.heap[w.heap.size]? = some (.cells (ec (tx p) k m (tx B)) 34)) := x2
  obtain ⟨c0, c1, c2, c3⟩ := ec_cells x2
  clear hs2 hg2 x2
  have HP1 : Hid (k = 1 → PT = fun q => if q = p then some (p, k, m, B) else dropT (openT p T (wk p)) p q) := fun e => by rw [PTE.out]; subst e; rfl
  have HP4 : Hid (k = 4 → PT = fun q => if q = p then some (p, 2, m, B) else dropT (openT p T (wk p)) p q) := fun e => by rw [PTE.out]; subst e; rfl
  have HP2 : Hid (k ≠ 1 → k ≠ 4 → PT = fun q => if q = p then some (p, k, m, B) else openT p T (wk p) q) := fun e1 e4 => by rw [PTE.out]; unfold putT; rw [if_neg (show ¬ En.k (p, k, m, B) = 3 from k3), if_neg (show ¬ En.k (p, k, m, B) = 1 from e1), if_neg (show ¬ En.k (p, k, m, B) = 4 from e4)]; rfl
  clear PTE KO S1 X1 G1
  generalize openT p T (wk p) = T2 at *
  by_cases k1 : k = 1
  · subst k1
    go_wp2_with fail
    refine (KD.out w2 _ T2 S2.out).mono ?_
    rintro e w4 ⟨rfl, hs4, hg4⟩
    have S4 : Hid (Sc w4 b (n + 9) (dropT T2 p)) := hs4
    have G4 : Hid (w.grownBy w4 (some b)) := G2.out.andThen hg4 (fun j hj => by cases hj; exact Or.inr rfl)
    have x4 : w4.heap[w.heap.size]? = some (.cells (ec (tx p) 1 m (tx B)) 34) := (HNE.out hg4 (Array.getElem?_eq_some_iff.1 X2.out).1).trans X2.out
    clear c0 c1 c2 c3
    obtain ⟨c0, c1, c2, c3⟩ := ec_cells x4
    clear hs4 hg4 x4
    generalize dropT T2 p = T4 at *
    go_wp2_with (first | (at_mapUpdate; refine wpList_put_sc rfl (.tmp 30) (.tmp 32) (.tmp 33) rfl b (n + 9) T4 rfl S4.out (by omega) p (by omega) (p, 1, m, B) rfl rfl ?_; intro w5 hs5 hg5; have S5 : Hid (Sc w5 b (n + 9 + 1) (fun q => if q = p then some (p, 1, m, B) else T4 q)) := hs5; have G5 : Hid ((w4).grownBy w5 (some b)) := hg5; clear hs5 hg5))
    go_end0
    rw [HP1.out (by simp)]
    exact ⟨rfl, S5.out.mono (by omega), G4.out.andThen G5.out (fun j hj => by cases hj; exact Or.inr rfl)⟩
  have k1e : (k == 1) = false := by simpa using k1
  by_cases k4 : k = 4
  · subst k4
    go_wp2_with fail
    refine (KD.out w2 _ T2 S2.out).mono ?_
    rintro e w4 ⟨rfl, hs4, hg4⟩
    have S4 : Hid (Sc w4 b (n + 9) (dropT T2 p)) := hs4
    have G4 : Hid (w.grownBy w4 (some b)) := G2.out.andThen hg4 (fun j hj => by cases hj; exact Or.inr rfl)
    have x4 : w4.heap[w.heap.size]? = some (.cells (ec (tx p) 4 m (tx B)) 34) := (HNE.out hg4 (Array.getElem?_eq_some_iff.1 X2.out).1).trans X2.out
    clear c0 c1 c2 c3
    obtain ⟨c0, c1, c2, c3⟩ := ec_cells x4
    have f4 : w4.frozen? ⟨w.heap.size, 1, none⟩ = false := frozen_of_row w4 w.heap.size _ _ _ x4
    have S4' : Hid (Sc (w4.setCell ⟨w.heap.size, 1, none⟩ (.int .i64 2)) b (n + 9) (dropT T2 p)) := hs4.kept (grownBy_setAt w4 ⟨w.heap.size, 1, none⟩ _) (fun e => by have : b = w.heap.size := Option.some.inj e; omega)
    clear hs4 hg4 x4 S4
    generalize dropT T2 p = T4 at *
    go_wp2_with (first | (at_mapUpdate; refine wpList_put_sc rfl (.tmp 30) (.tmp 32) (.tmp 33) rfl b (n + 9) T4 rfl S4'.out (by omega) p (by omega) (p, 2, m, B) rfl rfl ?_; intro w5 hs5 hg5; have S5 : Hid (Sc w5 b (n + 9 + 1) (fun q => if q = p then some (p, 2, m, B) else T4 q)) := hs5; have G5 : Hid ((w4.setCell ⟨w.heap.size, 1, none⟩ (.int .i64 2)).grownBy w5 (some b)) := hg5; clear hs5 hg5))
    go_end0
    rw [HP4.out (by simp)]
    exact ⟨rfl, S5.out.mono (by omega), (G4.out.andThen (grownBy_setAt w4 ⟨w.heap.size, 1, none⟩ _) (fun j hj => by cases hj; exact Or.inl (Nat.le_refl _))).andThen G5.out (fun j hj => by cases hj; exact Or.inr rfl)⟩
  have k4e : (k == 4) = false := by simpa using k4
  go_wp2_with (first | (at_mapUpdate; refine wpList_put_sc rfl (.tmp 30) (.tmp 32) (.tmp 33) rfl b (n + 9) T2 rfl S2.out (by omega) p (by omega) (p, k, m, B) rfl rfl ?_; intro w5 hs5 hg5; have S5 : Hid (Sc w5 b (n + 9 + 1) (fun q => if q = p then some (p, k, m, B) else T2 q)) := hs5; have G5 : Hid ((w2).grownBy w5 (some b)) := hg5; clear hs5 hg5))
  go_end0
  rw [HP2.out k1 k4]
  exact ⟨rfl, S5.out.mono (by omega), G2.out.andThen G5.out (fun j hj => by cases hj; exact Or.inr rfl)⟩
end Go.Proofs.YtbefmcagpmgkiaaDoor
namespace Go.Proofs.YtbefmcagpmgkiaaDoor
open Go.ChangeShapes Go.WideShapes Go.ChangeAt Go.RowKit Go.Deep Go.Maps
set_option linter.unusedVariables false
/-- every entry lies at its own path, and that is short -/
def GoodT (T : Tx → Option En) : Prop := ∀ q x, T q = some x → x.p = q ∧ q.length ≤ 100000000
theorem GoodT.none : GoodT (fun _ => none) := fun q x h => by cases h
theorem GoodT.sub {T T' : Tx → Option En} (h : GoodT T) (hs : ∀ q x, T' q = some x → T q = some x) : GoodT T' := fun q x e => h q x (hs q x e)
theorem dropT_sub (T : Tx → Option En) (p q : Tx) (x : En) (h : dropT T p q = some x) : T q = some x := by
  unfold dropT at h
  split at h
  · split at h
    · cases h
    · exact h
  · split at h
    · cases h
    · exact h
theorem GoodT.set {T : Tx → Option En} (h : GoodT T) (p : Tx) (x : En) (hp : x.p = p) (hl : p.length ≤ 100000000) : GoodT (fun q => if q = p then some x else T q) := by
  intro q y e
  dsimp only at e
  split at e
  · rename_i hq
    cases e
    subst hq
    exact ⟨hp, hl⟩
  · exact h q y e
theorem wk_le (P p : Tx) (h : p ∈ wk P) : p.length ≤ P.length := by
  unfold wk at h
  split at h
  · rename_i hp
    unfold wkL at h
    obtain ⟨i, _, rfl⟩ := List.mem_map.1 h
    have h1 := jn_pre (prt P) i
    rw [jn_prt hp] at h1
    rw [← h1, List.length_take]
    omega
  · cases h
theorem GoodT.openL {P : Tx} (hP : P.length ≤ 100000000) : ∀ (l : List Tx) (T : Tx → Option En), GoodT T → (∀ p ∈ l, p.length ≤ P.length) → GoodT (openT P T l)
  | [], T, h, _ => h
  | p :: r, T, h, hl => by
    show GoodT (openT P (opn1 P T p) r)
    refine GoodT.openL hP r _ ?_ (fun q hq => hl q (by simp [hq]))
    unfold opn1
    split
    · exact h.set p (p, 2, 0, []) rfl (Nat.le_trans (hl p (by simp)) hP)
    · exact h
theorem GoodT.put {T : Tx → Option En} (h : GoodT T) (x : En) (hx : x.p.length ≤ 100000000) : GoodT (putT T x) := by
  have ho : GoodT (openT x.p T (wk x.p)) := GoodT.openL hx _ _ h (fun p hp => wk_le _ _ hp)
  unfold putT
  split
  · exact h.sub (fun q y => dropT_sub T x.p q y)
  · split
    · exact (ho.sub (fun q y => dropT_sub _ x.p q y)).set x.p x rfl hx
    · split
      · exact (ho.sub (fun q y => dropT_sub _ x.p q y)).set x.p (x.p, 2, x.m, x.b) rfl hx
      · exact ho.set x.p x rfl hx
/-- a layer over what is there -/
def mgT (T : Tx → Option En) (l : List En) : Tx → Option En := l.foldl putT T
/-- what a stack of layers comes to -/
def mg (st : List (List En)) : Tx → Option En := st.foldl mgT (fun _ => none)
theorem mgT_take (T : Tx → Option En) (l : List En) (i : Nat) (x : En) (h : l[i]? = some x) : mgT T (l.take (i + 1)) = putT (mgT T (l.take i)) x := by
  rw [List.take_add_one, h]
  simp [mgT]
theorem mg_take (st : List (List En)) (i : Nat) (l : List En) (h : st[i]? = some l) : mg (st.take (i + 1)) = mgT (mg (st.take i)) l := by
  rw [List.take_add_one, h]
  simp [mg]
/-- Merge's error -/
def mE (st : List (List En)) : Int := if 16 < st.length then 3 else if st.all (fun l => decide ((chk l).2 = 0)) = true then 0 else 5
/-- a slice of layers that may be read -/
def InS (w : World) (a : Option Addr) (st : List (List En)) : Prop :=
  st = [] ∨ ∃ b off, a = some ⟨b, off, none⟩ ∧ b < w.heap.size ∧ ∀ i l, st[i]? = some l → ∃ a' c', w.cell? ⟨b, off + i, none⟩ = some (.slice a' l.length c') ∧ InE w a' l ∧ Fit l ∧ (l.length ≤ 4611686018427387904 ∧ (a' = none → c' = 0))
theorem InE.keepB {w w' : World} {a : Option Addr} {l : List En} (h : InE w a l) (hb : Below w.heap.size w w') : InE w' a l := by
  rcases h with rfl | ⟨b, off, h1, h2, h3⟩
  · exact .inl rfl
  · exact .inr ⟨b, off, h1, Nat.lt_of_lt_of_le h2 hb.size, fun i x hx => (h3 i x hx).below hb h2⟩
theorem InS.keep {w w' : World} {a : Option Addr} {st : List (List En)} (h : InS w a st) (hb : Below w.heap.size w w') : InS w' a st := by
  rcases h with rfl | ⟨b, off, h1, h2, h3⟩
  · exact .inl rfl
  · refine .inr ⟨b, off, h1, Nat.lt_of_lt_of_le h2 hb.size, fun i l hl => ?_⟩
    obtain ⟨a', c', e1, e2, e3, e4⟩ := h3 i l hl
    exact ⟨a', c', (hb.cell (p := ⟨b, off + i, none⟩) h2).trans e1, e2.keepB hb, e3, e4⟩
/-- what Merge answers -/
def MSaid (st : List (List En)) (w : World) (e : Ending) (w' : World) : Prop :=
  Below w.heap.size w w' ∧ ((mE st ≠ 0 ∧ e = .returned (.tuple #[.slice none 0 0, .int .i64 (mE st)])) ∨ (mE st = 0 ∧ ∃ g c l, e = .returned (.tuple #[.slice (some ⟨g, 0, none⟩) l.length c, .int .i64 0]) ∧ InE w' (some ⟨g, 0, none⟩) l ∧ Lst (mg st) l ∧ w.heap.size ≤ g ∧ l.length ≤ 10240))
theorem mE_big {st : List (List En)} (h : 16 < st.length) : mE st = 3 := by rw [mE, if_pos h]
theorem mE_bad {st : List (List En)} (h : ¬ 16 < st.length) {i : Nat} {l : List En} (hi : st[i]? = some l) (hl : (chk l).2 ≠ 0) : mE st = 5 := by
  rw [mE, if_neg h, if_neg]
  intro ha
  have := List.all_eq_true.1 ha l (List.mem_of_getElem? hi)
  exact hl (by simpa using this)
theorem mE_ok {st : List (List En)} (h : ¬ 16 < st.length) (ha : ∀ (i : Nat) (l : List En), st[i]? = some l → (chk l).2 = 0) : mE st = 0 := by
  rw [mE, if_neg h, if_pos]
  refine List.all_eq_true.2 (fun l hl => ?_)
  obtain ⟨i, hi⟩ := List.getElem?_of_mem hl
  simpa using ha i l hi
theorem mE_zero {st : List (List En)} (h : mE st = 0) : st.length ≤ 16 ∧ ∀ l ∈ st, (chk l).2 = 0 := by
  unfold mE at h
  split at h
  · simp at h
  · rename_i h16
    split at h
    · rename_i ha
      exact ⟨by omega, fun l hl => by simpa using List.all_eq_true.1 ha l hl⟩
    · simp at h
set_option maxRecDepth 100000 in
set_option maxHeartbeats 8000000 in
theorem merge_is (st : List (List En)) (n : Nat) (hn : st.length = n) (a : Option Addr) (c : Nat) (hn62 : n ≤ 4611686018427387904) (w : World) (hs : InS w a st) :
    Calls Tryd.prog 12 #[.slice a n c] w fun e w' => MSaid st w e w' := by
  have HS : Hid (InS w a st) := hs
  have HN : Hid (st.length = n) := hn
  clear hs hn
  by_cases h16 : 16 < n
  · have e1 : (16 : Int) < (n : Int) := by omega
    have HE : Hid (mE st = 3) := mE_big (by rw [HN.out]; exact h16)
    go_enter Tryd.func12, Tryd.ntmps12
    go_wp2_with fail
    go_ret2
    refine ⟨Below.refl _ _, .inl ⟨by rw [HE.out]; decide, by rw [HE.out]; rfl⟩⟩
  · have e1 : ¬ (16 : Int) < (n : Int) := by omega
    have H16 : Hid (¬ 16 < st.length) := by show ¬ _; rw [HN.out]; exact h16
    have hmk : (Instr.makeMap 57 none).run Tryd.prog w = .ok (.map (some w.heap.size)) (w.alloc (.map #[] 0)) := rfl
    go_enter Tryd.func12, Tryd.ntmps12
    go_wp2_with fail
    go_loopg [17] n (fun g i wr => ∃ (j n' : Nat), j ≤ n ∧ g = n - j ∧ i = .int .i64 j ∧ Hid (Sc wr w.heap.size n' (mg (st.take j))) ∧ n' ≤ 640 * j ∧ Hid (GoodT (mg (st.take j))) ∧ Hid (Below w.heap.size w wr) ∧ Hid (∀ (i : Nat) (l : List En), i < j → st[i]? = some l → (chk l).2 = 0))
    case atStart => exact ⟨0, 0, Nat.zero_le _, rfl, rfl, Sc.empty w, Nat.le_refl _, GoodT.none, (Below.refl _ _).alloc (Nat.le_refl _) _, fun i l hi => absurd hi (Nat.not_lt_zero _)⟩
    case round =>
      obtain ⟨j, n', hj, rfl, rfl, SC, hn', GT, BW, CK⟩ := hrel
      by_cases hlt : j < n
      · have j1 : (j : Int) < (n : Int) := by omega
        obtain ⟨l, hl⟩ : ∃ l, st[j]? = some l := ⟨st[j]'(by rw [HN.out]; exact hlt), by simp [HN.out, hlt]⟩
        obtain ⟨b, off, rfl, hbw, a', c', hcell, hinE, hfit, hl62⟩ : ∃ b off, a = some ⟨b, off, none⟩ ∧ b < w.heap.size ∧ ∃ a' c', w.cell? ⟨b, off + j, none⟩ = some (.slice a' l.length c') ∧ InE w a' l ∧ Fit l ∧ (l.length ≤ 4611686018427387904 ∧ (a' = none → c' = 0)) := by
          rcases HS.out with e | ⟨b, off, h1, h2, h3⟩
          · have := HN.out; rw [e] at this; simp at this; omega
          · exact ⟨b, off, h1, h2, h3 j l hl⟩
        have hc : wr.cell? ⟨b, off + j, none⟩ = some (.slice a' l.length c') := (BW.out.cell (p := ⟨b, off + j, none⟩) hbw).trans hcell
        have KC : Hid (Calls Tryd.prog 26 #[.slice a' l.length c'] wr fun e w' => e = .returned (.tuple #[.int .i64 ((chk l).1 : Nat), .int .i64 (chk l).2]) ∧ Below wr.heap.size wr w') := check_is l l.length rfl hl62.1 hfit a' c' wr (hinE.keepB BW.out)
        have HL : Hid (st[j]? = some l) := hl
        have HI : Hid (InE w a' l) := hinE
        have MT : Hid (mg (st.take (j + 1)) = mgT (mg (st.take j)) l) := mg_take st j l hl
        have CI := chk_iff l
        have HCI : Hid ((chk l).2 = 0 ↔ l.length ≤ 64 ∧ (∀ x ∈ l, fo x = 0) ∧ l.Pairwise (fun y x => fb y x = 0)) := CI
        clear CI hl hinE hfit hcell hl62
        have HCk : Hid (∀ z : Int, (chk l).2 = z → z = 0 → (chk l).2 = 0) := fun z h1 h2 => h1.trans h2
        have hszw := BW.out.size
        by_cases hok : (chk l).2 = 0
        · rw [hok] at KC
          generalize (chk l).1 = c1 at *
          obtain ⟨h64, hfo, _⟩ := HCI.out.1 hok
          have HFO : Hid (∀ x ∈ l, fo x = 0) := hfo
          have CK2 : Hid (∀ (i : Nat) (l : List En), i < j + 1 → st[i]? = some l → (chk l).2 = 0) := fun i l2 hi h2 => by
            by_cases hij : i = j
            · subst hij
              rw [HL.out] at h2
              cases h2
              exact hok
            · exact CK.out i l2 (by omega) h2
          clear hok hfo CK HCI HCk
          go_wp2_with fail
          refine KC.out.mono ?_
          rintro e w1 ⟨rfl, hb1⟩
          have BW1 : Hid (Below w.heap.size w w1) := BW.out.trans (hb1.mono hszw)
          have SC1 : Hid (Sc w1 w.heap.size n' (mg (st.take j))) := SC.out.keep hb1
          clear hb1 KC SC BW hc hszw
          generalize mg (st.take j) = T1 at *
          go_wp2_with fail
          obtain ⟨N, hN⟩ : ∃ N, l.length = N := ⟨_, rfl⟩
          rw [hN] at h64 ⊢
          have HLN : Hid (l.length = N) := hN
          clear hN
          go_loopg [30] N (fun g i wr2 => ∃ (i2 n2 : Nat), i2 ≤ N ∧ g = N - i2 ∧ i = .int .i64 i2 ∧ Hid (Sc wr2 w.heap.size n2 (mgT T1 (l.take i2))) ∧ n2 ≤ n' + 10 * i2 ∧ Hid (GoodT (mgT T1 (l.take i2))) ∧ Hid (Below w.heap.size w wr2))
          case atStart => exact ⟨0, n', Nat.zero_le _, rfl, rfl, SC1, Nat.le_refl _, GT, BW1⟩
          case round =>
            clear SC1 GT BW1
            obtain ⟨i2, n2, hi2, rfl, rfl, SC2, hn2, GT2, BW2⟩ := hrel
            have hw2 := BW2.out.size
            by_cases hlt2 : i2 < N
            · have j2 : (i2 : Int) < (N : Int) := by omega
              obtain ⟨x, hx⟩ : ∃ x, l[i2]? = some x := ⟨l[i2]'(by rw [HLN.out]; exact hlt2), by simp [HLN.out, hlt2]⟩
              obtain ⟨b2, off2, rfl, hbw2, hr⟩ : ∃ b off, a' = some ⟨b, off, none⟩ ∧ b < w.heap.size ∧ Ec w b (off + i2 * 4) x := by
                rcases HI.out with e | ⟨b, off, h1, h2, h3⟩
                · have := HLN.out; rw [e] at this; simp at this; omega
                · exact ⟨b, off, h1, h2, h3 i2 x hx⟩
              have hxl : x.p.length ≤ 100000000 := by
                have := isP_short (fo_path (HFO.out x (List.mem_of_getElem? hx))).2
                omega
              have MX : Hid (mgT T1 (l.take (i2 + 1)) = putT (mgT T1 (l.take i2)) x) := mgT_take T1 l i2 x hx
              have GT3 : Hid (GoodT (putT (mgT T1 (l.take i2)) x)) := GT2.out.put x hxl
              obtain ⟨c0, c1, c2, c3⟩ := hr.below BW2.out hbw2
              obtain ⟨w3, hw3⟩ : ∃ w3, w3 = wr.alloc (.cells #[.string (tx x.p), .int .i64 x.k, .int .i64 x.m, .string (tx x.b)] 34) := ⟨_, rfl⟩
              have B3 : Below wr.heap.size wr w3 := by rw [hw3]; exact (Below.refl _ _).alloc (Nat.le_refl _) _
              have W3 : Hid (w3 = wr.alloc (.cells #[.string (tx x.p), .int .i64 x.k, .int .i64 x.m, .string (tx x.b)] 34)) := hw3
              have KP : Hid (Calls Tryd.prog 27 #[.map (some w.heap.size), .agg #[.string (tx x.p), .int .i64 x.k, .int .i64 x.m, .string (tx x.b)]] w3 fun e w' => e = .returned (.tuple #[]) ∧ Sc w' w.heap.size (n2 + 10) (putT (mgT T1 (l.take i2)) x) ∧ w3.grownBy w' (some w.heap.size)) := put_is w3 w.heap.size n2 _ x hxl (SC2.out.keep B3) (by omega)
              have BW3 : Hid (Below w.heap.size w w3) := BW2.out.trans (B3.mono hw2)
              clear hx hr hw3 B3 SC2 GT2
              go_wp2_with fail
              rw [show wr.alloc _ = w3 from W3.out.symm]
              refine KP.out.mono ?_
              rintro e w4 ⟨rfl, hs4, hg4⟩
              have SC4 : Hid (Sc w4 w.heap.size (n2 + 10) (mgT T1 (l.take (i2 + 1)))) := by rw [MX.out]; exact hs4
              have GT4 : Hid (GoodT (mgT T1 (l.take (i2 + 1)))) := by rw [MX.out]; exact GT3.out
              have BW4 : Hid (Below w.heap.size w w4) := BW3.out.grown hg4 BW3.out.size (fun k hk => by cases hk; exact Nat.le_refl _)
              clear hs4 hg4 KP W3 MX GT3
              go_wp2_with fail
              go_roundg (N - (i2 + 1))
              case measure => omega
              case rel => exact ⟨i2 + 1, n2 + 10, by omega, rfl, by go_num, SC4, by omega, GT4, BW4⟩
            · have ei : i2 = N := by omega
              subst ei
              have j2 : ¬ (i2 : Int) < (i2 : Int) := by omega
              have HT : Hid (l.take i2 = l) := by show _ = _; rw [← HLN.out, List.take_length]
              have SC3 : Hid (Sc wr w.heap.size n2 (mg (st.take (j + 1)))) := by rw [MT.out]; have := SC2.out; rw [HT.out] at this; exact this
              have GT3 : Hid (GoodT (mg (st.take (j + 1)))) := by rw [MT.out]; have := GT2.out; rw [HT.out] at this; exact this
              clear SC2 GT2 HT MT
              go_wp2_with fail
              go_roundg (n - (j + 1))
              case measure => omega
              case rel => exact ⟨j + 1, n2, by omega, rfl, by go_num, SC3, by omega, GT3, BW2, CK2⟩
        · have HE : Hid (mE st = 5) := mE_bad H16.out HL.out hok
          have hok2 : ((chk l).2 != 0) = true := by simpa using hok
          generalize (chk l).1 = c1 at *
          generalize (chk l).2 = c2 at *
          have hok3 : (c2 == 0) = false := by simpa using hok
          clear HCI CK
          go_wp2_with fail
          refine KC.out.mono ?_
          rintro e w1 ⟨rfl, hb1⟩
          have BW1 : Hid (Below w.heap.size w w1) := BW.out.trans (hb1.mono hszw)
          clear hb1
          go_wp2_with fail
          go_ret2
          refine ⟨BW1.out, .inl ⟨by rw [HE.out]; decide, by rw [HE.out]; rfl⟩⟩
      · have ej : j = n := by omega
        subst ej
        have j1 : ¬ (j : Int) < (j : Int) := by omega
        have HT : Hid (st.take j = st) := by show _ = _; rw [← HN.out, List.take_length]
        have HE : Hid (mE st = 0) := mE_ok H16.out (fun i l h => CK.out i l (by have := (List.getElem?_eq_some_iff.1 h).1; rw [HN.out] at this; exact this) h)
        have SC3 : Sc wr w.heap.size n' (mg st) := by have := SC.out; rw [HT.out] at this; exact this
        have GT3 : GoodT (mg st) := by have := GT.out; rw [HT.out] at this; exact this
        have KS : Hid (Calls Tryd.prog 28 #[.map (some w.heap.size)] wr fun e w' => ∃ g c l, e = .returned (.slice (some ⟨g, 0, none⟩) l.length c) ∧ InE w' (some ⟨g, 0, none⟩) l ∧ Lst (mg st) l ∧ wr.heap.size ≤ g ∧ l.length ≤ n' ∧ wr.grownBy w' none) := sorted_is wr w.heap.size n' (mg st) SC3 (by omega) (fun q x h => (GT3 q x h).1) (fun q x h => Nat.le_trans (GT3 q x h).2 (by omega))
        clear SC3 GT3 SC GT CK
        have hszw := BW.out.size
        go_wp2_with fail
        refine KS.out.mono ?_
        rintro e w4 ⟨g, c4, l4, rfl, hi4, hl4, hg4, hn4, hgr4⟩
        have P4 : Hid (InE w4 (some ⟨g, 0, none⟩) l4 ∧ Lst (mg st) l4 ∧ Below w.heap.size w w4) := ⟨hi4, hl4, BW.out.trans ((grown_below' hgr4).mono hszw)⟩
        clear hi4 hl4 hgr4 KS
        go_wp2_with fail
        go_ret2
        exact ⟨P4.out.2.2, .inr ⟨HE.out, g, c4, l4, rfl, P4.out.1, P4.out.2.1, by omega, by omega⟩⟩
end Go.Proofs.YtbefmcagpmgkiaaDoor
