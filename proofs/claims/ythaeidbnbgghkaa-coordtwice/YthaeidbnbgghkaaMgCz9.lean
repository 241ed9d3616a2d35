/- coord: open (gen_cop.py). coord: Begin, Recall (gen_coq.py). -/
import Derived.Test.YthaeidbnbgghkaaMgCz8
namespace Go.Proofs.Ythaeidbnbgghkaa
open Go.ChangeShapes Go.WideShapes Go.ChangeAt Go.RowKit Go.Deep Go.Maps
set_option linter.unusedVariables false
set_option linter.unusedSimpArgs false
theorem wp_append_pv {w : World} {o : Oper} {act : Act} {K : Act → World → Prop} {Q : Exit → Act → World → Prop} (s x : Operand)
    (ho : o.op = .call { callee := .builtin .append, args := #[s, x], argTypes := #[22, 22] })
    (base : Nat) (v : Value) (l : List Pv) (hs : act.eval s = v) (hown : OwnPv w base v l)
    (g c : Nat) (y : Pv) (hx : act.eval x = .slice (some ⟨g, 0, none⟩) 1 c) (hc : w.heap[g]? = some (.cells (pvl y).toArray 61))
    (hN : l.length ≤ 100000000) (hbase : base ≤ w.heap.size)
    (h : ∀ v' w', OwnPv w' base v' (l ++ [y]) → w.grownBy w' v.ownBlock → K (act.put o.dst v') w') :
    o.wp Try.prog act w K Q := by
  obtain ⟨i, hi, hz, h1, h2⟩ := infoPv
  refine wp_append_own w s x 22 ho base 61 i _ 2 32 Try.underlying22 hi hz h1 h2 rfl (by decide) v l.length _ hs hown ⟨g, 0, none⟩ 1 c (pvl y) hx rfl ?_ (pvl_one y) (by simp only [maxLen]; omega) (by omega) hbase ?_
  · intro j u hu
    rw [add_plain, Nat.zero_add]
    simp [World.cell?, hc, hu]
  · intro v' w' hown' hg _
    refine h v' w' ?_ hg
    unfold OwnPv
    rw [List.length_append]
    have : pvs (l ++ [y]) = pvs l ++ pvl y := by simp [pvs]
    rw [this]
    exact hown'
set_option maxRecDepth 100000 in
set_option maxHeartbeats 8000000 in
theorem open_there (w : World) (F : Nat → Prop) (b : Nat) (lim : Int) (n m : Nat) (B : Int → Option (Nat × Option Nat)) (X : Int → Option Tr) (h : Cd w F b lim n m B X) (q : Int) (x : Tr) (hx : X q = some x) (st : Int) (a : Option Addr) (np c : Nat) :
    Calls Try.prog 28 #[.pointer (some ⟨b, 0, none⟩), .int .i64 q, .int .i64 st, .slice a np c] w fun e w' => e = .returned (.tuple #[.slice none 0 0, .int .i64 8]) ∧ w' = w := by
  obtain ⟨c0, c1⟩ := h.box.cells
  obtain ⟨⟨y1, y2⟩, hy, ht, hlk⟩ := h.find hx
  simp only at hlk
  clear h hx hy ht
  go_enter Try.func28, Try.ntmps28
  go_wp2_with fail
  go_ret2
  exact ⟨rfl, rfl⟩
/-- what open, and whatever sends letters, tells: the coordinator turned, letters beside it -/
def OpSaid (w w' : World) (F : Nat → Prop) (b : Nat) (lim : Int) (n m : Nat) (X : Int → Option Tr) (q kd : Int) (L : List (Int × List Pc)) (V : Value) : Prop := ∃ Q F' B' h0, Cd w' F' b lim n m B' X ∧ Stp F F' w w' ∧ (∀ k, F' k → k < h0) ∧ Ltr h0 w' V kd q Q ∧ Q.map (fun p => (p.r, p.co)) = L
/-- a transaction that is being made, in block yb -/
structure OpSt (w wr : World) (yb : Nat) (q st : Int) (vr vl : Value) (R : List Int) (Q : List Pv) (L : List (Int × List Pc)) : Prop where
  box : wr.heap[yb]? = some (.cells #[.int .i64 q, .int .i64 st, .int .i64 0, vr, vl] 75)
  roots : OwnZ wr w.heap.size vr R
  lacks : OwnPv wr w.heap.size vl Q
  each : ∀ p ∈ Q, NewSt wr w.heap.size p.a p.n p.c p.M
  co : Q.map (fun p => (p.r, p.co)) = L
  bel : Below w.heap.size w wr
  new : w.heap.size ≤ yb
  ap : ∀ k, vr.ownBlock = some k → k ≠ yb
theorem OpSt.keep {w wr u : World} {yb : Nat} {q st : Int} {vr vl : Value} {R : List Int} {Q : List Pv} {L : List (Int × List Pc)} (h : OpSt w wr yb q st vr vl R Q L) (hb : Below wr.heap.size wr u) : OpSt w u yb q st vr vl R Q L :=
  ⟨(hb.block yb (lt_of_heapK h.box)).trans h.box, h.roots.keep hb, h.lacks.keep hb, fun p hp => (h.each p hp).keep hb, h.co, h.bel.trans (hb.mono h.bel.size), h.new, h.ap⟩
theorem ownPv_offT {w w' : World} {z : Nat} {v : Value} {l : List Pv} (h : OwnPv w z v l) (hg : w.grownBy w' v.ownBlock) : ∀ (k : Nat) (cs : Array Value) (t : TypeId), w.heap[k]? = some (Obj.cells cs t) → t ≠ 61 → w'.heap[k]? = w.heap[k]? := by
  intro k cs t hk ht
  refine hg.block k (lt_of_heapK hk) (fun e => ?_)
  obtain ⟨cs', hc⟩ := ownPv_typ h e.symm
  rw [hk] at hc
  cases hc
  exact ht rfl
theorem OpSt.mid {w w6 w9 : World} {yb : Nat} {q st : Int} {vr vl v9 : Value} {R : List Int} {Q : List Pv} {L : List (Int × List Pc)} {p : Pv} (h : OpSt w w6 yb q st vr vl R Q L) (ho : OwnPv w9 w.heap.size v9 (Q ++ [p])) (hg : w6.grownBy w9 vl.ownBlock) (hp : NewSt w6 w.heap.size p.a p.n p.c p.M) :
    w9.heap[yb]? = some (.cells #[.int .i64 q, .int .i64 st, .int .i64 0, vr, vl] 75) ∧ OpSt w (w9.setCell ⟨yb, 4, none⟩ v9) yb q st vr v9 R (Q ++ [p]) (L ++ [(p.r, p.co)]) := by
  have hoff := ownPv_offT h.lacks hg
  have h9 := (hoff yb _ _ h.box (by decide)).trans h.box
  have hns : ∀ (a : Option Addr) (n c : Nat) (M : List Pk), NewSt w6 w.heap.size a n c M → NewSt (w9.setCell ⟨yb, 4, none⟩ v9) w.heap.size a n c M := fun a n c M hN => NewSt.kept2 hN (by simp [World.setCell]; exact hg.size) (fun k cs t hk ht => by
    have hne : k ≠ yb := fun e => by
      rw [e, h.box] at hk
      cases hk
      rcases ht with e | e <;> exact absurd e (by decide)
    exact (set_off w9 yb 4 k v9 hne).trans (hoff k cs t hk (by rcases ht with rfl | rfl <;> decide)))
  have hbel : Below w.heap.size w w9 := h.bel.grown hg h.bel.size (fun k hk => (h.lacks.own k hk).1)
  refine ⟨h9, ⟨?_, ?_, ?_, fun y hy => ?_, ?_, ?_, h.new, h.ap⟩⟩
  · rw [setCell_blk (i := 4) v9 h9]
    simp
  · refine h.roots.kept (fun k hk => ?_)
    obtain ⟨cs, hc⟩ := ownZ_typ h.roots hk
    exact (set_off w9 yb 4 k v9 (h.ap k hk)).trans (hoff k _ _ hc (by decide))
  · refine ho.kept (fun k hk => set_off w9 yb 4 k v9 (fun e => ?_))
    obtain ⟨cs, hc⟩ := ownPv_typ ho hk
    rw [e, h9] at hc
    cases hc
  · rcases List.mem_append.1 hy with hy | hy
    · exact hns _ _ _ _ (h.each y hy)
    · rw [List.mem_singleton.1 hy]; exact hns _ _ _ _ hp
  · rw [List.map_append, h.co]; rfl
  · exact hbel.grown (grown_setCell w9 yb 4 v9) hbel.size (fun k hk => by cases hk; exact h.new)
set_option maxRecDepth 100000 in
set_option maxHeartbeats 8000000 in
theorem open_is (w : World) (F : Nat → Prop) (b : Nat) (lim : Int) (n m : Nat) (B : Int → Option (Nat × Option Nat)) (X : Int → Option Tr) (h : Cd w F b lim n m B X) (hn : n < 1000000000) (q : Int) (hq : InI q) (hx : X q = none) (st : Int) (a : Option Addr) (np c : Nat) (P : List Pv) (hP : InPv w a P) (hnp : P.length = np) (hN : np ≤ 1000) (hok : ∀ x ∈ P, PvOk w x) :
    Calls Try.prog 28 #[.pointer (some ⟨b, 0, none⟩), .int .i64 q, .int .i64 st, .slice a np c] w fun e w' => ∃ V, e = .returned (.tuple #[V, .int .i64 0]) ∧ OpSaid w w' F b lim (n + 1) m (updX X q ⟨st, 0, P.map Pv.r, P.map fun p => (p.r, p.co)⟩) q (if st = 3 then 3 else 1) (P.map fun p => (p.r, p.co)) V := by
  obtain ⟨kd, hkd⟩ : ∃ kd, kd = if st = 3 then (3 : Int) else 1 := ⟨_, rfl⟩
  have HKD : Hid (kd = if st = 3 then (3 : Int) else 1) := hkd
  rw [← hkd]
  clear hkd
  obtain ⟨c0, c1⟩ := h.box.cells
  have hlk := h.look hq hx
  have HH : Hid (Cd w F b lim n m B X ∧ InI q ∧ X q = none ∧ n < 1000000000) := ⟨h, hq, hx, hn⟩
  have HP : Hid (InPv w a P ∧ P.length = np ∧ np ≤ 1000 ∧ ∀ x ∈ P, PvOk w x) := ⟨hP, hnp, hN, hok⟩
  have KR : Hid (Calls Try.prog 26 #[.slice a np c] w fun e w' => ∃ ra rn rc, e = .returned (.slice ra rn rc) ∧ OwnZ w' w.heap.size (.slice ra rn rc) (P.map Pv.r) ∧ Below w.heap.size w w') := by
    have h := rootsOf_is w a np c _ hP.rl (by rw [List.length_map]; exact hnp) (by omega)
    rw [List.map_map, show P.map (Rl.r ∘ fun x => ⟨x.r, x.a, x.n, x.c⟩) = P.map Pv.r from rfl] at h
    refine h.mono ?_
    rintro e w' ⟨V, rfl, h1, h2⟩
    obtain ⟨ra, rc, hv, _⟩ := h1.slice
    exact ⟨ra, _, rc, congrArg Ending.returned hv, hv ▸ h1, h2⟩
  clear h hn hq hx hP hnp hok
  go_enter Try.func28, Try.ntmps28
  go_wp2_with fail
  refine KR.out.mono ?_
  rintro e w1 ⟨ra, rn, rc, rfl, z1, b1⟩
  have R1 : Hid (OwnZ w1 w.heap.size (.slice ra rn rc) (P.map Pv.r) ∧ Below w.heap.size w w1) := ⟨z1, b1⟩
  clear z1 b1 KR
  go_wp2_with fail
  obtain ⟨w2, hw2⟩ : ∃ w2, w2 = w1.alloc (.cells #[.int .i64 q, .int .i64 st, .int .i64 0, .slice ra rn rc, .slice none 0 0] 75) := ⟨_, rfl⟩
  obtain ⟨yb, hyb⟩ : ∃ yb, yb = w1.heap.size := ⟨_, rfl⟩
  have I2 : Hid (OpSt w w2 yb q st (.slice ra rn rc) (.slice none 0 0) (P.map Pv.r) [] [] ∧ w.heap.size ≤ yb) := by
    have b2 := below1 w1 (.cells #[.int .i64 q, .int .i64 st, .int .i64 0, .slice ra rn rc, .slice none 0 0] 75)
    rw [← hw2] at b2
    refine ⟨⟨by rw [hw2, hyb]; exact heap_alloc_new w1 _, R1.out.1.keep b2, OwnPv.nil _ _, (fun p hp => by cases hp), rfl, R1.out.2.trans (b2.mono R1.out.2.size), ?_, ?_⟩, by rw [hyb]; exact R1.out.2.size⟩
    · rw [hyb]; exact R1.out.2.size
    · intro k hk e
      rw [e, hyb] at hk
      exact absurd (R1.out.1.own _ hk).2 (Nat.lt_irrefl _)
  rw [← hw2, ← hyb]
  clear hw2 hyb
  go_loopg [28] np (fun g i wr => ∃ (j : Nat) (vl : Value) (Q : List Pv), j ≤ np ∧ g = np - j ∧ i = .int .i64 (j : Int) ∧ Hid (OpSt w wr yb q st (.slice ra rn rc) vl (P.map Pv.r) Q ((P.take j).map fun p => (p.r, p.co))))
  case atStart => exact ⟨0, .slice none 0 0, [], Nat.zero_le _, rfl, rfl, I2.out.1⟩
  case round =>
    obtain ⟨j, vl, Q, hj, rfl, rfl, RW⟩ := hrel
    by_cases hlt : j < np
    · have j1 : decide ((j : Int) < (np : Int)) = true := by rw [decide_eq_true_eq]; omega
      have j3 : decide (j < np) = true := by rw [decide_eq_true_eq]; omega
      have j4 : (j : Int) < (np : Int) := by omega
      have ri : IntKind.i64.wrap ((j : Int) + 1) = (j : Int) + 1 := by rw [IntKind.wrap_i64]; omega
      obtain ⟨y, hy⟩ : ∃ y, P[j]? = some y := ⟨P[j]'(by rw [HP.out.2.1]; exact hlt), List.getElem?_eq_getElem _⟩
      obtain ⟨b3, off, rfl, hbw, hpc, hyk⟩ := HP.out.1.at hy
      have p0 : wr.cell? ⟨b3, off + j * 2, none⟩ = some (.int .i64 y.r) := by simpa using hpc wr RW.out.bel 0 _ rfl
      have p1 : wr.cell? ⟨b3, off + j * 2 + 1, none⟩ = some (.slice y.a y.n y.c) := hpc wr RW.out.bel 1 _ rfl
      have HT : Hid ((P.take (j + 1)).map (fun q => (q.r, q.co)) = (P.take j).map (fun q => (q.r, q.co)) ++ [(y.r, y.co)]) := by
        show _ = _
        rw [List.take_add_one, hy]; simp
      have HQ : Hid (Q.length ≤ 1000) := by
        have := congrArg List.length RW.out.co
        rw [List.length_map, List.length_map, List.length_take] at this
        show _ ≤ _
        have := HP.out.2.2.1
        omega
      have KC : Hid (∀ W, Below w.heap.size w W → Calls Try.prog 46 #[.slice y.a y.n y.c] W fun e w' => ∃ a2 n2 c2 M2, e = .returned (.slice a2 n2 c2) ∧ NewSt w' W.heap.size a2 n2 c2 M2 ∧ M2.map co = y.M.map co ∧ Below W.heap.size W w') := fun W hW => copies_is W y.a y.n y.c y.M (hyk.keep hW)
      obtain ⟨la, lc, hvl, _⟩ := RW.out.lacks.slice (fun p hp => (RW.out.each p hp).st)
      subst hvl
      have W1 : Hid (OpSt w (wr.alloc (.cells #[.int .i64 y.r, .slice y.a y.n y.c] 61)) yb q st (.slice ra rn rc) (.slice la Q.length lc) (P.map Pv.r) Q ((P.take j).map fun p => (p.r, p.co)) ∧ (wr.alloc (.cells #[.int .i64 y.r, .slice y.a y.n y.c] 61)).heap[wr.heap.size]? = some (.cells #[.int .i64 y.r, .slice y.a y.n y.c] 61) ∧ (∀ k, (Value.slice la Q.length lc).ownBlock = some k → k ≠ wr.heap.size)) := ⟨RW.out.keep (below1 wr _), heap_alloc_new wr _, fun k hk e => by have := (RW.out.lacks.own k hk).2; omega⟩
      obtain ⟨r, pa, pn, pc, pM⟩ := y
      obtain ⟨ql, hql⟩ : ∃ ql, ql = Q.length := ⟨_, rfl⟩
      rw [← hql] at W1
      have HQL : Hid (ql = Q.length) := hql
      simp only at p0 p1 KC W1 HT
      clear hy hpc hyk hql
      go_wp2_with fail
      refine wp_region_noPanic ?_
      refine AnyE.start (S := (fun W : World => W.heap[yb]? = some (.cells #[.int .i64 q, .int .i64 st, .int .i64 0, .slice ra rn rc, .slice la ql lc] 75) ∧ W.heap[wr.heap.size]? = some (.cells #[.int .i64 r, .slice pa pn pc] 61))) (E := [15]) (by kernel_rfl) ?hSe (fun hHeld => ?reste)
      case hSe => exact ⟨W1.out.1.box, W1.out.2.1⟩
      refine AnyE.take (i := 0) (v := .pointer (some ⟨yb, 0, none⟩)) rfl (by kernel_rfl) (by kernel_rfl) (by kernel_rfl) (by kernel_rfl) (fun _ _ _ h => h) (Or.inl ⟨by kernel_rfl, ?hy0e⟩) hHeld ?r0e
      case hy0e => (intro w' hSw; (try dsimp only at hSw); go_simp; try with_reducible rfl)
      try simp only [Act.put, List.setIfInBounds_toArray, List.set_cons_zero, List.set_cons_succ, List.getElem_toArray, List.getElem_cons_zero, List.getElem_cons_succ]
      refine AnyE.take (i := 1) (v := .pointer (some ⟨yb, 0, none⟩)) rfl (by kernel_rfl) (by kernel_rfl) (by kernel_rfl) (by kernel_rfl) (fun _ _ _ h => h) (Or.inl ⟨by kernel_rfl, ?hy1e⟩) hHeld ?r1e
      case hy1e => (intro w' hSw; (try dsimp only at hSw); go_simp; try with_reducible rfl)
      try simp only [Act.put, List.setIfInBounds_toArray, List.set_cons_zero, List.set_cons_succ, List.getElem_toArray, List.getElem_cons_zero, List.getElem_cons_succ]
      refine AnyE.take (i := 2) (v := .pointer (some ⟨yb, 0, none⟩)) rfl (by kernel_rfl) (by kernel_rfl) (by kernel_rfl) (by kernel_rfl) (fun _ _ _ h => h) (Or.inl ⟨by kernel_rfl, ?hy2e⟩) hHeld ?r2e
      case hy2e => (intro w' hSw; (try dsimp only at hSw); go_simp; try with_reducible rfl)
      try simp only [Act.put, List.setIfInBounds_toArray, List.set_cons_zero, List.set_cons_succ, List.getElem_toArray, List.getElem_cons_zero, List.getElem_cons_succ]
      refine AnyE.take (i := 3) (v := .pointer (some ⟨yb, 4, none⟩)) rfl (by kernel_rfl) (by kernel_rfl) (by kernel_rfl) (by kernel_rfl) (fun _ _ _ h => h) (Or.inl ⟨by kernel_rfl, ?hy3e⟩) hHeld ?r3e
      case hy3e => (intro w' hSw; (try dsimp only at hSw); go_simp; try with_reducible rfl)
      try simp only [Act.put, List.setIfInBounds_toArray, List.set_cons_zero, List.set_cons_succ, List.getElem_toArray, List.getElem_cons_zero, List.getElem_cons_succ]
      refine AnyE.take (i := 4) (v := .slice la ql lc) rfl (by kernel_rfl) (by kernel_rfl) (by kernel_rfl) (by kernel_rfl) (fun _ _ _ h => h) (Or.inl ⟨by kernel_rfl, ?hy4e⟩) hHeld ?r4e
      case hy4e => (intro w' hSw; (try dsimp only at hSw); have p2 := pl_cells hSw.2; have p5 := tr_cells hSw.1; go_simp; try with_reducible rfl)
      try simp only [Act.put, List.setIfInBounds_toArray, List.set_cons_zero, List.set_cons_succ, List.getElem_toArray, List.getElem_cons_zero, List.getElem_cons_succ]
      refine AnyE.take (i := 5) (v := .pointer (some ⟨wr.heap.size, 0, none⟩)) rfl (by kernel_rfl) (by kernel_rfl) (by kernel_rfl) (by kernel_rfl) (fun _ _ _ h => h) (Or.inl ⟨by kernel_rfl, ?hy5e⟩) hHeld ?r5e
      case hy5e => (intro w' hSw; (try dsimp only at hSw); go_simp; try with_reducible rfl)
      try simp only [Act.put, List.setIfInBounds_toArray, List.set_cons_zero, List.set_cons_succ, List.getElem_toArray, List.getElem_cons_zero, List.getElem_cons_succ]
      refine AnyE.take (i := 6) (v := .int .i64 r) rfl (by kernel_rfl) (by kernel_rfl) (by kernel_rfl) (by kernel_rfl) (fun _ _ _ h => h) (Or.inl ⟨by kernel_rfl, ?hy6e⟩) hHeld ?r6e
      case hy6e => (intro w' hSw; (try dsimp only at hSw); have p2 := pl_cells hSw.2; have p5 := tr_cells hSw.1; go_simp; try with_reducible rfl)
      try simp only [Act.put, List.setIfInBounds_toArray, List.set_cons_zero, List.set_cons_succ, List.getElem_toArray, List.getElem_cons_zero, List.getElem_cons_succ]
      refine AnyE.take (i := 7) (v := .pointer (some ⟨wr.heap.size, 1, none⟩)) rfl (by kernel_rfl) (by kernel_rfl) (by kernel_rfl) (by kernel_rfl) (fun _ _ _ h => h) (Or.inl ⟨by kernel_rfl, ?hy7e⟩) hHeld ?r7e
      case hy7e => (intro w' hSw; (try dsimp only at hSw); go_simp; try with_reducible rfl)
      try simp only [Act.put, List.setIfInBounds_toArray, List.set_cons_zero, List.set_cons_succ, List.getElem_toArray, List.getElem_cons_zero, List.getElem_cons_succ]
      refine AnyE.take (i := 8) (v := .slice pa pn pc) rfl (by kernel_rfl) (by kernel_rfl) (by kernel_rfl) (by kernel_rfl) (fun _ _ _ h => h) (Or.inl ⟨by kernel_rfl, ?hy8e⟩) hHeld ?r8e
      case hy8e => (intro w' hSw; (try dsimp only at hSw); have p2 := pl_cells hSw.2; have p5 := tr_cells hSw.1; go_simp; try with_reducible rfl)
      try simp only [Act.put, List.setIfInBounds_toArray, List.set_cons_zero, List.set_cons_succ, List.getElem_toArray, List.getElem_cons_zero, List.getElem_cons_succ]
      refine AnyE.ready (rs := [9]) (by kernel_rfl) (by simp) ?_
      refine (ReadyE.cons rfl (fun K hK => ?_) ReadyE.nil)
      go_simp
      refine (KC.out _ (show Below w.heap.size w (wr.alloc (.cells #[.int .i64 r, .slice pa pn pc] 61)).drew from below_drewM W1.out.1.bel)).mono ?_
      rintro e5 w5 ⟨a2, n2, c2, M2, rfl, s2, m2, b5⟩
      have X5 : Hid (OpSt w w5 yb q st (.slice ra rn rc) (.slice la ql lc) (P.map Pv.r) Q ((P.take j).map fun p => (p.r, p.co)) ∧ NewSt w5 w.heap.size a2 n2 c2 M2 ∧ M2.map co = pM.map co ∧ w5.heap[wr.heap.size]? = some (.cells #[.int .i64 r, .slice pa pn pc] 61)) := by
        have hb : Below (wr.alloc (.cells #[.int .i64 r, .slice pa pn pc] 61)).heap.size (wr.alloc (.cells #[.int .i64 r, .slice pa pn pc] 61)) w5 := ((Below.refl _ (wr.alloc (.cells #[.int .i64 r, .slice pa pn pc] 61))).drew).trans b5
        exact ⟨W1.out.1.keep hb, NewSt.base s2 W1.out.1.bel.size, m2, (hb.block _ (lt_of_heapK W1.out.2.1)).trans W1.out.2.1⟩
      clear s2 m2 b5
      go_wp2_with fail
      refine hK.out _ _ ?hS9e (fun hHeld => ?r9e)
      case hS9e => exact ⟨X5.out.1.box, X5.out.2.2.2⟩
      clear hK K
      try simp only [Act.put, List.setIfInBounds_toArray, List.set_cons_zero, List.set_cons_succ, List.getElem_toArray, List.getElem_cons_zero, List.getElem_cons_succ]
      refine AnyE.take (i := 10) (v := .agg #[.int .i64 r, .slice a2 n2 c2]) rfl (by kernel_rfl) (by kernel_rfl) (by kernel_rfl) (by kernel_rfl) (fun _ _ _ h => h) (Or.inl ⟨by kernel_rfl, ?hy10e⟩) hHeld ?r10e
      case hy10e => (intro w' hSw; (try dsimp only at hSw); go_simp; try with_reducible rfl)
      try simp only [Act.put, List.setIfInBounds_toArray, List.set_cons_zero, List.set_cons_succ, List.getElem_toArray, List.getElem_cons_zero, List.getElem_cons_succ]
      have A6 : Hid (OpSt w (w5.alloc (.cells #[.int .i64 r, .slice a2 n2 c2] 61)) yb q st (.slice ra rn rc) (.slice la ql lc) (P.map Pv.r) Q ((P.take j).map fun p => (p.r, p.co)) ∧ NewSt (w5.alloc (.cells #[.int .i64 r, .slice a2 n2 c2] 61)) w.heap.size a2 n2 c2 M2 ∧ (w5.alloc (.cells #[.int .i64 r, .slice a2 n2 c2] 61)).heap[w5.heap.size]? = some (.cells #[.int .i64 r, .slice a2 n2 c2] 61) ∧ (w5.alloc (.cells #[.int .i64 r, .slice a2 n2 c2] 61)).heap[wr.heap.size]? = some (.cells #[.int .i64 r, .slice pa pn pc] 61)) := ⟨X5.out.1.keep (below1 w5 _), X5.out.2.1.keep (below1 w5 _), heap_alloc_new w5 _, ((below1 w5 _).block _ (lt_of_heapK X5.out.2.2.2)).trans X5.out.2.2.2⟩
      refine AnyE.ready (rs := [11]) (by kernel_rfl) (by simp) ?_
      refine (ReadyE.cons rfl (fun K hK => ?_) ReadyE.nil)
      go_simp
      refine hK.out _ _ ?hS11e (fun hHeld => ?r11e)
      case hS11e => exact ⟨A6.out.1.box, A6.out.2.2.2⟩
      clear hK K
      try simp only [Act.put, List.setIfInBounds_toArray, List.set_cons_zero, List.set_cons_succ, List.getElem_toArray, List.getElem_cons_zero, List.getElem_cons_succ]
      refine AnyE.ready (rs := [12]) (by kernel_rfl) (by simp) ?_
      refine (ReadyE.cons rfl (fun K hK => ?_) ReadyE.nil)
      first | rw [if_pos (by kernel_rfl)] | skip
      refine wp_append_pv (.tmp 36) (.tmp 43) rfl w.heap.size _ Q rfl A6.out.1.lacks w5.heap.size 1 ⟨r, a2, n2, c2, M2⟩ rfl A6.out.2.2.1 (by have := HQ.out; omega) A6.out.1.bel.size ?_
      intro v9 w9 o9 g9
      obtain ⟨k9, n9⟩ := A6.out.1.mid o9 g9 A6.out.2.1
      obtain ⟨a9, c9, hv9, _⟩ := n9.lacks.slice (fun p hp => (n9.each p hp).st)
      subst hv9
      obtain ⟨q9, hq9⟩ : ∃ q9, q9 = (Q ++ [(⟨r, a2, n2, c2, M2⟩ : Pv)]).length := ⟨_, rfl⟩
      rw [← hq9] at n9 o9
      have O9 : Hid (OpSt w (w9.setCell ⟨yb, 4, none⟩ (.slice a9 q9 c9)) yb q st (.slice ra rn rc) (.slice a9 q9 c9) (P.map Pv.r) (Q ++ [⟨r, a2, n2, c2, M2⟩]) (((P.take j).map fun p => (p.r, p.co)) ++ [(r, M2.map co)])) := n9
      have K9 : Hid (w9.heap[yb]? = some (.cells #[.int .i64 q, .int .i64 st, .int .i64 0, .slice ra rn rc, .slice la ql lc] 75) ∧ w9.heap[wr.heap.size]? = some (.cells #[.int .i64 r, .slice pa pn pc] 61)) := ⟨k9, (g9.block _ (lt_of_heapK A6.out.2.2.2) (fun e => W1.out.2.2 _ e.symm rfl)).trans A6.out.2.2.2⟩
      try rw [← hq9]
      clear o9 g9 n9 k9 hq9
      refine hK.out _ _ ?hS12e (fun hHeld => ?r12e)
      case hS12e => exact K9.out
      clear hK K
      try simp only [Act.put, List.setIfInBounds_toArray, List.set_cons_zero, List.set_cons_succ, List.getElem_toArray, List.getElem_cons_zero, List.getElem_cons_succ]
      refine AnyE.ready (rs := [13]) (by kernel_rfl) (by simp) ?_
      refine (ReadyE.cons rfl (fun K hK => ?_) ReadyE.nil)
      go_simp
      refine hK.out _ _ ?hS13e (fun hHeld => ?r13e)
      case hS13e => exact K9.out
      clear hK K
      try simp only [Act.put, List.setIfInBounds_toArray, List.set_cons_zero, List.set_cons_succ, List.getElem_toArray, List.getElem_cons_zero, List.getElem_cons_succ]
      refine AnyE.take (i := 14) (v := .pointer (some ⟨yb, 4, none⟩)) rfl (by kernel_rfl) (by kernel_rfl) (by kernel_rfl) (by kernel_rfl) (fun _ _ _ h => h) (Or.inl ⟨by kernel_rfl, ?hy14e⟩) hHeld ?r14e
      case hy14e => (intro w' hSw; (try dsimp only at hSw); go_simp; try with_reducible rfl)
      try simp only [Act.put, List.setIfInBounds_toArray, List.set_cons_zero, List.set_cons_succ, List.getElem_toArray, List.getElem_cons_zero, List.getElem_cons_succ]
      obtain ⟨_, _, _, _, z4⟩ := tr_cells K9.out.1
      have fz := frozen_blk K9.out.1 4
      refine AnyE.ready (rs := [15]) (by kernel_rfl) (by simp) ?_
      refine ReadyE.last rfl (by simp) (fun K hK => ?_) ReadyE.nil
      go_simp
      refine hK.out _ _ ?_
      clear hK K
      try simp only [Act.put, List.setIfInBounds_toArray, List.set_cons_zero, List.set_cons_succ, List.getElem_toArray, List.getElem_cons_zero, List.getElem_cons_succ]
      refine AnyE.done (by kernel_rfl) ?_ _
      refine NoPanic.normal ?_
      try go_wp2_with fail
      go_roundg (np - (j + 1))
      case measure => omega
      case rel =>
        refine ⟨j + 1, .slice a9 q9 c9, Q ++ [⟨r, a2, n2, c2, M2⟩], by omega, rfl, by push_cast; rfl, ?_⟩
        have h9 := O9.out
        rw [X5.out.2.2.1] at h9
        rw [HT.out]
        exact h9
    · obtain rfl : j = np := by omega
      have j1 : decide ((j : Int) < (j : Int)) = false := by rw [decide_eq_false_iff_not]; omega
      have j3 : decide (j < j) = false := by rw [decide_eq_false_iff_not]; omega
      obtain ⟨wo, hwo⟩ : ∃ wo, wo = wr := ⟨_, rfl⟩
      rw [← hwo] at RW ⊢
      clear hwo
      have RO : Hid (OpSt w wo yb q st (.slice ra rn rc) vl (P.map Pv.r) Q (P.map fun p => (p.r, p.co))) := by
        have := RW.out
        rwa [List.take_of_length_le (by rw [HP.out.2.1]; exact Nat.le_refl _)] at this
      have HC3 : Hid (Cd wo F b lim n m B X) := HH.out.1.kept RO.out.bel.size (fun k hk => RO.out.bel.block k (HH.out.1.lt k hk))
      obtain ⟨d0, d1⟩ := HC3.out.box.cells
      clear RW c0 c1 hlk
      go_wp2_with (refine wpList_put_scp rfl (.tmp 51) (.tmp 52) (.tmp 53) rfl m n _ rfl HC3.out.map (by have := HH.out.2.2.2; omega) q HH.out.2.1 (some yb) rfl rfl ?_; intro w4 s4 g4; have F4 : Hid (ScP w4 m (n + 1) (fun p => if p = q then some (some yb) else (B p).map fun y => some y.1) ∧ wo.grownBy w4 (some m)) := ⟨s4, g4⟩; clear s4 g4)
      have C4 : Hid (Cd w4 (fun k => F k ∨ (w.heap.size ≤ k ∧ k < wo.heap.size)) b lim (n + 1) m (updB B q (yb, vl.ownBlock)) (updX X q ⟨st, 0, P.map Pv.r, P.map fun p => (p.r, p.co)⟩)) := by
        refine HH.out.1.put HH.out.2.1 (HH.out.1.no q HH.out.2.2.1) RO.out.bel (fun k hk => .inl hk) (fun k hk => ?_) F4.out.2 F4.out.1 RO.out.new (fun k hk => (RO.out.lacks.own k hk).1) ?_ (fun k hk => ?_) (fun k hk e => by rw [e]; exact HH.out.1.fm)
        · have h1 := RO.out.bel.size
          have h2 := F4.out.2.size
          rcases hk with hk | hk
          · have := HH.out.1.lt k hk; omega
          · omega
        · refine ⟨.slice ra rn rc, vl, Q, RO.out.box, rfl, RO.out.roots.base (Nat.zero_le _), RO.out.lacks.base (Nat.zero_le _), fun p hp => (RO.out.each p hp).base (Nat.zero_le _), RO.out.co, .inr ⟨RO.out.new, lt_of_heapK RO.out.box⟩, fun k hk => .inr (RO.out.roots.own k hk), fun k hk => .inr (RO.out.lacks.own k hk), fun p hp k hk => ?_⟩
          obtain ⟨h1, h2, _⟩ := (RO.out.each p hp).typ k hk
          exact .inr ⟨h1, h2⟩
        · rcases hk with hk | hk
          · exact .inr (Nat.lt_of_lt_of_le (HH.out.1.lt k hk) RO.out.bel.size)
          · exact .inr hk.2
      have S4 : Hid (Stp F (fun k => F k ∨ (w.heap.size ≤ k ∧ k < wo.heap.size)) w w4) := by
        refine ⟨(Off.ofBelow F RO.out.bel).grown F4.out.2 (fun k hk => by cases hk; exact .inl HH.out.1.fm), fun k hk => ?_⟩
        rcases hk with hk | hk
        · exact .inl hk
        · exact .inr hk.1
      have KL : Hid (Calls Try.prog 31 #[.pointer (some ⟨yb, 0, none⟩)] w4 fun e w' => ∃ V Q, e = .returned V ∧ Ltr w4.heap.size w' V kd q Q ∧ Q.map (fun p => (p.r, p.co)) = (P.map fun p => (p.r, p.co)) ∧ Below w4.heap.size w4 w') := by
        obtain ⟨_, y, hy, ht⟩ := C4.out.each q _ (if_pos rfl)
        have e : y = (yb, vl.ownBlock) := by
          unfold updB at hy
          rw [if_pos rfl] at hy
          exact (Option.some.inj hy).symm
        subst e
        rw [HKD.out]
        exact tlack_is w4 _ (yb, vl.ownBlock) q _ ht (by show (P.map _).length ≤ 1000; rw [List.length_map]; have := HP.out.2; omega)
      clear F4 HC3 d0 d1
      refine KL.out.mono ?_
      rintro e w5 ⟨V, Q5, rfl, l5, q5, b5⟩
      have X5 : Hid (Ltr w4.heap.size w5 V kd q Q5 ∧ Q5.map (fun p => (p.r, p.co)) = (P.map fun p => (p.r, p.co)) ∧ Below w4.heap.size w4 w5) := ⟨l5, q5, b5⟩
      clear l5 q5 b5 KL
      go_wp2_with fail
      go_ret2
      refine ⟨V, rfl, Q5, _, _, w4.heap.size, C4.out.keep X5.out.2.2, ?_, C4.out.lt, X5.out.1, X5.out.2.1⟩
      exact ⟨S4.out.off.andBelow X5.out.2.2, S4.out.sub⟩
end Go.Proofs.Ythaeidbnbgghkaa
namespace Go.Proofs.Ythaeidbnbgghkaa
open Go.ChangeShapes Go.WideShapes Go.ChangeAt Go.RowKit Go.Deep Go.Maps
set_option linter.unusedVariables false
set_option linter.unusedSimpArgs false
set_option maxRecDepth 100000 in
set_option maxHeartbeats 8000000 in
theorem begin_no (w : World) (v : Value) (h : NoCo w v) (q : Int) (a : Option Addr) (n c : Nat) (l : List Rl) (hl : InRl w a l) (hn : l.length = n) (hN : n ≤ 17592186044415) :
    Calls Try.prog 9 #[v, .int .i64 q, .slice a n c] w fun e w' => e = .returned (.tuple #[.slice none 0 0, .int .i64 1]) ∧ Below w.heap.size w w' := by
  have KR : Hid (Calls Try.prog 26 #[.slice a n c] w fun e w' => ∃ V, e = .returned V ∧ OwnZ w' w.heap.size V (l.map Rl.r) ∧ Below w.heap.size w w') := rootsOf_is w a n c l hl hn hN
  have KW : Hid (∀ W V, Below w.heap.size w W → Calls Try.prog 25 #[v, .int .i64 q, V] W fun e w' => e = .returned (.int .i64 1) ∧ w' = W) := fun W V hW => wrong_no W v (h.keep hW) q V
  clear h hl hn
  go_enter Try.func9, Try.ntmps9
  go_wp2_with fail
  refine KR.out.mono ?_
  rintro e w1 ⟨V, rfl, _, b1⟩
  have B1 : Hid (Below w.heap.size w w1) := b1
  clear b1 KR
  go_wp2_with fail
  refine (KW.out w1 V B1.out).mono ?_
  rintro e w2 ⟨rfl, h2⟩
  have B2 : Hid (Below w.heap.size w w2) := by rw [h2]; exact B1.out
  clear h2
  go_wp2_with fail
  go_ret2
  exact ⟨rfl, B2.out⟩
set_option maxRecDepth 100000 in
set_option maxHeartbeats 8000000 in
theorem recall_no (w : World) (v : Value) (h : NoCo w v) (q : Int) (V : Value) :
    Calls Try.prog 10 #[v, .int .i64 q, V] w fun e w' => e = .returned (.tuple #[.slice none 0 0, .int .i64 1]) ∧ Below w.heap.size w w' := by
  have KW := wrong_no w v h q V
  clear h
  go_enter Try.func10, Try.ntmps10
  go_wp2_with fail
  refine KW.mono ?_
  rintro e w2 ⟨rfl, h2⟩
  have B2 : Hid (Below w.heap.size w w2) := by rw [h2]; exact Below.refl _ _
  clear h2
  go_wp2_with fail
  go_ret2
  exact ⟨rfl, B2.out⟩
theorem OpSaid.from {w u w' : World} {F : Nat → Prop} {b : Nat} {lim : Int} {n m : Nat} {X : Int → Option Tr} {q kd : Int} {L : List (Int × List Pc)} {V : Value} (h : OpSaid u w' F b lim n m X q kd L V) (hb : Below w.heap.size w u) : OpSaid w w' F b lim n m X q kd L V := by
  obtain ⟨Q, F', B', h0, h1, h2, h3, h4, h5⟩ := h
  exact ⟨Q, F', B', h0, h1, (Stp.below hb).trans h2, h3, h4, h5⟩
/-- what Recall and Begin answer -/
def opE15 (X : Int → Option Tr) (q : Int) (l : List Int) (E : Int) : Int := if wrgE q l ≠ 0 then wrgE q l else if E ≠ 0 then E else if (X q).isSome then 8 else 0
set_option maxRecDepth 100000 in
set_option maxHeartbeats 8000000 in
theorem recall_is (w : World) (F : Nat → Prop) (b : Nat) (lim : Int) (n m : Nat) (B : Int → Option (Nat × Option Nat)) (X : Int → Option Tr) (h : Cd w F b lim n m B X) (hn : n < 1000000000) (q : Int) (hq : InI q) (a : Option Addr) (nr c : Nat) (l : List Int) (hl : InZ w a l) (hnr : l.length = nr) (hN : nr ≤ 1000) :
    Calls Try.prog 10 #[.pointer (some ⟨b, 0, none⟩), .int .i64 q, .slice a nr c] w fun e w' => ∃ V, e = .returned (.tuple #[V, .int .i64 (opE15 X q l 0)]) ∧ (opE15 X q l 0 ≠ 0 → V = .slice none 0 0 ∧ Below w.heap.size w w') ∧ (opE15 X q l 0 = 0 → OpSaid w w' F b lim (n + 1) m (updX X q ⟨3, 0, l, l.map fun r => (r, [])⟩) q 3 (l.map fun r => (r, [])) V) := by
  have HH : Hid (Cd w F b lim n m B X ∧ InI q ∧ n < 1000000000) := ⟨h, hq, hn⟩
  have KW : Hid (Calls Try.prog 25 #[.pointer (some ⟨b, 0, none⟩), .int .i64 q, .slice a nr c] w fun e w' => e = .returned (.int .i64 (wrgE q l)) ∧ Below w.heap.size w w') := wrong_co w b lim m h.box q a nr c l hl hnr (by omega)
  have KB : Hid (∀ W, Below w.heap.size w W → Calls Try.prog 29 #[.slice a nr c] W fun e w' => ∃ pa pn pc, e = .returned (.slice pa pn pc) ∧ InPv w' pa (l.map bPv) ∧ (l.map bPv).length = pn ∧ (∀ x ∈ l.map bPv, PvOk w' x) ∧ pn ≤ 1000 ∧ Below W.heap.size W w') := fun W hW => by
    refine (bare_is W a nr c l (hl.keep hW) hnr (by omega)).mono ?_
    rintro e w' ⟨V, rfl, h1, h2⟩
    have hok : ∀ x ∈ l.map bPv, PvOk w' x := fun x hx => by
      obtain ⟨r, _, rfl⟩ := List.mem_map.1 hx
      exact StAt.none w'
    obtain ⟨pa, pc, hv, h3, _⟩ := h1.slice hok
    exact ⟨pa, _, pc, congrArg Ending.returned hv, h3, rfl, hok, by rw [List.length_map]; omega, h2⟩
  obtain ⟨E, hE⟩ : ∃ E, E = wrgE q l := ⟨_, rfl⟩
  obtain ⟨R, hR⟩ : ∃ R, R = opE15 X q l 0 := ⟨_, rfl⟩
  have HE : Hid (R = if E ≠ 0 then E else if (X q).isSome then 8 else 0) := by
    show _ = _
    rw [hR, hE]
    unfold opE15
    simp
  rw [← hE] at KW
  rw [← hR]
  clear h hn hq hl hnr hE hR
  by_cases h0 : E = 0
  case neg =>
    have e0 : (E != 0) = true := by simpa using h0
    have HF : Hid (R = E ∧ E ≠ 0) := ⟨HE.out.trans (if_pos h0), h0⟩
    clear h0
    go_enter Try.func10, Try.ntmps10
    go_wp2_with fail
    refine KW.out.mono ?_
    rintro e w2 ⟨rfl, b2⟩
    have B2 : Hid (Below w.heap.size w w2) := b2
    clear b2 KW
    go_wp2_with fail
    go_ret2
    rw [HF.out.1]
    exact ⟨_, rfl, fun _ => ⟨rfl, B2.out⟩, fun h => absurd h HF.out.2⟩
  subst h0
  have HE2 : Hid (R = if (X q).isSome then 8 else 0) := HE.out.trans (if_neg (fun h => h rfl))
  have e0 : ((0 : Int) != 0) = false := by decide
  cases hX : X q with
  | some x =>
    have HF : Hid (R = 8) := by have := HE2.out; rw [hX] at this; exact this
    have KO : Hid (∀ W pa pn pc, Below w.heap.size w W → Calls Try.prog 28 #[.pointer (some ⟨b, 0, none⟩), .int .i64 q, .int .i64 3, .slice pa pn pc] W fun e w' => e = .returned (.tuple #[.slice none 0 0, .int .i64 8]) ∧ w' = W) := fun W pa pn pc hW => open_there W F b lim n m B X (HH.out.1.keep hW) q x hX 3 pa pn pc
    clear hX
    go_enter Try.func10, Try.ntmps10
    go_wp2_with fail
    refine KW.out.mono ?_
    rintro e w2 ⟨rfl, b2⟩
    have B2 : Hid (Below w.heap.size w w2) := b2
    clear b2 KW
    go_wp2_with fail
    refine (KB.out w2 B2.out).mono ?_
    rintro e w3 ⟨pa, pn, pc, rfl, i3, l3, k3, n3, b3⟩
    have B3 : Hid (Below w.heap.size w w3) := B2.out.trans (b3.mono B2.out.size)
    clear i3 l3 k3 n3 b3
    go_wp2_with fail
    refine (KO.out w3 pa pn pc B3.out).mono ?_
    rintro e w4 ⟨rfl, h4⟩
    obtain rfl := h4.symm
    clear h4
    go_wp2_with fail
    go_ret2
    rw [HF.out]
    exact ⟨_, rfl, fun _ => ⟨rfl, B3.out⟩, fun h => by cases h⟩
  | none =>
    have HF : Hid (R = 0) := by have := HE2.out; rw [hX] at this; exact this
    have KO : Hid (∀ W pa pn pc, Below w.heap.size w W → InPv W pa (l.map bPv) → (l.map bPv).length = pn → (∀ x ∈ l.map bPv, PvOk W x) → pn ≤ 1000 → Calls Try.prog 28 #[.pointer (some ⟨b, 0, none⟩), .int .i64 q, .int .i64 3, .slice pa pn pc] W fun e w' => ∃ V, e = .returned (.tuple #[V, .int .i64 0]) ∧ OpSaid W w' F b lim (n + 1) m (updX X q ⟨3, 0, l, l.map fun r => (r, [])⟩) q 3 (l.map fun r => (r, [])) V) := fun W pa pn pc hW i3 l3 k3 n3 => by
      have h := open_is W F b lim n m B X (HH.out.1.keep hW) HH.out.2.2 q HH.out.2.1 hX 3 pa pn pc (l.map bPv) i3 l3 n3 k3
      rw [List.map_map, List.map_map, show l.map (Pv.r ∘ bPv) = l by rw [show (Pv.r ∘ bPv) = id from rfl, List.map_id]] at h
      exact h
    clear hX
    go_enter Try.func10, Try.ntmps10
    go_wp2_with fail
    refine KW.out.mono ?_
    rintro e w2 ⟨rfl, b2⟩
    have B2 : Hid (Below w.heap.size w w2) := b2
    clear b2 KW
    go_wp2_with fail
    refine (KB.out w2 B2.out).mono ?_
    rintro e w3 ⟨pa, pn, pc, rfl, i3, l3, k3, n3, b3⟩
    have B3 : Hid (Below w.heap.size w w3) := B2.out.trans (b3.mono B2.out.size)
    have K3 := KO.out w3 pa pn pc B3.out i3 l3 k3 n3
    clear i3 l3 k3 n3 b3
    go_wp2_with fail
    refine K3.mono ?_
    rintro e w4 ⟨V, rfl, o4⟩
    have O4 : Hid (OpSaid w3 w4 F b lim (n + 1) m (updX X q ⟨3, 0, l, l.map fun r => (r, [])⟩) q 3 (l.map fun r => (r, [])) V) := o4
    clear o4 K3
    go_wp2_with fail
    go_ret2
    rw [HF.out]
    exact ⟨V, rfl, fun h => absurd rfl h, fun _ => O4.out.from B3.out⟩
/-- the first package list that may not be -/
def chkF : List Pv → Int
  | [] => 0
  | p :: r => if pchk p.M ≠ 0 then pchk p.M else chkF r
set_option maxRecDepth 100000 in
set_option maxHeartbeats 8000000 in
theorem begin_is (w : World) (F : Nat → Prop) (b : Nat) (lim : Int) (n m : Nat) (B : Int → Option (Nat × Option Nat)) (X : Int → Option Tr) (h : Cd w F b lim n m B X) (hn : n < 1000000000) (q : Int) (hq : InI q) (a : Option Addr) (np c : Nat) (P : List Pv) (hP : InPv w a P) (hnp : P.length = np) (hN : np ≤ 1000) (hok : ∀ x ∈ P, PvOk w x) :
    Calls Try.prog 9 #[.pointer (some ⟨b, 0, none⟩), .int .i64 q, .slice a np c] w fun e w' => ∃ V, e = .returned (.tuple #[V, .int .i64 (opE15 X q (P.map Pv.r) (chkF P))]) ∧ (opE15 X q (P.map Pv.r) (chkF P) ≠ 0 → V = .slice none 0 0 ∧ Below w.heap.size w w') ∧ (opE15 X q (P.map Pv.r) (chkF P) = 0 → OpSaid w w' F b lim (n + 1) m (updX X q ⟨1, 0, P.map Pv.r, P.map fun p => (p.r, p.co)⟩) q 1 (P.map fun p => (p.r, p.co)) V) := by
  have HH : Hid (Cd w F b lim n m B X ∧ InI q ∧ n < 1000000000) := ⟨h, hq, hn⟩
  have HP : Hid (InPv w a P ∧ P.length = np ∧ np ≤ 1000 ∧ ∀ x ∈ P, PvOk w x) := ⟨hP, hnp, hN, hok⟩
  have KR : Hid (Calls Try.prog 26 #[.slice a np c] w fun e w' => ∃ ra rn rc, e = .returned (.slice ra rn rc) ∧ InZ w' ra (P.map Pv.r) ∧ (P.map Pv.r).length = rn ∧ rn ≤ 1000 ∧ Below w.heap.size w w') := by
    have h := rootsOf_is w a np c _ hP.rl (by rw [List.length_map]; exact hnp) (by omega)
    rw [List.map_map, show P.map (Rl.r ∘ fun x => ⟨x.r, x.a, x.n, x.c⟩) = P.map Pv.r from rfl] at h
    refine h.mono ?_
    rintro e w' ⟨V, rfl, h1, h2⟩
    obtain ⟨ra, rc, hv, h3, _⟩ := h1.slice
    exact ⟨ra, _, rc, congrArg Ending.returned hv, h3, rfl, by rw [List.length_map]; omega, h2⟩
  have KW : Hid (∀ W ra rn rc, Below w.heap.size w W → InZ W ra (P.map Pv.r) → (P.map Pv.r).length = rn → rn ≤ 1000 → Calls Try.prog 25 #[.pointer (some ⟨b, 0, none⟩), .int .i64 q, .slice ra rn rc] W fun e w' => e = .returned (.int .i64 (wrgE q (P.map Pv.r))) ∧ Below W.heap.size W w') := fun W ra rn rc hW h1 h2 h3 => wrong_co W b lim m (h.keep hW).box q ra rn rc _ h1 h2 (by omega)
  obtain ⟨E, hE⟩ : ∃ E, E = wrgE q (P.map Pv.r) := ⟨_, rfl⟩
  obtain ⟨R, hR⟩ : ∃ R, R = opE15 X q (P.map Pv.r) (chkF P) := ⟨_, rfl⟩
  have HE : Hid (R = if E ≠ 0 then E else if chkF P ≠ 0 then chkF P else if (X q).isSome then 8 else 0) := by
    show _ = _
    rw [hR, hE]
    rfl
  rw [← hE] at KW
  rw [← hR]
  clear h hn hq hP hnp hok hE hR
  go_enter Try.func9, Try.ntmps9
  go_wp2_with fail
  refine KR.out.mono ?_
  rintro e w1 ⟨ra, rn, rc, rfl, z1, zl, zn, b1⟩
  have B1 : Hid (Below w.heap.size w w1) := b1
  have K1 := KW.out w1 ra rn rc b1 z1 zl zn
  clear z1 zl zn b1 KR KW
  go_wp2_with fail
  refine K1.mono ?_
  rintro e w2 ⟨rfl, b2⟩
  have B2 : Hid (Below w.heap.size w w2) := B1.out.trans (b2.mono B1.out.size)
  clear b2 K1
  by_cases h0 : E = 0
  case neg =>
    have e0 : (E != 0) = true := by simpa using h0
    have HF : Hid (R = E ∧ E ≠ 0) := ⟨HE.out.trans (if_pos h0), h0⟩
    clear h0
    go_wp2_with fail
    go_ret2
    rw [HF.out.1]
    exact ⟨_, rfl, fun _ => ⟨rfl, B2.out⟩, fun h => absurd h HF.out.2⟩
  subst h0
  have HE2 : Hid (R = if chkF (P.drop 0) ≠ 0 then chkF (P.drop 0) else if (X q).isSome then 8 else 0) := HE.out.trans (if_neg (fun h => h rfl))
  clear HE
  have e0 : ((0 : Int) != 0) = false := by decide
  go_wp2_with fail
  go_loopg [22] np (fun g i wr => ∃ (j : Nat), j ≤ np ∧ g = np - j ∧ i = .int .i64 (j : Int) ∧ Hid ((R = if chkF (P.drop j) ≠ 0 then chkF (P.drop j) else if (X q).isSome then 8 else 0) ∧ Below w.heap.size w wr))
  case atStart => exact ⟨0, Nat.zero_le _, rfl, rfl, HE2.out, B2.out⟩
  case round =>
    obtain ⟨j, hj, rfl, rfl, RW⟩ := hrel
    by_cases hlt : j < np
    · have j1 : decide ((j : Int) < (np : Int)) = true := by rw [decide_eq_true_eq]; omega
      have j3 : decide (j < np) = true := by rw [decide_eq_true_eq]; omega
      have j4 : (j : Int) < (np : Int) := by omega
      have ri : IntKind.i64.wrap ((j : Int) + 1) = (j : Int) + 1 := by rw [IntKind.wrap_i64]; omega
      obtain ⟨y, hy⟩ : ∃ y, P[j]? = some y := ⟨P[j]'(by rw [HP.out.2.1]; exact hlt), List.getElem?_eq_getElem _⟩
      obtain ⟨b3, off, rfl, hbw, hpc, hyk⟩ := HP.out.1.at hy
      have p0 : wr.cell? ⟨b3, off + j * 2, none⟩ = some (.int .i64 y.r) := by simpa using hpc wr RW.out.2 0 _ rfl
      have p1 : wr.cell? ⟨b3, off + j * 2 + 1, none⟩ = some (.slice y.a y.n y.c) := hpc wr RW.out.2 1 _ rfl
      have HX : Hid (R = if (if pchk y.M ≠ 0 then pchk y.M else chkF (P.drop (j + 1))) ≠ 0 then (if pchk y.M ≠ 0 then pchk y.M else chkF (P.drop (j + 1))) else if (X q).isSome then 8 else 0) := by
        have := RW.out.1
        obtain ⟨hj', e⟩ := List.getElem?_eq_some_iff.1 hy
        rw [List.drop_eq_getElem_cons hj', e] at this
        exact this
      have HB1 : Hid (Below w.heap.size w (wr.alloc (.cells #[.int .i64 y.r, .slice y.a y.n y.c] 61))) := RW.out.2.alloc RW.out.2.size _
      have KC : Hid (Calls Try.prog 27 #[.slice y.a y.n y.c] (wr.alloc (.cells #[.int .i64 y.r, .slice y.a y.n y.c] 61)) fun e w' => e = .returned (.int .i64 (pchk y.M)) ∧ Below (wr.alloc (.cells #[.int .i64 y.r, .slice y.a y.n y.c] 61)).heap.size (wr.alloc (.cells #[.int .i64 y.r, .slice y.a y.n y.c] 61)) w') := by
        have hk : StAt (wr.alloc (.cells #[.int .i64 y.r, .slice y.a y.n y.c] 61)) y.a y.n y.c y.M := hyk.keep HB1.out
        exact dbcheck_is _ y.a y.n y.c y.M hk.inp hk.len hk.cap hk.cap9 (by have := hk.big; omega)
      generalize pchk y.M = D at HX KC
      obtain ⟨r, pa, pn, pc, pM⟩ := y
      simp only at p0 p1 KC HB1
      clear hy hpc hyk
      go_wp2_with fail
      refine KC.out.mono ?_
      rintro e w3 ⟨rfl, b3'⟩
      have B3 : Hid (Below w.heap.size w w3) := HB1.out.trans (b3'.mono HB1.out.size)
      clear b3' KC p0 p1
      by_cases hD : D = 0
      · subst hD
        have HX2 : Hid (R = if chkF (P.drop (j + 1)) ≠ 0 then chkF (P.drop (j + 1)) else if (X q).isSome then 8 else 0) := by
          have := HX.out
          rwa [if_neg (show ¬ ((0 : Int) ≠ 0) from fun h => h rfl)] at this
        go_wp2_with fail
        go_roundg (np - (j + 1))
        case measure => omega
        case rel => exact ⟨j + 1, by omega, rfl, by push_cast; rfl, HX2.out, B3.out⟩
      · have e1 : (D != 0) = true := by simpa using hD
        have HF : Hid (R = D ∧ D ≠ 0) := by
          refine ⟨?_, hD⟩
          have := HX.out
          rw [if_pos hD, if_pos hD] at this
          exact this
        clear hD
        go_wp2_with fail
        go_ret2
        rw [HF.out.1]
        exact ⟨_, rfl, fun _ => ⟨rfl, B3.out⟩, fun h => absurd h HF.out.2⟩
    · obtain rfl : j = np := by omega
      have j1 : decide ((j : Int) < (j : Int)) = false := by rw [decide_eq_false_iff_not]; omega
      have j3 : decide (j < j) = false := by rw [decide_eq_false_iff_not]; omega
      have HX2 : Hid (R = if (X q).isSome then 8 else 0) := by
        have := RW.out.1
        rwa [List.drop_of_length_le (by rw [HP.out.2.1]; exact Nat.le_refl _), if_neg (by intro h; exact h rfl)] at this
      cases hX : X q with
      | some x =>
        have HF : Hid (R = 8) := by have := HX2.out; rw [hX] at this; exact this
        have KO : Hid (Calls Try.prog 28 #[.pointer (some ⟨b, 0, none⟩), .int .i64 q, .int .i64 1, .slice a j c] wr fun e w' => e = .returned (.tuple #[.slice none 0 0, .int .i64 8]) ∧ w' = wr) := open_there wr F b lim n m B X (HH.out.1.keep RW.out.2) q x hX 1 a j c
        clear hX
        go_wp2_with fail
        refine KO.out.mono ?_
        rintro e w4 ⟨rfl, h4⟩
        have B4 : Hid (Below w.heap.size w w4) := by rw [h4]; exact RW.out.2
        clear h4
        go_wp2_with fail
        go_ret2
        rw [HF.out]
        exact ⟨_, rfl, fun _ => ⟨rfl, B4.out⟩, fun h => by cases h⟩
      | none =>
        have HF : Hid (R = 0) := by have := HX2.out; rw [hX] at this; exact this
        have KO : Hid (Calls Try.prog 28 #[.pointer (some ⟨b, 0, none⟩), .int .i64 q, .int .i64 1, .slice a j c] wr fun e w' => ∃ V, e = .returned (.tuple #[V, .int .i64 0]) ∧ OpSaid wr w' F b lim (n + 1) m (updX X q ⟨1, 0, P.map Pv.r, P.map fun p => (p.r, p.co)⟩) q 1 (P.map fun p => (p.r, p.co)) V) :=
          open_is wr F b lim n m B X (HH.out.1.keep RW.out.2) HH.out.2.2 q HH.out.2.1 hX 1 a j c P (HP.out.1.keep RW.out.2) HP.out.2.1 HP.out.2.2.1 (fun x hx => (HP.out.2.2.2 x hx).keep RW.out.2)
        clear hX
        go_wp2_with fail
        refine KO.out.mono ?_
        rintro e w4 ⟨V, rfl, o4⟩
        have O4 : Hid (OpSaid w w4 F b lim (n + 1) m (updX X q ⟨1, 0, P.map Pv.r, P.map fun p => (p.r, p.co)⟩) q 1 (P.map fun p => (p.r, p.co)) V) := o4.from RW.out.2
        clear o4 KO
        go_wp2_with fail
        go_ret2
        rw [HF.out]
        exact ⟨V, rfl, fun h => absurd rfl h, fun _ => O4.out⟩
end Go.Proofs.Ythaeidbnbgghkaa
