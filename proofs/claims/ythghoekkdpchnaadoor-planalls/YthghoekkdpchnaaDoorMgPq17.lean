/- spoil: numbers turn into others, nothing else. op, works. Slices of bytes in memory: what they hold, append(s, x...), string(b), what stays over changes of the world. -/
import Derived.Test.YthghoekkdpchnaaDoorMgPq16
import Derived.Test.YthghoekkdpchnaaDoorMgPq1
import Derived.Test.YthghoekkdpchnaaDoorMgPq0
import Derived.WalkSpells
import Derived.WalkLawsBesides
import Derived.Outline
import Derived.LoopTactic
import Derived.Deep.LoopGhost
import Derived.Deep.OwnRows
import Derived.Laws.BitsAllLaws
import Derived.Laws.Bits64
import Derived.Laws.BytesArg
import Derived.OwnWalk
import Derived.Laws.AppendOwnNone
namespace Go.Proofs.YthghoekkdpchnaaDoor
open Go.ChangeShapes Go.WideShapes Go.ChangeAt Go.RowKit Go.Deep Go.Maps
set_option linter.unusedVariables false
set_option linter.unusedSimpArgs false
/-- from block z on only numbers have turned into other ones -/
structure Soft (z : Nat) (w w' : World) : Prop where
  bel : Below z w w'
  cell : ∀ a, w'.cell? a = w.cell? a ∨ ∃ i j, w.cell? a = some (.int .i64 i) ∧ w'.cell? a = some (.int .i64 j)
  row : ∀ (k : Nat) (cs : Array Value) (t : TypeId), w.heap[k]? = some (Obj.cells cs t) → ∃ cs', w'.heap[k]? = some (Obj.cells cs' t)
theorem Soft.refl (w : World) : Soft w.heap.size w w := ⟨Below.refl _ _, fun _ => .inl rfl, fun k cs t h => ⟨cs, h⟩⟩
theorem Soft.trans {z : Nat} {a b c : World} (h : Soft z a b) (g : Soft z b c) : Soft z a c := by
  refine ⟨h.bel.trans g.bel, fun x => ?_, fun k cs t hk => ?_⟩
  · rcases g.cell x with e | ⟨i, j, e1, e2⟩
    · rcases h.cell x with f | ⟨i, j, f1, f2⟩
      · exact .inl (e.trans f)
      · exact .inr ⟨i, j, f1, e.trans f2⟩
    · rcases h.cell x with f | ⟨i', j', f1, f2⟩
      · exact .inr ⟨i, j, f.symm.trans e1, e2⟩
      · exact .inr ⟨i', j, f1, e2⟩
  · obtain ⟨c1, h1⟩ := h.row k cs t hk
    exact g.row k c1 t h1
theorem Soft.set {w : World} {z g o : Nat} {cs : Array Value} {t : TypeId} {i j : Int} (hg : w.heap[g]? = some (Obj.cells cs t)) (hz : z ≤ g) (hzw : z ≤ w.heap.size) (hi : w.cell? ⟨g, o, none⟩ = some (.int .i64 i)) : Soft z w (w.setCell ⟨g, o, none⟩ (.int .i64 j)) := by
  have hgr := grown_setCell w g o (.int .i64 j)
  have hset := setCell_blk (i := o) (.int .i64 j) hg
  have ho : o < cs.size := by
    by_cases h : o < cs.size
    · exact h
    · simp [World.cell?, hg, h] at hi
  refine ⟨⟨hgr.os, hgr.tape, hgr.output, hgr.size, fun k hk => hgr.block k (by omega) (fun e => by cases e; omega)⟩, fun a => ?_, fun k cs' t' hk => ?_⟩
  · by_cases hb : a.block = g
    · obtain ⟨b, o2, sp⟩ := a
      simp only at hb
      subst hb
      cases sp with
      | none =>
        by_cases h2 : o2 = o
        · subst h2
          exact .inr ⟨i, j, hi, by simp [World.cell?, hset, ho]⟩
        · refine .inl ?_
          simp only [World.cell?, hset, hg]
          simp [Array.getElem?_setIfInBounds, Ne.symm h2]
      | some sp =>
        refine .inl ?_
        simp [World.cell?, hset, hg]
    · exact .inl (World.cell?_of_block (by exact set_off w g o a.block _ hb))
  · by_cases h : k = g
    · subst h
      rw [hg] at hk
      cases hk
      exact ⟨_, hset⟩
    · exact ⟨cs', (set_off w g o k _ h).trans hk⟩
/-- packages that may be spoiled -/
def SpO (w : World) (z : Nat) (a : Option Addr) (n : Nat) : Prop := n = 0 ∨ ∃ g off, a = some ⟨g, off, none⟩ ∧ z ≤ g ∧ (∃ cs t, w.heap[g]? = some (Obj.cells cs t)) ∧ ∀ j, j < n → (∃ o, w.cell? ⟨g, off + j * 4, none⟩ = some (.int .i64 o)) ∧ ∃ la ln lc, w.cell? ⟨g, off + j * 4 + 3, none⟩ = some (.slice la ln lc) ∧ ln ≤ 1000000 ∧ (ln = 0 ∨ ∃ gr o2, la = some ⟨gr, o2, none⟩ ∧ z ≤ gr ∧ (∃ cs t, w.heap[gr]? = some (Obj.cells cs t)) ∧ ∀ q, q < ln → ∃ v, w.cell? ⟨gr, o2 + q * 33 + 32, none⟩ = some (.int .i64 v))
theorem Soft.int {z : Nat} {w w' : World} (h : Soft z w w') {a : Addr} (hi : ∃ i, w.cell? a = some (.int .i64 i)) : ∃ i, w'.cell? a = some (.int .i64 i) := by
  obtain ⟨i, hi⟩ := hi
  rcases h.cell a with e | ⟨_, j, _, e⟩
  · exact ⟨i, e.trans hi⟩
  · exact ⟨j, e⟩
theorem Soft.slice {z : Nat} {w w' : World} (h : Soft z w w') {a : Addr} {la : Option Addr} {ln lc : Nat} (hi : w.cell? a = some (.slice la ln lc)) : w'.cell? a = some (.slice la ln lc) := by
  rcases h.cell a with e | ⟨i, j, e1, _⟩
  · exact e.trans hi
  · rw [hi] at e1; cases e1
theorem SpO.soft {w w' : World} {z z' : Nat} {a : Option Addr} {n : Nat} (h : SpO w z a n) (hs : Soft z' w w') : SpO w' z a n := by
  rcases h with h | ⟨g, off, h1, h2, ⟨cs, t, h3⟩, h4⟩
  · exact .inl h
  · obtain ⟨cs', h5⟩ := hs.row g cs t h3
    refine .inr ⟨g, off, h1, h2, ⟨cs', t, h5⟩, fun j hj => ?_⟩
    obtain ⟨k1, la, ln, lc, k2, k3, k4⟩ := h4 j hj
    refine ⟨hs.int k1, la, ln, lc, hs.slice k2, k3, ?_⟩
    rcases k4 with k4 | ⟨gr, o2, e1, e2, ⟨c2, t2, e3⟩, e4⟩
    · exact .inl k4
    · obtain ⟨c3, e5⟩ := hs.row gr c2 t2 e3
      exact .inr ⟨gr, o2, e1, e2, ⟨c3, t2, e5⟩, fun q hq => hs.int (e4 q hq)⟩
theorem new_spo {w : World} {z : Nat} {a : Option Addr} {n c : Nat} {M : List Pk} (h : NewSt w z a n c M) : SpO w z a n := by
  by_cases h0 : n = 0
  · exact .inl h0
  · obtain ⟨g, rfl, hzg⟩ := own_some h.own (by omega)
    rcases h.own.2 with ⟨h1, _⟩ | ⟨g', cap, cur, h1, _, hc, _⟩
    · cases h1
    injection h1 with h1 h2 h3
    injection h1 with h1
    injection h1 with h1
    subst h1
    refine .inr ⟨g, 0, rfl, hzg, ⟨cur, _, hc⟩, fun j hj => ?_⟩
    obtain ⟨x, hx⟩ : ∃ x, M[j]? = some x := ⟨M[j]'(by rw [h.st.len]; exact hj), List.getElem?_eq_getElem _⟩
    obtain ⟨b, off, hb, _, ⟨k0, k1, k2, k3⟩, hp⟩ := h.st.inp.at hx
    have hbo : b = g ∧ off = 0 := by cases hb; exact ⟨rfl, rfl⟩
    rw [hbo.1, hbo.2] at k0 k3
    obtain ⟨p1, p2, p3⟩ := h.st.pk x (List.mem_of_getElem? hx)
    refine ⟨⟨_, k0⟩, x.la, x.ln, x.lc, k3, by omega, ?_⟩
    by_cases hl : x.ln = 0
    · exact .inl hl
    · right
      have hne : x.l ≠ [] := fun e => hl (by rw [← p1.len, e]; rfl)
      rcases p1.inr with e | ⟨gr, o2, e1, e2, e3⟩
      · exact absurd e hne
      · obtain ⟨q1, cs, q2⟩ := h.fr x (List.mem_of_getElem? hx) _ e1
        refine ⟨gr, o2, e1, q1, ⟨cs, _, q2⟩, fun q hq => ?_⟩
        obtain ⟨y, hy⟩ : ∃ y, x.l[q]? = some y := ⟨x.l[q]'(by rw [p1.len]; exact hq), List.getElem?_eq_getElem _⟩
        exact ⟨y.2, rcl_size (p1.dg y (List.mem_of_getElem? hy)).1 (e3 q y hy)⟩
set_option maxRecDepth 100000 in
set_option maxHeartbeats 8000000 in
theorem spoil_is (w : World) (z : Nat) (a : Option Addr) (n c : Nat) (hs : SpO w z a n) (hz : z ≤ w.heap.size) (hN : n ≤ 1000000) :
    Calls Tryd.prog 12 #[.slice a n c] w fun e w' => e = .returned (.tuple #[]) ∧ Soft z w w' := by
  have HS : Hid (SpO w z a n) := hs
  have HR : Hid (Soft z w w) := ⟨Below.refl _ _, fun _ => .inl rfl, fun k cs t h => ⟨cs, h⟩⟩
  have HZ : Hid (z ≤ w.heap.size) := hz
  clear hs hz
  go_enter Tryd.func12, Tryd.ntmps12
  go_wp2_with fail
  go_loopg [6] n (fun g i wr => ∃ j : Nat, j ≤ n ∧ g = n - j ∧ i = .int .i64 (j : Int) ∧ Hid (Soft z w wr))
  case atStart => exact ⟨0, Nat.zero_le _, rfl, rfl, HR.out⟩
  case round =>
    obtain ⟨j, hj, rfl, rfl, RW⟩ := hrel
    by_cases hlt : j < n
    · have j1 : decide ((j : Int) < (n : Int)) = true := by rw [decide_eq_true_eq]; omega
      have ri : IntKind.i64.wrap ((j : Int) + 1) = (j : Int) + 1 := by rw [IntKind.wrap_i64]; omega
      have hs := HS.out.soft RW.out
      rcases hs with h0 | ⟨g, off, rfl, hzg, ⟨cs, t, hg⟩, h4⟩
      · omega
      have HG : Hid (∃ cs t, wr.heap[g]? = some (Obj.cells cs t)) := ⟨cs, t, hg⟩
      obtain ⟨⟨o, k0⟩, la, ln, lc, k3, hln, k4⟩ := h4 j hlt
      have f0 := frozen_blk hg (off + j * 4)
      have HSF : Hid (∀ v, Soft z w (wr.setCell ⟨g, off + j * 4, none⟩ (.int .i64 v))) := fun v => RW.out.trans (Soft.set hg hzg (by have := RW.out.bel.size; have := HZ.out; omega) k0)
      have k33 : ∀ v, (wr.setCell ⟨g, off + j * 4, none⟩ (.int .i64 v)).cell? ⟨g, off + j * 4 + 3, none⟩ = some (.slice la ln lc) := fun v => (Soft.set (j := v) hg hzg (by have := RW.out.bel.size; have := HZ.out; omega) k0).slice k3
      have k34 : ∀ v, (wr.setCell ⟨g, off + j * 4, none⟩ (.int .i64 v)).cell? ⟨g, off + j * 4 + 1 + 2, none⟩ = some (.slice la ln lc) := k33
      have HK4 : Hid (∀ wq, Soft z w wq → wq.cell? ⟨g, off + j * 4 + 1 + 2, none⟩ = some (.slice la ln lc) → (ln = 0 ∨ ∃ gr o2, la = some ⟨gr, o2, none⟩ ∧ z ≤ gr ∧ (∃ cs t, wq.heap[gr]? = some (Obj.cells cs t)) ∧ ∀ q, q < ln → ∃ v, wq.cell? ⟨gr, o2 + q * 33 + 32, none⟩ = some (.int .i64 v))) := fun wq hq hc => by
        have hs2 := HS.out.soft hq
        rcases hs2 with h0 | ⟨g2, off2, e2, _, _, h42⟩
        · omega
        · cases e2
          obtain ⟨_, la2, ln2, lc2, m3, _, m4⟩ := h42 j hlt
          have e : some (Value.slice la2 ln2 lc2) = some (Value.slice la ln lc) := m3.symm.trans hc
          injection e with e
          injection e with e1 e2 e3
          subst e1 e2
          exact m4
      clear h4 k4 hg
      generalize hww : IntKind.i64.wrap (o + 1) = ow at *
      go_wp2_with fail
      go_loopg [24] ln (fun g2 i wq => ∃ q : Nat, q ≤ ln ∧ g2 = ln - q ∧ i = .int .i64 (q : Int) ∧ Hid (Soft z w wq ∧ wq.cell? ⟨g, off + j * 4 + 1 + 2, none⟩ = some (.slice la ln lc)))
      case atStart => exact ⟨0, Nat.zero_le _, rfl, rfl, HSF.out _, k34 _⟩
      case round =>
        obtain ⟨q, hq, rfl, rfl, RQ⟩ := hrel
        have k5 := RQ.out.2
        by_cases hql : q < ln
        · have j2 : decide ((q : Int) < (ln : Int)) = true := by rw [decide_eq_true_eq]; omega
          have rq : IntKind.i64.wrap ((q : Int) + 1) = (q : Int) + 1 := by rw [IntKind.wrap_i64]; omega
          rcases HK4.out wr RQ.out.1 k5 with h0 | ⟨gr, o2, rfl, hzr, ⟨cs2, t2, hg2⟩, h5⟩
          · omega
          obtain ⟨v, k6⟩ := h5 q hql
          have f2 := frozen_blk hg2 (o2 + q * 33 + 32)
          have HST : Hid (∀ u, Soft z w (wr.setCell ⟨gr, o2 + q * 33 + 32, none⟩ (.int .i64 u)) ∧ (wr.setCell ⟨gr, o2 + q * 33 + 32, none⟩ (.int .i64 u)).cell? ⟨g, off + j * 4 + 1 + 2, none⟩ = some (.slice (some ⟨gr, o2, none⟩) ln lc)) := fun u => by
            have h := Soft.set (j := u) hg2 hzr (by have := RQ.out.1.bel.size; have := HZ.out; omega) k6
            exact ⟨RQ.out.1.trans h, h.slice k5⟩
          clear hg2 h5
          generalize hww2 : IntKind.i64.wrap (v + 1) = vw at *
          go_wp2_with fail
          go_roundg (ln - (q + 1))
          case measure => omega
          case rel => exact ⟨q + 1, by omega, rfl, rfl, HST.out _⟩
        · have j2 : decide ((q : Int) < (ln : Int)) = false := by rw [decide_eq_false_iff_not]; omega
          have HQ : Hid (Soft z w wr) := RQ.out.1
          go_wp2_with fail
          go_roundg (n - (j + 1))
          case measure => omega
          case rel => exact ⟨j + 1, by omega, rfl, rfl, HQ.out⟩
    · have j1 : decide ((j : Int) < (n : Int)) = false := by rw [decide_eq_false_iff_not]; omega
      go_wp2_with fail
      go_end0
      exact ⟨rfl, RW.out⟩
end Go.Proofs.YthghoekkdpchnaaDoor
namespace Go.Proofs.YthghoekkdpchnaaDoor
open Go.ChangeShapes Go.WideShapes Go.ChangeAt Go.RowKit Go.Deep Go.Maps
set_option linter.unusedVariables false
set_option linter.unusedSimpArgs false
def r5 : Rf := (List.replicate 32 0, 5)
theorem r5_dgs : Dgs [r5] := by
  intro x hx
  simp only [List.mem_cons, List.not_mem_nil, or_false] at hx
  subst hx
  exact ⟨by decide, show ∀ i, i < 32 → 0 ≤ (List.replicate 32 (0 : Int)).getD i 0 ∧ (List.replicate 32 (0 : Int)).getD i 0 ≤ 255 by decide⟩
theorem inR_r5 {w : World} {g : Nat} (h : w.heap[g]? = some (.cells (rcl r5).toArray 68)) : InR w (some ⟨g, 0, none⟩) [r5] := by
  refine .inr ⟨g, 0, rfl, lt_of_heapK h, fun i x hx => ?_⟩
  cases i with
  | succ i => simp at hx
  | zero =>
    simp only [List.getElem?_cons_zero, Option.some.injEq] at hx
    subst hx
    exact row_range h
theorem sizeOp : (Tryd.prog.info? 46).map (·.size) = some 5 := by kernel_rfl
theorem heap31 (w : World) (a b c : Obj) : (((w.alloc a).alloc b).alloc c).heap[w.heap.size]? = some a := (Below.heap_alloc _ _ _ (by simp; omega)).trans ((Below.heap_alloc _ _ _ (by simp)).trans (heap_alloc_new w a))
theorem heap33 (w : World) (a b c : Obj) : (((w.alloc a).alloc b).alloc c).heap[w.heap.size + 1 + 1]? = some c := by
  have := heap_alloc_new ((w.alloc a).alloc b) c
  rwa [show ((w.alloc a).alloc b).heap.size = w.heap.size + 1 + 1 by simp] at this
set_option maxRecDepth 100000 in
set_option maxHeartbeats 8000000 in
theorem op_is (w : World) (k r : Int) (hk : k = 1 ∨ k = 2) (N V : ByteArray) : Calls Tryd.prog 30 #[.int .i64 k, .int .i64 r, .string N, .string V] w fun e w' => ∃ b, e = .returned (.agg #[.int .i64 k, .int .i64 r, .string N, .string V, .slice (some ⟨b, 0, none⟩) 1 1]) ∧ w'.heap[b]? = some (.cells (rcl r5).toArray 68) ∧ Below w.heap.size w w' := by
  have e3 : (k != 3) = true := by rcases hk with rfl | rfl <;> rfl
  clear hk
  go_enter Tryd.func30, Tryd.ntmps30
  go_wp2_with fail
  refine bodyPost_ret (results_cell_row Tryd.results30 _ _ w.heap.size 46 #[.int .i64 k, .int .i64 r, .string N, .string V, .slice (some ⟨w.heap.size + 1 + 1, 0, none⟩) 1 1] (0, 0) _ rfl (heap31 w _ _ _) Tryd.underlying46 rfl sizeOp) rfl ⟨w.heap.size + 1 + 1, rfl, heap33 w _ _ _, (((Below.refl _ _).alloc (Nat.le_refl _) _).alloc (by simp) _).alloc (by simp; omega) _⟩
/-- two operations in a row that was just made -/
theorem inOv2 {w : World} {g : Nat} {x y : Ov} (h : w.heap[g]? = some (.cells (ovl x ++ ovl y).toArray 46)) (hx : OvOk w x) (hy : OvOk w y) : InOv w (some ⟨g, 0, none⟩) [x, y] := by
  refine .inr ⟨g, 0, rfl, lt_of_heapK h, fun i z hz => ?_⟩
  rcases i with _ | _ | i
  · simp only [List.getElem?_cons_zero, Option.some.injEq] at hz
    subst hz
    refine ⟨fun k v hv => ?_, hx⟩
    have hk := (List.getElem?_eq_some_iff.1 hv).1
    rw [show (⟨g, 0 + 0 * 5 + k, none⟩ : Addr) = ⟨g, k, none⟩ by simp]
    have : (ovl x ++ ovl y)[k]? = some v := by rw [List.getElem?_append_left hk]; exact hv
    simp [World.cell?, h, this]
  · simp only [List.getElem?_cons_succ, List.getElem?_cons_zero, Option.some.injEq] at hz
    subst hz
    refine ⟨fun k v hv => ?_, hy⟩
    rw [show (⟨g, 0 + (0 + 1) * 5 + k, none⟩ : Addr) = ⟨g, 5 + k, none⟩ by simp]
    have : (ovl x ++ ovl y)[5 + k]? = some v := by
      rw [List.getElem?_append_right (by simp [ovl]), show 5 + k - (ovl x).length = k by simp [ovl]]
      exact hv
    simp [World.cell?, h, this]
  · simp at hz
theorem goA_ok {ow : Int} {st : Int → List Pc} {o : Op5} {t : List Op5} {i : Nat} (h : doE (st o.r) ow o = 0) : goA ow st (o :: t) i = goA ow (upd st o.r (nxt (st o.r) ow o)) t (i + 1) := by
  simp [goA, h]
def wo (k : Int) (v : Tx) : Op5 := ⟨k, 1, [97], v, [r5]⟩
theorem works_all (l : List Sk) (hl : l = []) : (allR 1 (fun r => (stk l r).co) [wo 1 [49], wo 2 [50]]).1 = (0, 0) ∧ (allR 1 (fun r => (stk l r).co) [wo 1 [49], wo 2 [50]]).2 1 = [(1, [97], [50], [r5])] := by
  subst hl
  have e1 : doE [] 1 (wo 1 [49]) = 0 := by decide +kernel
  have e2 : nxt [] 1 (wo 1 [49]) = [(1, [97], [49], [r5])] := by kernel_rfl
  have e3 : doE [(1, [97], [49], [r5])] 1 (wo 2 [50]) = 0 := by decide +kernel
  have e4 : nxt [(1, [97], [49], [r5])] 1 (wo 2 [50]) = [(1, [97], [50], [r5])] := by kernel_rfl
  have h1 : doE ((fun r => (stk [] r).co) (wo 1 [49]).r) 1 (wo 1 [49]) = 0 := e1
  have e5 : upd (fun r => (stk [] r).co) (wo 1 [49]).r (nxt ((fun r => (stk [] r).co) (wo 1 [49]).r) 1 (wo 1 [49])) 1 = [(1, [97], [49], [r5])] := (if_pos rfl).trans e2
  have h2 : doE (upd (fun r => (stk [] r).co) (wo 1 [49]).r (nxt ((fun r => (stk [] r).co) (wo 1 [49]).r) 1 (wo 1 [49])) (wo 2 [50]).r) 1 (wo 2 [50]) = 0 := by
    show doE (upd (fun r => (stk [] r).co) (wo 1 [49]).r (nxt ((fun r => (stk [] r).co) (wo 1 [49]).r) 1 (wo 1 [49])) 1) 1 (wo 2 [50]) = 0
    rw [e5]
    exact e3
  unfold allR
  rw [if_neg (by simp), if_neg (by simp), goA_ok h1, goA_ok h2]
  refine ⟨rfl, ?_⟩
  show upd (upd (fun r => (stk [] r).co) (wo 1 [49]).r (nxt ((fun r => (stk [] r).co) (wo 1 [49]).r) 1 (wo 1 [49]))) 1 (nxt (upd (fun r => (stk [] r).co) (wo 1 [49]).r (nxt ((fun r => (stk [] r).co) (wo 1 [49]).r) 1 (wo 1 [49])) 1) 1 (wo 2 [50])) 1 = _
  rw [upd_same, e5]
  exact e4
set_option maxRecDepth 100000 in
set_option maxHeartbeats 8000000 in
theorem pworks_true (w : World) : Calls Tryd.prog 14 #[] w fun e w' => e = .returned (.bool true) ∧ Below w.heap.size w w' := by
  have K1 : Hid (∀ W, Calls Tryd.prog 30 #[.int .i64 1, .int .i64 1, .string { data := #[97] }, .string { data := #[49] }] W fun e w' => ∃ b, e = .returned (.agg #[.int .i64 1, .int .i64 1, .string { data := #[97] }, .string { data := #[49] }, .slice (some ⟨b, 0, none⟩) 1 1]) ∧ w'.heap[b]? = some (.cells (rcl r5).toArray 68) ∧ Below W.heap.size W w') := fun W => op_is W 1 1 (.inl rfl) _ _
  have K2 : Hid (∀ W, Calls Tryd.prog 30 #[.int .i64 2, .int .i64 1, .string { data := #[97] }, .string { data := #[50] }] W fun e w' => ∃ b, e = .returned (.agg #[.int .i64 2, .int .i64 1, .string { data := #[97] }, .string { data := #[50] }, .slice (some ⟨b, 0, none⟩) 1 1]) ∧ w'.heap[b]? = some (.cells (rcl r5).toArray 68) ∧ Below W.heap.size W w') := fun W => op_is W 2 1 (.inr rfl) _ _
  go_enter Tryd.func14, Tryd.ntmps14
  go_wp2_with fail
  refine (K1.out _).mono ?_
  rintro e w1 ⟨b1, rfl, hb1, l1⟩
  have B1 : Hid (Below w.heap.size w w1 ∧ w1.heap[b1]? = some (.cells (rcl r5).toArray 68)) := ⟨l1, hb1⟩
  clear hb1 l1
  go_wp2_with fail
  refine (K2.out _).mono ?_
  rintro e w2 ⟨b2, rfl, hb2, l2⟩
  have B2 : Hid (Below w.heap.size w w2 ∧ w2.heap[b2]? = some (.cells (rcl r5).toArray 68) ∧ w2.heap[b1]? = some (.cells (rcl r5).toArray 68)) := ⟨B1.out.1.trans (l2.mono B1.out.1.size), hb2, (l2.block b1 (lt_of_heapK B1.out.2)).trans B1.out.2⟩
  clear hb2 l2
  have KA : Hid (∀ W : World, W = w2 → Calls Tryd.prog 8 #[.slice none 0 0, .int .i64 1, .slice (some ⟨w2.heap.size, 0, none⟩) 2 2] (W.alloc (.cells (ovl ⟨wo 1 [49], some ⟨b1, 0, none⟩, 1, 1⟩ ++ ovl ⟨wo 2 [50], some ⟨b2, 0, none⟩, 1, 1⟩).toArray 46)) fun e w' => ∃ a c x, e = .returned (.tuple #[.slice a 1 c, .int .i64 0, .int .i64 0]) ∧ InPv w' a [x] ∧ x.r = 1 ∧ StAt w' x.a x.n x.c x.M ∧ x.co = [(1, [97], [50], [r5])] ∧ Below w.heap.size w w') := fun W hW => by
    subst hW
    have hb : Below W.heap.size W (W.alloc (.cells (ovl ⟨wo 1 [49], some ⟨b1, 0, none⟩, 1, 1⟩ ++ ovl ⟨wo 2 [50], some ⟨b2, 0, none⟩, 1, 1⟩).toArray 46)) := below1 W _
    have ok : ∀ (k : Int) (v : Tx) (b : Nat), v.length ≤ 100 → W.heap[b]? = some (.cells (rcl r5).toArray 68) → OvOk (W.alloc (.cells (ovl ⟨wo 1 [49], some ⟨b1, 0, none⟩, 1, 1⟩ ++ ovl ⟨wo 2 [50], some ⟨b2, 0, none⟩, 1, 1⟩).toArray 46)) ⟨wo k v, some ⟨b, 0, none⟩, 1, 1⟩ := fun k v b hv h => ⟨(inR_r5 h).keep hb, rfl, Nat.le_refl _, (by show (1 : Nat) ≤ 20; omega), r5_dgs, (fun e => by cases e), (by show ([97] : Tx).length ≤ 140737488355328; simp), (by show v.length ≤ _; omega)⟩
    have h := all_is (W.alloc (.cells (ovl ⟨wo 1 [49], some ⟨b1, 0, none⟩, 1, 1⟩ ++ ovl ⟨wo 2 [50], some ⟨b2, 0, none⟩, 1, 1⟩).toArray 46)) none 0 0 [] (.inl rfl) rfl (fun x hx => by cases hx) (by omega) 1 (some ⟨W.heap.size, 0, none⟩) 2 2 [⟨wo 1 [49], some ⟨b1, 0, none⟩, 1, 1⟩, ⟨wo 2 [50], some ⟨b2, 0, none⟩, 1, 1⟩] (inOv2 (heap_alloc_new W _) (ok 1 _ b1 (by simp) B2.out.2.2) (ok 2 _ b2 (by simp) B2.out.2.1)) rfl (by omega) _ rfl
    refine h.mono ?_
    rintro e w' ⟨V, rfl, hs1, hs2, hs3⟩
    obtain ⟨w1', w2'⟩ := works_all [] rfl
    have e1 : (allR 1 (fun r => (stk [] r).co) (List.map Ov.o [⟨wo 1 [49], some ⟨b1, 0, none⟩, 1, 1⟩, ⟨wo 2 [50], some ⟨b2, 0, none⟩, 1, 1⟩])).1 = (0, 0) := w1'
    have e2 : (allR 1 (fun r => (stk [] r).co) (List.map Ov.o [⟨wo 1 [49], some ⟨b1, 0, none⟩, 1, 1⟩, ⟨wo 2 [50], some ⟨b2, 0, none⟩, 1, 1⟩])).2 1 = [(1, [97], [50], [r5])] := w2'
    rw [e1] at hs1 hs2 ⊢
    obtain ⟨a, n, c, P, rfl, hP, hn, _, _, _, _, hr, he, _⟩ := hs2 rfl
    have hr1 : P.map Pv.r = [1] := hr.trans (show rts [wo 1 [49], wo 2 [50]] = [1] by decide)
    obtain ⟨x, rfl⟩ : ∃ x, P = [x] := by
      clear hP hn hr he hs1 hs3 e1 e2
      cases P with
      | nil => cases hr1
      | cons x t =>
        cases t with
        | nil => exact ⟨x, rfl⟩
        | cons y t => simp at hr1
    have hxr : x.r = 1 := by simpa using hr1
    obtain ⟨k1, k2⟩ := he x (by simp)
    have hn1 : n = 1 := by rw [← hn]; rfl
    subst hn1
    refine ⟨a, c, x, rfl, hP, hxr, k1.st, ?_, B2.out.1.trans ((hb.trans (hs3.mono hb.size)).mono B2.out.1.size)⟩
    rw [k2, hxr]
    exact e2
  go_wp2_with fail
  refine (KA.out w2 rfl).mono ?_
  rintro e w3 ⟨a, c, x, rfl, hP, hxr, hst, hco, hb3⟩
  have B3 : Hid (Below w.heap.size w w3) := hb3
  obtain ⟨g, off, rfl, _, hcell, _⟩ := hP.at (i := 0) rfl
  have c0 : w3.cell? ⟨g, off, none⟩ = some (.int .i64 1) := by have := hcell w3 (Below.refl _ _) 0 _ rfl; rw [hxr] at this; simpa using this
  have c1 : w3.cell? ⟨g, off + 1, none⟩ = some (.slice x.a x.n x.c) := by have := hcell w3 (Below.refl _ _) 1 _ rfl; simpa using this
  obtain ⟨xr, xa, xn, xc, xM⟩ := x
  have hM : xM.map co = [(1, [97], [50], [r5])] := hco
  obtain ⟨y, rfl⟩ : ∃ y, xM = [y] := by
    have hl : xM.length = 1 := by rw [← List.length_map (f := co), hM]; rfl
    clear hM hst hco c1 hcell
    cases xM with
    | nil => cases hl
    | cons y t =>
      cases t with
      | nil => exact ⟨y, rfl⟩
      | cons z t => simp at hl
  simp only [List.map_cons, List.map_nil, List.cons.injEq, and_true, co, Prod.mk.injEq] at hM
  obtain ⟨m1, m2, m3, m4⟩ := hM
  have hn1 : xn = 1 := by have := hst.len; simpa using this.symm
  obtain ⟨g2, off2, ha2, _, ⟨d0, d1, d2, d3⟩, _⟩ := hst.inp.at (i := 0) rfl
  simp only at ha2 hn1
  subst ha2 hn1
  have f0 : w3.cell? ⟨g2, off2, none⟩ = some (.int .i64 1) := by rw [m1] at d0; simpa using d0
  have f2 : w3.cell? ⟨g2, off2 + 1 + 1, none⟩ = some (.string { data := #[50] }) := by rw [m3] at d2; simp at d2; exact d2
  simp only at c1
  clear hP hst hco hb3 hcell hxr m1 m2 m3 m4 d0 d1 d2 d3
  go_wp2_with fail
  go_ret
  exact ⟨rfl, B3.out⟩
end Go.Proofs.YthghoekkdpchnaaDoor
namespace Go.Proofs.YthghoekkdpchnaaDoor
open Go.ChangeShapes Go.WideShapes Go.ChangeAt Go.RowKit Go.Deep
set_option linter.unusedVariables false
/-- a slice of bytes: where it has any, they lie at its address -/
def Holds (w : World) (a : Option Addr) (L : List Int) : Prop :=
  L = [] ∨ ∃ b off, a = some ⟨b, off, none⟩ ∧ ∀ i, i < L.length → w.cell? ⟨b, off + i, none⟩ = some (.int .u8 (L.getD i 0))
theorem info8 : (Tryd.prog.info? 5).map (fun i => (i.zero, i.size, i.bytes)) = some (some (.int .u8 0), 1, 1) := by kernel_rfl

/-- the value is a slice of the call's own memory (from block 'base' on) that holds the bytes A -/
def Owned (w : World) (base : Nat) (v : Value) (A : List Int) : Prop := w.ownsRow base 5 1 v A.length (A.map (Value.int .u8))

theorem Owned.slice {w : World} {base : Nat} {v : Value} {A : List Int} (h : Owned w base v A) : ∃ a c, v = .slice a A.length c ∧ (a = none → c = 0 ∧ A = []) ∧ Holds w a A ∧ c ≤ maxLen ∧ A.length ≤ c := by
  rcases h.2 with ⟨rfl, hn⟩ | ⟨g, cap, cur, rfl, hb, hg, hl, hm, hs, ht⟩
  · have : A = [] := List.length_eq_zero_iff.1 hn
    subst this
    exact ⟨none, 0, rfl, fun _ => ⟨rfl, rfl⟩, .inl rfl, by simp, by simp⟩
  · refine ⟨_, _, rfl, fun h => by simp at h, .inr ⟨g, 0, rfl, fun i hi => ?_⟩, hm, hl⟩
    have hc := World.ownsRow.cells h (g := g) rfl i (.int .u8 (A.getD i 0)) (by simp [List.getD, List.getElem?_eq_getElem hi])
    rwa [add_plain] at hc

theorem Owned.holds {w : World} {base : Nat} {a : Option Addr} {n c : Nat} {A : List Int} (h : Owned w base (.slice a n c) A) : Holds w a A ∧ A.length = n ∧ (a = none → c = 0) := by
  obtain ⟨a', c', e, h1, h2, _⟩ := h.slice
  simp only [Value.slice.injEq] at e
  obtain ⟨rfl, rfl, rfl⟩ := e
  exact ⟨h2, rfl, fun h => (h1 h).1⟩

theorem Owned.block {w : World} {base : Nat} {v : Value} {A : List Int} (h : Owned w base v A) : ∀ k, v.ownBlock = some k → base ≤ k := fun k hk => (h.lt k hk).1

theorem owned_empty (w : World) (base : Nat) (hb : base ≤ w.heap.size) : Owned (w.alloc (.cells #[] 5)) base (.slice (some ⟨w.heap.size, 0, none⟩) 0 0) [] :=
  World.ownsRow_made w #[] 0 hb (by simp) (by simp)

theorem append_bytes {w : World} {ops : Array Oper} {rest : List Oper} {o : Oper} {act : Act} {Q : Exit → Act → World → Prop} (hgd : o.guard = none) (s x : Operand)
    (ho : o.op = .call { callee := .builtin .append, args := #[s, x], argTypes := #[120, 120] })
    (base : Nat) (v : Value) (A : List Int) (hs : act.eval s = v) (hown : Owned w base v A)
    (a : Option Addr) (m c : Nat) (L : List Int) (hx : act.eval x = .slice a m c) (hm : L.length = m) (hh : Holds w a L) (hc : a = none → c = 0)
    (N : Nat) (hN : A.length + m = N) (hbytes : N ≤ 140737488355328) (hbase : base ≤ w.heap.size)
    (h : ∀ a' c' w', Owned w' base (.slice a' N c') (A ++ L) → Below base w w' → wpList Tryd.prog ops Q rest (act.put o.dst (.slice a' N c')) w') :
    wpList Tryd.prog ops Q (o :: rest) act w := by
  subst hN
  obtain ⟨i, hi, hz, h1, h2⟩ := info8p
  cases a with
  | none =>
    have hc0 := hc rfl
    have hL : L = [] := by
      rcases hh with h | ⟨b, off, hb, _⟩
      · exact h
      · simp at hb
    subst hL
    subst hc0
    subst hm
    obtain ⟨a', c', rfl, _⟩ := hown.slice
    refine wpList_append_own_none hgd s x 120 ho base 5 i 1 Tryd.underlying120 hi _ _ _ hs hown hx ?_
    have := h a' c' w (by simpa using hown) (Below.refl _ _)
    simpa using this
  | some ad =>
    refine wpList_append_own w hgd s x 120 ho base 5 i (.int .u8 0) 1 1 Tryd.underlying120 hi hz h1 h2 rfl (by decide) v A.length _ hs hown ad m c (L.map (Value.int .u8)) hx (by simp [hm]) ?_ (ints_oneCell _ _) (by simp only [maxLen]; omega) (by omega) hbase ?_
    · intro j u hu
      have hj : j < L.length := by
        have := (List.getElem?_eq_some_iff.1 hu).1
        simpa using this
      rcases hh with h | ⟨b, off, hb, hcell⟩
      · subst h; simp at hj
      · simp only [Option.some.injEq] at hb
        subst hb
        rw [add_plain, hcell j hj]
        simp [List.getElem?_eq_getElem hj] at hu
        simp [List.getD, List.getElem?_eq_getElem hj, hu]
    · intro v' w' hown' hg _
      have ho' : Owned w' base v' (A ++ L) := by
        show w'.ownsRow base 5 1 v' (A ++ L).length ((A ++ L).map (Value.int .u8))
        rw [List.length_append, hm, List.map_append]
        exact hown'
      obtain ⟨a', c', rfl, _⟩ := ho'.slice
      have e : (A ++ L).length = A.length + m := by rw [List.length_append, hm]
      rw [e] at ho' ⊢
      exact h a' c' w' ho' ((Below.refl base w).grown hg hbase hown.block)
/-- what came in, as a slice of bytes -/
theorem IsRow.holds {w : World} {a : Option Addr} {len cap : Nat} {zs : List Int} (h : IsRow .u8 w a len cap zs) :
    ∃ L : List Int, L = zs.take len ∧ L.length = len ∧ Holds w a L ∧ IsBytes L ∧ (a = none → cap = 0) ∧ len ≤ 140737488351232 ∧ (∀ x, a = some x → L ≠ [] → x.block < w.heap.size) ∧ len ≤ cap ∧ cap ≤ 140737488351232 := by
  rcases h with ⟨rfl, rfl, rfl, rfl⟩ | ⟨x, rfl, hl, hm, hz, hcell, hwz⟩
  · exact ⟨[], rfl, rfl, .inl rfl, fun i hi => by simp at hi, fun _ => rfl, by omega, fun x hx => by simp at hx, by omega, by omega⟩
  · have hL : (zs.take len).length = len := by rw [List.length_take]; omega
    have hget : ∀ i, i < len → (zs.take len).getD i 0 = zs.getD i 0 := fun i hi => by simp [List.getD, hi]
    have hbytes : IsBytes (zs.take len) := bytes_of_mem fun n hn => wf_u8 (hwz n (List.mem_of_mem_take hn))
    by_cases h0 : len = 0
    · subst h0
      exact ⟨[], by simp, rfl, .inl rfl, fun i hi => by simp at hi, fun h => by simp at h, by omega, fun x hx h => absurd rfl h, hl, by omega⟩
    · obtain ⟨b, off, spot⟩ := x
      have hc := hcell 0 (by omega)
      have hspot : spot = none := by simpa [Addr.add] using World.cell?_spot hc
      subst hspot
      refine ⟨_, rfl, hL, .inr ⟨b, off, rfl, fun i hi => ?_⟩, hbytes, fun h => by simp at h, by omega, ?_, hl, by omega⟩
      · rw [hL] at hi
        have := hcell i (by omega)
        rw [add_plain] at this
        rw [hget i hi]
        exact this
      · intro y hy _
        simp only [Option.some.injEq] at hy
        subst hy
        have := hcell 0 (by omega)
        rw [add_plain] at this
        exact World.block_lt_of_cell? _ _ this
/-- bytes that lay below 'base' lie there still -/
theorem Holds.below {w w' : World} {a : Option Addr} {L : List Int} {base : Nat} (h : Holds w a L) (hb : Below base w w') (hlt : ∀ x, a = some x → L ≠ [] → x.block < base) : Holds w' a L := by
  rcases h with rfl | ⟨b, off, rfl, hc⟩
  · exact .inl rfl
  · refine .inr ⟨b, off, rfl, fun i hi => ?_⟩
    have hne : L ≠ [] := fun e => by subst e; simp at hi
    rw [hb.cell (p := ⟨b, off + i, none⟩) (hlt ⟨b, off, none⟩ rfl hne)]
    exact hc i hi
theorem conv_str {w : World} {a : Option Addr} {L : List Int} (h : Holds w a L) (n c : Nat) (hn : L.length = n) :
    (convert 120 9 (.slice a n c)).run Tryd.prog w = .ok (.string (strOfNums L)) w := by
  subst hn
  rcases h with rfl | ⟨b, off, rfl, hc⟩
  · rw [run_convert_bytes_string w 120 9 5 a _ c Tryd.underlying120 Tryd.underlying5 Tryd.underlying9]
    cases a with
    | none => simp [Conv.bytesToString]; rfl
    | some ad =>
      have := run_loadCells_list (P := Tryd.prog) w ad [] (by intro j v h; simp at h)
      rw [List.length_nil, run_bytesToString (P := Tryd.prog) w ad 0 c [] (by simpa using this)]
      rfl
  · exact run_convert_bytes_arg (P := Tryd.prog) w 120 5 Tryd.underlying120 Tryd.underlying5 b off _ c L rfl hc 9 Tryd.underlying9
theorem Owned.cap {w : World} {base : Nat} {a : Option Addr} {n c : Nat} {A : List Int} (h : Owned w base (.slice a n c) A) : n ≤ c ∧ c ≤ 9223372036854775807 := by
  obtain ⟨a', c', e, h1, h2, h3, h4⟩ := h.slice
  simp only [Value.slice.injEq] at e
  obtain ⟨rfl, rfl, rfl⟩ := e
  simp only [maxLen] at h3
  exact ⟨h4, by omega⟩
theorem Owned.lt_size {w : World} {base : Nat} {a : Option Addr} {n c : Nat} {A : List Int} (h : Owned w base (.slice a n c) A) : ∀ x, a = some x → x.block < w.heap.size := by
  intro x hx
  subst hx
  exact (World.ownsRow.lt h x.block rfl).2
theorem Owned.alloc {w : World} {base : Nat} {v : Value} {A : List Int} (h : Owned w base v A) (o : Obj) : Owned (w.alloc o) base v A := World.ownsRow.alloc h o
theorem Holds.take {w : World} {a : Option Addr} {L : List Int} (h : Holds w a L) (k : Nat) : Holds w a (L.take k) := by
  rcases h with rfl | ⟨b, off, rfl, hc⟩
  · exact .inl (by simp)
  · refine .inr ⟨b, off, rfl, fun i hi => ?_⟩
    rw [List.length_take] at hi
    rw [hc i (by omega)]
    simp [List.getD, show i < k by omega]
theorem Holds.pre {w : World} {a : Option Addr} {L M : List Int} (h : Holds w a (L ++ M)) : Holds w a L := by
  have := h.take L.length
  rwa [List.take_left] at this
/-- a row of literal bytes that has just been laid -/
theorem holds_one (w : World) (x : Int) : Holds (w.alloc (.cells #[.int .u8 x] 5)) (some ⟨w.heap.size, 0, none⟩) [x] :=
  .inr ⟨w.heap.size, 0, rfl, fun i hi => by
    have : i = 0 := by simpa using hi
    subst this
    simp [go_sem]⟩
theorem str_snoc (L : List Int) (x : Int) : (strOfNums (L ++ [x])).toList = (strOfNums L ++ strOfNums [x]).toList := by
  have e : strOfNums (L ++ [x]) = strOfNums L ++ strOfNums [x] := by
    apply ByteArray.ext
    rw [ByteArray.data_append]
    simp [strOfNums]
  rw [e]
theorem holds_laid (A : List Int) (w : World) (T : TypeId) : Holds (w.alloc (.cells (A.map (Value.int .u8)).toArray T)) (some ⟨w.heap.size, 0, none⟩) A :=
  .inr ⟨w.heap.size, 0, rfl, fun i hi => by
    simp only [Nat.zero_add]
    simp [go_sem, List.getD, List.getElem?_eq_getElem hi]⟩
theorem str_eq (A B : List Int) (ha : ∀ x ∈ A, 0 ≤ x ∧ x ≤ 255) (hb : ∀ x ∈ B, 0 ≤ x ∧ x ≤ 255) : ((strOfNums A).toList == (strOfNums B).toList) = decide (A = B) := by
  rw [Bool.eq_iff_iff, beq_iff_eq, decide_eq_true_iff]
  rw [Lib.strOfNums_toList, Lib.strOfNums_toList]
  exact bytesOf_inj A B ha hb
end Go.Proofs.YthghoekkdpchnaaDoor
