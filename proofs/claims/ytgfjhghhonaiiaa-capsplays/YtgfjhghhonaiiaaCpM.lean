/- caps' two maps as plain functions. -/
import Derived.Test.YtgfjhghhonaiiaaCpA
import Derived.Maps.Own
import Derived.Maps.OwnSet
import Derived.Maps.Views
import Derived.DeepKeys4
namespace Go.Proofs.Ytgfjhghhonaiiaa
open Go.ChangeShapes Go.WideShapes Go.ChangeAt Go.RowKit Go.Deep Go.Maps
set_option linter.unusedVariables false
def iD (x : Int) : DataW Unit := .lit (.int .i64 x)
def iR : Value → Option (DataW Unit × List MemPlace)
  | .int .i64 x => some (iD x, [])
  | _ => none
theorem iR_i (x : Int) : iR (.int .i64 x) = some (iD x, []) := rfl
theorem iR_inv {v : Value} {z : DataW Unit × List MemPlace} (h : iR v = some z) : ∃ x : Int, v = .int .i64 x ∧ z = (iD x, []) := by
  unfold iR at h
  split at h
  · rename_i x
    exact ⟨x, rfl, (Option.some.inj h).symm⟩
  · cases h
theorem iD_inj {x y : Int} (h : iD x = iD y) : x = y := by
  simpa [iD] using h
def uv (x : Unit) : Value := .agg #[]
def uD (x : Unit) : DataW Unit := .agg []
def uR : Value → Option (DataW Unit × List MemPlace)
  | .agg ⟨[]⟩ => some (uD (), [])
  | _ => none
theorem uR_u (x : Unit) : uR (uv x) = some (uD x, []) := rfl
theorem uR_inv {v : Value} {z : DataW Unit × List MemPlace} (h : uR v = some z) : ∃ x : Unit, v = uv x ∧ z = (uD x, []) := by
  unfold uR at h
  split at h
  · exact ⟨(), rfl, (Option.some.inj h).symm⟩
  · cases h
theorem uD_inj {x y : Unit} (h : uD x = uD y) : x = y := rfl
theorem lawI : Keyed Try.prog 3 := int_keyed Try.underlying3
theorem zeroI (w : World) : (zeroValue 3).run Try.prog w = .ok (.int .i64 0) w := by kernel_rfl
theorem zeroU (w : World) : (zeroValue 59).run Try.prog w = .ok (uv ()) w := by kernel_rfl
theorem keyI (p : Int) (hp : InI p) : keyOf Try.prog 3 (.int .i64 p) = some (.int .i64 p) := keyOf_int_mk Try.underlying3 (WalkArith.wf_i64 hp)
theorem injI {q p : Int} (_ : InI q) (_ : InI p) (e : Lit.int .i64 q = Lit.int .i64 p) : q = p := by injection e
/-- a link as a map's key -/
def lkV (p : Int × Int) : Value := .agg #[.int .i64 p.1, .int .i64 p.2]
def lkL (p : Int × Int) : Lit := .string (keyBytes [.int .i64 p.1, .int .i64 p.2])
def InL (p : Int × Int) : Prop := InI p.1 ∧ InI p.2
theorem lawL : Keyed Try.prog 61 := Keyed.of_law (deep_law_laid laidOut (m := 2) (by omega) (of_decide_eq_true (by kernel_rfl)) (by kernel_rfl) (by kernel_rfl))
theorem keyL (p : Int × Int) (hp : InL p) : keyOf Try.prog 61 (lkV p) = some (lkL p) := by
  obtain ⟨x, y⟩ := p
  have w1 : (Lit.int .i64 x).wf = true := WalkArith.wf_i64 hp.1
  have w2 : (Lit.int .i64 y).wf = true := WalkArith.wf_i64 hp.2
  have hk : Try.prog.keyType 61 = true := by kernel_rfl
  have hf : (Value.agg #[.int .i64 x, .int .i64 y]).formed Try.prog 61 = true := by
    simp only [Value.formed, Try.underlying61]
    exact decide_eq_true (by rfl)
  have key1 : ∀ (d : Nat) (z : Int), (Lit.int .i64 z).wf = true → Try.prog.keyLits (d + 1) 3 [.int .i64 z] = some [.int .i64 z] := fun d z hz => by
    simp only [Program.keyLits, Try.underlying3]
    rw [if_pos ⟨trivial, hz⟩]
  have hc : Try.prog.cellsOf 61 = 2 := by kernel_rfl
  have hi : Try.prog.cellsOf 3 = 1 := by kernel_rfl
  obtain ⟨d, hd⟩ : ∃ d, Try.prog.types.size = d + 1 := ⟨Try.prog.types.size - 1, by have : 1 ≤ Try.prog.types.size := of_decide_eq_true (by kernel_rfl); omega⟩
  have h2 : Try.prog.keyLits (d + 1 + 1) 61 [.int .i64 x, .int .i64 y] = some [.int .i64 x, .int .i64 y] := by
    have k1 := key1 d x w1
    have k2 := key1 d y w2
    generalize hg : d + 1 = e at *
    unfold Program.keyLits
    rw [Try.underlying61]
    simp only
    rw [if_pos ⟨hc.symm, by first | kernel_rfl | decide | simp⟩]
    simp only [List.mapM_cons, List.mapM_nil, hi, List.drop_zero, List.drop_succ_cons, List.take_succ_cons, List.take_zero, k1, k2, bind, Option.bind, pure, Option.map, List.flatten_cons, List.flatten_nil, List.append_nil, List.cons_append, List.nil_append]
  unfold keyOf lkV lkL
  rw [Try.underlying61]
  simp only [hk, hd]
  rw [if_pos (by rw [hf]; rfl)]
  show Option.map _ (Try.prog.keyLits (d + 1 + 1) 61 [.int .i64 x, .int .i64 y]) = _
  rw [h2]
  rfl
theorem injL {q p : Int × Int} (hq : InL q) (hp : InL p) (e : lkL q = lkL p) : q = p := by
  have h := lawL.inj (keyL q hq) (by rw [e]; exact keyL p hp)
  obtain ⟨a, b⟩ := q
  obtain ⟨c, d⟩ := p
  simp [lkV] at h
  obtain ⟨rfl, rfl⟩ := h
  rfl
/-- a map's datum tells this function -/
def RepQ (D : DataW Unit) (T : Int → Option Int) : Prop := ∀ p, InI p → Maps.has D (Lit.int .i64 p) = (T p).isSome ∧ ∀ x, T p = some x → ∀ z, D.atKey (Lit.int .i64 p) z = iD x
/-- block b is a map that tells this function, of at most n entries -/
def ScQ (w : World) (b n : Nat) (T : Int → Option Int) : Prop := ∃ D, w.ownsMap Try.prog 3 iR b n D ∧ RepQ D T
theorem RepQ.put {D : DataW Unit} {T : Int → Option Int} (h : RepQ D T) (hm : IsMap D) (p : Int) (hp : InI p) (x : Int) : RepQ (D.put (Lit.int .i64 p) (iD x)) (fun q => if q = p then some x else T q) := by
  intro q hv
  by_cases hq : q = p
  · subst hq
    simp only [if_pos]
    refine ⟨by rw [has_put_same hm (k := Lit.int .i64 q) (trivial)]; rfl, fun y hy z => ?_⟩
    cases hy
    exact atKey_put_same hm (k := Lit.int .i64 q) (trivial) _ _
  · have hne : Lit.int .i64 q ≠ Lit.int .i64 p := fun e => hq (injI hv hp e)
    simp only [if_neg hq]
    refine ⟨by rw [has_put_other hne]; exact (h q hv).1, fun y hy z => ?_⟩
    rw [atKey_put_other hne]
    exact (h q hv).2 y hy z
theorem RepQ.del {D : DataW Unit} {T : Int → Option Int} (h : RepQ D T) (p : Int) (hp : InI p) : RepQ (D.del (Lit.int .i64 p)) (fun q => if q = p then none else T q) := by
  intro q hv
  by_cases hq : q = p
  · subst hq
    simp only [if_pos]
    exact ⟨by rw [has_del_same]; rfl, fun y hy => by cases hy⟩
  · have hne : Lit.int .i64 q ≠ Lit.int .i64 p := fun e => hq (injI hv hp e)
    simp only [if_neg hq]
    refine ⟨by rw [has_del_other hne]; exact (h q hv).1, fun y hy z => ?_⟩
    rw [atKey_del_other hne]
    exact (h q hv).2 y hy z
theorem RepQ.at {D : DataW Unit} {T : Int → Option Int} (h : RepQ D T) (p : Int) (hv : InI p) : D.atKey (Lit.int .i64 p) (iD (0 : Int)) = iD ((T p).getD (0 : Int)) := by
  cases hp : T p with
  | none =>
    have := (h p hv).1
    rw [hp] at this
    rw [atKey_of_not_has (by simpa using this)]
    rfl
  | some x => exact (h p hv).2 x hp _
theorem ScQ.empty (w : World) : ScQ (w.alloc (.map #[] 0)) w.heap.size 0 (fun _ => none) := ⟨.map [], World.ownsMap_made w _ _ _, fun p _ => ⟨rfl, fun x hx => by cases hx⟩⟩
theorem ScQ.mono {w : World} {b n n' : Nat} {T : Int → Option Int} (h : ScQ w b n T) (hn : n ≤ n') : ScQ w b n' T := by
  obtain ⟨D, h1, h2⟩ := h
  exact ⟨D, h1.mono hn, h2⟩
theorem ScQ.lt {w : World} {b n : Nat} {T : Int → Option Int} (h : ScQ w b n T) : b < w.heap.size := by
  obtain ⟨D, h1, h2⟩ := h
  exact h1.lt
theorem ScQ.blk {w w' : World} {b n : Nat} {T : Int → Option Int} (h : ScQ w b n T) (hb : w'.heap[b]? = w.heap[b]?) : ScQ w' b n T := by
  obtain ⟨D, ⟨es, clock, h1, r⟩, h2⟩ := h
  exact ⟨D, ⟨es, clock, hb.trans h1, r⟩, h2⟩
theorem ScQ.keep {w w' : World} {b n : Nat} {T : Int → Option Int} (h : ScQ w b n T) (hb : Below w.heap.size w w') : ScQ w' b n T := h.blk (hb.block b h.lt)
/-- 'm[k]' -/
theorem ScQ.look {w : World} {b n : Nat} {T : Int → Option Int} (h : ScQ w b n T) (p : Int) (hp : InI p) : (Instr.lookup 36 (.map (some b)) (Value.int .i64 p) false).run Try.prog w = .ok (Value.int .i64 ((T p).getD (0 : Int))) w := by
  obtain ⟨D, h1, h2⟩ := h
  obtain ⟨v, ps, hrun, hv⟩ := h1.lookup lawI Try.underlying36 (zeroI w) (iR_i (0 : Int)) (keyI p hp)
  obtain ⟨x, rfl, hx⟩ := iR_inv hv
  simp only [Prod.mk.injEq] at hx
  rw [h2.at p hp] at hx
  rw [iD_inj hx.1]
  exact hrun
/-- 'v, ok := m[k]' -/
theorem ScQ.look2 {w : World} {b n : Nat} {T : Int → Option Int} (h : ScQ w b n T) (p : Int) (hp : InI p) : (Instr.lookup 36 (.map (some b)) (Value.int .i64 p) true).run Try.prog w = .ok (.tuple #[Value.int .i64 ((T p).getD (0 : Int)), .bool (T p).isSome]) w := by
  obtain ⟨D, h1, h2⟩ := h
  obtain ⟨v, ps, hrun, hv⟩ := h1.look_ok lawI Try.underlying36 (zeroI w) (iR_i (0 : Int)) (keyI p hp)
  obtain ⟨x, rfl, hx⟩ := iR_inv hv
  simp only [Prod.mk.injEq] at hx
  rw [h2.at p hp] at hx
  rw [iD_inj hx.1, ← (h2 p hp).1]
  exact hrun
section
variable {ops : Array Oper} {rest : List Oper} {o : Oper} {a : Act} {Q : Exit → Act → World → Prop}
/-- 'm[k] = v' -/
theorem wpList_put_scq {w : World} (hg : o.guard = none) (m x v : Operand) (hop : o.op = Op.mapUpdate 36 m x v) (b n : Nat) (T : Int → Option Int) (hm : a.eval m = .map (some b)) (hs : ScQ w b n T) (hn : n < 4611686018427387904) (p : Int) (hp : InI p) (y : Int) (hx : a.eval x = Value.int .i64 p) (hv' : a.eval v = Value.int .i64 y)
    (hK : ∀ w', ScQ w' b (n + 1) (fun q => if q = p then some y else T q) → w.grownBy w' (some b) → wpList Try.prog ops Q rest (a.put o.dst undef) w') : wpList Try.prog ops Q (o :: rest) a w := by
  obtain ⟨D, h1, h2⟩ := hs
  refine wpList_mapUpdate_own w hg m x v 36 hop 3 3 lawI Try.underlying36 iR b n D hm h1 (by unfold maxLen; omega) _ _ _ hx hv' (keyI p hp) _ [] (iR_i y) ?_
  intro w' ho hgr
  exact hK w' ⟨_, ho, h2.put h1.isMap p hp y⟩ hgr
/-- 'delete(m, k)' -/
theorem wpList_del_scq {w : World} (hg : o.guard = none) (m x : Operand) (hop : o.op = Op.call { callee := Callee.builtin Builtin.delete, args := #[m, x], argTypes := #[36, 3] }) (b n : Nat) (T : Int → Option Int) (hm : a.eval m = .map (some b)) (hs : ScQ w b n T) (p : Int) (hp : InI p) (hx : a.eval x = Value.int .i64 p)
    (hK : ∀ w', ScQ w' b n (fun q => if q = p then none else T q) → w.grownBy w' (some b) → wpList Try.prog ops Q rest (a.put o.dst (.tuple #[])) w') : wpList Try.prog ops Q (o :: rest) a w := by
  obtain ⟨D, h1, h2⟩ := hs
  refine wpList_delete_own w hg m x 36 3 hop 3 lawI Try.underlying36 iR b n D hm h1 _ _ hx (keyI p hp) ?_
  intro w' ho ht
  exact hK w' ⟨_, ho, h2.del p hp⟩ ht.grown
end
/-- a map's datum tells this function -/
def RepG (D : DataW Unit) (T : (Int × Int) → Option Unit) : Prop := ∀ p, InL p → Maps.has D (lkL p) = (T p).isSome ∧ ∀ x, T p = some x → ∀ z, D.atKey (lkL p) z = uD x
/-- block b is a map that tells this function, of at most n entries -/
def ScG (w : World) (b n : Nat) (T : (Int × Int) → Option Unit) : Prop := ∃ D, w.ownsMap Try.prog 61 uR b n D ∧ RepG D T
theorem RepG.put {D : DataW Unit} {T : (Int × Int) → Option Unit} (h : RepG D T) (hm : IsMap D) (p : (Int × Int)) (hp : InL p) (x : Unit) : RepG (D.put (lkL p) (uD x)) (fun q => if q = p then some x else T q) := by
  intro q hv
  by_cases hq : q = p
  · subst hq
    simp only [if_pos]
    refine ⟨by rw [has_put_same hm (k := lkL q) (trivial)]; rfl, fun y hy z => ?_⟩
    cases hy
    exact atKey_put_same hm (k := lkL q) (trivial) _ _
  · have hne : lkL q ≠ lkL p := fun e => hq (injL hv hp e)
    simp only [if_neg hq]
    refine ⟨by rw [has_put_other hne]; exact (h q hv).1, fun y hy z => ?_⟩
    rw [atKey_put_other hne]
    exact (h q hv).2 y hy z
theorem RepG.del {D : DataW Unit} {T : (Int × Int) → Option Unit} (h : RepG D T) (p : (Int × Int)) (hp : InL p) : RepG (D.del (lkL p)) (fun q => if q = p then none else T q) := by
  intro q hv
  by_cases hq : q = p
  · subst hq
    simp only [if_pos]
    exact ⟨by rw [has_del_same]; rfl, fun y hy => by cases hy⟩
  · have hne : lkL q ≠ lkL p := fun e => hq (injL hv hp e)
    simp only [if_neg hq]
    refine ⟨by rw [has_del_other hne]; exact (h q hv).1, fun y hy z => ?_⟩
    rw [atKey_del_other hne]
    exact (h q hv).2 y hy z
theorem RepG.at {D : DataW Unit} {T : (Int × Int) → Option Unit} (h : RepG D T) (p : (Int × Int)) (hv : InL p) : D.atKey (lkL p) (uD ()) = uD ((T p).getD ()) := by
  cases hp : T p with
  | none =>
    have := (h p hv).1
    rw [hp] at this
    rw [atKey_of_not_has (by simpa using this)]
  | some x => exact (h p hv).2 x hp _
theorem ScG.empty (w : World) : ScG (w.alloc (.map #[] 0)) w.heap.size 0 (fun _ => none) := ⟨.map [], World.ownsMap_made w _ _ _, fun p _ => ⟨rfl, fun x hx => by cases hx⟩⟩
theorem ScG.mono {w : World} {b n n' : Nat} {T : (Int × Int) → Option Unit} (h : ScG w b n T) (hn : n ≤ n') : ScG w b n' T := by
  obtain ⟨D, h1, h2⟩ := h
  exact ⟨D, h1.mono hn, h2⟩
theorem ScG.lt {w : World} {b n : Nat} {T : (Int × Int) → Option Unit} (h : ScG w b n T) : b < w.heap.size := by
  obtain ⟨D, h1, h2⟩ := h
  exact h1.lt
theorem ScG.blk {w w' : World} {b n : Nat} {T : (Int × Int) → Option Unit} (h : ScG w b n T) (hb : w'.heap[b]? = w.heap[b]?) : ScG w' b n T := by
  obtain ⟨D, ⟨es, clock, h1, r⟩, h2⟩ := h
  exact ⟨D, ⟨es, clock, hb.trans h1, r⟩, h2⟩
theorem ScG.keep {w w' : World} {b n : Nat} {T : (Int × Int) → Option Unit} (h : ScG w b n T) (hb : Below w.heap.size w w') : ScG w' b n T := h.blk (hb.block b h.lt)
/-- 'm[k]' -/
theorem ScG.look {w : World} {b n : Nat} {T : (Int × Int) → Option Unit} (h : ScG w b n T) (p : (Int × Int)) (hp : InL p) : (Instr.lookup 37 (.map (some b)) (lkV p) false).run Try.prog w = .ok (uv ((T p).getD ())) w := by
  obtain ⟨D, h1, h2⟩ := h
  obtain ⟨v, ps, hrun, hv⟩ := h1.lookup lawL Try.underlying37 (zeroU w) (uR_u ()) (keyL p hp)
  obtain ⟨x, rfl, hx⟩ := uR_inv hv
  simp only [Prod.mk.injEq] at hx
  rw [h2.at p hp] at hx
  rw [uD_inj hx.1]
  exact hrun
/-- 'v, ok := m[k]' -/
theorem ScG.look2 {w : World} {b n : Nat} {T : (Int × Int) → Option Unit} (h : ScG w b n T) (p : (Int × Int)) (hp : InL p) : (Instr.lookup 37 (.map (some b)) (lkV p) true).run Try.prog w = .ok (.tuple #[uv ((T p).getD ()), .bool (T p).isSome]) w := by
  obtain ⟨D, h1, h2⟩ := h
  obtain ⟨v, ps, hrun, hv⟩ := h1.look_ok lawL Try.underlying37 (zeroU w) (uR_u ()) (keyL p hp)
  obtain ⟨x, rfl, hx⟩ := uR_inv hv
  simp only [Prod.mk.injEq] at hx
  rw [h2.at p hp] at hx
  rw [uD_inj hx.1, ← (h2 p hp).1]
  exact hrun
section
variable {ops : Array Oper} {rest : List Oper} {o : Oper} {a : Act} {Q : Exit → Act → World → Prop}
/-- 'm[k] = v' -/
theorem wpList_put_scg {w : World} (hg : o.guard = none) (m x v : Operand) (hop : o.op = Op.mapUpdate 37 m x v) (b n : Nat) (T : (Int × Int) → Option Unit) (hm : a.eval m = .map (some b)) (hs : ScG w b n T) (hn : n < 4611686018427387904) (p : (Int × Int)) (hp : InL p) (y : Unit) (hx : a.eval x = lkV p) (hv' : a.eval v = uv y)
    (hK : ∀ w', ScG w' b (n + 1) (fun q => if q = p then some y else T q) → w.grownBy w' (some b) → wpList Try.prog ops Q rest (a.put o.dst undef) w') : wpList Try.prog ops Q (o :: rest) a w := by
  obtain ⟨D, h1, h2⟩ := hs
  refine wpList_mapUpdate_own w hg m x v 37 hop 61 59 lawL Try.underlying37 uR b n D hm h1 (by unfold maxLen; omega) _ _ _ hx hv' (keyL p hp) _ [] (uR_u y) ?_
  intro w' ho hgr
  exact hK w' ⟨_, ho, h2.put h1.isMap p hp y⟩ hgr
/-- 'delete(m, k)' -/
theorem wpList_del_scg {w : World} (hg : o.guard = none) (m x : Operand) (hop : o.op = Op.call { callee := Callee.builtin Builtin.delete, args := #[m, x], argTypes := #[37, 61] }) (b n : Nat) (T : (Int × Int) → Option Unit) (hm : a.eval m = .map (some b)) (hs : ScG w b n T) (p : (Int × Int)) (hp : InL p) (hx : a.eval x = lkV p)
    (hK : ∀ w', ScG w' b n (fun q => if q = p then none else T q) → w.grownBy w' (some b) → wpList Try.prog ops Q rest (a.put o.dst (.tuple #[])) w') : wpList Try.prog ops Q (o :: rest) a w := by
  obtain ⟨D, h1, h2⟩ := hs
  refine wpList_delete_own w hg m x 37 61 hop 59 lawL Try.underlying37 uR b n D hm h1 _ _ hx (keyL p hp) ?_
  intro w' ho ht
  exact hK w' ⟨_, ho, h2.del p hp⟩ ht.grown
end
end Go.Proofs.Ytgfjhghhonaiiaa
