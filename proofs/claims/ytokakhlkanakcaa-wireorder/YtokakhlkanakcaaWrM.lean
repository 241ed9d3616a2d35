/- Maps of slices of messages, by nodes and by links, as plain functions to where a slice lies. -/
import Derived.Test.YtokakhlkanakcaaWrA
import Derived.Maps.Own
import Derived.Maps.OwnSet
import Derived.Maps.Views
import Derived.DeepKeys4
namespace Go.Proofs.Ytokakhlkanakcaa
open Go.ChangeShapes Go.WideShapes Go.ChangeAt Go.RowKit Go.Deep Go.Maps
set_option linter.unusedVariables false
/-- where a slice lies (0: it is nil; else the block's number and one), how long it is, how much room it has -/
abbrev Hd := Nat × Nat × Nat
def hv : Hd → Value
  | (0, n, c) => .slice none n c
  | (g + 1, n, c) => .slice (some ⟨g, 0, none⟩) n c
def noH : Hd := (0, 0, 0)
def hD (x : Hd) : DataW Unit := .agg [.lit (.int .i64 (x.1 : Int)), .lit (.int .i64 (x.2.1 : Int)), .lit (.int .i64 (x.2.2 : Int))]
def hR : Value → Option (DataW Unit × List MemPlace)
  | .slice none n c => some (hD (0, n, c), [])
  | .slice (some ⟨g, 0, none⟩) n c => some (hD (g + 1, n, c), [])
  | _ => none
theorem hR_hv (x : Hd) : hR (hv x) = some (hD x, []) := by
  obtain ⟨g, n, c⟩ := x
  cases g <;> rfl
theorem hR_inv {v : Value} {z : DataW Unit × List MemPlace} (h : hR v = some z) : ∃ x : Hd, v = hv x ∧ z = (hD x, []) := by
  unfold hR at h
  split at h
  · rename_i n c
    exact ⟨(0, n, c), rfl, (Option.some.inj h).symm⟩
  · rename_i g n c
    exact ⟨(g + 1, n, c), rfl, (Option.some.inj h).symm⟩
  · cases h
theorem hD_inj {x y : Hd} (h : hD x = hD y) : x = y := by
  obtain ⟨a, b, c⟩ := x
  obtain ⟨a', b', c'⟩ := y
  simp [hD] at h
  obtain ⟨h1, h2, h3⟩ := h
  have e1 : a = a' := by omega
  have e2 : b = b' := by omega
  have e3 : c = c' := by omega
  subst e1 e2 e3
  rfl
theorem lawI : Keyed Try.prog 3 := int_keyed Try.underlying3
theorem zeroHd (w : World) : (zeroValue 26).run Try.prog w = .ok (hv noH) w := by kernel_rfl
theorem keyI (p : Int) (hp : InI p) : keyOf Try.prog 3 (.int .i64 p) = some (.int .i64 p) := keyOf_int_mk Try.underlying3 (WalkArith.wf_i64 hp)
theorem injI {q p : Int} (_ : InI q) (_ : InI p) (e : Lit.int .i64 q = Lit.int .i64 p) : q = p := by injection e
/-- a link as a map's key -/
def lkV (p : Int × Int) : Value := .agg #[.int .i64 p.1, .int .i64 p.2]
def lkL (p : Int × Int) : Lit := .string (keyBytes [.int .i64 p.1, .int .i64 p.2])
def InL (p : Int × Int) : Prop := InI p.1 ∧ InI p.2
theorem lawL : Keyed Try.prog 63 := Keyed.of_law (deep_law_laid laidOut (m := 2) (by omega) (of_decide_eq_true (by kernel_rfl)) (by kernel_rfl) (by kernel_rfl))
theorem keyL (p : Int × Int) (hp : InL p) : keyOf Try.prog 63 (lkV p) = some (lkL p) := by
  obtain ⟨x, y⟩ := p
  have w1 : (Lit.int .i64 x).wf = true := WalkArith.wf_i64 hp.1
  have w2 : (Lit.int .i64 y).wf = true := WalkArith.wf_i64 hp.2
  have hk : Try.prog.keyType 63 = true := by kernel_rfl
  have hf : (Value.agg #[.int .i64 x, .int .i64 y]).formed Try.prog 63 = true := by
    simp only [Value.formed, Try.underlying63]
    exact decide_eq_true (by rfl)
  have key1 : ∀ (d : Nat) (z : Int), (Lit.int .i64 z).wf = true → Try.prog.keyLits (d + 1) 3 [.int .i64 z] = some [.int .i64 z] := fun d z hz => by
    simp only [Program.keyLits, Try.underlying3]
    rw [if_pos ⟨trivial, hz⟩]
  have hc : Try.prog.cellsOf 63 = 2 := by kernel_rfl
  have hi : Try.prog.cellsOf 3 = 1 := by kernel_rfl
  obtain ⟨d, hd⟩ : ∃ d, Try.prog.types.size = d + 1 := ⟨Try.prog.types.size - 1, by have : 1 ≤ Try.prog.types.size := of_decide_eq_true (by kernel_rfl); omega⟩
  have h2 : Try.prog.keyLits (d + 1 + 1) 63 [.int .i64 x, .int .i64 y] = some [.int .i64 x, .int .i64 y] := by
    have k1 := key1 d x w1
    have k2 := key1 d y w2
    generalize hg : d + 1 = e at *
    unfold Program.keyLits
    rw [Try.underlying63]
    simp only
    rw [if_pos ⟨hc.symm, by first | kernel_rfl | decide | simp⟩]
    simp only [List.mapM_cons, List.mapM_nil, hi, List.drop_zero, List.drop_succ_cons, List.take_succ_cons, List.take_zero, k1, k2, bind, Option.bind, pure, Option.map, List.flatten_cons, List.flatten_nil, List.append_nil, List.cons_append, List.nil_append]
  unfold keyOf lkV lkL
  rw [Try.underlying63]
  simp only [hk, hd]
  rw [if_pos (by rw [hf]; rfl)]
  show Option.map _ (Try.prog.keyLits (d + 1 + 1) 63 [.int .i64 x, .int .i64 y]) = _
  rw [h2]
  rfl
theorem injL {q p : Int × Int} (hq : InL q) (hp : InL p) (e : lkL q = lkL p) : q = p := by
  have h := lawL.inj (keyL q hq) (by rw [e]; exact keyL p hp)
  obtain ⟨a, b⟩ := q
  obtain ⟨c, d⟩ := p
  simp [lkV] at h
  obtain ⟨rfl, rfl⟩ := h
  rfl
/-- a map's datum tells this function -/
def RepB (D : DataW Unit) (T : Int → Option Hd) : Prop := ∀ p, InI p → Maps.has D ((Lit.int .i64 p)) = (T p).isSome ∧ ∀ x, T p = some x → ∀ z, D.atKey ((Lit.int .i64 p)) z = hD x
/-- block b is a map that tells this function, of at most n entries -/
def ScB (w : World) (b n : Nat) (T : Int → Option Hd) : Prop := ∃ D, w.ownsMap Try.prog 3 hR b n D ∧ RepB D T
theorem RepB.put {D : DataW Unit} {T : Int → Option Hd} (h : RepB D T) (hm : IsMap D) (p : Int) (hp : InI p) (x : Hd) : RepB (D.put ((Lit.int .i64 p)) (hD x)) (fun q => if q = p then some x else T q) := by
  intro q hv
  by_cases hq : q = p
  · subst hq
    simp only [if_pos]
    refine ⟨by rw [has_put_same hm (k := (Lit.int .i64 q)) (trivial)]; rfl, fun y hy z => ?_⟩
    cases hy
    exact atKey_put_same hm (k := (Lit.int .i64 q)) (trivial) _ _
  · have hne : (Lit.int .i64 q) ≠ (Lit.int .i64 p) := fun e => hq (injI hv hp e)
    simp only [if_neg hq]
    refine ⟨by rw [has_put_other hne]; exact (h q hv).1, fun y hy z => ?_⟩
    rw [atKey_put_other hne]
    exact (h q hv).2 y hy z
theorem RepB.del {D : DataW Unit} {T : Int → Option Hd} (h : RepB D T) (p : Int) (hp : InI p) : RepB (D.del ((Lit.int .i64 p))) (fun q => if q = p then none else T q) := by
  intro q hv
  by_cases hq : q = p
  · subst hq
    simp only [if_pos]
    exact ⟨by rw [has_del_same]; rfl, fun y hy => by cases hy⟩
  · have hne : (Lit.int .i64 q) ≠ (Lit.int .i64 p) := fun e => hq (injI hv hp e)
    simp only [if_neg hq]
    refine ⟨by rw [has_del_other hne]; exact (h q hv).1, fun y hy z => ?_⟩
    rw [atKey_del_other hne]
    exact (h q hv).2 y hy z
theorem RepB.at {D : DataW Unit} {T : Int → Option Hd} (h : RepB D T) (p : Int) (hv : InI p) : D.atKey ((Lit.int .i64 p)) (hD noH) = hD ((T p).getD noH) := by
  cases hp : T p with
  | none =>
    have := (h p hv).1
    rw [hp] at this
    rw [atKey_of_not_has (by simpa using this)]
    rfl
  | some x => exact (h p hv).2 x hp _
theorem ScB.empty (w : World) : ScB (w.alloc (.map #[] 0)) w.heap.size 0 (fun _ => none) := ⟨.map [], World.ownsMap_made w _ _ _, fun p _ => ⟨rfl, fun x hx => by cases hx⟩⟩
theorem ScB.mono {w : World} {b n n' : Nat} {T : Int → Option Hd} (h : ScB w b n T) (hn : n ≤ n') : ScB w b n' T := by
  obtain ⟨D, h1, h2⟩ := h
  exact ⟨D, h1.mono hn, h2⟩
theorem ScB.lt {w : World} {b n : Nat} {T : Int → Option Hd} (h : ScB w b n T) : b < w.heap.size := by
  obtain ⟨D, h1, h2⟩ := h
  exact h1.lt
theorem ScB.blk {w w' : World} {b n : Nat} {T : Int → Option Hd} (h : ScB w b n T) (hb : w'.heap[b]? = w.heap[b]?) : ScB w' b n T := by
  obtain ⟨D, ⟨es, clock, h1, r⟩, h2⟩ := h
  exact ⟨D, ⟨es, clock, hb.trans h1, r⟩, h2⟩
theorem ScB.keep {w w' : World} {b n : Nat} {T : Int → Option Hd} (h : ScB w b n T) (hb : Below w.heap.size w w') : ScB w' b n T := h.blk (hb.block b h.lt)
/-- 'm[k]' -/
theorem ScB.look {w : World} {b n : Nat} {T : Int → Option Hd} (h : ScB w b n T) (p : Int) (hp : InI p) : (Instr.lookup 59 (.map (some b)) ((.int .i64 p)) false).run Try.prog w = .ok (hv ((T p).getD noH)) w := by
  obtain ⟨D, h1, h2⟩ := h
  obtain ⟨v, ps, hrun, hv⟩ := h1.lookup lawI Try.underlying59 (zeroHd w) (hR_hv noH) (keyI p hp)
  obtain ⟨x, rfl, hx⟩ := hR_inv hv
  simp only [Prod.mk.injEq] at hx
  rw [h2.at p hp] at hx
  rw [hD_inj hx.1]
  exact hrun
section
variable {ops : Array Oper} {rest : List Oper} {o : Oper} {a : Act} {Q : Exit → Act → World → Prop}
/-- 'm[k] = v' -/
theorem wpList_put_scb {w : World} (hg : o.guard = none) (m x v : Operand) (hop : o.op = Op.mapUpdate 59 m x v) (b n : Nat) (T : Int → Option Hd) (hm : a.eval m = .map (some b)) (hs : ScB w b n T) (hn : n < 4611686018427387904) (p : Int) (hp : InI p) (y : Hd) (hx : a.eval x = (.int .i64 p)) (hv' : a.eval v = hv y)
    (hK : ∀ w', ScB w' b (n + 1) (fun q => if q = p then some y else T q) → w.grownBy w' (some b) → wpList Try.prog ops Q rest (a.put o.dst undef) w') : wpList Try.prog ops Q (o :: rest) a w := by
  obtain ⟨D, h1, h2⟩ := hs
  refine wpList_mapUpdate_own w hg m x v 59 hop 3 26 lawI Try.underlying59 hR b n D hm h1 (by unfold maxLen; omega) _ _ _ hx hv' (keyI p hp) _ [] (hR_hv y) ?_
  intro w' ho hgr
  exact hK w' ⟨_, ho, h2.put h1.isMap p hp y⟩ hgr
/-- 'delete(m, k)' -/
theorem wpList_del_scb {w : World} (hg : o.guard = none) (m x : Operand) (hop : o.op = Op.call { callee := Callee.builtin Builtin.delete, args := #[m, x], argTypes := #[59, 3] }) (b n : Nat) (T : Int → Option Hd) (hm : a.eval m = .map (some b)) (hs : ScB w b n T) (p : Int) (hp : InI p) (hx : a.eval x = (.int .i64 p))
    (hK : ∀ w', ScB w' b n (fun q => if q = p then none else T q) → w.grownBy w' (some b) → wpList Try.prog ops Q rest (a.put o.dst (.tuple #[])) w') : wpList Try.prog ops Q (o :: rest) a w := by
  obtain ⟨D, h1, h2⟩ := hs
  refine wpList_delete_own w hg m x 59 3 hop 26 lawI Try.underlying59 hR b n D hm h1 _ _ hx (keyI p hp) ?_
  intro w' ho ht
  exact hK w' ⟨_, ho, h2.del p hp⟩ ht.grown
end
/-- a map's datum tells this function -/
def RepL (D : DataW Unit) (T : (Int × Int) → Option Hd) : Prop := ∀ p, InL p → Maps.has D ((lkL p)) = (T p).isSome ∧ ∀ x, T p = some x → ∀ z, D.atKey ((lkL p)) z = hD x
/-- block b is a map that tells this function, of at most n entries -/
def ScL (w : World) (b n : Nat) (T : (Int × Int) → Option Hd) : Prop := ∃ D, w.ownsMap Try.prog 63 hR b n D ∧ RepL D T
theorem RepL.put {D : DataW Unit} {T : (Int × Int) → Option Hd} (h : RepL D T) (hm : IsMap D) (p : (Int × Int)) (hp : InL p) (x : Hd) : RepL (D.put ((lkL p)) (hD x)) (fun q => if q = p then some x else T q) := by
  intro q hv
  by_cases hq : q = p
  · subst hq
    simp only [if_pos]
    refine ⟨by rw [has_put_same hm (k := (lkL q)) (trivial)]; rfl, fun y hy z => ?_⟩
    cases hy
    exact atKey_put_same hm (k := (lkL q)) (trivial) _ _
  · have hne : (lkL q) ≠ (lkL p) := fun e => hq (injL hv hp e)
    simp only [if_neg hq]
    refine ⟨by rw [has_put_other hne]; exact (h q hv).1, fun y hy z => ?_⟩
    rw [atKey_put_other hne]
    exact (h q hv).2 y hy z
theorem RepL.del {D : DataW Unit} {T : (Int × Int) → Option Hd} (h : RepL D T) (p : (Int × Int)) (hp : InL p) : RepL (D.del ((lkL p))) (fun q => if q = p then none else T q) := by
  intro q hv
  by_cases hq : q = p
  · subst hq
    simp only [if_pos]
    exact ⟨by rw [has_del_same]; rfl, fun y hy => by cases hy⟩
  · have hne : (lkL q) ≠ (lkL p) := fun e => hq (injL hv hp e)
    simp only [if_neg hq]
    refine ⟨by rw [has_del_other hne]; exact (h q hv).1, fun y hy z => ?_⟩
    rw [atKey_del_other hne]
    exact (h q hv).2 y hy z
theorem RepL.at {D : DataW Unit} {T : (Int × Int) → Option Hd} (h : RepL D T) (p : (Int × Int)) (hv : InL p) : D.atKey ((lkL p)) (hD noH) = hD ((T p).getD noH) := by
  cases hp : T p with
  | none =>
    have := (h p hv).1
    rw [hp] at this
    rw [atKey_of_not_has (by simpa using this)]
    rfl
  | some x => exact (h p hv).2 x hp _
theorem ScL.empty (w : World) : ScL (w.alloc (.map #[] 0)) w.heap.size 0 (fun _ => none) := ⟨.map [], World.ownsMap_made w _ _ _, fun p _ => ⟨rfl, fun x hx => by cases hx⟩⟩
theorem ScL.mono {w : World} {b n n' : Nat} {T : (Int × Int) → Option Hd} (h : ScL w b n T) (hn : n ≤ n') : ScL w b n' T := by
  obtain ⟨D, h1, h2⟩ := h
  exact ⟨D, h1.mono hn, h2⟩
theorem ScL.lt {w : World} {b n : Nat} {T : (Int × Int) → Option Hd} (h : ScL w b n T) : b < w.heap.size := by
  obtain ⟨D, h1, h2⟩ := h
  exact h1.lt
theorem ScL.blk {w w' : World} {b n : Nat} {T : (Int × Int) → Option Hd} (h : ScL w b n T) (hb : w'.heap[b]? = w.heap[b]?) : ScL w' b n T := by
  obtain ⟨D, ⟨es, clock, h1, r⟩, h2⟩ := h
  exact ⟨D, ⟨es, clock, hb.trans h1, r⟩, h2⟩
theorem ScL.keep {w w' : World} {b n : Nat} {T : (Int × Int) → Option Hd} (h : ScL w b n T) (hb : Below w.heap.size w w') : ScL w' b n T := h.blk (hb.block b h.lt)
/-- 'm[k]' -/
theorem ScL.look {w : World} {b n : Nat} {T : (Int × Int) → Option Hd} (h : ScL w b n T) (p : (Int × Int)) (hp : InL p) : (Instr.lookup 58 (.map (some b)) ((lkV p)) false).run Try.prog w = .ok (hv ((T p).getD noH)) w := by
  obtain ⟨D, h1, h2⟩ := h
  obtain ⟨v, ps, hrun, hv⟩ := h1.lookup lawL Try.underlying58 (zeroHd w) (hR_hv noH) (keyL p hp)
  obtain ⟨x, rfl, hx⟩ := hR_inv hv
  simp only [Prod.mk.injEq] at hx
  rw [h2.at p hp] at hx
  rw [hD_inj hx.1]
  exact hrun
section
variable {ops : Array Oper} {rest : List Oper} {o : Oper} {a : Act} {Q : Exit → Act → World → Prop}
/-- 'm[k] = v' -/
theorem wpList_put_scl {w : World} (hg : o.guard = none) (m x v : Operand) (hop : o.op = Op.mapUpdate 58 m x v) (b n : Nat) (T : (Int × Int) → Option Hd) (hm : a.eval m = .map (some b)) (hs : ScL w b n T) (hn : n < 4611686018427387904) (p : (Int × Int)) (hp : InL p) (y : Hd) (hx : a.eval x = (lkV p)) (hv' : a.eval v = hv y)
    (hK : ∀ w', ScL w' b (n + 1) (fun q => if q = p then some y else T q) → w.grownBy w' (some b) → wpList Try.prog ops Q rest (a.put o.dst undef) w') : wpList Try.prog ops Q (o :: rest) a w := by
  obtain ⟨D, h1, h2⟩ := hs
  refine wpList_mapUpdate_own w hg m x v 58 hop 63 26 lawL Try.underlying58 hR b n D hm h1 (by unfold maxLen; omega) _ _ _ hx hv' (keyL p hp) _ [] (hR_hv y) ?_
  intro w' ho hgr
  exact hK w' ⟨_, ho, h2.put h1.isMap p hp y⟩ hgr
/-- 'delete(m, k)' -/
theorem wpList_del_scl {w : World} (hg : o.guard = none) (m x : Operand) (hop : o.op = Op.call { callee := Callee.builtin Builtin.delete, args := #[m, x], argTypes := #[58, 63] }) (b n : Nat) (T : (Int × Int) → Option Hd) (hm : a.eval m = .map (some b)) (hs : ScL w b n T) (p : (Int × Int)) (hp : InL p) (hx : a.eval x = (lkV p))
    (hK : ∀ w', ScL w' b n (fun q => if q = p then none else T q) → w.grownBy w' (some b) → wpList Try.prog ops Q rest (a.put o.dst (.tuple #[])) w') : wpList Try.prog ops Q (o :: rest) a w := by
  obtain ⟨D, h1, h2⟩ := hs
  refine wpList_delete_own w hg m x 58 63 hop 26 lawL Try.underlying58 hR b n D hm h1 _ _ hx (keyL p hp) ?_
  intro w' ho ht
  exact hK w' ⟨_, ho, h2.del p hp⟩ ht.grown
end
end Go.Proofs.Ytokakhlkanakcaa
