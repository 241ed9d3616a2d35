/- Changes (api.Put) in memory: slices that may be read, slices of one's own. A map of changes by their keys, as a plain function: what is at a key, a store, a delete, and a range in whatever order. Plain facts on a number's sevens (rv: what is read; varL: what is written); of no program. Batches of changes, plainly: what may be, their bytes, how bytes are read. -/
import Derived.Test.YtcindeechmpalaaGreatMgKl2
import Derived.OwnWalk
import Derived.Maps.Own
import Derived.Maps.OwnSet
import Derived.Maps.Views
import Derived.Maps.RangeWalk
import Derived.StringKeys
import Derived.Test.YtcindeechmpalaaGreatMgKl0
namespace Go.Proofs.YtcindeechmpalaaGreat
open Go.ChangeShapes Go.WideShapes Go.ChangeAt Go.RowKit Go.Deep
set_option linter.unusedVariables false
/-- a change: key, value, gone -/
structure Pt where
  k : ByteArray
  v : ByteArray
  g : Bool
def noP : Pt := ⟨⟨#[]⟩, ⟨#[]⟩, false⟩
def pC (x : Pt) : Array Value := #[.string x.k, .string x.v, .bool x.g]
def pcl (x : Pt) : List Value := [.string x.k, .string x.v, .bool x.g]
def pcs (l : List Pt) : List Value := l.flatMap pcl
theorem pcs_len (l : List Pt) : (pcs l).length = l.length * 3 := by
  induction l with
  | nil => rfl
  | cons x l ih => simp only [pcs, List.flatMap_cons, List.length_append, List.length_cons] at ih ⊢; rw [ih]; simp [pcl]; omega
theorem pcs_at (l : List Pt) (i : Nat) (x : Pt) (h : l[i]? = some x) (k : Nat) (hk : k < 3) : (pcs l)[i * 3 + k]? = (pcl x)[k]? := by
  induction l generalizing i with
  | nil => simp at h
  | cons y l ih =>
    cases i with
    | zero =>
      simp at h
      subst h
      simp only [pcs, List.flatMap_cons, Nat.zero_mul, Nat.zero_add]
      rw [List.getElem?_append_left (by simp [pcl]; omega)]
    | succ i =>
      simp only [List.getElem?_cons_succ] at h
      have := ih i h
      simp only [pcs, List.flatMap_cons] at this ⊢
      rw [List.getElem?_append_right (by simp [pcl]; omega), ← this]
      congr 1
      simp [pcl]
      omega
/-- a change's three cells -/
def Pc (w : World) (b o : Nat) (x : Pt) : Prop := w.cell? ⟨b, o, none⟩ = some (.string x.k) ∧ w.cell? ⟨b, o + 1, none⟩ = some (.string x.v) ∧ w.cell? ⟨b, o + 2, none⟩ = some (.bool x.g)
theorem Pc.kept {w w' : World} {b o : Nat} {x : Pt} (h : Pc w b o x) (hb : w'.heap[b]? = w.heap[b]?) : Pc w' b o x :=
  ⟨(World.cell?_of_block (a := ⟨b, o, none⟩) hb).trans h.1, (World.cell?_of_block (a := ⟨b, o + 1, none⟩) hb).trans h.2.1, (World.cell?_of_block (a := ⟨b, o + 2, none⟩) hb).trans h.2.2⟩
/-- a slice of changes may be read -/
def InP (w : World) (a : Option Addr) (l : List Pt) : Prop := l = [] ∨ ∃ b off, a = some ⟨b, off, none⟩ ∧ b < w.heap.size ∧ ∀ i x, l[i]? = some x → Pc w b (off + i * 3) x
theorem InP.kept {w w' : World} {a : Option Addr} {l : List Pt} (h : InP w a l) (hs : w.heap.size ≤ w'.heap.size) (hb : ∀ x, a = some x → l ≠ [] → w'.heap[x.block]? = w.heap[x.block]?) : InP w' a l := by
  rcases h with h | ⟨b, off, rfl, h1, h2⟩
  · exact .inl h
  · by_cases hl : l = []
    · exact .inl hl
    · exact .inr ⟨b, off, rfl, Nat.lt_of_lt_of_le h1 hs, fun i x hx => (h2 i x hx).kept (hb _ rfl hl)⟩
theorem InP.lt {w : World} {a : Option Addr} {l : List Pt} (h : InP w a l) : ∀ x, a = some x → l ≠ [] → x.block < w.heap.size := by
  intro x hx hl
  rcases h with h | ⟨b, off, rfl, h1, h2⟩
  · exact absurd h hl
  · cases hx; exact h1
theorem InP.keep {w w' : World} {a : Option Addr} {l : List Pt} (h : InP w a l) (hb : Below w.heap.size w w') : InP w' a l := h.kept hb.size fun x hx hl => hb.block _ (h.lt x hx hl)
theorem InP.at {w : World} {a : Option Addr} {l : List Pt} (h : InP w a l) {i : Nat} {x : Pt} (hx : l[i]? = some x) : ∃ b off, a = some ⟨b, off, none⟩ ∧ b < w.heap.size ∧ Pc w b (off + i * 3) x := by
  rcases h with h | ⟨b, off, e, h1, h2⟩
  · rw [h] at hx; cases hx
  · exact ⟨b, off, e, h1, h2 i x hx⟩
/-- a slice of changes of one's own, from block 'base' on -/
def OwnP (w : World) (base : Nat) (v : Value) (l : List Pt) : Prop := w.ownsRow base 45 3 v l.length (pcs l)
theorem OwnP.nil (w : World) (base : Nat) : OwnP w base (.slice none 0 0) [] := World.ownsRow_nil _ _ _ _
theorem OwnP.own {w : World} {base : Nat} {v : Value} {l : List Pt} (h : OwnP w base v l) : ∀ k, v.ownBlock = some k → base ≤ k ∧ k < w.heap.size := fun k hk => World.ownsRow.lt h k hk
theorem OwnP.kept {w w' : World} {base : Nat} {v : Value} {l : List Pt} (h : OwnP w base v l) (hb : ∀ k, v.ownBlock = some k → w'.heap[k]? = w.heap[k]?) : OwnP w' base v l := by
  refine ⟨h.1, ?_⟩
  rcases h.2 with h1 | ⟨g, cap, cur, rfl, hbg, hg, rest⟩
  · exact .inl h1
  · exact .inr ⟨g, cap, cur, rfl, hbg, (hb g rfl).trans hg, rest⟩
theorem OwnP.keep {w w' : World} {base : Nat} {v : Value} {l : List Pt} (h : OwnP w base v l) (hb : Below w.heap.size w w') : OwnP w' base v l := h.kept fun k hk => hb.block k (h.own k hk).2
theorem OwnP.base {w : World} {a b : Nat} {v : Value} {l : List Pt} (h : OwnP w b v l) (hab : a ≤ b) : OwnP w a v l := by
  refine ⟨h.1, ?_⟩
  rcases h.2 with h1 | ⟨g, cap, cur, rfl, hbg, rest⟩
  · exact .inl h1
  · exact .inr ⟨g, cap, cur, rfl, Nat.le_trans hab hbg, rest⟩
theorem OwnP.slice {w : World} {base : Nat} {v : Value} {l : List Pt} (h : OwnP w base v l) : ∃ a c, v = .slice a l.length c ∧ InP w a l ∧ l.length ≤ c ∧ c ≤ 9223372036854775807 ∧ (a = none → c = 0 ∧ l = []) ∧ ∀ x, a = some x → base ≤ x.block ∧ x.block < w.heap.size := by
  rcases h.2 with ⟨rfl, hn⟩ | ⟨g, cap, cur, rfl, hb, hg, hl, hm, hs, ht⟩
  · have : l = [] := List.length_eq_zero_iff.1 hn
    subst this
    exact ⟨none, 0, rfl, .inl rfl, by simp, by omega, fun _ => ⟨rfl, rfl⟩, fun x hx => by cases hx⟩
  · simp only [maxLen] at hm
    refine ⟨_, _, rfl, .inr ⟨g, 0, rfl, (h.own g rfl).2, fun i x hx => ?_⟩, hl, by omega, fun h => by simp at h, fun x hx => by cases hx; exact h.own g rfl⟩
    have hc : ∀ k v, k < 3 → (pcl x)[k]? = some v → w.cell? ⟨g, 0 + i * 3 + k, none⟩ = some v := by
      intro k v hk hv
      have := World.ownsRow.cells h (g := g) rfl (i * 3 + k) v (by rw [pcs_at l i x hx k hk]; exact hv)
      rw [add_plain, Nat.zero_add] at this
      rw [Nat.zero_add]
      exact this
    exact ⟨hc 0 _ (by omega) rfl, hc 1 _ (by omega) rfl, hc 2 _ (by omega) rfl⟩
theorem infoP : ∃ i, Tryz.prog.info? 45 = some i ∧ i.zero = some (.agg #[.string ⟨#[]⟩, .string ⟨#[]⟩, .bool false]) ∧ i.size = 3 ∧ i.bytes = 40 := info_parts (show (Tryz.prog.info? 45).map (fun i => (i.zero, i.size, i.bytes)) = some (some (.agg #[.string ⟨#[]⟩, .string ⟨#[]⟩, .bool false]), 3, 40) by kernel_rfl)
theorem pc_cells {w : World} {g : Nat} {x : Pt} {t : TypeId} (h : w.heap[g]? = some (.cells (pC x) t)) : Pc w g 0 x := by
  refine ⟨?_, ?_, ?_⟩ <;> simp [World.cell?, h, pC]
theorem append_put {w : World} {ops : Array Oper} {rest : List Oper} {o : Oper} {act : Act} {Q : Exit → Act → World → Prop} (hgd : o.guard = none) (s x : Operand)
    (ho : o.op = .call { callee := .builtin .append, args := #[s, x], argTypes := #[37, 37] })
    (base : Nat) (v : Value) (l : List Pt) (hs : act.eval s = v) (hown : OwnP w base v l)
    (g c : Nat) (y : Pt) (hx : act.eval x = .slice (some ⟨g, 0, none⟩) 1 c) (hc : w.heap[g]? = some (.cells (pC y) 45))
    (hN : l.length ≤ 1000000000) (hbase : base ≤ w.heap.size)
    (h : ∀ v' w', OwnP w' base v' (l ++ [y]) → w.grownBy w' v.ownBlock → wpList Tryz.prog ops Q rest (act.put o.dst v') w') :
    wpList Tryz.prog ops Q (o :: rest) act w := by
  obtain ⟨i, hi, hz, h1, h2⟩ := infoP
  refine wpList_append_own w hgd s x 37 ho base 45 i _ 3 40 Tryz.underlying37 hi hz h1 h2 rfl (by decide) v l.length _ hs hown ⟨g, 0, none⟩ 1 c (pcl y) hx rfl ?_ (by simp [pcl, Value.oneCell']) (by simp only [maxLen]; omega) (by omega) hbase ?_
  · intro j u hu
    obtain ⟨h0, h1, h2⟩ := pc_cells hc
    rw [add_plain, Nat.zero_add]
    have hj : j < 3 := by
      have := (List.getElem?_eq_some_iff.1 hu).1
      simpa [pcl] using this
    rcases (by omega : j = 0 ∨ j = 1 ∨ j = 2) with rfl | rfl | rfl <;> (simp [pcl] at hu; subst hu; assumption)
  · intro v' w' hown' hg _
    refine h v' w' ?_ hg
    unfold OwnP
    rw [List.length_append]
    have : pcs (l ++ [y]) = pcs l ++ pcl y := by simp [pcs]
    rw [this]
    exact hown'
end Go.Proofs.YtcindeechmpalaaGreat
namespace Go.Proofs.YtcindeechmpalaaGreat
open Go.ChangeShapes Go.WideShapes Go.ChangeAt Go.RowKit Go.Deep Go.Maps
set_option linter.unusedVariables false
/-- a text's bytes -/
def dL (s : ByteArray) : List UInt8 := s.data.toList
theorem dL_inj {s t : ByteArray} (h : dL s = dL t) : s = t := ByteArray.ext (Array.toList_inj.1 h)
theorem of_dL (p : List UInt8) : ∃ s : ByteArray, dL s = p := ⟨⟨p.toArray⟩, by simp [dL]⟩
def pA (x : Pt) : Value := .agg (pC x)
/-- what a change reads as -/
def pD (x : Pt) : DataW Unit := .agg [.lit (.string (dL x.k)), .lit (.string (dL x.v)), .lit (.bool x.g)]
def pRl : List Value → Option (DataW Unit × List MemPlace)
  | [.string k, .string v, .bool g] => some (.agg [.lit (.string (dL k)), .lit (.string (dL v)), .lit (.bool g)], [])
  | _ => none
def pR : Value → Option (DataW Unit × List MemPlace)
  | .agg cs => pRl cs.toList
  | _ => none
theorem pR_ag (x : Pt) : pR (pA x) = some (pD x, []) := rfl
theorem pR_inv {v : Value} {z : DataW Unit × List MemPlace} (h : pR v = some z) : ∃ x : Pt, v = pA x ∧ z = (pD x, []) := by
  unfold pR at h
  split at h
  · rename_i cs
    unfold pRl at h
    split at h
    · rename_i k v g hcs
      simp only [Option.some.injEq] at h
      refine ⟨⟨k, v, g⟩, ?_, h.symm⟩
      unfold pA pC
      congr 1
      exact Array.toList_inj.1 hcs
    · simp at h
  · simp at h
theorem pD_inj {x y : Pt} (h : pD x = pD y) : x = y := by
  obtain ⟨a, b, c⟩ := x
  obtain ⟨a', b', c'⟩ := y
  simp [pD] at h
  obtain ⟨h1, h2, rfl⟩ := h
  rw [dL_inj h1, dL_inj h2]
/-- a map's datum tells this function -/
def Pp (D : DataW Unit) (T : ByteArray → Option Pt) : Prop := ∀ p, Maps.has D (.string (dL p)) = (T p).isSome ∧ ∀ x, T p = some x → ∀ z, D.atKey (.string (dL p)) z = pD x
/-- block b is a map that tells this function, of at most n entries -/
def Pm (w : World) (b n : Nat) (T : ByteArray → Option Pt) : Prop := ∃ D, w.ownsMap Tryz.prog 9 pR b n D ∧ Pp D T
theorem lawK : Keyed Tryz.prog 9 := string_keyed Tryz.underlying9
theorem zeroPt (w : World) : (zeroValue 45).run Tryz.prog w = .ok (pA noP) w := by kernel_rfl
theorem keyK (p : ByteArray) (hp : p.size ≤ 140737488355328) : keyOf Tryz.prog 9 (.string p) = some (.string (dL p)) := by
  have := WideMaps.keyOf_string_mk (P := Tryz.prog) (k := 9) Tryz.underlying9 (s := p) (by simp only [maxLen]; omega)
  exact this
theorem keyK_inv {key : Value} {kl : Lit} (h : keyOf Tryz.prog 9 key = some kl) : ∃ p : ByteArray, key = .string p ∧ kl = .string (dL p) := by
  cases key <;> simp [keyOf, Tryz.underlying9, mapKey] at h
  rename_i s
  exact ⟨s, rfl, h.2.symm⟩
theorem Pp.put {D : DataW Unit} {T : ByteArray → Option Pt} (h : Pp D T) (hm : IsMap D) (p : ByteArray) (x : Pt) : Pp (D.put (.string (dL p)) (pD x)) (fun q => if q = p then some x else T q) := by
  intro q
  by_cases hq : q = p
  · subst hq
    simp only [if_pos]
    refine ⟨by rw [has_put_same hm (k := .string (dL q)) trivial]; rfl, fun y hy z => ?_⟩
    cases hy
    exact atKey_put_same hm (k := .string (dL q)) trivial _ _
  · have hne : (Lit.string (dL q)) ≠ .string (dL p) := fun e => hq (dL_inj (by injection e))
    simp only [if_neg hq]
    refine ⟨by rw [has_put_other hne]; exact (h q).1, fun y hy z => ?_⟩
    rw [atKey_put_other hne]
    exact (h q).2 y hy z
theorem Pp.del {D : DataW Unit} {T : ByteArray → Option Pt} (h : Pp D T) (p : ByteArray) : Pp (D.del (.string (dL p))) (fun q => if q = p then none else T q) := by
  intro q
  by_cases hq : q = p
  · subst hq
    simp only [if_pos]
    exact ⟨by rw [has_del_same]; rfl, fun y hy => by cases hy⟩
  · have hne : (Lit.string (dL q)) ≠ .string (dL p) := fun e => hq (dL_inj (by injection e))
    simp only [if_neg hq]
    refine ⟨by rw [has_del_other hne]; exact (h q).1, fun y hy z => ?_⟩
    rw [atKey_del_other hne]
    exact (h q).2 y hy z
theorem Pp.at {D : DataW Unit} {T : ByteArray → Option Pt} (h : Pp D T) (p : ByteArray) : D.atKey (.string (dL p)) (pD noP) = pD ((T p).getD noP) := by
  cases hp : T p with
  | none =>
    have := (h p).1
    rw [hp] at this
    rw [atKey_of_not_has (by simpa using this)]
    rfl
  | some x => exact (h p).2 x hp _
theorem Pm.empty (w : World) : Pm (w.alloc (.map #[] 0)) w.heap.size 0 (fun _ => none) := ⟨.map [], World.ownsMap_made w _ _ _, fun p => ⟨rfl, fun x hx => by cases hx⟩⟩
theorem Pm.mono {w : World} {b n n' : Nat} {T : ByteArray → Option Pt} (h : Pm w b n T) (hn : n ≤ n') : Pm w b n' T := by
  obtain ⟨D, h1, h2⟩ := h
  exact ⟨D, h1.mono hn, h2⟩
theorem Pm.lt {w : World} {b n : Nat} {T : ByteArray → Option Pt} (h : Pm w b n T) : b < w.heap.size := by
  obtain ⟨D, h1, h2⟩ := h
  exact h1.lt
theorem Pm.kept {w w' : World} {b n : Nat} {T : ByteArray → Option Pt} {row : Option Nat} (h : Pm w b n T) (hg : w.grownBy w' row) (hne : some b ≠ row) : Pm w' b n T := by
  obtain ⟨D, h1, h2⟩ := h
  exact ⟨D, h1.kept hg hne, h2⟩
theorem Pm.keep {w w' : World} {b n : Nat} {T : ByteArray → Option Pt} (h : Pm w b n T) (hb : Below w.heap.size w w') : Pm w' b n T :=
  h.kept (row := none) ⟨hb.os, hb.tape, hb.output, hb.size, fun i hi _ => hb.block i hi⟩ (by simp)
/-- 'm[k]' -/
theorem Pm.look {w : World} {b n : Nat} {T : ByteArray → Option Pt} (h : Pm w b n T) (p : ByteArray) (hp : p.size ≤ 140737488355328) : (Instr.lookup 65 (.map (some b)) (.string p) false).run Tryz.prog w = .ok (pA ((T p).getD noP)) w := by
  obtain ⟨D, h1, h2⟩ := h
  obtain ⟨v, ps, hrun, hv⟩ := h1.lookup lawK Tryz.underlying65 (zeroPt w) (pR_ag noP) (keyK p hp)
  obtain ⟨x, rfl, hx⟩ := pR_inv hv
  simp only [Prod.mk.injEq] at hx
  rw [h2.at p] at hx
  rw [pD_inj hx.1]
  exact hrun
section
variable {ops : Array Oper} {rest : List Oper} {o : Oper} {a : Act} {Q : Exit → Act → World → Prop}
/-- 'm[k] = v' -/
theorem wpList_put_pm {w : World} (hg : o.guard = none) (m x v : Operand) (hop : o.op = Op.mapUpdate 65 m x v) (b n : Nat) (T : ByteArray → Option Pt) (hm : a.eval m = .map (some b)) (hs : Pm w b n T) (hn : n < 4611686018427387904) (p : ByteArray) (hp : p.size ≤ 140737488355328) (y : Pt) (hx : a.eval x = .string p) (hv : a.eval v = pA y)
    (hK : ∀ w', Pm w' b (n + 1) (fun q => if q = p then some y else T q) → w.grownBy w' (some b) → wpList Tryz.prog ops Q rest (a.put o.dst undef) w') : wpList Tryz.prog ops Q (o :: rest) a w := by
  obtain ⟨D, h1, h2⟩ := hs
  refine wpList_mapUpdate_own w hg m x v 65 hop 9 45 lawK Tryz.underlying65 pR b n D hm h1 (by unfold maxLen; omega) _ _ _ hx hv (keyK p hp) _ [] (pR_ag y) ?_
  intro w' ho hgr
  exact hK w' ⟨_, ho, h2.put h1.isMap p y⟩ hgr
/-- 'delete(m, k)' -/
theorem wpList_del_pm {w : World} (hg : o.guard = none) (m x : Operand) (hop : o.op = Op.call { callee := Callee.builtin Builtin.delete, args := #[m, x], argTypes := #[65, 9] }) (b n : Nat) (T : ByteArray → Option Pt) (hm : a.eval m = .map (some b)) (hs : Pm w b n T) (p : ByteArray) (hp : p.size ≤ 140737488355328) (hx : a.eval x = .string p)
    (hK : ∀ w', Pm w' b n (fun q => if q = p then none else T q) → w.grownBy w' (some b) → wpList Tryz.prog ops Q rest (a.put o.dst (.tuple #[])) w') : wpList Tryz.prog ops Q (o :: rest) a w := by
  obtain ⟨D, h1, h2⟩ := hs
  refine wpList_delete_own w hg m x 65 9 hop 45 lawK Tryz.underlying65 pR b n D hm h1 _ _ hx (keyK p hp) ?_
  intro w' ho ht
  exact hK w' ⟨_, ho, h2.del p⟩ ht.grown
end
/-- block r ranges over the map in block b; 'left' is still to come -/
def Pn (w : World) (b r n : Nat) (T : ByteArray → Option Pt) (left : ByteArray → Bool) (cnt : Nat) : Prop := ∃ D leftD, w.ranges Tryz.prog 9 pR b r n D leftD cnt ∧ Pp D T ∧ ∀ p, leftD (.string (dL p)) = left p
theorem Pn.pm {w : World} {b r n cnt : Nat} {T : ByteArray → Option Pt} {left : ByteArray → Bool} (h : Pn w b r n T left cnt) : Pm w b n T := by
  obtain ⟨D, l, h1, h2, _⟩ := h
  exact ⟨D, h1.owns, h2⟩
theorem Pn.ne {w : World} {b r n cnt : Nat} {T : ByteArray → Option Pt} {left : ByteArray → Bool} (h : Pn w b r n T left cnt) : r ≠ b := by
  obtain ⟨D, l, h1, h2, _⟩ := h
  exact h1.ne
theorem Pn.lt {w : World} {b r n cnt : Nat} {T : ByteArray → Option Pt} {left : ByteArray → Bool} (h : Pn w b r n T left cnt) : r < w.heap.size := by
  obtain ⟨D, l, h1, h2, _⟩ := h
  exact h1.lt
theorem Pn.left_eq {w : World} {b r n cnt : Nat} {T : ByteArray → Option Pt} {left : ByteArray → Bool} (h : Pn w b r n T left cnt) : w.rangeLeft b r = cnt := by
  obtain ⟨D, l, h1, h2, _⟩ := h
  exact h1.left_eq
theorem Pn.kept {w w' : World} {b r n cnt : Nat} {T : ByteArray → Option Pt} {left : ByteArray → Bool} {row : Option Nat} (h : Pn w b r n T left cnt) (hg : w.grownBy w' row) (hb : some b ≠ row) (hr : some r ≠ row) : Pn w' b r n T left cnt := by
  obtain ⟨D, l, h1, h2, h3⟩ := h
  exact ⟨D, l, h1.kept hg hb hr, h2, h3⟩
theorem Pn.keep {w w' : World} {b r n cnt : Nat} {T : ByteArray → Option Pt} {left : ByteArray → Bool} (h : Pn w b r n T left cnt) (hb : Below w.heap.size w w') : Pn w' b r n T left cnt :=
  h.kept (row := none) ⟨hb.os, hb.tape, hb.output, hb.size, fun i hi _ => hb.block i hi⟩ (by simp) (by simp)
theorem strike_k (p q : ByteArray) : (Lit.string (dL q)).sameKey (.string (dL p)) = decide (q = p) := by
  exact Bool.eq_iff_iff.2 (by simp [Lit.sameKey]; exact ⟨dL_inj, fun h => by rw [h]⟩)
section
variable {ops : Array Oper} {rest : List Oper} {o : Oper} {a : Act} {Q : Exit → Act → World → Prop}
/-- 'range m' -/
theorem wpList_range_pm {w : World} (hg : o.guard = none) (m : Operand) (hop : o.op = Op.range 65 m) (b n : Nat) (T : ByteArray → Option Pt) (hm : a.eval m = .map (some b)) (hs : Pm w b n T)
    (hK : ∀ w' cnt, Pn w' b w.heap.size n T (fun p => (T p).isSome) cnt → w.grownBy w' none → w'.heap.size = w.heap.size + 1 → wpList Tryz.prog ops Q rest (a.put o.dst (.pointer (some ⟨w.heap.size, 0, none⟩))) w') : wpList Tryz.prog ops Q (o :: rest) a w := by
  obtain ⟨D, h1, h2⟩ := hs
  refine wpList_range_own w hg m 65 hop 9 45 lawK Tryz.underlying65 pR b n D hm h1 ?_
  intro w' hr hgr hsz
  exact hK w' _ ⟨D, _, hr, h2, fun p => (h2 p).1⟩ hgr hsz
/-- the step -/
theorem wpList_next_pm {w : World} (hg : o.guard = none) (it : Operand) (hop : o.op = Op.next it false) (b r n : Nat) (T : ByteArray → Option Pt) (left : ByteArray → Bool) (cnt : Nat) (hit : a.eval it = .pointer (some ⟨r, 0, none⟩)) (h : Pn w b r n T left cnt)
    (hDone : cnt = 0 → (∀ q, left q = false) → wpList Tryz.prog ops Q rest (a.put o.dst (.tuple #[.bool false])) w)
    (hMore : ∀ (p : ByteArray) (x : Pt) (w' : World) (cnt' : Nat), p.size ≤ 9223372036854775807 → left p = true → T p = some x → Pn w' b r n T (fun q => left q && !decide (q = p)) cnt' → cnt' < cnt → w.grownBy w' (some r) → w'.heap.size = w.heap.size →
      (Instr.entry (.pointer (some ⟨r, 0, none⟩))).run Tryz.prog w' = .ok (.tuple #[.string p, pA x]) w' → wpList Tryz.prog ops Q rest (a.put o.dst (.tuple #[.bool true, .string p, pA x])) w') :
    wpList Tryz.prog ops Q (o :: rest) a w := by
  obtain ⟨D, l, h1, h2, h3⟩ := h
  refine wpList_next_ranges w hg it hop 9 lawK pR (fun p : ByteArray => Value.string p) pA (fun key kl hk => ?_) (fun v y hy => ?_) b r n D l cnt hit h1 ?_ ?_
  · obtain ⟨p, e, _⟩ := keyK_inv hk
    exact ⟨p, e⟩
  · obtain ⟨x, e, _⟩ := pR_inv hy
    exact ⟨x, e⟩
  · intro h0 hl
    exact hDone h0 (fun q => by rw [← h3]; exact hl _)
  · intro p x kl y w' cnt' hkey hlk hv hat hrg hlt hgr hsz hen
    obtain ⟨p', e1, rfl⟩ := keyK_inv hkey
    have hpp : p' = p := by
      have : p = p' := by injection e1
      exact this.symm
    subst hpp
    have hsz9 : p'.size ≤ 9223372036854775807 := by
      have := hkey
      simp only [keyOf, Tryz.underlying9, mapKey] at this
      split at this
      · rename_i hle
        simpa [maxLen] using hle
      · simp at this
    obtain ⟨x', e2, rfl⟩ := pR_inv hv
    have hT : T p' = some x := by
      have hs := (h2 p').1
      have hh : Maps.has D (.string (dL p')) = true := has_true_of_atKey (y := pD x') (fun z => hat z)
      rw [hh] at hs
      obtain ⟨x2, hx2⟩ := Option.isSome_iff_exists.1 hs.symm
      have := (h2 p').2 x2 hx2 (pD noP)
      rw [hat] at this
      have e3 := pD_inj this
      have e4 : x = x' := by
        have := pR_ag x
        rw [hv] at this
        simp only [Option.some.injEq, Prod.mk.injEq, and_true] at this
        exact (pD_inj this).symm
      rw [hx2, ← e3, e4]
    refine hMore p' x w' cnt' hsz9 (by rw [← h3]; exact hlk) hT ⟨D, _, hrg, h2, fun q => ?_⟩ hlt hgr hsz hen
    rw [h3, strike_k]
/-- 'delete(m, k)' in the round -/
theorem wpList_del_pr {w : World} (hg : o.guard = none) (m x : Operand) (hop : o.op = Op.call { callee := Callee.builtin Builtin.delete, args := #[m, x], argTypes := #[65, 9] }) (b r n : Nat) (T : ByteArray → Option Pt) (left : ByteArray → Bool) (cnt : Nat) (hm : a.eval m = .map (some b)) (h : Pn w b r n T left cnt) (p : ByteArray) (hp : p.size ≤ maxLen) (hx : a.eval x = .string p)
    (hK : ∀ w' cnt', Pn w' b r n (fun q => if q = p then none else T q) (fun q => left q && !decide (q = p)) cnt' → cnt' ≤ cnt → w.grownBy w' (some b) → wpList Tryz.prog ops Q rest (a.put o.dst (.tuple #[])) w') : wpList Tryz.prog ops Q (o :: rest) a w := by
  obtain ⟨D, l, h1, h2, h3⟩ := h
  have hkey : keyOf Tryz.prog 9 (.string p) = some (.string (dL p)) := by
    have := WideMaps.keyOf_string_mk (P := Tryz.prog) (k := 9) Tryz.underlying9 (s := p) hp
    exact this
  refine wpList_delete_ranges w hg m x 65 9 hop 45 lawK Tryz.underlying65 pR b r n D l cnt hm h1 _ _ hx hkey ?_
  intro w' cnt' hr hle ht
  refine hK w' cnt' ⟨_, _, hr, h2.del p, fun q => ?_⟩ hle ht.grown
  rw [h3, strike_k]
end
end Go.Proofs.YtcindeechmpalaaGreat
namespace Go.Proofs.YtcindeechmpalaaGreat
set_option linter.unusedVariables false
/-- what is read by sevens: the bytes that are left, how many were read, the number so far -/
def rv : List Int → Nat → Int → Int × Int × Int
  | [], _, _ => (0, 0, 4)
  | c :: cs, i, v =>
    if i = 9 ∧ 1 < c then (0, 0, 5)
    else if 128 ≤ c then rv cs (i + 1) (v + c % 128 * 128 ^ i)
    else if c = 0 ∧ 0 < i then (0, 0, 5)
    else (v + c % 128 * 128 ^ i, (i : Int) + 1, 0)

theorem pow_le9 (k : Nat) (h : k ≤ 9) : (128 : Int) ^ k ≤ 9223372036854775808 := by
  rcases (by omega : k = 0 ∨ k = 1 ∨ k = 2 ∨ k = 3 ∨ k = 4 ∨ k = 5 ∨ k = 6 ∨ k = 7 ∨ k = 8 ∨ k = 9) with rfl | rfl | rfl | rfl | rfl | rfl | rfl | rfl | rfl | rfl <;> decide
theorem pow_lt9 (k : Nat) (h : k < 9) : (128 : Int) ^ k ≤ 72057594037927936 := by
  rcases (by omega : k = 0 ∨ k = 1 ∨ k = 2 ∨ k = 3 ∨ k = 4 ∨ k = 5 ∨ k = 6 ∨ k = 7 ∨ k = 8) with rfl | rfl | rfl | rfl | rfl | rfl | rfl | rfl | rfl <;> decide
/-- the sevens of v, the lowest first: n that go on, and the last one -/
def varL : Nat → Int → List Int
  | 0, v => [v]
  | n + 1, v => (v % 128 + 128) :: varL n (v / 128)
theorem varL_length : ∀ (n : Nat) (v : Int), (varL n v).length = n + 1
  | 0, v => rfl
  | n + 1, v => by simp [varL, varL_length n]
theorem div128 (v : Int) (h : 0 ≤ v) (i : Nat) : v / 128 / 128 ^ i = v / 128 ^ (i + 1) := by
  rw [Int.pow_succ, Int.mul_comm, Int.ediv_ediv_of_nonneg (by decide)]
theorem varL_getD : ∀ (n : Nat) (v : Int), 0 ≤ v → ∀ i, i ≤ n → (varL n v).getD i 0 = if i < n then v / 128 ^ i % 128 + 128 else v / 128 ^ i
  | 0, v, h, i, hi => by
    have : i = 0 := by omega
    subst this
    simp [varL]
  | n + 1, v, h, 0, hi => by simp [varL]
  | n + 1, v, h, i + 1, hi => by
    have ih := varL_getD n (v / 128) (by omega) i (by omega)
    rw [div128 v h] at ih
    simp only [varL, List.getD_cons_succ, ih]
    simp
/-- how many sevens a number needs: n + 1 -/
def Sev (v : Int) (n : Nat) : Prop := n ≤ 9 ∧ v < 128 ^ (n + 1) ∧ (n = 0 ∨ 128 ^ n ≤ v)
theorem sev_one (v : Int) (a b : Nat) (ha : Sev v a) (hb : Sev v b) : a = b := by
  obtain ⟨_, a2, a3⟩ := ha
  obtain ⟨_, b2, b3⟩ := hb
  have mono : ∀ i j : Nat, i ≤ j → (128 : Int) ^ i ≤ 128 ^ j := by
    intro i j hij
    have h := Nat.pow_le_pow_right (show 0 < 128 by decide) hij
    have e : ∀ k : Nat, ((128 ^ k : Nat) : Int) = (128 : Int) ^ k := fun k => by simp
    rw [← e i, ← e j]
    exact Int.ofNat_le.2 h
  rcases Nat.lt_trichotomy a b with h | h | h
  · have := mono (a + 1) b (by omega)
    rcases b3 with rfl | b3
    · omega
    · omega
  · exact h
  · have := mono (b + 1) a (by omega)
    rcases a3 with rfl | a3
    · omega
    · omega
theorem varL_bytes : ∀ (n : Nat) (v : Int), 0 ≤ v → v < 128 ^ (n + 1) → ∀ x ∈ varL n v, 0 ≤ x ∧ x ≤ 255
  | 0, v, h, h1, x, hx => by
    simp [varL] at hx
    subst hx
    have : (128 : Int) ^ (0 + 1) = 128 := rfl
    omega
  | n + 1, v, h, h1, x, hx => by
    simp only [varL, List.mem_cons] at hx
    rcases hx with rfl | hx
    · omega
    · refine varL_bytes n (v / 128) (by omega) ?_ x hx
      rw [Int.pow_succ] at h1
      omega
theorem pow_split (n : Nat) (v : Int) (i : Nat) : v % 128 * 128 ^ i + v / 128 * 128 ^ (i + 1) = v * 128 ^ i := by
  have e : v = v / 128 * 128 + v % 128 := by omega
  conv => rhs; rw [e]
  rw [Int.add_mul, Int.pow_succ, Int.mul_assoc, Int.mul_comm 128, Int.add_comm]
/-- what is written is read again, whatever stands behind it -/
theorem rv_varL (M : List Int) : ∀ (n : Nat) (v : Int) (i : Nat) (x : Int), 0 ≤ v → v < 128 ^ (n + 1) → i + n ≤ 9 → (v / 128 ^ n ≠ 0 ∨ i + n = 0) → (i + n = 9 → v / 128 ^ n ≤ 1) →
    rv (varL n v ++ M) i x = (x + v * 128 ^ i, ((i + n : Nat) : Int) + 1, 0)
  | 0, v, i, x, h0, h1, h9, hz, hl => by
    have h128 : v < 128 := h1
    have e0 : v / 128 ^ 0 = v := by simp
    rw [e0] at hz hl
    have ev : v % 128 = v := by omega
    show rv (v :: M) i x = _
    rw [rv, if_neg (by intro h; have := hl (by omega); omega), if_neg (by omega), if_neg (by omega), ev]
    rfl
  | n + 1, v, i, x, h0, h1, h9, hz, hl => by
    have hd := div128 v h0 n
    have ih := rv_varL M n (v / 128) (i + 1) (x + v % 128 * 128 ^ i) (by omega) (by rw [Int.pow_succ] at h1; omega) (by omega) (by rw [hd]; rcases hz with h | h; exact .inl h; omega) (by rw [hd]; intro h; exact hl (by omega))
    show rv ((v % 128 + 128) :: (varL n (v / 128) ++ M)) i x = _
    have em : (v % 128 + 128) % 128 = v % 128 := by omega
    rw [rv, if_neg (by omega), if_pos (by omega), em, ih, Int.add_assoc, pow_split 0]
    congr 2
    omega
theorem sev_last (v : Int) (n : Nat) (h0 : 0 ≤ v) (v1 : v ≤ 18446744073709551615) (h : Sev v n) : (v / 128 ^ n ≠ 0 ∨ 0 + n = 0) ∧ (0 + n = 9 → v / 128 ^ n ≤ 1) := by
  obtain ⟨h9, h1, h2⟩ := h
  have hp : (0 : Int) < 128 ^ n := Int.pow_pos (by decide)
  refine ⟨?_, ?_⟩
  · rcases h2 with rfl | h2
    · exact .inr rfl
    · left
      have := Int.ediv_le_ediv hp h2
      rw [Int.ediv_self (by omega)] at this
      omega
  · intro hn
    have : n = 9 := by omega
    subst this
    have e : (128 : Int) ^ 9 = 9223372036854775808 := by decide
    rw [e]
    omega
theorem rv_back (v : Int) (n : Nat) (h0 : 0 ≤ v) (v1 : v ≤ 18446744073709551615) (h : Sev v n) (M : List Int) : rv (varL n v ++ M) 0 0 = (v, (n : Int) + 1, 0) := by
  obtain ⟨a, b⟩ := sev_last v n h0 v1 h
  rw [rv_varL M n v 0 0 h0 h.2.1 (by have := h.1; omega) a b]
  simp
/-- with its last byte cut off it is not read -/
theorem rv_cut : ∀ (n : Nat) (v : Int) (i : Nat) (x : Int), 0 ≤ v → i + n ≤ 9 → rv ((varL n v).take n) i x = (0, 0, 4)
  | 0, v, i, x, h0, h9 => by simp [rv]
  | n + 1, v, i, x, h0, h9 => by
    have ih := rv_cut n (v / 128) (i + 1) (x + v % 128 * 128 ^ i) (by omega) (by omega)
    have em : (v % 128 + 128) % 128 = v % 128 := by omega
    show rv ((v % 128 + 128) :: (varL n (v / 128)).take n) i x = _
    rw [rv, if_neg (by omega), if_pos (by omega), em, ih]
/-- what is read: a refusal with zeros, or just the sevens of a number -/
theorem rv_only : ∀ (L : List Int) (i : Nat) (x : Int), (∀ c ∈ L, 0 ≤ c ∧ c ≤ 255) → i ≤ 9 →
    (rv L i x = (0, 0, 4) ∨ rv L i x = (0, 0, 5)) ∨ ∃ (n : Nat) (u : Int), rv L i x = (x + u * 128 ^ i, ((i + n : Nat) : Int) + 1, 0) ∧ L.take (n + 1) = varL n u ∧ n + 1 ≤ L.length ∧ i + n ≤ 9 ∧ 0 ≤ u ∧ u < 128 ^ (n + 1) ∧ (u / 128 ^ n ≠ 0 ∨ i + n = 0) ∧ (i + n = 9 → u / 128 ^ n ≤ 1)
  | [], i, x, hb, hi => .inl (.inl rfl)
  | c :: cs, i, x, hb, hi => by
    have hc := hb c (by simp)
    by_cases g1 : i = 9 ∧ 1 < c
    · exact .inl (.inr (by rw [rv, if_pos g1]))
    · by_cases g2 : 128 ≤ c
      · have hi9 : i < 9 := by omega
        have ih := rv_only cs (i + 1) (x + c % 128 * 128 ^ i) (fun d hd => hb d (by simp [hd])) (by omega)
        rw [rv, if_neg g1, if_pos g2]
        rcases ih with ih | ⟨n, u, e1, e2, e3, e4, u0, u1, u2, u3⟩
        · exact .inl ih
        · refine .inr ⟨n + 1, u * 128 + c % 128, ?_, ?_, by simp; omega, by omega, by omega, ?_, ?_, ?_⟩
          · rw [e1]
            have : x + c % 128 * 128 ^ i + u * 128 ^ (i + 1) = x + (u * 128 + c % 128) * 128 ^ i := by
              rw [Int.add_mul, Int.pow_succ, Int.mul_assoc, Int.mul_comm 128, Int.add_assoc, Int.add_comm (c % 128 * 128 ^ i)]
            rw [this]
            congr 2
            omega
          · rw [List.take_succ_cons, e2, varL]
            have a1 : (u * 128 + c % 128) % 128 + 128 = c := by omega
            have a2 : (u * 128 + c % 128) / 128 = u := by omega
            rw [a1, a2]
          · rw [Int.pow_succ]; omega
          · rw [← div128 _ (by omega), show (u * 128 + c % 128) / 128 = u by omega]
            rcases u2 with h | h
            · exact .inl h
            · omega
          · rw [← div128 _ (by omega), show (u * 128 + c % 128) / 128 = u by omega]
            intro h
            exact u3 (by omega)
      · by_cases g3 : c = 0 ∧ 0 < i
        · exact .inl (.inr (by rw [rv, if_neg g1, if_neg g2, if_pos g3]))
        · refine .inr ⟨0, c, ?_, rfl, by simp, by omega, hc.1, by have : (128 : Int) ^ (0 + 1) = 128 := rfl; omega, ?_, ?_⟩
          · rw [rv, if_neg g1, if_neg g2, if_neg g3, show c % 128 = c by omega]; rfl
          · simp; omega
          · simp; omega
/-- what was read at the first byte on is a number of 64 bits that needs just so many sevens -/
theorem sev_of (u : Int) (n : Nat) (h9 : 0 + n ≤ 9) (u0 : 0 ≤ u) (u1 : u < 128 ^ (n + 1)) (u2 : u / 128 ^ n ≠ 0 ∨ 0 + n = 0) (u3 : 0 + n = 9 → u / 128 ^ n ≤ 1) : Sev u n ∧ u ≤ 18446744073709551615 := by
  have hp : (0 : Int) < 128 ^ n := Int.pow_pos (by decide)
  refine ⟨⟨by omega, u1, ?_⟩, ?_⟩
  · rcases u2 with h | h
    · right
      rcases Int.lt_or_le u (128 ^ n) with g | g
      · exact absurd (Int.ediv_eq_zero_of_lt u0 g) h
      · exact g
    · left; omega
  · rcases (by omega : n < 9 ∨ n = 9) with h | rfl
    · have : (128 : Int) ^ (n + 1) ≤ 9223372036854775808 := pow_le9 (n + 1) (by omega)
      omega
    · have := u3 rfl
      have e : (128 : Int) ^ 9 = 9223372036854775808 := by decide
      rw [e] at this
      omega
end Go.Proofs.YtcindeechmpalaaGreat
namespace Go.Proofs.YtcindeechmpalaaGreat
set_option linter.unusedVariables false
/-- a number below 16384 by sevens -/
def vk (v : Nat) : List Int := if v < 128 then [(v : Int)] else [(v : Int) % 128 + 128, (v : Int) / 128]
theorem vk_sev (v n : Nat) (hv : v < 16384) (h : Sev (v : Int) n) : varL n v = vk v := by
  unfold vk
  split
  · rename_i h1
    have := sev_one v n 0 h ⟨by omega, by simp; omega, .inl rfl⟩
    subst this
    rfl
  · rename_i h1
    have := sev_one v n 1 h ⟨by omega, by simp; omega, .inr (by simp; omega)⟩
    subst this
    rfl
theorem vk_isSev (v : Nat) (hv : v < 16384) : ∃ n, Sev (v : Int) n ∧ varL n v = vk v ∧ n ≤ 1 := by
  by_cases h : v < 128
  · have hs : Sev (v : Int) 0 := ⟨by omega, by simp; omega, .inl rfl⟩
    exact ⟨0, hs, vk_sev v 0 hv hs, by omega⟩
  · have hs : Sev (v : Int) 1 := ⟨by omega, by simp; omega, .inr (by simp; omega)⟩
    exact ⟨1, hs, vk_sev v 1 hv hs, by omega⟩
theorem vk_len (v : Nat) : 1 ≤ (vk v).length ∧ (vk v).length ≤ 2 := by unfold vk; split <;> simp
theorem vk_bytes (v : Nat) (h : v < 16384) : IsBytes (vk v) := bytes_of_mem fun x hx => by
  unfold vk at hx
  split at hx <;> simp at hx <;> omega
/-- the bytes of a text, of a change, of changes, of a batch -/
def tB (s : ByteArray) : List Int := vk s.size ++ sN s
def cB (x : Pt) : List Int := if x.g = true then 1 :: tB x.k else 0 :: (tB x.k ++ tB x.v)
def csB (l : List Pt) : List Int := l.flatMap cB
def eB (l : List Pt) : List Int := vk l.length ++ csB l
/-- a change that may not be -/
def badP (x : Pt) : Bool := decide (x.k.size = 0) || decide (64 < x.k.size) || decide ((if x.g = true then 0 else 1024) < x.v.size)
def encA (l : List Pt) : Int × List Int := if l = [] ∨ l.any badP = true then (2, []) else if 64 < l.length then (3, []) else if 4096 < (eB l).length then (3, []) else (0, eB l)
theorem badP_no {x : Pt} (h : badP x = false) : 1 ≤ x.k.size ∧ x.k.size ≤ 64 ∧ x.v.size ≤ 1024 ∧ (x.g = true → x.v.size = 0) := by
  unfold badP at h
  simp only [Bool.or_eq_false_iff, decide_eq_false_iff_not] at h
  obtain ⟨⟨h1, h2⟩, h3⟩ := h
  by_cases hg : x.g = true
  · rw [if_pos hg] at h3
    exact ⟨by omega, by omega, by omega, fun _ => by omega⟩
  · rw [if_neg hg] at h3
    exact ⟨by omega, by omega, by omega, fun e => absurd e hg⟩
theorem tB_len (s : ByteArray) : (tB s).length = (vk s.size).length + s.size := by unfold tB; rw [List.length_append, sN_len]
theorem cB_len {x : Pt} (h : badP x = false) : 3 ≤ (cB x).length ∧ (cB x).length ≤ 1093 := by
  obtain ⟨h1, h2, h3, h4⟩ := badP_no h
  have a := vk_len x.k.size
  have b := vk_len x.v.size
  unfold cB
  split
  · rw [List.length_cons, tB_len]; omega
  · rw [List.length_cons, List.length_append, tB_len, tB_len]; omega
theorem csB_len {l : List Pt} (h : ∀ x ∈ l, badP x = false) : (csB l).length ≤ 1093 * l.length := by
  induction l with
  | nil => simp [csB]
  | cons x l ih =>
    have h1 := cB_len (h x (by simp))
    have h2 := ih (fun y hy => h y (by simp [hy]))
    unfold csB at h2 ⊢
    rw [List.flatMap_cons, List.length_append, List.length_cons]
    omega
theorem csB_snoc (l : List Pt) (x : Pt) : csB (l ++ [x]) = csB l ++ cB x := by simp [csB]
theorem csB_take {l : List Pt} {j : Nat} {x : Pt} (h : l[j]? = some x) : csB (l.take (j + 1)) = csB (l.take j) ++ cB x := by
  obtain ⟨hj, e⟩ := List.getElem?_eq_some_iff.1 h
  rw [List.take_succ_eq_append_getElem hj, e, csB_snoc]
theorem isB_app {A B : List Int} (ha : IsBytes A) (hb : IsBytes B) : IsBytes (A ++ B) := bytes_of_mem fun x hx => (List.mem_append.1 hx).elim (fun h => bytes_mem ha x h) (fun h => bytes_mem hb x h)
theorem isB_cons {a : Int} {B : List Int} (ha : 0 ≤ a ∧ a ≤ 255) (hb : IsBytes B) : IsBytes (a :: B) := bytes_of_mem fun x hx => (List.mem_cons.1 hx).elim (fun h => h ▸ ha) (fun h => bytes_mem hb x h)
theorem tB_bytes {s : ByteArray} (h : s.size < 16384) : IsBytes (tB s) := isB_app (vk_bytes _ h) (sN_bytes s)
theorem cB_bytes {x : Pt} (h : badP x = false) : IsBytes (cB x) := by
  obtain ⟨h1, h2, h3, h4⟩ := badP_no h
  unfold cB
  split
  · exact isB_cons ⟨by omega, by omega⟩ (tB_bytes (by omega))
  · exact isB_cons ⟨by omega, by omega⟩ (isB_app (tB_bytes (by omega)) (tB_bytes (by omega)))
theorem csB_bytes {l : List Pt} (h : ∀ x ∈ l, badP x = false) : IsBytes (csB l) := bytes_of_mem fun y hy => by
  obtain ⟨x, hx, hy2⟩ := List.mem_flatMap.1 hy
  exact bytes_mem (cB_bytes (h x hx)) y hy2
theorem encA_ok {l : List Pt} {B : List Int} (h : encA l = (0, B)) : B = eB l ∧ l ≠ [] ∧ l.length ≤ 64 ∧ (∀ x ∈ l, badP x = false) ∧ (eB l).length ≤ 4096 := by
  unfold encA at h
  split at h
  · exact absurd (Prod.mk.inj h).1 (by decide)
  · rename_i h1
    split at h
    · exact absurd (Prod.mk.inj h).1 (by decide)
    · rename_i h2
      split at h
      · exact absurd (Prod.mk.inj h).1 (by decide)
      · rename_i h3
        refine ⟨(Prod.mk.inj h).2.symm, fun e => h1 (.inl e), by omega, fun x hx => ?_, by omega⟩
        cases hb : badP x with
        | false => rfl
        | true => exact absurd (.inr (List.any_eq_true.2 ⟨x, hx, hb⟩)) h1
theorem encA_bytes {l : List Pt} {B : List Int} (h : encA l = (0, B)) : IsBytes B ∧ B.length ≤ 4096 := by
  obtain ⟨rfl, h1, h2, h3, h4⟩ := encA_ok h
  exact ⟨isB_app (vk_bytes _ (by omega)) (csB_bytes h3), h4⟩
/-- what is read: a number, a text, a change, changes, a batch -/
def rN (B : List Int) : Nat × List Int := ((rv B 0 0).1.toNat, B.drop (rv B 0 0).2.1.toNat)
def rT (B : List Int) : List Int × List Int := ((rN B).2.take (rN B).1, (rN B).2.drop (rN B).1)
def rX (B : List Int) : Pt × List Int :=
  if (rN B).1 = 1 then (⟨strOfNums (rT (rN B).2).1, ⟨#[]⟩, true⟩, (rT (rN B).2).2)
  else (⟨strOfNums (rT (rN B).2).1, strOfNums (rT (rT (rN B).2).2).1, false⟩, (rT (rT (rN B).2).2).2)
def rL : Nat → List Int → List Pt × List Int
  | 0, B => ([], B)
  | n + 1, B => ((rX B).1 :: (rL n (rX B).2).1, (rL n (rX B).2).2)
def rdB (B : List Int) : List Pt := (rL (min (rN B).1 64) (rN B).2).1
def decA (B : List Int) : Option (List Pt) := if encA (rdB B) = (0, B) then some (rdB B) else none
theorem rv_fits {B : List Int} (hb : IsBytes B) : 0 ≤ (rv B 0 0).1 ∧ (rv B 0 0).1 ≤ 18446744073709551615 ∧ 0 ≤ (rv B 0 0).2.1 ∧ (rv B 0 0).2.1 ≤ B.length := by
  rcases rv_only B 0 0 (fun c hc => bytes_mem hb c hc) (by omega) with (e | e) | ⟨n, u, e, _, h1, h2, u0, u1, u2, u3⟩
  · rw [e]; exact ⟨by decide, by decide, by decide, by show (0 : Int) ≤ _; omega⟩
  · rw [e]; exact ⟨by decide, by decide, by decide, by show (0 : Int) ≤ _; omega⟩
  · have h9 := (sev_of u n h2 u0 u1 u2 u3).2
    rw [e]
    refine ⟨?_, ?_, ?_, ?_⟩ <;> simp <;> omega
theorem drop_bytes {B : List Int} (hb : IsBytes B) (n : Nat) : IsBytes (B.drop n) := bytes_of_mem fun x hx => bytes_mem hb x (List.mem_of_mem_drop hx)
theorem take_bytes {B : List Int} (hb : IsBytes B) (n : Nat) : IsBytes (B.take n) := bytes_of_mem fun x hx => bytes_mem hb x (List.mem_of_mem_take hx)
theorem rN_bytes {B : List Int} (hb : IsBytes B) : IsBytes (rN B).2 := drop_bytes hb _
theorem rT_bytes {B : List Int} (hb : IsBytes B) : IsBytes (rT B).1 ∧ IsBytes (rT B).2 := ⟨take_bytes (rN_bytes hb) _, drop_bytes (rN_bytes hb) _⟩
theorem rX_bytes {B : List Int} (hb : IsBytes B) : IsBytes (rX B).2 := by
  unfold rX
  split
  · exact (rT_bytes (rN_bytes hb)).2
  · exact (rT_bytes (rT_bytes (rN_bytes hb)).2).2
theorem rN_len (B : List Int) : (rN B).2.length ≤ B.length := by unfold rN; rw [List.length_drop]; omega
theorem rT_len (B : List Int) : (rT B).2.length ≤ B.length ∧ (rT B).1.length ≤ B.length := by
  have := rN_len B
  unfold rT
  rw [List.length_drop, List.length_take]
  omega
theorem rX_len (B : List Int) : (rX B).2.length ≤ B.length := by
  have h1 := rN_len B
  have h2 := rT_len (rN B).2
  have h3 := rT_len (rT (rN B).2).2
  unfold rX
  split
  · exact Nat.le_trans h2.1 h1
  · exact Nat.le_trans h3.1 (Nat.le_trans h2.1 h1)
theorem rN_vk (n : Nat) (hn : n < 16384) (M : List Int) : rN (vk n ++ M) = (n, M) := by
  obtain ⟨k, h1, h2, h3⟩ := vk_isSev n hn
  unfold rN
  rw [← h2, rv_back (n : Int) k (by omega) (by omega) h1 M]
  refine Prod.ext_iff.2 ⟨by simp, ?_⟩
  show (varL k n ++ M).drop ((k : Int) + 1).toNat = M
  have : ((k : Int) + 1).toNat = (varL k (n : Int)).length := by rw [varL_length]; omega
  rw [this, List.drop_left]
theorem rT_tB (s : ByteArray) (hs : s.size < 16384) (M : List Int) : rT (tB s ++ M) = (sN s, M) := by
  unfold rT tB
  rw [List.append_assoc, rN_vk _ hs]
  have := sN_len s
  refine Prod.ext_iff.2 ⟨?_, ?_⟩
  · show (sN s ++ M).take s.size = sN s
    rw [← this, List.take_left]
  · show (sN s ++ M).drop s.size = M
    rw [← this, List.drop_left]
theorem rN_one (v : Nat) (hv : v < 128) (M : List Int) : rN ((v : Int) :: M) = (v, M) := by
  have := rN_vk v (by omega) M
  unfold vk at this
  rw [if_pos hv] at this
  exact this
theorem no_bytes {s : ByteArray} (h : s.size = 0) : s = ⟨#[]⟩ := by
  have h1 : sN s = [] := List.length_eq_zero_iff.1 (by rw [sN_len]; exact h)
  have h2 := sN_str s
  rw [h1] at h2
  exact h2.symm
theorem rX_cB (x : Pt) (hx : badP x = false) (M : List Int) : rX (cB x ++ M) = (x, M) := by
  obtain ⟨h1, h2, h3, h4⟩ := badP_no hx
  unfold cB
  by_cases hg : x.g = true
  · rw [if_pos hg]
    have e1 : rN (1 :: tB x.k ++ M) = (1, tB x.k ++ M) := rN_one 1 (by omega) _
    unfold rX
    rw [e1]
    show (if (1 : Nat) = 1 then _ else _) = _
    rw [if_pos rfl]
    show ((⟨strOfNums (rT (tB x.k ++ M)).1, ⟨#[]⟩, true⟩ : Pt), (rT (tB x.k ++ M)).2) = _
    rw [rT_tB _ (by omega)]
    show ((⟨strOfNums (sN x.k), ⟨#[]⟩, true⟩ : Pt), M) = _
    rw [sN_str, ← no_bytes (h4 hg), ← hg]
  · rw [if_neg hg]
    have e1 : rN (0 :: (tB x.k ++ tB x.v) ++ M) = (0, tB x.k ++ tB x.v ++ M) := rN_one 0 (by omega) _
    unfold rX
    rw [e1]
    show (if (0 : Nat) = 1 then _ else _) = _
    rw [if_neg (by omega)]
    show ((⟨strOfNums (rT (tB x.k ++ tB x.v ++ M)).1, strOfNums (rT (rT (tB x.k ++ tB x.v ++ M)).2).1, false⟩ : Pt), (rT (rT (tB x.k ++ tB x.v ++ M)).2).2) = _
    rw [List.append_assoc, rT_tB _ (by omega)]
    show ((⟨strOfNums (sN x.k), strOfNums (rT (tB x.v ++ M)).1, false⟩ : Pt), (rT (tB x.v ++ M)).2) = _
    rw [rT_tB _ (by omega)]
    show ((⟨strOfNums (sN x.k), strOfNums (sN x.v), false⟩ : Pt), M) = _
    have hf : x.g = false := by simpa using hg
    rw [sN_str, sN_str, ← hf]
theorem rL_csB : ∀ (l : List Pt) (M : List Int), (∀ x ∈ l, badP x = false) → rL l.length (csB l ++ M) = (l, M)
  | [], M, _ => rfl
  | x :: l, M, h => by
    have ih := rL_csB l M fun y hy => h y (by simp [hy])
    have e : csB (x :: l) ++ M = cB x ++ (csB l ++ M) := by unfold csB; rw [List.flatMap_cons, List.append_assoc]
    rw [e, List.length_cons, rL, rX_cB x (h x (by simp)), ih]
theorem rdB_eB {l : List Pt} (h1 : l.length ≤ 64) (h2 : ∀ x ∈ l, badP x = false) : rdB (eB l) = l := by
  unfold rdB eB
  rw [rN_vk _ (by omega)]
  show (rL (min l.length 64) (csB l)).1 = l
  have := rL_csB l [] h2
  rw [List.append_nil] at this
  rw [Nat.min_eq_left h1, this]
theorem dec_enc {l : List Pt} {B : List Int} (h : encA l = (0, B)) : decA B = some l := by
  obtain ⟨rfl, h1, h2, h3, h4⟩ := encA_ok h
  unfold decA
  rw [rdB_eB h2 h3, if_pos h]
theorem dec_some {B : List Int} {l : List Pt} (h : decA B = some l) : encA l = (0, B) := by
  unfold decA at h
  split at h
  · rename_i e
    cases h
    exact e
  · cases h
end Go.Proofs.YtcindeechmpalaaGreat
