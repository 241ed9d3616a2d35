/- A map of changes by their keys, as a plain function: what is at a key, a store, a delete, and a range in whatever order. Changes held against each other; the document's Same. The document's Encode. The document's Encode, whole; how its Decode reads, plainly. -/
import Derived.Test.YtcindeechmpalaaGreatMgKc11
import Derived.Maps.Own
import Derived.Maps.OwnSet
import Derived.Maps.Views
import Derived.Maps.RangeWalk
import Derived.StringKeys
import Derived.Laws.StructEq
import Derived.Test.YtcindeechmpalaaGreatMgKc14
namespace Go.Proofs.YtcindeechmpalaaGreat
open Go.ChangeShapes Go.WideShapes Go.ChangeAt Go.RowKit Go.Deep Go.Maps
set_option linter.unusedVariables false
/-- a text's bytes -/
def dL (s : ByteArray) : List UInt8 := s.data.toList
theorem dL_inj {s t : ByteArray} (h : dL s = dL t) : s = t := ByteArray.ext (Array.toList_inj.1 h)
theorem of_dL (p : List UInt8) : ∃ s : ByteArray, dL s = p := ⟨⟨p.toArray⟩, by simp [dL]⟩
def pA (x : Pt) : Value := .agg (pC x)
/-- what a change reads as -/
def pD (x : Pt) : DataW Unit := .agg [.lit (.string (dL x.k)), .lit (.string (dL x.v)), .lit (.bool x.g)]
def pRl : List Value → Option (DataW Unit × List MemPlace)
  | [.string k, .string v, .bool g] => some (.agg [.lit (.string (dL k)), .lit (.string (dL v)), .lit (.bool g)], [])
  | _ => none
def pR : Value → Option (DataW Unit × List MemPlace)
  | .agg cs => pRl cs.toList
  | _ => none
theorem pR_ag (x : Pt) : pR (pA x) = some (pD x, []) := rfl
theorem pR_inv {v : Value} {z : DataW Unit × List MemPlace} (h : pR v = some z) : ∃ x : Pt, v = pA x ∧ z = (pD x, []) := by
  unfold pR at h
  split at h
  · rename_i cs
    unfold pRl at h
    split at h
    · rename_i k v g hcs
      simp only [Option.some.injEq] at h
      refine ⟨⟨k, v, g⟩, ?_, h.symm⟩
      unfold pA pC
      congr 1
      exact Array.toList_inj.1 hcs
    · simp at h
  · simp at h
theorem pD_inj {x y : Pt} (h : pD x = pD y) : x = y := by
  obtain ⟨a, b, c⟩ := x
  obtain ⟨a', b', c'⟩ := y
  simp [pD] at h
  obtain ⟨h1, h2, rfl⟩ := h
  rw [dL_inj h1, dL_inj h2]
/-- a map's datum tells this function -/
def Pp (D : DataW Unit) (T : ByteArray → Option Pt) : Prop := ∀ p, Maps.has D (.string (dL p)) = (T p).isSome ∧ ∀ x, T p = some x → ∀ z, D.atKey (.string (dL p)) z = pD x
/-- block b is a map that tells this function, of at most n entries -/
def Pm (w : World) (b n : Nat) (T : ByteArray → Option Pt) : Prop := ∃ D, w.ownsMap Tryz.prog 9 pR b n D ∧ Pp D T
theorem lawK : Keyed Tryz.prog 9 := string_keyed Tryz.underlying9
theorem zeroPt (w : World) : (zeroValue 45).run Tryz.prog w = .ok (pA noP) w := by kernel_rfl
theorem keyK (p : ByteArray) (hp : p.size ≤ 140737488355328) : keyOf Tryz.prog 9 (.string p) = some (.string (dL p)) := by
  have := WideMaps.keyOf_string_mk (P := Tryz.prog) (k := 9) Tryz.underlying9 (s := p) (by simp only [maxLen]; omega)
  exact this
theorem keyK_inv {key : Value} {kl : Lit} (h : keyOf Tryz.prog 9 key = some kl) : ∃ p : ByteArray, key = .string p ∧ kl = .string (dL p) := by
  cases key <;> simp [keyOf, Tryz.underlying9, mapKey] at h
  rename_i s
  exact ⟨s, rfl, h.2.symm⟩
theorem Pp.put {D : DataW Unit} {T : ByteArray → Option Pt} (h : Pp D T) (hm : IsMap D) (p : ByteArray) (x : Pt) : Pp (D.put (.string (dL p)) (pD x)) (fun q => if q = p then some x else T q) := by
  intro q
  by_cases hq : q = p
  · subst hq
    simp only [if_pos]
    refine ⟨by rw [has_put_same hm (k := .string (dL q)) trivial]; rfl, fun y hy z => ?_⟩
    cases hy
    exact atKey_put_same hm (k := .string (dL q)) trivial _ _
  · have hne : (Lit.string (dL q)) ≠ .string (dL p) := fun e => hq (dL_inj (by injection e))
    simp only [if_neg hq]
    refine ⟨by rw [has_put_other hne]; exact (h q).1, fun y hy z => ?_⟩
    rw [atKey_put_other hne]
    exact (h q).2 y hy z
theorem Pp.del {D : DataW Unit} {T : ByteArray → Option Pt} (h : Pp D T) (p : ByteArray) : Pp (D.del (.string (dL p))) (fun q => if q = p then none else T q) := by
  intro q
  by_cases hq : q = p
  · subst hq
    simp only [if_pos]
    exact ⟨by rw [has_del_same]; rfl, fun y hy => by cases hy⟩
  · have hne : (Lit.string (dL q)) ≠ .string (dL p) := fun e => hq (dL_inj (by injection e))
    simp only [if_neg hq]
    refine ⟨by rw [has_del_other hne]; exact (h q).1, fun y hy z => ?_⟩
    rw [atKey_del_other hne]
    exact (h q).2 y hy z
theorem Pp.at {D : DataW Unit} {T : ByteArray → Option Pt} (h : Pp D T) (p : ByteArray) : D.atKey (.string (dL p)) (pD noP) = pD ((T p).getD noP) := by
  cases hp : T p with
  | none =>
    have := (h p).1
    rw [hp] at this
    rw [atKey_of_not_has (by simpa using this)]
    rfl
  | some x => exact (h p).2 x hp _
theorem Pm.empty (w : World) : Pm (w.alloc (.map #[] 0)) w.heap.size 0 (fun _ => none) := ⟨.map [], World.ownsMap_made w _ _ _, fun p => ⟨rfl, fun x hx => by cases hx⟩⟩
theorem Pm.mono {w : World} {b n n' : Nat} {T : ByteArray → Option Pt} (h : Pm w b n T) (hn : n ≤ n') : Pm w b n' T := by
  obtain ⟨D, h1, h2⟩ := h
  exact ⟨D, h1.mono hn, h2⟩
theorem Pm.lt {w : World} {b n : Nat} {T : ByteArray → Option Pt} (h : Pm w b n T) : b < w.heap.size := by
  obtain ⟨D, h1, h2⟩ := h
  exact h1.lt
theorem Pm.kept {w w' : World} {b n : Nat} {T : ByteArray → Option Pt} {row : Option Nat} (h : Pm w b n T) (hg : w.grownBy w' row) (hne : some b ≠ row) : Pm w' b n T := by
  obtain ⟨D, h1, h2⟩ := h
  exact ⟨D, h1.kept hg hne, h2⟩
theorem Pm.keep {w w' : World} {b n : Nat} {T : ByteArray → Option Pt} (h : Pm w b n T) (hb : Below w.heap.size w w') : Pm w' b n T :=
  h.kept (row := none) ⟨hb.os, hb.tape, hb.output, hb.size, fun i hi _ => hb.block i hi⟩ (by simp)
/-- 'm[k]' -/
theorem Pm.look {w : World} {b n : Nat} {T : ByteArray → Option Pt} (h : Pm w b n T) (p : ByteArray) (hp : p.size ≤ 140737488355328) : (Instr.lookup 65 (.map (some b)) (.string p) false).run Tryz.prog w = .ok (pA ((T p).getD noP)) w := by
  obtain ⟨D, h1, h2⟩ := h
  obtain ⟨v, ps, hrun, hv⟩ := h1.lookup lawK Tryz.underlying65 (zeroPt w) (pR_ag noP) (keyK p hp)
  obtain ⟨x, rfl, hx⟩ := pR_inv hv
  simp only [Prod.mk.injEq] at hx
  rw [h2.at p] at hx
  rw [pD_inj hx.1]
  exact hrun
section
variable {ops : Array Oper} {rest : List Oper} {o : Oper} {a : Act} {Q : Exit → Act → World → Prop}
/-- 'm[k] = v' -/
theorem wpList_put_pm {w : World} (hg : o.guard = none) (m x v : Operand) (hop : o.op = Op.mapUpdate 65 m x v) (b n : Nat) (T : ByteArray → Option Pt) (hm : a.eval m = .map (some b)) (hs : Pm w b n T) (hn : n < 4611686018427387904) (p : ByteArray) (hp : p.size ≤ 140737488355328) (y : Pt) (hx : a.eval x = .string p) (hv : a.eval v = pA y)
    (hK : ∀ w', Pm w' b (n + 1) (fun q => if q = p then some y else T q) → w.grownBy w' (some b) → wpList Tryz.prog ops Q rest (a.put o.dst undef) w') : wpList Tryz.prog ops Q (o :: rest) a w := by
  obtain ⟨D, h1, h2⟩ := hs
  refine wpList_mapUpdate_own w hg m x v 65 hop 9 45 lawK Tryz.underlying65 pR b n D hm h1 (by unfold maxLen; omega) _ _ _ hx hv (keyK p hp) _ [] (pR_ag y) ?_
  intro w' ho hgr
  exact hK w' ⟨_, ho, h2.put h1.isMap p y⟩ hgr
/-- 'delete(m, k)' -/
theorem wpList_del_pm {w : World} (hg : o.guard = none) (m x : Operand) (hop : o.op = Op.call { callee := Callee.builtin Builtin.delete, args := #[m, x], argTypes := #[65, 9] }) (b n : Nat) (T : ByteArray → Option Pt) (hm : a.eval m = .map (some b)) (hs : Pm w b n T) (p : ByteArray) (hp : p.size ≤ 140737488355328) (hx : a.eval x = .string p)
    (hK : ∀ w', Pm w' b n (fun q => if q = p then none else T q) → w.grownBy w' (some b) → wpList Tryz.prog ops Q rest (a.put o.dst (.tuple #[])) w') : wpList Tryz.prog ops Q (o :: rest) a w := by
  obtain ⟨D, h1, h2⟩ := hs
  refine wpList_delete_own w hg m x 65 9 hop 45 lawK Tryz.underlying65 pR b n D hm h1 _ _ hx (keyK p hp) ?_
  intro w' ho ht
  exact hK w' ⟨_, ho, h2.del p⟩ ht.grown
end
/-- block r ranges over the map in block b; 'left' is still to come -/
def Pn (w : World) (b r n : Nat) (T : ByteArray → Option Pt) (left : ByteArray → Bool) (cnt : Nat) : Prop := ∃ D leftD, w.ranges Tryz.prog 9 pR b r n D leftD cnt ∧ Pp D T ∧ ∀ p, leftD (.string (dL p)) = left p
theorem Pn.pm {w : World} {b r n cnt : Nat} {T : ByteArray → Option Pt} {left : ByteArray → Bool} (h : Pn w b r n T left cnt) : Pm w b n T := by
  obtain ⟨D, l, h1, h2, _⟩ := h
  exact ⟨D, h1.owns, h2⟩
theorem Pn.ne {w : World} {b r n cnt : Nat} {T : ByteArray → Option Pt} {left : ByteArray → Bool} (h : Pn w b r n T left cnt) : r ≠ b := by
  obtain ⟨D, l, h1, h2, _⟩ := h
  exact h1.ne
theorem Pn.lt {w : World} {b r n cnt : Nat} {T : ByteArray → Option Pt} {left : ByteArray → Bool} (h : Pn w b r n T left cnt) : r < w.heap.size := by
  obtain ⟨D, l, h1, h2, _⟩ := h
  exact h1.lt
theorem Pn.left_eq {w : World} {b r n cnt : Nat} {T : ByteArray → Option Pt} {left : ByteArray → Bool} (h : Pn w b r n T left cnt) : w.rangeLeft b r = cnt := by
  obtain ⟨D, l, h1, h2, _⟩ := h
  exact h1.left_eq
theorem Pn.kept {w w' : World} {b r n cnt : Nat} {T : ByteArray → Option Pt} {left : ByteArray → Bool} {row : Option Nat} (h : Pn w b r n T left cnt) (hg : w.grownBy w' row) (hb : some b ≠ row) (hr : some r ≠ row) : Pn w' b r n T left cnt := by
  obtain ⟨D, l, h1, h2, h3⟩ := h
  exact ⟨D, l, h1.kept hg hb hr, h2, h3⟩
theorem Pn.keep {w w' : World} {b r n cnt : Nat} {T : ByteArray → Option Pt} {left : ByteArray → Bool} (h : Pn w b r n T left cnt) (hb : Below w.heap.size w w') : Pn w' b r n T left cnt :=
  h.kept (row := none) ⟨hb.os, hb.tape, hb.output, hb.size, fun i hi _ => hb.block i hi⟩ (by simp) (by simp)
theorem strike_k (p q : ByteArray) : (Lit.string (dL q)).sameKey (.string (dL p)) = decide (q = p) := by
  exact Bool.eq_iff_iff.2 (by simp [Lit.sameKey]; exact ⟨dL_inj, fun h => by rw [h]⟩)
section
variable {ops : Array Oper} {rest : List Oper} {o : Oper} {a : Act} {Q : Exit → Act → World → Prop}
/-- 'range m' -/
theorem wpList_range_pm {w : World} (hg : o.guard = none) (m : Operand) (hop : o.op = Op.range 65 m) (b n : Nat) (T : ByteArray → Option Pt) (hm : a.eval m = .map (some b)) (hs : Pm w b n T)
    (hK : ∀ w' cnt, Pn w' b w.heap.size n T (fun p => (T p).isSome) cnt → w.grownBy w' none → w'.heap.size = w.heap.size + 1 → wpList Tryz.prog ops Q rest (a.put o.dst (.pointer (some ⟨w.heap.size, 0, none⟩))) w') : wpList Tryz.prog ops Q (o :: rest) a w := by
  obtain ⟨D, h1, h2⟩ := hs
  refine wpList_range_own w hg m 65 hop 9 45 lawK Tryz.underlying65 pR b n D hm h1 ?_
  intro w' hr hgr hsz
  exact hK w' _ ⟨D, _, hr, h2, fun p => (h2 p).1⟩ hgr hsz
/-- the step -/
theorem wpList_next_pm {w : World} (hg : o.guard = none) (it : Operand) (hop : o.op = Op.next it false) (b r n : Nat) (T : ByteArray → Option Pt) (left : ByteArray → Bool) (cnt : Nat) (hit : a.eval it = .pointer (some ⟨r, 0, none⟩)) (h : Pn w b r n T left cnt)
    (hDone : cnt = 0 → (∀ q, left q = false) → wpList Tryz.prog ops Q rest (a.put o.dst (.tuple #[.bool false])) w)
    (hMore : ∀ (p : ByteArray) (x : Pt) (w' : World) (cnt' : Nat), p.size ≤ 9223372036854775807 → left p = true → T p = some x → Pn w' b r n T (fun q => left q && !decide (q = p)) cnt' → cnt' < cnt → w.grownBy w' (some r) → w'.heap.size = w.heap.size →
      (Instr.entry (.pointer (some ⟨r, 0, none⟩))).run Tryz.prog w' = .ok (.tuple #[.string p, pA x]) w' → wpList Tryz.prog ops Q rest (a.put o.dst (.tuple #[.bool true, .string p, pA x])) w') :
    wpList Tryz.prog ops Q (o :: rest) a w := by
  obtain ⟨D, l, h1, h2, h3⟩ := h
  refine wpList_next_ranges w hg it hop 9 lawK pR (fun p : ByteArray => Value.string p) pA (fun key kl hk => ?_) (fun v y hy => ?_) b r n D l cnt hit h1 ?_ ?_
  · obtain ⟨p, e, _⟩ := keyK_inv hk
    exact ⟨p, e⟩
  · obtain ⟨x, e, _⟩ := pR_inv hy
    exact ⟨x, e⟩
  · intro h0 hl
    exact hDone h0 (fun q => by rw [← h3]; exact hl _)
  · intro p x kl y w' cnt' hkey hlk hv hat hrg hlt hgr hsz hen
    obtain ⟨p', e1, rfl⟩ := keyK_inv hkey
    have hpp : p' = p := by
      have : p = p' := by injection e1
      exact this.symm
    subst hpp
    have hsz9 : p'.size ≤ 9223372036854775807 := by
      have := hkey
      simp only [keyOf, Tryz.underlying9, mapKey] at this
      split at this
      · rename_i hle
        simpa [maxLen] using hle
      · simp at this
    obtain ⟨x', e2, rfl⟩ := pR_inv hv
    have hT : T p' = some x := by
      have hs := (h2 p').1
      have hh : Maps.has D (.string (dL p')) = true := has_true_of_atKey (y := pD x') (fun z => hat z)
      rw [hh] at hs
      obtain ⟨x2, hx2⟩ := Option.isSome_iff_exists.1 hs.symm
      have := (h2 p').2 x2 hx2 (pD noP)
      rw [hat] at this
      have e3 := pD_inj this
      have e4 : x = x' := by
        have := pR_ag x
        rw [hv] at this
        simp only [Option.some.injEq, Prod.mk.injEq, and_true] at this
        exact (pD_inj this).symm
      rw [hx2, ← e3, e4]
    refine hMore p' x w' cnt' hsz9 (by rw [← h3]; exact hlk) hT ⟨D, _, hrg, h2, fun q => ?_⟩ hlt hgr hsz hen
    rw [h3, strike_k]
/-- 'delete(m, k)' in the round -/
theorem wpList_del_pr {w : World} (hg : o.guard = none) (m x : Operand) (hop : o.op = Op.call { callee := Callee.builtin Builtin.delete, args := #[m, x], argTypes := #[65, 9] }) (b r n : Nat) (T : ByteArray → Option Pt) (left : ByteArray → Bool) (cnt : Nat) (hm : a.eval m = .map (some b)) (h : Pn w b r n T left cnt) (p : ByteArray) (hp : p.size ≤ maxLen) (hx : a.eval x = .string p)
    (hK : ∀ w' cnt', Pn w' b r n (fun q => if q = p then none else T q) (fun q => left q && !decide (q = p)) cnt' → cnt' ≤ cnt → w.grownBy w' (some b) → wpList Tryz.prog ops Q rest (a.put o.dst (.tuple #[])) w') : wpList Tryz.prog ops Q (o :: rest) a w := by
  obtain ⟨D, l, h1, h2, h3⟩ := h
  have hkey : keyOf Tryz.prog 9 (.string p) = some (.string (dL p)) := by
    have := WideMaps.keyOf_string_mk (P := Tryz.prog) (k := 9) Tryz.underlying9 (s := p) hp
    exact this
  refine wpList_delete_ranges w hg m x 65 9 hop 45 lawK Tryz.underlying65 pR b r n D l cnt hm h1 _ _ hx hkey ?_
  intro w' cnt' hr hle ht
  refine hK w' cnt' ⟨_, _, hr, h2.del p, fun q => ?_⟩ hle ht.grown
  rw [h3, strike_k]
end
end Go.Proofs.YtcindeechmpalaaGreat
namespace Go.Proofs.YtcindeechmpalaaGreat
open Go.ChangeShapes Go.WideShapes Go.ChangeAt Go.RowKit Go.Deep
set_option linter.unusedVariables false
set_option linter.unusedSimpArgs false
theorem toList_eq (a b : ByteArray) : (a.toList == b.toList) = decide (a = b) := by
  rw [Bool.eq_iff_iff, beq_iff_eq, decide_eq_true_iff]
  refine ⟨fun h => ?_, fun h => by rw [h]⟩
  have : sN a = sN b := by unfold sN; rw [h]
  rw [← sN_str a, ← sN_str b, this]
/-- two changes are alike -/
def ptE (x y : Pt) : Bool := decide (x.k = y.k) && (decide (x.v = y.v) && (x.g == y.g))
theorem ptE_iff (x y : Pt) : ptE x y = true ↔ x = y := by
  obtain ⟨a, b, c⟩ := x
  obtain ⟨a', b', c'⟩ := y
  unfold ptE
  simp
def sameB : List Pt → List Pt → Bool
  | [], [] => true
  | x :: l, y :: k => ptE x y && sameB l k
  | _, _ => false
theorem sameB_iff : ∀ l k : List Pt, sameB l k = true ↔ l = k
  | [], [] => by simp [sameB]
  | [], _ :: _ => by simp [sameB]
  | _ :: _, [] => by simp [sameB]
  | x :: l, y :: k => by
    rw [sameB, Bool.and_eq_true, ptE_iff, sameB_iff l k]
    simp
theorem sameB_no {l k : List Pt} (h : l ≠ k) : sameB l k = false := by
  cases hb : sameB l k with
  | false => rfl
  | true => exact absurd ((sameB_iff l k).1 hb) h
theorem equal_put (d : Nat) (x y : Pt) (w : World) : (Op.equalIn (d + 2) 45 (pA x) (pA y)).run Tryz.prog w = .ok (ptE x y) w := by
  unfold pA pC
  rw [run_equalIn_struct w (d + 1) 45 _ _ (by simp [Program.fieldsOf, Tryz.underlying45]) (by kernel_rfl)]
  have e1 := toList_eq x.k y.k
  have e2 := toList_eq x.v y.v
  unfold ptE
  simp only [Program.fieldsOf, Tryz.underlying45, Op.eqFields]
  simp [part, isAgg, run_underlying Tryz.underlying9, run_underlying Tryz.underlying4, run_equalIn_string w d 9 _ _ Tryz.underlying9, run_equalIn_bool w d 4 _ _ Tryz.underlying4, e1, e2]
  by_cases h1 : x.k = y.k <;> by_cases h2 : x.v = y.v <;> cases x.g <;> cases y.g <;> simp [h1, h2]
theorem guardP : Tryz.prog.eqGuardType Tryz.prog.depth 45 = false := by kernel_rfl
theorem InP.cells {w w' : World} {h : Nat} {a : Option Addr} {l : List Pt} (hi : InP w a l) (hw : Below w.heap.size w w') {j : Nat} {x : Pt} (hx : l[j]? = some x) : ∃ b off, a = some ⟨b, off, none⟩ ∧ Pc w' b (off + j * 3) x := by
  obtain ⟨b, off, e, hb, hp⟩ := hi.at hx
  exact ⟨b, off, e, hp.kept (hw.block b hb)⟩
set_option maxRecDepth 100000 in
set_option maxHeartbeats 4000000 in
theorem ksame_is (l1 l2 : List Pt) (n1 n2 c1 c2 : Nat) (a1 a2 : Option Addr) (w : World) (h1 : l1.length = n1) (h2 : l2.length = n2) (b1 : n1 ≤ 140737488355328) (b2 : n2 ≤ 140737488355328) (i1 : InP w a1 l1) (i2 : InP w a2 l2) :
    Calls Tryz.prog 28 #[.slice a1 n1 c1, .slice a2 n2 c2] w fun e w' => e = .returned (.bool (sameB l1 l2)) ∧ Below w.heap.size w w' := by
  have HR0 : Hid (∀ r, sameB l1 l2 = r → (l1 = l2 → r = true) ∧ (l1 ≠ l2 → r = false)) := fun r hr => by rw [← hr]; exact ⟨(sameB_iff l1 l2).2, sameB_no⟩
  obtain ⟨r, hr⟩ : ∃ r, sameB l1 l2 = r := ⟨_, rfl⟩
  have HR : Hid ((l1 = l2 → r = true) ∧ (l1 ≠ l2 → r = false)) := HR0.out r hr
  rw [hr]
  clear hr HR0
  by_cases hne : n1 = n2
  · subst hne
    have H1 : Hid (l1.length = n1) := h1
    have H2 : Hid (l2.length = n1) := h2
    have I1 : Hid (InP w a1 l1) := i1
    have I2 : Hid (InP w a2 l2) := i2
    clear h1 h2 i1 i2
    go_enter Tryz.func28, Tryz.ntmps28
    go_wp2_with fail
    go_loopg [5] n1 (fun g i wr => ∃ (j : Nat), j ≤ n1 ∧ g = n1 - j ∧ i = .int .i64 j ∧ Hid (l1.take j = l2.take j) ∧ Hid (Below w.heap.size w wr))
    case atStart => exact ⟨0, Nat.zero_le _, rfl, rfl, rfl, Below.refl _ _⟩
    case round =>
      obtain ⟨j, hj, rfl, rfl, HT, HW⟩ := hrel
      by_cases hlt : j < n1
      · have j1 : (j : Int) < (n1 : Int) := by omega
        obtain ⟨x, hx⟩ : ∃ x, l1[j]? = some x := ⟨l1[j]'(by rw [H1.out]; exact hlt), by simp [H1.out, hlt]⟩
        obtain ⟨y, hy⟩ : ∃ y, l2[j]? = some y := ⟨l2[j]'(by rw [H2.out]; exact hlt), by simp [H2.out, hlt]⟩
        obtain ⟨p1, o1, rfl, hr1⟩ := I1.out.cells (h := 0) HW.out hx
        obtain ⟨p2, o2, rfl, hr2⟩ := I2.out.cells (h := 0) HW.out hy
        obtain ⟨c0, c1', c2'⟩ := hr1
        obtain ⟨d0, d1, d2⟩ := hr2
        have HX : Hid (l1[j]? = some x) := hx
        have HY : Hid (l2[j]? = some y) := hy
        have hq : ∀ w, (Op.equalIn 10000 45 (.agg #[.string x.k, .string x.v, .bool x.g]) (.agg #[.string y.k, .string y.v, .bool y.g])).run Tryz.prog w = .ok (ptE x y) w := equal_put 9998 x y
        have hg := guardP
        have HXY : Hid (ptE x y = true ↔ x = y) := ptE_iff x y
        clear hx hy
        cases hxy : ptE x y with
        | true =>
          rw [hxy] at hq HXY
          clear hxy
          go_wp2_with fail
          go_quiet (fail)
          go_wp2_with fail
          go_roundg (n1 - (j + 1))
          case measure => omega
          case rel =>
            refine ⟨j + 1, by omega, rfl, by go_num, ?_, below_drewN HW.out _⟩
            obtain ⟨q1, e1⟩ := List.getElem?_eq_some_iff.1 HX.out
            obtain ⟨q2, e2⟩ := List.getElem?_eq_some_iff.1 HY.out
            show _ = _
            rw [List.take_succ_eq_append_getElem q1, List.take_succ_eq_append_getElem q2, HT.out, e1, e2, HXY.out.1 trivial]
        | false =>
          rw [hxy] at hq HXY
          have HF : Hid (l1 ≠ l2) := by
            intro e
            subst e
            have := HX.out.symm.trans HY.out
            have := HXY.out.2 (Option.some.inj this)
            cases this
          clear hxy
          go_wp2_with fail
          go_quiet (fail)
          go_wp2_with fail
          go_ret
          exact ⟨by rw [HR.out.2 HF.out]; rfl, below_drewN HW.out _⟩
      · obtain rfl : j = n1 := by omega
        have i1 : ¬ (j : Int) < (j : Int) := by omega
        have HF : Hid (l1 = l2) := by
          have := HT.out
          rwa [List.take_of_length_le (by rw [H1.out]; exact Nat.le_refl _), List.take_of_length_le (by rw [H2.out]; exact Nat.le_refl _)] at this
        go_wp2_with fail
        go_ret
        exact ⟨by rw [HR.out.1 HF.out]; rfl, HW.out⟩
  · have e1 : ((n1 : Int) == (n2 : Int)) = false := by rw [beq_eq_false_iff_ne]; omega
    have e2 : ((n1 : Int) != (n2 : Int)) = true := by simp [bne, e1]
    have e3 : ¬ (n1 : Int) = (n2 : Int) := by omega
    have HF : Hid (l1 ≠ l2) := fun e => hne (by rw [← h1, ← h2, e])
    clear i1 i2 h1 h2
    go_enter Tryz.func28, Tryz.ntmps28
    go_wp2_with fail
    go_ret
    exact ⟨by rw [HR.out.2 HF.out]; rfl, Below.refl _ _⟩
end Go.Proofs.YtcindeechmpalaaGreat
namespace Go.Proofs.YtcindeechmpalaaGreat
open Go.ChangeShapes Go.WideShapes Go.ChangeAt Go.RowKit Go.Deep
set_option linter.unusedVariables false
set_option linter.unusedSimpArgs false
set_option maxRecDepth 100000 in
set_option maxHeartbeats 4000000 in
theorem rmay_is (x : Pt) (hx : x.k.size ≤ 140737488355328 ∧ x.v.size ≤ 140737488355328) (w : World) :
    Calls Tryz.prog 64 #[.agg #[.string x.k, .string x.v, .bool x.g]] w fun e w' => e = .returned (.bool (!badP x)) ∧ Below w.heap.size w w' := by
  obtain ⟨k, v, g⟩ := x
  have hB : Hid (Below w.heap.size w (w.alloc (.cells #[.string k, .string v, .bool g] 45))) := below1 _ _
  have HB : Hid (badP ⟨k, v, g⟩ = (decide (k.size = 0) || decide (64 < k.size) || decide ((if g = true then 0 else 1024) < v.size))) := rfl
  generalize badP ⟨k, v, g⟩ = r at *
  obtain ⟨hk, hv⟩ := hx
  simp only at hk hv
  by_cases h0 : k.size = 0
  · have HR : Hid (r = true) := by show _ = _; rw [HB.out]; simp [h0]
    have t1 : ¬ (1 : Int) ≤ (k.size : Int) := by omega
    clear HB
    go_enter Tryz.func64, Tryz.ntmps64
    go_wp2_with fail
    go_ret
    exact ⟨by rw [HR.out]; rfl, hB.out⟩
  · have t1 : (1 : Int) ≤ (k.size : Int) := by omega
    by_cases h1 : 64 < k.size
    · have HR : Hid (r = true) := by show _ = _; rw [HB.out]; simp [h1]
      have t2 : ¬ (k.size : Int) ≤ 64 := by omega
      clear HB
      go_enter Tryz.func64, Tryz.ntmps64
      go_wp2_with fail
      go_ret
      exact ⟨by rw [HR.out]; rfl, hB.out⟩
    · have t2 : (k.size : Int) ≤ 64 := by omega
      by_cases h2 : 1024 < v.size
      · have HR : Hid (r = true) := by
          show _ = _
          rw [HB.out]
          cases g <;> simp <;> omega
        have t3 : ¬ (v.size : Int) ≤ 1024 := by omega
        clear HB
        go_enter Tryz.func64, Tryz.ntmps64
        go_wp2_with fail
        go_ret
        exact ⟨by rw [HR.out]; rfl, hB.out⟩
      · have t3 : (v.size : Int) ≤ 1024 := by omega
        cases g
        · have HR : Hid (r = false) := by
            show _ = _
            rw [HB.out]
            simp [h0, h1]
            omega
          clear HB
          go_enter Tryz.func64, Tryz.ntmps64
          go_wp2_with fail
          go_ret
          exact ⟨by rw [HR.out]; rfl, hB.out⟩
        · by_cases h3 : v.size = 0
          · obtain rfl := no_bytes h3
            have HR : Hid (r = false) := by
              show _ = _
              rw [HB.out]
              simp [h0, h1]
              decide
            clear HB
            go_enter Tryz.func64, Tryz.ntmps64
            go_wp2_with fail
            go_ret
            exact ⟨by rw [HR.out]; rfl, hB.out⟩
          · have HR : Hid (r = true) := by
              show _ = _
              rw [HB.out]
              simp
              omega
            have e0 := list_empty h3
            have e1 : (v.toList == []) = false := by simpa using e0
            have e2 : v.toList.isEmpty = false := by simpa using e0
            clear HB
            go_enter Tryz.func64, Tryz.ntmps64
            go_wp2_with fail
            go_ret
            exact ⟨by rw [HR.out]; rfl, hB.out⟩
theorem tB_str (s : ByteArray) : strOfNums (tB s) = strOfNums (vk s.size) ++ s := by
  unfold tB
  rw [← str_app, sN_str]
set_option maxRecDepth 100000 in
set_option maxHeartbeats 4000000 in
theorem rtext_is (s : ByteArray) (hs : s.size < 16384) (w : World) : Calls Tryz.prog 97 #[.string s] w fun e w' => e = .returned (.string (strOfNums (tB s))) ∧ Below w.heap.size w w' := by
  have KV : Hid (∀ W, Calls Tryz.prog 65 #[.int .u64 (s.size : Int)] W fun e w' => ∃ a c m, e = .returned (.slice a m c) ∧ (vk s.size).length = m ∧ Holds w' a (vk s.size) ∧ Below W.heap.size W w') := fun W => by
    refine (rvar_any (s.size : Int) (by omega) (by omega) W).mono ?_
    rintro e w' ⟨n, a, c, hsev, rfl, hh, hb, _⟩
    have e := vk_sev s.size n hs hsev
    rw [e] at hh
    exact ⟨a, c, n + 1, rfl, by rw [← e, varL_length], hh, hb⟩
  have HT : Hid (strOfNums (tB s) = strOfNums (vk s.size) ++ s) := tB_str s
  have hvl := vk_len s.size
  have hvz : (strOfNums (vk s.size)).size ≤ 2 := by rw [strOfNums_size]; omega
  rw [HT.out]
  have HCV : Hid (∀ a c m W, (vk s.size).length = m → Holds W a (vk s.size) → (convert 86 9 (.slice a m c)).run Tryz.prog W = .ok (.string (strOfNums (vk s.size))) W) := fun a c m W hm hh => conv_str (w := W) hh _ _ hm
  generalize strOfNums (vk s.size) = V at *
  have ws : IntKind.u64.wrap (s.size : Int) = (s.size : Int) := by rw [IntKind.wrap_u64]; omega
  clear HT
  go_enter Tryz.func97, Tryz.ntmps97
  go_wp2_with fail
  refine (KV.out _).mono ?_
  rintro e w1 ⟨a, c, m, rfl, hm, hh, hb⟩
  have cv := HCV.out a c m w1 hm hh
  have B1 : Hid (Below w.heap.size w w1) := hb
  clear hm hh hb HCV KV
  go_wp2_with fail
  go_ret
  exact ⟨rfl, B1.out⟩
theorem cB_str (x : Pt) : strOfNums (cB x) = if x.g = true then ⟨#[1]⟩ ++ strOfNums (tB x.k) else (⟨#[0]⟩ ++ strOfNums (tB x.k)) ++ strOfNums (tB x.v) := by
  unfold cB
  have e1 : strOfNums [1] = ⟨#[1]⟩ := rfl
  have e0 : strOfNums [0] = ⟨#[0]⟩ := rfl
  split
  · rw [← e1, str_app]; rfl
  · rw [← e0, str_app, str_app]; rfl
set_option maxRecDepth 100000 in
set_option maxHeartbeats 4000000 in
theorem rone_is (x : Pt) (hx : badP x = false) (w : World) : Calls Tryz.prog 66 #[.agg #[.string x.k, .string x.v, .bool x.g]] w fun e w' => e = .returned (.string (strOfNums (cB x))) ∧ Below w.heap.size w w' := by
  obtain ⟨h1, h2, h3, h4⟩ := badP_no hx
  have KK : Hid (∀ W, Calls Tryz.prog 97 #[.string x.k] W fun e w' => e = .returned (.string (strOfNums (tB x.k))) ∧ Below W.heap.size W w') := fun W => rtext_is x.k (by omega) W
  have KV : Hid (∀ W, Calls Tryz.prog 97 #[.string x.v] W fun e w' => e = .returned (.string (strOfNums (tB x.v))) ∧ Below W.heap.size W w') := fun W => rtext_is x.v (by omega) W
  have hk1 : (strOfNums (tB x.k)).size ≤ 3000 := by rw [strOfNums_size, tB_len]; have := vk_len x.k.size; omega
  have hv1 : (strOfNums (tB x.v)).size ≤ 3000 := by rw [strOfNums_size, tB_len]; have := vk_len x.v.size; omega
  rw [cB_str x]
  obtain ⟨k, v, g⟩ := x
  simp only at *
  generalize strOfNums (tB k) = SK at *
  generalize strOfNums (tB v) = SV at *
  clear hx h4
  have X0 : Hid ((w.alloc (.cells #[.string k, .string v, .bool g] 45)).heap[w.heap.size]? = some (.cells (pC ⟨k, v, g⟩) 45) ∧ Below w.heap.size w (w.alloc (.cells #[.string k, .string v, .bool g] 45)) ∧ w.heap.size < (w.alloc (.cells #[.string k, .string v, .bool g] 45)).heap.size) := ⟨heap_alloc_new w _, below1 _ _, by simp⟩
  cases g
  · simp only [Bool.false_eq_true, if_false]
    go_enter Tryz.func66, Tryz.ntmps66
    go_wp2_with fail
    obtain ⟨bx, hbx⟩ : ∃ bx, w.heap.size = bx := ⟨_, rfl⟩
    generalize hu : w.alloc (.cells #[.string k, .string v, .bool false] 45) = u at *
    rw [hbx] at X0 ⊢
    refine wp_region_noPanic ?_
    refine wp_region_held_drew (S := (fun W : World => W.heap[bx]? = some (.cells (pC ⟨k, v, false⟩) 45))) (by kernel_rfl) ?hSat (fun hHeld => ?restat)
    case hSat => exact X0.out.1
    case restat =>
    have B0 : Hid (Below bx w (World.drew u) ∧ bx < (World.drew u).heap.size) := ⟨by rw [← hbx]; rw [← hbx] at X0; exact X0.out.2.1.trans ⟨rfl, rfl, rfl, Nat.le_refl _, fun _ _ => rfl⟩, X0.out.2.2⟩
    generalize World.drew u = u0 at hHeld B0 ⊢
    clear X0 hu
    refine wpAnyH_take (i := 0) (v := .pointer (some ⟨bx, 0, none⟩)) rfl (by kernel_rfl) (by kernel_rfl) (by kernel_rfl) (fun _ _ _ h => h) (Or.inl ⟨by kernel_rfl, ?hy0A⟩) hHeld ?rest0A
    case hy0A => (intro u9 hSu; clear hSu; go_simp; first | done | with_reducible rfl | omega)
    try simp only [Act.put, List.setIfInBounds_toArray, List.set_cons_zero, List.set_cons_succ, List.getElem_toArray, List.getElem_cons_zero, List.getElem_cons_succ]
    refine wpAnyH_take (i := 1) (v := .string k) rfl (by kernel_rfl) (by kernel_rfl) (by kernel_rfl) (fun _ _ _ h => h) (Or.inl ⟨by kernel_rfl, ?hy1A⟩) hHeld ?rest1A
    case hy1A => (intro u9 hSu; obtain ⟨d0, d1, d2⟩ := pc_cells hSu; simp only at d0 d1 d2; clear hSu; go_simp; first | done | with_reducible rfl | omega)
    try simp only [Act.put, List.setIfInBounds_toArray, List.set_cons_zero, List.set_cons_succ, List.getElem_toArray, List.getElem_cons_zero, List.getElem_cons_succ]
    refine wpAnyH_take (i := 4) (v := .pointer (some ⟨bx, 1, none⟩)) rfl (by kernel_rfl) (by kernel_rfl) (by kernel_rfl) (fun _ _ _ h => h) (Or.inl ⟨by kernel_rfl, ?hy4A⟩) hHeld ?rest4A
    case hy4A => (intro u9 hSu; clear hSu; go_simp; first | done | with_reducible rfl | omega)
    try simp only [Act.put, List.setIfInBounds_toArray, List.set_cons_zero, List.set_cons_succ, List.getElem_toArray, List.getElem_cons_zero, List.getElem_cons_succ]
    refine wpAnyH_take (i := 5) (v := .string v) rfl (by kernel_rfl) (by kernel_rfl) (by kernel_rfl) (fun _ _ _ h => h) (Or.inl ⟨by kernel_rfl, ?hy5A⟩) hHeld ?rest5A
    case hy5A => (intro u9 hSu; obtain ⟨d0, d1, d2⟩ := pc_cells hSu; simp only at d0 d1 d2; clear hSu; go_simp; first | done | with_reducible rfl | omega)
    try simp only [Act.put, List.setIfInBounds_toArray, List.set_cons_zero, List.set_cons_succ, List.getElem_toArray, List.getElem_cons_zero, List.getElem_cons_succ]
    refine wpAnyH_ready (rs := [2]) (by kernel_rfl) (by simp) ?_
    refine AllReadyH.cons rfl (fun Kq hK => ?_) AllReadyH.nil
    go_simp
    refine (KK.out u0).mono ?_
    rintro e u1 ⟨rfl, hb⟩
    have B1 : Hid (Below bx w u1 ∧ bx < u1.heap.size) := ⟨B0.out.1.trans (hb.mono (by have := B0.out.2; omega)), Nat.lt_of_lt_of_le B0.out.2 hb.size⟩
    have X2 : Hid (u1.heap[bx]? = some (.cells (pC ⟨k, v, false⟩) 45)) := (hb.block bx B0.out.2).trans hHeld
    clear hb
    go_wp2_with fail
    refine hK.out _ _ ?hS2A (fun hHeld => ?rest2A)
    case hS2A => exact X2.out
    clear hK Kq
    try simp only [Act.put, List.setIfInBounds_toArray, List.set_cons_zero, List.set_cons_succ, List.getElem_toArray, List.getElem_cons_zero, List.getElem_cons_succ]
    refine wpAnyH_take (i := 3) (v := .string (⟨#[0]⟩ ++ SK)) rfl (by kernel_rfl) (by kernel_rfl) (by kernel_rfl) (fun _ _ _ h => h) (Or.inl ⟨by kernel_rfl, ?hy3A⟩) hHeld ?rest3A
    case hy3A => (intro u9 hSu; clear hSu; go_simp; first | done | with_reducible rfl | omega)
    try simp only [Act.put, List.setIfInBounds_toArray, List.set_cons_zero, List.set_cons_succ, List.getElem_toArray, List.getElem_cons_zero, List.getElem_cons_succ]
    refine wpAnyH_ready (rs := [6]) (by kernel_rfl) (by simp) ?_
    refine AllReadyH.cons rfl (fun Kq hK => ?_) AllReadyH.nil
    go_simp
    refine (KV.out u1).mono ?_
    rintro e u2 ⟨rfl, hb⟩
    have B2a : Hid (Below bx w u2 ∧ bx < u2.heap.size) := ⟨B1.out.1.trans (hb.mono (by have := B1.out.2; omega)), Nat.lt_of_lt_of_le B1.out.2 hb.size⟩
    have X6 : Hid (u2.heap[bx]? = some (.cells (pC ⟨k, v, false⟩) 45)) := (hb.block bx B1.out.2).trans hHeld
    clear hb
    go_wp2_with fail
    refine hK.out _ _ ?hS6A (fun hHeld => ?rest6A)
    case hS6A => exact X6.out
    clear hK Kq
    try simp only [Act.put, List.setIfInBounds_toArray, List.set_cons_zero, List.set_cons_succ, List.getElem_toArray, List.getElem_cons_zero, List.getElem_cons_succ]
    refine wpAnyH_take (i := 7) (v := .string ((⟨#[0]⟩ ++ SK) ++ SV)) rfl (by kernel_rfl) (by kernel_rfl) (by kernel_rfl) (fun _ _ _ h => h) (Or.inl ⟨by kernel_rfl, ?hy7A⟩) hHeld ?rest7A
    case hy7A => (intro u9 hSu; clear hSu; go_simp; first | done | with_reducible rfl | omega)
    try simp only [Act.put, List.setIfInBounds_toArray, List.set_cons_zero, List.set_cons_succ, List.getElem_toArray, List.getElem_cons_zero, List.getElem_cons_succ]
    refine wpAnyH_take (i := 8) (v := .string ((⟨#[0]⟩ ++ SK) ++ SV)) rfl (by kernel_rfl) (by kernel_rfl) (by kernel_rfl) (fun _ _ _ h => h) (Or.inl ⟨by kernel_rfl, ?hy8A⟩) hHeld ?rest8A
    case hy8A => (intro u9 hSu; clear hSu; go_simp; first | done | with_reducible rfl | omega)
    try simp only [Act.put, List.setIfInBounds_toArray, List.set_cons_zero, List.set_cons_succ, List.getElem_toArray, List.getElem_cons_zero, List.getElem_cons_succ]
    refine wpAnyH_done (by kernel_rfl) ?_ _
    refine NoPanic.normal ?_
    have B2 : Hid (Below bx w u2) := B2a.out.1
    go_wp2_with fail
    go_ret
    exact ⟨rfl, by rw [hbx]; exact B2.out⟩
  · simp only [if_true]
    go_enter Tryz.func66, Tryz.ntmps66
    go_wp2_with fail
    refine (KK.out _).mono ?_
    rintro e w1 ⟨rfl, hb⟩
    have B1 : Hid (Below w.heap.size w w1) := X0.out.2.1.trans (hb.mono (by simp))
    clear hb
    go_wp2_with fail
    go_ret
    exact ⟨rfl, B1.out⟩
end Go.Proofs.YtcindeechmpalaaGreat
namespace Go.Proofs.YtcindeechmpalaaGreat
open Go.ChangeShapes Go.WideShapes Go.ChangeAt Go.RowKit Go.Deep
set_option linter.unusedVariables false
set_option linter.unusedSimpArgs false
theorem eB_str (l : List Pt) (j : Nat) {x : Pt} (h : l[j]? = some x) (V : List Int) : strOfNums (V ++ csB (l.take (j + 1))) = strOfNums (V ++ csB (l.take j)) ++ strOfNums (cB x) := by
  rw [csB_take h, ← List.append_assoc, str_app]
set_option maxRecDepth 100000 in
set_option maxHeartbeats 4000000 in
theorem rEncode_is (l : List Pt) (n : Nat) (hn : l.length = n) (hn62 : n ≤ 4611686018427387904) (hf : FitP l) (a : Option Addr) (c : Nat) (w : World) (hl : InP w a l) :
    Calls Tryz.prog 25 #[.slice a n c] w fun e w' => e = .returned (.tuple #[.string (strOfNums (encA l).2), .int .i64 (encA l).1]) ∧ Below w.heap.size w w' := by
  have HL : Hid (InP w a l) := hl
  have HN : Hid (l.length = n) := hn
  have HF : Hid (FitP l) := hf
  have HEA : Hid (encA l = if l = [] ∨ l.any badP = true then (2, []) else if 64 < l.length then (3, []) else if 4096 < (eB l).length then (3, []) else (0, eB l)) := rfl
  generalize encA l = R at *
  clear hf hl hn
  go_enter Tryz.func25, Tryz.ntmps25
  go_wp2_with fail
  go_loopg [4] n (fun gg iv wr => ∃ j : Nat, j ≤ n ∧ gg = n - j ∧ iv = .int .i64 (j : Int) ∧ Hid (∀ i x, i < j → l[i]? = some x → badP x = false) ∧ Hid (Below w.heap.size w wr))
  case atStart => exact ⟨0, Nat.zero_le _, rfl, rfl, fun i x hi => by omega, Below.refl _ _⟩
  case round =>
    obtain ⟨j, hj, rfl, rfl, HA, HW⟩ := hrel
    by_cases hlt : j < n
    · have j1 : decide ((j : Int) < (n : Int)) = true := by rw [decide_eq_true_eq]; omega
      obtain ⟨x, hx⟩ : ∃ x, l[j]? = some x := ⟨l[j]'(by rw [HN.out]; exact hlt), by simp [HN.out, hlt]⟩
      have HX : Hid (l[j]? = some x) := hx
      obtain ⟨b, off, rfl, hbw, hpc⟩ := HL.out.at hx
      obtain ⟨c0, c1, c2⟩ := hpc.kept (HW.out.block b hbw)
      have K := rmay_is x (HF.out x (List.mem_of_getElem? hx))
      have ri : IntKind.i64.wrap ((j : Int) + 1) = (j : Int) + 1 := by rw [IntKind.wrap_i64]; omega
      cases hb : badP x with
      | true =>
        rw [hb] at K
        have KX : Hid (∀ W, Calls Tryz.prog 64 #[.agg #[.string x.k, .string x.v, .bool x.g]] W fun e w' => e = .returned (.bool false) ∧ Below W.heap.size W w') := K
        have HR : Hid (R = (2, [])) := by
          show _ = _
          rw [HEA.out, if_pos (.inr (List.any_eq_true.2 ⟨x, List.mem_of_getElem? hx, hb⟩))]
        clear hx hpc K hb
        obtain ⟨xk, xv, xg⟩ := x
        simp only at c0 c1 c2 KX
        go_wp2_with fail
        refine (KX.out _).mono ?_
        rintro e w1 ⟨rfl, hb1⟩
        have B1 : Hid (Below w.heap.size w w1) := HW.out.trans (hb1.mono HW.out.size)
        clear hb1
        go_wp2_with fail
        go_ret2
        exact ⟨by rw [HR.out]; rfl, B1.out⟩
      | false =>
        rw [hb] at K
        have KX : Hid (∀ W, Calls Tryz.prog 64 #[.agg #[.string x.k, .string x.v, .bool x.g]] W fun e w' => e = .returned (.bool true) ∧ Below W.heap.size W w') := K
        have HA2 : Hid (∀ i y, i < j + 1 → l[i]? = some y → badP y = false) := fun i y hi hy => by
          by_cases e : i = j
          · subst e
            rw [HX.out] at hy
            rw [← Option.some.inj hy]
            exact hb
          · exact HA.out i y (by omega) hy
        clear hx hpc K hb
        obtain ⟨xk, xv, xg⟩ := x
        simp only at c0 c1 c2 KX
        go_wp2_with fail
        refine (KX.out _).mono ?_
        rintro e w1 ⟨rfl, hb1⟩
        have B1 : Hid (Below w.heap.size w w1) := HW.out.trans (hb1.mono HW.out.size)
        clear hb1
        go_wp2_with fail
        go_roundg (n - (j + 1))
        case measure => omega
        case rel => exact ⟨j + 1, by omega, rfl, by simp, HA2, B1⟩
    · have j1 : decide ((j : Int) < (n : Int)) = false := by rw [decide_eq_false_iff_not]; omega
      have HO : Hid (∀ x ∈ l, badP x = false) := fun x hx => by
        obtain ⟨i, hi⟩ := List.getElem?_of_mem hx
        have := (List.getElem?_eq_some_iff.1 hi).1
        exact HA.out i x (by have := HN.out; omega) hi
      have hany : ¬ l.any badP = true := fun e => by
        obtain ⟨y, hy, hyb⟩ := List.any_eq_true.1 e
        rw [HO.out y hy] at hyb
        cases hyb
      by_cases h0 : n = 0
      · subst h0
        have HR : Hid (R = (2, [])) := by show _ = _; rw [HEA.out, if_pos (.inl (List.length_eq_zero_iff.1 HN.out))]
        go_wp2_with fail
        go_ret2
        exact ⟨by rw [HR.out]; rfl, HW.out⟩
      · have hne : ¬ l = [] := fun e => by have := HN.out; rw [e] at this; exact h0 this.symm
        have e0 : ((n : Int) == 0) = false := by rw [beq_eq_false_iff_ne]; omega
        have e0' : ¬ (n : Int) = 0 := by omega
        by_cases h64 : 64 < n
        · have e1 : decide (64 < (n : Int)) = true := by rw [decide_eq_true_eq]; omega
          have HR : Hid (R = (3, [])) := by show _ = _; rw [HEA.out, if_neg (by simp [hne, hany]), if_pos (by rw [HN.out]; exact h64)]
          clear hany hne
          go_wp2_with fail
          go_ret2
          exact ⟨by rw [HR.out]; rfl, HW.out⟩
        · have e1 : decide (64 < (n : Int)) = false := by rw [decide_eq_false_iff_not]; omega
          have HR : Hid (R = if 4096 < (eB l).length then (3, []) else (0, eB l)) := by show _ = _; rw [HEA.out, if_neg (by simp [hne, hany]), if_neg (by rw [HN.out]; exact h64)]
          have ws : IntKind.u64.wrap (n : Int) = (n : Int) := by rw [IntKind.wrap_u64]; omega
          have KV : Hid (∀ W, Calls Tryz.prog 65 #[.int .u64 (n : Int)] W fun e w' => ∃ a c m, e = .returned (.slice a m c) ∧ (vk n).length = m ∧ Holds w' a (vk n) ∧ Below W.heap.size W w') := fun W => by
            refine (rvar_any (n : Int) (by omega) (by omega) W).mono ?_
            rintro e w' ⟨q, a, c, hsev, rfl, hh, hb, _⟩
            have e := vk_sev n q (by omega) hsev
            rw [e] at hh
            exact ⟨a, c, q + 1, rfl, by rw [← e, varL_length], hh, hb⟩
          clear hany hne HEA HA
          go_wp2_with fail
          refine (KV.out _).mono ?_
          rintro e w1 ⟨av, cv, mv, rfl, hm, hh, hb⟩
          have cvt : (convert 86 9 (.slice av mv cv)).run Tryz.prog w1 = .ok (.string (strOfNums (vk n))) w1 := conv_str (w := w1) hh _ _ hm
          have B1 : Hid (Below w.heap.size w w1) := HW.out.trans (hb.mono HW.out.size)
          have HVL : Hid ((vk n).length ≤ 2) := (vk_len n).2
          clear hm hh hb KV HW
          obtain ⟨st0, hst0⟩ : ∃ st0, strOfNums (vk n) = st0 := ⟨_, rfl⟩
          rw [hst0] at cvt
          have HST0 : Hid (strOfNums (vk n) = st0) := hst0
          clear hst0
          go_wp2_with fail
          go_loopg [5, 6] n (fun gg sv iv wr => ∃ j st, j ≤ n ∧ gg = n - j ∧ iv = .int .i64 ((j : Nat) : Int) ∧ sv = .string st ∧ Hid (st = strOfNums (vk n ++ csB (l.take j))) ∧ Hid (Below w.heap.size w wr))
          case atStart => exact ⟨0, st0, Nat.zero_le _, rfl, rfl, rfl, by show _ = _; rw [← HST0.out]; simp [csB], B1⟩
          case round =>
            obtain ⟨j, st, hj, rfl, rfl, rfl, HST, HW⟩ := hrel
            clear B1 cvt
            by_cases hlt : j < n
            · have j1 : decide ((j : Int) < (n : Int)) = true := by rw [decide_eq_true_eq]; omega
              obtain ⟨x, hx⟩ : ∃ x, l[j]? = some x := ⟨l[j]'(by rw [HN.out]; exact hlt), by simp [HN.out, hlt]⟩
              obtain ⟨b, off, rfl, hbw, hpc⟩ := HL.out.at hx
              obtain ⟨c0, c1, c2⟩ := hpc.kept (HW.out.block b hbw)
              have hxb := HO.out x (List.mem_of_getElem? hx)
              have KX : Hid (∀ W, Calls Tryz.prog 66 #[.agg #[.string x.k, .string x.v, .bool x.g]] W fun e w' => e = .returned (.string (strOfNums (cB x))) ∧ Below W.heap.size W w') := fun W => rone_is x hxb W
              have ri : IntKind.i64.wrap ((j : Int) + 1) = (j : Int) + 1 := by rw [IntKind.wrap_i64]; omega
              have HS2 : Hid (st ++ strOfNums (cB x) = strOfNums (vk n ++ csB (l.take (j + 1)))) := by show _ = _; rw [eB_str l j hx, HST.out]
              have hz1 : st.size ≤ 1000000 := by
                rw [HST.out, strOfNums_size, List.length_append]
                have q1 := csB_len (l := l.take j) (fun y hy => HO.out y (List.mem_of_mem_take hy))
                have q3 : (l.take j).length ≤ j := by rw [List.length_take]; omega
                have := HVL.out
                omega
              have hz2 : (strOfNums (cB x)).size ≤ 1093 := by rw [strOfNums_size]; exact (cB_len hxb).2
              clear hx hpc hxb
              generalize strOfNums (cB x) = sx at *
              obtain ⟨xk, xv, xg⟩ := x
              simp only at c0 c1 c2 KX
              go_wp2_with fail
              refine (KX.out _).mono ?_
              rintro e w2 ⟨rfl, hb2⟩
              have B2 : Hid (Below w.heap.size w w2) := HW.out.trans (hb2.mono HW.out.size)
              clear hb2
              go_wp2_with fail
              go_roundg (n - (j + 1))
              case measure => omega
              case rel => exact ⟨j + 1, st ++ sx, by omega, rfl, by simp, rfl, HS2, B2⟩
            · have j1 : decide ((j : Int) < (n : Int)) = false := by rw [decide_eq_false_iff_not]; omega
              have HSE : Hid (st = strOfNums (eB l)) := by
                show _ = _
                rw [HST.out, List.take_of_length_le (by have := HN.out; omega)]
                unfold eB
                rw [HN.out]
              have hsz : st.size = (eB l).length := by rw [HSE.out, strOfNums_size]
              have hsb : (eB l).length ≤ 1000000 := by
                have q1 := csB_len HO.out
                have h1 := HN.out
                have := HVL.out
                unfold eB
                rw [List.length_append, h1]
                omega
              by_cases h4 : 4096 < (eB l).length
              · have e4 : decide ((4096 : Int) < (st.size : Int)) = true := by rw [decide_eq_true_eq]; omega
                have HR2 : Hid (R = (3, [])) := by show _ = _; rw [HR.out, if_pos h4]
                clear h4 hsz hsb
                go_wp2_with fail
                go_ret2
                exact ⟨by rw [HR2.out]; rfl, HW.out⟩
              · have e4 : decide ((4096 : Int) < (st.size : Int)) = false := by rw [decide_eq_false_iff_not]; omega
                have HR2 : Hid (R.1 = 0 ∧ strOfNums R.2 = st) := by rw [HR.out, if_neg h4]; exact ⟨rfl, HSE.out.symm⟩
                clear h4 hsz hsb
                go_wp2_with fail
                go_ret2
                exact ⟨by rw [HR2.out.1, HR2.out.2]; rfl, HW.out⟩
/-- a text that bytes begin with, and what is behind it -/
def cutB (B : List Int) : Option (List Int × List Int) := if (rv B 0 0).2.2 ≠ 0 ∨ (B.length : Int) - (rv B 0 0).2.1 < (rv B 0 0).1 then none else some ((B.drop (rv B 0 0).2.1.toNat).take (rv B 0 0).1.toNat, (B.drop (rv B 0 0).2.1.toNat).drop (rv B 0 0).1.toNat)
def oneB (B : List Int) : Option (Pt × List Int) := match cutB B.tail with
  | none => none
  | some (k, more) => if B.head? = some 1 then some (⟨strOfNums k, ⟨#[]⟩, true⟩, more) else match cutB more with
    | none => none
    | some (v, more2) => some (⟨strOfNums k, strOfNums v, false⟩, more2)
def allB : Nat → List Int → Option (List Pt)
  | 0, B => if B = [] then some [] else none
  | f + 1, B => if B = [] then some [] else match oneB B with
    | none => none
    | some (x, r) => (allB f r).map (x :: ·)
def dcB (B : List Int) : Option (List Pt) := if B = [] then none else match allB B.length B.tail with
  | none => none
  | some l => if encA l = (0, B) then some l else none
theorem cutB_tB (s : ByteArray) (hs : s.size < 16384) (M : List Int) : cutB (tB s ++ M) = some (sN s, M) := by
  obtain ⟨k, h1, h2, h3⟩ := vk_isSev s.size hs
  have e : tB s ++ M = varL k (s.size : Int) ++ (sN s ++ M) := by unfold tB; rw [h2, List.append_assoc]
  have hl := sN_len s
  have hvl := varL_length k (s.size : Int)
  unfold cutB
  rw [e, rv_back (s.size : Int) k (by omega) (by omega) h1 (sN s ++ M)]
  have hk : ((k : Int) + 1).toNat = (varL k (s.size : Int)).length := by rw [hvl]; omega
  rw [if_neg]
  · show some (((varL k (s.size : Int) ++ (sN s ++ M)).drop ((k : Int) + 1).toNat).take ((s.size : Int)).toNat, ((varL k (s.size : Int) ++ (sN s ++ M)).drop ((k : Int) + 1).toNat).drop ((s.size : Int)).toNat) = _
    rw [hk, List.drop_left, Int.toNat_natCast, ← hl, List.take_left, List.drop_left]
  · rintro (h | h)
    · exact h rfl
    · have h' : (((varL k (s.size : Int) ++ (sN s ++ M)).length : Nat) : Int) - ((k : Int) + 1) < (s.size : Int) := h
      rw [List.length_append, List.length_append, hvl, hl] at h'
      omega
theorem oneB_cB (x : Pt) (hx : badP x = false) (M : List Int) : oneB (cB x ++ M) = some (x, M) := by
  obtain ⟨h1, h2, h3, h4⟩ := badP_no hx
  unfold cB oneB
  by_cases hg : x.g = true
  · rw [if_pos hg]
    show (match cutB (tB x.k ++ M) with | none => none | some (k, more) => _) = _
    rw [cutB_tB _ (by omega)]
    show (if (some (1 : Int)) = some 1 then some ((⟨strOfNums (sN x.k), ⟨#[]⟩, true⟩ : Pt), M) else _) = _
    rw [if_pos rfl, sN_str, ← no_bytes (h4 hg), ← hg]
  · rw [if_neg hg]
    show (match cutB (tB x.k ++ tB x.v ++ M) with | none => none | some (k, more) => _) = _
    rw [List.append_assoc, cutB_tB _ (by omega)]
    show (if (some (0 : Int)) = some 1 then _ else match cutB (tB x.v ++ M) with | none => none | some (v, more2) => some ((⟨strOfNums (sN x.k), strOfNums v, false⟩ : Pt), more2)) = _
    rw [if_neg (by decide), cutB_tB _ (by omega)]
    have hf : x.g = false := by simpa using hg
    show some ((⟨strOfNums (sN x.k), strOfNums (sN x.v), false⟩ : Pt), M) = _
    rw [sN_str, sN_str, ← hf]
theorem allB_csB : ∀ (l : List Pt) (f : Nat), (∀ x ∈ l, badP x = false) → (csB l).length ≤ f → allB f (csB l) = some l
  | [], 0, _, _ => rfl
  | [], f + 1, _, _ => rfl
  | x :: l, f, h, hf => by
    have hx := h x (by simp)
    have hc := cB_len hx
    have e : csB (x :: l) = cB x ++ csB l := by unfold csB; rw [List.flatMap_cons]
    rw [e] at hf ⊢
    rw [List.length_append] at hf
    cases f with
    | zero => omega
    | succ f =>
      have hne : ¬ cB x ++ csB l = [] := fun e => by have := congrArg List.length e; rw [List.length_append, List.length_nil] at this; omega
      rw [allB, if_neg hne, oneB_cB x hx]
      show (allB f (csB l)).map (x :: ·) = _
      rw [allB_csB l f (fun y hy => h y (by simp [hy])) (by omega)]
      rfl
theorem dcB_eq (B : List Int) : dcB B = decA B := by
  cases hd : decA B with
  | some l =>
    have hE := dec_some hd
    obtain ⟨hB, hne, h64, hok, hlen⟩ := encA_ok hE
    have hv : vk l.length = [(l.length : Int)] := by unfold vk; rw [if_pos (by omega)]
    have e : B = (l.length : Int) :: csB l := by rw [hB]; unfold eB; rw [hv]; rfl
    unfold dcB
    rw [if_neg (by rw [e]; simp)]
    have e2 : allB B.length B.tail = some l := by rw [e]; exact allB_csB l _ hok (by simp)
    rw [e2]
    show (if encA l = (0, B) then some l else none) = some l
    rw [if_pos hE]
  | none =>
    unfold dcB
    split
    · rfl
    · cases ha : allB B.length B.tail with
      | none => rfl
      | some l =>
        show (if encA l = (0, B) then some l else none) = none
        rw [if_neg]
        intro hE
        rw [dec_enc hE] at hd
        cases hd
end Go.Proofs.YtcindeechmpalaaGreat
