/- A map of slices by numbers, as a plain function from a number to where a slice lies: what is at a key, a store, a delete, and a range in whatever order. -/
import Derived.Test.YtibgfjnddhfgpaaMem
import Derived.Maps.Own
import Derived.Maps.OwnSet
import Derived.Maps.Views
import Derived.Maps.RangeWalk
namespace Go.Proofs.Ytibgfjnddhfgpaa
open Go.ChangeShapes Go.WideShapes Go.ChangeAt Go.RowKit Go.Deep Go.Maps
set_option linter.unusedVariables false
/-- where a slice lies (0: it is nil; else the block's number and one), how long it is, how much room it has -/
abbrev Hd := Nat × Nat × Nat
def hv : Hd → Value
  | (0, n, c) => .slice none n c
  | (g + 1, n, c) => .slice (some ⟨g, 0, none⟩) n c
def noH : Hd := (0, 0, 0)
def hD (x : Hd) : DataW Unit := .agg [.lit (.int .i64 (x.1 : Int)), .lit (.int .i64 (x.2.1 : Int)), .lit (.int .i64 (x.2.2 : Int))]
def hR : Value → Option (DataW Unit × List MemPlace)
  | .slice none n c => some (hD (0, n, c), [])
  | .slice (some ⟨g, 0, none⟩) n c => some (hD (g + 1, n, c), [])
  | _ => none
theorem hR_hv (x : Hd) : hR (hv x) = some (hD x, []) := by
  obtain ⟨g, n, c⟩ := x
  cases g <;> rfl
theorem hR_inv {v : Value} {z : DataW Unit × List MemPlace} (h : hR v = some z) : ∃ x : Hd, v = hv x ∧ z = (hD x, []) := by
  unfold hR at h
  split at h
  · rename_i n c
    exact ⟨(0, n, c), rfl, (Option.some.inj h).symm⟩
  · rename_i g n c
    exact ⟨(g + 1, n, c), rfl, (Option.some.inj h).symm⟩
  · cases h
theorem hD_inj {x y : Hd} (h : hD x = hD y) : x = y := by
  obtain ⟨a, b, c⟩ := x
  obtain ⟨a', b', c'⟩ := y
  simp [hD] at h
  obtain ⟨h1, h2, h3⟩ := h
  have e1 : a = a' := by omega
  have e2 : b = b' := by omega
  have e3 : c = c' := by omega
  subst e1 e2 e3
  rfl
def InI (p : Int) : Prop := -9223372036854775808 ≤ p ∧ p ≤ 9223372036854775807
/-- a map's datum tells this function -/
def Rep (D : DataW Unit) (T : Int → Option Hd) : Prop := ∀ p, Maps.has D (.int .i64 p) = (T p).isSome ∧ ∀ x, T p = some x → ∀ z, D.atKey (.int .i64 p) z = hD x
/-- block b is a map that tells this function, of at most n entries -/
def Sc (w : World) (b n : Nat) (T : Int → Option Hd) : Prop := ∃ D, w.ownsMap Try.prog 3 hR b n D ∧ Rep D T
theorem lawI : Keyed Try.prog 3 := int_keyed Try.underlying3
theorem zeroHd (w : World) : (zeroValue 66).run Try.prog w = .ok (hv noH) w := by kernel_rfl
theorem keyI (p : Int) (hp : InI p) : keyOf Try.prog 3 (.int .i64 p) = some (.int .i64 p) := keyOf_int_mk Try.underlying3 (WalkArith.wf_i64 hp)
theorem keyI_inv {key : Value} {kl : Lit} (h : keyOf Try.prog 3 key = some kl) : ∃ p : Int, key = .int .i64 p ∧ kl = .int .i64 p ∧ InI p := by
  rw [keyOf_int Try.underlying3] at h
  cases key <;> simp [mapKey, Try.underlying3] at h
  rename_i q p
  obtain ⟨⟨rfl, hw⟩, rfl⟩ := h
  exact ⟨p, rfl, rfl, bounds_i64 hw⟩
theorem Rep.put {D : DataW Unit} {T : Int → Option Hd} (h : Rep D T) (hm : IsMap D) (p : Int) (x : Hd) : Rep (D.put (.int .i64 p) (hD x)) (fun q => if q = p then some x else T q) := by
  intro q
  by_cases hq : q = p
  · subst hq
    simp only [if_pos]
    refine ⟨by rw [has_put_same hm (k := .int .i64 q) trivial]; rfl, fun y hy z => ?_⟩
    cases hy
    exact atKey_put_same hm (k := .int .i64 q) trivial _ _
  · have hne : (Lit.int .i64 q) ≠ .int .i64 p := fun e => hq (by injection e)
    simp only [if_neg hq]
    refine ⟨by rw [has_put_other hne]; exact (h q).1, fun y hy z => ?_⟩
    rw [atKey_put_other hne]
    exact (h q).2 y hy z
theorem Rep.del {D : DataW Unit} {T : Int → Option Hd} (h : Rep D T) (p : Int) : Rep (D.del (.int .i64 p)) (fun q => if q = p then none else T q) := by
  intro q
  by_cases hq : q = p
  · subst hq
    simp only [if_pos]
    exact ⟨by rw [has_del_same]; rfl, fun y hy => by cases hy⟩
  · have hne : (Lit.int .i64 q) ≠ .int .i64 p := fun e => hq (by injection e)
    simp only [if_neg hq]
    refine ⟨by rw [has_del_other hne]; exact (h q).1, fun y hy z => ?_⟩
    rw [atKey_del_other hne]
    exact (h q).2 y hy z
theorem Rep.at {D : DataW Unit} {T : Int → Option Hd} (h : Rep D T) (p : Int) : D.atKey (.int .i64 p) (hD noH) = hD ((T p).getD noH) := by
  cases hp : T p with
  | none =>
    have := (h p).1
    rw [hp] at this
    rw [atKey_of_not_has (by simpa using this)]
    rfl
  | some x => exact (h p).2 x hp _
theorem Sc.empty (w : World) : Sc (w.alloc (.map #[] 0)) w.heap.size 0 (fun _ => none) := ⟨.map [], World.ownsMap_made w _ _ _, fun p => ⟨rfl, fun x hx => by cases hx⟩⟩
theorem Sc.mono {w : World} {b n n' : Nat} {T : Int → Option Hd} (h : Sc w b n T) (hn : n ≤ n') : Sc w b n' T := by
  obtain ⟨D, h1, h2⟩ := h
  exact ⟨D, h1.mono hn, h2⟩
theorem Sc.lt {w : World} {b n : Nat} {T : Int → Option Hd} (h : Sc w b n T) : b < w.heap.size := by
  obtain ⟨D, h1, h2⟩ := h
  exact h1.lt
theorem Sc.kept {w w' : World} {b n : Nat} {T : Int → Option Hd} {row : Option Nat} (h : Sc w b n T) (hg : w.grownBy w' row) (hne : some b ≠ row) : Sc w' b n T := by
  obtain ⟨D, h1, h2⟩ := h
  exact ⟨D, h1.kept hg hne, h2⟩
theorem Sc.keep {w w' : World} {b n : Nat} {T : Int → Option Hd} (h : Sc w b n T) (hb : Below w.heap.size w w') : Sc w' b n T :=
  h.kept (row := none) ⟨hb.os, hb.tape, hb.output, hb.size, fun i hi _ => hb.block i hi⟩ (by simp)
/-- 'm[k]' -/
theorem Sc.look {w : World} {b n : Nat} {T : Int → Option Hd} (h : Sc w b n T) (p : Int) (hp : InI p) : (Instr.lookup 70 (.map (some b)) (.int .i64 p) false).run Try.prog w = .ok (hv ((T p).getD noH)) w := by
  obtain ⟨D, h1, h2⟩ := h
  obtain ⟨v, ps, hrun, hv⟩ := h1.lookup lawI Try.underlying70 (zeroHd w) (hR_hv noH) (keyI p hp)
  obtain ⟨x, rfl, hx⟩ := hR_inv hv
  simp only [Prod.mk.injEq] at hx
  rw [h2.at p] at hx
  rw [hD_inj hx.1]
  exact hrun
section
variable {ops : Array Oper} {rest : List Oper} {o : Oper} {a : Act} {Q : Exit → Act → World → Prop}
/-- 'm[k] = v' -/
theorem wpList_put_sc {w : World} (hg : o.guard = none) (m x v : Operand) (hop : o.op = Op.mapUpdate 70 m x v) (b n : Nat) (T : Int → Option Hd) (hm : a.eval m = .map (some b)) (hs : Sc w b n T) (hn : n < 4611686018427387904) (p : Int) (hp : InI p) (y : Hd) (hx : a.eval x = .int .i64 p) (hv : a.eval v = hv y)
    (hK : ∀ w', Sc w' b (n + 1) (fun q => if q = p then some y else T q) → w.grownBy w' (some b) → wpList Try.prog ops Q rest (a.put o.dst undef) w') : wpList Try.prog ops Q (o :: rest) a w := by
  obtain ⟨D, h1, h2⟩ := hs
  refine wpList_mapUpdate_own w hg m x v 70 hop 3 66 lawI Try.underlying70 hR b n D hm h1 (by unfold maxLen; omega) _ _ _ hx hv (keyI p hp) _ [] (hR_hv y) ?_
  intro w' ho hgr
  exact hK w' ⟨_, ho, h2.put h1.isMap p y⟩ hgr
/-- 'delete(m, k)' -/
theorem wpList_del_sc {w : World} (hg : o.guard = none) (m x : Operand) (hop : o.op = Op.call { callee := Callee.builtin Builtin.delete, args := #[m, x], argTypes := #[70, 3] }) (b n : Nat) (T : Int → Option Hd) (hm : a.eval m = .map (some b)) (hs : Sc w b n T) (p : Int) (hp : InI p) (hx : a.eval x = .int .i64 p)
    (hK : ∀ w', Sc w' b n (fun q => if q = p then none else T q) → w.grownBy w' (some b) → wpList Try.prog ops Q rest (a.put o.dst (.tuple #[])) w') : wpList Try.prog ops Q (o :: rest) a w := by
  obtain ⟨D, h1, h2⟩ := hs
  refine wpList_delete_own w hg m x 70 3 hop 66 lawI Try.underlying70 hR b n D hm h1 _ _ hx (keyI p hp) ?_
  intro w' ho ht
  exact hK w' ⟨_, ho, h2.del p⟩ ht.grown
end
/-- block r ranges over the map in block b; 'left' is still to come -/
def Rg (w : World) (b r n : Nat) (T : Int → Option Hd) (left : Int → Bool) (cnt : Nat) : Prop := ∃ D leftD, w.ranges Try.prog 3 hR b r n D leftD cnt ∧ Rep D T ∧ ∀ p, leftD (.int .i64 p) = left p
theorem Rg.sc {w : World} {b r n cnt : Nat} {T : Int → Option Hd} {left : Int → Bool} (h : Rg w b r n T left cnt) : Sc w b n T := by
  obtain ⟨D, l, h1, h2, _⟩ := h
  exact ⟨D, h1.owns, h2⟩
theorem Rg.ne {w : World} {b r n cnt : Nat} {T : Int → Option Hd} {left : Int → Bool} (h : Rg w b r n T left cnt) : r ≠ b := by
  obtain ⟨D, l, h1, h2, _⟩ := h
  exact h1.ne
theorem Rg.lt {w : World} {b r n cnt : Nat} {T : Int → Option Hd} {left : Int → Bool} (h : Rg w b r n T left cnt) : r < w.heap.size := by
  obtain ⟨D, l, h1, h2, _⟩ := h
  exact h1.lt
theorem Rg.left_eq {w : World} {b r n cnt : Nat} {T : Int → Option Hd} {left : Int → Bool} (h : Rg w b r n T left cnt) : w.rangeLeft b r = cnt := by
  obtain ⟨D, l, h1, h2, _⟩ := h
  exact h1.left_eq
theorem Rg.kept {w w' : World} {b r n cnt : Nat} {T : Int → Option Hd} {left : Int → Bool} {row : Option Nat} (h : Rg w b r n T left cnt) (hg : w.grownBy w' row) (hb : some b ≠ row) (hr : some r ≠ row) : Rg w' b r n T left cnt := by
  obtain ⟨D, l, h1, h2, h3⟩ := h
  exact ⟨D, l, h1.kept hg hb hr, h2, h3⟩
theorem Rg.keep {w w' : World} {b r n cnt : Nat} {T : Int → Option Hd} {left : Int → Bool} (h : Rg w b r n T left cnt) (hb : Below w.heap.size w w') : Rg w' b r n T left cnt :=
  h.kept (row := none) ⟨hb.os, hb.tape, hb.output, hb.size, fun i hi _ => hb.block i hi⟩ (by simp) (by simp)
theorem strike_int (p q : Int) : (Lit.int .i64 q).sameKey (.int .i64 p) = decide (q = p) := by
  exact Bool.eq_iff_iff.2 (by simp [Lit.sameKey])
section
variable {ops : Array Oper} {rest : List Oper} {o : Oper} {a : Act} {Q : Exit → Act → World → Prop}
/-- 'range m' -/
theorem wpList_range_sc {w : World} (hg : o.guard = none) (m : Operand) (hop : o.op = Op.range 70 m) (b n : Nat) (T : Int → Option Hd) (hm : a.eval m = .map (some b)) (hs : Sc w b n T)
    (hK : ∀ w' cnt, Rg w' b w.heap.size n T (fun p => (T p).isSome) cnt → w.grownBy w' none → w'.heap.size = w.heap.size + 1 → wpList Try.prog ops Q rest (a.put o.dst (.pointer (some ⟨w.heap.size, 0, none⟩))) w') : wpList Try.prog ops Q (o :: rest) a w := by
  obtain ⟨D, h1, h2⟩ := hs
  refine wpList_range_own w hg m 70 hop 3 66 lawI Try.underlying70 hR b n D hm h1 ?_
  intro w' hr hgr hsz
  exact hK w' _ ⟨D, _, hr, h2, fun p => (h2 p).1⟩ hgr hsz
/-- the step -/
theorem wpList_next_sc {w : World} (hg : o.guard = none) (it : Operand) (hop : o.op = Op.next it false) (b r n : Nat) (T : Int → Option Hd) (left : Int → Bool) (cnt : Nat) (hit : a.eval it = .pointer (some ⟨r, 0, none⟩)) (h : Rg w b r n T left cnt)
    (hDone : cnt = 0 → (∀ q, left q = false) → wpList Try.prog ops Q rest (a.put o.dst (.tuple #[.bool false])) w)
    (hMore : ∀ (p : Int) (x : Hd) (w' : World) (cnt' : Nat), InI p → left p = true → T p = some x → Rg w' b r n T (fun q => left q && !decide (q = p)) cnt' → cnt' < cnt → w.grownBy w' (some r) → w'.heap.size = w.heap.size →
      (Instr.entry (.pointer (some ⟨r, 0, none⟩))).run Try.prog w' = .ok (.tuple #[.int .i64 p, hv x]) w' → wpList Try.prog ops Q rest (a.put o.dst (.tuple #[.bool true, .int .i64 p, hv x])) w') :
    wpList Try.prog ops Q (o :: rest) a w := by
  obtain ⟨D, l, h1, h2, h3⟩ := h
  refine wpList_next_ranges w hg it hop 3 lawI hR (fun p : Int => Value.int .i64 p) hv (fun key kl hk => ?_) (fun v y hy => ?_) b r n D l cnt hit h1 ?_ ?_
  · obtain ⟨p, e, _⟩ := keyI_inv hk
    exact ⟨p, e⟩
  · obtain ⟨x, e, _⟩ := hR_inv hy
    exact ⟨x, e⟩
  · intro h0 hl
    exact hDone h0 (fun q => by rw [← h3]; exact hl _)
  · intro p x kl y w' cnt' hkey hlk hvx hat hrg hlt hgr hsz hen
    obtain ⟨p', e1, rfl, hsz9⟩ := keyI_inv hkey
    have hpp : p' = p := (Value.int.inj e1).2.symm
    subst hpp
    obtain ⟨x', e2, rfl⟩ := hR_inv hvx
    have hT : T p' = some x := by
      have hs := (h2 p').1
      have hh : Maps.has D (.int .i64 p') = true := has_true_of_atKey (y := hD x') (fun z => hat z)
      rw [hh] at hs
      obtain ⟨x2, hx2⟩ := Option.isSome_iff_exists.1 hs.symm
      have := (h2 p').2 x2 hx2 (hD noH)
      rw [hat] at this
      have e3 := hD_inj this
      have e4 : x = x' := by
        have := hR_hv x
        rw [hvx] at this
        simp only [Option.some.injEq, Prod.mk.injEq, and_true] at this
        exact (hD_inj this).symm
      rw [hx2, ← e3, e4]
    refine hMore p' x w' cnt' hsz9 (by rw [← h3]; exact hlk) hT ⟨D, _, hrg, h2, fun q => ?_⟩ hlt hgr hsz hen
    rw [h3, strike_int]
/-- 'delete(m, k)' in the round -/
theorem wpList_del_rg {w : World} (hg : o.guard = none) (m x : Operand) (hop : o.op = Op.call { callee := Callee.builtin Builtin.delete, args := #[m, x], argTypes := #[70, 3] }) (b r n : Nat) (T : Int → Option Hd) (left : Int → Bool) (cnt : Nat) (hm : a.eval m = .map (some b)) (h : Rg w b r n T left cnt) (p : Int) (hp : InI p) (hx : a.eval x = .int .i64 p)
    (hK : ∀ w' cnt', Rg w' b r n (fun q => if q = p then none else T q) (fun q => left q && !decide (q = p)) cnt' → cnt' ≤ cnt → w.grownBy w' (some b) → wpList Try.prog ops Q rest (a.put o.dst (.tuple #[])) w') : wpList Try.prog ops Q (o :: rest) a w := by
  obtain ⟨D, l, h1, h2, h3⟩ := h
  have hkey : keyOf Try.prog 3 (.int .i64 p) = some (.int .i64 p) := keyI p hp
  refine wpList_delete_ranges w hg m x 70 3 hop 66 lawI Try.underlying70 hR b r n D l cnt hm h1 _ _ hx hkey ?_
  intro w' cnt' hr hle ht
  refine hK w' cnt' ⟨_, _, hr, h2.del p, fun q => ?_⟩ hle ht.grown
  rw [h3, strike_int]
end
end Go.Proofs.Ytibgfjnddhfgpaa
