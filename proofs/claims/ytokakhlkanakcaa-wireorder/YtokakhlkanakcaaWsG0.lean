/- Copies of packages: Few; what the walks of few need. -/
import Derived.Test.YtokakhlkanakcaaWsF
import Derived.Test.YtokakhlkanakcaaMaW
namespace Go.Proofs.Ytokakhlkanakcaa
open Go.ChangeShapes Go.WideShapes Go.ChangeAt Go.RowKit Go.Deep Go.Maps
set_option linter.unusedVariables false
set_option linter.unusedSimpArgs false
def FewR (L M : List Pk) : Prop := ∀ (i : Nat) (y : Pk), M[i]? = some y → ∃ x, L[i]? = some x ∧ y.o = x.o ∧ y.n = x.n ∧ y.v = x.v ∧ y.l = x.l.take 20
def Few (w : World) (z : Nat) (V : Value) (L M : List Pk) : Prop := OwnPk w z V M ∧ FewR L M ∧ ∀ x ∈ M, PkOk w x ∧ (∀ q, x.la = some q → z ≤ q.block ∧ (∃ cs, w.heap[q.block]? = some (.cells cs 81))) ∧ (x.la = none → x.ln = 0 ∧ x.lc = 0)
theorem OwnPk.ref {w : World} {z k : Nat} {V : Value} {M : List Pk} {cs : Array Value} (h : OwnPk w z V M) (hk : V.ownBlock = some k) (hc : w.heap[k]? = some (.cells cs 81)) : False := by
  rcases h.2 with ⟨rfl, _⟩ | ⟨g, cap, cur, rfl, hb, hg, _⟩
  · cases hk
  · cases hk
    rw [hg] at hc
    cases hc
theorem OwnR.at {w : World} {base n c : Nat} {a : Option Addr} {l : List Rf} (h : OwnR w base (.slice a n c) l) : ∀ q, a = some q → base ≤ q.block ∧ q.block < w.heap.size ∧ ∃ cs, w.heap[q.block]? = some (.cells cs 81) := by
  intro q hq
  rcases h.2 with ⟨e, _⟩ | ⟨g, cap, cur, e, hb, hg, _⟩
  · cases e; cases hq
  · cases e; cases hq
    exact ⟨hb, lt_of_heapK hg, cur, hg⟩
theorem InR.kept {w w' : World} {a : Option Addr} {l : List Rf} (h : InR w a l) (hs : w.heap.size ≤ w'.heap.size) (hb : ∀ q, a = some q → l ≠ [] → w'.heap[q.block]? = w.heap[q.block]?) : InR w' a l := by
  rcases h with h | ⟨b, off, rfl, h1, h2⟩
  · exact .inl h
  · by_cases hl : l = []
    · exact .inl hl
    · exact .inr ⟨b, off, rfl, Nat.lt_of_lt_of_le h1 hs, fun i x hx k v hv => (World.cell?_of_block (a := ⟨b, off + i * 33 + k, none⟩) (hb ⟨b, off, none⟩ rfl hl)).trans (h2 i x hx k v hv)⟩
theorem few_more {wr U7 u8 : World} {z j : Nat} {V v8 : Value} {L M : List Pk} {x' Y : Pk} (h : Few wr z V L M) (hM : M.length = j) (hx : L[j]? = some x') (hY : Y.o = x'.o ∧ Y.n = x'.n ∧ Y.v = x'.v ∧ Y.l = x'.l.take 20) (hok : PkOk U7 Y)
    (hla : ∀ q, Y.la = some q → z ≤ q.block ∧ wr.heap.size ≤ q.block ∧ ∃ cs, U7.heap[q.block]? = some (.cells cs 81)) (hnil : Y.la = none → Y.ln = 0 ∧ Y.lc = 0) (hsz : wr.heap.size ≤ U7.heap.size) (hb : ∀ k, k < wr.heap.size → U7.heap[k]? = wr.heap[k]?) (ho : OwnPk u8 z v8 (M ++ [Y])) (hg : U7.grownBy u8 V.ownBlock) : Few u8 z v8 L (M ++ [Y]) := by
  have hs8 := hg.size
  refine ⟨ho, fun i y hy => ?_, fun x hx' => ?_⟩
  · rw [List.getElem?_append] at hy
    split at hy
    · exact h.2.1 i y hy
    · have hi : i - M.length = 0 := by have := (List.getElem?_eq_some_iff.1 hy).1; simpa using this
      rw [hi] at hy
      simp only [List.getElem?_cons_zero, Option.some.injEq] at hy
      subst hy
      have : i = j := by omega
      subst this
      exact ⟨x', hx, hY⟩
  · rcases List.mem_append.1 hx' with hm | hm
    · obtain ⟨p1, p2, p3⟩ := h.2.2 x hm
      have key : ∀ q, x.la = some q → u8.heap[q.block]? = wr.heap[q.block]? := fun q hq => by
        obtain ⟨_, cs, hc⟩ := p2 q hq
        have hlt := lt_of_heapK hc
        rw [hg.block q.block (by omega) (fun e => h.1.ref e.symm hc)]
        exact hb _ hlt
      refine ⟨⟨p1.inr.kept (by omega) (fun q hq _ => key q hq), p1.len, p1.le, p1.big, p1.dg, p1.sn, p1.sv⟩, (fun q hq => ⟨(p2 q hq).1, (by
        obtain ⟨_, cs, hc⟩ := p2 q hq
        exact ⟨cs, (key q hq).trans hc⟩)⟩), p3⟩
    · obtain rfl := List.mem_singleton.1 hm
      have key : ∀ q, x.la = some q → u8.heap[q.block]? = U7.heap[q.block]? := fun q hq => by
        obtain ⟨_, h2, cs, hc⟩ := hla q hq
        exact hg.block _ (lt_of_heapK hc) (fun e => by have := (h.1.own _ e.symm).2; omega)
      refine ⟨⟨hok.inr.kept hs8 (fun q hq _ => key q hq), hok.len, hok.le, hok.big, hok.dg, hok.sn, hok.sv⟩, (fun q hq => ⟨(hla q hq).1, (by
        obtain ⟨_, _, cs, hc⟩ := hla q hq
        exact ⟨cs, (key q hq).trans hc⟩)⟩), hnil⟩
theorem few_end {w w' : World} {z z' : Nat} {V : Value} {L M : List Pk} (h : Few w z V L M) (hz : z' ≤ z) (hs : w.heap.size ≤ w'.heap.size) (hb : ∀ k, z ≤ k → w'.heap[k]? = w.heap[k]?) : Few w' z' V L M := by
  have h1 : OwnPk w' z V M := h.1.kept fun k hk => hb k (h.1.own k hk).1
  refine ⟨⟨h1.1, ?_⟩, h.2.1, fun x hx => ?_⟩
  · rcases h1.2 with e | ⟨g, cap, cur, rfl, hbg, rest⟩
    · exact .inl e
    · exact .inr ⟨g, cap, cur, rfl, Nat.le_trans hz hbg, rest⟩
  · obtain ⟨p1, p2, p3⟩ := h.2.2 x hx
    refine ⟨⟨p1.inr.kept hs (fun q hq _ => hb _ (p2 q hq).1), p1.len, p1.le, p1.big, p1.dg, p1.sn, p1.sv⟩, (fun q hq => ⟨Nat.le_trans hz (p2 q hq).1, (by
      obtain ⟨h2, cs, hc⟩ := p2 q hq
      exact ⟨cs, (hb _ h2).trans hc⟩)⟩), p3⟩
theorem appR {w : World} {ops : Array Oper} {rest : List Oper} {o : Oper} {act : Act} {Q : Exit → Act → World → Prop} (hgd : o.guard = none) (s x : Operand)
    (ho : o.op = .call { callee := .builtin .append, args := #[s, x], argTypes := #[69, 69] })
    (base : Nat) (v : Value) (hs : act.eval s = v) (hown : OwnR w base v [])
    (a : Option Addr) (n c : Nat) (m : List Rf) (hx : act.eval x = .slice a n c) (hm : m.length = n) (hin : InR w a m) (ha : a = none → n = 0 ∧ c = 0) (hd : Dgs m)
    (hN : n ≤ 3518437208883) (hbase : base ≤ w.heap.size)
    (h : ∀ v' w', OwnR w' base v' m → w.grownBy w' v.ownBlock → wpList Try.prog ops Q rest (act.put o.dst v') w') :
    wpList Try.prog ops Q (o :: rest) act w := by
  cases a with
  | none =>
    obtain ⟨rfl, rfl⟩ := ha rfl
    obtain rfl : m = [] := List.length_eq_zero_iff.1 hm
    obtain ⟨i, hi, hz, h1, h2⟩ := infoR
    refine wpList_append_own_none hgd s x 69 ho base 81 i 33 Try.underlying69 hi _ _ _ hs hown hx ?_
    exact h _ _ hown ⟨rfl, rfl, rfl, Nat.le_refl _, fun _ _ _ => rfl⟩
  | some x' => exact append_refs hgd s x ho base v [] hs hown x' n c m hx hm hin hd (by simpa using hN) hbase h
theorem frozen_blk {w : World} {g : Nat} {cs : Array Value} {t : TypeId} (h : w.heap[g]? = some (.cells cs t)) (i : Nat) : w.frozen? ⟨g, i, none⟩ = false := by simp [World.frozen?, h]
theorem setCell_blk {w : World} {g i : Nat} {cs : Array Value} {t : TypeId} {fr : Nat × Nat} (v : Value) (h : w.heap[g]? = some (.cells cs t fr)) : (w.setCell ⟨g, i, none⟩ v).heap[g]? = some (.cells (cs.setIfInBounds i v) t fr) := by
  have hlt := (Array.getElem?_eq_some_iff.1 h).1
  have hv := (Array.getElem?_eq_some_iff.1 h).2
  unfold World.setCell
  rw [Array.getElem?_eq_getElem (by simpa using hlt), Array.getElem_modify]
  simp [hv]
end Go.Proofs.Ytokakhlkanakcaa
