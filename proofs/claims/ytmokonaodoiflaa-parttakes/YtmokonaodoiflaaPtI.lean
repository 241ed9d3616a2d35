/- then at a new row; copies kept. -/
import Derived.Test.YtmokonaodoiflaaPtH
namespace Go.Proofs.Ytmokonaodoiflaa
open Go.ChangeShapes Go.WideShapes Go.ChangeAt Go.RowKit Go.Deep Go.Maps
set_option linter.unusedVariables false
set_option linter.unusedSimpArgs false
theorem OwnD.blk {w : World} {base k : Nat} {V : Value} {l : List Dd} (h : OwnD w base V l) (hk : V.ownBlock = some k) : ∃ cs, w.heap[k]? = some (.cells cs 37) := by
  rcases h.2 with ⟨rfl, _⟩ | ⟨g, cap, cur, rfl, hb, hg, _⟩
  · cases hk
  · cases hk; exact ⟨cur, hg⟩
theorem Cpd.step {w w' : World} {z : Nat} {V : Value} {L M : List Pk} {row : Option Nat} (h : Cpd w z V L M) (hg : w.grownBy w' row) (hr : ∀ k, row = some k → ∃ cs, w.heap[k]? = some (.cells cs 37)) : Cpd w' z V L M := by
  have key : ∀ (k : Nat) (cs : Array Value) (t : TypeId), w.heap[k]? = some (.cells cs t) → t ≠ 37 → w'.heap[k]? = w.heap[k]? := fun k cs t hk ht => hg.block k (lt_of_heapK hk) (fun e => by
    obtain ⟨cs', h'⟩ := hr k e.symm
    rw [hk] at h'
    cases h'
    exact ht rfl)
  refine ⟨h.1.kept fun k hk => ?_, h.2.1, fun i y hy => ?_⟩
  · rcases h.1.2 with ⟨e, _⟩ | ⟨g, cap, cur, rfl, hb, hgc, _⟩
    · rw [e] at hk; cases hk
    · cases hk; exact key _ _ _ hgc (by decide)
  · obtain ⟨x, k1, k2, p1, k3, p2⟩ := h.2.2 i y hy
    refine ⟨x, k1, k2, ⟨p1.inr.kept hg.size (fun q hq _ => ?_), p1.len, p1.le, p1.big, p1.dg, p1.sn, p1.sv⟩, k3, fun q hq => ?_⟩
    · obtain ⟨_, cs, hc⟩ := p2 q hq; exact key _ _ _ hc (by decide)
    · obtain ⟨h1, cs, hc⟩ := p2 q hq; exact ⟨h1, cs, (key _ _ _ hc (by decide)).trans hc⟩
theorem Cpd.keep {w w' : World} {z : Nat} {V : Value} {L M : List Pk} (h : Cpd w z V L M) (hb : Below w.heap.size w w') : Cpd w' z V L M := h.step (row := none) ⟨hb.os, hb.tape, hb.output, hb.size, fun k hk _ => hb.block k hk⟩ (fun k e => by cases e)
theorem Cpd.base {w : World} {z z' : Nat} {V : Value} {L M : List Pk} (h : Cpd w z V L M) (hz : z' ≤ z) : Cpd w z' V L M := by
  refine ⟨⟨h.1.1, ?_⟩, h.2.1, fun i y hy => ?_⟩
  · rcases h.1.2 with e | ⟨g, cap, cur, e, hbg, rest⟩
    · exact .inl e
    · exact .inr ⟨g, cap, cur, e, Nat.le_trans hz hbg, rest⟩
  · obtain ⟨x, k1, k2, p1, k3, p2⟩ := h.2.2 i y hy
    exact ⟨x, k1, k2, p1, k3, fun q hq => ⟨Nat.le_trans hz (p2 q hq).1, (p2 q hq).2⟩⟩
theorem grown_alloc {W : World} {o : Obj} {w' : World} {row : Option Nat} (h : (W.alloc o).grownBy w' row) : W.grownBy w' row :=
  ⟨h.os, h.tape, h.output, by have := h.size; simp at this; omega, fun k hk hne => (h.block k (by simp; omega) hne).trans (Below.heap_alloc _ _ _ hk)⟩
theorem then1 (W : World) (z : Nat) (V : Value) (l : List Dd) (y : Dd) (ho : OwnD W z V l) (hz : z ≤ W.heap.size) (hl : l.length ≤ 1000) :
    Calls Try.prog 25 #[V, .slice (some ⟨W.heap.size, 0, none⟩) 1 1] (W.alloc (.cells (dC y) 37)) fun e w' => ∃ V', e = .returned V' ∧ OwnD w' z V' (l ++ some9 [y]) ∧ W.grownBy w' V.ownBlock := by
  refine (then_is (W.alloc (.cells (dC y) 37)) z V l (ho.keep (below1 _ _)) (by simp; omega) W.heap.size 1 1 [y] rfl (.inr ⟨W.heap.size, 0, rfl, by simp, fun i x hx => ?_⟩) (by simp) (fun e => by have := (ho.own _ e).2; omega) hl (by omega)).mono ?_
  · have hi : i = 0 := by have := (List.getElem?_eq_some_iff.1 hx).1; simpa using this
    subst hi
    simp at hx
    subst hx
    exact dc_cells (heap_alloc_new W _)
  · rintro e w' ⟨V', rfl, h1, h2, _⟩
    exact ⟨V', rfl, h1, grown_alloc h2⟩
theorem then2 (W : World) (z : Nat) (V : Value) (l : List Dd) (y1 y2 : Dd) (ho : OwnD W z V l) (hz : z ≤ W.heap.size) (hl : l.length ≤ 1000) :
    Calls Try.prog 25 #[V, .slice (some ⟨W.heap.size, 0, none⟩) 2 2] (W.alloc (.cells (dC y1 ++ dC y2) 37)) fun e w' => ∃ V', e = .returned V' ∧ OwnD w' z V' (l ++ some9 [y1, y2]) ∧ W.grownBy w' V.ownBlock := by
  refine (then_is (W.alloc (.cells (dC y1 ++ dC y2) 37)) z V l (ho.keep (below1 _ _)) (by simp; omega) W.heap.size 2 2 [y1, y2] rfl (.inr ⟨W.heap.size, 0, rfl, by simp, fun i x hx => ?_⟩) (by simp) (fun e => by have := (ho.own _ e).2; omega) hl (by omega)).mono ?_
  · have hi : i = 0 ∨ i = 1 := by have := (List.getElem?_eq_some_iff.1 hx).1; simp at this; omega
    have hg := heap_alloc_new W (.cells (dC y1 ++ dC y2) 37)
    rcases hi with rfl | rfl
    · simp at hx
      subst hx
      refine ⟨?_, ?_, ?_, ?_, ?_, ?_, ?_, ?_, ?_⟩ <;> (rw [cell_of_row _ W.heap.size _ _ _ (0, 0) hg]; rfl)
    · simp at hx
      subst hx
      refine ⟨?_, ?_, ?_, ?_, ?_, ?_, ?_, ?_, ?_⟩ <;> (rw [cell_of_row _ W.heap.size _ _ _ (0, 0) hg]; rfl)
  · rintro e w' ⟨V', rfl, h1, h2, _⟩
    exact ⟨V', rfl, h1, grown_alloc h2⟩
end Go.Proofs.Ytmokonaodoiflaa
