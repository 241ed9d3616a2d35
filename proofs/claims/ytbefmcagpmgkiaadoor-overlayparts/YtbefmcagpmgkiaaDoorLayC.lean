/- layer.Size. -/
import Derived.Test.YtbefmcagpmgkiaaDoorLayB
namespace Go.Proofs.YtbefmcagpmgkiaaDoor
open Go.ChangeShapes Go.WideShapes Go.ChangeAt Go.RowKit Go.Deep
set_option linter.unusedVariables false
theorem sz_snoc (l : List En) (x : En) : sz (l ++ [x]) = sz l + (x.p.length + x.b.length) := by
  induction l with
  | nil => simp [sz]
  | cons y l ih => simp only [List.cons_append, sz, ih]; omega
theorem sz_take {l : List En} {j : Nat} {x : En} (h : l[j]? = some x) : sz (l.take (j + 1)) = sz (l.take j) + (x.p.length + x.b.length) := by
  obtain ⟨hj, e⟩ := List.getElem?_eq_some_iff.1 h
  rw [List.take_succ_eq_append_getElem hj, e, sz_snoc]
theorem sz_le {l : List En} (hf : Fit l) : ∀ j, j ≤ l.length → sz (l.take j) ≤ j * 281474976710656
  | 0, _ => by simp [sz]
  | j + 1, hj => by
    have h1 := sz_le hf j (by omega)
    obtain ⟨x, hx⟩ : ∃ x, l[j]? = some x := ⟨_, List.getElem?_eq_getElem (by omega)⟩
    rw [sz_take hx]
    have := hf x (List.mem_of_getElem? hx)
    omega
theorem InE.at {w : World} {a : Option Addr} {l : List En} (h : InE w a l) {j : Nat} {x : En} (hx : l[j]? = some x) : ∃ b off, a = some ⟨b, off, none⟩ ∧ b < w.heap.size ∧ Ec w b (off + j * 4) x := by
  rcases h with e | ⟨b, off, h1, h2, h3⟩
  · subst e; simp at hx
  · exact ⟨b, off, h1, h2, h3 j x hx⟩
theorem InE.below {w w' : World} {a : Option Addr} {l : List En} {B : Nat} (h : InE w a l) (hb : Below B w w') (hB : ∀ y, a = some y → l ≠ [] → y.block < B) : InE w' a l := by
  rcases h with e | ⟨b, off, h1, h2, h3⟩
  · exact .inl e
  · by_cases hl : l = []
    · exact .inl hl
    · have hlt := hB _ h1 hl
      exact .inr ⟨b, off, h1, Nat.lt_of_lt_of_le h2 hb.size, fun i x hx => (h3 i x hx).below hb hlt⟩
theorem InE.lt {w : World} {a : Option Addr} {l : List En} (h : InE w a l) : ∀ y, a = some y → l ≠ [] → y.block < w.heap.size := by
  intro y hy hl
  rcases h with e | ⟨b, off, h1, h2, h3⟩
  · exact absurd e hl
  · rw [h1] at hy
    cases hy
    exact h2
theorem InE.keep {w w' : World} {a : Option Addr} {l : List En} (h : InE w a l) (hb : Below w.heap.size w w') : InE w' a l := h.below hb h.lt
end Go.Proofs.YtbefmcagpmgkiaaDoor
