/- append of entries to a slice of one's own (as LayU, without the document's). -/
import Derived.Test.YtbefmcagpmgkiaaDoorOvH
namespace Go.Proofs.YtbefmcagpmgkiaaDoor
open Go.ChangeShapes Go.WideShapes Go.ChangeAt Go.RowKit Go.Deep
set_option linter.unusedVariables false
theorem InE.cells {w : World} {ad : Addr} {l : List En} (h : InE w (some ad) l) : ∀ j u, (ecs l)[j]? = some u → w.cell? (ad.add j) = some u := by
  intro j u hu
  have hj : j < l.length * 4 := by
    have := (List.getElem?_eq_some_iff.1 hu).1
    rwa [ecs_len] at this
  obtain ⟨x, hx⟩ : ∃ x, l[j / 4]? = some x := ⟨_, List.getElem?_eq_getElem (by omega)⟩
  obtain ⟨b, off, e, _, h0, h1, h2, h3⟩ := h.at hx
  cases e
  have e2 := ecs_at l (j / 4) x hx (j % 4) (by omega)
  rw [show j / 4 * 4 + j % 4 = j by omega, hu] at e2
  rw [add_plain]
  rcases (by omega : j % 4 = 0 ∨ j % 4 = 1 ∨ j % 4 = 2 ∨ j % 4 = 3) with hm | hm | hm | hm
  · rw [hm] at e2; simp [ecl] at e2; rw [show off + j = off + j / 4 * 4 by omega, e2]; exact h0
  · rw [hm] at e2; simp [ecl] at e2; rw [show off + j = off + j / 4 * 4 + 1 by omega, e2]; exact h1
  · rw [hm] at e2; simp [ecl] at e2; rw [show off + j = off + j / 4 * 4 + 2 by omega, e2]; exact h2
  · rw [hm] at e2; simp [ecl] at e2; rw [show off + j = off + j / 4 * 4 + 3 by omega, e2]; exact h3
theorem ecs_one (l : List En) : ∀ v ∈ ecs l, v.oneCell' = true := by
  intro v hv
  simp only [ecs, List.mem_flatMap] at hv
  obtain ⟨x, _, hv⟩ := hv
  simp [ecl] at hv
  rcases hv with rfl | rfl | rfl | rfl <;> rfl
theorem ownE_empty (w : World) (base : Nat) (hb : base ≤ w.heap.size) : OwnE (w.alloc (.cells #[] 34)) base (.slice (some ⟨w.heap.size, 0, none⟩) 0 0) [] :=
  World.ownsRow_made w #[] 0 hb (by simp) (by simp)
theorem append_entries {w : World} {ops : Array Oper} {rest : List Oper} {o : Oper} {act : Act} {Q : Exit → Act → World → Prop} (hgd : o.guard = none) (s x : Operand)
    (ho : o.op = .call { callee := .builtin .append, args := #[s, x], argTypes := #[26, 26] })
    (base : Nat) (v : Value) (l : List En) (hs : act.eval s = v) (hown : OwnE w base v l)
    (a : Option Addr) (n c : Nat) (m : List En) (hx : act.eval x = .slice a n c) (hm : m.length = n) (hin : InE w a m) (hc : a = none → c = 0)
    (hN : l.length + n ≤ 1000000000) (hbase : base ≤ w.heap.size)
    (h : ∀ v' w', OwnE w' base v' (l ++ m) → Below base w w' → wpList Tryd.prog ops Q rest (act.put o.dst v') w') :
    wpList Tryd.prog ops Q (o :: rest) act w := by
  obtain ⟨i, hi, hz, h1, h2⟩ := infoE
  subst hm
  cases a with
  | none =>
    have hc0 := hc rfl
    have hL : m = [] := by
      rcases hin with h | ⟨b, off, hb, _⟩
      · exact h
      · simp at hb
    subst hL
    subst hc0
    obtain ⟨a', c', rfl, _⟩ := hown.slice
    refine wpList_append_own_none hgd s x 26 ho base 34 i 4 Tryd.underlying26 hi _ _ _ hs hown hx ?_
    have := h _ w (by simpa using hown) (Below.refl _ _)
    simpa using this
  | some ad =>
    refine wpList_append_own w hgd s x 26 ho base 34 i _ 4 48 Tryd.underlying26 hi hz h1 h2 rfl (by decide) v l.length _ hs hown ad m.length c (ecs m) hx (ecs_len m) hin.cells (ecs_one m) (by simp only [maxLen]; omega) (by omega) hbase ?_
    intro v' w' hown' hg _
    refine h v' w' ?_ ((Below.refl base w).grown hg hbase (fun k hk => (hown.own k hk).1))
    unfold OwnE
    rw [List.length_append]
    have : ecs (l ++ m) = ecs l ++ ecs m := by simp [ecs]
    rw [this]
    exact hown'
end Go.Proofs.YtbefmcagpmgkiaaDoor
