/- Pairs of deeds; the copies' layers under change (gen_pu.py). -/
import Derived.Test.YtmokonaodoiflaaPuE
namespace Go.Proofs.Ytmokonaodoiflaa
open Go.ChangeShapes Go.WideShapes Go.ChangeAt Go.RowKit Go.Deep Go.Maps
set_option linter.unusedVariables false
set_option linter.unusedSimpArgs false
theorem tkD_pairs (r s : Int) (D : List Int) (k x : Int) (P P' : Option Addr × Nat × Nat) : (tkD r s D k x P).length = (tkD r s D k x P').length ∧ (tkD r s D k x P).length ≤ 3 ∧ ∀ (i : Nat) d e, (tkD r s D k x P)[i]? = some d → (tkD r s D k x P')[i]? = some e → (d = e ∧ d.pn = 0 ∧ d.m.pn = 0) ∨ (d = dSt x P ∧ e = dSt x P' ∧ k = 1 ∧ ¬ x ∈ D ∧ s = 0) := by
  have key : ∀ (l : List Dd), (∀ y ∈ l, y.pn = 0 ∧ y.m.pn = 0) → ∀ (i : Nat) d e, l[i]? = some d → l[i]? = some e → (d = e ∧ d.pn = 0 ∧ d.m.pn = 0) ∨ (d = dSt x P ∧ e = dSt x P' ∧ k = 1 ∧ ¬ x ∈ D ∧ s = 0) := fun l hl i d e h1 h2 => by
    rw [h1] at h2
    cases h2
    exact .inl ⟨rfl, hl d (List.mem_of_getElem? h1)⟩
  have bSn : ∀ q b, (dSn q r x b).pn = 0 ∧ (dSn q r x b).m.pn = 0 := fun q b => ⟨rfl, rfl⟩
  have bSe : ∀ q, (dSe q).pn = 0 ∧ (dSe q).m.pn = 0 := fun q => by unfold dSe; split <;> exact ⟨rfl, rfl⟩
  have bP : ∀ q, (dP q x noM).pn = 0 ∧ (dP q x noM).m.pn = 0 := fun q => ⟨rfl, rfl⟩
  unfold tkD
  by_cases k1 : k = 1
  · simp only [if_pos k1]
    by_cases hx : x ∈ D
    · simp only [if_pos hx]
      exact ⟨(by first | rfl | trivial), by simp, fun i d e h => by simp at h⟩
    · simp only [if_neg hx]
      by_cases h0 : s = 0
      · simp only [if_pos h0]
        by_cases hl : lastP D = 0
        · have e1 : ∀ Q, some9 [dSe (lastP D), dSt x Q] = [dSt x Q] := fun Q => by rw [hl]; rfl
          rw [e1, e1]
          refine ⟨(by first | rfl | trivial), by simp, fun i d e h1 h2 => ?_⟩
          match i with
          | 0 => simp at h1 h2; exact .inr ⟨h1.symm, h2.symm, k1, hx, h0⟩
          | 1 => simp at h1 h2; subst h1 h2; exact .inl ⟨rfl, rfl, rfl⟩
          | i + 2 => simp at h1
        · have e1 : ∀ Q, some9 [dSe (lastP D), dSt x Q] = [dP 1 (lastP D) noM, dSt x Q] := fun Q => by
            rw [show dSe (lastP D) = dP 1 (lastP D) noM from if_neg hl]
            rfl
          rw [e1, e1]
          refine ⟨(by first | rfl | trivial), by simp, fun i d e h1 h2 => ?_⟩
          match i with
          | 0 => simp at h1 h2; subst h1 h2; exact .inl ⟨rfl, rfl, rfl⟩
          | 1 => simp at h1 h2; exact .inr ⟨h1.symm, h2.symm, k1, hx, h0⟩
          | 2 => simp at h1 h2; subst h1 h2; exact .inl ⟨rfl, rfl, rfl⟩
          | i + 3 => simp at h1
      · simp only [if_neg h0]
        split
        · exact ⟨(by first | rfl | trivial), by simp, key _ (by intro y hy; simp at hy; subst hy; exact bSn 2 true)⟩
        · exact ⟨(by first | rfl | trivial), by simp, key _ (by intro y hy; simp at hy; subst hy; exact bSn 2 false)⟩
  · simp only [if_neg k1]
    by_cases k3 : k = 3
    · simp only [if_pos k3]
      split
      · refine ⟨(by first | rfl | trivial), ?_, key _ (fun y hy => ?_)⟩
        · have := List.length_filter_le (fun y : Dd => decide (y.k ≠ 0)) [dP 3 x noM, dSe x]
          simp only [List.length_append, some9, List.length_cons, List.length_nil] at this ⊢
          omega
        · rw [List.mem_append] at hy
          rcases hy with hy | hy
          · have := (List.mem_filter.1 hy).1
            simp at this
            rcases this with rfl | rfl
            · exact bP 3
            · exact bSe x
          · simp at hy; subst hy; exact bSn 5 false
      · split
        · split
          · refine ⟨(by first | rfl | trivial), ?_, key _ (fun y hy => ?_)⟩
            · have := List.length_filter_le (fun y : Dd => decide (y.k ≠ 0)) [dSe x]
              simp only [List.length_append, some9, List.length_cons, List.length_nil] at this ⊢
              omega
            · rw [List.mem_append] at hy
              rcases hy with hy | hy
              · have := (List.mem_filter.1 hy).1
                simp at this
                subst this
                exact bSe x
              · simp at hy; subst hy; exact bSn 5 false
          · exact ⟨(by first | rfl | trivial), by simp, key _ (by intro y hy; simp at hy; subst hy; exact bSn 5 false)⟩
        · exact ⟨(by first | rfl | trivial), by simp, fun i d e h => by simp at h⟩
    · simp only [if_neg k3]
      split
      · split
        · exact ⟨(by first | rfl | trivial), by simp, key _ (by intro y hy; simp at hy; subst hy; exact bP 4)⟩
        · exact ⟨(by first | rfl | trivial), by simp, fun i d e h => by simp at h⟩
      · exact ⟨(by first | rfl | trivial), by simp, fun i d e h => by simp at h⟩
/-- what few tells twice is alike -/
theorem few_alike {L M M' : List Pk} (h : FewR L M) (h' : FewR L M') (hl : M.length = M'.length) : Alike M M' := by
  refine ⟨hl, fun i x y hx hy => ?_⟩
  obtain ⟨a, a1, a2, a3, a4, a5⟩ := h i x hx
  obtain ⟨b, b1, b2, b3, b4, b5⟩ := h' i y hy
  rw [a1] at b1
  cases b1
  exact ⟨a2.trans b2.symm, a3.trans b3.symm, a4.trans b4.symm, a5.trans b5.symm⟩
theorem cpd_alike {w : World} {z : Nat} {V : Value} {L M M' : List Pk} (h : Cpd w z V L M) (h' : Alike L M') : Alike M M' := by
  refine ⟨h.2.1.trans h'.1, fun i x y hx hy => ?_⟩
  obtain ⟨a, a1, a2, _⟩ := h.2.2 i x hx
  obtain ⟨q1, q2, q3, q4⟩ := h'.2 i a y a1 hy
  exact ⟨a2.1.trans q1, a2.2.1.trans q2, a2.2.2.1.trans q3, a2.2.2.2.trans q4⟩
theorem cpd_in {w : World} {z : Nat} {a : Option Addr} {n c : Nat} {L M : List Pk} (h : Cpd w z (.slice a n c) L M) : InPk w a M ∧ M.length = n := by
  obtain ⟨a', c', e, hi, _⟩ := h.1.slice (fun x hx => by
    obtain ⟨i, hi, e⟩ := List.mem_iff_getElem.1 hx
    obtain ⟨_, _, _, p, _⟩ := h.2.2 i x (by rw [List.getElem?_eq_getElem hi, e])
    exact p)
  injection e with e1 e2 e3
  subst e1
  exact ⟨hi, e2.symm⟩
/-- layers that may be changed, one by one -/
def Rw (w : World) (z : Nat) (y : Pk) : Prop := y.ln = 0 ∨ ∃ gr off, y.la = some ⟨gr, off, none⟩ ∧ z ≤ gr ∧ (∃ cs, w.heap[gr]? = some (.cells cs 46)) ∧ ∀ q, q < y.ln → ∃ v, w.cell? ⟨gr, off + q * 33 + 32, none⟩ = some (.int .i64 v)
/-- a deed's packages whose layers may be changed -/
def Pw (w : World) (z : Nat) (d : Dd) : Prop := d.pn = 0 ∨ ∃ (g off : Nat) (M : List Pk), d.pa = some ⟨g, off, none⟩ ∧ (∃ cs, w.heap[g]? = some (.cells cs 42)) ∧ M.length = d.pn ∧ ∀ (j : Nat) y, M[j]? = some y → w.cell? ⟨g, off + j * 4 + 1 + 2, none⟩ = some (.slice y.la y.ln y.lc) ∧ Rw w z y ∧ y.ln ≤ 4611686018427387904
theorem cell_set_int {w : World} {gr o g o2 : Nat} {v : Int} (h : ∃ u, w.cell? ⟨g, o2, none⟩ = some (.int .i64 u)) : ∃ u, (w.setCell ⟨gr, o, none⟩ (.int .i64 v)).cell? ⟨g, o2, none⟩ = some (.int .i64 u) := by
  obtain ⟨u, hu⟩ := h
  by_cases e : (⟨g, o2, none⟩ : Addr) = ⟨gr, o, none⟩
  · rw [e] at hu ⊢
    exact ⟨v, World.cell?_setCell_same w _ _ hu⟩
  · exact ⟨u, (World.cell?_setCell_other w ⟨gr, o, none⟩ ⟨g, o2, none⟩ _ (by first | exact e | exact fun h => e h.symm)).trans hu⟩
theorem Rw.bump {w : World} {z gr o : Nat} {v : Int} {y : Pk} (h : Rw w z y) : Rw (w.setCell ⟨gr, o, none⟩ (.int .i64 v)) z y := by
  rcases h with h | ⟨g, off, h1, h2, ⟨cs, h3⟩, h4⟩
  · exact .inl h
  · refine .inr ⟨g, off, h1, h2, ?_, fun q hq => cell_set_int (h4 q hq)⟩
    by_cases e : g = gr
    · subst e
      exact ⟨_, setCell_blk _ h3⟩
    · exact ⟨cs, (set_off w gr o g _ e).trans h3⟩
theorem Pw.bump {w : World} {z gr o : Nat} {v : Int} {d : Dd} (h : Pw w z d) (hr : ∃ cs, w.heap[gr]? = some (.cells cs 46)) : Pw (w.setCell ⟨gr, o, none⟩ (.int .i64 v)) z d := by
  obtain ⟨cr, hr⟩ := hr
  rcases h with h | ⟨g, off, M, h1, ⟨cs, h2⟩, h3, h4⟩
  · exact .inl h
  · have e : g ≠ gr := fun e => by
      rw [e, hr] at h2
      cases h2
    refine .inr ⟨g, off, M, h1, ⟨cs, (set_off w gr o g _ e).trans h2⟩, h3, fun j y hy => ?_⟩
    obtain ⟨k1, k2, k3⟩ := h4 j y hy
    exact ⟨(World.cell?_of_block (a := ⟨g, off + j * 4 + 1 + 2, none⟩) (set_off w gr o g _ e)).trans k1, k2.bump, k3⟩
theorem Pw.keep {w w' : World} {z : Nat} {d : Dd} (h : Pw w z d) (hb : Below w.heap.size w w') : Pw w' z d := by
  rcases h with h | ⟨g, off, M, h1, ⟨cs, h2⟩, h3, h4⟩
  · exact .inl h
  · refine .inr ⟨g, off, M, h1, ⟨cs, (hb.block g (lt_of_heapK h2)).trans h2⟩, h3, fun j y hy => ?_⟩
    obtain ⟨k1, k2, k3⟩ := h4 j y hy
    refine ⟨(World.cell?_of_block (a := ⟨g, off + j * 4 + 1 + 2, none⟩) (hb.block g (lt_of_heapK h2))).trans k1, ?_, k3⟩
    rcases k2 with k2 | ⟨gr, o, q1, q2, ⟨cr, q3⟩, q4⟩
    · exact .inl k2
    · refine .inr ⟨gr, o, q1, q2, ⟨cr, (hb.block gr (lt_of_heapK q3)).trans q3⟩, fun q hq => ?_⟩
      obtain ⟨v, hv⟩ := q4 q hq
      exact ⟨v, (World.cell?_of_block (a := ⟨gr, o + q * 33 + 32, none⟩) (hb.block gr (lt_of_heapK q3))).trans hv⟩
theorem OwnD.bump {w : World} {z gr o : Nat} {v : Value} {V : Value} {l : List Dd} (h : OwnD w z V l) (hr : ∃ cs, w.heap[gr]? = some (.cells cs 46)) : OwnD (w.setCell ⟨gr, o, none⟩ v) z V l := h.kept fun k hk => set_off w gr o k _ (fun e => by
  obtain ⟨cs, hc⟩ := h.blk hk
  obtain ⟨cr, hr⟩ := hr
  rw [e, hr] at hc
  cases hc)
theorem cpd_pw {w : World} {z : Nat} {d : Dd} {L M : List Pk} (h : Cpd w z (.slice d.pa d.pn d.pc) L M) : Pw w z d := by
  obtain ⟨hi, hn⟩ := cpd_in h
  by_cases h0 : d.pn = 0
  · exact .inl h0
  · rcases hi with e | ⟨g, off, e, hg, hc⟩
    · rw [e] at hn; simp at hn; omega
    · refine .inr ⟨g, off, M, e, ?_, hn, fun j y hy => ?_⟩
      · rcases h.1.2 with ⟨e1, hl⟩ | ⟨g', cap, cur, e1, _, hg', _⟩
        · omega
        · injection e1 with e2
          rw [e] at e2
          injection e2 with e3
          injection e3 with e4
          subst e4
          exact ⟨cur, hg'⟩
      · obtain ⟨k1, k2⟩ := hc j y hy
        refine ⟨(pkc_sub k1).2.2.2, ?_, k2.big⟩
        by_cases hl : y.ln = 0
        · exact .inl hl
        · obtain ⟨_, _, _, _, _, hf⟩ := h.2.2 j y hy
          have hl2 := k2.len
          rcases k2.inr with e5 | ⟨gr, o, e5, hgr, hcr⟩
          · rw [e5] at hl2; simp at hl2; omega
          · obtain ⟨f1, f2⟩ := hf _ e5
            refine .inr ⟨gr, o, e5, f1, f2, fun q hq => ?_⟩
            obtain ⟨x, hx⟩ : ∃ x, y.l[q]? = some x := ⟨y.l[q]'(by omega), by rw [List.getElem?_eq_getElem (by omega)]⟩
            exact ⟨x.2, rcl_size (k2.dg x (List.mem_of_getElem? hx)).1 (hcr q x hx)⟩
end Go.Proofs.Ytmokonaodoiflaa
