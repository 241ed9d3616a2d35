/- The document's Take (gen_pu.py). -/
import Derived.Test.YtmokonaodoiflaaPuB
namespace Go.Proofs.Ytmokonaodoiflaa
open Go.ChangeShapes Go.WideShapes Go.ChangeAt Go.RowKit Go.Deep Go.Maps
set_option linter.unusedVariables false
set_option linter.unusedSimpArgs false
theorem dcs_one (l : List Dd) : (dcs l).all (·.oneCell') = true := by
  rw [List.all_eq_true]
  intro v hv
  unfold dcs at hv
  obtain ⟨y, _, hy⟩ := List.mem_flatMap.1 hv
  simp [dcl] at hy
  rcases hy with rfl | rfl | rfl | rfl | rfl | rfl | rfl | rfl | rfl <;> rfl
theorem dcs_len (l : List Dd) : (dcs l).length = l.length * 9 := by
  induction l with
  | nil => rfl
  | cons y l ih =>
    simp only [dcs, List.flatMap_cons, List.length_append, List.length_cons] at ih ⊢
    rw [ih]
    simp [dcl]
    omega
theorem dcs_cells {w : World} {g : Nat} {ys : List Dd} (hin : InD w (some ⟨g, 0, none⟩) ys) : ∀ j u, (dcs ys)[j]? = some u → w.cell? ((⟨g, 0, none⟩ : Addr).add j) = some u := by
  intro j u hu
  have hj : j < ys.length * 9 := by
    have := (List.getElem?_eq_some_iff.1 hu).1
    rwa [dcs_len] at this
  obtain ⟨y, hy⟩ : ∃ y, ys[j / 9]? = some y := ⟨ys[j / 9]'(by omega), by rw [List.getElem?_eq_getElem (by omega)]⟩
  obtain ⟨b, off, e, _, hc⟩ := hin.at hy
  cases e
  have e1 : j = j / 9 * 9 + j % 9 := by omega
  rw [e1, dcs_at ys (j / 9) y hy (j % 9) (by omega)] at hu
  rw [add_plain, Nat.zero_add]
  obtain ⟨h0, h1, h2, h3, h4, h5, h6, h7, h8⟩ := hc
  rw [Nat.zero_add] at h0 h1 h2 h3 h4 h5 h6 h7 h8
  have hm : j % 9 < 9 := by omega
  rw [e1]
  generalize j % 9 = m at hu hm ⊢
  rcases (by omega : m = 0 ∨ m = 1 ∨ m = 2 ∨ m = 3 ∨ m = 4 ∨ m = 5 ∨ m = 6 ∨ m = 7 ∨ m = 8) with rfl | rfl | rfl | rfl | rfl | rfl | rfl | rfl | rfl <;> (simp [dcl] at hu; subst hu; assumption)
theorem wp_append_ds {w : World} {o : Oper} {act : Act} {K : Act → World → Prop} {Q : Exit → Act → World → Prop} (s x : Operand)
    (ho : o.op = .call { callee := .builtin .append, args := #[s, x], argTypes := #[30, 30] })
    (base : Nat) (v : Value) (l : List Dd) (hs : act.eval s = v) (hown : OwnD w base v l)
    (g n c : Nat) (ys : List Dd) (hx : act.eval x = .slice (some ⟨g, 0, none⟩) n c) (hm : ys.length = n) (hin : InD w (some ⟨g, 0, none⟩) ys)
    (hN : l.length + n ≤ 1000000000) (hbase : base ≤ w.heap.size)
    (h : ∀ v' w', OwnD w' base v' (l ++ ys) → w.grownBy w' v.ownBlock → K (act.put o.dst v') w') :
    o.wp Try.prog act w K Q := by
  obtain ⟨i, hi, hz, h1, h2⟩ := infoD
  refine wp_append_own w s x 30 ho base 37 i _ 9 104 Try.underlying30 hi hz h1 h2 rfl (by decide) v l.length _ hs hown ⟨g, 0, none⟩ n c (dcs ys) hx (by rw [dcs_len, hm]) (dcs_cells hin) (fun v hv => List.all_eq_true.1 (dcs_one ys) v hv) (by simp only [maxLen]; omega) (by omega) hbase ?_
  intro v' w' hown' hg _
  refine h v' w' ?_ hg
  unfold OwnD
  rw [List.length_append, show dcs (l ++ ys) = dcs l ++ dcs ys by simp [dcs], hm]
  exact hown'
theorem append_ds {w : World} {ops : Array Oper} {rest : List Oper} {o : Oper} {act : Act} {Q : Exit → Act → World → Prop} (hgd : o.guard = none) (s x : Operand)
    (ho : o.op = .call { callee := .builtin .append, args := #[s, x], argTypes := #[30, 30] })
    (base : Nat) (v : Value) (l : List Dd) (hs : act.eval s = v) (hown : OwnD w base v l)
    (g n c : Nat) (ys : List Dd) (hx : act.eval x = .slice (some ⟨g, 0, none⟩) n c) (hm : ys.length = n) (hin : InD w (some ⟨g, 0, none⟩) ys)
    (hN : l.length + n ≤ 1000000000) (hbase : base ≤ w.heap.size)
    (h : ∀ v' w', OwnD w' base v' (l ++ ys) → w.grownBy w' v.ownBlock → wpList Try.prog ops Q rest (act.put o.dst v') w') :
    wpList Try.prog ops Q (o :: rest) act w := by
  obtain ⟨i, hi, hz, h1, h2⟩ := infoD
  refine wpList_append_own w hgd s x 30 ho base 37 i _ 9 104 Try.underlying30 hi hz h1 h2 rfl (by decide) v l.length _ hs hown ⟨g, 0, none⟩ n c (dcs ys) hx (by rw [dcs_len, hm]) (dcs_cells hin) (fun v hv => List.all_eq_true.1 (dcs_one ys) v hv) (by simp only [maxLen]; omega) (by omega) hbase ?_
  intro v' w' hown' hg _
  refine h v' w' ?_ hg
  unfold OwnD
  rw [List.length_append, show dcs (l ++ ys) = dcs l ++ dcs ys by simp [dcs], hm]
  exact hown'
theorem inD1 (w : World) (y : Dd) : InD (w.alloc (.cells (dC y) 37)) (some ⟨w.heap.size, 0, none⟩) [y] := by
  refine .inr ⟨w.heap.size, 0, rfl, by simp, fun i x hx => ?_⟩
  have hi : i = 0 := by have := (List.getElem?_eq_some_iff.1 hx).1; simpa using this
  subst hi
  simp at hx
  subst hx
  exact dc_cells (heap_alloc_new w _)
theorem inDs {w : World} {g : Nat} {ys : List Dd} {t : TypeId} (h : w.heap[g]? = some (.cells (dcs ys).toArray t)) : InD w (some ⟨g, 0, none⟩) ys := by
  refine .inr ⟨g, 0, rfl, lt_of_heapK h, fun i x hx => ?_⟩
  have hc : ∀ k v, k < 9 → (dcl x)[k]? = some v → w.cell? ⟨g, 0 + i * 9 + k, none⟩ = some v := by
    intro k v hk hv
    rw [cell_of_row _ g _ _ _ (0, 0) h, Nat.zero_add, List.getElem?_toArray, dcs_at ys i x hx k hk]
    exact hv
  exact ⟨hc 0 _ (by omega) rfl, hc 1 _ (by omega) rfl, hc 2 _ (by omega) rfl, hc 3 _ (by omega) rfl, hc 4 _ (by omega) rfl, hc 5 _ (by omega) rfl, hc 6 _ (by omega) rfl, hc 7 _ (by omega) rfl, hc 8 _ (by omega) rfl⟩
end Go.Proofs.Ytmokonaodoiflaa
