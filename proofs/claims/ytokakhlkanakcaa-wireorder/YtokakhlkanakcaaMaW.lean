/- References of one's own; append of references. -/
import Derived.Test.YtokakhlkanakcaaMaH
import Derived.OwnWalk
import Derived.Laws.AppendOwnNone
namespace Go.Proofs.Ytokakhlkanakcaa
open Go.ChangeShapes Go.WideShapes Go.ChangeAt Go.RowKit Go.Deep Go.Maps
set_option linter.unusedVariables false
/-- the cells of references -/
def rcs (l : List Rf) : List Value := l.flatMap rcl
theorem rcs_app (l m : List Rf) : rcs (l ++ m) = rcs l ++ rcs m := by simp [rcs]
theorem rcs_len : ∀ (l : List Rf), Dgs l → (rcs l).length = l.length * 33
  | [], _ => rfl
  | x :: r, h => by
    have ih := rcs_len r (fun y hy => h y (by simp [hy]))
    have hx := rcl_len (h x (by simp)).1
    simp only [rcs, List.flatMap_cons, List.length_append, List.length_cons] at ih ⊢
    omega
theorem rcs_at : ∀ (l : List Rf), Dgs l → ∀ (i : Nat) (x : Rf), l[i]? = some x → ∀ k, k < 33 → (rcs l)[i * 33 + k]? = (rcl x)[k]?
  | [], _, i, x, h, _, _ => by simp at h
  | y :: r, hd, i, x, h, k, hk => by
    have hy := rcl_len (hd y (by simp)).1
    have e : rcs (y :: r) = rcl y ++ rcs r := by simp [rcs]
    rw [e]
    cases i with
    | zero =>
      simp at h
      subst h
      rw [Nat.zero_mul, Nat.zero_add, List.getElem?_append_left (by omega)]
    | succ i =>
      simp at h
      have ih := rcs_at r (fun z hz => hd z (by simp [hz])) i x h k hk
      rw [List.getElem?_append_right (by omega), hy, ← ih]
      congr 1
      omega
theorem rcs_one (l : List Rf) : ∀ v ∈ rcs l, v.oneCell' = true := by
  intro v hv
  simp only [rcs, List.mem_flatMap] at hv
  obtain ⟨x, _, hv⟩ := hv
  simp only [rcl, List.mem_append, List.mem_map, List.mem_singleton] at hv
  rcases hv with ⟨y, _, rfl⟩ | rfl <;> rfl
/-- a slice of references of one's own, from block 'base' on -/
def OwnR (w : World) (base : Nat) (v : Value) (l : List Rf) : Prop := w.ownsRow base 81 33 v l.length (rcs l)
theorem OwnR.nil (w : World) (base : Nat) : OwnR w base (.slice none 0 0) [] := World.ownsRow_nil _ _ _ _
theorem OwnR.own {w : World} {base : Nat} {v : Value} {l : List Rf} (h : OwnR w base v l) : ∀ k, v.ownBlock = some k → base ≤ k ∧ k < w.heap.size := fun k hk => World.ownsRow.lt h k hk
theorem OwnR.block {w w' : World} {base : Nat} {v : Value} {l : List Rf} (h : OwnR w base v l) (hb : ∀ k, v.ownBlock = some k → w'.heap[k]? = w.heap[k]?) : OwnR w' base v l := by
  refine ⟨h.1, ?_⟩
  rcases h.2 with h1 | ⟨g, cap, cur, rfl, hbg, hg, rest⟩
  · exact .inl h1
  · exact .inr ⟨g, cap, cur, rfl, hbg, (hb g rfl).trans hg, rest⟩
theorem OwnR.keep {w w' : World} {base : Nat} {v : Value} {l : List Rf} (h : OwnR w base v l) (hb : Below w.heap.size w w') : OwnR w' base v l := h.block fun k hk => hb.block k (h.own k hk).2
theorem OwnR.slice {w : World} {base : Nat} {v : Value} {l : List Rf} (h : OwnR w base v l) (hd : Dgs l) : ∃ a c, v = .slice a l.length c ∧ InR w a l ∧ l.length ≤ c ∧ c ≤ 9223372036854775807 ∧ (a = none → c = 0) := by
  rcases h.2 with ⟨rfl, hn⟩ | ⟨g, cap, cur, rfl, hb, hg, hl, hm, hs, ht⟩
  · have : l = [] := List.length_eq_zero_iff.1 hn
    subst this
    exact ⟨none, 0, rfl, .inl rfl, by simp, by omega, fun _ => rfl⟩
  · simp only [maxLen] at hm
    refine ⟨_, _, rfl, .inr ⟨g, 0, rfl, (h.own g rfl).2, fun i x hx => ?_⟩, hl, by omega, fun h => by simp at h⟩
    intro k v hv
    have hk : k < 33 := by
      have := (List.getElem?_eq_some_iff.1 hv).1
      rwa [rcl_len (hd x (List.mem_of_getElem? hx)).1] at this
    have := World.ownsRow.cells h (g := g) rfl (i * 33 + k) v (by rw [rcs_at l hd i x hx k hk]; exact hv)
    rw [Addr.add_mid] at this
    rw [show 0 + i * 33 + k = 0 + (i * 33 + k) by omega]
    exact this
theorem infoR : ∃ i, Try.prog.info? 81 = some i ∧ i.zero = some (.agg z33) ∧ i.size = 33 ∧ i.bytes = 40 := info_parts (show (Try.prog.info? 81).map (fun i => (i.zero, i.size, i.bytes)) = some (some (.agg z33), 33, 40) by kernel_rfl)
theorem InR.cells {w : World} {ad : Addr} {l : List Rf} (hd : Dgs l) (h : InR w (some ad) l) : ∀ j u, (rcs l)[j]? = some u → w.cell? (ad.add j) = some u := by
  intro j u hu
  have hj : j < l.length * 33 := by
    have := (List.getElem?_eq_some_iff.1 hu).1
    rwa [rcs_len l hd] at this
  obtain ⟨x, hx⟩ : ∃ x, l[j / 33]? = some x := ⟨_, List.getElem?_eq_getElem (by omega)⟩
  obtain ⟨b, off, e, _, hr⟩ := h.at hx
  cases e
  have e2 := rcs_at l hd (j / 33) x hx (j % 33) (by omega)
  rw [show j / 33 * 33 + j % 33 = j by omega, hu] at e2
  rw [Addr.add_mid]
  have := hr (j % 33) u e2.symm
  rwa [show off + j / 33 * 33 + j % 33 = off + j by omega] at this
/-- references more -/
theorem wp_append_refs {w : World} {o : Oper} {act : Act} {K : Act → World → Prop} {Q : Exit → Act → World → Prop} (s x : Operand)
    (ho : o.op = .call { callee := .builtin .append, args := #[s, x], argTypes := #[69, 69] })
    (base : Nat) (v : Value) (l : List Rf) (hs : act.eval s = v) (hown : OwnR w base v l)
    (ad : Addr) (n c : Nat) (m : List Rf) (hx : act.eval x = .slice (some ad) n c) (hm : m.length = n) (hin : InR w (some ad) m) (hd : Dgs m)
    (hN : l.length + n ≤ 3518437208883) (hbase : base ≤ w.heap.size)
    (h : ∀ v' w', OwnR w' base v' (l ++ m) → w.grownBy w' v.ownBlock → K (act.put o.dst v') w') :
    o.wp Try.prog act w K Q := by
  obtain ⟨i, hi, hz, h1, h2⟩ := infoR
  subst hm
  refine wp_append_own w s x 69 ho base 81 i _ 33 40 Try.underlying69 hi hz h1 h2 z33_size (by decide) v l.length _ hs hown ad m.length c (rcs m) hx (rcs_len m hd) (hin.cells hd) (rcs_one m) (by simp only [maxLen]; omega) (by omega) hbase ?_
  intro v' w' hown' hg _
  refine h v' w' ?_ hg
  unfold OwnR
  rw [List.length_append, rcs_app]
  exact hown'
theorem append_refs {w : World} {ops : Array Oper} {rest : List Oper} {o : Oper} {act : Act} {Q : Exit → Act → World → Prop} (hgd : o.guard = none) (s x : Operand)
    (ho : o.op = .call { callee := .builtin .append, args := #[s, x], argTypes := #[69, 69] })
    (base : Nat) (v : Value) (l : List Rf) (hs : act.eval s = v) (hown : OwnR w base v l)
    (ad : Addr) (n c : Nat) (m : List Rf) (hx : act.eval x = .slice (some ad) n c) (hm : m.length = n) (hin : InR w (some ad) m) (hd : Dgs m)
    (hN : l.length + n ≤ 3518437208883) (hbase : base ≤ w.heap.size)
    (h : ∀ v' w', OwnR w' base v' (l ++ m) → w.grownBy w' v.ownBlock → wpList Try.prog ops Q rest (act.put o.dst v') w') :
    wpList Try.prog ops Q (o :: rest) act w :=
  wpList_plain hgd fun _ hK => wp_append_refs s x ho base v l hs hown ad n c m hx hm hin hd hN hbase fun v' w' h1 h2 => hK _ _ (h v' w' h1 h2)
end Go.Proofs.Ytokakhlkanakcaa
