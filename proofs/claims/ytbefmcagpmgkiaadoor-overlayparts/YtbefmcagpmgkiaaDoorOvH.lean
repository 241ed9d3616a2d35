/- A slice of entries of one's own (as LayH, without the reader). -/
import Derived.Test.YtbefmcagpmgkiaaDoorLayC
import Derived.Test.YtbefmcagpmgkiaaDoorMemA
import Derived.OwnWalk
namespace Go.Proofs.YtbefmcagpmgkiaaDoor
open Go.ChangeShapes Go.WideShapes Go.ChangeAt Go.RowKit Go.Deep
set_option linter.unusedVariables false
def ecl (x : En) : List Value := [.string (tx x.p), .int .i64 x.k, .int .i64 x.m, .string (tx x.b)]
def ecs (l : List En) : List Value := l.flatMap ecl
theorem ecs_len (l : List En) : (ecs l).length = l.length * 4 := by
  induction l with
  | nil => rfl
  | cons x l ih => simp only [ecs, List.flatMap_cons, List.length_append, List.length_cons] at ih ⊢; rw [ih]; simp [ecl]; omega
theorem ecs_at (l : List En) (i : Nat) (x : En) (h : l[i]? = some x) (k : Nat) (hk : k < 4) : (ecs l)[i * 4 + k]? = (ecl x)[k]? := by
  induction l generalizing i with
  | nil => simp at h
  | cons y l ih =>
    cases i with
    | zero =>
      simp at h
      subst h
      simp only [ecs, List.flatMap_cons, Nat.zero_mul, Nat.zero_add]
      rw [List.getElem?_append_left (by simp [ecl]; omega)]
    | succ i =>
      simp only [List.getElem?_cons_succ] at h
      have := ih i h
      simp only [ecs, List.flatMap_cons] at this ⊢
      rw [List.getElem?_append_right (by simp [ecl]; omega), ← this]
      congr 1
      simp [ecl]
      omega
/-- a slice of entries of one's own, from block 'base' on -/
def OwnE (w : World) (base : Nat) (v : Value) (l : List En) : Prop := w.ownsRow base 34 4 v l.length (ecs l)
theorem OwnE.nil (w : World) (base : Nat) : OwnE w base (.slice none 0 0) [] := World.ownsRow_nil _ _ _ _
theorem OwnE.own {w : World} {base : Nat} {v : Value} {l : List En} (h : OwnE w base v l) : ∀ k, v.ownBlock = some k → base ≤ k ∧ k < w.heap.size := fun k hk => World.ownsRow.lt h k hk
theorem OwnE.block {w w' : World} {base : Nat} {v : Value} {l : List En} (h : OwnE w base v l) (hb : ∀ k, v.ownBlock = some k → w'.heap[k]? = w.heap[k]?) : OwnE w' base v l := by
  refine ⟨h.1, ?_⟩
  rcases h.2 with h1 | ⟨g, cap, cur, rfl, hbg, hg, rest⟩
  · exact .inl h1
  · exact .inr ⟨g, cap, cur, rfl, hbg, (hb g rfl).trans hg, rest⟩
theorem OwnE.keep {w w' : World} {base : Nat} {v : Value} {l : List En} (h : OwnE w base v l) (hb : Below w.heap.size w w') : OwnE w' base v l := h.block fun k hk => hb.block k (h.own k hk).2
theorem OwnE.base {w : World} {a b : Nat} {v : Value} {l : List En} (h : OwnE w b v l) (hab : a ≤ b) : OwnE w a v l := by
  refine ⟨h.1, ?_⟩
  rcases h.2 with h1 | ⟨g, cap, cur, rfl, hbg, rest⟩
  · exact .inl h1
  · exact .inr ⟨g, cap, cur, rfl, Nat.le_trans hab hbg, rest⟩
theorem OwnE.slice {w : World} {base : Nat} {v : Value} {l : List En} (h : OwnE w base v l) : ∃ a c, v = .slice a l.length c ∧ InE w a l ∧ l.length ≤ c ∧ c ≤ 9223372036854775807 ∧ (a = none → c = 0) := by
  rcases h.2 with ⟨rfl, hn⟩ | ⟨g, cap, cur, rfl, hb, hg, hl, hm, hs, ht⟩
  · have : l = [] := List.length_eq_zero_iff.1 hn
    subst this
    exact ⟨none, 0, rfl, .inl rfl, by simp, by omega, fun _ => rfl⟩
  · simp only [maxLen] at hm
    refine ⟨_, _, rfl, .inr ⟨g, 0, rfl, (h.own g rfl).2, fun i x hx => ?_⟩, hl, by omega, fun h => by simp at h⟩
    have hc : ∀ k v, k < 4 → (ecl x)[k]? = some v → w.cell? ⟨g, 0 + i * 4 + k, none⟩ = some v := by
      intro k v hk hv
      have := World.ownsRow.cells h (g := g) rfl (i * 4 + k) v (by rw [ecs_at l i x hx k hk]; exact hv)
      rw [add_plain, Nat.zero_add] at this
      rw [Nat.zero_add]
      exact this
    exact ⟨hc 0 _ (by omega) rfl, hc 1 _ (by omega) rfl, hc 2 _ (by omega) rfl, hc 3 _ (by omega) rfl⟩
theorem infoE : ∃ i, Tryd.prog.info? 34 = some i ∧ i.zero = some (.agg #[.string ⟨#[]⟩, .int .i64 0, .int .i64 0, .string ⟨#[]⟩]) ∧ i.size = 4 ∧ i.bytes = 48 := info_parts (show (Tryd.prog.info? 34).map (fun i => (i.zero, i.size, i.bytes)) = some (some (.agg #[.string ⟨#[]⟩, .int .i64 0, .int .i64 0, .string ⟨#[]⟩]), 4, 48) by kernel_rfl)
theorem append_entry {w : World} {ops : Array Oper} {rest : List Oper} {o : Oper} {act : Act} {Q : Exit → Act → World → Prop} (hgd : o.guard = none) (s x : Operand)
    (ho : o.op = .call { callee := .builtin .append, args := #[s, x], argTypes := #[26, 26] })
    (base : Nat) (v : Value) (l : List En) (hs : act.eval s = v) (hown : OwnE w base v l)
    (g c : Nat) (y : En) (hx : act.eval x = .slice (some ⟨g, 0, none⟩) 1 c) (hc : w.heap[g]? = some (.cells (ec (tx y.p) y.k y.m (tx y.b)) 34))
    (hN : l.length ≤ 1000000000) (hbase : base ≤ w.heap.size)
    (h : ∀ v' w', OwnE w' base v' (l ++ [y]) → w.grownBy w' v.ownBlock → wpList Tryd.prog ops Q rest (act.put o.dst v') w') :
    wpList Tryd.prog ops Q (o :: rest) act w := by
  obtain ⟨i, hi, hz, h1, h2⟩ := infoE
  refine wpList_append_own w hgd s x 26 ho base 34 i _ 4 48 Tryd.underlying26 hi hz h1 h2 rfl (by decide) v l.length _ hs hown ⟨g, 0, none⟩ 1 c (ecl y) hx rfl ?_ (by simp [ecl, Value.oneCell']) (by simp only [maxLen]; omega) (by omega) hbase ?_
  · intro j u hu
    obtain ⟨h0, h1, h2, h3⟩ := ec_cells hc
    rw [add_plain, Nat.zero_add]
    have hj : j < 4 := by
      have := (List.getElem?_eq_some_iff.1 hu).1
      simpa [ecl] using this
    rcases (by omega : j = 0 ∨ j = 1 ∨ j = 2 ∨ j = 3) with rfl | rfl | rfl | rfl <;> (simp [ecl] at hu; subst hu; assumption)
  · intro v' w' hown' hg _
    refine h v' w' ?_ hg
    unfold OwnE
    rw [List.length_append]
    have : ecs (l ++ [y]) = ecs l ++ ecl y := by simp [ecs]
    rw [this]
    exact hown'
end Go.Proofs.YtbefmcagpmgkiaaDoor
