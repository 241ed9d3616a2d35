/- A slice of api.Wait of one's own. -/
import Derived.Test.YtibgfjnddhfgpaaDkPa
import Derived.OwnWalk
namespace Go.Proofs.Ytibgfjnddhfgpaa
open Go.ChangeShapes Go.WideShapes Go.ChangeAt Go.RowKit Go.Deep Go.Maps
set_option linter.unusedVariables false
/-- a block's number, and how many of its writes wait -/
abbrev Wt := Int × Int
def wcl (x : Wt) : List Value := [.int .i64 x.1, .int .i64 x.2]
def wcs (l : List Wt) : List Value := l.flatMap wcl
/-- the two cells of one -/
def Wc (w : World) (g off : Nat) (x : Wt) : Prop := w.cell? ⟨g, off, none⟩ = some (.int .i64 x.1) ∧ w.cell? ⟨g, off + 1, none⟩ = some (.int .i64 x.2)
/-- a slice of them that may be read -/
def InW (w : World) (a : Option Addr) (l : List Wt) : Prop := l = [] ∨ ∃ g off, a = some ⟨g, off, none⟩ ∧ g < w.heap.size ∧ ∀ i x, l[i]? = some x → Wc w g (off + i * 2) x
theorem wcs_len (l : List Wt) : (wcs l).length = l.length * 2 := by
  induction l with
  | nil => rfl
  | cons x l ih => simp only [wcs, List.flatMap_cons, List.length_append, List.length_cons] at ih ⊢; rw [ih]; simp [wcl]; omega
theorem wcs_at (l : List Wt) (i : Nat) (x : Wt) (h : l[i]? = some x) (k : Nat) (hk : k < 2) : (wcs l)[i * 2 + k]? = (wcl x)[k]? := by
  induction l generalizing i with
  | nil => simp at h
  | cons y l ih =>
    cases i with
    | zero =>
      simp at h
      subst h
      simp only [wcs, List.flatMap_cons, Nat.zero_mul, Nat.zero_add]
      rw [List.getElem?_append_left (by simp [wcl]; omega)]
    | succ i =>
      simp only [List.getElem?_cons_succ] at h
      have := ih i h
      simp only [wcs, List.flatMap_cons] at this ⊢
      rw [List.getElem?_append_right (by simp [wcl]; omega), ← this]
      congr 1
      simp [wcl]
      omega
/-- a slice of them of one's own, from block 'base' on -/
def OwnW (w : World) (base : Nat) (v : Value) (l : List Wt) : Prop := w.ownsRow base 83 2 v l.length (wcs l)
theorem OwnW.nil (w : World) (base : Nat) : OwnW w base (.slice none 0 0) [] := World.ownsRow_nil _ _ _ _
theorem OwnW.own {w : World} {base : Nat} {v : Value} {l : List Wt} (h : OwnW w base v l) : ∀ k, v.ownBlock = some k → base ≤ k ∧ k < w.heap.size := fun k hk => World.ownsRow.lt h k hk
theorem OwnW.block {w w' : World} {base : Nat} {v : Value} {l : List Wt} (h : OwnW w base v l) (hb : ∀ k, v.ownBlock = some k → w'.heap[k]? = w.heap[k]?) : OwnW w' base v l := by
  refine ⟨h.1, ?_⟩
  rcases h.2 with h1 | ⟨g, cap, cur, rfl, hbg, hg, rest⟩
  · exact .inl h1
  · exact .inr ⟨g, cap, cur, rfl, hbg, (hb g rfl).trans hg, rest⟩
theorem OwnW.keep {w w' : World} {base : Nat} {v : Value} {l : List Wt} (h : OwnW w base v l) (hb : Below w.heap.size w w') : OwnW w' base v l := h.block fun k hk => hb.block k (h.own k hk).2
theorem OwnW.base {w : World} {a b : Nat} {v : Value} {l : List Wt} (h : OwnW w b v l) (hab : a ≤ b) : OwnW w a v l := by
  refine ⟨h.1, ?_⟩
  rcases h.2 with h1 | ⟨g, cap, cur, rfl, hbg, rest⟩
  · exact .inl h1
  · exact .inr ⟨g, cap, cur, rfl, Nat.le_trans hab hbg, rest⟩
theorem OwnW.slice {w : World} {base : Nat} {v : Value} {l : List Wt} (h : OwnW w base v l) : ∃ a c, v = .slice a l.length c ∧ InW w a l ∧ l.length ≤ c ∧ c ≤ 9223372036854775807 ∧ (a = none → c = 0) := by
  rcases h.2 with ⟨rfl, hn⟩ | ⟨g, cap, cur, rfl, hb, hg, hl, hm, hs, ht⟩
  · have : l = [] := List.length_eq_zero_iff.1 hn
    subst this
    exact ⟨none, 0, rfl, .inl rfl, by simp, by omega, fun _ => rfl⟩
  · simp only [maxLen] at hm
    refine ⟨_, _, rfl, .inr ⟨g, 0, rfl, (h.own g rfl).2, fun i x hx => ?_⟩, hl, by omega, fun h => by simp at h⟩
    have hc : ∀ k v, k < 2 → (wcl x)[k]? = some v → w.cell? ⟨g, 0 + i * 2 + k, none⟩ = some v := by
      intro k v hk hv
      have := World.ownsRow.cells h (g := g) rfl (i * 2 + k) v (by rw [wcs_at l i x hx k hk]; exact hv)
      rw [add_plain, Nat.zero_add] at this
      rw [Nat.zero_add]
      exact this
    exact ⟨hc 0 _ (by omega) rfl, hc 1 _ (by omega) rfl⟩
theorem infoW : ∃ i, Try.prog.info? 83 = some i ∧ i.zero = some (.agg #[.int .i64 0, .int .i64 0]) ∧ i.size = 2 ∧ i.bytes = 16 := info_parts (show (Try.prog.info? 83).map (fun i => (i.zero, i.size, i.bytes)) = some (some (.agg #[.int .i64 0, .int .i64 0]), 2, 16) by kernel_rfl)
theorem append_wait {w : World} {ops : Array Oper} {rest : List Oper} {o : Oper} {act : Act} {Q : Exit → Act → World → Prop} (hgd : o.guard = none) (s x : Operand)
    (ho : o.op = .call { callee := .builtin .append, args := #[s, x], argTypes := #[54, 54] })
    (base : Nat) (v : Value) (l : List Wt) (hs : act.eval s = v) (hown : OwnW w base v l)
    (g c : Nat) (y : Wt) (hx : act.eval x = .slice (some ⟨g, 0, none⟩) 1 c) (hc : w.heap[g]? = some (.cells #[.int .i64 y.1, .int .i64 y.2] 83))
    (hN : l.length ≤ 1000000000) (hbase : base ≤ w.heap.size)
    (h : ∀ v' w', OwnW w' base v' (l ++ [y]) → w.grownBy w' v.ownBlock → wpList Try.prog ops Q rest (act.put o.dst v') w') :
    wpList Try.prog ops Q (o :: rest) act w := by
  obtain ⟨i, hi, hz, h1, h2⟩ := infoW
  refine wpList_append_own w hgd s x 54 ho base 83 i _ 2 16 Try.underlying54 hi hz h1 h2 rfl (by decide) v l.length _ hs hown ⟨g, 0, none⟩ 1 c (wcl y) hx rfl ?_ (by simp [wcl, Value.oneCell']) (by simp only [maxLen]; omega) (by omega) hbase ?_
  · intro j u hu
    rw [add_plain, Nat.zero_add]
    simp only [World.cell?, hc]
    simpa [wcl] using hu
  · intro v' w' hown' hg _
    refine h v' w' ?_ hg
    unfold OwnW
    rw [List.length_append]
    have : wcs (l ++ [y]) = wcs l ++ wcl y := by simp [wcs]
    rw [this]
    exact hown'
theorem ownW_some {w : World} {base : Nat} {v : Value} {l : List Wt} (h : OwnW w base v l) (hl : l ≠ []) : ∃ g c, v = .slice (some ⟨g, 0, none⟩) l.length c ∧ base ≤ g := by
  rcases h.2 with ⟨_, hn⟩ | ⟨g, cap, cur, rfl, hbg, rest⟩
  · exact absurd (List.length_eq_zero_iff.1 hn) hl
  · exact ⟨g, cap, rfl, hbg⟩
theorem OwnW.cur {w : World} {base g N c : Nat} {l : List Wt} (h : OwnW w base (.slice (some ⟨g, 0, none⟩) N c) l) : (∃ cur, w.heap[g]? = some (.cells cur 83)) ∧ l.length = N ∧ ∀ i x, l[i]? = some x → Wc w g (i * 2) x := by
  obtain ⟨a, c', e, hin, _⟩ := h.slice
  cases e
  refine ⟨?_, rfl, fun i x hx => ?_⟩
  · rcases h.2 with ⟨h1, _⟩ | ⟨g', cap, cur, h1, hbg, hg, rest⟩
    · cases h1
    · cases h1
      exact ⟨cur, hg⟩
  · rcases hin with h1 | ⟨g', off, h1, _, h2⟩
    · subst h1
      simp at hx
    · cases h1
      have := h2 i x hx
      rwa [Nat.zero_add] at this
theorem make0W (N : Nat) (hN : N ≤ 1000000000) (w : World) : ∃ w', (Instr.makeSlice 54 (.int .i64 0) (.int .i64 (N : Int))).run Try.prog w = .ok (.slice (some ⟨w.heap.size, 0, none⟩) 0 N) w' ∧ OwnW w' w.heap.size (.slice (some ⟨w.heap.size, 0, none⟩) 0 N) [] ∧ w.grownBy w' none := by
  obtain ⟨i, hi, hz, h1, h2⟩ := infoW
  obtain ⟨w', hr, ho, hg⟩ := run_make_own (P := Try.prog) w w.heap.size 54 83 i _ 2 Try.underlying54 hi hz h1 .i64 .i64 N (by rw [h2]; omega) (by simp only [maxLen]; omega) (Nat.le_refl _)
  exact ⟨w', hr, ho, hg⟩
end Go.Proofs.Ytibgfjnddhfgpaa
