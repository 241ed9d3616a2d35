/- Packages of one's own. -/
import Derived.Test.YtokakhlkanakcaaWsD
namespace Go.Proofs.Ytokakhlkanakcaa
open Go.ChangeShapes Go.WideShapes Go.ChangeAt Go.RowKit Go.Deep Go.Maps
set_option linter.unusedVariables false
set_option linter.unusedSimpArgs false
def pkC (x : Pk) : Array Value := #[.int .i64 x.o, .string (tx x.n), .string (tx x.v), .slice x.la x.ln x.lc]
def pkl (x : Pk) : List Value := [.int .i64 x.o, .string (tx x.n), .string (tx x.v), .slice x.la x.ln x.lc]
def pks (l : List Pk) : List Value := l.flatMap pkl
theorem pks_at (l : List Pk) (i : Nat) (x : Pk) (h : l[i]? = some x) (k : Nat) (hk : k < 4) : (pks l)[i * 4 + k]? = (pkl x)[k]? := by
  induction l generalizing i with
  | nil => simp at h
  | cons y l ih =>
    cases i with
    | zero =>
      simp at h
      subst h
      simp only [pks, List.flatMap_cons, Nat.zero_mul, Nat.zero_add]
      rw [List.getElem?_append_left (by simp [pkl]; omega)]
    | succ i =>
      simp only [List.getElem?_cons_succ] at h
      have := ih i h
      simp only [pks, List.flatMap_cons] at this ⊢
      rw [List.getElem?_append_right (by simp [pkl]; omega), ← this]
      congr 1
      simp [pkl]
      omega
/-- a slice of packages of one's own, from block 'base' on -/
def OwnPk (w : World) (base : Nat) (v : Value) (l : List Pk) : Prop := w.ownsRow base 73 4 v l.length (pks l)
theorem OwnPk.nil (w : World) (base : Nat) : OwnPk w base (.slice none 0 0) [] := World.ownsRow_nil _ _ _ _
theorem OwnPk.own {w : World} {base : Nat} {v : Value} {l : List Pk} (h : OwnPk w base v l) : ∀ k, v.ownBlock = some k → base ≤ k ∧ k < w.heap.size := fun k hk => World.ownsRow.lt h k hk
theorem OwnPk.kept {w w' : World} {base : Nat} {v : Value} {l : List Pk} (h : OwnPk w base v l) (hb : ∀ k, v.ownBlock = some k → w'.heap[k]? = w.heap[k]?) : OwnPk w' base v l := by
  refine ⟨h.1, ?_⟩
  rcases h.2 with h1 | ⟨g, cap, cur, rfl, hbg, hg, rest⟩
  · exact .inl h1
  · exact .inr ⟨g, cap, cur, rfl, hbg, (hb g rfl).trans hg, rest⟩
theorem OwnPk.keep {w w' : World} {base : Nat} {v : Value} {l : List Pk} (h : OwnPk w base v l) (hb : Below w.heap.size w w') : OwnPk w' base v l := h.kept fun k hk => hb.block k (h.own k hk).2
theorem OwnPk.slice {w : World} {base : Nat} {v : Value} {l : List Pk} (h : OwnPk w base v l) (hok : ∀ x ∈ l, PkOk w x) : ∃ a c, v = .slice a l.length c ∧ InPk w a l ∧ l.length ≤ c ∧ c ≤ 9223372036854775807 := by
  rcases h.2 with ⟨rfl, hn⟩ | ⟨g, cap, cur, rfl, hb, hg, hl, hm, hs, ht⟩
  · have : l = [] := List.length_eq_zero_iff.1 hn
    subst this
    exact ⟨none, 0, rfl, .inl rfl, by simp, by omega⟩
  · simp only [maxLen] at hm
    refine ⟨_, _, rfl, .inr ⟨g, 0, rfl, (h.own g rfl).2, fun i x hx => ⟨?_, hok x (List.mem_of_getElem? hx)⟩⟩, hl, by omega⟩
    have hc : ∀ k v, k < 4 → (pkl x)[k]? = some v → w.cell? ⟨g, 0 + i * 4 + k, none⟩ = some v := by
      intro k v hk hv
      have := World.ownsRow.cells h (g := g) rfl (i * 4 + k) v (by rw [pks_at l i x hx k hk]; exact hv)
      rw [add_plain, Nat.zero_add] at this
      rw [Nat.zero_add]
      exact this
    exact ⟨hc 0 _ (by omega) rfl, hc 1 _ (by omega) rfl, hc 2 _ (by omega) rfl, hc 3 _ (by omega) rfl⟩
theorem infoPk : ∃ i, Try.prog.info? 73 = some i ∧ i.zero = some (.agg #[.int .i64 0, .string ByteArray.empty, .string ByteArray.empty, .slice none 0 0]) ∧ i.size = 4 ∧ i.bytes = 64 := info_parts (show (Try.prog.info? 73).map (fun i => (i.zero, i.size, i.bytes)) = some (some (.agg #[.int .i64 0, .string ByteArray.empty, .string ByteArray.empty, .slice none 0 0]), 4, 64) by kernel_rfl)
theorem pkc_cells {w : World} {g : Nat} {x : Pk} {t : TypeId} (h : w.heap[g]? = some (.cells (pkC x) t)) : Pkc w g 0 x := by
  refine ⟨?_, ?_, ?_, ?_⟩ <;> simp [World.cell?, h, pkC]
theorem append_pack {w : World} {ops : Array Oper} {rest : List Oper} {o : Oper} {act : Act} {Q : Exit → Act → World → Prop} (hgd : o.guard = none) (s x : Operand)
    (ho : o.op = .call { callee := .builtin .append, args := #[s, x], argTypes := #[29, 29] })
    (base : Nat) (v : Value) (l : List Pk) (hs : act.eval s = v) (hown : OwnPk w base v l)
    (g c : Nat) (y : Pk) (hx : act.eval x = .slice (some ⟨g, 0, none⟩) 1 c) (hc : w.heap[g]? = some (.cells (pkC y) 73))
    (hN : l.length ≤ 1000000000) (hbase : base ≤ w.heap.size)
    (h : ∀ v' w', OwnPk w' base v' (l ++ [y]) → w.grownBy w' v.ownBlock → wpList Try.prog ops Q rest (act.put o.dst v') w') :
    wpList Try.prog ops Q (o :: rest) act w := by
  obtain ⟨i, hi, hz, h1, h2⟩ := infoPk
  refine wpList_append_own w hgd s x 29 ho base 73 i _ 4 64 Try.underlying29 hi hz h1 h2 rfl (by decide) v l.length _ hs hown ⟨g, 0, none⟩ 1 c (pkl y) hx rfl ?_ (by simp [pkl, Value.oneCell']) (by simp only [maxLen]; omega) (by omega) hbase ?_
  · intro j u hu
    obtain ⟨h0, h1, h2, h3⟩ := pkc_cells hc
    rw [add_plain, Nat.zero_add]
    have hj : j < 4 := by
      have := (List.getElem?_eq_some_iff.1 hu).1
      simpa [pkl] using this
    rcases (by omega : j = 0 ∨ j = 1 ∨ j = 2 ∨ j = 3) with rfl | rfl | rfl | rfl <;> (simp [pkl] at hu; subst hu; assumption)
  · intro v' w' hown' hg _
    refine h v' w' ?_ hg
    unfold OwnPk
    rw [List.length_append]
    have : pks (l ++ [y]) = pks l ++ pkl y := by simp [pks]
    rw [this]
    exact hown'
end Go.Proofs.Ytokakhlkanakcaa
