/- Deeds in memory; then (gen_ptd.py). -/
import Derived.Test.YtmokonaodoiflaaPtC
import Derived.Maps.AppendAt
namespace Go.Proofs.Ytmokonaodoiflaa
open Go.ChangeShapes Go.WideShapes Go.ChangeAt Go.RowKit Go.Deep Go.Maps
set_option linter.unusedVariables false
set_option linter.unusedSimpArgs false
/-- a deed: its kind, whose, the packages' slice, the message -/
structure Dd where
  k : Int
  t : Int
  pa : Option Addr
  pn : Nat
  pc : Nat
  m : Mv
def dC (x : Dd) : Array Value := #[.int .i64 x.k, .int .i64 x.t, .slice x.pa x.pn x.pc, .int .i64 x.m.k, .int .i64 x.m.f, .int .i64 x.m.t, .int .i64 x.m.x, .bool x.m.y, .slice x.m.pa x.m.pn x.m.pc]
def dcl (x : Dd) : List Value := [.int .i64 x.k, .int .i64 x.t, .slice x.pa x.pn x.pc, .int .i64 x.m.k, .int .i64 x.m.f, .int .i64 x.m.t, .int .i64 x.m.x, .bool x.m.y, .slice x.m.pa x.m.pn x.m.pc]
def dcs (l : List Dd) : List Value := l.flatMap dcl
theorem dcs_at (l : List Dd) (i : Nat) (x : Dd) (h : l[i]? = some x) (k : Nat) (hk : k < 9) : (dcs l)[i * 9 + k]? = (dcl x)[k]? := by
  induction l generalizing i with
  | nil => simp at h
  | cons y l ih =>
    cases i with
    | zero =>
      simp at h
      subst h
      simp only [dcs, List.flatMap_cons, Nat.zero_mul, Nat.zero_add]
      rw [List.getElem?_append_left (by simp [dcl]; omega)]
    | succ i =>
      simp only [List.getElem?_cons_succ] at h
      have := ih i h
      simp only [dcs, List.flatMap_cons] at this ⊢
      rw [List.getElem?_append_right (by simp [dcl]; omega), ← this]
      congr 1
      simp [dcl]
      omega
def Dc (w : World) (b o : Nat) (x : Dd) : Prop := w.cell? ⟨b, o, none⟩ = some (.int .i64 x.k) ∧ w.cell? ⟨b, o + 1, none⟩ = some (.int .i64 x.t) ∧ w.cell? ⟨b, o + 2, none⟩ = some (.slice x.pa x.pn x.pc) ∧ w.cell? ⟨b, o + 3, none⟩ = some (.int .i64 x.m.k) ∧ w.cell? ⟨b, o + 4, none⟩ = some (.int .i64 x.m.f) ∧ w.cell? ⟨b, o + 5, none⟩ = some (.int .i64 x.m.t) ∧ w.cell? ⟨b, o + 6, none⟩ = some (.int .i64 x.m.x) ∧ w.cell? ⟨b, o + 7, none⟩ = some (.bool x.m.y) ∧ w.cell? ⟨b, o + 8, none⟩ = some (.slice x.m.pa x.m.pn x.m.pc)
theorem Dc.kept {w w' : World} {b o : Nat} {x : Dd} (h : Dc w b o x) (hb : w'.heap[b]? = w.heap[b]?) : Dc w' b o x :=
  ⟨(World.cell?_of_block (a := ⟨b, o, none⟩) hb).trans h.1, (World.cell?_of_block (a := ⟨b, o + 1, none⟩) hb).trans h.2.1, (World.cell?_of_block (a := ⟨b, o + 2, none⟩) hb).trans h.2.2.1, (World.cell?_of_block (a := ⟨b, o + 3, none⟩) hb).trans h.2.2.2.1, (World.cell?_of_block (a := ⟨b, o + 4, none⟩) hb).trans h.2.2.2.2.1, (World.cell?_of_block (a := ⟨b, o + 5, none⟩) hb).trans h.2.2.2.2.2.1, (World.cell?_of_block (a := ⟨b, o + 6, none⟩) hb).trans h.2.2.2.2.2.2.1, (World.cell?_of_block (a := ⟨b, o + 7, none⟩) hb).trans h.2.2.2.2.2.2.2.1, (World.cell?_of_block (a := ⟨b, o + 8, none⟩) hb).trans h.2.2.2.2.2.2.2.2⟩
/-- a slice of deeds may be read -/
def InD (w : World) (a : Option Addr) (l : List Dd) : Prop := l = [] ∨ ∃ b off, a = some ⟨b, off, none⟩ ∧ b < w.heap.size ∧ ∀ i x, l[i]? = some x → Dc w b (off + i * 9) x
theorem InD.kept {w w' : World} {a : Option Addr} {l : List Dd} (h : InD w a l) (hs : w.heap.size ≤ w'.heap.size) (hb : ∀ q, a = some q → l ≠ [] → w'.heap[q.block]? = w.heap[q.block]?) : InD w' a l := by
  rcases h with h | ⟨b, off, rfl, h1, h2⟩
  · exact .inl h
  · by_cases hl : l = []
    · exact .inl hl
    · exact .inr ⟨b, off, rfl, Nat.lt_of_lt_of_le h1 hs, fun i x hx => (h2 i x hx).kept (hb ⟨b, off, none⟩ rfl hl)⟩
theorem InD.keep {w w' : World} {a : Option Addr} {l : List Dd} (h : InD w a l) (hb : Below w.heap.size w w') : InD w' a l := by
  rcases h with h | ⟨b, off, rfl, h1, h2⟩
  · exact .inl h
  · exact .inr ⟨b, off, rfl, Nat.lt_of_lt_of_le h1 hb.size, fun i x hx => (h2 i x hx).kept (hb.block b h1)⟩
theorem InD.at {w : World} {a : Option Addr} {l : List Dd} (h : InD w a l) {i : Nat} {x : Dd} (hx : l[i]? = some x) : ∃ b off, a = some ⟨b, off, none⟩ ∧ b < w.heap.size ∧ Dc w b (off + i * 9) x := by
  rcases h with h | ⟨b, off, e, h1, h2⟩
  · rw [h] at hx; cases hx
  · exact ⟨b, off, e, h1, h2 i x hx⟩
/-- a slice of deeds of one's own, from block 'base' on -/
def OwnD (w : World) (base : Nat) (v : Value) (l : List Dd) : Prop := w.ownsRow base 37 9 v l.length (dcs l)
theorem OwnD.nil (w : World) (base : Nat) : OwnD w base (.slice none 0 0) [] := World.ownsRow_nil _ _ _ _
theorem OwnD.own {w : World} {base : Nat} {v : Value} {l : List Dd} (h : OwnD w base v l) : ∀ k, v.ownBlock = some k → base ≤ k ∧ k < w.heap.size := fun k hk => World.ownsRow.lt h k hk
theorem OwnD.kept {w w' : World} {base : Nat} {v : Value} {l : List Dd} (h : OwnD w base v l) (hb : ∀ k, v.ownBlock = some k → w'.heap[k]? = w.heap[k]?) : OwnD w' base v l := by
  refine ⟨h.1, ?_⟩
  rcases h.2 with h1 | ⟨g, cap, cur, rfl, hbg, hg, rest⟩
  · exact .inl h1
  · exact .inr ⟨g, cap, cur, rfl, hbg, (hb g rfl).trans hg, rest⟩
theorem OwnD.keep {w w' : World} {base : Nat} {v : Value} {l : List Dd} (h : OwnD w base v l) (hb : Below w.heap.size w w') : OwnD w' base v l := h.kept fun k hk => hb.block k (h.own k hk).2
theorem OwnD.base {w : World} {a b : Nat} {v : Value} {l : List Dd} (h : OwnD w b v l) (hab : a ≤ b) : OwnD w a v l := by
  refine ⟨h.1, ?_⟩
  rcases h.2 with h1 | ⟨g, cap, cur, rfl, hbg, rest⟩
  · exact .inl h1
  · exact .inr ⟨g, cap, cur, rfl, Nat.le_trans hab hbg, rest⟩
theorem OwnD.slice {w : World} {base : Nat} {v : Value} {l : List Dd} (h : OwnD w base v l) : ∃ a c, v = .slice a l.length c ∧ InD w a l ∧ l.length ≤ c ∧ c ≤ 9223372036854775807 ∧ (a = none → c = 0) ∧ (∀ q, a = some q → base ≤ q.block ∧ q.block < w.heap.size) := by
  rcases h.2 with ⟨rfl, hn⟩ | ⟨g, cap, cur, rfl, hb, hg, hl, hm, hs, ht⟩
  · have : l = [] := List.length_eq_zero_iff.1 hn
    subst this
    exact ⟨none, 0, rfl, .inl rfl, by simp, by omega, fun _ => rfl, fun q hq => by cases hq⟩
  · simp only [maxLen] at hm
    refine ⟨_, _, rfl, .inr ⟨g, 0, rfl, (h.own g rfl).2, fun i x hx => ?_⟩, hl, by omega, (fun e => by cases e), fun q hq => by cases hq; exact ⟨hb, (h.own g rfl).2⟩⟩
    have hc : ∀ k v, k < 9 → (dcl x)[k]? = some v → w.cell? ⟨g, 0 + i * 9 + k, none⟩ = some v := by
      intro k v hk hv
      have := World.ownsRow.cells h (g := g) rfl (i * 9 + k) v (by rw [dcs_at l i x hx k hk]; exact hv)
      rw [add_plain, Nat.zero_add] at this
      rw [Nat.zero_add]
      exact this
    exact ⟨hc 0 _ (by omega) rfl, hc 1 _ (by omega) rfl, hc 2 _ (by omega) rfl, hc 3 _ (by omega) rfl, hc 4 _ (by omega) rfl, hc 5 _ (by omega) rfl, hc 6 _ (by omega) rfl, hc 7 _ (by omega) rfl, hc 8 _ (by omega) rfl⟩
theorem infoD : ∃ i, Try.prog.info? 37 = some i ∧ i.zero = some (.agg #[.int .i64 0, .int .i64 0, .slice none 0 0, .int .i64 0, .int .i64 0, .int .i64 0, .int .i64 0, .bool false, .slice none 0 0]) ∧ i.size = 9 ∧ i.bytes = 104 := info_parts (show (Try.prog.info? 37).map (fun i => (i.zero, i.size, i.bytes)) = some (some (.agg #[.int .i64 0, .int .i64 0, .slice none 0 0, .int .i64 0, .int .i64 0, .int .i64 0, .int .i64 0, .bool false, .slice none 0 0]), 9, 104) by kernel_rfl)
theorem dc_cells {w : World} {g : Nat} {x : Dd} {t : TypeId} (h : w.heap[g]? = some (.cells (dC x) t)) : Dc w g 0 x := by
  refine ⟨?_, ?_, ?_, ?_, ?_, ?_, ?_, ?_, ?_⟩ <;> simp [World.cell?, h, dC]
theorem append_deed {w : World} {ops : Array Oper} {rest : List Oper} {o : Oper} {act : Act} {Q : Exit → Act → World → Prop} (hgd : o.guard = none) (s x : Operand)
    (ho : o.op = .call { callee := .builtin .append, args := #[s, x], argTypes := #[30, 30] })
    (base : Nat) (v : Value) (l : List Dd) (hs : act.eval s = v) (hown : OwnD w base v l)
    (g c : Nat) (y : Dd) (hx : act.eval x = .slice (some ⟨g, 0, none⟩) 1 c) (hc : w.heap[g]? = some (.cells (dC y) 37))
    (hN : l.length ≤ 1000000000) (hbase : base ≤ w.heap.size)
    (h : ∀ v' w', OwnD w' base v' (l ++ [y]) → w.grownBy w' v.ownBlock → (v'.ownBlock = v.ownBlock ∨ v'.ownBlock = some w.heap.size) → wpList Try.prog ops Q rest (act.put o.dst v') w') :
    wpList Try.prog ops Q (o :: rest) act w := by
  obtain ⟨i, hi, hz, h1, h2⟩ := infoD
  refine wpList_append_own_at w hgd s x 30 ho base 37 i _ 9 104 Try.underlying30 hi hz h1 h2 rfl (by decide) v l.length _ hs hown ⟨g, 0, none⟩ 1 c (dcl y) hx rfl ?_ (by simp [dcl, Value.oneCell']) (by simp only [maxLen]; omega) (by omega) hbase ?_
  · intro j u hu
    obtain ⟨h0, h1, h2, h3, h4, h5, h6, h7, h8⟩ := dc_cells hc
    rw [add_plain, Nat.zero_add]
    have hj : j < 9 := by
      have := (List.getElem?_eq_some_iff.1 hu).1
      simpa [dcl] using this
    rcases (by omega : j = 0 ∨ j = 1 ∨ j = 2 ∨ j = 3 ∨ j = 4 ∨ j = 5 ∨ j = 6 ∨ j = 7 ∨ j = 8) with rfl | rfl | rfl | rfl | rfl | rfl | rfl | rfl | rfl <;> (simp [dcl] at hu; subst hu; assumption)
  · intro v' w' hown' hg _ hat
    refine h v' w' ?_ hg hat
    unfold OwnD
    rw [List.length_append]
    have : dcs (l ++ [y]) = dcs l ++ dcl y := by simp [dcs]
    rw [this]
    exact hown'
end Go.Proofs.Ytmokonaodoiflaa
