/- Messages (api.Msg) in memory: slices that may be read, slices of one's own. -/
import Derived.Test.YtokakhlkanakcaaWrA
import Derived.OwnWalk
namespace Go.Proofs.Ytokakhlkanakcaa
open Go.ChangeShapes Go.WideShapes Go.ChangeAt Go.RowKit Go.Deep
set_option linter.unusedVariables false
/-- a message's cells: kind, from, to, txn, yes, and where its packages lie -/
structure Mv where
  k : Int
  f : Int
  t : Int
  x : Int
  y : Bool
  pa : Option Addr
  pn : Nat
  pc : Nat
def noM : Mv := ⟨0, 0, 0, 0, false, none, 0, 0⟩
def mC (x : Mv) : Array Value := #[.int .i64 x.k, .int .i64 x.f, .int .i64 x.t, .int .i64 x.x, .bool x.y, .slice x.pa x.pn x.pc]
def mcl (x : Mv) : List Value := [.int .i64 x.k, .int .i64 x.f, .int .i64 x.t, .int .i64 x.x, .bool x.y, .slice x.pa x.pn x.pc]
def mcs (l : List Mv) : List Value := l.flatMap mcl
theorem mcs_len (l : List Mv) : (mcs l).length = l.length * 6 := by
  induction l with
  | nil => rfl
  | cons x l ih => simp only [mcs, List.flatMap_cons, List.length_append, List.length_cons] at ih ⊢; rw [ih]; simp [mcl]; omega
theorem mcs_at (l : List Mv) (i : Nat) (x : Mv) (h : l[i]? = some x) (k : Nat) (hk : k < 6) : (mcs l)[i * 6 + k]? = (mcl x)[k]? := by
  induction l generalizing i with
  | nil => simp at h
  | cons y l ih =>
    cases i with
    | zero =>
      simp at h
      subst h
      simp only [mcs, List.flatMap_cons, Nat.zero_mul, Nat.zero_add]
      rw [List.getElem?_append_left (by simp [mcl]; omega)]
    | succ i =>
      simp only [List.getElem?_cons_succ] at h
      have := ih i h
      simp only [mcs, List.flatMap_cons] at this ⊢
      rw [List.getElem?_append_right (by simp [mcl]; omega), ← this]
      congr 1
      simp [mcl]
      omega
/-- a message's cells -/
def Mc (w : World) (b o : Nat) (x : Mv) : Prop := w.cell? ⟨b, o, none⟩ = some (.int .i64 x.k) ∧ w.cell? ⟨b, o + 1, none⟩ = some (.int .i64 x.f) ∧ w.cell? ⟨b, o + 2, none⟩ = some (.int .i64 x.t) ∧ w.cell? ⟨b, o + 3, none⟩ = some (.int .i64 x.x) ∧ w.cell? ⟨b, o + 4, none⟩ = some (.bool x.y) ∧ w.cell? ⟨b, o + 5, none⟩ = some (.slice x.pa x.pn x.pc)
theorem Mc.kept {w w' : World} {b o : Nat} {x : Mv} (h : Mc w b o x) (hb : w'.heap[b]? = w.heap[b]?) : Mc w' b o x :=
  ⟨(World.cell?_of_block (a := ⟨b, o, none⟩) hb).trans h.1, (World.cell?_of_block (a := ⟨b, o + 1, none⟩) hb).trans h.2.1, (World.cell?_of_block (a := ⟨b, o + 2, none⟩) hb).trans h.2.2.1, (World.cell?_of_block (a := ⟨b, o + 3, none⟩) hb).trans h.2.2.2.1, (World.cell?_of_block (a := ⟨b, o + 4, none⟩) hb).trans h.2.2.2.2.1, (World.cell?_of_block (a := ⟨b, o + 5, none⟩) hb).trans h.2.2.2.2.2⟩
/-- a slice of messages may be read -/
def InM (w : World) (a : Option Addr) (l : List Mv) : Prop := l = [] ∨ ∃ b off, a = some ⟨b, off, none⟩ ∧ b < w.heap.size ∧ ∀ i x, l[i]? = some x → Mc w b (off + i * 6) x
theorem InM.kept {w w' : World} {a : Option Addr} {l : List Mv} (h : InM w a l) (hs : w.heap.size ≤ w'.heap.size) (hb : ∀ x, a = some x → l ≠ [] → w'.heap[x.block]? = w.heap[x.block]?) : InM w' a l := by
  rcases h with h | ⟨b, off, rfl, h1, h2⟩
  · exact .inl h
  · by_cases hl : l = []
    · exact .inl hl
    · exact .inr ⟨b, off, rfl, Nat.lt_of_lt_of_le h1 hs, fun i x hx => (h2 i x hx).kept (hb _ rfl hl)⟩
theorem InM.lt {w : World} {a : Option Addr} {l : List Mv} (h : InM w a l) : ∀ x, a = some x → l ≠ [] → x.block < w.heap.size := by
  intro x hx hl
  rcases h with h | ⟨b, off, rfl, h1, h2⟩
  · exact absurd h hl
  · cases hx; exact h1
theorem InM.keep {w w' : World} {a : Option Addr} {l : List Mv} (h : InM w a l) (hb : Below w.heap.size w w') : InM w' a l := h.kept hb.size fun x hx hl => hb.block _ (h.lt x hx hl)
theorem InM.at {w : World} {a : Option Addr} {l : List Mv} (h : InM w a l) {i : Nat} {x : Mv} (hx : l[i]? = some x) : ∃ b off, a = some ⟨b, off, none⟩ ∧ b < w.heap.size ∧ Mc w b (off + i * 6) x := by
  rcases h with h | ⟨b, off, e, h1, h2⟩
  · rw [h] at hx; cases hx
  · exact ⟨b, off, e, h1, h2 i x hx⟩
/-- a slice of messages of one's own, from block 'base' on -/
def OwnM (w : World) (base : Nat) (v : Value) (l : List Mv) : Prop := w.ownsRow base 31 6 v l.length (mcs l)
theorem OwnM.nil (w : World) (base : Nat) : OwnM w base (.slice none 0 0) [] := World.ownsRow_nil _ _ _ _
theorem OwnM.own {w : World} {base : Nat} {v : Value} {l : List Mv} (h : OwnM w base v l) : ∀ k, v.ownBlock = some k → base ≤ k ∧ k < w.heap.size := fun k hk => World.ownsRow.lt h k hk
theorem OwnM.kept {w w' : World} {base : Nat} {v : Value} {l : List Mv} (h : OwnM w base v l) (hb : ∀ k, v.ownBlock = some k → w'.heap[k]? = w.heap[k]?) : OwnM w' base v l := by
  refine ⟨h.1, ?_⟩
  rcases h.2 with h1 | ⟨g, cap, cur, rfl, hbg, hg, rest⟩
  · exact .inl h1
  · exact .inr ⟨g, cap, cur, rfl, hbg, (hb g rfl).trans hg, rest⟩
theorem OwnM.keep {w w' : World} {base : Nat} {v : Value} {l : List Mv} (h : OwnM w base v l) (hb : Below w.heap.size w w') : OwnM w' base v l := h.kept fun k hk => hb.block k (h.own k hk).2
theorem OwnM.base {w : World} {a b : Nat} {v : Value} {l : List Mv} (h : OwnM w b v l) (hab : a ≤ b) : OwnM w a v l := by
  refine ⟨h.1, ?_⟩
  rcases h.2 with h1 | ⟨g, cap, cur, rfl, hbg, rest⟩
  · exact .inl h1
  · exact .inr ⟨g, cap, cur, rfl, Nat.le_trans hab hbg, rest⟩
theorem OwnM.slice {w : World} {base : Nat} {v : Value} {l : List Mv} (h : OwnM w base v l) : ∃ a c, v = .slice a l.length c ∧ InM w a l ∧ l.length ≤ c ∧ c ≤ 9223372036854775807 ∧ (a = none → c = 0 ∧ l = []) ∧ ∀ x, a = some x → base ≤ x.block ∧ x.block < w.heap.size := by
  rcases h.2 with ⟨rfl, hn⟩ | ⟨g, cap, cur, rfl, hb, hg, hl, hm, hs, ht⟩
  · have : l = [] := List.length_eq_zero_iff.1 hn
    subst this
    exact ⟨none, 0, rfl, .inl rfl, by simp, by omega, fun _ => ⟨rfl, rfl⟩, fun x hx => by cases hx⟩
  · simp only [maxLen] at hm
    refine ⟨_, _, rfl, .inr ⟨g, 0, rfl, (h.own g rfl).2, fun i x hx => ?_⟩, hl, by omega, fun h => by simp at h, fun x hx => by cases hx; exact h.own g rfl⟩
    have hc : ∀ k v, k < 6 → (mcl x)[k]? = some v → w.cell? ⟨g, 0 + i * 6 + k, none⟩ = some v := by
      intro k v hk hv
      have := World.ownsRow.cells h (g := g) rfl (i * 6 + k) v (by rw [mcs_at l i x hx k hk]; exact hv)
      rw [add_plain, Nat.zero_add] at this
      rw [Nat.zero_add]
      exact this
    exact ⟨hc 0 _ (by omega) rfl, hc 1 _ (by omega) rfl, hc 2 _ (by omega) rfl, hc 3 _ (by omega) rfl, hc 4 _ (by omega) rfl, hc 5 _ (by omega) rfl⟩
theorem infoM : ∃ i, Try.prog.info? 31 = some i ∧ i.zero = some (.agg #[.int .i64 0, .int .i64 0, .int .i64 0, .int .i64 0, .bool false, .slice none 0 0]) ∧ i.size = 6 ∧ i.bytes = 64 := info_parts (show (Try.prog.info? 31).map (fun i => (i.zero, i.size, i.bytes)) = some (some (.agg #[.int .i64 0, .int .i64 0, .int .i64 0, .int .i64 0, .bool false, .slice none 0 0]), 6, 64) by kernel_rfl)
theorem mc_cells {w : World} {g : Nat} {x : Mv} {t : TypeId} (h : w.heap[g]? = some (.cells (mC x) t)) : Mc w g 0 x := by
  refine ⟨?_, ?_, ?_, ?_, ?_, ?_⟩ <;> simp [World.cell?, h, mC]
theorem append_msg {w : World} {ops : Array Oper} {rest : List Oper} {o : Oper} {act : Act} {Q : Exit → Act → World → Prop} (hgd : o.guard = none) (s x : Operand)
    (ho : o.op = .call { callee := .builtin .append, args := #[s, x], argTypes := #[26, 26] })
    (base : Nat) (v : Value) (l : List Mv) (hs : act.eval s = v) (hown : OwnM w base v l)
    (g c : Nat) (y : Mv) (hx : act.eval x = .slice (some ⟨g, 0, none⟩) 1 c) (hc : w.heap[g]? = some (.cells (mC y) 31))
    (hN : l.length ≤ 1000000000) (hbase : base ≤ w.heap.size)
    (h : ∀ v' w', OwnM w' base v' (l ++ [y]) → w.grownBy w' v.ownBlock → wpList Try.prog ops Q rest (act.put o.dst v') w') :
    wpList Try.prog ops Q (o :: rest) act w := by
  obtain ⟨i, hi, hz, h1, h2⟩ := infoM
  refine wpList_append_own w hgd s x 26 ho base 31 i _ 6 64 Try.underlying26 hi hz h1 h2 rfl (by decide) v l.length _ hs hown ⟨g, 0, none⟩ 1 c (mcl y) hx rfl ?_ (by simp [mcl, Value.oneCell']) (by simp only [maxLen]; omega) (by omega) hbase ?_
  · intro j u hu
    obtain ⟨h0, h1, h2, h3, h4, h5⟩ := mc_cells hc
    rw [add_plain, Nat.zero_add]
    have hj : j < 6 := by
      have := (List.getElem?_eq_some_iff.1 hu).1
      simpa [mcl] using this
    rcases (by omega : j = 0 ∨ j = 1 ∨ j = 2 ∨ j = 3 ∨ j = 4 ∨ j = 5) with rfl | rfl | rfl | rfl | rfl | rfl <;> (simp [mcl] at hu; subst hu; assumption)
  · intro v' w' hown' hg _
    refine h v' w' ?_ hg
    unfold OwnM
    rw [List.length_append]
    have : mcs (l ++ [y]) = mcs l ++ mcl y := by simp [mcs]
    rw [this]
    exact hown'
theorem append_msgs {w : World} {ops : Array Oper} {rest : List Oper} {o : Oper} {act : Act} {Q : Exit → Act → World → Prop} (hgd : o.guard = none) (s x : Operand)
    (ho : o.op = .call { callee := .builtin .append, args := #[s, x], argTypes := #[26, 26] })
    (base : Nat) (v : Value) (l : List Mv) (hs : act.eval s = v) (hown : OwnM w base v l)
    (a : Option Addr) (m c : Nat) (y : List Mv) (hx : act.eval x = .slice a m c) (hm : y.length = m) (hin : InM w a y) (ha : a = none → m = 0 ∧ c = 0)
    (hN : l.length + m ≤ 1000000000) (hbase : base ≤ w.heap.size)
    (h : ∀ v' w', OwnM w' base v' (l ++ y) → w.grownBy w' v.ownBlock → wpList Try.prog ops Q rest (act.put o.dst v') w') :
    wpList Try.prog ops Q (o :: rest) act w := by
  obtain ⟨i, hi, hz, h1, h2⟩ := infoM
  cases a with
  | none =>
    obtain ⟨rfl, rfl⟩ := ha rfl
    obtain rfl : y = [] := List.length_eq_zero_iff.1 hm
    refine wpList_append_own_none hgd s x 26 ho base 31 i 6 Try.underlying26 hi _ _ _ hs hown hx ?_
    exact h _ _ (by rw [List.append_nil]; exact hown) ⟨rfl, rfl, rfl, Nat.le_refl _, fun _ _ _ => rfl⟩
  | some x' =>
    refine wpList_append_own w hgd s x 26 ho base 31 i _ 6 64 Try.underlying26 hi hz h1 h2 rfl (by decide) v l.length _ hs hown x' m c (mcs y) hx (by rw [mcs_len, hm]) ?_ ?_ (by simp only [maxLen]; omega) (by omega) hbase ?_
    · intro j u hu
      have hj : j < y.length * 6 := by
        have := (List.getElem?_eq_some_iff.1 hu).1
        rwa [mcs_len] at this
      rcases hin with e | ⟨b, off, e, _, hc⟩
      · rw [e] at hj; simp at hj
      · cases e
        have hj3 : j / 6 < y.length := by omega
        have hx3 : y[j / 6]? = some y[j / 6] := List.getElem?_eq_getElem hj3
        have hp := mcs_at y (j / 6) _ hx3 (j % 6) (by omega)
        rw [show j / 6 * 6 + j % 6 = j by omega, hu] at hp
        obtain ⟨c0, c1, c2, c3, c4, c5⟩ := hc _ _ hx3
        rw [add_plain]
        rcases (by omega : j % 6 = 0 ∨ j % 6 = 1 ∨ j % 6 = 2 ∨ j % 6 = 3 ∨ j % 6 = 4 ∨ j % 6 = 5) with e | e | e | e | e | e <;> rw [e] at hp
        · rw [show off + j = off + j / 6 * 6 by omega, c0]; exact hp.symm
        · rw [show off + j = off + j / 6 * 6 + 1 by omega, c1]; exact hp.symm
        · rw [show off + j = off + j / 6 * 6 + 2 by omega, c2]; exact hp.symm
        · rw [show off + j = off + j / 6 * 6 + 3 by omega, c3]; exact hp.symm
        · rw [show off + j = off + j / 6 * 6 + 4 by omega, c4]; exact hp.symm
        · rw [show off + j = off + j / 6 * 6 + 5 by omega, c5]; exact hp.symm
    · intro u hu
      obtain ⟨p, _, hp⟩ := List.mem_flatMap.1 hu
      simp [mcl] at hp
      rcases hp with rfl | rfl | rfl | rfl | rfl | rfl <;> rfl
    · intro v' w' hown' hg _
      refine h v' w' ?_ hg
      unfold OwnM
      rw [List.length_append, hm]
      have : mcs (l ++ y) = mcs l ++ mcs y := by simp [mcs]
      rw [this]
      exact hown'
end Go.Proofs.Ytokakhlkanakcaa
