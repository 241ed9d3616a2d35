/- Rows of the document's tenants (gen_crt.py). -/
import Derived.Test.YtgfjhghhonaiiaaCpP
import Derived.Maps.AppendAt
namespace Go.Proofs.Ytgfjhghhonaiiaa
open Go.ChangeShapes Go.WideShapes Go.ChangeAt Go.RowKit Go.Deep Go.Maps
set_option linter.unusedVariables false
set_option linter.unusedSimpArgs false
/-- a tenant: its number, its quota, its roots -/
structure Tn where
  i : Int
  q : Int
  f : Nat → Bool
def tnC (x : Tn) : Array Value := #[.int .i64 x.i, .int .i64 x.q, .bool (x.f 0), .bool (x.f 1), .bool (x.f 2), .bool (x.f 3), .bool (x.f 4), .bool (x.f 5), .bool (x.f 6)]
def tnl (x : Tn) : List Value := [.int .i64 x.i, .int .i64 x.q, .bool (x.f 0), .bool (x.f 1), .bool (x.f 2), .bool (x.f 3), .bool (x.f 4), .bool (x.f 5), .bool (x.f 6)]
def tns (l : List Tn) : List Value := l.flatMap tnl
theorem tns_at (l : List Tn) (i : Nat) (x : Tn) (h : l[i]? = some x) (k : Nat) (hk : k < 9) : (tns l)[i * 9 + k]? = (tnl x)[k]? := by
  induction l generalizing i with
  | nil => simp at h
  | cons y l ih =>
    cases i with
    | zero =>
      simp at h
      subst h
      simp only [tns, List.flatMap_cons, Nat.zero_mul, Nat.zero_add]
      rw [List.getElem?_append_left (by simp [tnl]; omega)]
    | succ i =>
      simp only [List.getElem?_cons_succ] at h
      have := ih i h
      simp only [tns, List.flatMap_cons] at this ⊢
      rw [List.getElem?_append_right (by simp [tnl]; omega), ← this]
      congr 1
      simp [tnl]
      omega
def Tc (w : World) (b o : Nat) (x : Tn) : Prop := w.cell? ⟨b, o, none⟩ = some (.int .i64 x.i) ∧ w.cell? ⟨b, o + 1, none⟩ = some (.int .i64 x.q) ∧ w.cell? ⟨b, o + 2, none⟩ = some (.bool (x.f 0)) ∧ w.cell? ⟨b, o + 3, none⟩ = some (.bool (x.f 1)) ∧ w.cell? ⟨b, o + 4, none⟩ = some (.bool (x.f 2)) ∧ w.cell? ⟨b, o + 5, none⟩ = some (.bool (x.f 3)) ∧ w.cell? ⟨b, o + 6, none⟩ = some (.bool (x.f 4)) ∧ w.cell? ⟨b, o + 7, none⟩ = some (.bool (x.f 5)) ∧ w.cell? ⟨b, o + 8, none⟩ = some (.bool (x.f 6))
theorem Tc.kept {w w' : World} {b o : Nat} {x : Tn} (h : Tc w b o x) (hb : w'.heap[b]? = w.heap[b]?) : Tc w' b o x :=
  ⟨(World.cell?_of_block (a := ⟨b, o, none⟩) hb).trans h.1, (World.cell?_of_block (a := ⟨b, o + 1, none⟩) hb).trans h.2.1, (World.cell?_of_block (a := ⟨b, o + 2, none⟩) hb).trans h.2.2.1, (World.cell?_of_block (a := ⟨b, o + 3, none⟩) hb).trans h.2.2.2.1, (World.cell?_of_block (a := ⟨b, o + 4, none⟩) hb).trans h.2.2.2.2.1, (World.cell?_of_block (a := ⟨b, o + 5, none⟩) hb).trans h.2.2.2.2.2.1, (World.cell?_of_block (a := ⟨b, o + 6, none⟩) hb).trans h.2.2.2.2.2.2.1, (World.cell?_of_block (a := ⟨b, o + 7, none⟩) hb).trans h.2.2.2.2.2.2.2.1, (World.cell?_of_block (a := ⟨b, o + 8, none⟩) hb).trans h.2.2.2.2.2.2.2.2⟩
/-- a slice of deeds may be read -/
def InT (w : World) (a : Option Addr) (l : List Tn) : Prop := l = [] ∨ ∃ b off, a = some ⟨b, off, none⟩ ∧ b < w.heap.size ∧ ∀ i x, l[i]? = some x → Tc w b (off + i * 9) x
theorem InT.kept {w w' : World} {a : Option Addr} {l : List Tn} (h : InT w a l) (hs : w.heap.size ≤ w'.heap.size) (hb : ∀ q, a = some q → l ≠ [] → w'.heap[q.block]? = w.heap[q.block]?) : InT w' a l := by
  rcases h with h | ⟨b, off, rfl, h1, h2⟩
  · exact .inl h
  · by_cases hl : l = []
    · exact .inl hl
    · exact .inr ⟨b, off, rfl, Nat.lt_of_lt_of_le h1 hs, fun i x hx => (h2 i x hx).kept (hb ⟨b, off, none⟩ rfl hl)⟩
theorem InT.keep {w w' : World} {a : Option Addr} {l : List Tn} (h : InT w a l) (hb : Below w.heap.size w w') : InT w' a l := by
  rcases h with h | ⟨b, off, rfl, h1, h2⟩
  · exact .inl h
  · exact .inr ⟨b, off, rfl, Nat.lt_of_lt_of_le h1 hb.size, fun i x hx => (h2 i x hx).kept (hb.block b h1)⟩
theorem InT.at {w : World} {a : Option Addr} {l : List Tn} (h : InT w a l) {i : Nat} {x : Tn} (hx : l[i]? = some x) : ∃ b off, a = some ⟨b, off, none⟩ ∧ b < w.heap.size ∧ Tc w b (off + i * 9) x := by
  rcases h with h | ⟨b, off, e, h1, h2⟩
  · rw [h] at hx; cases hx
  · exact ⟨b, off, e, h1, h2 i x hx⟩
/-- a slice of deeds of one's own, from block 'base' on -/
def OwnT (w : World) (base : Nat) (v : Value) (l : List Tn) : Prop := w.ownsRow base 70 9 v l.length (tns l)
theorem OwnT.nil (w : World) (base : Nat) : OwnT w base (.slice none 0 0) [] := World.ownsRow_nil _ _ _ _
theorem OwnT.own {w : World} {base : Nat} {v : Value} {l : List Tn} (h : OwnT w base v l) : ∀ k, v.ownBlock = some k → base ≤ k ∧ k < w.heap.size := fun k hk => World.ownsRow.lt h k hk
theorem OwnT.kept {w w' : World} {base : Nat} {v : Value} {l : List Tn} (h : OwnT w base v l) (hb : ∀ k, v.ownBlock = some k → w'.heap[k]? = w.heap[k]?) : OwnT w' base v l := by
  refine ⟨h.1, ?_⟩
  rcases h.2 with h1 | ⟨g, cap, cur, rfl, hbg, hg, rest⟩
  · exact .inl h1
  · exact .inr ⟨g, cap, cur, rfl, hbg, (hb g rfl).trans hg, rest⟩
theorem OwnT.keep {w w' : World} {base : Nat} {v : Value} {l : List Tn} (h : OwnT w base v l) (hb : Below w.heap.size w w') : OwnT w' base v l := h.kept fun k hk => hb.block k (h.own k hk).2
theorem OwnT.base {w : World} {a b : Nat} {v : Value} {l : List Tn} (h : OwnT w b v l) (hab : a ≤ b) : OwnT w a v l := by
  refine ⟨h.1, ?_⟩
  rcases h.2 with h1 | ⟨g, cap, cur, rfl, hbg, rest⟩
  · exact .inl h1
  · exact .inr ⟨g, cap, cur, rfl, Nat.le_trans hab hbg, rest⟩
theorem OwnT.slice {w : World} {base : Nat} {v : Value} {l : List Tn} (h : OwnT w base v l) : ∃ a c, v = .slice a l.length c ∧ InT w a l ∧ l.length ≤ c ∧ c ≤ 9223372036854775807 ∧ (a = none → c = 0) ∧ (∀ q, a = some q → base ≤ q.block ∧ q.block < w.heap.size) := by
  rcases h.2 with ⟨rfl, hn⟩ | ⟨g, cap, cur, rfl, hb, hg, hl, hm, hs, ht⟩
  · have : l = [] := List.length_eq_zero_iff.1 hn
    subst this
    exact ⟨none, 0, rfl, .inl rfl, by simp, by omega, fun _ => rfl, fun q hq => by cases hq⟩
  · simp only [maxLen] at hm
    refine ⟨_, _, rfl, .inr ⟨g, 0, rfl, (h.own g rfl).2, fun i x hx => ?_⟩, hl, by omega, (fun e => by cases e), fun q hq => by cases hq; exact ⟨hb, (h.own g rfl).2⟩⟩
    have hc : ∀ k v, k < 9 → (tnl x)[k]? = some v → w.cell? ⟨g, 0 + i * 9 + k, none⟩ = some v := by
      intro k v hk hv
      have := World.ownsRow.cells h (g := g) rfl (i * 9 + k) v (by rw [tns_at l i x hx k hk]; exact hv)
      rw [add_plain, Nat.zero_add] at this
      rw [Nat.zero_add]
      exact this
    exact ⟨hc 0 _ (by omega) rfl, hc 1 _ (by omega) rfl, hc 2 _ (by omega) rfl, hc 3 _ (by omega) rfl, hc 4 _ (by omega) rfl, hc 5 _ (by omega) rfl, hc 6 _ (by omega) rfl, hc 7 _ (by omega) rfl, hc 8 _ (by omega) rfl⟩
theorem infoTn : ∃ i, Try.prog.info? 70 = some i ∧ i.zero = some (.agg #[.int .i64 0, .int .i64 0, .bool false, .bool false, .bool false, .bool false, .bool false, .bool false, .bool false]) ∧ i.size = 9 ∧ i.bytes = 24 := info_parts (show (Try.prog.info? 70).map (fun i => (i.zero, i.size, i.bytes)) = some (some (.agg #[.int .i64 0, .int .i64 0, .bool false, .bool false, .bool false, .bool false, .bool false, .bool false, .bool false]), 9, 24) by kernel_rfl)
theorem tc_cells {w : World} {g : Nat} {x : Tn} {t : TypeId} (h : w.heap[g]? = some (.cells (tnC x) t)) : Tc w g 0 x := by
  refine ⟨?_, ?_, ?_, ?_, ?_, ?_, ?_, ?_, ?_⟩ <;> simp [World.cell?, h, tnC]
theorem append_tn {w : World} {ops : Array Oper} {rest : List Oper} {o : Oper} {act : Act} {Q : Exit → Act → World → Prop} (hgd : o.guard = none) (s x : Operand)
    (ho : o.op = .call { callee := .builtin .append, args := #[s, x], argTypes := #[26, 26] })
    (base : Nat) (v : Value) (l : List Tn) (hs : act.eval s = v) (hown : OwnT w base v l)
    (g c : Nat) (y : Tn) (hx : act.eval x = .slice (some ⟨g, 0, none⟩) 1 c) (hc : w.heap[g]? = some (.cells (tnC y) 70))
    (hN : l.length ≤ 1000000000) (hbase : base ≤ w.heap.size)
    (h : ∀ v' w', OwnT w' base v' (l ++ [y]) → w.grownBy w' v.ownBlock → (v'.ownBlock = v.ownBlock ∨ v'.ownBlock = some w.heap.size) → wpList Try.prog ops Q rest (act.put o.dst v') w') :
    wpList Try.prog ops Q (o :: rest) act w := by
  obtain ⟨i, hi, hz, h1, h2⟩ := infoTn
  refine wpList_append_own_at w hgd s x 26 ho base 70 i _ 9 24 Try.underlying26 hi hz h1 h2 rfl (by decide) v l.length _ hs hown ⟨g, 0, none⟩ 1 c (tnl y) hx rfl ?_ (by simp [tnl, Value.oneCell']) (by simp only [maxLen]; omega) (by omega) hbase ?_
  · intro j u hu
    obtain ⟨h0, h1, h2, h3, h4, h5, h6, h7, h8⟩ := tc_cells hc
    rw [add_plain, Nat.zero_add]
    have hj : j < 9 := by
      have := (List.getElem?_eq_some_iff.1 hu).1
      simpa [tnl] using this
    rcases (by omega : j = 0 ∨ j = 1 ∨ j = 2 ∨ j = 3 ∨ j = 4 ∨ j = 5 ∨ j = 6 ∨ j = 7 ∨ j = 8) with rfl | rfl | rfl | rfl | rfl | rfl | rfl | rfl | rfl <;> (simp [tnl] at hu; subst hu; assumption)
  · intro v' w' hown' hg _ hat
    refine h v' w' ?_ hg hat
    unfold OwnT
    rw [List.length_append]
    have : tns (l ++ [y]) = tns l ++ tnl y := by simp [tns]
    rw [this]
    exact hown'
end Go.Proofs.Ytgfjhghhonaiiaa
