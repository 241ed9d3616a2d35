/- Rows of numbers. -/
import Derived.Test.YtmokonaodoiflaaWsF
import Derived.Test.YtmokonaodoiflaaWrB
import Derived.Lib.BufferMore
namespace Go.Proofs.Ytmokonaodoiflaa
open Go.ChangeShapes Go.WideShapes Go.ChangeAt Go.RowKit Go.Deep Go.Maps
set_option linter.unusedVariables false
set_option linter.unusedSimpArgs false
def zi (x : Int) : Value := .int .i64 x
/-- a slice of numbers may be read -/
def InZ (w : World) (a : Option Addr) (l : List Int) : Prop := l = [] ∨ ∃ b off, a = some ⟨b, off, none⟩ ∧ b < w.heap.size ∧ ∀ i x, l[i]? = some x → w.cell? ⟨b, off + i, none⟩ = some (.int .i64 x)
theorem InZ.kept {w w' : World} {a : Option Addr} {l : List Int} (h : InZ w a l) (hs : w.heap.size ≤ w'.heap.size) (hb : ∀ q, a = some q → l ≠ [] → w'.heap[q.block]? = w.heap[q.block]?) : InZ w' a l := by
  rcases h with h | ⟨b, off, rfl, h1, h2⟩
  · exact .inl h
  · by_cases hl : l = []
    · exact .inl hl
    · exact .inr ⟨b, off, rfl, Nat.lt_of_lt_of_le h1 hs, fun i x hx => (World.cell?_of_block (a := ⟨b, off + i, none⟩) (hb ⟨b, off, none⟩ rfl hl)).trans (h2 i x hx)⟩
theorem InZ.keep {w w' : World} {a : Option Addr} {l : List Int} (h : InZ w a l) (hb : Below w.heap.size w w') : InZ w' a l := by
  rcases h with h | ⟨b, off, rfl, h1, h2⟩
  · exact .inl h
  · exact .inr ⟨b, off, rfl, Nat.lt_of_lt_of_le h1 hb.size, fun i x hx => (World.cell?_of_block (a := ⟨b, off + i, none⟩) (hb.block b h1)).trans (h2 i x hx)⟩
theorem InZ.at {w : World} {a : Option Addr} {l : List Int} (h : InZ w a l) {i : Nat} {x : Int} (hx : l[i]? = some x) : ∃ b off, a = some ⟨b, off, none⟩ ∧ b < w.heap.size ∧ w.cell? ⟨b, off + i, none⟩ = some (.int .i64 x) := by
  rcases h with h | ⟨b, off, e, h1, h2⟩
  · rw [h] at hx; cases hx
  · exact ⟨b, off, e, h1, h2 i x hx⟩
theorem InZ.take {w : World} {a : Option Addr} {l : List Int} (h : InZ w a l) (k : Nat) : InZ w a (l.take k) := by
  rcases h with h | ⟨b, off, e, h1, h2⟩
  · rw [h]; exact .inl (by simp)
  · exact .inr ⟨b, off, e, h1, fun i x hx => h2 i x (by rw [List.getElem?_take] at hx; split at hx <;> simp_all)⟩
/-- a slice of numbers of one's own, from block 'base' on -/
def OwnZ (w : World) (base : Nat) (v : Value) (l : List Int) : Prop := w.ownsRow base 3 1 v l.length (l.map zi)
theorem OwnZ.nil (w : World) (base : Nat) : OwnZ w base (.slice none 0 0) [] := World.ownsRow_nil _ _ _ _
theorem OwnZ.own {w : World} {base : Nat} {v : Value} {l : List Int} (h : OwnZ w base v l) : ∀ k, v.ownBlock = some k → base ≤ k ∧ k < w.heap.size := fun k hk => World.ownsRow.lt h k hk
theorem OwnZ.kept {w w' : World} {base : Nat} {v : Value} {l : List Int} (h : OwnZ w base v l) (hb : ∀ k, v.ownBlock = some k → w'.heap[k]? = w.heap[k]?) : OwnZ w' base v l := by
  refine ⟨h.1, ?_⟩
  rcases h.2 with h1 | ⟨g, cap, cur, rfl, hbg, hg, rest⟩
  · exact .inl h1
  · exact .inr ⟨g, cap, cur, rfl, hbg, (hb g rfl).trans hg, rest⟩
theorem OwnZ.keep {w w' : World} {base : Nat} {v : Value} {l : List Int} (h : OwnZ w base v l) (hb : Below w.heap.size w w') : OwnZ w' base v l := h.kept fun k hk => hb.block k (h.own k hk).2
theorem OwnZ.base {w : World} {a b : Nat} {v : Value} {l : List Int} (h : OwnZ w b v l) (hab : a ≤ b) : OwnZ w a v l := by
  refine ⟨h.1, ?_⟩
  rcases h.2 with h1 | ⟨g, cap, cur, rfl, hbg, rest⟩
  · exact .inl h1
  · exact .inr ⟨g, cap, cur, rfl, Nat.le_trans hab hbg, rest⟩
theorem OwnZ.slice {w : World} {base : Nat} {v : Value} {l : List Int} (h : OwnZ w base v l) : ∃ a c, v = .slice a l.length c ∧ InZ w a l ∧ l.length ≤ c ∧ c ≤ 9223372036854775807 ∧ (a = none → c = 0) ∧ (∀ q, a = some q → base ≤ q.block ∧ q.block < w.heap.size ∧ ∃ cs, w.heap[q.block]? = some (.cells cs 3)) := by
  rcases h.2 with ⟨rfl, hn⟩ | ⟨g, cap, cur, rfl, hb, hg, hl, hm, hs, ht⟩
  · have : l = [] := List.length_eq_zero_iff.1 hn
    subst this
    exact ⟨none, 0, rfl, .inl rfl, by simp, by omega, fun _ => rfl, fun q hq => by cases hq⟩
  · simp only [maxLen] at hm
    refine ⟨_, _, rfl, .inr ⟨g, 0, rfl, (h.own g rfl).2, fun i x hx => ?_⟩, hl, by omega, (fun e => by cases e), fun q hq => by cases hq; exact ⟨hb, (h.own g rfl).2, cur, hg⟩⟩
    have := World.ownsRow.cells h (g := g) rfl i (.int .i64 x) (by rw [List.getElem?_map, hx]; rfl)
    rw [add_plain, Nat.zero_add] at this
    rw [Nat.zero_add]
    exact this
theorem infoZ : ∃ i, Try.prog.info? 3 = some i ∧ i.zero = some (.int .i64 0) ∧ i.size = 1 ∧ i.bytes = 8 := info_parts (show (Try.prog.info? 3).map (fun i => (i.zero, i.size, i.bytes)) = some (some (.int .i64 0), 1, 8) by kernel_rfl)
theorem append_ints {w : World} {ops : Array Oper} {rest : List Oper} {o : Oper} {act : Act} {Q : Exit → Act → World → Prop} (hgd : o.guard = none) (s x : Operand)
    (ho : o.op = .call { callee := .builtin .append, args := #[s, x], argTypes := #[22, 22] })
    (base : Nat) (v : Value) (l : List Int) (hs : act.eval s = v) (hown : OwnZ w base v l)
    (a : Option Addr) (n c : Nat) (m : List Int) (hx : act.eval x = .slice a n c) (hm : m.length = n) (hin : InZ w a m) (ha : a = none → n = 0 ∧ c = 0)
    (hN : l.length + n ≤ 17592186044416) (hbase : base ≤ w.heap.size)
    (h : ∀ v' w', OwnZ w' base v' (l ++ m) → w.grownBy w' v.ownBlock → wpList Try.prog ops Q rest (act.put o.dst v') w') :
    wpList Try.prog ops Q (o :: rest) act w := by
  obtain ⟨i, hi, hz, h1, h2⟩ := infoZ
  cases a with
  | none =>
    obtain ⟨rfl, rfl⟩ := ha rfl
    obtain rfl : m = [] := List.length_eq_zero_iff.1 hm
    refine wpList_append_own_none hgd s x 22 ho base 3 i 1 Try.underlying22 hi _ _ _ hs hown hx ?_
    exact h _ _ (by rw [List.append_nil]; exact hown) ⟨rfl, rfl, rfl, Nat.le_refl _, fun _ _ _ => rfl⟩
  | some ad =>
    refine wpList_append_own w hgd s x 22 ho base 3 i _ 1 8 Try.underlying22 hi hz h1 h2 rfl (by decide) v l.length _ hs hown ad n c (m.map zi) hx (by simp [hm]) ?_ (by simp [Value.oneCell', zi]) (by simp only [maxLen]; omega) (by omega) hbase ?_
    · intro j u hu
      rw [List.getElem?_map] at hu
      obtain ⟨y, hy, rfl⟩ := Option.map_eq_some_iff.1 hu
      obtain ⟨b, off, e, _, hc⟩ := hin.at hy
      cases e
      rw [add_plain]
      exact hc
    · intro v' w' hown' hg _
      refine h v' w' ?_ hg
      unfold OwnZ
      rw [List.length_append, List.map_append, hm]
      exact hown'
set_option maxRecDepth 100000 in
theorem cloneZ_none (w : World) : Calls Try.prog 34 #[.slice none 0 0] w fun e w' => e = .returned (.slice none 0 0) ∧ w' = w := by
  have hnil : ∀ W, (binOp .eql 22 (.slice none 0 0) (.slice none 0 0)).run Try.prog W = .ok (.bool true) W := fun W => Lib.run_eql_slice_nil_nil W _ _ Try.underlying22
  go_enter Try.func34, Try.ntmps34
  go_wp2_with fail
  go_ret
  exact ⟨rfl, rfl⟩
set_option maxRecDepth 100000 in
theorem cloneZ_some (w : World) (q : Addr) (n c : Nat) (l : List Int) (hl : l.length = n) (hin : InZ w (some q) l) (hN : n ≤ 17592186044416) :
    Calls Try.prog 34 #[.slice (some q) n c] w fun e w' => ∃ v, e = .returned v ∧ OwnZ w' w.heap.size v l ∧ Below w.heap.size w w' := by
  have OE : Hid (OwnZ (w.alloc (.cells #[] 3)) w.heap.size (.slice (some ⟨w.heap.size, 0, none⟩) 0 0) []) := World.ownsRow_made (e := 3) (size := 1) (base := w.heap.size) w #[] 0 (by simp) (by simp) (by simp)
  have HI : Hid (InZ (w.alloc (.cells #[] 3)) (some q) l) := hin.keep (below1 w _)
  have HQ : Hid (l.length = n ∧ ([] : List Int).length + n ≤ 17592186044416 ∧ w.heap.size ≤ (w.alloc (.cells #[] 3)).heap.size) := ⟨hl, by simpa using hN, by simp⟩
  have HB : Hid (Below w.heap.size w (w.alloc (.cells #[] 3))) := below1 w _
  have hnil : ∀ W, (binOp .eql 22 (.slice (some q) n c) (.slice none 0 0)).run Try.prog W = .ok (.bool false) W := fun W => Lib.run_eql_slice_some_nil W _ _ _ Try.underlying22
  clear hl hin hN
  go_enter Try.func34, Try.ntmps34
  go_wp2_with (at_builtin; refine append_ints rfl (.tmp 5) (.tmp 6) rfl w.heap.size _ [] rfl OE.out (some q) n c l rfl HQ.out.1 HI.out (fun e => by cases e) HQ.out.2.1 HQ.out.2.2 ?_; intro v5 u5 o5 g5; have O5 : Hid (OwnZ u5 w.heap.size v5 l) := o5; have G5 : Hid (Below w.heap.size w u5) := HB.out.grown g5 (by simp) (fun k hk => by cases hk; exact Nat.le_refl _); clear o5 g5)
  go_ret
  exact ⟨v5, rfl, O5.out, G5.out⟩
/-- a copy of numbers: what it holds, and where -/
theorem cloneZ_is (w : World) (a : Option Addr) (n c : Nat) (l : List Int) (hl : l.length = n) (hin : InZ w a l) (ha : a = none → n = 0 ∧ c = 0) (hN : n ≤ 17592186044416) :
    Calls Try.prog 34 #[.slice a n c] w fun e w' => ∃ v, e = .returned v ∧ OwnZ w' w.heap.size v l ∧ Below w.heap.size w w' := by
  cases a with
  | none =>
    obtain ⟨rfl, rfl⟩ := ha rfl
    obtain rfl : l = [] := List.length_eq_zero_iff.1 hl
    refine (cloneZ_none w).mono ?_
    rintro e w' ⟨rfl, rfl⟩
    exact ⟨_, rfl, OwnZ.nil _ _, Below.refl _ _⟩
  | some q => exact cloneZ_some w q n c l hl hin hN
end Go.Proofs.Ytmokonaodoiflaa
