/- What the walks of a law are told of a slice of integers that came in, and two closed facts on the program. What any text on wire's memory needs. Rows of numbers. coord's map of transactions as a plain function. Paths as plain lists of bytes: pieces, parts, Clean, Less, In; of no program. Versions as plain lists of bytes: pieces at points, how two of them stand, and that this is one order; of no program. -/
import Derived.Test.YthaeidbnbgghkaaRows
import Derived.WalkKit
import Derived.ProofKit
import Derived.OpenShut
import Derived.ShutString
import Derived.ChangeOld
import Derived.Below
import Derived.SizedLaws
import Derived.WalkSpells
import Derived.WalkLawsBesides
import Derived.Outline
import Derived.LoopTactic
import Derived.Deep.LoopGhost
import Derived.Deep.OwnRows
import Derived.OwnWalk
import Derived.Laws.AppendOwnNone
import Derived.Lib.BufferMore
import Derived.Maps.Own
import Derived.Maps.OwnSet
import Derived.Maps.Views
import Derived.DeepKeys4
import Derived.Lib.Join
import Derived.Lib.Bytealg
namespace Go.Proofs.Ythaeidbnbgghkaa
open Go.ChangeShapes Go.WideShapes Go.ChangeAt Go.RowKit
set_option linter.unusedVariables false
theorem own : ownKnob Try.prog.godebug = none := by kernel_rfl
theorem bytes8 : Try.prog.bytesOf 5 = 1 := by kernel_rfl
theorem laidOut : laidOutB Try.prog = true := by kernel_rfl
/-- a slice of integers that came in: nil, or it leads to a row of 'cap' cells, the numbers zs (the first 'len' its elements), each fitting its kind -/
def IsRow (k : IntKind) (w : World) (a : Option Addr) (len cap : Nat) (zs : List Int) : Prop :=
  (a = none ∧ len = 0 ∧ cap = 0 ∧ zs = []) ∨
  ∃ x, a = some x ∧ len ≤ cap ∧ cap ≤ 140737488351232 ∧ zs.length = cap ∧ (∀ i, i < zs.length → w.cell? (x.add i) = some (.int k (zs.getD i 0))) ∧ ∀ n ∈ zs, (Lit.int k n).wf = true
theorem wf_i64 {n : Int} (h : (Lit.int .i64 n).wf = true) : -9223372036854775808 ≤ n ∧ n ≤ 9223372036854775807 := by
  exact bounds_i64 h
theorem wf_u64 {n : Int} (h : (Lit.int .u64 n).wf = true) : 0 ≤ n ∧ n ≤ 18446744073709551615 := by
  exact bounds_u64 h
theorem wf_u8 {n : Int} (h : (Lit.int .u8 n).wf = true) : 0 ≤ n ∧ n ≤ 255 := by
  exact bounds_u8 h
end Go.Proofs.Ythaeidbnbgghkaa
namespace Go.Proofs.Ythaeidbnbgghkaa
open Go.ChangeShapes Go.WideShapes Go.ChangeAt Go.RowKit Go.Deep
set_option linter.unusedVariables false
theorem add_plain (b off i : Nat) : (⟨b, off, none⟩ : Addr).add i = ⟨b, off + i, none⟩ := by unfold Addr.add; split <;> simp_all
theorem below1 (w : World) (c : Obj) : Below w.heap.size w (w.alloc c) := (Below.refl _ _).alloc (Nat.le_refl _) _
theorem below_drewN {B : Nat} {a w : World} (h : Below B a w) (n : Nat) : Below B a (w.drewN n) := h.trans ⟨rfl, rfl, rfl, Nat.le_refl _, fun _ _ => rfl⟩
theorem lt_of_heapK {w : World} {k : Nat} {o : Obj} (h : w.heap[k]? = some o) : k < w.heap.size := (Array.getElem?_eq_some_iff.1 h).1
theorem grown_setCell (w : World) (g i : Nat) (v : Value) : w.grownBy (w.setCell ⟨g, i, none⟩ v) (some g) := ⟨rfl, rfl, rfl, by simp [World.setCell], fun k hk hn => Below.heap_setCell _ _ _ _ (fun e => hn (by rw [e]))⟩
theorem set_off (w : World) (g i k : Nat) (v : Value) (hk : k ≠ g) : (w.setCell ⟨g, i, none⟩ v).heap[k]? = w.heap[k]? := Below.heap_setCell _ _ _ _ hk
theorem grown_none_below {a b : World} (h : a.grownBy b none) : Below a.heap.size a b := (Below.refl _ _).grown h (Nat.le_refl _) (fun k hk => by simp at hk)
def InI (p : Int) : Prop := -9223372036854775808 ≤ p ∧ p ≤ 9223372036854775807
/-- only what is in F, or is new, has changed -/
structure Off (F : Nat → Prop) (w w' : World) : Prop where
  os : w'.os = w.os
  tape : w'.tape = w.tape
  output : w'.output = w.output
  size : w.heap.size ≤ w'.heap.size
  block : ∀ k, k < w.heap.size → ¬ F k → w'.heap[k]? = w.heap[k]?
theorem Off.refl (F : Nat → Prop) (w : World) : Off F w w := ⟨rfl, rfl, rfl, Nat.le_refl _, fun _ _ _ => rfl⟩
theorem Off.grown {F : Nat → Prop} {a w w' : World} {row : Option Nat} (h : Off F a w) (hg : w.grownBy w' row) (hr : ∀ k, row = some k → F k ∨ a.heap.size ≤ k) : Off F a w' :=
  ⟨hg.os.trans h.os, hg.tape.trans h.tape, hg.output.trans h.output, Nat.le_trans h.size hg.size, fun k hk hF => (hg.block k (Nat.lt_of_lt_of_le hk h.size) (fun e => by
    rcases hr k e.symm with h1 | h1
    · exact hF h1
    · omega)).trans (h.block k hk hF)⟩
theorem Off.andBelow {F : Nat → Prop} {a w w' : World} (h : Off F a w) (hb : Below w.heap.size w w') : Off F a w' :=
  ⟨hb.os.trans h.os, hb.tape.trans h.tape, hb.output.trans h.output, Nat.le_trans h.size hb.size, fun k hk hF => (hb.block k (Nat.lt_of_lt_of_le hk h.size)).trans (h.block k hk hF)⟩
theorem Off.trans {F G : Nat → Prop} {a w w' : World} (h : Off F a w) (g : Off G w w') (hG : ∀ k, G k → F k ∨ a.heap.size ≤ k) : Off F a w' :=
  ⟨g.os.trans h.os, g.tape.trans h.tape, g.output.trans h.output, Nat.le_trans h.size g.size, fun k hk hF => (g.block k (Nat.lt_of_lt_of_le hk h.size) (fun e => by
    rcases hG k e with h1 | h1
    · exact hF h1
    · omega)).trans (h.block k hk hF)⟩
theorem Off.below {F : Nat → Prop} {a w : World} {B : Nat} (h : Off F a w) (hF : ∀ k, F k → B ≤ k) (hB : B ≤ a.heap.size) : Below B a w :=
  ⟨h.os, h.tape, h.output, h.size, fun k hk => h.block k (by omega) (fun e => by have := hF k e; omega)⟩
theorem Off.ofBelow (F : Nat → Prop) {a w : World} (h : Below a.heap.size a w) : Off F a w := (Off.refl F a).andBelow h
end Go.Proofs.Ythaeidbnbgghkaa
namespace Go.Proofs.Ythaeidbnbgghkaa
open Go.ChangeShapes Go.WideShapes Go.ChangeAt Go.RowKit Go.Deep
set_option linter.unusedVariables false
set_option linter.unusedSimpArgs false
def zi (x : Int) : Value := .int .i64 x
/-- a slice of numbers may be read -/
def InZ (w : World) (a : Option Addr) (l : List Int) : Prop := l = [] ∨ ∃ b off, a = some ⟨b, off, none⟩ ∧ b < w.heap.size ∧ ∀ i x, l[i]? = some x → w.cell? ⟨b, off + i, none⟩ = some (.int .i64 x)
theorem InZ.kept {w w' : World} {a : Option Addr} {l : List Int} (h : InZ w a l) (hs : w.heap.size ≤ w'.heap.size) (hb : ∀ q, a = some q → l ≠ [] → w'.heap[q.block]? = w.heap[q.block]?) : InZ w' a l := by
  rcases h with h | ⟨b, off, rfl, h1, h2⟩
  · exact .inl h
  · by_cases hl : l = []
    · exact .inl hl
    · exact .inr ⟨b, off, rfl, Nat.lt_of_lt_of_le h1 hs, fun i x hx => (World.cell?_of_block (a := ⟨b, off + i, none⟩) (hb ⟨b, off, none⟩ rfl hl)).trans (h2 i x hx)⟩
theorem InZ.keep {w w' : World} {a : Option Addr} {l : List Int} (h : InZ w a l) (hb : Below w.heap.size w w') : InZ w' a l := by
  rcases h with h | ⟨b, off, rfl, h1, h2⟩
  · exact .inl h
  · exact .inr ⟨b, off, rfl, Nat.lt_of_lt_of_le h1 hb.size, fun i x hx => (World.cell?_of_block (a := ⟨b, off + i, none⟩) (hb.block b h1)).trans (h2 i x hx)⟩
theorem InZ.at {w : World} {a : Option Addr} {l : List Int} (h : InZ w a l) {i : Nat} {x : Int} (hx : l[i]? = some x) : ∃ b off, a = some ⟨b, off, none⟩ ∧ b < w.heap.size ∧ w.cell? ⟨b, off + i, none⟩ = some (.int .i64 x) := by
  rcases h with h | ⟨b, off, e, h1, h2⟩
  · rw [h] at hx; cases hx
  · exact ⟨b, off, e, h1, h2 i x hx⟩
theorem InZ.take {w : World} {a : Option Addr} {l : List Int} (h : InZ w a l) (k : Nat) : InZ w a (l.take k) := by
  rcases h with h | ⟨b, off, e, h1, h2⟩
  · rw [h]; exact .inl (by simp)
  · exact .inr ⟨b, off, e, h1, fun i x hx => h2 i x (by rw [List.getElem?_take] at hx; split at hx <;> simp_all)⟩
/-- a slice of numbers of one's own, from block 'base' on -/
def OwnZ (w : World) (base : Nat) (v : Value) (l : List Int) : Prop := w.ownsRow base 3 1 v l.length (l.map zi)
theorem OwnZ.nil (w : World) (base : Nat) : OwnZ w base (.slice none 0 0) [] := World.ownsRow_nil _ _ _ _
theorem OwnZ.own {w : World} {base : Nat} {v : Value} {l : List Int} (h : OwnZ w base v l) : ∀ k, v.ownBlock = some k → base ≤ k ∧ k < w.heap.size := fun k hk => World.ownsRow.lt h k hk
theorem OwnZ.kept {w w' : World} {base : Nat} {v : Value} {l : List Int} (h : OwnZ w base v l) (hb : ∀ k, v.ownBlock = some k → w'.heap[k]? = w.heap[k]?) : OwnZ w' base v l := by
  refine ⟨h.1, ?_⟩
  rcases h.2 with h1 | ⟨g, cap, cur, rfl, hbg, hg, rest⟩
  · exact .inl h1
  · exact .inr ⟨g, cap, cur, rfl, hbg, (hb g rfl).trans hg, rest⟩
theorem OwnZ.keep {w w' : World} {base : Nat} {v : Value} {l : List Int} (h : OwnZ w base v l) (hb : Below w.heap.size w w') : OwnZ w' base v l := h.kept fun k hk => hb.block k (h.own k hk).2
theorem OwnZ.base {w : World} {a b : Nat} {v : Value} {l : List Int} (h : OwnZ w b v l) (hab : a ≤ b) : OwnZ w a v l := by
  refine ⟨h.1, ?_⟩
  rcases h.2 with h1 | ⟨g, cap, cur, rfl, hbg, rest⟩
  · exact .inl h1
  · exact .inr ⟨g, cap, cur, rfl, Nat.le_trans hab hbg, rest⟩
theorem OwnZ.slice {w : World} {base : Nat} {v : Value} {l : List Int} (h : OwnZ w base v l) : ∃ a c, v = .slice a l.length c ∧ InZ w a l ∧ l.length ≤ c ∧ c ≤ 9223372036854775807 ∧ (a = none → c = 0) ∧ (∀ q, a = some q → base ≤ q.block ∧ q.block < w.heap.size ∧ ∃ cs, w.heap[q.block]? = some (.cells cs 3)) := by
  rcases h.2 with ⟨rfl, hn⟩ | ⟨g, cap, cur, rfl, hb, hg, hl, hm, hs, ht⟩
  · have : l = [] := List.length_eq_zero_iff.1 hn
    subst this
    exact ⟨none, 0, rfl, .inl rfl, by simp, by omega, fun _ => rfl, fun q hq => by cases hq⟩
  · simp only [maxLen] at hm
    refine ⟨_, _, rfl, .inr ⟨g, 0, rfl, (h.own g rfl).2, fun i x hx => ?_⟩, hl, by omega, (fun e => by cases e), fun q hq => by cases hq; exact ⟨hb, (h.own g rfl).2, cur, hg⟩⟩
    have := World.ownsRow.cells h (g := g) rfl i (.int .i64 x) (by rw [List.getElem?_map, hx]; rfl)
    rw [add_plain, Nat.zero_add] at this
    rw [Nat.zero_add]
    exact this
theorem infoZ : ∃ i, Try.prog.info? 3 = some i ∧ i.zero = some (.int .i64 0) ∧ i.size = 1 ∧ i.bytes = 8 := info_parts (show (Try.prog.info? 3).map (fun i => (i.zero, i.size, i.bytes)) = some (some (.int .i64 0), 1, 8) by kernel_rfl)
theorem append_ints {w : World} {ops : Array Oper} {rest : List Oper} {o : Oper} {act : Act} {Q : Exit → Act → World → Prop} (hgd : o.guard = none) (s x : Operand)
    (ho : o.op = .call { callee := .builtin .append, args := #[s, x], argTypes := #[39, 39] })
    (base : Nat) (v : Value) (l : List Int) (hs : act.eval s = v) (hown : OwnZ w base v l)
    (a : Option Addr) (n c : Nat) (m : List Int) (hx : act.eval x = .slice a n c) (hm : m.length = n) (hin : InZ w a m) (ha : a = none → n = 0 ∧ c = 0)
    (hN : l.length + n ≤ 17592186044416) (hbase : base ≤ w.heap.size)
    (h : ∀ v' w', OwnZ w' base v' (l ++ m) → w.grownBy w' v.ownBlock → wpList Try.prog ops Q rest (act.put o.dst v') w') :
    wpList Try.prog ops Q (o :: rest) act w := by
  obtain ⟨i, hi, hz, h1, h2⟩ := infoZ
  cases a with
  | none =>
    obtain ⟨rfl, rfl⟩ := ha rfl
    obtain rfl : m = [] := List.length_eq_zero_iff.1 hm
    refine wpList_append_own_none hgd s x 39 ho base 3 i 1 Try.underlying39 hi _ _ _ hs hown hx ?_
    exact h _ _ (by rw [List.append_nil]; exact hown) ⟨rfl, rfl, rfl, Nat.le_refl _, fun _ _ _ => rfl⟩
  | some ad =>
    refine wpList_append_own w hgd s x 39 ho base 3 i _ 1 8 Try.underlying39 hi hz h1 h2 rfl (by decide) v l.length _ hs hown ad n c (m.map zi) hx (by simp [hm]) ?_ (by simp [Value.oneCell', zi]) (by simp only [maxLen]; omega) (by omega) hbase ?_
    · intro j u hu
      rw [List.getElem?_map] at hu
      obtain ⟨y, hy, rfl⟩ := Option.map_eq_some_iff.1 hu
      obtain ⟨b, off, e, _, hc⟩ := hin.at hy
      cases e
      rw [add_plain]
      exact hc
    · intro v' w' hown' hg _
      refine h v' w' ?_ hg
      unfold OwnZ
      rw [List.length_append, List.map_append, hm]
      exact hown'
end Go.Proofs.Ythaeidbnbgghkaa
namespace Go.Proofs.Ythaeidbnbgghkaa
open Go.ChangeShapes Go.WideShapes Go.ChangeAt Go.RowKit Go.Deep Go.Maps
set_option linter.unusedVariables false
def pv : Option Nat → Value
  | none => .pointer none
  | some b => .pointer (some ⟨b, 0, none⟩)
def pD : Option Nat → DataW Unit
  | none => .nil
  | some b => .lit (.int .i64 b)
def pR : Value → Option (DataW Unit × List MemPlace)
  | .pointer none => some (pD none, [])
  | .pointer (some ⟨b, 0, none⟩) => some (pD (some b), [])
  | _ => none
theorem pR_p (x : Option Nat) : pR (pv x) = some (pD x, []) := by cases x <;> rfl
theorem pR_inv {v : Value} {z : DataW Unit × List MemPlace} (h : pR v = some z) : ∃ x : Option Nat, v = pv x ∧ z = (pD x, []) := by
  unfold pR at h
  split at h
  · exact ⟨none, rfl, (Option.some.inj h).symm⟩
  · rename_i b
    exact ⟨some b, rfl, (Option.some.inj h).symm⟩
  · cases h
theorem pD_inj {x y : Option Nat} (h : pD x = pD y) : x = y := by
  cases x <;> cases y <;> simp_all [pD] <;> omega
theorem lawI : Keyed Try.prog 3 := int_keyed Try.underlying3
theorem zeroP (w : World) : (zeroValue 73).run Try.prog w = .ok (pv none) w := by kernel_rfl
theorem keyI (p : Int) (hp : InI p) : keyOf Try.prog 3 (.int .i64 p) = some (.int .i64 p) := keyOf_int_mk Try.underlying3 (WalkArith.wf_i64 hp)
theorem injI {q p : Int} (_ : InI q) (_ : InI p) (e : Lit.int .i64 q = Lit.int .i64 p) : q = p := by injection e
/-- a map's datum tells this function -/
def RepP (D : DataW Unit) (T : Int → Option (Option Nat)) : Prop := ∀ p, InI p → Maps.has D (Lit.int .i64 p) = (T p).isSome ∧ ∀ x, T p = some x → ∀ z, D.atKey (Lit.int .i64 p) z = pD x
/-- block b is a map that tells this function, of at most n entries -/
def ScP (w : World) (b n : Nat) (T : Int → Option (Option Nat)) : Prop := ∃ D, w.ownsMap Try.prog 3 pR b n D ∧ RepP D T
theorem RepP.put {D : DataW Unit} {T : Int → Option (Option Nat)} (h : RepP D T) (hm : IsMap D) (p : Int) (hp : InI p) (x : (Option Nat)) : RepP (D.put (Lit.int .i64 p) (pD x)) (fun q => if q = p then some x else T q) := by
  intro q hv
  by_cases hq : q = p
  · subst hq
    simp only [if_pos]
    refine ⟨by rw [has_put_same hm (k := Lit.int .i64 q) (trivial)]; rfl, fun y hy z => ?_⟩
    cases hy
    exact atKey_put_same hm (k := Lit.int .i64 q) (trivial) _ _
  · have hne : Lit.int .i64 q ≠ Lit.int .i64 p := fun e => hq (injI hv hp e)
    simp only [if_neg hq]
    refine ⟨by rw [has_put_other hne]; exact (h q hv).1, fun y hy z => ?_⟩
    rw [atKey_put_other hne]
    exact (h q hv).2 y hy z
theorem RepP.del {D : DataW Unit} {T : Int → Option (Option Nat)} (h : RepP D T) (p : Int) (hp : InI p) : RepP (D.del (Lit.int .i64 p)) (fun q => if q = p then none else T q) := by
  intro q hv
  by_cases hq : q = p
  · subst hq
    simp only [if_pos]
    exact ⟨by rw [has_del_same]; rfl, fun y hy => by cases hy⟩
  · have hne : Lit.int .i64 q ≠ Lit.int .i64 p := fun e => hq (injI hv hp e)
    simp only [if_neg hq]
    refine ⟨by rw [has_del_other hne]; exact (h q hv).1, fun y hy z => ?_⟩
    rw [atKey_del_other hne]
    exact (h q hv).2 y hy z
theorem RepP.at {D : DataW Unit} {T : Int → Option (Option Nat)} (h : RepP D T) (p : Int) (hv : InI p) : D.atKey (Lit.int .i64 p) (pD (none : Option Nat)) = pD ((T p).getD (none : Option Nat)) := by
  cases hp : T p with
  | none =>
    have := (h p hv).1
    rw [hp] at this
    rw [atKey_of_not_has (by simpa using this)]
    rfl
  | some x => exact (h p hv).2 x hp _
theorem ScP.empty (w : World) : ScP (w.alloc (.map #[] 0)) w.heap.size 0 (fun _ => none) := ⟨.map [], World.ownsMap_made w _ _ _, fun p _ => ⟨rfl, fun x hx => by cases hx⟩⟩
theorem ScP.mono {w : World} {b n n' : Nat} {T : Int → Option (Option Nat)} (h : ScP w b n T) (hn : n ≤ n') : ScP w b n' T := by
  obtain ⟨D, h1, h2⟩ := h
  exact ⟨D, h1.mono hn, h2⟩
theorem ScP.lt {w : World} {b n : Nat} {T : Int → Option (Option Nat)} (h : ScP w b n T) : b < w.heap.size := by
  obtain ⟨D, h1, h2⟩ := h
  exact h1.lt
theorem ScP.blk {w w' : World} {b n : Nat} {T : Int → Option (Option Nat)} (h : ScP w b n T) (hb : w'.heap[b]? = w.heap[b]?) : ScP w' b n T := by
  obtain ⟨D, ⟨es, clock, h1, r⟩, h2⟩ := h
  exact ⟨D, ⟨es, clock, hb.trans h1, r⟩, h2⟩
theorem ScP.keep {w w' : World} {b n : Nat} {T : Int → Option (Option Nat)} (h : ScP w b n T) (hb : Below w.heap.size w w') : ScP w' b n T := h.blk (hb.block b h.lt)
/-- 'm[k]' -/
theorem ScP.look {w : World} {b n : Nat} {T : Int → Option (Option Nat)} (h : ScP w b n T) (p : Int) (hp : InI p) : (Instr.lookup 29 (.map (some b)) (Value.int .i64 p) false).run Try.prog w = .ok (pv ((T p).getD (none : Option Nat))) w := by
  obtain ⟨D, h1, h2⟩ := h
  obtain ⟨v, ps, hrun, hv⟩ := h1.lookup lawI Try.underlying29 (zeroP w) (pR_p (none : Option Nat)) (keyI p hp)
  obtain ⟨x, rfl, hx⟩ := pR_inv hv
  simp only [Prod.mk.injEq] at hx
  rw [h2.at p hp] at hx
  rw [pD_inj hx.1]
  exact hrun
/-- 'v, ok := m[k]' -/
theorem ScP.look2 {w : World} {b n : Nat} {T : Int → Option (Option Nat)} (h : ScP w b n T) (p : Int) (hp : InI p) : (Instr.lookup 29 (.map (some b)) (Value.int .i64 p) true).run Try.prog w = .ok (.tuple #[pv ((T p).getD (none : Option Nat)), .bool (T p).isSome]) w := by
  obtain ⟨D, h1, h2⟩ := h
  obtain ⟨v, ps, hrun, hv⟩ := h1.look_ok lawI Try.underlying29 (zeroP w) (pR_p (none : Option Nat)) (keyI p hp)
  obtain ⟨x, rfl, hx⟩ := pR_inv hv
  simp only [Prod.mk.injEq] at hx
  rw [h2.at p hp] at hx
  rw [pD_inj hx.1, ← (h2 p hp).1]
  exact hrun
section
variable {ops : Array Oper} {rest : List Oper} {o : Oper} {a : Act} {Q : Exit → Act → World → Prop}
/-- 'm[k] = v' -/
theorem wpList_put_scp {w : World} (hg : o.guard = none) (m x v : Operand) (hop : o.op = Op.mapUpdate 29 m x v) (b n : Nat) (T : Int → Option (Option Nat)) (hm : a.eval m = .map (some b)) (hs : ScP w b n T) (hn : n < 4611686018427387904) (p : Int) (hp : InI p) (y : (Option Nat)) (hx : a.eval x = Value.int .i64 p) (hv' : a.eval v = pv y)
    (hK : ∀ w', ScP w' b (n + 1) (fun q => if q = p then some y else T q) → w.grownBy w' (some b) → wpList Try.prog ops Q rest (a.put o.dst undef) w') : wpList Try.prog ops Q (o :: rest) a w := by
  obtain ⟨D, h1, h2⟩ := hs
  refine wpList_mapUpdate_own w hg m x v 29 hop 3 73 lawI Try.underlying29 pR b n D hm h1 (by unfold maxLen; omega) _ _ _ hx hv' (keyI p hp) _ [] (pR_p y) ?_
  intro w' ho hgr
  exact hK w' ⟨_, ho, h2.put h1.isMap p hp y⟩ hgr
/-- 'delete(m, k)' -/
theorem wpList_del_scp {w : World} (hg : o.guard = none) (m x : Operand) (hop : o.op = Op.call { callee := Callee.builtin Builtin.delete, args := #[m, x], argTypes := #[29, 3] }) (b n : Nat) (T : Int → Option (Option Nat)) (hm : a.eval m = .map (some b)) (hs : ScP w b n T) (p : Int) (hp : InI p) (hx : a.eval x = Value.int .i64 p)
    (hK : ∀ w', ScP w' b n (fun q => if q = p then none else T q) → w.grownBy w' (some b) → wpList Try.prog ops Q rest (a.put o.dst (.tuple #[])) w') : wpList Try.prog ops Q (o :: rest) a w := by
  obtain ⟨D, h1, h2⟩ := hs
  refine wpList_delete_own w hg m x 29 3 hop 73 lawI Try.underlying29 pR b n D hm h1 _ _ hx (keyI p hp) ?_
  intro w' ho ht
  exact hK w' ⟨_, ho, h2.del p hp⟩ ht.grown
end
end Go.Proofs.Ythaeidbnbgghkaa
namespace Go.Proofs.Ythaeidbnbgghkaa
set_option linter.unusedVariables false
abbrev Tx := List UInt8
/-- the pieces of a text -/
def pcs : Tx → List Tx
  | [] => [[]]
  | b :: t => if b = 47 then [] :: pcs t else (b :: (pcs t).headD []) :: (pcs t).tail
theorem pcs_ne (s : Tx) : pcs s ≠ [] := by
  cases s with
  | nil => simp [pcs]
  | cons b t => unfold pcs; split <;> simp
theorem pcs_no (a : Tx) (h : (47 : UInt8) ∉ a) : pcs a = [a] := by
  induction a with
  | nil => rfl
  | cons b t ih =>
    have hb : b ≠ 47 := fun e => h (by simp [e])
    have ht := ih (fun e => h (by simp [e]))
    simp [pcs, hb, ht]
theorem pcs_cut (a r : Tx) (h : (47 : UInt8) ∉ a) : pcs (a ++ 47 :: r) = a :: pcs r := by
  induction a with
  | nil => simp [pcs]
  | cons b t ih =>
    have hb : b ≠ 47 := fun e => h (by simp [e])
    have ht := ih (fun e => h (by simp [e]))
    simp [pcs, hb, ht]
theorem pcs_mem (s p : Tx) (h : p ∈ pcs s) : (47 : UInt8) ∉ p := by
  induction s generalizing p with
  | nil => simp [pcs] at h; simp [h]
  | cons b t ih =>
    unfold pcs at h
    split at h
    · simp at h
      rcases h with rfl | h
      · simp
      · exact ih p h
    · rename_i hb
      simp only [List.mem_cons] at h
      rcases h with rfl | h
      · simp only [List.mem_cons, not_or]
        refine ⟨fun e => hb e.symm, ?_⟩
        cases hp : pcs t with
        | nil => simp
        | cons x xs => exact ih x (by rw [hp]; simp)
      · exact ih p (List.mem_of_mem_tail h)
/-- the text of parts -/
def jn (l : List Tx) : Tx := Lib.join l [47]
theorem jn_nil : jn [] = [] := rfl
theorem jn_one (x : Tx) : jn [x] = x := Lib.join_one x _
theorem jn_cons (x y : Tx) (l : List Tx) : jn (x :: y :: l) = x ++ 47 :: jn (y :: l) := by
  unfold jn
  rw [Lib.join_cons, Lib.join_cons]
  simp [Lib.joinTail]
theorem jn_pcs (s : Tx) : jn (pcs s) = s := by
  induction s with
  | nil => rfl
  | cons b t ih =>
    unfold pcs
    cases hp : pcs t with
    | nil => exact absurd hp (pcs_ne t)
    | cons x xs =>
      rw [hp] at ih
      split
      · rename_i hb
        rw [jn_cons, ih, hb]
        rfl
      · cases xs with
        | nil => simp only [List.headD_cons, List.tail_cons, jn_one]; rw [jn_one] at ih; rw [ih]
        | cons y ys =>
          simp only [List.headD_cons, List.tail_cons]
          rw [jn_cons] at ih ⊢
          rw [← ih]
          rfl
theorem pcs_jn (x : Tx) (l : List Tx) (h : ∀ p ∈ x :: l, (47 : UInt8) ∉ p) : pcs (jn (x :: l)) = x :: l := by
  induction l generalizing x with
  | nil => rw [jn_one]; exact pcs_no x (h x (by simp))
  | cons y l ih =>
    rw [jn_cons, pcs_cut x _ (h x (by simp)), ih y (fun p hp => h p (by simp at hp ⊢; right; exact hp))]
/-- may a part have that byte -/
def may (b : UInt8) : Bool := (decide (97 ≤ b.toNat) && decide (b.toNat ≤ 122)) || (decide (48 ≤ b.toNat) && decide (b.toNat ≤ 57)) || b == 95 || b == 45 || b == 46
/-- is a piece a part -/
def isPart (p : Tx) : Bool := p.all may && decide (1 ≤ p.length) && decide (p.length ≤ 24) && (p != [46]) && (p != [46, 46])
theorem isPart_iff (p : Tx) : isPart p = true ↔ (∀ b ∈ p, may b = true) ∧ 1 ≤ p.length ∧ p.length ≤ 24 ∧ p ≠ [46] ∧ p ≠ [46, 46] := by
  simp [isPart, and_assoc]
theorem part_nosep {p : Tx} (h : isPart p = true) : (47 : UInt8) ∉ p := fun e => by
  have := ((isPart_iff p).1 h).1 47 e
  revert this
  decide
theorem part_ne {p : Tx} (h : isPart p = true) : p ≠ [] := fun e => by
  have := ((isPart_iff p).1 h).2.1
  rw [e] at this
  simp at this
/-- from piece to piece: what is left of parts, or nothing where a piece is refused -/
def cl : List Tx → List Tx → Option (List Tx)
  | l, [] => some l
  | l, p :: ps => if p = [] ∨ p = [46] then cl l ps else if p = [46, 46] then (if l = [] then none else cl l.dropLast ps) else if isPart p = true then cl (l ++ [p]) ps else none
/-- Clean's answer -/
def cln (s : Tx) : Tx × Int := match cl [] (pcs s) with
  | none => ([], 12)
  | some l => if 8 < l.length then ([], 3) else (jn l, 0)
theorem cl_skip (l : List Tx) (p : Tx) (ps : List Tx) (h : p = [] ∨ p = [46]) : cl l (p :: ps) = cl l ps := by rw [cl, if_pos h]
theorem cl_up (l : List Tx) (ps : List Tx) (h : l ≠ []) : cl l ([46, 46] :: ps) = cl l.dropLast ps := by rw [cl, if_neg (by simp), if_pos rfl, if_neg h]
theorem cl_up0 (ps : List Tx) : cl [] ([46, 46] :: ps) = none := by rw [cl, if_neg (by simp), if_pos rfl, if_pos rfl]
theorem cl_part (l : List Tx) (p : Tx) (ps : List Tx) (h : isPart p = true) : cl l (p :: ps) = cl (l ++ [p]) ps := by
  have := (isPart_iff p).1 h
  rw [cl, if_neg (by rintro (e | e) <;> simp_all), if_neg (by simp_all), if_pos h]
theorem cl_bad (l : List Tx) (p : Tx) (ps : List Tx) (h0 : p ≠ []) (h1 : p ≠ [46]) (h2 : p ≠ [46, 46]) (h : isPart p = false) : cl l (p :: ps) = none := by
  rw [cl, if_neg (by simp [h0, h1]), if_neg h2, if_neg (by simp [h])]
theorem cl_parts {l ps l' : List Tx} (h : cl l ps = some l') (hl : ∀ p ∈ l, isPart p = true) : ∀ p ∈ l', isPart p = true := by
  induction ps generalizing l with
  | nil => simp [cl] at h; rw [← h]; exact hl
  | cons q ps ih =>
    rw [cl] at h
    split at h
    · exact ih h hl
    · split at h
      · split at h
        · simp at h
        · exact ih h (fun p hp => hl p (List.dropLast_subset _ hp))
      · split at h
        · rename_i hq
          refine ih h (fun p hp => ?_)
          simp only [List.mem_append, List.mem_singleton] at hp
          rcases hp with hp | rfl
          · exact hl p hp
          · exact hq
        · simp at h
theorem cl_all (l ps : List Tx) (h : ∀ p ∈ ps, isPart p = true) : cl l ps = some (l ++ ps) := by
  induction ps generalizing l with
  | nil => simp [cl]
  | cons q ps ih =>
    rw [cl_part l q ps (h q (by simp)), ih _ (fun p hp => h p (by simp [hp]))]
    simp
/-- is a text a path, by its pieces -/
def isP (s : Tx) : Bool := s.isEmpty || ((pcs s).all isPart && decide ((pcs s).length ≤ 8))
/-- Parts' answer -/
def prt (s : Tx) : List Tx := if s ≠ [] ∧ isP s = true then pcs s else []
theorem isP_of {l : List Tx} (h : ∀ p ∈ l, isPart p = true) (h8 : l.length ≤ 8) : isP (jn l) = true := by
  cases l with
  | nil => rfl
  | cons x l =>
    have e := pcs_jn x l (fun p hp => part_nosep (h p hp))
    unfold isP
    rw [e]
    have : (x :: l).all isPart = true := List.all_eq_true.2 h
    rw [this]
    simp only [Bool.true_and, Bool.or_eq_true, decide_eq_true_eq]
    right
    exact h8
theorem cln_cases (s : Tx) : (∃ l : List Tx, cln s = (jn l, 0) ∧ (∀ p ∈ l, isPart p = true) ∧ l.length ≤ 8 ∧ cl [] (pcs s) = some l) ∨ cln s = ([], 12) ∨ cln s = ([], 3) := by
  unfold cln
  cases h : cl [] (pcs s) with
  | none => exact .inr (.inl rfl)
  | some l =>
    by_cases h8 : 8 < l.length
    · exact .inr (.inr (by simp [h8]))
    · exact .inl ⟨l, by simp [h8], cl_parts h (by simp), by omega, rfl⟩
theorem cln_parts {l : List Tx} (h : ∀ p ∈ l, isPart p = true) (h8 : l.length ≤ 8) : cln (jn l) = (jn l, 0) := by
  unfold cln
  cases l with
  | nil => rfl
  | cons x l =>
    rw [pcs_jn x l (fun p hp => part_nosep (h p hp)), cl_all [] _ h]
    simp only [List.nil_append]
    rw [if_neg (by omega)]
theorem isP_iff (s : Tx) : isP s = true ↔ cln s = (s, 0) := by
  constructor
  · intro h
    unfold isP at h
    simp only [Bool.or_eq_true, Bool.and_eq_true, List.all_eq_true, decide_eq_true_eq, List.isEmpty_iff] at h
    rcases h with rfl | ⟨h1, h2⟩
    · rfl
    · have := cln_parts h1 h2
      rwa [jn_pcs] at this
  · intro h
    rcases cln_cases s with ⟨l, e, h1, h2, _⟩ | e | e
    · rw [h] at e
      have : s = jn l := (Prod.mk.inj e).1
      rw [this]
      exact isP_of h1 h2
    · rw [h] at e; simp at e
    · rw [h] at e; simp at e
theorem prt_jn {l : List Tx} (h : ∀ p ∈ l, isPart p = true) (h8 : l.length ≤ 8) : prt (jn l) = l := by
  unfold prt
  cases l with
  | nil => rfl
  | cons x l =>
    have e := pcs_jn x l (fun p hp => part_nosep (h p hp))
    have hne : jn (x :: l) ≠ [] := by
      intro h0
      rw [h0] at e
      simp [pcs] at e
      exact part_ne (h x (by simp)) e.1
    rw [if_pos ⟨hne, isP_of h h8⟩, e]
/-- does a text stand ahead of another one, byte by byte -/
def ltB : Tx → Tx → Bool
  | [], [] => false
  | [], _ :: _ => true
  | _ :: _, [] => false
  | a :: s, b :: t => if a = b then ltB s t else decide (a.toNat < b.toNat)
/-- by their first unlike pieces -/
def ltP : List Tx → List Tx → Bool
  | [], [] => false
  | [], _ :: _ => true
  | _ :: _, [] => false
  | p :: ps, q :: qs => if p = q then ltP ps qs else ltB p q
def les (s t : Tx) : Bool := ltP (pcs s) (pcs t)
/-- is the second text the first one, or below it -/
def inn (p q : Tx) : Bool := decide (p = []) || decide (q = p) || (p ++ [47]).isPrefixOf q
theorem ltB_irr (s : Tx) : ltB s s = false := by induction s with | nil => rfl | cons a s ih => simp [ltB, ih]
theorem ltB_total (s t : Tx) : s ≠ t → ltB s t = !ltB t s := by
  induction s generalizing t with
  | nil => cases t with
    | nil => intro h; exact absurd rfl h
    | cons b t => intro _; rfl
  | cons a s ih => cases t with
    | nil => intro _; rfl
    | cons b t =>
      intro h
      by_cases e : a = b
      · subst e
        simp only [ltB, if_true]
        exact ih t (fun e => h (by rw [e]))
      · have e' : ¬ b = a := fun x => e x.symm
        have hn : a.toNat ≠ b.toNat := fun x => e (UInt8.toNat_inj.1 x)
        simp only [ltB, if_neg e, if_neg e']
        rw [Bool.eq_iff_iff]
        simp only [decide_eq_true_eq, Bool.not_eq_true', decide_eq_false_iff_not]
        omega
theorem ltB_trans (s t u : Tx) : ltB s t = true → ltB t u = true → ltB s u = true := by
  induction s generalizing t u with
  | nil => cases t with
    | nil => intro h; simp [ltB] at h
    | cons b t => cases u with
      | nil => intro _ h; simp [ltB] at h
      | cons c u => intro _ _; rfl
  | cons a s ih => cases t with
    | nil => intro h; simp [ltB] at h
    | cons b t => cases u with
      | nil => intro _ h; simp [ltB] at h
      | cons c u =>
        simp only [ltB]
        by_cases e1 : a = b
        · subst e1
          by_cases e2 : a = c
          · subst e2; simp only [if_true]; exact ih t u
          · simp [e2]
        · by_cases e2 : b = c
          · subst e2; simp only [if_neg e1]; exact fun h _ => h
          · by_cases e3 : a = c
            · subst e3; simp only [if_neg e1, if_neg e2, decide_eq_true_eq]; intro h1 h2; omega
            · simp only [if_neg e1, if_neg e2, if_neg e3, decide_eq_true_eq]; intro h1 h2; omega
theorem ltP_irr (s : List Tx) : ltP s s = false := by induction s with | nil => rfl | cons a s ih => simp [ltP, ih]
theorem ltP_total (s t : List Tx) : s ≠ t → ltP s t = !ltP t s := by
  induction s generalizing t with
  | nil => cases t with
    | nil => intro h; exact absurd rfl h
    | cons b t => intro _; rfl
  | cons a s ih => cases t with
    | nil => intro _; rfl
    | cons b t =>
      intro h
      by_cases e : a = b
      · subst e
        simp only [ltP, if_true]
        exact ih t (fun e => h (by rw [e]))
      · have e' : ¬ b = a := fun x => e x.symm
        simp only [ltP, if_neg e, if_neg e']
        exact ltB_total a b e
theorem ltP_trans (s t u : List Tx) : ltP s t = true → ltP t u = true → ltP s u = true := by
  induction s generalizing t u with
  | nil => cases t with
    | nil => intro h; simp [ltP] at h
    | cons b t => cases u with
      | nil => intro _ h; simp [ltP] at h
      | cons c u => intro _ _; rfl
  | cons a s ih => cases t with
    | nil => intro h; simp [ltP] at h
    | cons b t => cases u with
      | nil => intro _ h; simp [ltP] at h
      | cons c u =>
        simp only [ltP]
        by_cases e1 : a = b
        · subst e1
          by_cases e2 : a = c
          · subst e2; simp only [if_true]; exact ih t u
          · simp [e2]
        · by_cases e2 : b = c
          · subst e2; simp only [if_neg e1]; exact fun h _ => h
          · by_cases e3 : a = c
            · subst e3
              simp only [if_neg e1, if_neg e2]
              intro h1 h2
              have := ltB_trans _ _ _ h1 h2
              rw [ltB_irr] at this
              simp at this
            · simp only [if_neg e1, if_neg e2, if_neg e3]
              exact ltB_trans a b c
theorem pcs_inj {s t : Tx} (h : pcs s = pcs t) : s = t := by rw [← jn_pcs s, h, jn_pcs]
theorem les_irr (s : Tx) : les s s = false := ltP_irr _
theorem les_total (s t : Tx) (h : s ≠ t) : les s t = !les t s := ltP_total _ _ (fun e => h (pcs_inj e))
theorem les_trans (s t u : Tx) : les s t = true → les t u = true → les s u = true := ltP_trans _ _ _
/-- of the empty text no pieces -/
def pcs0 (s : Tx) : List Tx := if s = [] then [] else pcs s
theorem les_pcs0 (s t : Tx) : ltP (pcs0 s) (pcs0 t) = les s t := by
  unfold pcs0 les
  by_cases hs : s = []
  · subst hs
    by_cases ht : t = []
    · subst ht; rfl
    · rw [if_pos rfl, if_neg ht]
      have hj := jn_pcs t
      cases hp : pcs t with
      | nil => exact absurd hp (pcs_ne t)
      | cons q qs =>
        simp only [ltP, pcs]
        by_cases hq : q = []
        · subst hq
          cases qs with
          | nil => rw [hp] at hj; exact absurd hj.symm ht
          | cons a b => simp [ltP]
        · cases q with
          | nil => exact absurd rfl hq
          | cons a b => simp [ltB]
  · rw [if_neg hs]
    by_cases ht : t = []
    · subst ht
      rw [if_pos rfl]
      cases hp : pcs s with
      | nil => exact absurd hp (pcs_ne s)
      | cons q qs =>
        simp only [ltP, pcs]
        by_cases hq : q = []
        · subst hq
          cases qs <;> simp [ltP]
        · cases q with
          | nil => exact absurd rfl hq
          | cons a b => simp [ltB]
    · rw [if_neg ht]
/-- below, by the pieces -/
theorem pcs_app (s r : Tx) : pcs (s ++ 47 :: r) = pcs s ++ pcs r := by
  induction s with
  | nil => simp [pcs]
  | cons b t ih =>
    simp only [List.cons_append, pcs, ih]
    split
    · rfl
    · cases hp : pcs t with
      | nil => exact absurd hp (pcs_ne t)
      | cons x xs => simp
theorem inn_iff (p q : Tx) : inn p q = true ↔ p = [] ∨ q = p ∨ ∃ r, q = p ++ 47 :: r := by
  unfold inn
  simp only [Bool.or_eq_true, decide_eq_true_eq, List.isPrefixOf_iff_prefix, or_assoc]
  constructor
  · rintro (h | h | ⟨r, h⟩)
    · exact .inl h
    · exact .inr (.inl h)
    · exact .inr (.inr ⟨r, by rw [← h]; simp⟩)
  · rintro (h | h | ⟨r, h⟩)
    · exact .inl h
    · exact .inr (.inl h)
    · exact .inr (.inr ⟨r, by rw [h]; simp⟩)
/-- below a text that has any: just where its pieces begin the other one's -/
theorem inn_pcs (p q : Tx) (hp : p ≠ []) : inn p q = true ↔ pcs p <+: pcs q := by
  rw [inn_iff]
  constructor
  · rintro (h | h | ⟨r, h⟩)
    · exact absurd h hp
    · rw [h]; exact List.prefix_refl _
    · rw [h, pcs_app]; exact List.prefix_append _ _
  · rintro ⟨r, h⟩
    right
    cases r with
    | nil => left; rw [List.append_nil] at h; exact (pcs_inj h).symm
    | cons x xs =>
      right
      have hx : ∀ z ∈ x :: xs, (47 : UInt8) ∉ z := fun z hz => pcs_mem q z (by rw [← h]; simp only [List.mem_append]; right; exact hz)
      refine ⟨jn (x :: xs), ?_⟩
      apply pcs_inj
      rw [pcs_app, pcs_jn x xs hx, h]
theorem ltP_mono (a b r : List Tx) (h : ltP b a = false) (h2 : ltP b (a ++ r) = true) : a <+: b := by
  induction a generalizing b with
  | nil => exact List.nil_prefix
  | cons x a ih => cases b with
    | nil => simp [ltP] at h
    | cons y b =>
      simp only [List.cons_append, ltP] at h h2
      by_cases e : y = x
      · subst e
        simp only [if_true] at h h2
        obtain ⟨t, ht⟩ := ih b h h2
        exact ⟨t, by simp [ht]⟩
      · simp only [if_neg e] at h h2
        rw [h] at h2
        simp at h2
theorem ltP_pre (a r : List Tx) (h : r ≠ []) : ltP a (a ++ r) = true := by
  induction a with
  | nil => cases r with
    | nil => exact absurd rfl h
    | cons x r => rfl
  | cons x a ih => simp [ltP, ih]
/-- what stands between a text and one below it lies below it -/
theorem near (p q r : Tx) (h1 : inn p r = true) (h2 : les q p = false) (h3 : les q r = true) : inn p q = true := by
  by_cases hp : p = []
  · exact (inn_iff p q).2 (.inl hp)
  · rw [inn_pcs p _ hp] at h1 ⊢
    obtain ⟨t, ht⟩ := h1
    unfold les at h2 h3
    rw [← ht] at h3
    exact ltP_mono _ _ t h2 h3
theorem inn_les (p r : Tx) (h1 : inn p r = true) (h2 : p ≠ r) : les p r = true := by
  rw [inn_iff] at h1
  rcases h1 with h | h | ⟨t, h⟩
  · subst h
    rw [← les_pcs0]
    have : r ≠ [] := fun e => h2 e.symm
    rw [pcs0, if_pos rfl, pcs0, if_neg this]
    cases hr : pcs r with
    | nil => exact absurd hr (pcs_ne r)
    | cons x xs => rfl
  · exact absurd h.symm h2
  · unfold les
    rw [h, pcs_app]
    exact ltP_pre _ _ (pcs_ne t)
end Go.Proofs.Ythaeidbnbgghkaa
namespace Go.Proofs.Ythaeidbnbgghkaa
set_option linter.unusedVariables false
/-- the pieces of a version -/
def pcd : Tx → List Tx
  | [] => [[]]
  | b :: t => if b = 46 then [] :: pcd t else (b :: (pcd t).headD []) :: (pcd t).tail
theorem pcd_ne (s : Tx) : pcd s ≠ [] := by
  cases s with
  | nil => simp [pcd]
  | cons b t => unfold pcd; split <;> simp
theorem pcd_no (a : Tx) (h : (46 : UInt8) ∉ a) : pcd a = [a] := by
  induction a with
  | nil => rfl
  | cons b t ih =>
    have hb : b ≠ 46 := fun e => h (by simp [e])
    have ht := ih (fun e => h (by simp [e]))
    simp [pcd, hb, ht]
theorem pcd_cut (a r : Tx) (h : (46 : UInt8) ∉ a) : pcd (a ++ 46 :: r) = a :: pcd r := by
  induction a with
  | nil => simp [pcd]
  | cons b t ih =>
    have hb : b ≠ 46 := fun e => h (by simp [e])
    have ht := ih (fun e => h (by simp [e]))
    simp [pcd, hb, ht]
/-- the text of pieces -/
def jd (l : List Tx) : Tx := Lib.join l [46]
theorem jd_nil : jd [] = [] := rfl
theorem jd_one (x : Tx) : jd [x] = x := Lib.join_one x _
theorem jd_cons (x y : Tx) (l : List Tx) : jd (x :: y :: l) = x ++ 46 :: jd (y :: l) := by
  unfold jd
  rw [Lib.join_cons, Lib.join_cons]
  simp [Lib.joinTail]
theorem jd_pcd (s : Tx) : jd (pcd s) = s := by
  induction s with
  | nil => rfl
  | cons b t ih =>
    unfold pcd
    cases hp : pcd t with
    | nil => exact absurd hp (pcd_ne t)
    | cons x xs =>
      rw [hp] at ih
      split
      · rename_i hb
        rw [jd_cons, ih, hb]
        rfl
      · cases xs with
        | nil => simp only [List.headD_cons, List.tail_cons, jd_one]; rw [jd_one] at ih; rw [ih]
        | cons y ys =>
          simp only [List.headD_cons, List.tail_cons]
          rw [jd_cons] at ih ⊢
          rw [← ih]
          rfl
theorem pcd_inj {s t : Tx} (h : pcd s = pcd t) : s = t := by rw [← jd_pcd s, h, jd_pcd]
theorem pcd_app (s r : Tx) : pcd (s ++ 46 :: r) = pcd s ++ pcd r := by
  induction s with
  | nil => simp [pcd]
  | cons b t ih =>
    simp only [List.cons_append, pcd, ih]
    split
    · rfl
    · cases hp : pcd t with
      | nil => exact absurd hp (pcd_ne t)
      | cons x xs => simp
/-- one of the ten digits -/
def dig (b : UInt8) : Bool := decide (48 ≤ b.toNat) && decide (b.toNat ≤ 57)
/-- a piece of digits alone, one at least -/
def isN (x : Tx) : Bool := x.all dig && !x.isEmpty
/-- without the noughts ahead -/
def strip (x : Tx) : Tx := x.dropWhile (· == 48)
/-- how two texts stand, by bytes; two numbers -/
def cB (x y : Tx) : Int := if x = y then 0 else if ltB x y = true then -1 else 1
def cI (a b : Int) : Int := if a < b then -1 else if b < a then 1 else 0
/-- two pieces of digits -/
def cN (x y : Tx) : Int := if (strip x).length ≠ (strip y).length then cI ((strip x).length : Nat) ((strip y).length : Nat) else cB (strip x) (strip y)
/-- two pieces -/
def cP (x y : Tx) : Int :=
  if isN x = true ∧ isN y = false then -1
  else if isN y = true ∧ isN x = false then 1
  else if isN x = true ∧ cN x y ≠ 0 then cN x y
  else cB x y
/-- by the first unlike pieces -/
def cL : List Tx → List Tx → Int
  | [], [] => 0
  | [], _ :: _ => -1
  | _ :: _, [] => 1
  | p :: ps, q :: qs => if p = q then cL ps qs else cP p q
def ord (a b : Tx) : Int := cL (pcd a) (pcd b)
/-- a way to hold things against one another: as an order does -/
structure Good {α : Type} (C : α → α → Int) : Prop where
  rng : ∀ x y, C x y = -1 ∨ C x y = 0 ∨ C x y = 1
  anti : ∀ x y, C y x = - C x y
  tr : ∀ x y z, C x y ≤ 0 → C y z ≤ 0 → C x z ≤ 0 ∧ (C x y + C y z < 0 → C x z < 0)
theorem Good.refl {α : Type} {C : α → α → Int} (h : Good C) (x : α) : C x x = 0 := by have := h.anti x x; omega
theorem Good.pull {α β : Type} {C : α → α → Int} (h : Good C) (f : β → α) : Good (fun x y => C (f x) (f y)) := ⟨fun _ _ => h.rng _ _, fun _ _ => h.anti _ _, fun _ _ _ => h.tr _ _ _⟩
def thn {α : Type} (C D : α → α → Int) (x y : α) : Int := if C x y ≠ 0 then C x y else D x y
theorem Good.then {α : Type} {C D : α → α → Int} (h : Good C) (k : Good D) : Good (thn C D) := by
  refine ⟨fun x y => ?_, fun x y => ?_, fun x y z => ?_⟩
  · unfold thn; split
    · exact h.rng x y
    · exact k.rng x y
  · unfold thn
    have := h.anti x y
    by_cases e : C x y = 0
    · rw [if_neg (by omega), if_neg (by omega)]; exact k.anti x y
    · rw [if_pos (by omega), if_pos (by omega)]; exact this
  · unfold thn
    have a1 := h.tr x y z
    have a2 := k.tr x y z
    have r1 := h.rng x y
    have r2 := h.rng y z
    have r3 := h.rng x z
    have b1 := h.anti x y
    have b2 := h.anti y z
    have b3 := h.anti x z
    have a3 := h.tr z y x
    intro h1 h2
    by_cases e1 : C x y = 0
    · by_cases e2 : C y z = 0
      · rw [if_neg (by omega)] at h1 h2
        have e3 : C x z = 0 := by
          have := a1 (by omega) (by omega)
          have := a3 (by omega) (by omega)
          omega
        rw [if_neg (by omega), if_neg (by omega), if_neg (by omega)]
        exact a2 h1 h2
      · rw [if_pos (by omega)] at h2
        have := a1 (by omega) (by omega)
        rw [if_pos (by omega)]
        exact ⟨by omega, fun _ => by omega⟩
    · rw [if_pos (by omega)] at h1
      have h2' : C y z ≤ 0 := by
        by_cases e2 : C y z = 0
        · omega
        · rw [if_pos (by omega)] at h2; exact h2
      have := a1 (by omega) h2'
      rw [if_pos (by omega)]
      exact ⟨by omega, fun _ => by omega⟩
theorem good_cI : Good cI := by
  refine ⟨fun x y => ?_, fun x y => ?_, fun x y z => ?_⟩ <;> unfold cI <;> repeat' split
  all_goals first | omega | (intros; omega)
theorem good_cB : Good cB := by
  have key : ∀ x y, cB x y = -1 ∧ x ≠ y ∧ ltB x y = true ∧ ltB y x = false ∨ cB x y = 0 ∧ x = y ∨ cB x y = 1 ∧ x ≠ y ∧ ltB x y = false ∧ ltB y x = true := by
    intro x y
    unfold cB
    by_cases e : x = y
    · rw [if_pos e]; exact .inr (.inl ⟨rfl, e⟩)
    · have ht := ltB_total x y e
      rw [if_neg e]
      cases hxy : ltB x y with
      | true => rw [hxy] at ht; rw [if_pos rfl]; exact .inl ⟨rfl, e, rfl, by simpa using ht.symm⟩
      | false => rw [hxy] at ht; rw [if_neg (by simp)]; exact .inr (.inr ⟨rfl, e, rfl, by simpa using ht.symm⟩)
  refine ⟨fun x y => ?_, fun x y => ?_, fun x y z => ?_⟩
  · rcases key x y with h | h | h
    · exact .inl h.1
    · exact .inr (.inl h.1)
    · exact .inr (.inr h.1)
  · rcases key x y with h | h | h
    · rcases key y x with g | g | g
      · rw [h.2.2.2] at g; simp at g
      · exact absurd g.2.symm h.2.1
      · omega
    · obtain ⟨h1, rfl⟩ := h; omega
    · rcases key y x with g | g | g
      · omega
      · exact absurd g.2.symm h.2.1
      · rw [h.2.2.2] at g; simp at g
  · intro h1 h2
    rcases key x y with h | h | h
    · rcases key y z with g | g | g
      · have := ltB_trans x y z h.2.2.1 g.2.2.1
        rcases key x z with k | k | k
        · omega
        · rw [← k.2] at this; rw [ltB_irr] at this; simp at this
        · rw [k.2.2.1] at this; simp at this
      · obtain ⟨g1, rfl⟩ := g; omega
      · omega
    · obtain ⟨h1, rfl⟩ := h; omega
    · omega
theorem cB_zero {x y : Tx} (h : cB x y = 0) : x = y := by
  unfold cB at h
  split at h
  · assumption
  · split at h <;> omega
theorem cB_self (x : Tx) : cB x x = 0 := if_pos rfl
/-- the class of a piece, and its number -/
def kls (x : Tx) : Int := if isN x = true then 0 else 1
def nms (x : Tx) : Tx := if isN x = true then strip x else []
def cQ : Tx → Tx → Int := thn (fun x y => cI (kls x) (kls y)) (thn (fun x y => cI ((nms x).length : Nat) ((nms y).length : Nat)) (thn (fun x y => cB (nms x) (nms y)) cB))
theorem cI_zero {a b : Int} : cI a b = 0 ↔ a = b := by unfold cI; split <;> (try split) <;> omega
theorem cP_is (x y : Tx) : cP x y = cQ x y := by
  have z0 : cI 0 0 = 0 := by decide
  have z1 : cI 1 1 = 0 := by decide
  have z2 : cI 0 1 = -1 := by decide
  have z3 : cI 1 0 = 1 := by decide
  have kt : ∀ z, isN z = true → kls z = 0 ∧ nms z = strip z := fun z h => ⟨if_pos h, if_pos h⟩
  have kf : ∀ z, isN z = false → kls z = 1 ∧ nms z = [] := fun z h => ⟨if_neg (by simp [h]), if_neg (by simp [h])⟩
  unfold cP cQ thn
  show _ = if cI (kls x) (kls y) ≠ 0 then cI (kls x) (kls y) else if cI ((nms x).length : Nat) ((nms y).length : Nat) ≠ 0 then cI ((nms x).length : Nat) ((nms y).length : Nat) else if cB (nms x) (nms y) ≠ 0 then cB (nms x) (nms y) else cB x y
  rcases hx : isN x with _ | _ <;> rcases hy : isN y with _ | _
  · rw [(kf x hx).1, (kf x hx).2, (kf y hy).1, (kf y hy).2]
    simp [z0, z1, cB_self]
  · rw [(kf x hx).1, (kt y hy).1, z3]
    simp
  · rw [(kt x hx).1, (kf y hy).1, z2]
    simp
  · rw [(kt x hx).1, (kt x hx).2, (kt y hy).1, (kt y hy).2]
    unfold cN
    by_cases hl : (strip x).length = (strip y).length
    · simp [hl, z0]
      have z5 : cI ((strip y).length : Nat) ((strip y).length : Nat) = 0 := cI_zero.2 rfl
      simp [z5]
    · have z4 : cI ((strip x).length : Nat) ((strip y).length : Nat) ≠ 0 := by
        intro h
        have := cI_zero.1 h
        omega
      simp [hl, z0, z4]
theorem good_cP : Good cP := by
  have : Good cQ := Good.then (good_cI.pull kls) (Good.then (good_cI.pull fun x => ((nms x).length : Nat)) (Good.then (good_cB.pull nms) good_cB))
  have e : cP = cQ := by funext x y; exact cP_is x y
  rw [e]; exact this
theorem cP_zero {x y : Tx} (h : cP x y = 0) : x = y := by
  rw [cP_is] at h
  unfold cQ thn at h
  simp only [ne_eq, ite_not] at h
  split at h
  · split at h
    · split at h
      · exact cB_zero h
      · omega
    · omega
  · omega
theorem cL_self : ∀ l : List Tx, cL l l = 0
  | [] => rfl
  | x :: l => by simp [cL, cL_self l]
theorem cL_zero : ∀ {l m : List Tx}, cL l m = 0 → l = m
  | [], [], _ => rfl
  | [], _ :: _, h => by simp [cL] at h
  | _ :: _, [], h => by simp [cL] at h
  | p :: ps, q :: qs, h => by
    unfold cL at h
    split at h
    · rename_i e; rw [e, cL_zero h]
    · rename_i e; exact absurd (cP_zero h) e
theorem cL_rng : ∀ l m : List Tx, cL l m = -1 ∨ cL l m = 0 ∨ cL l m = 1
  | [], [] => by simp [cL]
  | [], _ :: _ => by simp [cL]
  | _ :: _, [] => by simp [cL]
  | p :: ps, q :: qs => by
    unfold cL
    split
    · exact cL_rng ps qs
    · exact good_cP.rng p q
theorem cL_anti : ∀ l m : List Tx, cL m l = - cL l m
  | [], [] => by simp [cL]
  | [], _ :: _ => by simp [cL]
  | _ :: _, [] => by simp [cL]
  | p :: ps, q :: qs => by
    unfold cL
    by_cases e : p = q
    · rw [if_pos e, if_pos e.symm]; exact cL_anti ps qs
    · rw [if_neg e, if_neg (fun h => e h.symm)]; exact good_cP.anti p q
theorem cL_tr : ∀ l m n : List Tx, cL l m ≤ 0 → cL m n ≤ 0 → cL l n ≤ 0 ∧ (cL l m + cL m n < 0 → cL l n < 0)
  | [], [], [], _, _ => by simp [cL]
  | [], [], _ :: _, _, _ => by simp [cL]
  | [], _ :: _, [], _, h => by simp [cL] at h
  | [], _ :: _, _ :: _, _, _ => by simp [cL]
  | _ :: _, [], _, h, _ => by simp [cL] at h
  | _ :: _, _ :: _, [], _, h => by simp [cL] at h
  | p :: ps, q :: qs, r :: rs, h1, h2 => by
    have ih := cL_tr ps qs rs
    have g := good_cP.tr p q r
    unfold cL at h1 h2 ⊢
    by_cases e1 : p = q
    · subst e1
      rw [if_pos rfl] at h1 ⊢
      by_cases e2 : p = r
      · subst e2
        simp only [if_true] at h1 h2 ⊢
        exact ih h1 h2
      · rw [if_neg e2] at h2 ⊢
        have : cP p r ≠ 0 := fun h => e2 (cP_zero h)
        exact ⟨h2, fun _ => by omega⟩
    · rw [if_neg e1] at h1 ⊢
      have n1 : cP p q ≠ 0 := fun h => e1 (cP_zero h)
      by_cases e2 : q = r
      · subst e2
        rw [if_pos rfl] at h2 ⊢
        rw [if_neg e1]
        exact ⟨h1, fun _ => by omega⟩
      · rw [if_neg e2] at h2 ⊢
        have n2 : cP q r ≠ 0 := fun h => e2 (cP_zero h)
        have := g h1 h2
        by_cases e3 : p = r
        · subst e3
          rw [good_cP.refl] at this
          omega
        · rw [if_neg e3]
          exact ⟨this.1, fun _ => this.2 (by omega)⟩
theorem good_ord : Good ord := ⟨fun _ _ => cL_rng _ _, fun _ _ => cL_anti _ _, fun _ _ _ => cL_tr _ _ _⟩
theorem ord_zero (a b : Tx) : ord a b = 0 ↔ a = b := ⟨fun h => pcd_inj (cL_zero h), fun h => by rw [h]; exact cL_self _⟩
/-- pieces of which one's begin the other's -/
theorem cL_app (h l m : List Tx) : cL (h ++ l) (h ++ m) = cL l m := by
  induction h with
  | nil => rfl
  | cons x h ih => simp [cL, ih]
theorem cL_pre (l m : List Tx) (hm : m ≠ []) : cL l (l ++ m) = -1 := by
  have := cL_app l [] m
  rw [List.append_nil] at this
  rw [this]
  cases m with
  | nil => exact absurd rfl hm
  | cons x m => rfl
theorem jd_len (l : List Tx) (x : Tx) (hl : l ≠ []) : (jd l).length < (jd (l ++ [x])).length := by
  induction l with
  | nil => exact absurd rfl hl
  | cons y l ih =>
    cases l with
    | nil => rw [List.singleton_append, jd_one, jd_cons]; simp
    | cons z l =>
      have := ih (by simp)
      rw [List.cons_append, List.cons_append, jd_cons, jd_cons]
      rw [List.cons_append] at this
      simp only [List.length_append, List.length_cons]
      omega
theorem jd_lens (l m : List Tx) (hl : l ≠ []) (hm : m ≠ []) : (jd l).length < (jd (l ++ m)).length := by
  have key : ∀ (m : List Tx) (l : List Tx), l ≠ [] → m ≠ [] → (jd l).length < (jd (l ++ m)).length := by
    intro m
    induction m with
    | nil => intro l _ h; exact absurd rfl h
    | cons x m ih =>
      intro l hl _
      have h1 := jd_len l x hl
      cases m with
      | nil => exact h1
      | cons y m =>
        have h2 := ih (l ++ [x]) (by simp) (by simp)
        rw [List.append_assoc] at h2
        exact Nat.lt_trans h1 h2
  exact key m l hl hm
/-- where one's pieces begin the other's, the lengths tell -/
theorem cI_lens (a b : Tx) (m : List Tx) (hb : pcd b = pcd a ++ m) : cI (a.length : Nat) (b.length : Nat) = cL (pcd a) (pcd b) := by
  by_cases hm : m = []
  · subst hm
    rw [List.append_nil] at hb
    rw [hb, cL_self, pcd_inj hb]
    simp [cI]
  · have := jd_lens (pcd a) m (pcd_ne a) hm
    rw [← hb, jd_pcd, jd_pcd] at this
    rw [hb, cL_pre _ _ hm]
    unfold cI
    rw [if_pos (by omega)]
theorem cI_anti (a b : Int) : cI b a = - cI a b := good_cI.anti a b
end Go.Proofs.Ythaeidbnbgghkaa
