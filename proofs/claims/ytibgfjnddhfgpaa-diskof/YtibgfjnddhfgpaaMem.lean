/- Slices of bytes in memory: what they hold, append(s, x...), string(b), what stays over changes of the world. -/
import Derived.Test.YtibgfjnddhfgpaaNumM
import Derived.Test.YtibgfjnddhfgpaaBase
import Derived.WalkSpells
import Derived.WalkLawsBesides
import Derived.Outline
import Derived.LoopTactic
import Derived.Deep.LoopGhost
import Derived.Deep.OwnRows
import Derived.Laws.BitsAllLaws
import Derived.Laws.Bits64
import Derived.Laws.BytesArg
import Derived.OwnWalk
import Derived.Laws.AppendOwnNone
namespace Go.Proofs.Ytibgfjnddhfgpaa
open Go.ChangeShapes Go.WideShapes Go.ChangeAt Go.RowKit Go.Deep
set_option linter.unusedVariables false
/-- a slice of bytes: where it has any, they lie at its address -/
def Holds (w : World) (a : Option Addr) (L : List Int) : Prop :=
  L = [] ∨ ∃ b off, a = some ⟨b, off, none⟩ ∧ ∀ i, i < L.length → w.cell? ⟨b, off + i, none⟩ = some (.int .u8 (L.getD i 0))
theorem info8 : (Try.prog.info? 5).map (fun i => (i.zero, i.size, i.bytes)) = some (some (.int .u8 0), 1, 1) := by kernel_rfl

/-- the value is a slice of the call's own memory (from block 'base' on) that holds the bytes A -/
def Owned (w : World) (base : Nat) (v : Value) (A : List Int) : Prop := w.ownsRow base 5 1 v A.length (A.map (Value.int .u8))

theorem add_plain (b off i : Nat) : (⟨b, off, none⟩ : Addr).add i = ⟨b, off + i, none⟩ := by unfold Addr.add; split <;> simp_all

theorem Owned.slice {w : World} {base : Nat} {v : Value} {A : List Int} (h : Owned w base v A) : ∃ a c, v = .slice a A.length c ∧ (a = none → c = 0 ∧ A = []) ∧ Holds w a A ∧ c ≤ maxLen ∧ A.length ≤ c := by
  rcases h.2 with ⟨rfl, hn⟩ | ⟨g, cap, cur, rfl, hb, hg, hl, hm, hs, ht⟩
  · have : A = [] := List.length_eq_zero_iff.1 hn
    subst this
    exact ⟨none, 0, rfl, fun _ => ⟨rfl, rfl⟩, .inl rfl, by simp, by simp⟩
  · refine ⟨_, _, rfl, fun h => by simp at h, .inr ⟨g, 0, rfl, fun i hi => ?_⟩, hm, hl⟩
    have hc := World.ownsRow.cells h (g := g) rfl i (.int .u8 (A.getD i 0)) (by simp [List.getD, List.getElem?_eq_getElem hi])
    rwa [add_plain] at hc

theorem Owned.holds {w : World} {base : Nat} {a : Option Addr} {n c : Nat} {A : List Int} (h : Owned w base (.slice a n c) A) : Holds w a A ∧ A.length = n ∧ (a = none → c = 0) := by
  obtain ⟨a', c', e, h1, h2, _⟩ := h.slice
  simp only [Value.slice.injEq] at e
  obtain ⟨rfl, rfl, rfl⟩ := e
  exact ⟨h2, rfl, fun h => (h1 h).1⟩

theorem Owned.block {w : World} {base : Nat} {v : Value} {A : List Int} (h : Owned w base v A) : ∀ k, v.ownBlock = some k → base ≤ k := fun k hk => (h.lt k hk).1

theorem info8p : ∃ i, Try.prog.info? 5 = some i ∧ i.zero = some (.int .u8 0) ∧ i.size = 1 ∧ i.bytes = 1 := info_parts info8

theorem owned_empty (w : World) (base : Nat) (hb : base ≤ w.heap.size) : Owned (w.alloc (.cells #[] 5)) base (.slice (some ⟨w.heap.size, 0, none⟩) 0 0) [] :=
  World.ownsRow_made w #[] 0 hb (by simp) (by simp)

theorem append_bytes {w : World} {ops : Array Oper} {rest : List Oper} {o : Oper} {act : Act} {Q : Exit → Act → World → Prop} (hgd : o.guard = none) (s x : Operand)
    (ho : o.op = .call { callee := .builtin .append, args := #[s, x], argTypes := #[35, 35] })
    (base : Nat) (v : Value) (A : List Int) (hs : act.eval s = v) (hown : Owned w base v A)
    (a : Option Addr) (m c : Nat) (L : List Int) (hx : act.eval x = .slice a m c) (hm : L.length = m) (hh : Holds w a L) (hc : a = none → c = 0)
    (N : Nat) (hN : A.length + m = N) (hbytes : N ≤ 140737488355328) (hbase : base ≤ w.heap.size)
    (h : ∀ a' c' w', Owned w' base (.slice a' N c') (A ++ L) → Below base w w' → wpList Try.prog ops Q rest (act.put o.dst (.slice a' N c')) w') :
    wpList Try.prog ops Q (o :: rest) act w := by
  subst hN
  obtain ⟨i, hi, hz, h1, h2⟩ := info8p
  cases a with
  | none =>
    have hc0 := hc rfl
    have hL : L = [] := by
      rcases hh with h | ⟨b, off, hb, _⟩
      · exact h
      · simp at hb
    subst hL
    subst hc0
    subst hm
    obtain ⟨a', c', rfl, _⟩ := hown.slice
    refine wpList_append_own_none hgd s x 35 ho base 5 i 1 Try.underlying35 hi _ _ _ hs hown hx ?_
    have := h a' c' w (by simpa using hown) (Below.refl _ _)
    simpa using this
  | some ad =>
    refine wpList_append_own w hgd s x 35 ho base 5 i (.int .u8 0) 1 1 Try.underlying35 hi hz h1 h2 rfl (by decide) v A.length _ hs hown ad m c (L.map (Value.int .u8)) hx (by simp [hm]) ?_ (ints_oneCell _ _) (by simp only [maxLen]; omega) (by omega) hbase ?_
    · intro j u hu
      have hj : j < L.length := by
        have := (List.getElem?_eq_some_iff.1 hu).1
        simpa using this
      rcases hh with h | ⟨b, off, hb, hcell⟩
      · subst h; simp at hj
      · simp only [Option.some.injEq] at hb
        subst hb
        rw [add_plain, hcell j hj]
        simp [List.getElem?_eq_getElem hj] at hu
        simp [List.getD, List.getElem?_eq_getElem hj, hu]
    · intro v' w' hown' hg _
      have ho' : Owned w' base v' (A ++ L) := by
        show w'.ownsRow base 5 1 v' (A ++ L).length ((A ++ L).map (Value.int .u8))
        rw [List.length_append, hm, List.map_append]
        exact hown'
      obtain ⟨a', c', rfl, _⟩ := ho'.slice
      have e : (A ++ L).length = A.length + m := by rw [List.length_append, hm]
      rw [e] at ho' ⊢
      exact h a' c' w' ho' ((Below.refl base w).grown hg hbase hown.block)
/-- what came in, as a slice of bytes -/
theorem IsRow.holds {w : World} {a : Option Addr} {len cap : Nat} {zs : List Int} (h : IsRow .u8 w a len cap zs) :
    ∃ L : List Int, L = zs.take len ∧ L.length = len ∧ Holds w a L ∧ IsBytes L ∧ (a = none → cap = 0) ∧ len ≤ 140737488351232 ∧ (∀ x, a = some x → L ≠ [] → x.block < w.heap.size) ∧ len ≤ cap ∧ cap ≤ 140737488351232 := by
  rcases h with ⟨rfl, rfl, rfl, rfl⟩ | ⟨x, rfl, hl, hm, hz, hcell, hwz⟩
  · exact ⟨[], rfl, rfl, .inl rfl, fun i hi => by simp at hi, fun _ => rfl, by omega, fun x hx => by simp at hx, by omega, by omega⟩
  · have hL : (zs.take len).length = len := by rw [List.length_take]; omega
    have hget : ∀ i, i < len → (zs.take len).getD i 0 = zs.getD i 0 := fun i hi => by simp [List.getD, hi]
    have hbytes : IsBytes (zs.take len) := bytes_of_mem fun n hn => wf_u8 (hwz n (List.mem_of_mem_take hn))
    by_cases h0 : len = 0
    · subst h0
      exact ⟨[], by simp, rfl, .inl rfl, fun i hi => by simp at hi, fun h => by simp at h, by omega, fun x hx h => absurd rfl h, hl, by omega⟩
    · obtain ⟨b, off, spot⟩ := x
      have hc := hcell 0 (by omega)
      have hspot : spot = none := by simpa [Addr.add] using World.cell?_spot hc
      subst hspot
      refine ⟨_, rfl, hL, .inr ⟨b, off, rfl, fun i hi => ?_⟩, hbytes, fun h => by simp at h, by omega, ?_, hl, by omega⟩
      · rw [hL] at hi
        have := hcell i (by omega)
        rw [add_plain] at this
        rw [hget i hi]
        exact this
      · intro y hy _
        simp only [Option.some.injEq] at hy
        subst hy
        have := hcell 0 (by omega)
        rw [add_plain] at this
        exact World.block_lt_of_cell? _ _ this
/-- bytes that lay below 'base' lie there still -/
theorem Holds.below {w w' : World} {a : Option Addr} {L : List Int} {base : Nat} (h : Holds w a L) (hb : Below base w w') (hlt : ∀ x, a = some x → L ≠ [] → x.block < base) : Holds w' a L := by
  rcases h with rfl | ⟨b, off, rfl, hc⟩
  · exact .inl rfl
  · refine .inr ⟨b, off, rfl, fun i hi => ?_⟩
    have hne : L ≠ [] := fun e => by subst e; simp at hi
    rw [hb.cell (p := ⟨b, off + i, none⟩) (hlt ⟨b, off, none⟩ rfl hne)]
    exact hc i hi
theorem conv_str {w : World} {a : Option Addr} {L : List Int} (h : Holds w a L) (n c : Nat) (hn : L.length = n) :
    (convert 35 9 (.slice a n c)).run Try.prog w = .ok (.string (strOfNums L)) w := by
  subst hn
  rcases h with rfl | ⟨b, off, rfl, hc⟩
  · rw [run_convert_bytes_string w 35 9 5 a _ c Try.underlying35 Try.underlying5 Try.underlying9]
    cases a with
    | none => simp [Conv.bytesToString]; rfl
    | some ad =>
      have := run_loadCells_list (P := Try.prog) w ad [] (by intro j v h; simp at h)
      rw [List.length_nil, run_bytesToString (P := Try.prog) w ad 0 c [] (by simpa using this)]
      rfl
  · exact run_convert_bytes_arg (P := Try.prog) w 35 5 Try.underlying35 Try.underlying5 b off _ c L rfl hc 9 Try.underlying9
theorem Owned.cap {w : World} {base : Nat} {a : Option Addr} {n c : Nat} {A : List Int} (h : Owned w base (.slice a n c) A) : n ≤ c ∧ c ≤ 9223372036854775807 := by
  obtain ⟨a', c', e, h1, h2, h3, h4⟩ := h.slice
  simp only [Value.slice.injEq] at e
  obtain ⟨rfl, rfl, rfl⟩ := e
  simp only [maxLen] at h3
  exact ⟨h4, by omega⟩
theorem Owned.lt_size {w : World} {base : Nat} {a : Option Addr} {n c : Nat} {A : List Int} (h : Owned w base (.slice a n c) A) : ∀ x, a = some x → x.block < w.heap.size := by
  intro x hx
  subst hx
  exact (World.ownsRow.lt h x.block rfl).2
theorem Owned.alloc {w : World} {base : Nat} {v : Value} {A : List Int} (h : Owned w base v A) (o : Obj) : Owned (w.alloc o) base v A := World.ownsRow.alloc h o
theorem Holds.take {w : World} {a : Option Addr} {L : List Int} (h : Holds w a L) (k : Nat) : Holds w a (L.take k) := by
  rcases h with rfl | ⟨b, off, rfl, hc⟩
  · exact .inl (by simp)
  · refine .inr ⟨b, off, rfl, fun i hi => ?_⟩
    rw [List.length_take] at hi
    rw [hc i (by omega)]
    simp [List.getD, show i < k by omega]
theorem Holds.pre {w : World} {a : Option Addr} {L M : List Int} (h : Holds w a (L ++ M)) : Holds w a L := by
  have := h.take L.length
  rwa [List.take_left] at this
/-- a row of literal bytes that has just been laid -/
theorem holds_one (w : World) (x : Int) : Holds (w.alloc (.cells #[.int .u8 x] 5)) (some ⟨w.heap.size, 0, none⟩) [x] :=
  .inr ⟨w.heap.size, 0, rfl, fun i hi => by
    have : i = 0 := by simpa using hi
    subst this
    simp [go_sem]⟩
theorem str_snoc (L : List Int) (x : Int) : (strOfNums (L ++ [x])).toList = (strOfNums L ++ strOfNums [x]).toList := by
  have e : strOfNums (L ++ [x]) = strOfNums L ++ strOfNums [x] := by
    apply ByteArray.ext
    rw [ByteArray.data_append]
    simp [strOfNums]
  rw [e]
theorem holds_laid (A : List Int) (w : World) (T : TypeId) : Holds (w.alloc (.cells (A.map (Value.int .u8)).toArray T)) (some ⟨w.heap.size, 0, none⟩) A :=
  .inr ⟨w.heap.size, 0, rfl, fun i hi => by
    simp only [Nat.zero_add]
    simp [go_sem, List.getD, List.getElem?_eq_getElem hi]⟩
theorem str_eq (A B : List Int) (ha : ∀ x ∈ A, 0 ≤ x ∧ x ≤ 255) (hb : ∀ x ∈ B, 0 ≤ x ∧ x ≤ 255) : ((strOfNums A).toList == (strOfNums B).toList) = decide (A = B) := by
  rw [Bool.eq_iff_iff, beq_iff_eq, decide_eq_true_iff]
  rw [Lib.strOfNums_toList, Lib.strOfNums_toList]
  exact bytesOf_inj A B ha hb
end Go.Proofs.Ytibgfjnddhfgpaa
