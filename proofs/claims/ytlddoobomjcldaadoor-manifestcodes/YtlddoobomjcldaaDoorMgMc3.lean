/- Slices of bytes in memory: what they hold, append(s, x...), string(b), what stays over changes of the world. append onto a slice of bytes of one's own: bytes, a text; with where the new slice lies and what else changed. References in memory; digests as keys; manifest.Check. manifest.Check. -/
import Derived.Test.YtlddoobomjcldaaDoorMgMc1
import Derived.Test.YtlddoobomjcldaaDoorMgMc0
import Derived.WalkSpells
import Derived.WalkLawsBesides
import Derived.Outline
import Derived.LoopTactic
import Derived.Deep.LoopGhost
import Derived.Deep.OwnRows
import Derived.Laws.BitsAllLaws
import Derived.Laws.Bits64
import Derived.Laws.BytesArg
import Derived.OwnWalk
import Derived.Laws.AppendOwnNone
import Derived.Lib.AppendStr
import Derived.ArgAppend
import Derived.Test.YtlddoobomjcldaaDoorMgMc2
import Derived.Deep.MidRow
import Derived.Deep.WholeRow
import Derived.WideKeyArr
import Derived.Laws.CopyOwn
import Derived.Maps.Own
import Derived.Maps.OwnOps
import Derived.Maps.OwnSet
import Derived.Maps.Views
namespace Go.Proofs.YtlddoobomjcldaaDoor
open Go.ChangeShapes Go.WideShapes Go.ChangeAt Go.RowKit Go.Deep
set_option linter.unusedVariables false
/-- a slice of bytes: where it has any, they lie at its address -/
def Holds (w : World) (a : Option Addr) (L : List Int) : Prop :=
  L = [] ∨ ∃ b off, a = some ⟨b, off, none⟩ ∧ ∀ i, i < L.length → w.cell? ⟨b, off + i, none⟩ = some (.int .u8 (L.getD i 0))
theorem info8 : (Tryd.prog.info? 5).map (fun i => (i.zero, i.size, i.bytes)) = some (some (.int .u8 0), 1, 1) := by kernel_rfl

/-- the value is a slice of the call's own memory (from block 'base' on) that holds the bytes A -/
def Owned (w : World) (base : Nat) (v : Value) (A : List Int) : Prop := w.ownsRow base 5 1 v A.length (A.map (Value.int .u8))

theorem add_plain (b off i : Nat) : (⟨b, off, none⟩ : Addr).add i = ⟨b, off + i, none⟩ := by unfold Addr.add; split <;> simp_all

theorem Owned.slice {w : World} {base : Nat} {v : Value} {A : List Int} (h : Owned w base v A) : ∃ a c, v = .slice a A.length c ∧ (a = none → c = 0 ∧ A = []) ∧ Holds w a A ∧ c ≤ maxLen ∧ A.length ≤ c := by
  rcases h.2 with ⟨rfl, hn⟩ | ⟨g, cap, cur, rfl, hb, hg, hl, hm, hs, ht⟩
  · have : A = [] := List.length_eq_zero_iff.1 hn
    subst this
    exact ⟨none, 0, rfl, fun _ => ⟨rfl, rfl⟩, .inl rfl, by simp, by simp⟩
  · refine ⟨_, _, rfl, fun h => by simp at h, .inr ⟨g, 0, rfl, fun i hi => ?_⟩, hm, hl⟩
    have hc := World.ownsRow.cells h (g := g) rfl i (.int .u8 (A.getD i 0)) (by simp [List.getD, List.getElem?_eq_getElem hi])
    rwa [add_plain] at hc

theorem Owned.holds {w : World} {base : Nat} {a : Option Addr} {n c : Nat} {A : List Int} (h : Owned w base (.slice a n c) A) : Holds w a A ∧ A.length = n ∧ (a = none → c = 0) := by
  obtain ⟨a', c', e, h1, h2, _⟩ := h.slice
  simp only [Value.slice.injEq] at e
  obtain ⟨rfl, rfl, rfl⟩ := e
  exact ⟨h2, rfl, fun h => (h1 h).1⟩

theorem Owned.block {w : World} {base : Nat} {v : Value} {A : List Int} (h : Owned w base v A) : ∀ k, v.ownBlock = some k → base ≤ k := fun k hk => (h.lt k hk).1

theorem info8p : ∃ i, Tryd.prog.info? 5 = some i ∧ i.zero = some (.int .u8 0) ∧ i.size = 1 ∧ i.bytes = 1 := info_parts info8

theorem owned_empty (w : World) (base : Nat) (hb : base ≤ w.heap.size) : Owned (w.alloc (.cells #[] 5)) base (.slice (some ⟨w.heap.size, 0, none⟩) 0 0) [] :=
  World.ownsRow_made w #[] 0 hb (by simp) (by simp)

theorem append_bytes {w : World} {ops : Array Oper} {rest : List Oper} {o : Oper} {act : Act} {Q : Exit → Act → World → Prop} (hgd : o.guard = none) (s x : Operand)
    (ho : o.op = .call { callee := .builtin .append, args := #[s, x], argTypes := #[23, 23] })
    (base : Nat) (v : Value) (A : List Int) (hs : act.eval s = v) (hown : Owned w base v A)
    (a : Option Addr) (m c : Nat) (L : List Int) (hx : act.eval x = .slice a m c) (hm : L.length = m) (hh : Holds w a L) (hc : a = none → c = 0)
    (N : Nat) (hN : A.length + m = N) (hbytes : N ≤ 140737488355328) (hbase : base ≤ w.heap.size)
    (h : ∀ a' c' w', Owned w' base (.slice a' N c') (A ++ L) → Below base w w' → wpList Tryd.prog ops Q rest (act.put o.dst (.slice a' N c')) w') :
    wpList Tryd.prog ops Q (o :: rest) act w := by
  subst hN
  obtain ⟨i, hi, hz, h1, h2⟩ := info8p
  cases a with
  | none =>
    have hc0 := hc rfl
    have hL : L = [] := by
      rcases hh with h | ⟨b, off, hb, _⟩
      · exact h
      · simp at hb
    subst hL
    subst hc0
    subst hm
    obtain ⟨a', c', rfl, _⟩ := hown.slice
    refine wpList_append_own_none hgd s x 23 ho base 5 i 1 Tryd.underlying23 hi _ _ _ hs hown hx ?_
    have := h a' c' w (by simpa using hown) (Below.refl _ _)
    simpa using this
  | some ad =>
    refine wpList_append_own w hgd s x 23 ho base 5 i (.int .u8 0) 1 1 Tryd.underlying23 hi hz h1 h2 rfl (by decide) v A.length _ hs hown ad m c (L.map (Value.int .u8)) hx (by simp [hm]) ?_ (ints_oneCell _ _) (by simp only [maxLen]; omega) (by omega) hbase ?_
    · intro j u hu
      have hj : j < L.length := by
        have := (List.getElem?_eq_some_iff.1 hu).1
        simpa using this
      rcases hh with h | ⟨b, off, hb, hcell⟩
      · subst h; simp at hj
      · simp only [Option.some.injEq] at hb
        subst hb
        rw [add_plain, hcell j hj]
        simp [List.getElem?_eq_getElem hj] at hu
        simp [List.getD, List.getElem?_eq_getElem hj, hu]
    · intro v' w' hown' hg _
      have ho' : Owned w' base v' (A ++ L) := by
        show w'.ownsRow base 5 1 v' (A ++ L).length ((A ++ L).map (Value.int .u8))
        rw [List.length_append, hm, List.map_append]
        exact hown'
      obtain ⟨a', c', rfl, _⟩ := ho'.slice
      have e : (A ++ L).length = A.length + m := by rw [List.length_append, hm]
      rw [e] at ho' ⊢
      exact h a' c' w' ho' ((Below.refl base w).grown hg hbase hown.block)
/-- what came in, as a slice of bytes -/
theorem IsRow.holds {w : World} {a : Option Addr} {len cap : Nat} {zs : List Int} (h : IsRow .u8 w a len cap zs) :
    ∃ L : List Int, L = zs.take len ∧ L.length = len ∧ Holds w a L ∧ IsBytes L ∧ (a = none → cap = 0) ∧ len ≤ 140737488351232 ∧ (∀ x, a = some x → L ≠ [] → x.block < w.heap.size) ∧ len ≤ cap ∧ cap ≤ 140737488351232 := by
  rcases h with ⟨rfl, rfl, rfl, rfl⟩ | ⟨x, rfl, hl, hm, hz, hcell, hwz⟩
  · exact ⟨[], rfl, rfl, .inl rfl, fun i hi => by simp at hi, fun _ => rfl, by omega, fun x hx => by simp at hx, by omega, by omega⟩
  · have hL : (zs.take len).length = len := by rw [List.length_take]; omega
    have hget : ∀ i, i < len → (zs.take len).getD i 0 = zs.getD i 0 := fun i hi => by simp [List.getD, hi]
    have hbytes : IsBytes (zs.take len) := bytes_of_mem fun n hn => wf_u8 (hwz n (List.mem_of_mem_take hn))
    by_cases h0 : len = 0
    · subst h0
      exact ⟨[], by simp, rfl, .inl rfl, fun i hi => by simp at hi, fun h => by simp at h, by omega, fun x hx h => absurd rfl h, hl, by omega⟩
    · obtain ⟨b, off, spot⟩ := x
      have hc := hcell 0 (by omega)
      have hspot : spot = none := by simpa [Addr.add] using World.cell?_spot hc
      subst hspot
      refine ⟨_, rfl, hL, .inr ⟨b, off, rfl, fun i hi => ?_⟩, hbytes, fun h => by simp at h, by omega, ?_, hl, by omega⟩
      · rw [hL] at hi
        have := hcell i (by omega)
        rw [add_plain] at this
        rw [hget i hi]
        exact this
      · intro y hy _
        simp only [Option.some.injEq] at hy
        subst hy
        have := hcell 0 (by omega)
        rw [add_plain] at this
        exact World.block_lt_of_cell? _ _ this
/-- bytes that lay below 'base' lie there still -/
theorem Holds.below {w w' : World} {a : Option Addr} {L : List Int} {base : Nat} (h : Holds w a L) (hb : Below base w w') (hlt : ∀ x, a = some x → L ≠ [] → x.block < base) : Holds w' a L := by
  rcases h with rfl | ⟨b, off, rfl, hc⟩
  · exact .inl rfl
  · refine .inr ⟨b, off, rfl, fun i hi => ?_⟩
    have hne : L ≠ [] := fun e => by subst e; simp at hi
    rw [hb.cell (p := ⟨b, off + i, none⟩) (hlt ⟨b, off, none⟩ rfl hne)]
    exact hc i hi
theorem conv_str {w : World} {a : Option Addr} {L : List Int} (h : Holds w a L) (n c : Nat) (hn : L.length = n) :
    (convert 23 9 (.slice a n c)).run Tryd.prog w = .ok (.string (strOfNums L)) w := by
  subst hn
  rcases h with rfl | ⟨b, off, rfl, hc⟩
  · rw [run_convert_bytes_string w 23 9 5 a _ c Tryd.underlying23 Tryd.underlying5 Tryd.underlying9]
    cases a with
    | none => simp [Conv.bytesToString]; rfl
    | some ad =>
      have := run_loadCells_list (P := Tryd.prog) w ad [] (by intro j v h; simp at h)
      rw [List.length_nil, run_bytesToString (P := Tryd.prog) w ad 0 c [] (by simpa using this)]
      rfl
  · exact run_convert_bytes_arg (P := Tryd.prog) w 23 5 Tryd.underlying23 Tryd.underlying5 b off _ c L rfl hc 9 Tryd.underlying9
theorem Owned.cap {w : World} {base : Nat} {a : Option Addr} {n c : Nat} {A : List Int} (h : Owned w base (.slice a n c) A) : n ≤ c ∧ c ≤ 9223372036854775807 := by
  obtain ⟨a', c', e, h1, h2, h3, h4⟩ := h.slice
  simp only [Value.slice.injEq] at e
  obtain ⟨rfl, rfl, rfl⟩ := e
  simp only [maxLen] at h3
  exact ⟨h4, by omega⟩
theorem Owned.lt_size {w : World} {base : Nat} {a : Option Addr} {n c : Nat} {A : List Int} (h : Owned w base (.slice a n c) A) : ∀ x, a = some x → x.block < w.heap.size := by
  intro x hx
  subst hx
  exact (World.ownsRow.lt h x.block rfl).2
theorem Owned.alloc {w : World} {base : Nat} {v : Value} {A : List Int} (h : Owned w base v A) (o : Obj) : Owned (w.alloc o) base v A := World.ownsRow.alloc h o
theorem Holds.take {w : World} {a : Option Addr} {L : List Int} (h : Holds w a L) (k : Nat) : Holds w a (L.take k) := by
  rcases h with rfl | ⟨b, off, rfl, hc⟩
  · exact .inl (by simp)
  · refine .inr ⟨b, off, rfl, fun i hi => ?_⟩
    rw [List.length_take] at hi
    rw [hc i (by omega)]
    simp [List.getD, show i < k by omega]
theorem Holds.pre {w : World} {a : Option Addr} {L M : List Int} (h : Holds w a (L ++ M)) : Holds w a L := by
  have := h.take L.length
  rwa [List.take_left] at this
/-- a row of literal bytes that has just been laid -/
theorem holds_one (w : World) (x : Int) : Holds (w.alloc (.cells #[.int .u8 x] 5)) (some ⟨w.heap.size, 0, none⟩) [x] :=
  .inr ⟨w.heap.size, 0, rfl, fun i hi => by
    have : i = 0 := by simpa using hi
    subst this
    simp [go_sem]⟩
theorem str_snoc (L : List Int) (x : Int) : (strOfNums (L ++ [x])).toList = (strOfNums L ++ strOfNums [x]).toList := by
  have e : strOfNums (L ++ [x]) = strOfNums L ++ strOfNums [x] := by
    apply ByteArray.ext
    rw [ByteArray.data_append]
    simp [strOfNums]
  rw [e]
theorem holds_laid (A : List Int) (w : World) (T : TypeId) : Holds (w.alloc (.cells (A.map (Value.int .u8)).toArray T)) (some ⟨w.heap.size, 0, none⟩) A :=
  .inr ⟨w.heap.size, 0, rfl, fun i hi => by
    simp only [Nat.zero_add]
    simp [go_sem, List.getD, List.getElem?_eq_getElem hi]⟩
theorem str_eq (A B : List Int) (ha : ∀ x ∈ A, 0 ≤ x ∧ x ≤ 255) (hb : ∀ x ∈ B, 0 ≤ x ∧ x ≤ 255) : ((strOfNums A).toList == (strOfNums B).toList) = decide (A = B) := by
  rw [Bool.eq_iff_iff, beq_iff_eq, decide_eq_true_iff]
  rw [Lib.strOfNums_toList, Lib.strOfNums_toList]
  exact bytesOf_inj A B ha hb
end Go.Proofs.YtlddoobomjcldaaDoor
namespace Go.Proofs.YtlddoobomjcldaaDoor
open Go.ChangeShapes Go.WideShapes Go.ChangeAt Go.RowKit Go.Deep
set_option linter.unusedVariables false
theorem strCells_tx (t : Tx) : Lib.strCells (tx t) = (nm t).map (Value.int .u8) := by
  simp [Lib.strCells, tx, nm, Function.comp_def]
theorem holds_cells {w : World} {ad : Addr} {L : List Int} (hh : Holds w (some ad) L) : ∀ j u, (L.map (Value.int .u8))[j]? = some u → w.cell? (ad.add j) = some u := by
  intro j u hu
  have hj : j < L.length := by
    have := (List.getElem?_eq_some_iff.1 hu).1
    simpa using this
  rcases hh with h | ⟨b, off, hb, hcell⟩
  · subst h; simp at hj
  · simp only [Option.some.injEq] at hb
    subst hb
    rw [add_plain, hcell j hj]
    simp [List.getElem?_eq_getElem hj] at hu
    simp [List.getD, List.getElem?_eq_getElem hj, hu]
theorem gB_refl (w : World) (row : Option Nat) : w.grownBy w row := ⟨rfl, rfl, rfl, Nat.le_refl _, fun _ _ _ => rfl⟩
theorem appB_run {w : World} (base : Nat) (v : Value) (A : List Int) (hown : Owned w base v A)
    (a : Option Addr) (m c : Nat) (L : List Int) (hm : L.length = m) (hh : Holds w a L) (hc : a = none → c = 0) (hN : A.length + m ≤ 100000000000000) (hbase : base ≤ w.heap.size) (ty : TypeId) :
    ∃ v' w', (Builtin.append_ #[23, 23] ty #[v, .slice a m c]).run Tryd.prog w = .ok v' w' ∧ Owned w' base v' (A ++ L) ∧ w.grownBy w' v.ownBlock ∧ (v'.ownBlock = v.ownBlock ∨ v'.ownBlock = some w.heap.size) := by
  obtain ⟨i, hi, hz, h1, h2⟩ := info8p
  rcases hown.2 with ⟨rfl, hn0⟩ | ⟨g, cap, cur, rfl, hbg, hg, hnc, hcm, hcs, htake⟩
  · have hA0 : A = [] := List.length_eq_zero_iff.1 hn0
    subst hA0
    by_cases hm0 : m = 0
    · subst hm0
      have hL : L = [] := List.length_eq_zero_iff.1 hm
      subst hL
      refine ⟨.slice none 0 0, w, ?_, hown, gB_refl _ _, .inl rfl⟩
      cases a with
      | none => simp [Builtin.append_, run_underlying Tryd.underlying23, sizeOf, typeInfo, hi, Builtin.lenOf, Builtin.firstCells]
      | some ad => simp [Builtin.append_, run_underlying Tryd.underlying23, sizeOf, typeInfo, hi, Builtin.lenOf, Builtin.firstCells, loadCells, loadCellsFrom]
    · cases a with
      | none =>
        exfalso
        rcases hh with h | ⟨b, off, hb, _⟩
        · rw [h] at hm; simp at hm; omega
        · simp at hb
      | some ad =>
        have hr := run_append_nil (P := Tryd.prog) w 23 ty 5 i (.int .u8 0) Tryd.underlying23 hi hz ad m c (L.map (Value.int .u8)) (by simp [hm, h1]) (holds_cells hh) (by omega) (by omega) (by rw [h2]; omega)
        have hge := grownCap_ge w m 0 5
        have hle := grownCap_le_maxLen w m 0 5 (by simp only [maxLen]; omega)
        refine ⟨_, _, hr, ?_, ⟨rfl, rfl, rfl, by simp, fun k hk _ => Below.heap_alloc w.drew _ k hk⟩, .inr rfl⟩
        refine ⟨by simp, .inr ⟨w.heap.size, _, _, by simp [hm], hbase, heap_alloc_new w.drew _, by simp [hm]; exact hge, hle, ?_, ?_⟩⟩
        · simp [size_zeroCells, hm, Value.cells]; omega
        · rw [List.nil_append, hm, Nat.mul_one]
          simp only [Array.toList_append]
          have : (L.map (Value.int .u8)).toArray.toList.length = m := by simp [hm]
          rw [← this]
          exact List.take_left
  · have hAl : (A.map (Value.int .u8)).length = A.length := by simp
    rw [Nat.mul_one] at hcs htake
    cases a with
    | none =>
      have hL : L = [] := by
        rcases hh with h | ⟨b, off, hb, _⟩
        · exact h
        · simp at hb
      subst hL
      have hc0 := hc rfl
      subst hc0
      have hm0 : m = 0 := by rw [← hm]; rfl
      subst hm0
      refine ⟨.slice (some ⟨g, 0, none⟩) A.length cap, w, ?_, ?_, gB_refl _ _, .inl rfl⟩
      · simp [Builtin.append_, run_underlying Tryd.underlying23, sizeOf, typeInfo, hi, Builtin.lenOf, hnc, Builtin.firstCells, storeCells]
      · rw [List.append_nil]; exact hown
    | some ad =>
      have hlen : ((A ++ L).map (Value.int .u8)).length = A.length + m := by simp [hm]
      by_cases hroom : A.length + m ≤ cap
      · have hr := run_append_room (P := Tryd.prog) w 23 ty 5 i Tryd.underlying23 hi g A.length cap cur hg ad m c (L.map (Value.int .u8)) (by simp [hm, h1]) (holds_cells hh) (ints_oneCell _ _) hroom (by simp [h1, hm, hcs]; exact hroom)
        refine ⟨_, _, hr, ?_, ⟨rfl, rfl, rfl, by simp, fun k _ hk => setRow_other w g k _ (fun e => hk (by simp [Value.ownBlock, e]))⟩, .inl rfl⟩
        refine ⟨by simp, .inr ⟨g, cap, _, by simp [hm], hbg, setRow_heap w g cur _ 5 _ hg, by simp [hm]; exact hroom, hcm, ?_, ?_⟩⟩
        · simp [h1, hm]; omega
        · rw [h1]
          simp only [Nat.mul_one]
          rw [htake, List.length_append, hm, ← hlen, List.map_append]
          exact List.take_left
      · have holds : ∀ j u, (A.map (Value.int .u8))[j]? = some u → w.cell? ((⟨g, 0, none⟩ : Addr).add j) = some u := World.ownsRow.cells hown (g := g) rfl
        have hr := run_append_grow (P := Tryd.prog) w 23 ty 5 i (.int .u8 0) Tryd.underlying23 hi hz ⟨g, 0, none⟩ A.length cap (A.map (Value.int .u8)) (by simp [h1]) holds ad m c (L.map (Value.int .u8)) (by simp [hm, h1]) (holds_cells hh) (by omega) (by omega) (growslice_fits (by omega) (by rw [h2]; omega))
        have hge := grownCap_ge w (A.length + m) cap 5
        have hle := grownCap_le_maxLen w (A.length + m) cap 5 (by simp only [maxLen]; omega)
        refine ⟨_, _, hr, ?_, ⟨rfl, rfl, rfl, by simp, fun k hk _ => Below.heap_alloc w.drew _ k hk⟩, .inr rfl⟩
        refine ⟨by simp, .inr ⟨w.heap.size, _, _, by simp [hm], hbase, heap_alloc_new w.drew _, by simp [hm]; exact hge, hle, ?_, ?_⟩⟩
        · simp [size_zeroCells, hm, Value.cells]; omega
        · rw [List.length_append, hm, Nat.mul_one, ← hlen]
          simp only [Array.toList_append, List.append_assoc, List.map_append]
          rw [← List.append_assoc, ← List.map_append]
          exact List.take_left
theorem Owned.base {w : World} {a b : Nat} {v : Value} {A : List Int} (h : Owned w b v A) (hab : a ≤ b) : Owned w a v A := by
  refine ⟨h.1, ?_⟩
  rcases h.2 with h1 | ⟨g, cap, cur, rfl, hbg, rest⟩
  · exact .inl h1
  · exact .inr ⟨g, cap, cur, rfl, Nat.le_trans hab hbg, rest⟩
/-- append onto a slice that has no room -/
theorem append_grow {w : World} {ops : Array Oper} {rest : List Oper} {o : Oper} {act : Act} {Q : Exit → Act → World → Prop} (hgd : o.guard = none) (s x : Operand)
    (ho : o.op = .call { callee := .builtin .append, args := #[s, x], argTypes := #[23, 23] })
    (A : List Int) (q : Nat) (hq : A.length = q) (g : Addr) (hs : act.eval s = .slice (some g) q q) (hA : Holds w (some g) A)
    (ad : Addr) (m c : Nat) (L : List Int) (hx : act.eval x = .slice (some ad) m c) (hm : L.length = m) (hh : Holds w (some ad) L) (h0 : 0 < m) (hN : q + m ≤ 140737488355328)
    (h : ∀ v' w', Owned w' w.heap.size v' (A ++ L) → Below w.heap.size w w' → wpList Tryd.prog ops Q rest (act.put o.dst v') w') :
    wpList Tryd.prog ops Q (o :: rest) act w := by
  subst hq
  obtain ⟨i, hi, hz, h1, h2⟩ := info8p
  obtain ⟨v', w', hr, h3, h4⟩ := run_append_arg_grows (P := Tryd.prog) (w := w) 23 o.type 5 i (.int .u8 0) 1 1 Tryd.underlying23 hi hz h1 h2 rfl (by decide) g A.length A.length (A.map (Value.int .u8)) (by simp) (holds_cells hA) ad m c (L.map (Value.int .u8)) (by simp [hm]) (holds_cells hh) (by omega) (by simp only [maxLen]; omega) (by omega)
  refine wpList_plain hgd fun _ hK => ?_
  unfold Oper.wp execOp
  simp only [ho, resolve, invoke, builtin, Sem.run_bind, Sem.run_pure, Result.andThen_ok, List.map_toArray, List.map_cons, List.map_nil, hs, hx, hr]
  refine hK _ _ (h v' w' ?_ ((Below.refl w.heap.size w).grown h4 (Nat.le_refl _) (fun k hk => by cases hk)))
  unfold Owned
  rw [List.length_append, hm, List.map_append]
  exact h3
/-- what grew: the row r (now r'), new blocks, and nothing else -/
def Gr (w w' : World) (r r' : Option Nat) : Prop := w.grownBy w' r ∧ (r' = r ∨ ∃ k, r' = some k ∧ w.heap.size ≤ k)
theorem Gr.trans {w w1 w2 : World} {r r1 r2 : Option Nat} (h : Gr w w1 r r1) (k : Gr w1 w2 r1 r2) : Gr w w2 r r2 := by
  refine ⟨⟨k.1.os.trans h.1.os, k.1.tape.trans h.1.tape, k.1.output.trans h.1.output, Nat.le_trans h.1.size k.1.size, fun g hg hr => (k.1.block g (Nat.lt_of_lt_of_le hg h.1.size) ?_).trans (h.1.block g hg hr)⟩, ?_⟩
  · rcases h.2 with e | ⟨q, e, hq⟩
    · rw [e]; exact hr
    · rw [e]; intro h2; have := Option.some.inj h2; omega
  · rcases k.2 with e | ⟨q, e, hq⟩
    · rw [e]; exact h.2
    · exact .inr ⟨q, e, Nat.le_trans h.1.size hq⟩
theorem Gr.ofBelow {w w' : World} (h : Below w.heap.size w w') (r : Option Nat) : Gr w w' r r := ⟨⟨h.os, h.tape, h.output, h.size, fun g hg _ => h.block g hg⟩, .inl rfl⟩
theorem Gr.alloc (w : World) (o : Obj) (r : Option Nat) : Gr w (w.alloc o) r r := Gr.ofBelow ((Below.refl _ _).alloc (Nat.le_refl _) _) r
theorem Gr.below {w w' : World} {r r' : Option Nat} (h : Gr w w' r r') (B : Nat) (hB : B ≤ w.heap.size) (hr : ∀ k, r = some k → B ≤ k) : Below B w w' :=
  ⟨h.1.os, h.1.tape, h.1.output, h.1.size, fun k hk => h.1.block k (by omega) (fun e => by have := hr k e.symm; omega)⟩
theorem Gr.block {w w' : World} {r r' : Option Nat} (h : Gr w w' r r') (k : Nat) (hk : k < w.heap.size) (hr : r ≠ some k) : w'.heap[k]? = w.heap[k]? := h.1.block k hk (fun e => hr e.symm)
theorem Owned.keep {w w' : World} {base : Nat} {v : Value} {A : List Int} (h : Owned w base v A) (hb : Below w.heap.size w w') : Owned w' base v A := by
  refine ⟨h.1, ?_⟩
  have hlt := fun k hk => (World.ownsRow.lt h k hk).2
  rcases h.2 with h1 | ⟨g, cap, cur, rfl, hbg, hg, rest⟩
  · exact .inl h1
  · exact .inr ⟨g, cap, cur, rfl, hbg, (hb.block g (hlt g rfl)).trans hg, rest⟩
theorem Owned.own {w : World} {base : Nat} {v : Value} {A : List Int} (h : Owned w base v A) : ∀ k, v.ownBlock = some k → base ≤ k ∧ k < w.heap.size := fun k hk => World.ownsRow.lt h k hk
/-- bytes in a block of which nothing changed -/
theorem Holds.gr {w w' : World} {r r' : Option Nat} {x : Addr} {L : List Int} (h : Holds w (some x) L) (hg : Gr w w' r r') (hx : x.block < w.heap.size) (hr : r ≠ some x.block) : Holds w' (some x) L := by
  rcases h with e | ⟨b, off, e, hc⟩
  · exact .inl e
  · cases e
    refine .inr ⟨b, off, rfl, fun i hi => ?_⟩
    rw [← hc i hi]
    exact World.cell?_of_block (a := ⟨b, off + i, none⟩) (hg.block b hx hr)
theorem appB {w : World} {ops : Array Oper} {rest : List Oper} {o : Oper} {act : Act} {Q : Exit → Act → World → Prop} (hgd : o.guard = none) (s x : Operand)
    (ho : o.op = .call { callee := .builtin .append, args := #[s, x], argTypes := #[23, 23] })
    (base : Nat) (v : Value) (A : List Int) (hs : act.eval s = v) (hown : Owned w base v A)
    (a : Option Addr) (m c : Nat) (L : List Int) (hx : act.eval x = .slice a m c) (hm : L.length = m) (hh : Holds w a L) (hc : a = none → c = 0) (hN : A.length + m ≤ 100000000000000) (hbase : base ≤ w.heap.size)
    (h : ∀ v' w', Owned w' base v' (A ++ L) → Gr w w' v.ownBlock v'.ownBlock → wpList Tryd.prog ops Q rest (act.put o.dst v') w') :
    wpList Tryd.prog ops Q (o :: rest) act w := by
  obtain ⟨v', w', hr, h2, h3, h4⟩ := appB_run base v A hown a m c L hm hh hc hN hbase o.type
  refine wpList_plain hgd fun _ hK => ?_
  unfold Oper.wp execOp
  simp only [ho, resolve, invoke, builtin, Sem.run_bind, Sem.run_pure, Result.andThen_ok, List.map_toArray, List.map_cons, List.map_nil, hs, hx, hr]
  refine hK _ _ (h v' w' h2 ⟨h3, ?_⟩)
  rcases h4 with e | e
  · exact .inl e
  · exact .inr ⟨_, e, Nat.le_refl _⟩
theorem appS_run {w : World} (base : Nat) (v : Value) (A : List Int) (hown : Owned w base v A) (t : Tx) (hN : A.length + t.length ≤ 140737488355328) (hbase : base ≤ w.heap.size) (ty : TypeId) :
    ∃ v' w', (Builtin.append_ #[23, 9] ty #[v, .string (tx t)]).run Tryd.prog w = .ok v' w' ∧ Owned w' base v' (A ++ nm t) ∧ Gr w w' v.ownBlock v'.ownBlock := by
  obtain ⟨i, hi, hz, h1, h2⟩ := info8p
  have hts := tx_size t
  obtain ⟨v', w', hr, h3, h4, h5⟩ := Lib.run_append_own_string (P := Tryd.prog) w base 23 9 ty 5 i Tryd.underlying23 Tryd.underlying9 hi hz h1 h2 v A.length _ hown (tx t) (by rw [hts]; simp only [maxLen]; omega) (by rw [hts]; exact hN) hbase
  have ho' : Owned w' base v' (A ++ nm t) := by
    unfold Owned
    rw [List.length_append, nm_length, List.map_append, ← strCells_tx, ← hts]
    exact h3
  refine ⟨v', w', hr, ho', h4, ?_⟩
  rcases hown.2 with ⟨rfl, hn0⟩ | ⟨g, cap, cur, rfl, hbg, hg, hnc, hcm, hcs, htake⟩
  · by_cases hm : (tx t).size = 0
    · left; rw [h5.2 ⟨rfl, hm⟩]
    · have hr2 := run_append_nil_string (P := Tryd.prog) w 23 9 ty 5 i (.int .u8 0) Tryd.underlying23 Tryd.underlying9 hi hz (tx t) (by omega) (by omega) (by rw [h2]; omega)
      rw [hr2] at hr
      cases hr
      exact .inr ⟨_, rfl, Nat.le_refl _⟩
  · by_cases hroom : A.length + (tx t).size ≤ cap
    · have hcs' : cur.size = cap := by simpa using hcs
      have hr2 := Lib.run_append_room_string (P := Tryd.prog) w 23 9 ty 5 i Tryd.underlying23 Tryd.underlying9 hi h1 g A.length cap cur hg (tx t) hroom (by omega)
      rw [hr2] at hr
      cases hr
      exact .inl rfl
    · have holds : ∀ j u, (A.map (Value.int .u8))[j]? = some u → w.cell? ((⟨g, 0, none⟩ : Addr).add j) = some u := World.ownsRow.cells hown (g := g) rfl
      have hr2 := Lib.run_append_grow_string (P := Tryd.prog) w 23 9 ty 5 i (.int .u8 0) Tryd.underlying23 Tryd.underlying9 hi hz ⟨g, 0, none⟩ A.length cap (A.map (Value.int .u8)) (by simp [h1]) holds (tx t) (by omega) (by omega) (by rw [h2]; exact growslice_fits (by omega) (by omega))
      rw [hr2] at hr
      cases hr
      exact .inr ⟨_, rfl, Nat.le_refl _⟩
/-- append(s, text...) -/
theorem appS {w : World} {ops : Array Oper} {rest : List Oper} {o : Oper} {act : Act} {Q : Exit → Act → World → Prop} (hgd : o.guard = none) (s x : Operand)
    (ho : o.op = .call { callee := .builtin .append, args := #[s, x], argTypes := #[23, 9] })
    (base : Nat) (v : Value) (A : List Int) (hs : act.eval s = v) (hown : Owned w base v A) (t : Tx) (hx : act.eval x = .string (tx t)) (hN : A.length + t.length ≤ 140737488355328) (hbase : base ≤ w.heap.size)
    (h : ∀ v' w', Owned w' base v' (A ++ nm t) → Gr w w' v.ownBlock v'.ownBlock → wpList Tryd.prog ops Q rest (act.put o.dst v') w') :
    wpList Tryd.prog ops Q (o :: rest) act w := by
  obtain ⟨v', w', hr, h2, h3⟩ := appS_run base v A hown t hN hbase o.type
  refine wpList_plain hgd fun _ hK => ?_
  unfold Oper.wp execOp
  simp only [ho, resolve, invoke, builtin, Sem.run_bind, Sem.run_pure, Result.andThen_ok, List.map_toArray, List.map_cons, List.map_nil, hs, hx, hr]
  exact hK _ _ (h v' w' h2 h3)
end Go.Proofs.YtlddoobomjcldaaDoor
namespace Go.Proofs.YtlddoobomjcldaaDoor
open Go.ChangeShapes Go.WideShapes Go.ChangeAt Go.RowKit Go.Deep Go.Maps
set_option linter.unusedVariables false
/-- the cells of a reference -/
def rcl (x : Rf) : List Value := x.1.map (Value.int .u8) ++ [.int .i64 x.2]
theorem rcl_len {x : Rf} (h : x.1.length = 32) : (rcl x).length = 33 := by simp [rcl, h]
/-- a slice of references may be read -/
def InR (w : World) (a : Option Addr) (l : List Rf) : Prop := l = [] ∨ ∃ b off, a = some ⟨b, off, none⟩ ∧ b < w.heap.size ∧ ∀ i x, l[i]? = some x → w.rangeAt b (off + i * 33) (rcl x)
theorem rangeAt_below {w w' : World} {b o B : Nat} {cs : List Value} (h : w.rangeAt b o cs) (hb : Below B w w') (hB : b < B) : w'.rangeAt b o cs := fun i v hi => (hb.cell (p := ⟨b, o + i, none⟩) hB).trans (h i v hi)
theorem InR.keep {w w' : World} {a : Option Addr} {l : List Rf} (h : InR w a l) (hb : Below w.heap.size w w') : InR w' a l := by
  rcases h with e | ⟨b, off, h1, h2, h3⟩
  · exact .inl e
  · exact .inr ⟨b, off, h1, Nat.lt_of_lt_of_le h2 hb.size, fun i x hx => rangeAt_below (h3 i x hx) hb h2⟩
theorem InR.at {w : World} {a : Option Addr} {l : List Rf} (h : InR w a l) {j : Nat} {x : Rf} (hx : l[j]? = some x) : ∃ b off, a = some ⟨b, off, none⟩ ∧ b < w.heap.size ∧ w.rangeAt b (off + j * 33) (rcl x) := by
  rcases h with e | ⟨b, off, h1, h2, h3⟩
  · subst e; simp at hx
  · exact ⟨b, off, h1, h2, h3 j x hx⟩
theorem arrKey : WideMaps.ArrKey Tryd.prog 35 5 32 := ⟨Tryd.underlying35, by kernel_rfl, by kernel_rfl, by kernel_rfl⟩
theorem lawD : Keyed Tryd.prog 35 := Keyed.of_law arrKey.law
theorem zeroI (w : World) : (zeroValue 3).run Tryd.prog w = .ok (.int .i64 0) w := by kernel_rfl
/-- the key of a digest -/
def kd (d : List Int) : Lit := .string (keyBytes (d.map (Lit.int .u8)))
def dv (d : List Int) : Value := .agg (d.map (Value.int .u8)).toArray
theorem mapM_some {α β : Type} {f : α → Option β} {g : α → β} : ∀ (l : List α), (∀ a ∈ l, f a = some (g a)) → l.mapM f = some (l.map g)
  | [], _ => rfl
  | a :: r, h => by
    rw [List.mapM_cons, h a (by simp), mapM_some r (fun b hb => h b (by simp [hb]))]
    rfl
theorem wf8M {x : Int} (h0 : 0 ≤ x) (h1 : x ≤ 255) : (Lit.int .u8 x).wf = true := by
  simp [Lit.wf, IntKind.min, IntKind.max, IntKind.signed, IntKind.bits]
  omega
theorem flat_one {α β : Type} (f : α → β) : ∀ l : List α, (l.map fun i => [f i]).flatten = l.map f
  | [] => rfl
  | a :: r => by simp [flat_one f r]
theorem range_get {β : Type} (f : Int → β) (d : List Int) : (List.range d.length).map (fun i => f (d.getD i 0)) = d.map f := by
  apply List.ext_getElem
  · simp
  · intro i h1 h2
    have hi : i < d.length := by simpa using h1
    simp [List.getD, hi]
theorem one_at {β : Type} (f : Int → β) (d : List Int) (i : Nat) (h : i < d.length) : ((d.map f).drop i).take 1 = [f (d.getD i 0)] := by
  rw [List.drop_eq_getElem_cons (by simpa using h)]
  simp [List.getD, h]
theorem cellsU8 : Tryd.prog.cellsOf 5 = 1 := by kernel_rfl
theorem cellsDg : Tryd.prog.cellsOf 35 = 32 := by kernel_rfl
theorem keyTypeDg : Tryd.prog.keyType 35 = true := by kernel_rfl
theorem typesPos : 0 < Tryd.prog.types.size := of_decide_eq_true (by kernel_rfl)
theorem keyOf_dg (d : List Int) (hd : d.length = 32) (hb : IsBytes d) : keyOf Tryd.prog 35 (dv d) = some (kd d) := by
  obtain ⟨m, hm⟩ : ∃ m, Tryd.prog.types.size = m + 1 := ⟨Tryd.prog.types.size - 1, by have := typesPos; omega⟩
  unfold keyOf dv kd
  rw [Tryd.underlying35]
  have h2 : (Value.agg (d.map (Value.int .u8)).toArray).formed Tryd.prog 35 = true := by
    simp only [Value.formed, Tryd.underlying35, cellsDg]
    simp [hd]
  have h3 : Tryd.prog.keyLits (Tryd.prog.types.size + 1) 35 (d.map (Value.int .u8)) = some (d.map (Lit.int .u8)) := by
    unfold Program.keyLits
    rw [Tryd.underlying35]
    simp only
    rw [if_pos (by rw [cellsDg]; simp [hd]), mapM_some (g := fun i => [Lit.int .u8 (d.getD i 0)])]
    · simp only [Option.map_some, Option.some.injEq]
      rw [flat_one (fun i => Lit.int .u8 (d.getD i 0)), ← hd, range_get]
    · intro i hi
      have hi' : i < 32 := by simpa using hi
      rw [hm, cellsU8]
      unfold Program.keyLits
      rw [Tryd.underlying5]
      have e : ((d.map (Value.int .u8)).drop (i * 1)).take 1 = [Value.int .u8 (d.getD i 0)] := by
        rw [Nat.mul_one]
        exact one_at _ d i (by omega)
      rw [e]
      simp only
      have hbi := hb i (by omega)
      rw [if_pos ⟨trivial, wf8M hbi.1 hbi.2⟩]
  simp only [keyTypeDg, h2, Bool.and_self, if_true]
  have h4 : (Value.agg (d.map (Value.int .u8)).toArray).cells.toList = d.map (Value.int .u8) := by simp [Value.cells]
  rw [h4, h3]
  rfl
theorem kd_inj {d e : List Int} (hd : d.length = 32) (hb : IsBytes d) (he : e.length = 32) (hc : IsBytes e) (h : kd d = kd e) : d = e := by
  have h1 := keyOf_dg d hd hb
  have h2 := keyOf_dg e he hc
  rw [← h] at h2
  have := lawD.inj h1 h2
  simp only [dv, Value.agg.injEq] at this
  have h3 : d.map (Value.int .u8) = e.map (Value.int .u8) := by simpa using congrArg Array.toList this
  exact (List.map_inj_right (fun a b h => by cases h; rfl)).1 h3
/-- the map holds just these digests -/
def Has (D : DataW Unit) (ds : List (List Int)) : Prop := IsMap D ∧ ∀ e : List Int, e.length = 32 → IsBytes e → Maps.has D (kd e) = decide (e ∈ ds)
end Go.Proofs.YtlddoobomjcldaaDoor
namespace Go.Proofs.YtlddoobomjcldaaDoor
open Go.ChangeShapes Go.WideShapes Go.ChangeAt Go.RowKit Go.Deep Go.Maps
set_option linter.unusedVariables false
def z33 : Array Value := (List.replicate 32 (Value.int .u8 0) ++ [Value.int .i64 0]).toArray
theorem zero33_info : (Tryd.prog.info? 80).map (fun i => (i.zero, i.size)) = some (some (.agg z33), 33) := by kernel_rfl
theorem size33 : (Tryd.prog.info? 80).map (·.size) = some 33 := by kernel_rfl
theorem sizeDg : (Tryd.prog.info? 35).map (·.size) = some 32 := by kernel_rfl
theorem z33_size : z33.size = 33 := by kernel_rfl
theorem rcl_one (x : Rf) : (rcl x).toArray.all (·.oneCell') = true := all_oneCell_toArray fun v hv => by
  simp only [rcl, List.mem_append, List.mem_map, List.mem_singleton] at hv
  rcases hv with ⟨y, _, rfl⟩ | rfl <;> rfl
/-- a manifest as a value -/
def mv (m : Mf) (a : Option Addr) (n c : Nat) : Value := .agg #[.string (tx m.1), .string (tx m.2.1), .slice a n c]
theorem one_blockM {w w1 : World} {a : Obj} (hb : Below (w.alloc a).heap.size (w.alloc a) w1) : w1.heap[w.heap.size]? = some a ∧ Below w.heap.size w w1 := by
  have e1 : (w.alloc a).heap.size = w.heap.size + 1 := by simp
  have h1 : Below w.heap.size w (w.alloc a) := (Below.refl _ _).alloc (Nat.le_refl _) _
  exact ⟨(hb.block _ (by rw [e1]; omega)).trans (heap_alloc_new w a), h1.trans (hb.mono (by rw [e1]; omega))⟩
theorem mck_step {l : List Rf} {j : Nat} {x : Rf} (hx : l[j]? = some x) : mck ((l.take j).map (·.1)) (l.drop j) = if x.2 < 0 ∨ 2147483647 < x.2 then 2 else if x.1 ∈ (l.take j).map (·.1) then 8 else mck ((l.take (j + 1)).map (·.1)) (l.drop (j + 1)) := by
  obtain ⟨hj, e⟩ := List.getElem?_eq_some_iff.1 hx
  rw [List.drop_eq_getElem_cons hj, e, List.take_succ_eq_append_getElem hj, e]
  simp [mck]
theorem row_range {w : World} {g : Nat} {x : Rf} {t : TypeId} {fr : Nat × Nat} (h : w.heap[g]? = some (.cells (rcl x).toArray t fr)) : w.rangeAt g 0 (rcl x) := by
  intro j v hv
  rw [Nat.zero_add, cell_of_row w g j _ _ _ h]
  simpa using hv
theorem rcl_sum {w : World} {g o : Nat} {x : Rf} (h : w.rangeAt g o (rcl x)) : w.rangeAt g o (x.1.map (Value.int .u8)) := by
  intro j v hv
  refine h j v ?_
  unfold rcl
  rw [List.getElem?_append_left (List.getElem?_eq_some_iff.1 hv).1]
  exact hv
theorem rcl_size {w : World} {g o : Nat} {x : Rf} (h32 : x.1.length = 32) (h : w.rangeAt g o (rcl x)) : w.cell? ⟨g, o + 32, none⟩ = some (.int .i64 x.2) := h 32 _ (by simp [rcl, h32])
theorem Has.empty : Has (.map []) [] := ⟨isMap_empty, fun e _ _ => rfl⟩
theorem Has.put {D : DataW Unit} {ds : List (List Int)} (h : Has D ds) {d : List Int} (hd : d.length = 32) (hb : IsBytes d) (u : DataW Unit) : Has (D.put (kd d) u) (ds ++ [d]) := by
  refine ⟨h.1.put _ _, fun e he hc => ?_⟩
  by_cases hed : e = d
  · subst hed
    rw [has_put_same h.1 (lawD.key (keyOf_dg e he hc))]
    simp
  · rw [has_put_other (fun k => hed (kd_inj he hc hd hb k)), h.2 e he hc]
    rw [Bool.eq_iff_iff]
    simp [hed]
set_option maxRecDepth 100000 in
set_option maxHeartbeats 8000000 in
theorem mcheck_is (m : Mf) (n : Nat) (hn : m.2.2.length = n) (hn62 : n ≤ 4611686018427387904) (hd : Dgs m.2.2) (h1 : m.1.length ≤ 140737488355328) (h2 : m.2.1.length ≤ 140737488355328) (a : Option Addr) (c : Nat) (w : World) (hl : InR w a m.2.2) :
    Calls Tryd.prog 24 #[mv m a n c] w fun e w' => e = .returned (.int .i64 (mchk m)) ∧ Below w.heap.size w w' := by
  obtain ⟨N, V, l⟩ := m
  simp only at *
  have K1 : Hid (∀ w, Calls Tryd.prog 46 #[.string (tx N)] w fun e w' => e = .returned (.bool (nmOk N)) ∧ Below w.heap.size w w') := isName_is N h1
  have K2 : Hid (∀ w, Calls Tryd.prog 46 #[.string (tx V)] w fun e w' => e = .returned (.bool (nmOk V)) ∧ Below w.heap.size w w') := isName_is V h2
  have HM : Hid (mchk (N, V, l) = if nmOk N = false ∨ nmOk V = false then 2 else if l = [] then 9 else if 8 < l.length then 3 else mck [] l) := rfl
  obtain ⟨r, hr⟩ : ∃ r, r = mchk (N, V, l) := ⟨_, rfl⟩
  rw [← hr] at HM ⊢
  unfold mv
  have HL : Hid (InR w a l) := hl
  have HN : Hid (l.length = n) := hn
  have HD : Hid (Dgs l) := hd
  generalize nmOk N = p at *
  generalize nmOk V = q at *
  simp only
  generalize tx N = SN at *
  generalize tx V = SV at *
  clear hl hn hd hr h1 h2
  have hmm := @run_makeMap Tryd.prog
  have hz33 := (zero_of_info zero33_info).1
  go_enter Tryd.func24, Tryd.ntmps24
  go_wp2_with fail
  refine (K1.out _).mono ?_
  rintro e w1 ⟨rfl, hb1⟩
  obtain ⟨g1, hb2⟩ := one_blockM hb1
  have B1 : Hid (Below w.heap.size w w1) := hb2
  have G1 : Hid (w1.heap[w.heap.size]? = some (.cells #[.string SN, .string SV, .slice a n c] 44)) := g1
  have c1 : w1.cell? ⟨w.heap.size, 1, none⟩ = some (.string SV) := by rw [cell_of_row w1 _ 1 _ _ _ g1]; rfl
  clear hb1 hb2 g1
  cases p with
  | false =>
    have HR : Hid (r = 2) := by show _ = _; rw [HM.out, if_pos (.inl rfl)]
    clear HM
    go_wp2_with fail
    go_ret
    refine ⟨?_, B1.out⟩
    rw [HR.out]
    rfl
  | true =>
    go_wp2_with fail
    refine (K2.out _).mono ?_
    rintro e w2 ⟨rfl, hb2⟩
    have B2 : Hid (Below w.heap.size w w2) := B1.out.trans (hb2.mono B1.out.size)
    have g2 : w2.heap[w.heap.size]? = some (.cells #[.string SN, .string SV, .slice a n c] 44) := (hb2.block _ (Array.getElem?_eq_some_iff.1 G1.out).1).trans G1.out
    have d2 : w2.cell? ⟨w.heap.size, 2, none⟩ = some (.slice a n c) := by rw [cell_of_row w2 _ 2 _ _ _ g2]; rfl
    have G2 : Hid (w2.heap[w.heap.size]? = some (.cells #[.string SN, .string SV, .slice a n c] 44)) := g2
    have hlt2 : w.heap.size < w2.heap.size := (Array.getElem?_eq_some_iff.1 g2).1
    clear hb2 g2 c1 G1
    cases q with
    | false =>
      have HR : Hid (r = 2) := by show _ = _; rw [HM.out, if_pos (.inr rfl)]
      clear HM
      go_wp2_with fail
      go_ret
      refine ⟨?_, B2.out⟩
      rw [HR.out]
      rfl
    | true =>
      have nn : ¬ (true = false ∨ true = false) := by simp
      by_cases hn0 : n = 0
      · have e0 : ((n : Nat) : Int) = 0 := by omega
        have HR : Hid (r = 9) := by show _ = _; rw [HM.out, if_neg nn, if_pos (List.length_eq_zero_iff.1 (by rw [HN.out]; exact hn0))]
        clear HM hn0
        go_wp2_with fail
        go_ret
        refine ⟨?_, B2.out⟩
        rw [HR.out]
        rfl
      · have e0 : ¬ ((n : Nat) : Int) = 0 := by omega
        have hne : ¬ l = [] := fun e => hn0 (by rw [← HN.out, e]; rfl)
        by_cases h8 : 8 < n
        · have e8 : (8 : Int) < ((n : Nat) : Int) := by omega
          have HR : Hid (r = 3) := by show _ = _; rw [HM.out, if_neg nn, if_neg hne, if_pos (by rw [HN.out]; exact h8)]
          clear HM hn0
          go_wp2_with fail
          go_ret
          refine ⟨?_, B2.out⟩
          rw [HR.out]
          rfl
        · have e8 : ¬ (8 : Int) < ((n : Nat) : Int) := by omega
          have HR : Hid (r = mck [] l) := by show _ = _; rw [HM.out, if_neg nn, if_neg hne, if_neg (by rw [HN.out]; exact h8)]
          have d2' : (w2.alloc (.map #[] 0)).cell? ⟨w.heap.size, 2, none⟩ = some (.slice a n c) := (((Below.refl w2.heap.size w2).alloc (Nat.le_refl _) (.map #[] 0)).cell (p := ⟨w.heap.size, 2, none⟩) hlt2).trans d2
          have eb0 : ((((n : Nat) : Int)) == 0) = false := by rw [beq_eq_false_iff_ne]; exact e0
          have eb8 : decide ((8 : Int) < ((n : Nat) : Int)) = false := by simp; omega
          clear HM hn0 hne nn K1 K2
          go_wp2_with fail
          obtain ⟨M, hM⟩ : ∃ M, M = w2.heap.size := ⟨_, rfl⟩
          have HMs : Hid (M = w2.heap.size) := hM
          have B3 : Hid (Below w.heap.size w (w2.alloc (.map #[] 0))) := B2.out.alloc B2.out.size _
          have O3 : Hid ((w2.alloc (.map #[] 0)).ownsMap Tryd.prog 35 (plainElem (H := Unit) Tryd.prog 3) M 0 (.map [])) := by rw [hM]; exact World.ownsMap_made _ _ _ _
          have hMw : w.heap.size < M := by rw [hM]; exact hlt2
          rw [← hM]
          clear hM d2 d2' hz33
          go_loopg [33] n (fun g i wr => ∃ (j : Nat), j ≤ n ∧ g = n - j ∧ i = .int .i64 j ∧ Hid (∃ D, wr.ownsMap Tryd.prog 35 (plainElem (H := Unit) Tryd.prog 3) M j D ∧ Has D ((l.take j).map (·.1))) ∧ Hid (r = mck ((l.take j).map (·.1)) (l.drop j)) ∧ Hid (Below w.heap.size w wr))
          case atStart => exact ⟨0, Nat.zero_le _, rfl, rfl, ⟨_, O3.out, Has.empty⟩, HR, B3⟩
          case round =>
            obtain ⟨j, hj, rfl, rfl, HO, HRj, HW⟩ := hrel
            by_cases hlt : j < n
            · have j1 : (j : Int) < (n : Int) := by omega
              obtain ⟨x, hx⟩ : ∃ x, l[j]? = some x := ⟨l[j]'(by rw [HN.out]; exact hlt), by simp [HN.out, hlt]⟩
              obtain ⟨b, off, rfl, hbw, hrg⟩ := HL.out.at hx
              have hdg := HD.out x (List.mem_of_getElem? hx)
              have HRG : Hid (wr.rangeAt b (off + j * 33) (rcl x)) := rangeAt_below hrg HW.out hbw
              have HS : Hid (r = if x.2 < 0 ∨ 2147483647 < x.2 then 2 else if x.1 ∈ (l.take j).map (·.1) then 8 else mck ((l.take (j + 1)).map (·.1)) (l.drop (j + 1))) := by
                show _ = _
                rw [HRj.out, mck_step hx]
              have HT : Hid ((l.take (j + 1)).map (·.1) = (l.take j).map (·.1) ++ [x.1]) := by
                show _ = _
                obtain ⟨hj', e⟩ := List.getElem?_eq_some_iff.1 hx
                rw [List.take_succ_eq_append_getElem hj', e]
                simp
              obtain ⟨D, hown, hhas⟩ := HO.out
              have hh := hhas.2 x.1 hdg.1 hdg.2
              have HHas : Hid (Has D ((l.take j).map (·.1))) := hhas
              have hkey := keyOf_dg x.1 hdg.1 hdg.2
              have hsz := HW.out.size
              have HA : Hid ((wr.alloc (.cells z33 80)).heap[wr.heap.size]? = some (.cells z33 80)) := heap_alloc_new wr _
              obtain ⟨W3, hW3⟩ : ∃ W3, W3 = (wr.alloc (.cells z33 80)).setRow wr.heap.size (rcl x).toArray := ⟨_, rfl⟩
              have HR3 : W3.heap[wr.heap.size]? = some (.cells (rcl x).toArray 80) := by rw [hW3]; exact setRow_heap _ _ _ _ _ _ HA.out
              have B4 : Below wr.heap.size wr W3 := by rw [hW3]; exact below_setRow ((Below.refl _ _).alloc (Nat.le_refl _) _) (Nat.le_refl _) _
              have HRG3 : Hid (W3.rangeAt wr.heap.size 0 (x.1.map (Value.int .u8))) := rcl_sum (row_range HR3)
              have hcs : W3.cell? ⟨wr.heap.size, 32, none⟩ = some (.int .i64 x.2) := by have := rcl_size hdg.1 (row_range HR3); rwa [Nat.zero_add] at this
              have HO3 : Hid (W3.ownsMap Tryd.prog 35 (plainElem (H := Unit) Tryd.prog 3) M j D) := hown.kept (grown_of_belowM B4) (by simp)
              have HB4 : Hid (Below w.heap.size w W3) := HW.out.trans (B4.mono hsz)
              have hl33 := rcl_len hdg.1
              have h32 := hdg.1
              have HKey : Hid (keyOf Tryd.prog 35 (.agg (x.1.map (Value.int .u8)).toArray) = some (kd x.1)) := hkey
              have HDG : Hid (x.1.length = 32 ∧ IsBytes x.1) := hdg
              have HW3 : Hid (W3 = (wr.alloc (.cells z33 80)).setRow wr.heap.size (rcl x).toArray) := hW3
              have hz33 := (zero_of_info zero33_info).1
              have HOne : Hid ((rcl x).toArray.all (·.oneCell') = true) := rcl_one x
              have HPut : Hid (Has (D.put (kd x.1) (.lit (.int .i64 (j : Int)))) ((l.take j).map (·.1) ++ [x.1])) := hhas.put hdg.1 hdg.2 _
              have h32e : (x.1.map (Value.int .u8)).length = 32 := by rw [List.length_map]; exact h32
              clear hx hrg hown hhas hkey hdg HO HRj B4 HR3 hW3 h32 HDG HHas
              obtain ⟨dg, z⟩ := x
              simp only at *
              generalize hC : rcl (dg, z) = C at *
              generalize hE : dg.map (Value.int .u8) = E at *
              generalize hK : kd dg = kl at *
              have HL33 : Hid (C.length = 33) := hl33
              have HL32 : Hid (E.length = 32) := h32e
              have HZs : Hid (z33.size = 33) := z33_size
              clear hC hE hK hl33 h32e
              generalize z33 = Z at *
              by_cases hbad : z < 0 ∨ 2147483647 < z
              · have HR2 : Hid (r = 2) := by show _ = _; rw [HS.out, if_pos hbad]
                rcases (by omega : z < 0 ∨ (¬ z < 0 ∧ 2147483647 < z)) with hb1 | ⟨hb1, hb2⟩
                · have e1 : decide (z < 0) = true := by simp [hb1]
                  clear hbad HS
                  go_wp2_with (first | (refine wpList_load_mid rfl 80 (.tmp 36) rfl b (off + j * 33) rfl C _ HRG.out Tryd.underlying80 rfl (by rw [HL33.out]; exact size33) ?_) | (refine wpList_store_row rfl 80 (.tmp 5) (.tmp 37) rfl wr.heap.size C.toArray rfl rfl 80 Z HA.out (by rw [List.size_toArray, HL33.out]; exact size33) (by rw [HZs.out, List.size_toArray, HL33.out]) HOne.out ?_; rw [← HW3.out]))
                  go_ret
                  refine ⟨?_, HB4.out⟩
                  rw [HR2.out]
                  rfl
                · have e1 : decide (z < 0) = false := by simp [hb1]; try omega
                  have e2 : decide (2147483647 < z) = true := by simp [hb2]
                  clear hbad HS
                  go_wp2_with (first | (refine wpList_load_mid rfl 80 (.tmp 36) rfl b (off + j * 33) rfl C _ HRG.out Tryd.underlying80 rfl (by rw [HL33.out]; exact size33) ?_) | (refine wpList_store_row rfl 80 (.tmp 5) (.tmp 37) rfl wr.heap.size C.toArray rfl rfl 80 Z HA.out (by rw [List.size_toArray, HL33.out]; exact size33) (by rw [HZs.out, List.size_toArray, HL33.out]) HOne.out ?_; rw [← HW3.out]))
                  go_ret
                  refine ⟨?_, HB4.out⟩
                  rw [HR2.out]
                  rfl
              · have e1 : decide (z < 0) = false := by simp; omega
                have e2 : decide (2147483647 < z) = false := by simp; omega
                by_cases hin : dg ∈ (l.take j).map (·.1)
                · have HR2 : Hid (r = 8) := by show _ = _; rw [HS.out, if_neg hbad, if_pos hin]
                  rw [decide_eq_true hin] at hh
                  clear hbad hin HS
                  go_wp2_with (first | (refine wpList_load_mid rfl 80 (.tmp 36) rfl b (off + j * 33) rfl C _ HRG.out Tryd.underlying80 rfl (by rw [HL33.out]; exact size33) ?_) | (refine wpList_store_row rfl 80 (.tmp 5) (.tmp 37) rfl wr.heap.size C.toArray rfl rfl 80 Z HA.out (by rw [List.size_toArray, HL33.out]; exact size33) (by rw [HZs.out, List.size_toArray, HL33.out]) HOne.out ?_; rw [← HW3.out]) | (refine wpList_load_mid rfl 35 (.tmp 48) rfl wr.heap.size 0 rfl E _ HRG3.out Tryd.underlying35 rfl (by rw [HL32.out]; exact sizeDg) ?_) | (at_lookup; refine wpList_lookup_own_ok_int _ rfl (.tmp 47) (.tmp 49) 87 rfl 35 3 .i64 lawD Tryd.underlying87 Tryd.underlying3 (zeroI _) M j D rfl HO3.out _ _ rfl HKey.out ?_; intro cc hat hwc; rw [hh]; clear hat hwc))
                  go_ret
                  refine ⟨?_, HB4.out⟩
                  rw [HR2.out]
                  rfl
                · have HR2 : Hid (r = mck ((l.take (j + 1)).map (·.1)) (l.drop (j + 1))) := by show _ = _; rw [HS.out, if_neg hbad, if_neg hin]
                  rw [decide_eq_false hin] at hh
                  clear hbad hin HS
                  go_wp2_with (first | (refine wpList_load_mid rfl 80 (.tmp 36) rfl b (off + j * 33) rfl C _ HRG.out Tryd.underlying80 rfl (by rw [HL33.out]; exact size33) ?_) | (refine wpList_store_row rfl 80 (.tmp 5) (.tmp 37) rfl wr.heap.size C.toArray rfl rfl 80 Z HA.out (by rw [List.size_toArray, HL33.out]; exact size33) (by rw [HZs.out, List.size_toArray, HL33.out]) HOne.out ?_; rw [← HW3.out]) | (refine wpList_load_mid rfl 35 (.tmp 48) rfl wr.heap.size 0 rfl E _ HRG3.out Tryd.underlying35 rfl (by rw [HL32.out]; exact sizeDg) ?_) | (at_lookup; refine wpList_lookup_own_ok_int _ rfl (.tmp 47) (.tmp 49) 87 rfl 35 3 .i64 lawD Tryd.underlying87 Tryd.underlying3 (zeroI _) M j D rfl HO3.out _ _ rfl HKey.out ?_; intro cc hat hwc; rw [hh]; clear hat hwc) | (refine wpList_load_mid rfl 35 (.tmp 55) rfl wr.heap.size 0 rfl E _ HRG3.out Tryd.underlying35 rfl (by rw [HL32.out]; exact sizeDg) ?_) | (at_mapUpdate; refine wpList_mapUpdate_own _ rfl (.tmp 54) (.tmp 56) (.tmp 57) 87 rfl 35 3 lawD Tryd.underlying87 _ M j D rfl HO3.out (by unfold maxLen; omega) _ _ _ rfl rfl HKey.out _ [] (plainElem_int Tryd.underlying3 (WalkArith.wf_i64 (by omega))) ?_; intro w4 hown4 hg4; have HO4 : Hid (w4.ownsMap Tryd.prog 35 (plainElem (H := Unit) Tryd.prog 3) M (j + 1) (D.put kl (.lit (.int .i64 (j : Int))))) := hown4; have HG4 : Hid (W3.grownBy w4 (some M)) := hg4; clear hown4 hg4))
                  go_roundg (n - (j + 1))
                  case measure => omega
                  case rel =>
                    refine ⟨j + 1, by omega, rfl, by go_num, ⟨_, HO4.out, ?_⟩, HR2, HB4.out.grown HG4.out HB4.out.size (fun k hk => by cases hk; omega)⟩
                    rw [HT.out]
                    exact HPut.out
            · have e : j = n := by omega
              subst e
              have j1 : ¬ (j : Int) < (j : Int) := by omega
              have HR2 : Hid (r = 0) := by
                show _ = _
                rw [HRj.out, List.drop_of_length_le (by rw [HN.out]; omega)]
                rfl
              go_wp2_with fail
              go_ret
              refine ⟨?_, HW.out⟩
              rw [HR2.out]
              rfl
end Go.Proofs.YtlddoobomjcldaaDoor
