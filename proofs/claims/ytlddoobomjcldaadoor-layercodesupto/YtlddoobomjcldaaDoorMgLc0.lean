/- Plain facts on a number's bytes, the highest first: no Go in sight. What the walks of a law are told of a slice of integers that came in, and two closed facts on the program. Slices of bytes in memory: what they hold, append(s, x...), string(b), what stays over changes of the world. Paths as plain lists of bytes: pieces, parts, Clean, Less, In; of no program. Texts in the model; strings.Cut at one stroke. Texts as lists of numbers: an index, a join, a cut, to bytes and back. -/
import Derived.Lib.Bytes
import GoSem.Op.String
import Derived.Test.YtlddoobomjcldaaDoorRows
import Derived.WalkKit
import Derived.ProofKit
import Derived.OpenShut
import Derived.ShutString
import Derived.ChangeOld
import Derived.Below
import Derived.SizedLaws
import Derived.WalkSpells
import Derived.WalkLawsBesides
import Derived.Outline
import Derived.LoopTactic
import Derived.Deep.LoopGhost
import Derived.Deep.OwnRows
import Derived.Laws.BitsAllLaws
import Derived.Laws.Bits64
import Derived.Laws.BytesArg
import Derived.OwnWalk
import Derived.Laws.AppendOwnNone
import Derived.Lib.Join
import Derived.Lib.Bytealg
import Derived.Laws.StandIn
import Derived.Laws.Strings3
import Derived.Deep.QuietTactic
import Derived.BigQuiet
import Derived.Lib.ConvBytes
namespace Go.Proofs.YtlddoobomjcldaaDoor
open Go.Lib
set_option linter.unusedVariables false

/-- the bytes of v in a width of k, the highest first -/
def fixL (v : Int) (k : Nat) : List Int := (List.range k).map fun j => v / 256 ^ (k - 1 - j) % 256
theorem fixL_length (v : Int) (k : Nat) : (fixL v k).length = k := by simp [fixL]
theorem fixL_succ (v : Int) (k : Nat) : fixL v (k + 1) = v / 256 ^ k % 256 :: fixL v k := by
  unfold fixL
  rw [List.range_succ_eq_map, List.map_cons, List.map_map]
  congr 1
  apply List.map_congr_left
  intro j _
  simp only [Function.comp]
  rw [show k + 1 - 1 - Nat.succ j = k - 1 - j by omega]
theorem fixL_range (v : Int) (k : Nat) : ∀ x ∈ fixL v k, 0 ≤ x ∧ x ≤ 255 := by
  intro x hx
  simp only [fixL, List.mem_map] at hx
  obtain ⟨j, _, rfl⟩ := hx
  omega
theorem fixL_getD (v : Int) (k : Nat) : ∀ i, i < k → 0 ≤ (fixL v k).getD i 0 ∧ (fixL v k).getD i 0 ≤ 255 := by
  intro i hi
  have h : i < (fixL v k).length := by rw [fixL_length]; exact hi
  have := fixL_range v k _ (List.getElem_mem h)
  simpa [List.getD, List.getElem?_eq_getElem h] using this
theorem mod_succ256 (v : Int) (h : 0 ≤ v) (k : Nat) : v % 256 ^ (k + 1) = v / 256 ^ k % 256 * 256 ^ k + v % 256 ^ k := by
  have p : (0 : Int) < 256 ^ k := Int.pow_pos (by decide)
  rw [Int.pow_succ]
  have e1 := Int.mul_ediv_add_emod v (256 ^ k)
  have e2 := Int.mul_ediv_add_emod (v / 256 ^ k) 256
  have r0 := Int.emod_nonneg v (show (256 : Int) ^ k ≠ 0 by omega)
  have r1 := Int.emod_lt_of_pos v p
  generalize v % 256 ^ k = r at *
  generalize v / 256 ^ k = q at *
  generalize hP : (256 : Int) ^ k = P at *
  have d0 : 0 ≤ q % 256 := by omega
  have d1 : q % 256 ≤ 255 := by omega
  have ev : v = P * 256 * (q / 256) + (q % 256 * P + r) := by
    rw [← e1]
    conv => lhs; rw [← e2]
    rw [Int.mul_add, Int.mul_assoc, Int.mul_comm (q % 256) P, Int.add_assoc]
  have b0 : 0 ≤ q % 256 * P := Int.mul_nonneg d0 (by omega)
  have b1 : q % 256 * P ≤ 255 * P := Int.mul_le_mul_of_nonneg_right d1 (by omega)
  rw [ev, Int.mul_add_emod_self_left, Int.emod_eq_of_lt (by omega) (by omega)]
theorem ofNat_lt {x y : Int} (x0 : 0 ≤ x) (x1 : x ≤ 255) (y0 : 0 ≤ y) (y1 : y ≤ 255) : (UInt8.ofNat x.toNat < UInt8.ofNat y.toNat) ↔ x < y := by
  rw [UInt8.lt_iff_toNat_lt]
  simp
  omega
theorem ofNat_eq {x y : Int} (x0 : 0 ≤ x) (x1 : x ≤ 255) (y0 : 0 ≤ y) (y1 : y ≤ 255) : (UInt8.ofNat x.toNat = UInt8.ofNat y.toNat) ↔ x = y := by
  rw [← UInt8.toNat_inj]
  simp
  omega
/-- bytes that fit are told by their numbers -/
theorem bytesOf_inj : ∀ (L M : List Int), (∀ x ∈ L, 0 ≤ x ∧ x ≤ 255) → (∀ x ∈ M, 0 ≤ x ∧ x ≤ 255) → (bytesOf L = bytesOf M ↔ L = M)
  | [], [], _, _ => by simp
  | [], b :: M, _, _ => by simp [bytesOf]
  | a :: L, [], _, _ => by simp [bytesOf]
  | a :: L, b :: M, hL, hM => by
    have ih := bytesOf_inj L M (fun x hx => hL x (by simp [hx])) (fun x hx => hM x (by simp [hx]))
    have ha := hL a (by simp)
    have hb := hM b (by simp)
    have e := ofNat_eq ha.1 ha.2 hb.1 hb.2
    simp only [bytesOf, List.map_cons, List.cons.injEq] at ih ⊢
    rw [ih, e]
theorem fix_less (a b : Int) (a0 : 0 ≤ a) (b0 : 0 ≤ b) : ∀ k, Op.bytesLess (bytesOf (fixL a k)) (bytesOf (fixL b k)) = decide (a % 256 ^ k < b % 256 ^ k)
  | 0 => by simp [fixL, bytesOf, Op.bytesLess, Int.emod_one]
  | k + 1 => by
    have ih := fix_less a b a0 b0 k
    rw [fixL_succ, fixL_succ, mod_succ256 a a0, mod_succ256 b b0]
    have p : (0 : Int) < 256 ^ k := Int.pow_pos (by decide)
    have ra0 := Int.emod_nonneg a (show (256 : Int) ^ k ≠ 0 by omega)
    have ra1 := Int.emod_lt_of_pos a p
    have rb0 := Int.emod_nonneg b (show (256 : Int) ^ k ≠ 0 by omega)
    have rb1 := Int.emod_lt_of_pos b p
    have x0 : 0 ≤ a / 256 ^ k % 256 := by omega
    have x1 : a / 256 ^ k % 256 ≤ 255 := by omega
    have y0 : 0 ≤ b / 256 ^ k % 256 := by omega
    have y1 : b / 256 ^ k % 256 ≤ 255 := by omega
    generalize a / 256 ^ k % 256 = x at *
    generalize b / 256 ^ k % 256 = y at *
    have el := ofNat_lt x0 x1 y0 y1
    have ee := ofNat_eq x0 x1 y0 y1
    simp only [bytesOf, List.map_cons, Op.bytesLess] at ih ⊢
    rw [ih]
    generalize a % 256 ^ k = r at *
    generalize b % 256 ^ k = t at *
    generalize (256 : Int) ^ k = P at *
    rw [Bool.eq_iff_iff]
    simp only [Bool.or_eq_true, Bool.and_eq_true, decide_eq_true_eq, beq_iff_eq, el, ee]
    constructor
    · rintro (h | ⟨rfl, h⟩)
      · have : (x + 1) * P ≤ y * P := Int.mul_le_mul_of_nonneg_right (by omega) (by omega)
        rw [Int.add_mul] at this
        omega
      · omega
    · intro h
      rcases Int.lt_trichotomy x y with g | g | g
      · exact .inl g
      · subst g; exact .inr ⟨rfl, by omega⟩
      · have : (y + 1) * P ≤ x * P := Int.mul_le_mul_of_nonneg_right (by omega) (by omega)
        rw [Int.add_mul] at this
        omega
/-- two numbers of one width whose bytes are the same are the same -/
theorem fixL_inj (a b : Int) (a0 : 0 ≤ a) (b0 : 0 ≤ b) : ∀ k, fixL a k = fixL b k → a % 256 ^ k = b % 256 ^ k
  | 0, _ => by simp [Int.emod_one]
  | k + 1, h => by
    rw [fixL_succ, fixL_succ, List.cons.injEq] at h
    rw [mod_succ256 a a0, mod_succ256 b b0, h.1, fixL_inj a b a0 b0 k h.2]
theorem fix_eq (a b : Int) (a0 : 0 ≤ a) (b0 : 0 ≤ b) (k : Nat) (ha : a < 256 ^ k) (hb : b < 256 ^ k) : (bytesOf (fixL a k) == bytesOf (fixL b k)) = (a == b) := by
  rw [Bool.eq_iff_iff, beq_iff_eq, beq_iff_eq, bytesOf_inj _ _ (fixL_range a k) (fixL_range b k)]
  constructor
  · intro h
    have := fixL_inj a b a0 b0 k h
    rwa [Int.emod_eq_of_lt a0 ha, Int.emod_eq_of_lt b0 hb] at this
  · rintro rfl; rfl
theorem fix_lt (a b : Int) (a0 : 0 ≤ a) (b0 : 0 ≤ b) (k : Nat) (ha : a < 256 ^ k) (hb : b < 256 ^ k) : Op.bytesLess (bytesOf (fixL a k)) (bytesOf (fixL b k)) = decide (a < b) := by
  rw [fix_less a b a0 b0 k, Int.emod_eq_of_lt a0 ha, Int.emod_eq_of_lt b0 hb]
/-- the number that bytes are, the highest first -/
def val (L : List Int) : Int := L.foldl (fun v c => v * 256 + c) 0
/-- each is a byte -/
def IsBytes (L : List Int) : Prop := ∀ i, i < L.length → 0 ≤ L.getD i 0 ∧ L.getD i 0 ≤ 255
theorem val_snoc (L : List Int) (c : Int) : val (L ++ [c]) = val L * 256 + c := by simp [val]
theorem take_snoc (L : List Int) (i : Nat) (h : i < L.length) : L.take (i + 1) = L.take i ++ [L.getD i 0] := by
  rw [List.take_succ_eq_append_getElem h]; simp [List.getD, List.getElem?_eq_getElem h]
theorem val_step (L : List Int) (i : Nat) (h : i < L.length) : val (L.take (i + 1)) = val (L.take i) * 256 + L.getD i 0 := by
  rw [take_snoc L i h, val_snoc]
theorem val_bd (L : List Int) (hb : IsBytes L) : ∀ i, i ≤ L.length → 0 ≤ val (L.take i) ∧ val (L.take i) < 256 ^ i
  | 0, _ => by simp [val]
  | i + 1, h => by
    have ih := val_bd L hb i (by omega)
    have hc := hb i (by omega)
    rw [val_step L i (by omega), Int.pow_succ]
    omega
theorem val_fold (v : Int) (L : List Int) : L.foldl (fun v c => v * 256 + c) v = v * 256 ^ L.length + val L := by
  induction L generalizing v with
  | nil => simp [val]
  | cons c L ih =>
    have e : val (c :: L) = (0 * 256 + c) * 256 ^ L.length + val L := by
      show (c :: L).foldl (fun v c => v * 256 + c) 0 = _
      rw [List.foldl_cons, ih]
    rw [List.foldl_cons, ih, e, List.length_cons, Int.pow_succ, Int.zero_mul, Int.zero_add, Int.add_mul, Int.mul_assoc, Int.mul_comm 256, Int.add_assoc]
theorem val_fixL (v : Int) (h : 0 ≤ v) : ∀ k, val (fixL v k) = v % 256 ^ k
  | 0 => by simp [fixL, val, Int.emod_one]
  | k + 1 => by
    rw [fixL_succ, val, List.foldl_cons, val_fold, fixL_length, val_fixL v h k, mod_succ256 v h, Int.zero_mul, Int.zero_add]
theorem fixL_bytes (v : Int) (k : Nat) : IsBytes (fixL v k) := fun i hi => fixL_getD v k i (by rwa [fixL_length] at hi)
theorem bytes_mem {L : List Int} (h : IsBytes L) : ∀ x ∈ L, 0 ≤ x ∧ x ≤ 255 := by
  intro x hx
  obtain ⟨i, hi, rfl⟩ := List.getElem_of_mem hx
  have := h i hi
  simpa [List.getD, List.getElem?_eq_getElem hi] using this
theorem bytes_of_mem {L : List Int} (h : ∀ x ∈ L, 0 ≤ x ∧ x ≤ 255) : IsBytes L := by
  intro i hi
  have := h _ (List.getElem_mem hi)
  simpa [List.getD, List.getElem?_eq_getElem hi] using this
theorem bytes_app {A B : List Int} (ha : IsBytes A) (hb : IsBytes B) : IsBytes (A ++ B) :=
  bytes_of_mem fun x hx => (List.mem_append.1 hx).elim (bytes_mem ha x) (bytes_mem hb x)
end Go.Proofs.YtlddoobomjcldaaDoor
namespace Go.Proofs.YtlddoobomjcldaaDoor
open Go.ChangeShapes Go.WideShapes Go.ChangeAt Go.RowKit
set_option linter.unusedVariables false
theorem own : ownKnob Tryd.prog.godebug = none := by kernel_rfl
theorem bytes8 : Tryd.prog.bytesOf 5 = 1 := by kernel_rfl
theorem laidOut : laidOutB Tryd.prog = true := by kernel_rfl
/-- a slice of integers that came in: nil, or it leads to a row of 'cap' cells, the numbers zs (the first 'len' its elements), each fitting its kind -/
def IsRow (k : IntKind) (w : World) (a : Option Addr) (len cap : Nat) (zs : List Int) : Prop :=
  (a = none ∧ len = 0 ∧ cap = 0 ∧ zs = []) ∨
  ∃ x, a = some x ∧ len ≤ cap ∧ cap ≤ 140737488351232 ∧ zs.length = cap ∧ (∀ i, i < zs.length → w.cell? (x.add i) = some (.int k (zs.getD i 0))) ∧ ∀ n ∈ zs, (Lit.int k n).wf = true
theorem wf_i64 {n : Int} (h : (Lit.int .i64 n).wf = true) : -9223372036854775808 ≤ n ∧ n ≤ 9223372036854775807 := by
  exact bounds_i64 h
theorem wf_u64 {n : Int} (h : (Lit.int .u64 n).wf = true) : 0 ≤ n ∧ n ≤ 18446744073709551615 := by
  exact bounds_u64 h
theorem wf_u8 {n : Int} (h : (Lit.int .u8 n).wf = true) : 0 ≤ n ∧ n ≤ 255 := by
  exact bounds_u8 h
end Go.Proofs.YtlddoobomjcldaaDoor
namespace Go.Proofs.YtlddoobomjcldaaDoor
open Go.ChangeShapes Go.WideShapes Go.ChangeAt Go.RowKit Go.Deep
set_option linter.unusedVariables false
/-- a slice of bytes: where it has any, they lie at its address -/
def Holds (w : World) (a : Option Addr) (L : List Int) : Prop :=
  L = [] ∨ ∃ b off, a = some ⟨b, off, none⟩ ∧ ∀ i, i < L.length → w.cell? ⟨b, off + i, none⟩ = some (.int .u8 (L.getD i 0))
theorem info8 : (Tryd.prog.info? 5).map (fun i => (i.zero, i.size, i.bytes)) = some (some (.int .u8 0), 1, 1) := by kernel_rfl

/-- the value is a slice of the call's own memory (from block 'base' on) that holds the bytes A -/
def Owned (w : World) (base : Nat) (v : Value) (A : List Int) : Prop := w.ownsRow base 5 1 v A.length (A.map (Value.int .u8))

theorem add_plain (b off i : Nat) : (⟨b, off, none⟩ : Addr).add i = ⟨b, off + i, none⟩ := by unfold Addr.add; split <;> simp_all

theorem Owned.slice {w : World} {base : Nat} {v : Value} {A : List Int} (h : Owned w base v A) : ∃ a c, v = .slice a A.length c ∧ (a = none → c = 0 ∧ A = []) ∧ Holds w a A ∧ c ≤ maxLen ∧ A.length ≤ c := by
  rcases h.2 with ⟨rfl, hn⟩ | ⟨g, cap, cur, rfl, hb, hg, hl, hm, hs, ht⟩
  · have : A = [] := List.length_eq_zero_iff.1 hn
    subst this
    exact ⟨none, 0, rfl, fun _ => ⟨rfl, rfl⟩, .inl rfl, by simp, by simp⟩
  · refine ⟨_, _, rfl, fun h => by simp at h, .inr ⟨g, 0, rfl, fun i hi => ?_⟩, hm, hl⟩
    have hc := World.ownsRow.cells h (g := g) rfl i (.int .u8 (A.getD i 0)) (by simp [List.getD, List.getElem?_eq_getElem hi])
    rwa [add_plain] at hc

theorem Owned.holds {w : World} {base : Nat} {a : Option Addr} {n c : Nat} {A : List Int} (h : Owned w base (.slice a n c) A) : Holds w a A ∧ A.length = n ∧ (a = none → c = 0) := by
  obtain ⟨a', c', e, h1, h2, _⟩ := h.slice
  simp only [Value.slice.injEq] at e
  obtain ⟨rfl, rfl, rfl⟩ := e
  exact ⟨h2, rfl, fun h => (h1 h).1⟩

theorem Owned.block {w : World} {base : Nat} {v : Value} {A : List Int} (h : Owned w base v A) : ∀ k, v.ownBlock = some k → base ≤ k := fun k hk => (h.lt k hk).1

theorem info8p : ∃ i, Tryd.prog.info? 5 = some i ∧ i.zero = some (.int .u8 0) ∧ i.size = 1 ∧ i.bytes = 1 := info_parts info8

theorem owned_empty (w : World) (base : Nat) (hb : base ≤ w.heap.size) : Owned (w.alloc (.cells #[] 5)) base (.slice (some ⟨w.heap.size, 0, none⟩) 0 0) [] :=
  World.ownsRow_made w #[] 0 hb (by simp) (by simp)

theorem append_bytes {w : World} {ops : Array Oper} {rest : List Oper} {o : Oper} {act : Act} {Q : Exit → Act → World → Prop} (hgd : o.guard = none) (s x : Operand)
    (ho : o.op = .call { callee := .builtin .append, args := #[s, x], argTypes := #[23, 23] })
    (base : Nat) (v : Value) (A : List Int) (hs : act.eval s = v) (hown : Owned w base v A)
    (a : Option Addr) (m c : Nat) (L : List Int) (hx : act.eval x = .slice a m c) (hm : L.length = m) (hh : Holds w a L) (hc : a = none → c = 0)
    (N : Nat) (hN : A.length + m = N) (hbytes : N ≤ 140737488355328) (hbase : base ≤ w.heap.size)
    (h : ∀ a' c' w', Owned w' base (.slice a' N c') (A ++ L) → Below base w w' → wpList Tryd.prog ops Q rest (act.put o.dst (.slice a' N c')) w') :
    wpList Tryd.prog ops Q (o :: rest) act w := by
  subst hN
  obtain ⟨i, hi, hz, h1, h2⟩ := info8p
  cases a with
  | none =>
    have hc0 := hc rfl
    have hL : L = [] := by
      rcases hh with h | ⟨b, off, hb, _⟩
      · exact h
      · simp at hb
    subst hL
    subst hc0
    subst hm
    obtain ⟨a', c', rfl, _⟩ := hown.slice
    refine wpList_append_own_none hgd s x 23 ho base 5 i 1 Tryd.underlying23 hi _ _ _ hs hown hx ?_
    have := h a' c' w (by simpa using hown) (Below.refl _ _)
    simpa using this
  | some ad =>
    refine wpList_append_own w hgd s x 23 ho base 5 i (.int .u8 0) 1 1 Tryd.underlying23 hi hz h1 h2 rfl (by decide) v A.length _ hs hown ad m c (L.map (Value.int .u8)) hx (by simp [hm]) ?_ (ints_oneCell _ _) (by simp only [maxLen]; omega) (by omega) hbase ?_
    · intro j u hu
      have hj : j < L.length := by
        have := (List.getElem?_eq_some_iff.1 hu).1
        simpa using this
      rcases hh with h | ⟨b, off, hb, hcell⟩
      · subst h; simp at hj
      · simp only [Option.some.injEq] at hb
        subst hb
        rw [add_plain, hcell j hj]
        simp [List.getElem?_eq_getElem hj] at hu
        simp [List.getD, List.getElem?_eq_getElem hj, hu]
    · intro v' w' hown' hg _
      have ho' : Owned w' base v' (A ++ L) := by
        show w'.ownsRow base 5 1 v' (A ++ L).length ((A ++ L).map (Value.int .u8))
        rw [List.length_append, hm, List.map_append]
        exact hown'
      obtain ⟨a', c', rfl, _⟩ := ho'.slice
      have e : (A ++ L).length = A.length + m := by rw [List.length_append, hm]
      rw [e] at ho' ⊢
      exact h a' c' w' ho' ((Below.refl base w).grown hg hbase hown.block)
/-- what came in, as a slice of bytes -/
theorem IsRow.holds {w : World} {a : Option Addr} {len cap : Nat} {zs : List Int} (h : IsRow .u8 w a len cap zs) :
    ∃ L : List Int, L = zs.take len ∧ L.length = len ∧ Holds w a L ∧ IsBytes L ∧ (a = none → cap = 0) ∧ len ≤ 140737488351232 ∧ (∀ x, a = some x → L ≠ [] → x.block < w.heap.size) ∧ len ≤ cap ∧ cap ≤ 140737488351232 := by
  rcases h with ⟨rfl, rfl, rfl, rfl⟩ | ⟨x, rfl, hl, hm, hz, hcell, hwz⟩
  · exact ⟨[], rfl, rfl, .inl rfl, fun i hi => by simp at hi, fun _ => rfl, by omega, fun x hx => by simp at hx, by omega, by omega⟩
  · have hL : (zs.take len).length = len := by rw [List.length_take]; omega
    have hget : ∀ i, i < len → (zs.take len).getD i 0 = zs.getD i 0 := fun i hi => by simp [List.getD, hi]
    have hbytes : IsBytes (zs.take len) := bytes_of_mem fun n hn => wf_u8 (hwz n (List.mem_of_mem_take hn))
    by_cases h0 : len = 0
    · subst h0
      exact ⟨[], by simp, rfl, .inl rfl, fun i hi => by simp at hi, fun h => by simp at h, by omega, fun x hx h => absurd rfl h, hl, by omega⟩
    · obtain ⟨b, off, spot⟩ := x
      have hc := hcell 0 (by omega)
      have hspot : spot = none := by simpa [Addr.add] using World.cell?_spot hc
      subst hspot
      refine ⟨_, rfl, hL, .inr ⟨b, off, rfl, fun i hi => ?_⟩, hbytes, fun h => by simp at h, by omega, ?_, hl, by omega⟩
      · rw [hL] at hi
        have := hcell i (by omega)
        rw [add_plain] at this
        rw [hget i hi]
        exact this
      · intro y hy _
        simp only [Option.some.injEq] at hy
        subst hy
        have := hcell 0 (by omega)
        rw [add_plain] at this
        exact World.block_lt_of_cell? _ _ this
/-- bytes that lay below 'base' lie there still -/
theorem Holds.below {w w' : World} {a : Option Addr} {L : List Int} {base : Nat} (h : Holds w a L) (hb : Below base w w') (hlt : ∀ x, a = some x → L ≠ [] → x.block < base) : Holds w' a L := by
  rcases h with rfl | ⟨b, off, rfl, hc⟩
  · exact .inl rfl
  · refine .inr ⟨b, off, rfl, fun i hi => ?_⟩
    have hne : L ≠ [] := fun e => by subst e; simp at hi
    rw [hb.cell (p := ⟨b, off + i, none⟩) (hlt ⟨b, off, none⟩ rfl hne)]
    exact hc i hi
theorem conv_str {w : World} {a : Option Addr} {L : List Int} (h : Holds w a L) (n c : Nat) (hn : L.length = n) :
    (convert 23 9 (.slice a n c)).run Tryd.prog w = .ok (.string (strOfNums L)) w := by
  subst hn
  rcases h with rfl | ⟨b, off, rfl, hc⟩
  · rw [run_convert_bytes_string w 23 9 5 a _ c Tryd.underlying23 Tryd.underlying5 Tryd.underlying9]
    cases a with
    | none => simp [Conv.bytesToString]; rfl
    | some ad =>
      have := run_loadCells_list (P := Tryd.prog) w ad [] (by intro j v h; simp at h)
      rw [List.length_nil, run_bytesToString (P := Tryd.prog) w ad 0 c [] (by simpa using this)]
      rfl
  · exact run_convert_bytes_arg (P := Tryd.prog) w 23 5 Tryd.underlying23 Tryd.underlying5 b off _ c L rfl hc 9 Tryd.underlying9
theorem Owned.cap {w : World} {base : Nat} {a : Option Addr} {n c : Nat} {A : List Int} (h : Owned w base (.slice a n c) A) : n ≤ c ∧ c ≤ 9223372036854775807 := by
  obtain ⟨a', c', e, h1, h2, h3, h4⟩ := h.slice
  simp only [Value.slice.injEq] at e
  obtain ⟨rfl, rfl, rfl⟩ := e
  simp only [maxLen] at h3
  exact ⟨h4, by omega⟩
theorem Owned.lt_size {w : World} {base : Nat} {a : Option Addr} {n c : Nat} {A : List Int} (h : Owned w base (.slice a n c) A) : ∀ x, a = some x → x.block < w.heap.size := by
  intro x hx
  subst hx
  exact (World.ownsRow.lt h x.block rfl).2
theorem Owned.alloc {w : World} {base : Nat} {v : Value} {A : List Int} (h : Owned w base v A) (o : Obj) : Owned (w.alloc o) base v A := World.ownsRow.alloc h o
theorem Holds.take {w : World} {a : Option Addr} {L : List Int} (h : Holds w a L) (k : Nat) : Holds w a (L.take k) := by
  rcases h with rfl | ⟨b, off, rfl, hc⟩
  · exact .inl (by simp)
  · refine .inr ⟨b, off, rfl, fun i hi => ?_⟩
    rw [List.length_take] at hi
    rw [hc i (by omega)]
    simp [List.getD, show i < k by omega]
theorem Holds.pre {w : World} {a : Option Addr} {L M : List Int} (h : Holds w a (L ++ M)) : Holds w a L := by
  have := h.take L.length
  rwa [List.take_left] at this
/-- a row of literal bytes that has just been laid -/
theorem holds_one (w : World) (x : Int) : Holds (w.alloc (.cells #[.int .u8 x] 5)) (some ⟨w.heap.size, 0, none⟩) [x] :=
  .inr ⟨w.heap.size, 0, rfl, fun i hi => by
    have : i = 0 := by simpa using hi
    subst this
    simp [go_sem]⟩
theorem str_snoc (L : List Int) (x : Int) : (strOfNums (L ++ [x])).toList = (strOfNums L ++ strOfNums [x]).toList := by
  have e : strOfNums (L ++ [x]) = strOfNums L ++ strOfNums [x] := by
    apply ByteArray.ext
    rw [ByteArray.data_append]
    simp [strOfNums]
  rw [e]
theorem holds_laid (A : List Int) (w : World) (T : TypeId) : Holds (w.alloc (.cells (A.map (Value.int .u8)).toArray T)) (some ⟨w.heap.size, 0, none⟩) A :=
  .inr ⟨w.heap.size, 0, rfl, fun i hi => by
    simp only [Nat.zero_add]
    simp [go_sem, List.getD, List.getElem?_eq_getElem hi]⟩
theorem str_eq (A B : List Int) (ha : ∀ x ∈ A, 0 ≤ x ∧ x ≤ 255) (hb : ∀ x ∈ B, 0 ≤ x ∧ x ≤ 255) : ((strOfNums A).toList == (strOfNums B).toList) = decide (A = B) := by
  rw [Bool.eq_iff_iff, beq_iff_eq, decide_eq_true_iff]
  rw [Lib.strOfNums_toList, Lib.strOfNums_toList]
  exact bytesOf_inj A B ha hb
end Go.Proofs.YtlddoobomjcldaaDoor
namespace Go.Proofs.YtlddoobomjcldaaDoor
set_option linter.unusedVariables false
abbrev Tx := List UInt8
/-- the pieces of a text -/
def pcs : Tx → List Tx
  | [] => [[]]
  | b :: t => if b = 47 then [] :: pcs t else (b :: (pcs t).headD []) :: (pcs t).tail
theorem pcs_ne (s : Tx) : pcs s ≠ [] := by
  cases s with
  | nil => simp [pcs]
  | cons b t => unfold pcs; split <;> simp
theorem pcs_no (a : Tx) (h : (47 : UInt8) ∉ a) : pcs a = [a] := by
  induction a with
  | nil => rfl
  | cons b t ih =>
    have hb : b ≠ 47 := fun e => h (by simp [e])
    have ht := ih (fun e => h (by simp [e]))
    simp [pcs, hb, ht]
theorem pcs_cut (a r : Tx) (h : (47 : UInt8) ∉ a) : pcs (a ++ 47 :: r) = a :: pcs r := by
  induction a with
  | nil => simp [pcs]
  | cons b t ih =>
    have hb : b ≠ 47 := fun e => h (by simp [e])
    have ht := ih (fun e => h (by simp [e]))
    simp [pcs, hb, ht]
theorem pcs_mem (s p : Tx) (h : p ∈ pcs s) : (47 : UInt8) ∉ p := by
  induction s generalizing p with
  | nil => simp [pcs] at h; simp [h]
  | cons b t ih =>
    unfold pcs at h
    split at h
    · simp at h
      rcases h with rfl | h
      · simp
      · exact ih p h
    · rename_i hb
      simp only [List.mem_cons] at h
      rcases h with rfl | h
      · simp only [List.mem_cons, not_or]
        refine ⟨fun e => hb e.symm, ?_⟩
        cases hp : pcs t with
        | nil => simp
        | cons x xs => exact ih x (by rw [hp]; simp)
      · exact ih p (List.mem_of_mem_tail h)
/-- the text of parts -/
def jn (l : List Tx) : Tx := Lib.join l [47]
theorem jn_nil : jn [] = [] := rfl
theorem jn_one (x : Tx) : jn [x] = x := Lib.join_one x _
theorem jn_cons (x y : Tx) (l : List Tx) : jn (x :: y :: l) = x ++ 47 :: jn (y :: l) := by
  unfold jn
  rw [Lib.join_cons, Lib.join_cons]
  simp [Lib.joinTail]
theorem jn_pcs (s : Tx) : jn (pcs s) = s := by
  induction s with
  | nil => rfl
  | cons b t ih =>
    unfold pcs
    cases hp : pcs t with
    | nil => exact absurd hp (pcs_ne t)
    | cons x xs =>
      rw [hp] at ih
      split
      · rename_i hb
        rw [jn_cons, ih, hb]
        rfl
      · cases xs with
        | nil => simp only [List.headD_cons, List.tail_cons, jn_one]; rw [jn_one] at ih; rw [ih]
        | cons y ys =>
          simp only [List.headD_cons, List.tail_cons]
          rw [jn_cons] at ih ⊢
          rw [← ih]
          rfl
theorem pcs_jn (x : Tx) (l : List Tx) (h : ∀ p ∈ x :: l, (47 : UInt8) ∉ p) : pcs (jn (x :: l)) = x :: l := by
  induction l generalizing x with
  | nil => rw [jn_one]; exact pcs_no x (h x (by simp))
  | cons y l ih =>
    rw [jn_cons, pcs_cut x _ (h x (by simp)), ih y (fun p hp => h p (by simp at hp ⊢; right; exact hp))]
/-- may a part have that byte -/
def may (b : UInt8) : Bool := (decide (97 ≤ b.toNat) && decide (b.toNat ≤ 122)) || (decide (48 ≤ b.toNat) && decide (b.toNat ≤ 57)) || b == 95 || b == 45 || b == 46
/-- is a piece a part -/
def isPart (p : Tx) : Bool := p.all may && decide (1 ≤ p.length) && decide (p.length ≤ 24) && (p != [46]) && (p != [46, 46])
theorem isPart_iff (p : Tx) : isPart p = true ↔ (∀ b ∈ p, may b = true) ∧ 1 ≤ p.length ∧ p.length ≤ 24 ∧ p ≠ [46] ∧ p ≠ [46, 46] := by
  simp [isPart, and_assoc]
theorem part_nosep {p : Tx} (h : isPart p = true) : (47 : UInt8) ∉ p := fun e => by
  have := ((isPart_iff p).1 h).1 47 e
  revert this
  decide
theorem part_ne {p : Tx} (h : isPart p = true) : p ≠ [] := fun e => by
  have := ((isPart_iff p).1 h).2.1
  rw [e] at this
  simp at this
/-- from piece to piece: what is left of parts, or nothing where a piece is refused -/
def cl : List Tx → List Tx → Option (List Tx)
  | l, [] => some l
  | l, p :: ps => if p = [] ∨ p = [46] then cl l ps else if p = [46, 46] then (if l = [] then none else cl l.dropLast ps) else if isPart p = true then cl (l ++ [p]) ps else none
/-- Clean's answer -/
def cln (s : Tx) : Tx × Int := match cl [] (pcs s) with
  | none => ([], 12)
  | some l => if 8 < l.length then ([], 3) else (jn l, 0)
theorem cl_skip (l : List Tx) (p : Tx) (ps : List Tx) (h : p = [] ∨ p = [46]) : cl l (p :: ps) = cl l ps := by rw [cl, if_pos h]
theorem cl_up (l : List Tx) (ps : List Tx) (h : l ≠ []) : cl l ([46, 46] :: ps) = cl l.dropLast ps := by rw [cl, if_neg (by simp), if_pos rfl, if_neg h]
theorem cl_up0 (ps : List Tx) : cl [] ([46, 46] :: ps) = none := by rw [cl, if_neg (by simp), if_pos rfl, if_pos rfl]
theorem cl_part (l : List Tx) (p : Tx) (ps : List Tx) (h : isPart p = true) : cl l (p :: ps) = cl (l ++ [p]) ps := by
  have := (isPart_iff p).1 h
  rw [cl, if_neg (by rintro (e | e) <;> simp_all), if_neg (by simp_all), if_pos h]
theorem cl_bad (l : List Tx) (p : Tx) (ps : List Tx) (h0 : p ≠ []) (h1 : p ≠ [46]) (h2 : p ≠ [46, 46]) (h : isPart p = false) : cl l (p :: ps) = none := by
  rw [cl, if_neg (by simp [h0, h1]), if_neg h2, if_neg (by simp [h])]
theorem cl_parts {l ps l' : List Tx} (h : cl l ps = some l') (hl : ∀ p ∈ l, isPart p = true) : ∀ p ∈ l', isPart p = true := by
  induction ps generalizing l with
  | nil => simp [cl] at h; rw [← h]; exact hl
  | cons q ps ih =>
    rw [cl] at h
    split at h
    · exact ih h hl
    · split at h
      · split at h
        · simp at h
        · exact ih h (fun p hp => hl p (List.dropLast_subset _ hp))
      · split at h
        · rename_i hq
          refine ih h (fun p hp => ?_)
          simp only [List.mem_append, List.mem_singleton] at hp
          rcases hp with hp | rfl
          · exact hl p hp
          · exact hq
        · simp at h
theorem cl_all (l ps : List Tx) (h : ∀ p ∈ ps, isPart p = true) : cl l ps = some (l ++ ps) := by
  induction ps generalizing l with
  | nil => simp [cl]
  | cons q ps ih =>
    rw [cl_part l q ps (h q (by simp)), ih _ (fun p hp => h p (by simp [hp]))]
    simp
/-- is a text a path, by its pieces -/
def isP (s : Tx) : Bool := s.isEmpty || ((pcs s).all isPart && decide ((pcs s).length ≤ 8))
/-- Parts' answer -/
def prt (s : Tx) : List Tx := if s ≠ [] ∧ isP s = true then pcs s else []
theorem isP_of {l : List Tx} (h : ∀ p ∈ l, isPart p = true) (h8 : l.length ≤ 8) : isP (jn l) = true := by
  cases l with
  | nil => rfl
  | cons x l =>
    have e := pcs_jn x l (fun p hp => part_nosep (h p hp))
    unfold isP
    rw [e]
    have : (x :: l).all isPart = true := List.all_eq_true.2 h
    rw [this]
    simp only [Bool.true_and, Bool.or_eq_true, decide_eq_true_eq]
    right
    exact h8
theorem cln_cases (s : Tx) : (∃ l : List Tx, cln s = (jn l, 0) ∧ (∀ p ∈ l, isPart p = true) ∧ l.length ≤ 8 ∧ cl [] (pcs s) = some l) ∨ cln s = ([], 12) ∨ cln s = ([], 3) := by
  unfold cln
  cases h : cl [] (pcs s) with
  | none => exact .inr (.inl rfl)
  | some l =>
    by_cases h8 : 8 < l.length
    · exact .inr (.inr (by simp [h8]))
    · exact .inl ⟨l, by simp [h8], cl_parts h (by simp), by omega, rfl⟩
theorem cln_parts {l : List Tx} (h : ∀ p ∈ l, isPart p = true) (h8 : l.length ≤ 8) : cln (jn l) = (jn l, 0) := by
  unfold cln
  cases l with
  | nil => rfl
  | cons x l =>
    rw [pcs_jn x l (fun p hp => part_nosep (h p hp)), cl_all [] _ h]
    simp only [List.nil_append]
    rw [if_neg (by omega)]
theorem isP_iff (s : Tx) : isP s = true ↔ cln s = (s, 0) := by
  constructor
  · intro h
    unfold isP at h
    simp only [Bool.or_eq_true, Bool.and_eq_true, List.all_eq_true, decide_eq_true_eq, List.isEmpty_iff] at h
    rcases h with rfl | ⟨h1, h2⟩
    · rfl
    · have := cln_parts h1 h2
      rwa [jn_pcs] at this
  · intro h
    rcases cln_cases s with ⟨l, e, h1, h2, _⟩ | e | e
    · rw [h] at e
      have : s = jn l := (Prod.mk.inj e).1
      rw [this]
      exact isP_of h1 h2
    · rw [h] at e; simp at e
    · rw [h] at e; simp at e
theorem prt_jn {l : List Tx} (h : ∀ p ∈ l, isPart p = true) (h8 : l.length ≤ 8) : prt (jn l) = l := by
  unfold prt
  cases l with
  | nil => rfl
  | cons x l =>
    have e := pcs_jn x l (fun p hp => part_nosep (h p hp))
    have hne : jn (x :: l) ≠ [] := by
      intro h0
      rw [h0] at e
      simp [pcs] at e
      exact part_ne (h x (by simp)) e.1
    rw [if_pos ⟨hne, isP_of h h8⟩, e]
/-- does a text stand ahead of another one, byte by byte -/
def ltB : Tx → Tx → Bool
  | [], [] => false
  | [], _ :: _ => true
  | _ :: _, [] => false
  | a :: s, b :: t => if a = b then ltB s t else decide (a.toNat < b.toNat)
/-- by their first unlike pieces -/
def ltP : List Tx → List Tx → Bool
  | [], [] => false
  | [], _ :: _ => true
  | _ :: _, [] => false
  | p :: ps, q :: qs => if p = q then ltP ps qs else ltB p q
def les (s t : Tx) : Bool := ltP (pcs s) (pcs t)
/-- is the second text the first one, or below it -/
def inn (p q : Tx) : Bool := decide (p = []) || decide (q = p) || (p ++ [47]).isPrefixOf q
theorem ltB_irr (s : Tx) : ltB s s = false := by induction s with | nil => rfl | cons a s ih => simp [ltB, ih]
theorem ltB_total (s t : Tx) : s ≠ t → ltB s t = !ltB t s := by
  induction s generalizing t with
  | nil => cases t with
    | nil => intro h; exact absurd rfl h
    | cons b t => intro _; rfl
  | cons a s ih => cases t with
    | nil => intro _; rfl
    | cons b t =>
      intro h
      by_cases e : a = b
      · subst e
        simp only [ltB, if_true]
        exact ih t (fun e => h (by rw [e]))
      · have e' : ¬ b = a := fun x => e x.symm
        have hn : a.toNat ≠ b.toNat := fun x => e (UInt8.toNat_inj.1 x)
        simp only [ltB, if_neg e, if_neg e']
        rw [Bool.eq_iff_iff]
        simp only [decide_eq_true_eq, Bool.not_eq_true', decide_eq_false_iff_not]
        omega
theorem ltB_trans (s t u : Tx) : ltB s t = true → ltB t u = true → ltB s u = true := by
  induction s generalizing t u with
  | nil => cases t with
    | nil => intro h; simp [ltB] at h
    | cons b t => cases u with
      | nil => intro _ h; simp [ltB] at h
      | cons c u => intro _ _; rfl
  | cons a s ih => cases t with
    | nil => intro h; simp [ltB] at h
    | cons b t => cases u with
      | nil => intro _ h; simp [ltB] at h
      | cons c u =>
        simp only [ltB]
        by_cases e1 : a = b
        · subst e1
          by_cases e2 : a = c
          · subst e2; simp only [if_true]; exact ih t u
          · simp [e2]
        · by_cases e2 : b = c
          · subst e2; simp only [if_neg e1]; exact fun h _ => h
          · by_cases e3 : a = c
            · subst e3; simp only [if_neg e1, if_neg e2, decide_eq_true_eq]; intro h1 h2; omega
            · simp only [if_neg e1, if_neg e2, if_neg e3, decide_eq_true_eq]; intro h1 h2; omega
theorem ltP_irr (s : List Tx) : ltP s s = false := by induction s with | nil => rfl | cons a s ih => simp [ltP, ih]
theorem ltP_total (s t : List Tx) : s ≠ t → ltP s t = !ltP t s := by
  induction s generalizing t with
  | nil => cases t with
    | nil => intro h; exact absurd rfl h
    | cons b t => intro _; rfl
  | cons a s ih => cases t with
    | nil => intro _; rfl
    | cons b t =>
      intro h
      by_cases e : a = b
      · subst e
        simp only [ltP, if_true]
        exact ih t (fun e => h (by rw [e]))
      · have e' : ¬ b = a := fun x => e x.symm
        simp only [ltP, if_neg e, if_neg e']
        exact ltB_total a b e
theorem ltP_trans (s t u : List Tx) : ltP s t = true → ltP t u = true → ltP s u = true := by
  induction s generalizing t u with
  | nil => cases t with
    | nil => intro h; simp [ltP] at h
    | cons b t => cases u with
      | nil => intro _ h; simp [ltP] at h
      | cons c u => intro _ _; rfl
  | cons a s ih => cases t with
    | nil => intro h; simp [ltP] at h
    | cons b t => cases u with
      | nil => intro _ h; simp [ltP] at h
      | cons c u =>
        simp only [ltP]
        by_cases e1 : a = b
        · subst e1
          by_cases e2 : a = c
          · subst e2; simp only [if_true]; exact ih t u
          · simp [e2]
        · by_cases e2 : b = c
          · subst e2; simp only [if_neg e1]; exact fun h _ => h
          · by_cases e3 : a = c
            · subst e3
              simp only [if_neg e1, if_neg e2]
              intro h1 h2
              have := ltB_trans _ _ _ h1 h2
              rw [ltB_irr] at this
              simp at this
            · simp only [if_neg e1, if_neg e2, if_neg e3]
              exact ltB_trans a b c
theorem pcs_inj {s t : Tx} (h : pcs s = pcs t) : s = t := by rw [← jn_pcs s, h, jn_pcs]
theorem les_irr (s : Tx) : les s s = false := ltP_irr _
theorem les_total (s t : Tx) (h : s ≠ t) : les s t = !les t s := ltP_total _ _ (fun e => h (pcs_inj e))
theorem les_trans (s t u : Tx) : les s t = true → les t u = true → les s u = true := ltP_trans _ _ _
/-- of the empty text no pieces -/
def pcs0 (s : Tx) : List Tx := if s = [] then [] else pcs s
theorem les_pcs0 (s t : Tx) : ltP (pcs0 s) (pcs0 t) = les s t := by
  unfold pcs0 les
  by_cases hs : s = []
  · subst hs
    by_cases ht : t = []
    · subst ht; rfl
    · rw [if_pos rfl, if_neg ht]
      have hj := jn_pcs t
      cases hp : pcs t with
      | nil => exact absurd hp (pcs_ne t)
      | cons q qs =>
        simp only [ltP, pcs]
        by_cases hq : q = []
        · subst hq
          cases qs with
          | nil => rw [hp] at hj; exact absurd hj.symm ht
          | cons a b => simp [ltP]
        · cases q with
          | nil => exact absurd rfl hq
          | cons a b => simp [ltB]
  · rw [if_neg hs]
    by_cases ht : t = []
    · subst ht
      rw [if_pos rfl]
      cases hp : pcs s with
      | nil => exact absurd hp (pcs_ne s)
      | cons q qs =>
        simp only [ltP, pcs]
        by_cases hq : q = []
        · subst hq
          cases qs <;> simp [ltP]
        · cases q with
          | nil => exact absurd rfl hq
          | cons a b => simp [ltB]
    · rw [if_neg ht]
/-- below, by the pieces -/
theorem pcs_app (s r : Tx) : pcs (s ++ 47 :: r) = pcs s ++ pcs r := by
  induction s with
  | nil => simp [pcs]
  | cons b t ih =>
    simp only [List.cons_append, pcs, ih]
    split
    · rfl
    · cases hp : pcs t with
      | nil => exact absurd hp (pcs_ne t)
      | cons x xs => simp
theorem inn_iff (p q : Tx) : inn p q = true ↔ p = [] ∨ q = p ∨ ∃ r, q = p ++ 47 :: r := by
  unfold inn
  simp only [Bool.or_eq_true, decide_eq_true_eq, List.isPrefixOf_iff_prefix, or_assoc]
  constructor
  · rintro (h | h | ⟨r, h⟩)
    · exact .inl h
    · exact .inr (.inl h)
    · exact .inr (.inr ⟨r, by rw [← h]; simp⟩)
  · rintro (h | h | ⟨r, h⟩)
    · exact .inl h
    · exact .inr (.inl h)
    · exact .inr (.inr ⟨r, by rw [h]; simp⟩)
/-- below a text that has any: just where its pieces begin the other one's -/
theorem inn_pcs (p q : Tx) (hp : p ≠ []) : inn p q = true ↔ pcs p <+: pcs q := by
  rw [inn_iff]
  constructor
  · rintro (h | h | ⟨r, h⟩)
    · exact absurd h hp
    · rw [h]; exact List.prefix_refl _
    · rw [h, pcs_app]; exact List.prefix_append _ _
  · rintro ⟨r, h⟩
    right
    cases r with
    | nil => left; rw [List.append_nil] at h; exact (pcs_inj h).symm
    | cons x xs =>
      right
      have hx : ∀ z ∈ x :: xs, (47 : UInt8) ∉ z := fun z hz => pcs_mem q z (by rw [← h]; simp only [List.mem_append]; right; exact hz)
      refine ⟨jn (x :: xs), ?_⟩
      apply pcs_inj
      rw [pcs_app, pcs_jn x xs hx, h]
theorem ltP_mono (a b r : List Tx) (h : ltP b a = false) (h2 : ltP b (a ++ r) = true) : a <+: b := by
  induction a generalizing b with
  | nil => exact List.nil_prefix
  | cons x a ih => cases b with
    | nil => simp [ltP] at h
    | cons y b =>
      simp only [List.cons_append, ltP] at h h2
      by_cases e : y = x
      · subst e
        simp only [if_true] at h h2
        obtain ⟨t, ht⟩ := ih b h h2
        exact ⟨t, by simp [ht]⟩
      · simp only [if_neg e] at h h2
        rw [h] at h2
        simp at h2
theorem ltP_pre (a r : List Tx) (h : r ≠ []) : ltP a (a ++ r) = true := by
  induction a with
  | nil => cases r with
    | nil => exact absurd rfl h
    | cons x r => rfl
  | cons x a ih => simp [ltP, ih]
/-- what stands between a text and one below it lies below it -/
theorem near (p q r : Tx) (h1 : inn p r = true) (h2 : les q p = false) (h3 : les q r = true) : inn p q = true := by
  by_cases hp : p = []
  · exact (inn_iff p q).2 (.inl hp)
  · rw [inn_pcs p _ hp] at h1 ⊢
    obtain ⟨t, ht⟩ := h1
    unfold les at h2 h3
    rw [← ht] at h3
    exact ltP_mono _ _ t h2 h3
theorem inn_les (p r : Tx) (h1 : inn p r = true) (h2 : p ≠ r) : les p r = true := by
  rw [inn_iff] at h1
  rcases h1 with h | h | ⟨t, h⟩
  · subst h
    rw [← les_pcs0]
    have : r ≠ [] := fun e => h2 e.symm
    rw [pcs0, if_pos rfl, pcs0, if_neg this]
    cases hr : pcs r with
    | nil => exact absurd hr (pcs_ne r)
    | cons x xs => rfl
  · exact absurd h.symm h2
  · unfold les
    rw [h, pcs_app]
    exact ltP_pre _ _ (pcs_ne t)
end Go.Proofs.YtlddoobomjcldaaDoor
namespace Go.Proofs.YtlddoobomjcldaaDoor
open Go.ChangeShapes Go.WideShapes Go.ChangeAt Go.RowKit Go.Deep
set_option linter.unusedVariables false
/-- a text of these bytes -/
def tx (L : Tx) : ByteArray := ⟨L.toArray⟩
theorem tx_size (L : Tx) : (tx L).size = L.length := by simp [tx, ByteArray.size]
theorem tx_data (L : Tx) : (tx L).data.toList = L := by simp [tx]
theorem tx_toList (L : Tx) : (tx L).toList = L := by rw [ByteArray.toList_eq, tx_data]
theorem tx_mk (S : ByteArray) : S = tx S.data.toList := by simp [tx]
theorem tx_extract (L : Tx) (a b : Nat) : (tx L).extract a b = tx ((L.drop a).take (b - a)) := ByteArray.extract_mk L a b
theorem tx_append (A B : Tx) : tx A ++ tx B = tx (A ++ B) := by
  apply ByteArray.ext
  rw [ByteArray.data_append]
  simp [tx]
theorem tx_inj {A B : Tx} (h : tx A = tx B) : A = B := by rw [← tx_data A, h, tx_data]
theorem tx_eq (A B : Tx) : ((tx A).toList == (tx B).toList) = decide (A = B) := by
  rw [tx_toList, tx_toList, Bool.eq_iff_iff, beq_iff_eq, decide_eq_true_iff]
theorem bytesLess_lt (A B : Tx) : Op.bytesLess A B = ltB A B := by
  induction A generalizing B with
  | nil => cases B <;> rfl
  | cons a A ih => cases B with
    | nil => rfl
    | cons b B =>
      simp only [Op.bytesLess, ltB, ih]
      by_cases e : a = b
      · subst e
        simp
      · rw [if_neg e, Bool.eq_iff_iff]
        simp only [Bool.or_eq_true, decide_eq_true_eq, Bool.and_eq_true, beq_iff_eq, e, false_and, or_false]
        exact UInt8.lt_iff_toNat_lt
/-- what stands ahead of the first stroke, and behind it -/
def cutA (L : Tx) : Tx := L.takeWhile (· != 47)
def cutB (L : Tx) : Tx := (L.dropWhile (· != 47)).tail
def cutF (L : Tx) : Bool := L.contains 47
theorem cutA_no (L : Tx) : (47 : UInt8) ∉ cutA L := by
  intro h
  have h2 : ∀ (M : Tx), (47 : UInt8) ∈ M.takeWhile (· != 47) → False := by
    intro M
    induction M with
    | nil => simp
    | cons b t ih =>
      intro hm
      rw [List.takeWhile_cons] at hm
      split at hm
      · rename_i hb
        simp only [List.mem_cons] at hm
        rcases hm with rfl | hm
        · simp at hb
        · exact ih hm
      · simp at hm
  exact h2 L h
theorem cut_yes (L : Tx) (h : cutF L = true) : L = cutA L ++ 47 :: cutB L := by
  induction L with
  | nil => simp [cutF] at h
  | cons b t ih =>
    by_cases e : b = 47
    · subst e
      simp [cutA, cutB]
    · have ht : cutF t = true := by
        simp only [cutF, List.contains_cons, Bool.or_eq_true, beq_iff_eq] at h
        rcases h with h | h
        · exact absurd h.symm e
        · exact h
      have := ih ht
      have e' : (b != 47) = true := by simp [e]
      simp only [cutA, cutB, List.takeWhile_cons, List.dropWhile_cons, e', if_true, List.cons_append] at this ⊢
      rw [← this]
theorem cut_no (L : Tx) (h : cutF L = false) : cutA L = L ∧ cutB L = [] := by
  induction L with
  | nil => exact ⟨rfl, rfl⟩
  | cons b t ih =>
    simp only [cutF, List.contains_cons, Bool.or_eq_false_iff, beq_eq_false_iff_ne, ne_eq] at h
    have e' : (b != 47) = true := by simp only [bne_iff_ne, ne_eq]; exact fun e => h.1 e.symm
    obtain ⟨h1, h2⟩ := ih h.2
    simp only [cutA, cutB, List.takeWhile_cons, List.dropWhile_cons, e', if_true] at h1 h2 ⊢
    exact ⟨by rw [h1], h2⟩
theorem index_yes (L : Tx) (h : cutF L = true) : Lib.indexByte L 47 = ((cutA L).length : Nat) := by
  induction L with
  | nil => simp [cutF] at h
  | cons b t ih =>
    by_cases e : b = 47
    · subst e
      simp [cutA, Lib.indexByte]
    · have ht : cutF t = true := by
        simp only [cutF, List.contains_cons, Bool.or_eq_true, beq_iff_eq] at h
        rcases h with h | h
        · exact absurd h.symm e
        · exact h
      have := ih ht
      have e' : (b != 47) = true := by simp [e]
      simp only [cutA, List.takeWhile_cons, e', if_true, List.length_cons] at this ⊢
      simp only [Lib.indexByte, beq_iff_eq, e, if_false]
      rw [this, if_neg (by omega)]
      omega
theorem index_no (L : Tx) (h : cutF L = false) : Lib.indexByte L 47 = -1 := by
  induction L with
  | nil => rfl
  | cons b t ih =>
    simp only [cutF, List.contains_cons, Bool.or_eq_false_iff, beq_eq_false_iff_ne, ne_eq] at h
    have e : ¬ b = 47 := fun e => h.1 e.symm
    simp only [Lib.indexByte, beq_iff_eq, e, if_false]
    rw [ih h.2]
    rfl
theorem pcs_yes (L : Tx) (h : cutF L = true) : pcs L = cutA L :: pcs (cutB L) := by
  have := pcs_cut (cutA L) (cutB L) (cutA_no L)
  rwa [← cut_yes L h] at this
theorem pcs_end (L : Tx) (h : cutF L = false) : pcs L = [cutA L] := by
  have := pcs_no (cutA L) (cutA_no L)
  rwa [(cut_no L h).1] at this ⊢
theorem cutF_nil : cutF [] = false := rfl
theorem indexByteLite_is (L : Tx) (w : World) : Calls Tryd.prog 116 #[.string (tx L), .int .u8 47] w fun e w' => e = .returned (.int .i64 (Lib.indexByte L 47)) ∧ w' = w := by
  have h : (callFunc 128 #[.string (tx L), .int .u8 47]).run Tryd.prog w = .ok (.value (.int .i64 (Lib.indexByte L 47))) w := by
    rw [run_callFunc_indexByte Tryd.func128 (by kernel_rfl) (by kernel_rfl) (by kernel_rfl) (by kernel_rfl), Lib.run_indexByteString (P := Tryd.prog) (tx L) 47 w, tx_data]
    rfl
  go_enter Tryd.func116, Tryd.ntmps116
  go_wp2
  go_ret
  exact ⟨rfl, rfl⟩
theorem index_is (L : Tx) (w : World) : Calls Tryd.prog 104 #[.string (tx L), .string ⟨#[47]⟩] w fun e w' => e = .returned (.int .i64 (Lib.indexByte L 47)) ∧ w' = w := by
  have k : Hid (∀ w, Calls Tryd.prog 116 #[.string (tx L), .int .u8 47] w fun e w' => e = .returned (.int .i64 (Lib.indexByte L 47)) ∧ w' = w) := indexByteLite_is L
  have ht := tx_toList L
  have hs := tx_size L
  by_cases hL : L = [47]
  · have e1 : ([47] == L) = true := by simp [hL]
    have h0 : Lib.indexByte L 47 = 0 := by rw [hL]; decide
    rw [h0]
    clear hL h0 k
    go_enter Tryd.func104, Tryd.ntmps104
    go_wp2
    go_ret
    exact ⟨rfl, rfl⟩
  · have e1 : ([47] == L) = false := by simp only [beq_eq_false_iff_ne, ne_eq]; exact fun e => hL e.symm
    clear hL
    go_enter Tryd.func104, Tryd.ntmps104
    go_wp2_with (go_at_call 116; refine (k.out _).mono ?_; rintro e w' ⟨rfl, hw⟩; obtain rfl := hw.symm; clear hw)
    go_ret
    exact ⟨rfl, rfl⟩
theorem cutLite_is (L : Tx) (hl : L.length ≤ 281474976710656) (w : World) : Calls Tryd.prog 97 #[.string (tx L), .string ⟨#[47]⟩] w fun e w' => e = .returned (.tuple #[.string (tx (cutA L)), .string (tx (cutB L)), .bool (cutF L)]) ∧ Below w.heap.size w w' := by
  have k : Hid (Calls Tryd.prog 104 #[.string (tx L), .string ⟨#[47]⟩] w fun e w' => e = .returned (.int .i64 (Lib.indexByte L 47)) ∧ w' = w) := index_is L w
  have hs := tx_size L
  cases hf : cutF L with
  | true =>
    have hx := cut_yes L hf
    rw [index_yes L hf] at k
    have hA : (tx L).extract 0 (cutA L).length = tx (cutA L) := by
      rw [tx_extract]
      congr 1
      generalize cutA L = A at *
      generalize cutB L = B at *
      rw [hx]
      simp
    have hB : (tx L).extract ((cutA L).length + 1) L.length = tx (cutB L) := by
      rw [tx_extract]
      congr 1
      generalize cutA L = A at *
      generalize cutB L = B at *
      rw [hx]
      have : List.drop (A.length + 1) (A ++ 47 :: B) = B := by
        have := List.drop_append (l₁ := A) (l₂ := 47 :: B) (i := A.length + 1)
        rw [this, List.drop_of_length_le (by omega), show A.length + 1 - A.length = 1 by omega]
        rfl
      rw [this, List.take_of_length_le (by simp; omega)]
    have hlen : (cutA L).length + 1 ≤ L.length := by
      have := congrArg List.length hx
      simp at this
      omega
    generalize tx (cutA L) = SA at *
    generalize tx (cutB L) = SB at *
    generalize (cutA L).length = m at *
    clear hx hf
    have i1 : (0 : Int) ≤ (m : Int) := by omega
    generalize tx L = S at *
    go_enter Tryd.func97, Tryd.ntmps97
    go_wp2_with (go_at_call 104; refine k.out.mono ?_; rintro e w' ⟨rfl, hw⟩; obtain rfl := hw.symm; clear hw)
    go_quiet (fail)
    go_wp2
    go_ret3
    exact ⟨rfl, below_drewN (Below.refl _ _) _⟩
  | false =>
    obtain ⟨h1, h2⟩ := cut_no L hf
    rw [index_no L hf] at k
    rw [h1, h2]
    go_enter Tryd.func97, Tryd.ntmps97
    go_wp2_with (go_at_call 104; refine k.out.mono ?_; rintro e w' ⟨rfl, hw⟩; obtain rfl := hw.symm; clear hw)
    go_ret3
    exact ⟨rfl, Below.refl _ _⟩
theorem cut_is (L : Tx) (hl : L.length ≤ 281474976710656) (w : World) : Calls Tryd.prog 83 #[.string (tx L), .string ⟨#[47]⟩] w fun e w' => e = .returned (.tuple #[.string (tx (cutA L)), .string (tx (cutB L)), .bool (cutF L)]) ∧ Below w.heap.size w w' := by
  have k : Hid (Calls Tryd.prog 97 #[.string (tx L), .string ⟨#[47]⟩] w fun e w' => e = .returned (.tuple #[.string (tx (cutA L)), .string (tx (cutB L)), .bool (cutF L)]) ∧ Below w.heap.size w w') := cutLite_is L hl w
  go_enter Tryd.func83, Tryd.ntmps83
  go_wp2_with (go_at_call 97; refine k.out.mono ?_; rintro e w' ⟨rfl, hw⟩)
  go_ret3
  exact ⟨rfl, hw⟩
theorem hasPrefixLite_is (Q P : Tx) (w : World) : Calls Tryd.prog 102 #[.string (tx Q), .string (tx P)] w fun e w' => e = .returned (.bool (P.isPrefixOf Q)) ∧ w' = w := by
  have h1 := tx_size Q
  have h2 := tx_size P
  by_cases hl : P.length ≤ Q.length
  · have i1 : ((P.length : Nat) : Int) ≤ ((Q.length : Nat) : Int) := by omega
    have x1 : (tx Q).extract 0 P.length = tx (Q.take P.length) := by rw [tx_extract]; simp
    have e1 : ((tx (Q.take P.length)).toList == (tx P).toList) = P.isPrefixOf Q := by
      rw [tx_eq, Bool.eq_iff_iff, decide_eq_true_iff, List.isPrefixOf_iff_prefix]
      constructor
      · intro h; exact ⟨Q.drop P.length, by rw [← h, List.length_take, Nat.min_eq_left hl]; exact List.take_append_drop _ _⟩
      · rintro ⟨t, rfl⟩; simp
    generalize tx (Q.take P.length) = SA at *
    generalize P.isPrefixOf Q = B at *
    go_enter Tryd.func102, Tryd.ntmps102
    go_wp2
    go_ret
    exact ⟨rfl, rfl⟩
  · have i1 : ¬ ((P.length : Nat) : Int) ≤ ((Q.length : Nat) : Int) := by omega
    have e1 : P.isPrefixOf Q = false := by
      rw [Bool.eq_false_iff]
      intro h
      rw [List.isPrefixOf_iff_prefix] at h
      exact hl h.length_le
    rw [e1]
    go_enter Tryd.func102, Tryd.ntmps102
    go_wp2
    go_ret
    exact ⟨rfl, rfl⟩
theorem hasPrefix_is (Q P : Tx) (w : World) : Calls Tryd.prog 91 #[.string (tx Q), .string (tx P)] w fun e w' => e = .returned (.bool (P.isPrefixOf Q)) ∧ w' = w := by
  have k : Hid (Calls Tryd.prog 102 #[.string (tx Q), .string (tx P)] w fun e w' => e = .returned (.bool (P.isPrefixOf Q)) ∧ w' = w) := hasPrefixLite_is Q P w
  go_enter Tryd.func91, Tryd.ntmps91
  go_wp2_with (go_at_call 102; refine k.out.mono ?_; rintro e w' ⟨rfl, hw⟩; obtain rfl := hw.symm; clear hw)
  go_ret
  exact ⟨rfl, rfl⟩
end Go.Proofs.YtlddoobomjcldaaDoor
namespace Go.Proofs.YtlddoobomjcldaaDoor
open Go.ChangeShapes Go.WideShapes Go.ChangeAt Go.RowKit Go.Deep
set_option linter.unusedVariables false
set_option maxRecDepth 100000
theorem run_index_nums (L : List Int) (j : Nat) (h : j < L.length) (hb : IsBytes L) (w : World) : (Instr.index 9 (.string (strOfNums L)) (.int .i64 (j : Int))).run Tryd.prog w = .ok (.int .u8 (L.getD j 0)) w := by
  have hs : (strOfNums L).size = L.length := strOfNums_size L
  rw [run_index_string (P := Tryd.prog) w 9 (strOfNums L) .i64 _ Tryd.underlying9, dif_pos ⟨by omega, by omega⟩]
  congr 2
  have b := hb j h
  have hl : j < (strOfNums L).data.toList.length := by rw [strOfNums_data]; simpa using h
  have e : (strOfNums L).data.toList[j]'hl = UInt8.ofNat (L[j]'h).toNat := by simp [strOfNums]
  have g : L.getD j 0 = L[j]'h := by simp [List.getD, List.getElem?_eq_getElem h]
  rw [g] at b ⊢
  show (((strOfNums L).data.toList[j]'hl).toNat : Int) = _
  rw [e]
  simp
  omega
theorem index_nums (w : World) (a : Act) (o : Oper) (x y : Operand) (ho : o.op = .index 9 x y) (S : ByteArray) (J : Int) (v : Int) (h : ∀ w, (Instr.index 9 (.string S) (.int .i64 J)).run Tryd.prog w = .ok (.int .u8 v) w) (hx : a.eval x = .string S) (hy : a.eval y = .int .i64 J) :
    (execOp a.eval o).run Tryd.prog w = .ok (.value (.int .u8 v)) w := by
  unfold execOp
  simp only [ho, hx, hy, Sem.run_bind, Sem.run_pure, Result.andThen_ok, h w]
theorem str_app (A B : List Int) : strOfNums A ++ strOfNums B = strOfNums (A ++ B) := by
  apply ByteArray.ext
  rw [ByteArray.data_append]
  simp [strOfNums]
theorem conv_bytes (L : List Int) (hb : IsBytes L) (n : Nat) (hn : L.length = n) (w : World) : ∃ c w', (convert 9 23 (.string (strOfNums L))).run Tryd.prog w = .ok (.slice (some ⟨w.heap.size, 0, none⟩) n c) w' ∧ Holds w' (some ⟨w.heap.size, 0, none⟩) L ∧ Below w.heap.size w w' := by
  have hr := Lib.run_convert_string_bytes (P := Tryd.prog) w 9 23 5 (strOfNums L) Tryd.underlying9 Tryd.underlying23 Tryd.underlying5
  have hs : (strOfNums L).size = n := by rw [strOfNums_size, hn]
  rw [hs] at hr
  refine ⟨_, _, hr, .inr ⟨w.heap.size, 0, rfl, fun i hi => ?_⟩, ⟨rfl, rfl, rfl, by rw [Lib.bytesWorld_size]; omega, fun k hk => Lib.bytesWorld_at_old w _ _ k hk⟩⟩
  rw [Nat.zero_add, Lib.bytesWorld_cell w 5 (strOfNums L) i (by omega)]
  congr 2
  have b := hb i hi
  have g : L.getD i 0 = L[i]'hi := by simp [List.getD, List.getElem?_eq_getElem hi]
  rw [g] at b ⊢
  have e : (strOfNums L).data.toList.getD i 0 = UInt8.ofNat (L[i]'hi).toNat := by simp [strOfNums, List.getD, List.getElem?_eq_getElem hi]
  rw [e]
  simp
  omega
theorem extract_nums (L : List Int) (i j : Nat) : (strOfNums L).extract i j = strOfNums ((L.take j).drop i) := by
  apply ByteArray.ext
  rw [ByteArray.data_extract]
  simp [strOfNums, List.drop_take]
end Go.Proofs.YtlddoobomjcldaaDoor
