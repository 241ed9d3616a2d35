/- What any text on wire's memory needs. Plain facts on a number's bytes, the highest first: no Go in sight. Plain facts on a number's sevens (rv: what is read; varL: what is written); of no program. -/
import Derived.Test.YthghoekkdpchnaaDoorMgPq0
import Derived.WalkSpells
import Derived.WalkLawsBesides
import Derived.Outline
import Derived.LoopTactic
import Derived.Deep.LoopGhost
import Derived.Deep.OwnRows
import Derived.OwnWalk
import Derived.Laws.AppendOwnNone
import Derived.Lib.Bytes
import GoSem.Op.String
namespace Go.Proofs.YthghoekkdpchnaaDoor
open Go.ChangeShapes Go.WideShapes Go.ChangeAt Go.RowKit Go.Deep
set_option linter.unusedVariables false
theorem add_plain (b off i : Nat) : (⟨b, off, none⟩ : Addr).add i = ⟨b, off + i, none⟩ := by unfold Addr.add; split <;> simp_all
theorem below1 (w : World) (c : Obj) : Below w.heap.size w (w.alloc c) := (Below.refl _ _).alloc (Nat.le_refl _) _
theorem below_drewN {B : Nat} {a w : World} (h : Below B a w) (n : Nat) : Below B a (w.drewN n) := h.trans ⟨rfl, rfl, rfl, Nat.le_refl _, fun _ _ => rfl⟩
theorem lt_of_heapK {w : World} {k : Nat} {o : Obj} (h : w.heap[k]? = some o) : k < w.heap.size := (Array.getElem?_eq_some_iff.1 h).1
theorem grown_setCell (w : World) (g i : Nat) (v : Value) : w.grownBy (w.setCell ⟨g, i, none⟩ v) (some g) := ⟨rfl, rfl, rfl, by simp [World.setCell], fun k hk hn => Below.heap_setCell _ _ _ _ (fun e => hn (by rw [e]))⟩
theorem set_off (w : World) (g i k : Nat) (v : Value) (hk : k ≠ g) : (w.setCell ⟨g, i, none⟩ v).heap[k]? = w.heap[k]? := Below.heap_setCell _ _ _ _ hk
theorem grown_none_below {a b : World} (h : a.grownBy b none) : Below a.heap.size a b := (Below.refl _ _).grown h (Nat.le_refl _) (fun k hk => by simp at hk)
def InI (p : Int) : Prop := -9223372036854775808 ≤ p ∧ p ≤ 9223372036854775807
/-- only what is in F, or is new, has changed -/
structure Off (F : Nat → Prop) (w w' : World) : Prop where
  os : w'.os = w.os
  tape : w'.tape = w.tape
  output : w'.output = w.output
  size : w.heap.size ≤ w'.heap.size
  block : ∀ k, k < w.heap.size → ¬ F k → w'.heap[k]? = w.heap[k]?
theorem Off.refl (F : Nat → Prop) (w : World) : Off F w w := ⟨rfl, rfl, rfl, Nat.le_refl _, fun _ _ _ => rfl⟩
theorem Off.grown {F : Nat → Prop} {a w w' : World} {row : Option Nat} (h : Off F a w) (hg : w.grownBy w' row) (hr : ∀ k, row = some k → F k ∨ a.heap.size ≤ k) : Off F a w' :=
  ⟨hg.os.trans h.os, hg.tape.trans h.tape, hg.output.trans h.output, Nat.le_trans h.size hg.size, fun k hk hF => (hg.block k (Nat.lt_of_lt_of_le hk h.size) (fun e => by
    rcases hr k e.symm with h1 | h1
    · exact hF h1
    · omega)).trans (h.block k hk hF)⟩
theorem Off.andBelow {F : Nat → Prop} {a w w' : World} (h : Off F a w) (hb : Below w.heap.size w w') : Off F a w' :=
  ⟨hb.os.trans h.os, hb.tape.trans h.tape, hb.output.trans h.output, Nat.le_trans h.size hb.size, fun k hk hF => (hb.block k (Nat.lt_of_lt_of_le hk h.size)).trans (h.block k hk hF)⟩
theorem Off.trans {F G : Nat → Prop} {a w w' : World} (h : Off F a w) (g : Off G w w') (hG : ∀ k, G k → F k ∨ a.heap.size ≤ k) : Off F a w' :=
  ⟨g.os.trans h.os, g.tape.trans h.tape, g.output.trans h.output, Nat.le_trans h.size g.size, fun k hk hF => (g.block k (Nat.lt_of_lt_of_le hk h.size) (fun e => by
    rcases hG k e with h1 | h1
    · exact hF h1
    · omega)).trans (h.block k hk hF)⟩
theorem Off.below {F : Nat → Prop} {a w : World} {B : Nat} (h : Off F a w) (hF : ∀ k, F k → B ≤ k) (hB : B ≤ a.heap.size) : Below B a w :=
  ⟨h.os, h.tape, h.output, h.size, fun k hk => h.block k (by omega) (fun e => by have := hF k e; omega)⟩
theorem Off.ofBelow (F : Nat → Prop) {a w : World} (h : Below a.heap.size a w) : Off F a w := (Off.refl F a).andBelow h
end Go.Proofs.YthghoekkdpchnaaDoor
namespace Go.Proofs.YthghoekkdpchnaaDoor
open Go.Lib
set_option linter.unusedVariables false

/-- the bytes of v in a width of k, the highest first -/
def fixL (v : Int) (k : Nat) : List Int := (List.range k).map fun j => v / 256 ^ (k - 1 - j) % 256
theorem fixL_length (v : Int) (k : Nat) : (fixL v k).length = k := by simp [fixL]
theorem fixL_succ (v : Int) (k : Nat) : fixL v (k + 1) = v / 256 ^ k % 256 :: fixL v k := by
  unfold fixL
  rw [List.range_succ_eq_map, List.map_cons, List.map_map]
  congr 1
  apply List.map_congr_left
  intro j _
  simp only [Function.comp]
  rw [show k + 1 - 1 - Nat.succ j = k - 1 - j by omega]
theorem fixL_range (v : Int) (k : Nat) : ∀ x ∈ fixL v k, 0 ≤ x ∧ x ≤ 255 := by
  intro x hx
  simp only [fixL, List.mem_map] at hx
  obtain ⟨j, _, rfl⟩ := hx
  omega
theorem fixL_getD (v : Int) (k : Nat) : ∀ i, i < k → 0 ≤ (fixL v k).getD i 0 ∧ (fixL v k).getD i 0 ≤ 255 := by
  intro i hi
  have h : i < (fixL v k).length := by rw [fixL_length]; exact hi
  have := fixL_range v k _ (List.getElem_mem h)
  simpa [List.getD, List.getElem?_eq_getElem h] using this
theorem mod_succ256 (v : Int) (h : 0 ≤ v) (k : Nat) : v % 256 ^ (k + 1) = v / 256 ^ k % 256 * 256 ^ k + v % 256 ^ k := by
  have p : (0 : Int) < 256 ^ k := Int.pow_pos (by decide)
  rw [Int.pow_succ]
  have e1 := Int.mul_ediv_add_emod v (256 ^ k)
  have e2 := Int.mul_ediv_add_emod (v / 256 ^ k) 256
  have r0 := Int.emod_nonneg v (show (256 : Int) ^ k ≠ 0 by omega)
  have r1 := Int.emod_lt_of_pos v p
  generalize v % 256 ^ k = r at *
  generalize v / 256 ^ k = q at *
  generalize hP : (256 : Int) ^ k = P at *
  have d0 : 0 ≤ q % 256 := by omega
  have d1 : q % 256 ≤ 255 := by omega
  have ev : v = P * 256 * (q / 256) + (q % 256 * P + r) := by
    rw [← e1]
    conv => lhs; rw [← e2]
    rw [Int.mul_add, Int.mul_assoc, Int.mul_comm (q % 256) P, Int.add_assoc]
  have b0 : 0 ≤ q % 256 * P := Int.mul_nonneg d0 (by omega)
  have b1 : q % 256 * P ≤ 255 * P := Int.mul_le_mul_of_nonneg_right d1 (by omega)
  rw [ev, Int.mul_add_emod_self_left, Int.emod_eq_of_lt (by omega) (by omega)]
theorem ofNat_lt {x y : Int} (x0 : 0 ≤ x) (x1 : x ≤ 255) (y0 : 0 ≤ y) (y1 : y ≤ 255) : (UInt8.ofNat x.toNat < UInt8.ofNat y.toNat) ↔ x < y := by
  rw [UInt8.lt_iff_toNat_lt]
  simp
  omega
theorem ofNat_eq {x y : Int} (x0 : 0 ≤ x) (x1 : x ≤ 255) (y0 : 0 ≤ y) (y1 : y ≤ 255) : (UInt8.ofNat x.toNat = UInt8.ofNat y.toNat) ↔ x = y := by
  rw [← UInt8.toNat_inj]
  simp
  omega
/-- bytes that fit are told by their numbers -/
theorem bytesOf_inj : ∀ (L M : List Int), (∀ x ∈ L, 0 ≤ x ∧ x ≤ 255) → (∀ x ∈ M, 0 ≤ x ∧ x ≤ 255) → (bytesOf L = bytesOf M ↔ L = M)
  | [], [], _, _ => by simp
  | [], b :: M, _, _ => by simp [bytesOf]
  | a :: L, [], _, _ => by simp [bytesOf]
  | a :: L, b :: M, hL, hM => by
    have ih := bytesOf_inj L M (fun x hx => hL x (by simp [hx])) (fun x hx => hM x (by simp [hx]))
    have ha := hL a (by simp)
    have hb := hM b (by simp)
    have e := ofNat_eq ha.1 ha.2 hb.1 hb.2
    simp only [bytesOf, List.map_cons, List.cons.injEq] at ih ⊢
    rw [ih, e]
theorem fix_less (a b : Int) (a0 : 0 ≤ a) (b0 : 0 ≤ b) : ∀ k, Op.bytesLess (bytesOf (fixL a k)) (bytesOf (fixL b k)) = decide (a % 256 ^ k < b % 256 ^ k)
  | 0 => by simp [fixL, bytesOf, Op.bytesLess, Int.emod_one]
  | k + 1 => by
    have ih := fix_less a b a0 b0 k
    rw [fixL_succ, fixL_succ, mod_succ256 a a0, mod_succ256 b b0]
    have p : (0 : Int) < 256 ^ k := Int.pow_pos (by decide)
    have ra0 := Int.emod_nonneg a (show (256 : Int) ^ k ≠ 0 by omega)
    have ra1 := Int.emod_lt_of_pos a p
    have rb0 := Int.emod_nonneg b (show (256 : Int) ^ k ≠ 0 by omega)
    have rb1 := Int.emod_lt_of_pos b p
    have x0 : 0 ≤ a / 256 ^ k % 256 := by omega
    have x1 : a / 256 ^ k % 256 ≤ 255 := by omega
    have y0 : 0 ≤ b / 256 ^ k % 256 := by omega
    have y1 : b / 256 ^ k % 256 ≤ 255 := by omega
    generalize a / 256 ^ k % 256 = x at *
    generalize b / 256 ^ k % 256 = y at *
    have el := ofNat_lt x0 x1 y0 y1
    have ee := ofNat_eq x0 x1 y0 y1
    simp only [bytesOf, List.map_cons, Op.bytesLess] at ih ⊢
    rw [ih]
    generalize a % 256 ^ k = r at *
    generalize b % 256 ^ k = t at *
    generalize (256 : Int) ^ k = P at *
    rw [Bool.eq_iff_iff]
    simp only [Bool.or_eq_true, Bool.and_eq_true, decide_eq_true_eq, beq_iff_eq, el, ee]
    constructor
    · rintro (h | ⟨rfl, h⟩)
      · have : (x + 1) * P ≤ y * P := Int.mul_le_mul_of_nonneg_right (by omega) (by omega)
        rw [Int.add_mul] at this
        omega
      · omega
    · intro h
      rcases Int.lt_trichotomy x y with g | g | g
      · exact .inl g
      · subst g; exact .inr ⟨rfl, by omega⟩
      · have : (y + 1) * P ≤ x * P := Int.mul_le_mul_of_nonneg_right (by omega) (by omega)
        rw [Int.add_mul] at this
        omega
/-- two numbers of one width whose bytes are the same are the same -/
theorem fixL_inj (a b : Int) (a0 : 0 ≤ a) (b0 : 0 ≤ b) : ∀ k, fixL a k = fixL b k → a % 256 ^ k = b % 256 ^ k
  | 0, _ => by simp [Int.emod_one]
  | k + 1, h => by
    rw [fixL_succ, fixL_succ, List.cons.injEq] at h
    rw [mod_succ256 a a0, mod_succ256 b b0, h.1, fixL_inj a b a0 b0 k h.2]
theorem fix_eq (a b : Int) (a0 : 0 ≤ a) (b0 : 0 ≤ b) (k : Nat) (ha : a < 256 ^ k) (hb : b < 256 ^ k) : (bytesOf (fixL a k) == bytesOf (fixL b k)) = (a == b) := by
  rw [Bool.eq_iff_iff, beq_iff_eq, beq_iff_eq, bytesOf_inj _ _ (fixL_range a k) (fixL_range b k)]
  constructor
  · intro h
    have := fixL_inj a b a0 b0 k h
    rwa [Int.emod_eq_of_lt a0 ha, Int.emod_eq_of_lt b0 hb] at this
  · rintro rfl; rfl
theorem fix_lt (a b : Int) (a0 : 0 ≤ a) (b0 : 0 ≤ b) (k : Nat) (ha : a < 256 ^ k) (hb : b < 256 ^ k) : Op.bytesLess (bytesOf (fixL a k)) (bytesOf (fixL b k)) = decide (a < b) := by
  rw [fix_less a b a0 b0 k, Int.emod_eq_of_lt a0 ha, Int.emod_eq_of_lt b0 hb]
/-- the number that bytes are, the highest first -/
def val (L : List Int) : Int := L.foldl (fun v c => v * 256 + c) 0
/-- each is a byte -/
def IsBytes (L : List Int) : Prop := ∀ i, i < L.length → 0 ≤ L.getD i 0 ∧ L.getD i 0 ≤ 255
theorem val_snoc (L : List Int) (c : Int) : val (L ++ [c]) = val L * 256 + c := by simp [val]
theorem take_snoc (L : List Int) (i : Nat) (h : i < L.length) : L.take (i + 1) = L.take i ++ [L.getD i 0] := by
  rw [List.take_succ_eq_append_getElem h]; simp [List.getD, List.getElem?_eq_getElem h]
theorem val_step (L : List Int) (i : Nat) (h : i < L.length) : val (L.take (i + 1)) = val (L.take i) * 256 + L.getD i 0 := by
  rw [take_snoc L i h, val_snoc]
theorem val_bd (L : List Int) (hb : IsBytes L) : ∀ i, i ≤ L.length → 0 ≤ val (L.take i) ∧ val (L.take i) < 256 ^ i
  | 0, _ => by simp [val]
  | i + 1, h => by
    have ih := val_bd L hb i (by omega)
    have hc := hb i (by omega)
    rw [val_step L i (by omega), Int.pow_succ]
    omega
theorem val_fold (v : Int) (L : List Int) : L.foldl (fun v c => v * 256 + c) v = v * 256 ^ L.length + val L := by
  induction L generalizing v with
  | nil => simp [val]
  | cons c L ih =>
    have e : val (c :: L) = (0 * 256 + c) * 256 ^ L.length + val L := by
      show (c :: L).foldl (fun v c => v * 256 + c) 0 = _
      rw [List.foldl_cons, ih]
    rw [List.foldl_cons, ih, e, List.length_cons, Int.pow_succ, Int.zero_mul, Int.zero_add, Int.add_mul, Int.mul_assoc, Int.mul_comm 256, Int.add_assoc]
theorem val_fixL (v : Int) (h : 0 ≤ v) : ∀ k, val (fixL v k) = v % 256 ^ k
  | 0 => by simp [fixL, val, Int.emod_one]
  | k + 1 => by
    rw [fixL_succ, val, List.foldl_cons, val_fold, fixL_length, val_fixL v h k, mod_succ256 v h, Int.zero_mul, Int.zero_add]
theorem fixL_bytes (v : Int) (k : Nat) : IsBytes (fixL v k) := fun i hi => fixL_getD v k i (by rwa [fixL_length] at hi)
theorem bytes_mem {L : List Int} (h : IsBytes L) : ∀ x ∈ L, 0 ≤ x ∧ x ≤ 255 := by
  intro x hx
  obtain ⟨i, hi, rfl⟩ := List.getElem_of_mem hx
  have := h i hi
  simpa [List.getD, List.getElem?_eq_getElem hi] using this
theorem bytes_of_mem {L : List Int} (h : ∀ x ∈ L, 0 ≤ x ∧ x ≤ 255) : IsBytes L := by
  intro i hi
  have := h _ (List.getElem_mem hi)
  simpa [List.getD, List.getElem?_eq_getElem hi] using this
theorem bytes_app {A B : List Int} (ha : IsBytes A) (hb : IsBytes B) : IsBytes (A ++ B) :=
  bytes_of_mem fun x hx => (List.mem_append.1 hx).elim (bytes_mem ha x) (bytes_mem hb x)
end Go.Proofs.YthghoekkdpchnaaDoor
namespace Go.Proofs.YthghoekkdpchnaaDoor
set_option linter.unusedVariables false
/-- what is read by sevens: the bytes that are left, how many were read, the number so far -/
def rv : List Int → Nat → Int → Int × Int × Int
  | [], _, _ => (0, 0, 4)
  | c :: cs, i, v =>
    if i = 9 ∧ 1 < c then (0, 0, 5)
    else if 128 ≤ c then rv cs (i + 1) (v + c % 128 * 128 ^ i)
    else if c = 0 ∧ 0 < i then (0, 0, 5)
    else (v + c % 128 * 128 ^ i, (i : Int) + 1, 0)

theorem pow_le9 (k : Nat) (h : k ≤ 9) : (128 : Int) ^ k ≤ 9223372036854775808 := by
  rcases (by omega : k = 0 ∨ k = 1 ∨ k = 2 ∨ k = 3 ∨ k = 4 ∨ k = 5 ∨ k = 6 ∨ k = 7 ∨ k = 8 ∨ k = 9) with rfl | rfl | rfl | rfl | rfl | rfl | rfl | rfl | rfl | rfl <;> decide
theorem pow_lt9 (k : Nat) (h : k < 9) : (128 : Int) ^ k ≤ 72057594037927936 := by
  rcases (by omega : k = 0 ∨ k = 1 ∨ k = 2 ∨ k = 3 ∨ k = 4 ∨ k = 5 ∨ k = 6 ∨ k = 7 ∨ k = 8) with rfl | rfl | rfl | rfl | rfl | rfl | rfl | rfl | rfl <;> decide
/-- the sevens of v, the lowest first: n that go on, and the last one -/
def varL : Nat → Int → List Int
  | 0, v => [v]
  | n + 1, v => (v % 128 + 128) :: varL n (v / 128)
theorem varL_length : ∀ (n : Nat) (v : Int), (varL n v).length = n + 1
  | 0, v => rfl
  | n + 1, v => by simp [varL, varL_length n]
theorem div128 (v : Int) (h : 0 ≤ v) (i : Nat) : v / 128 / 128 ^ i = v / 128 ^ (i + 1) := by
  rw [Int.pow_succ, Int.mul_comm, Int.ediv_ediv_of_nonneg (by decide)]
theorem varL_getD : ∀ (n : Nat) (v : Int), 0 ≤ v → ∀ i, i ≤ n → (varL n v).getD i 0 = if i < n then v / 128 ^ i % 128 + 128 else v / 128 ^ i
  | 0, v, h, i, hi => by
    have : i = 0 := by omega
    subst this
    simp [varL]
  | n + 1, v, h, 0, hi => by simp [varL]
  | n + 1, v, h, i + 1, hi => by
    have ih := varL_getD n (v / 128) (by omega) i (by omega)
    rw [div128 v h] at ih
    simp only [varL, List.getD_cons_succ, ih]
    simp
/-- how many sevens a number needs: n + 1 -/
def Sev (v : Int) (n : Nat) : Prop := n ≤ 9 ∧ v < 128 ^ (n + 1) ∧ (n = 0 ∨ 128 ^ n ≤ v)
theorem sev_one (v : Int) (a b : Nat) (ha : Sev v a) (hb : Sev v b) : a = b := by
  obtain ⟨_, a2, a3⟩ := ha
  obtain ⟨_, b2, b3⟩ := hb
  have mono : ∀ i j : Nat, i ≤ j → (128 : Int) ^ i ≤ 128 ^ j := by
    intro i j hij
    have h := Nat.pow_le_pow_right (show 0 < 128 by decide) hij
    have e : ∀ k : Nat, ((128 ^ k : Nat) : Int) = (128 : Int) ^ k := fun k => by simp
    rw [← e i, ← e j]
    exact Int.ofNat_le.2 h
  rcases Nat.lt_trichotomy a b with h | h | h
  · have := mono (a + 1) b (by omega)
    rcases b3 with rfl | b3
    · omega
    · omega
  · exact h
  · have := mono (b + 1) a (by omega)
    rcases a3 with rfl | a3
    · omega
    · omega
theorem varL_bytes : ∀ (n : Nat) (v : Int), 0 ≤ v → v < 128 ^ (n + 1) → ∀ x ∈ varL n v, 0 ≤ x ∧ x ≤ 255
  | 0, v, h, h1, x, hx => by
    simp [varL] at hx
    subst hx
    have : (128 : Int) ^ (0 + 1) = 128 := rfl
    omega
  | n + 1, v, h, h1, x, hx => by
    simp only [varL, List.mem_cons] at hx
    rcases hx with rfl | hx
    · omega
    · refine varL_bytes n (v / 128) (by omega) ?_ x hx
      rw [Int.pow_succ] at h1
      omega
theorem pow_split (n : Nat) (v : Int) (i : Nat) : v % 128 * 128 ^ i + v / 128 * 128 ^ (i + 1) = v * 128 ^ i := by
  have e : v = v / 128 * 128 + v % 128 := by omega
  conv => rhs; rw [e]
  rw [Int.add_mul, Int.pow_succ, Int.mul_assoc, Int.mul_comm 128, Int.add_comm]
/-- what is written is read again, whatever stands behind it -/
theorem rv_varL (M : List Int) : ∀ (n : Nat) (v : Int) (i : Nat) (x : Int), 0 ≤ v → v < 128 ^ (n + 1) → i + n ≤ 9 → (v / 128 ^ n ≠ 0 ∨ i + n = 0) → (i + n = 9 → v / 128 ^ n ≤ 1) →
    rv (varL n v ++ M) i x = (x + v * 128 ^ i, ((i + n : Nat) : Int) + 1, 0)
  | 0, v, i, x, h0, h1, h9, hz, hl => by
    have h128 : v < 128 := h1
    have e0 : v / 128 ^ 0 = v := by simp
    rw [e0] at hz hl
    have ev : v % 128 = v := by omega
    show rv (v :: M) i x = _
    rw [rv, if_neg (by intro h; have := hl (by omega); omega), if_neg (by omega), if_neg (by omega), ev]
    rfl
  | n + 1, v, i, x, h0, h1, h9, hz, hl => by
    have hd := div128 v h0 n
    have ih := rv_varL M n (v / 128) (i + 1) (x + v % 128 * 128 ^ i) (by omega) (by rw [Int.pow_succ] at h1; omega) (by omega) (by rw [hd]; rcases hz with h | h; exact .inl h; omega) (by rw [hd]; intro h; exact hl (by omega))
    show rv ((v % 128 + 128) :: (varL n (v / 128) ++ M)) i x = _
    have em : (v % 128 + 128) % 128 = v % 128 := by omega
    rw [rv, if_neg (by omega), if_pos (by omega), em, ih, Int.add_assoc, pow_split 0]
    congr 2
    omega
theorem sev_last (v : Int) (n : Nat) (h0 : 0 ≤ v) (v1 : v ≤ 18446744073709551615) (h : Sev v n) : (v / 128 ^ n ≠ 0 ∨ 0 + n = 0) ∧ (0 + n = 9 → v / 128 ^ n ≤ 1) := by
  obtain ⟨h9, h1, h2⟩ := h
  have hp : (0 : Int) < 128 ^ n := Int.pow_pos (by decide)
  refine ⟨?_, ?_⟩
  · rcases h2 with rfl | h2
    · exact .inr rfl
    · left
      have := Int.ediv_le_ediv hp h2
      rw [Int.ediv_self (by omega)] at this
      omega
  · intro hn
    have : n = 9 := by omega
    subst this
    have e : (128 : Int) ^ 9 = 9223372036854775808 := by decide
    rw [e]
    omega
theorem rv_back (v : Int) (n : Nat) (h0 : 0 ≤ v) (v1 : v ≤ 18446744073709551615) (h : Sev v n) (M : List Int) : rv (varL n v ++ M) 0 0 = (v, (n : Int) + 1, 0) := by
  obtain ⟨a, b⟩ := sev_last v n h0 v1 h
  rw [rv_varL M n v 0 0 h0 h.2.1 (by have := h.1; omega) a b]
  simp
/-- with its last byte cut off it is not read -/
theorem rv_cut : ∀ (n : Nat) (v : Int) (i : Nat) (x : Int), 0 ≤ v → i + n ≤ 9 → rv ((varL n v).take n) i x = (0, 0, 4)
  | 0, v, i, x, h0, h9 => by simp [rv]
  | n + 1, v, i, x, h0, h9 => by
    have ih := rv_cut n (v / 128) (i + 1) (x + v % 128 * 128 ^ i) (by omega) (by omega)
    have em : (v % 128 + 128) % 128 = v % 128 := by omega
    show rv ((v % 128 + 128) :: (varL n (v / 128)).take n) i x = _
    rw [rv, if_neg (by omega), if_pos (by omega), em, ih]
/-- what is read: a refusal with zeros, or just the sevens of a number -/
theorem rv_only : ∀ (L : List Int) (i : Nat) (x : Int), (∀ c ∈ L, 0 ≤ c ∧ c ≤ 255) → i ≤ 9 →
    (rv L i x = (0, 0, 4) ∨ rv L i x = (0, 0, 5)) ∨ ∃ (n : Nat) (u : Int), rv L i x = (x + u * 128 ^ i, ((i + n : Nat) : Int) + 1, 0) ∧ L.take (n + 1) = varL n u ∧ n + 1 ≤ L.length ∧ i + n ≤ 9 ∧ 0 ≤ u ∧ u < 128 ^ (n + 1) ∧ (u / 128 ^ n ≠ 0 ∨ i + n = 0) ∧ (i + n = 9 → u / 128 ^ n ≤ 1)
  | [], i, x, hb, hi => .inl (.inl rfl)
  | c :: cs, i, x, hb, hi => by
    have hc := hb c (by simp)
    by_cases g1 : i = 9 ∧ 1 < c
    · exact .inl (.inr (by rw [rv, if_pos g1]))
    · by_cases g2 : 128 ≤ c
      · have hi9 : i < 9 := by omega
        have ih := rv_only cs (i + 1) (x + c % 128 * 128 ^ i) (fun d hd => hb d (by simp [hd])) (by omega)
        rw [rv, if_neg g1, if_pos g2]
        rcases ih with ih | ⟨n, u, e1, e2, e3, e4, u0, u1, u2, u3⟩
        · exact .inl ih
        · refine .inr ⟨n + 1, u * 128 + c % 128, ?_, ?_, by simp; omega, by omega, by omega, ?_, ?_, ?_⟩
          · rw [e1]
            have : x + c % 128 * 128 ^ i + u * 128 ^ (i + 1) = x + (u * 128 + c % 128) * 128 ^ i := by
              rw [Int.add_mul, Int.pow_succ, Int.mul_assoc, Int.mul_comm 128, Int.add_assoc, Int.add_comm (c % 128 * 128 ^ i)]
            rw [this]
            congr 2
            omega
          · rw [List.take_succ_cons, e2, varL]
            have a1 : (u * 128 + c % 128) % 128 + 128 = c := by omega
            have a2 : (u * 128 + c % 128) / 128 = u := by omega
            rw [a1, a2]
          · rw [Int.pow_succ]; omega
          · rw [← div128 _ (by omega), show (u * 128 + c % 128) / 128 = u by omega]
            rcases u2 with h | h
            · exact .inl h
            · omega
          · rw [← div128 _ (by omega), show (u * 128 + c % 128) / 128 = u by omega]
            intro h
            exact u3 (by omega)
      · by_cases g3 : c = 0 ∧ 0 < i
        · exact .inl (.inr (by rw [rv, if_neg g1, if_neg g2, if_pos g3]))
        · refine .inr ⟨0, c, ?_, rfl, by simp, by omega, hc.1, by have : (128 : Int) ^ (0 + 1) = 128 := rfl; omega, ?_, ?_⟩
          · rw [rv, if_neg g1, if_neg g2, if_neg g3, show c % 128 = c by omega]; rfl
          · simp; omega
          · simp; omega
/-- what was read at the first byte on is a number of 64 bits that needs just so many sevens -/
theorem sev_of (u : Int) (n : Nat) (h9 : 0 + n ≤ 9) (u0 : 0 ≤ u) (u1 : u < 128 ^ (n + 1)) (u2 : u / 128 ^ n ≠ 0 ∨ 0 + n = 0) (u3 : 0 + n = 9 → u / 128 ^ n ≤ 1) : Sev u n ∧ u ≤ 18446744073709551615 := by
  have hp : (0 : Int) < 128 ^ n := Int.pow_pos (by decide)
  refine ⟨⟨by omega, u1, ?_⟩, ?_⟩
  · rcases u2 with h | h
    · right
      rcases Int.lt_or_le u (128 ^ n) with g | g
      · exact absurd (Int.ediv_eq_zero_of_lt u0 g) h
      · exact g
    · left; omega
  · rcases (by omega : n < 9 ∨ n = 9) with h | rfl
    · have : (128 : Int) ^ (n + 1) ≤ 9223372036854775808 := pow_le9 (n + 1) (by omega)
      omega
    · have := u3 rfl
      have e : (128 : Int) ^ 9 = 9223372036854775808 := by decide
      rw [e] at this
      omega
end Go.Proofs.YthghoekkdpchnaaDoor
