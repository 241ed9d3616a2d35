/- Texts in the model; strings.Cut at one stroke. Plain facts on a number's bytes, the highest first: no Go in sight. Plain facts on a number's sevens (rv: what is read; varL: what is written); of no program. Layers as plain lists of entries: what may be, its size, its bytes, and how bytes are read; of no program. -/
import Derived.Test.YthaeidbnbgghkaaMgCz0
import Derived.WalkSpells
import Derived.WalkLawsBesides
import Derived.Outline
import Derived.LoopTactic
import Derived.Deep.LoopGhost
import Derived.Deep.OwnRows
import Derived.Lib.Bytealg
import Derived.Laws.StandIn
import Derived.Laws.Strings3
import Derived.Deep.QuietTactic
import Derived.BigQuiet
import Derived.Lib.Bytes
import GoSem.Op.String
namespace Go.Proofs.Ythaeidbnbgghkaa
open Go.ChangeShapes Go.WideShapes Go.ChangeAt Go.RowKit Go.Deep
set_option linter.unusedVariables false
/-- a text of these bytes -/
def tx (L : Tx) : ByteArray := ⟨L.toArray⟩
theorem tx_size (L : Tx) : (tx L).size = L.length := by simp [tx, ByteArray.size]
theorem tx_data (L : Tx) : (tx L).data.toList = L := by simp [tx]
theorem tx_toList (L : Tx) : (tx L).toList = L := by rw [ByteArray.toList_eq, tx_data]
theorem tx_mk (S : ByteArray) : S = tx S.data.toList := by simp [tx]
theorem tx_extract (L : Tx) (a b : Nat) : (tx L).extract a b = tx ((L.drop a).take (b - a)) := ByteArray.extract_mk L a b
theorem tx_append (A B : Tx) : tx A ++ tx B = tx (A ++ B) := by
  apply ByteArray.ext
  rw [ByteArray.data_append]
  simp [tx]
theorem tx_inj {A B : Tx} (h : tx A = tx B) : A = B := by rw [← tx_data A, h, tx_data]
theorem tx_eq (A B : Tx) : ((tx A).toList == (tx B).toList) = decide (A = B) := by
  rw [tx_toList, tx_toList, Bool.eq_iff_iff, beq_iff_eq, decide_eq_true_iff]
theorem bytesLess_lt (A B : Tx) : Op.bytesLess A B = ltB A B := by
  induction A generalizing B with
  | nil => cases B <;> rfl
  | cons a A ih => cases B with
    | nil => rfl
    | cons b B =>
      simp only [Op.bytesLess, ltB, ih]
      by_cases e : a = b
      · subst e
        simp
      · rw [if_neg e, Bool.eq_iff_iff]
        simp only [Bool.or_eq_true, decide_eq_true_eq, Bool.and_eq_true, beq_iff_eq, e, false_and, or_false]
        exact UInt8.lt_iff_toNat_lt
/-- what stands ahead of the first stroke, and behind it -/
def cutAz (L : Tx) : Tx := L.takeWhile (· != 47)
def cutBz (L : Tx) : Tx := (L.dropWhile (· != 47)).tail
def cutFz (L : Tx) : Bool := L.contains 47
end Go.Proofs.Ythaeidbnbgghkaa
namespace Go.Proofs.Ythaeidbnbgghkaa
open Go.Lib
set_option linter.unusedVariables false

/-- the bytes of v in a width of k, the highest first -/
def fixL (v : Int) (k : Nat) : List Int := (List.range k).map fun j => v / 256 ^ (k - 1 - j) % 256
theorem fixL_length (v : Int) (k : Nat) : (fixL v k).length = k := by simp [fixL]
theorem fixL_succ (v : Int) (k : Nat) : fixL v (k + 1) = v / 256 ^ k % 256 :: fixL v k := by
  unfold fixL
  rw [List.range_succ_eq_map, List.map_cons, List.map_map]
  congr 1
  apply List.map_congr_left
  intro j _
  simp only [Function.comp]
  rw [show k + 1 - 1 - Nat.succ j = k - 1 - j by omega]
theorem fixL_range (v : Int) (k : Nat) : ∀ x ∈ fixL v k, 0 ≤ x ∧ x ≤ 255 := by
  intro x hx
  simp only [fixL, List.mem_map] at hx
  obtain ⟨j, _, rfl⟩ := hx
  omega
theorem fixL_getD (v : Int) (k : Nat) : ∀ i, i < k → 0 ≤ (fixL v k).getD i 0 ∧ (fixL v k).getD i 0 ≤ 255 := by
  intro i hi
  have h : i < (fixL v k).length := by rw [fixL_length]; exact hi
  have := fixL_range v k _ (List.getElem_mem h)
  simpa [List.getD, List.getElem?_eq_getElem h] using this
theorem mod_succ256 (v : Int) (h : 0 ≤ v) (k : Nat) : v % 256 ^ (k + 1) = v / 256 ^ k % 256 * 256 ^ k + v % 256 ^ k := by
  have p : (0 : Int) < 256 ^ k := Int.pow_pos (by decide)
  rw [Int.pow_succ]
  have e1 := Int.mul_ediv_add_emod v (256 ^ k)
  have e2 := Int.mul_ediv_add_emod (v / 256 ^ k) 256
  have r0 := Int.emod_nonneg v (show (256 : Int) ^ k ≠ 0 by omega)
  have r1 := Int.emod_lt_of_pos v p
  generalize v % 256 ^ k = r at *
  generalize v / 256 ^ k = q at *
  generalize hP : (256 : Int) ^ k = P at *
  have d0 : 0 ≤ q % 256 := by omega
  have d1 : q % 256 ≤ 255 := by omega
  have ev : v = P * 256 * (q / 256) + (q % 256 * P + r) := by
    rw [← e1]
    conv => lhs; rw [← e2]
    rw [Int.mul_add, Int.mul_assoc, Int.mul_comm (q % 256) P, Int.add_assoc]
  have b0 : 0 ≤ q % 256 * P := Int.mul_nonneg d0 (by omega)
  have b1 : q % 256 * P ≤ 255 * P := Int.mul_le_mul_of_nonneg_right d1 (by omega)
  rw [ev, Int.mul_add_emod_self_left, Int.emod_eq_of_lt (by omega) (by omega)]
theorem ofNat_lt {x y : Int} (x0 : 0 ≤ x) (x1 : x ≤ 255) (y0 : 0 ≤ y) (y1 : y ≤ 255) : (UInt8.ofNat x.toNat < UInt8.ofNat y.toNat) ↔ x < y := by
  rw [UInt8.lt_iff_toNat_lt]
  simp
  omega
theorem ofNat_eq {x y : Int} (x0 : 0 ≤ x) (x1 : x ≤ 255) (y0 : 0 ≤ y) (y1 : y ≤ 255) : (UInt8.ofNat x.toNat = UInt8.ofNat y.toNat) ↔ x = y := by
  rw [← UInt8.toNat_inj]
  simp
  omega
/-- bytes that fit are told by their numbers -/
theorem bytesOf_inj : ∀ (L M : List Int), (∀ x ∈ L, 0 ≤ x ∧ x ≤ 255) → (∀ x ∈ M, 0 ≤ x ∧ x ≤ 255) → (bytesOf L = bytesOf M ↔ L = M)
  | [], [], _, _ => by simp
  | [], b :: M, _, _ => by simp [bytesOf]
  | a :: L, [], _, _ => by simp [bytesOf]
  | a :: L, b :: M, hL, hM => by
    have ih := bytesOf_inj L M (fun x hx => hL x (by simp [hx])) (fun x hx => hM x (by simp [hx]))
    have ha := hL a (by simp)
    have hb := hM b (by simp)
    have e := ofNat_eq ha.1 ha.2 hb.1 hb.2
    simp only [bytesOf, List.map_cons, List.cons.injEq] at ih ⊢
    rw [ih, e]
theorem fix_less (a b : Int) (a0 : 0 ≤ a) (b0 : 0 ≤ b) : ∀ k, Op.bytesLess (bytesOf (fixL a k)) (bytesOf (fixL b k)) = decide (a % 256 ^ k < b % 256 ^ k)
  | 0 => by simp [fixL, bytesOf, Op.bytesLess, Int.emod_one]
  | k + 1 => by
    have ih := fix_less a b a0 b0 k
    rw [fixL_succ, fixL_succ, mod_succ256 a a0, mod_succ256 b b0]
    have p : (0 : Int) < 256 ^ k := Int.pow_pos (by decide)
    have ra0 := Int.emod_nonneg a (show (256 : Int) ^ k ≠ 0 by omega)
    have ra1 := Int.emod_lt_of_pos a p
    have rb0 := Int.emod_nonneg b (show (256 : Int) ^ k ≠ 0 by omega)
    have rb1 := Int.emod_lt_of_pos b p
    have x0 : 0 ≤ a / 256 ^ k % 256 := by omega
    have x1 : a / 256 ^ k % 256 ≤ 255 := by omega
    have y0 : 0 ≤ b / 256 ^ k % 256 := by omega
    have y1 : b / 256 ^ k % 256 ≤ 255 := by omega
    generalize a / 256 ^ k % 256 = x at *
    generalize b / 256 ^ k % 256 = y at *
    have el := ofNat_lt x0 x1 y0 y1
    have ee := ofNat_eq x0 x1 y0 y1
    simp only [bytesOf, List.map_cons, Op.bytesLess] at ih ⊢
    rw [ih]
    generalize a % 256 ^ k = r at *
    generalize b % 256 ^ k = t at *
    generalize (256 : Int) ^ k = P at *
    rw [Bool.eq_iff_iff]
    simp only [Bool.or_eq_true, Bool.and_eq_true, decide_eq_true_eq, beq_iff_eq, el, ee]
    constructor
    · rintro (h | ⟨rfl, h⟩)
      · have : (x + 1) * P ≤ y * P := Int.mul_le_mul_of_nonneg_right (by omega) (by omega)
        rw [Int.add_mul] at this
        omega
      · omega
    · intro h
      rcases Int.lt_trichotomy x y with g | g | g
      · exact .inl g
      · subst g; exact .inr ⟨rfl, by omega⟩
      · have : (y + 1) * P ≤ x * P := Int.mul_le_mul_of_nonneg_right (by omega) (by omega)
        rw [Int.add_mul] at this
        omega
/-- two numbers of one width whose bytes are the same are the same -/
theorem fixL_inj (a b : Int) (a0 : 0 ≤ a) (b0 : 0 ≤ b) : ∀ k, fixL a k = fixL b k → a % 256 ^ k = b % 256 ^ k
  | 0, _ => by simp [Int.emod_one]
  | k + 1, h => by
    rw [fixL_succ, fixL_succ, List.cons.injEq] at h
    rw [mod_succ256 a a0, mod_succ256 b b0, h.1, fixL_inj a b a0 b0 k h.2]
theorem fix_eq (a b : Int) (a0 : 0 ≤ a) (b0 : 0 ≤ b) (k : Nat) (ha : a < 256 ^ k) (hb : b < 256 ^ k) : (bytesOf (fixL a k) == bytesOf (fixL b k)) = (a == b) := by
  rw [Bool.eq_iff_iff, beq_iff_eq, beq_iff_eq, bytesOf_inj _ _ (fixL_range a k) (fixL_range b k)]
  constructor
  · intro h
    have := fixL_inj a b a0 b0 k h
    rwa [Int.emod_eq_of_lt a0 ha, Int.emod_eq_of_lt b0 hb] at this
  · rintro rfl; rfl
theorem fix_lt (a b : Int) (a0 : 0 ≤ a) (b0 : 0 ≤ b) (k : Nat) (ha : a < 256 ^ k) (hb : b < 256 ^ k) : Op.bytesLess (bytesOf (fixL a k)) (bytesOf (fixL b k)) = decide (a < b) := by
  rw [fix_less a b a0 b0 k, Int.emod_eq_of_lt a0 ha, Int.emod_eq_of_lt b0 hb]
/-- the number that bytes are, the highest first -/
def val (L : List Int) : Int := L.foldl (fun v c => v * 256 + c) 0
/-- each is a byte -/
def IsBytes (L : List Int) : Prop := ∀ i, i < L.length → 0 ≤ L.getD i 0 ∧ L.getD i 0 ≤ 255
theorem val_snoc (L : List Int) (c : Int) : val (L ++ [c]) = val L * 256 + c := by simp [val]
theorem take_snoc (L : List Int) (i : Nat) (h : i < L.length) : L.take (i + 1) = L.take i ++ [L.getD i 0] := by
  rw [List.take_succ_eq_append_getElem h]; simp [List.getD, List.getElem?_eq_getElem h]
theorem val_step (L : List Int) (i : Nat) (h : i < L.length) : val (L.take (i + 1)) = val (L.take i) * 256 + L.getD i 0 := by
  rw [take_snoc L i h, val_snoc]
theorem val_bd (L : List Int) (hb : IsBytes L) : ∀ i, i ≤ L.length → 0 ≤ val (L.take i) ∧ val (L.take i) < 256 ^ i
  | 0, _ => by simp [val]
  | i + 1, h => by
    have ih := val_bd L hb i (by omega)
    have hc := hb i (by omega)
    rw [val_step L i (by omega), Int.pow_succ]
    omega
theorem val_fold (v : Int) (L : List Int) : L.foldl (fun v c => v * 256 + c) v = v * 256 ^ L.length + val L := by
  induction L generalizing v with
  | nil => simp [val]
  | cons c L ih =>
    have e : val (c :: L) = (0 * 256 + c) * 256 ^ L.length + val L := by
      show (c :: L).foldl (fun v c => v * 256 + c) 0 = _
      rw [List.foldl_cons, ih]
    rw [List.foldl_cons, ih, e, List.length_cons, Int.pow_succ, Int.zero_mul, Int.zero_add, Int.add_mul, Int.mul_assoc, Int.mul_comm 256, Int.add_assoc]
theorem val_fixL (v : Int) (h : 0 ≤ v) : ∀ k, val (fixL v k) = v % 256 ^ k
  | 0 => by simp [fixL, val, Int.emod_one]
  | k + 1 => by
    rw [fixL_succ, val, List.foldl_cons, val_fold, fixL_length, val_fixL v h k, mod_succ256 v h, Int.zero_mul, Int.zero_add]
theorem fixL_bytes (v : Int) (k : Nat) : IsBytes (fixL v k) := fun i hi => fixL_getD v k i (by rwa [fixL_length] at hi)
theorem bytes_mem {L : List Int} (h : IsBytes L) : ∀ x ∈ L, 0 ≤ x ∧ x ≤ 255 := by
  intro x hx
  obtain ⟨i, hi, rfl⟩ := List.getElem_of_mem hx
  have := h i hi
  simpa [List.getD, List.getElem?_eq_getElem hi] using this
theorem bytes_of_mem {L : List Int} (h : ∀ x ∈ L, 0 ≤ x ∧ x ≤ 255) : IsBytes L := by
  intro i hi
  have := h _ (List.getElem_mem hi)
  simpa [List.getD, List.getElem?_eq_getElem hi] using this
theorem bytes_app {A B : List Int} (ha : IsBytes A) (hb : IsBytes B) : IsBytes (A ++ B) :=
  bytes_of_mem fun x hx => (List.mem_append.1 hx).elim (bytes_mem ha x) (bytes_mem hb x)
end Go.Proofs.Ythaeidbnbgghkaa
namespace Go.Proofs.Ythaeidbnbgghkaa
set_option linter.unusedVariables false
/-- what is read by sevens: the bytes that are left, how many were read, the number so far -/
def rv : List Int → Nat → Int → Int × Int × Int
  | [], _, _ => (0, 0, 4)
  | c :: cs, i, v =>
    if i = 9 ∧ 1 < c then (0, 0, 5)
    else if 128 ≤ c then rv cs (i + 1) (v + c % 128 * 128 ^ i)
    else if c = 0 ∧ 0 < i then (0, 0, 5)
    else (v + c % 128 * 128 ^ i, (i : Int) + 1, 0)

theorem pow_le9 (k : Nat) (h : k ≤ 9) : (128 : Int) ^ k ≤ 9223372036854775808 := by
  rcases (by omega : k = 0 ∨ k = 1 ∨ k = 2 ∨ k = 3 ∨ k = 4 ∨ k = 5 ∨ k = 6 ∨ k = 7 ∨ k = 8 ∨ k = 9) with rfl | rfl | rfl | rfl | rfl | rfl | rfl | rfl | rfl | rfl <;> decide
theorem pow_lt9 (k : Nat) (h : k < 9) : (128 : Int) ^ k ≤ 72057594037927936 := by
  rcases (by omega : k = 0 ∨ k = 1 ∨ k = 2 ∨ k = 3 ∨ k = 4 ∨ k = 5 ∨ k = 6 ∨ k = 7 ∨ k = 8) with rfl | rfl | rfl | rfl | rfl | rfl | rfl | rfl | rfl <;> decide
/-- the sevens of v, the lowest first: n that go on, and the last one -/
def varL : Nat → Int → List Int
  | 0, v => [v]
  | n + 1, v => (v % 128 + 128) :: varL n (v / 128)
theorem varL_length : ∀ (n : Nat) (v : Int), (varL n v).length = n + 1
  | 0, v => rfl
  | n + 1, v => by simp [varL, varL_length n]
theorem div128 (v : Int) (h : 0 ≤ v) (i : Nat) : v / 128 / 128 ^ i = v / 128 ^ (i + 1) := by
  rw [Int.pow_succ, Int.mul_comm, Int.ediv_ediv_of_nonneg (by decide)]
theorem varL_getD : ∀ (n : Nat) (v : Int), 0 ≤ v → ∀ i, i ≤ n → (varL n v).getD i 0 = if i < n then v / 128 ^ i % 128 + 128 else v / 128 ^ i
  | 0, v, h, i, hi => by
    have : i = 0 := by omega
    subst this
    simp [varL]
  | n + 1, v, h, 0, hi => by simp [varL]
  | n + 1, v, h, i + 1, hi => by
    have ih := varL_getD n (v / 128) (by omega) i (by omega)
    rw [div128 v h] at ih
    simp only [varL, List.getD_cons_succ, ih]
    simp
/-- how many sevens a number needs: n + 1 -/
def Sev (v : Int) (n : Nat) : Prop := n ≤ 9 ∧ v < 128 ^ (n + 1) ∧ (n = 0 ∨ 128 ^ n ≤ v)
theorem sev_one (v : Int) (a b : Nat) (ha : Sev v a) (hb : Sev v b) : a = b := by
  obtain ⟨_, a2, a3⟩ := ha
  obtain ⟨_, b2, b3⟩ := hb
  have mono : ∀ i j : Nat, i ≤ j → (128 : Int) ^ i ≤ 128 ^ j := by
    intro i j hij
    have h := Nat.pow_le_pow_right (show 0 < 128 by decide) hij
    have e : ∀ k : Nat, ((128 ^ k : Nat) : Int) = (128 : Int) ^ k := fun k => by simp
    rw [← e i, ← e j]
    exact Int.ofNat_le.2 h
  rcases Nat.lt_trichotomy a b with h | h | h
  · have := mono (a + 1) b (by omega)
    rcases b3 with rfl | b3
    · omega
    · omega
  · exact h
  · have := mono (b + 1) a (by omega)
    rcases a3 with rfl | a3
    · omega
    · omega
theorem varL_bytes : ∀ (n : Nat) (v : Int), 0 ≤ v → v < 128 ^ (n + 1) → ∀ x ∈ varL n v, 0 ≤ x ∧ x ≤ 255
  | 0, v, h, h1, x, hx => by
    simp [varL] at hx
    subst hx
    have : (128 : Int) ^ (0 + 1) = 128 := rfl
    omega
  | n + 1, v, h, h1, x, hx => by
    simp only [varL, List.mem_cons] at hx
    rcases hx with rfl | hx
    · omega
    · refine varL_bytes n (v / 128) (by omega) ?_ x hx
      rw [Int.pow_succ] at h1
      omega
theorem pow_split (n : Nat) (v : Int) (i : Nat) : v % 128 * 128 ^ i + v / 128 * 128 ^ (i + 1) = v * 128 ^ i := by
  have e : v = v / 128 * 128 + v % 128 := by omega
  conv => rhs; rw [e]
  rw [Int.add_mul, Int.pow_succ, Int.mul_assoc, Int.mul_comm 128, Int.add_comm]
/-- what is written is read again, whatever stands behind it -/
theorem rv_varL (M : List Int) : ∀ (n : Nat) (v : Int) (i : Nat) (x : Int), 0 ≤ v → v < 128 ^ (n + 1) → i + n ≤ 9 → (v / 128 ^ n ≠ 0 ∨ i + n = 0) → (i + n = 9 → v / 128 ^ n ≤ 1) →
    rv (varL n v ++ M) i x = (x + v * 128 ^ i, ((i + n : Nat) : Int) + 1, 0)
  | 0, v, i, x, h0, h1, h9, hz, hl => by
    have h128 : v < 128 := h1
    have e0 : v / 128 ^ 0 = v := by simp
    rw [e0] at hz hl
    have ev : v % 128 = v := by omega
    show rv (v :: M) i x = _
    rw [rv, if_neg (by intro h; have := hl (by omega); omega), if_neg (by omega), if_neg (by omega), ev]
    rfl
  | n + 1, v, i, x, h0, h1, h9, hz, hl => by
    have hd := div128 v h0 n
    have ih := rv_varL M n (v / 128) (i + 1) (x + v % 128 * 128 ^ i) (by omega) (by rw [Int.pow_succ] at h1; omega) (by omega) (by rw [hd]; rcases hz with h | h; exact .inl h; omega) (by rw [hd]; intro h; exact hl (by omega))
    show rv ((v % 128 + 128) :: (varL n (v / 128) ++ M)) i x = _
    have em : (v % 128 + 128) % 128 = v % 128 := by omega
    rw [rv, if_neg (by omega), if_pos (by omega), em, ih, Int.add_assoc, pow_split 0]
    congr 2
    omega
theorem sev_last (v : Int) (n : Nat) (h0 : 0 ≤ v) (v1 : v ≤ 18446744073709551615) (h : Sev v n) : (v / 128 ^ n ≠ 0 ∨ 0 + n = 0) ∧ (0 + n = 9 → v / 128 ^ n ≤ 1) := by
  obtain ⟨h9, h1, h2⟩ := h
  have hp : (0 : Int) < 128 ^ n := Int.pow_pos (by decide)
  refine ⟨?_, ?_⟩
  · rcases h2 with rfl | h2
    · exact .inr rfl
    · left
      have := Int.ediv_le_ediv hp h2
      rw [Int.ediv_self (by omega)] at this
      omega
  · intro hn
    have : n = 9 := by omega
    subst this
    have e : (128 : Int) ^ 9 = 9223372036854775808 := by decide
    rw [e]
    omega
theorem rv_back (v : Int) (n : Nat) (h0 : 0 ≤ v) (v1 : v ≤ 18446744073709551615) (h : Sev v n) (M : List Int) : rv (varL n v ++ M) 0 0 = (v, (n : Int) + 1, 0) := by
  obtain ⟨a, b⟩ := sev_last v n h0 v1 h
  rw [rv_varL M n v 0 0 h0 h.2.1 (by have := h.1; omega) a b]
  simp
/-- with its last byte cut off it is not read -/
theorem rv_cut : ∀ (n : Nat) (v : Int) (i : Nat) (x : Int), 0 ≤ v → i + n ≤ 9 → rv ((varL n v).take n) i x = (0, 0, 4)
  | 0, v, i, x, h0, h9 => by simp [rv]
  | n + 1, v, i, x, h0, h9 => by
    have ih := rv_cut n (v / 128) (i + 1) (x + v % 128 * 128 ^ i) (by omega) (by omega)
    have em : (v % 128 + 128) % 128 = v % 128 := by omega
    show rv ((v % 128 + 128) :: (varL n (v / 128)).take n) i x = _
    rw [rv, if_neg (by omega), if_pos (by omega), em, ih]
/-- what is read: a refusal with zeros, or just the sevens of a number -/
theorem rv_only : ∀ (L : List Int) (i : Nat) (x : Int), (∀ c ∈ L, 0 ≤ c ∧ c ≤ 255) → i ≤ 9 →
    (rv L i x = (0, 0, 4) ∨ rv L i x = (0, 0, 5)) ∨ ∃ (n : Nat) (u : Int), rv L i x = (x + u * 128 ^ i, ((i + n : Nat) : Int) + 1, 0) ∧ L.take (n + 1) = varL n u ∧ n + 1 ≤ L.length ∧ i + n ≤ 9 ∧ 0 ≤ u ∧ u < 128 ^ (n + 1) ∧ (u / 128 ^ n ≠ 0 ∨ i + n = 0) ∧ (i + n = 9 → u / 128 ^ n ≤ 1)
  | [], i, x, hb, hi => .inl (.inl rfl)
  | c :: cs, i, x, hb, hi => by
    have hc := hb c (by simp)
    by_cases g1 : i = 9 ∧ 1 < c
    · exact .inl (.inr (by rw [rv, if_pos g1]))
    · by_cases g2 : 128 ≤ c
      · have hi9 : i < 9 := by omega
        have ih := rv_only cs (i + 1) (x + c % 128 * 128 ^ i) (fun d hd => hb d (by simp [hd])) (by omega)
        rw [rv, if_neg g1, if_pos g2]
        rcases ih with ih | ⟨n, u, e1, e2, e3, e4, u0, u1, u2, u3⟩
        · exact .inl ih
        · refine .inr ⟨n + 1, u * 128 + c % 128, ?_, ?_, by simp; omega, by omega, by omega, ?_, ?_, ?_⟩
          · rw [e1]
            have : x + c % 128 * 128 ^ i + u * 128 ^ (i + 1) = x + (u * 128 + c % 128) * 128 ^ i := by
              rw [Int.add_mul, Int.pow_succ, Int.mul_assoc, Int.mul_comm 128, Int.add_assoc, Int.add_comm (c % 128 * 128 ^ i)]
            rw [this]
            congr 2
            omega
          · rw [List.take_succ_cons, e2, varL]
            have a1 : (u * 128 + c % 128) % 128 + 128 = c := by omega
            have a2 : (u * 128 + c % 128) / 128 = u := by omega
            rw [a1, a2]
          · rw [Int.pow_succ]; omega
          · rw [← div128 _ (by omega), show (u * 128 + c % 128) / 128 = u by omega]
            rcases u2 with h | h
            · exact .inl h
            · omega
          · rw [← div128 _ (by omega), show (u * 128 + c % 128) / 128 = u by omega]
            intro h
            exact u3 (by omega)
      · by_cases g3 : c = 0 ∧ 0 < i
        · exact .inl (.inr (by rw [rv, if_neg g1, if_neg g2, if_pos g3]))
        · refine .inr ⟨0, c, ?_, rfl, by simp, by omega, hc.1, by have : (128 : Int) ^ (0 + 1) = 128 := rfl; omega, ?_, ?_⟩
          · rw [rv, if_neg g1, if_neg g2, if_neg g3, show c % 128 = c by omega]; rfl
          · simp; omega
          · simp; omega
/-- what was read at the first byte on is a number of 64 bits that needs just so many sevens -/
theorem sev_of (u : Int) (n : Nat) (h9 : 0 + n ≤ 9) (u0 : 0 ≤ u) (u1 : u < 128 ^ (n + 1)) (u2 : u / 128 ^ n ≠ 0 ∨ 0 + n = 0) (u3 : 0 + n = 9 → u / 128 ^ n ≤ 1) : Sev u n ∧ u ≤ 18446744073709551615 := by
  have hp : (0 : Int) < 128 ^ n := Int.pow_pos (by decide)
  refine ⟨⟨by omega, u1, ?_⟩, ?_⟩
  · rcases u2 with h | h
    · right
      rcases Int.lt_or_le u (128 ^ n) with g | g
      · exact absurd (Int.ediv_eq_zero_of_lt u0 g) h
      · exact g
    · left; omega
  · rcases (by omega : n < 9 ∨ n = 9) with h | rfl
    · have : (128 : Int) ^ (n + 1) ≤ 9223372036854775808 := pow_le9 (n + 1) (by omega)
      omega
    · have := u3 rfl
      have e : (128 : Int) ^ 9 = 9223372036854775808 := by decide
      rw [e] at this
      omega
end Go.Proofs.Ythaeidbnbgghkaa
namespace Go.Proofs.Ythaeidbnbgghkaa
open Go.Lib
set_option linter.unusedVariables false
/-- an entry: path, kind, mode, body -/
abbrev En := Tx × Int × Int × Tx
def En.p (x : En) : Tx := x.1
def En.k (x : En) : Int := x.2.1
def En.m (x : En) : Int := x.2.2.1
def En.b (x : En) : Tx := x.2.2.2
/-- the root, with no kind -/
def noE : En := ([], 0, 0, [])
/-- what is wrong with an entry, whatever stands ahead -/
def fo (x : En) : Int :=
  if x.p = [] ∨ isP x.p = false then 12
  else if x.k < 1 ∨ 4 < x.k then 13
  else if x.m < 0 ∨ 511 < x.m ∨ (x.k = 3 ∧ x.m ≠ 0) then 2
  else if x.k ≠ 1 ∧ x.b ≠ [] then 5
  else if 256 < x.b.length then 3 else 0
/-- a file or a whiteout -/
def shutB (x : En) : Bool := decide (x.k = 1) || decide (x.k = 3)
/-- what is wrong with an entry's place -/
def fb (a x : En) : Int := if les a.p x.p = false then 14 else if (shutB a && inn a.p x.p) = true then 11 else 0
def ck : En → Nat → List En → Nat × Int
  | _, _, [] => (0, 0)
  | a, i, x :: r => if fo x ≠ 0 then (i, fo x) else if fb a x ≠ 0 then (i, fb a x) else ck x (i + 1) r
def chk (l : List En) : Nat × Int := if 64 < l.length then (0, 3) else ck noE 0 l
def sz : List En → Nat
  | [] => 0
  | x :: r => x.p.length + x.b.length + sz r
theorem fb_iff (a x : En) : fb a x = 0 ↔ les a.p x.p = true ∧ (shutB a && inn a.p x.p) = false := by
  unfold fb
  split
  · rename_i h; rw [h]; simp
  · rename_i h
    split
    · rename_i h2; simp [h2]
    · rename_i h2
      constructor
      · intro _; exact ⟨by simpa using h, by simpa using h2⟩
      · intro _; rfl
theorem les_asym {p q : Tx} (h : les p q = true) : les q p = false := by
  rw [Bool.eq_false_iff]
  intro h2
  have := les_trans p q p h h2
  rw [les_irr] at this
  simp at this
theorem fb_trans {a b c : En} (h1 : fb a b = 0) (h2 : fb b c = 0) : fb a c = 0 := by
  rw [fb_iff] at *
  refine ⟨les_trans _ _ _ h1.1 h2.1, ?_⟩
  rw [Bool.and_eq_false_iff]
  rcases Bool.and_eq_false_iff.1 h1.2 with h | h
  · exact .inl h
  · right
    rw [Bool.eq_false_iff]
    intro hc
    rw [near a.p b.p c.p hc (les_asym h1.1) h2.1] at h
    simp at h
theorem les_nil {p : Tx} (h : p ≠ []) : les [] p = true := by
  rw [← les_pcs0]
  unfold pcs0
  rw [if_pos rfl, if_neg h]
  cases hp : pcs p with
  | nil => exact absurd hp (pcs_ne p)
  | cons x xs => rfl
theorem fo_path {x : En} (h : fo x = 0) : x.p ≠ [] ∧ isP x.p = true := by
  unfold fo at h
  split at h
  · simp at h
  · rename_i h2
    constructor
    · exact fun e => h2 (.inl e)
    · cases hp : isP x.p with
      | true => rfl
      | false => exact absurd (.inr hp) h2
theorem fo_all {x : En} (h : fo x = 0) : (x.p ≠ [] ∧ isP x.p = true) ∧ (1 ≤ x.k ∧ x.k ≤ 4) ∧ (0 ≤ x.m ∧ x.m ≤ 511) ∧ (x.k ≠ 1 → x.b = []) ∧ x.b.length ≤ 256 := by
  have h0 := fo_path h
  unfold fo at h
  split at h
  · simp at h
  · split at h
    · simp at h
    · split at h
      · simp at h
      · split at h
        · simp at h
        · split at h
          · simp at h
          · rename_i h1 h2 h3 h4 h5
            refine ⟨h0, by omega, by omega, fun hk => ?_, by omega⟩
            exact Classical.byContradiction fun hb => h4 ⟨hk, hb⟩
theorem fb_root {x : En} (h : fo x = 0) : fb noE x = 0 := (fb_iff _ _).2 ⟨les_nil (fo_path h).1, rfl⟩
theorem ck_ok : ∀ (l : List En) (a : En) (i : Nat), (ck a i l).2 = 0 → (∀ x ∈ l, fo x = 0) ∧ (a :: l).Pairwise (fun y x => fb y x = 0)
  | [], a, i, _ => ⟨by simp, by simp⟩
  | x :: r, a, i, h => by
    unfold ck at h
    split at h
    · rename_i h1; exact absurd h h1
    · split at h
      · rename_i h1; exact absurd h h1
      · rename_i h1 h2
        have h1' : fo x = 0 := Classical.byContradiction h1
        have h2' : fb a x = 0 := Classical.byContradiction h2
        obtain ⟨i1, i2⟩ := ck_ok r x (i + 1) h
        refine ⟨?_, ?_⟩
        · intro y hy
          rcases List.mem_cons.1 hy with rfl | hy
          · exact h1'
          · exact i1 y hy
        · refine List.pairwise_cons.2 ⟨?_, i2⟩
          intro y hy
          rcases List.mem_cons.1 hy with rfl | hy
          · exact h2'
          · exact fb_trans h2' ((List.pairwise_cons.1 i2).1 y hy)
theorem ck_of : ∀ (l : List En) (a : En) (i : Nat), (∀ x ∈ l, fo x = 0) → (a :: l).Pairwise (fun y x => fb y x = 0) → ck a i l = (0, 0)
  | [], a, i, _, _ => rfl
  | x :: r, a, i, h1, h2 => by
    obtain ⟨g1, g2⟩ := List.pairwise_cons.1 h2
    unfold ck
    rw [if_neg (by rw [h1 x (by simp)]; simp), if_neg (by rw [g1 x (by simp)]; simp)]
    exact ck_of r x (i + 1) (fun y hy => h1 y (by simp [hy])) g2
/-- the layer may be -/
theorem chk_iff (l : List En) : (chk l).2 = 0 ↔ l.length ≤ 64 ∧ (∀ x ∈ l, fo x = 0) ∧ l.Pairwise (fun y x => fb y x = 0) := by
  unfold chk
  split
  · rename_i h; constructor
    · intro h2; simp at h2
    · intro h2; omega
  · rename_i h; constructor
    · intro h2
      obtain ⟨g1, g2⟩ := ck_ok l noE 0 h2
      exact ⟨by omega, g1, (List.pairwise_cons.1 g2).2⟩
    · rintro ⟨_, g1, g2⟩
      rw [ck_of l noE 0 g1 (List.pairwise_cons.2 ⟨fun x hx => fb_root (g1 x hx), g2⟩)]
theorem chk_zero (l : List En) (h : (chk l).2 = 0) : chk l = (0, 0) := by
  obtain ⟨h1, h2, h3⟩ := (chk_iff l).1 h
  unfold chk
  rw [if_neg (by omega)]
  exact ck_of l noE 0 h2 (List.pairwise_cons.2 ⟨fun x hx => fb_root (h2 x hx), h3⟩)
theorem chk_sub {l m : List En} (h : (chk l).2 = 0) (hs : m.Sublist l) : chk m = (0, 0) := by
  obtain ⟨h1, h2, h3⟩ := (chk_iff l).1 h
  exact chk_zero m ((chk_iff m).2 ⟨Nat.le_trans hs.length_le h1, fun x hx => h2 x (hs.mem hx), h3.sublist hs⟩)
/-- the numbers of a text's bytes -/
def nm (t : Tx) : List Int := t.map fun b => (b.toNat : Int)
theorem nm_length (t : Tx) : (nm t).length = t.length := by simp [nm]
theorem nm_bytes (t : Tx) : IsBytes (nm t) := bytes_of_mem fun x hx => by
  simp only [nm, List.mem_map] at hx
  obtain ⟨b, _, rfl⟩ := hx
  have := b.toNat_lt
  omega
theorem bytes_nm (t : Tx) : bytesOf (nm t) = t := by
  induction t with
  | nil => rfl
  | cons b t ih =>
    simp only [nm, List.map_cons, bytesOf] at ih ⊢
    simp [ih]
theorem nm_bytesOf (L : List Int) (h : IsBytes L) : nm (bytesOf L) = L := by
  have h2 := bytes_mem h
  clear h
  induction L with
  | nil => rfl
  | cons x L ih =>
    have hx := h2 x (by simp)
    have := ih (fun y hy => h2 y (by simp [hy]))
    simp only [nm, bytesOf, List.map_cons, List.map_map] at this ⊢
    rw [this]
    congr 1
    simp
    omega
/-- a number below 16384 by sevens -/
def vr (v : Nat) : List Int := if v < 128 then [(v : Int)] else [(v : Int) % 128 + 128, (v : Int) / 128]
theorem vr_sev (v n : Nat) (hv : v < 16384) (h : Sev (v : Int) n) : varL n v = vr v := by
  unfold vr
  split
  · rename_i h1
    have := sev_one v n 0 h ⟨by omega, by simp; omega, .inl rfl⟩
    subst this
    rfl
  · rename_i h1
    have := sev_one v n 1 h ⟨by omega, by simp; omega, .inr (by simp; omega)⟩
    subst this
    rfl
theorem vr_isSev (v : Nat) (hv : v < 16384) : ∃ n, Sev (v : Int) n ∧ varL n v = vr v ∧ n ≤ 1 := by
  by_cases h : v < 128
  · have hs : Sev (v : Int) 0 := ⟨by omega, by simp; omega, .inl rfl⟩
    exact ⟨0, hs, vr_sev v 0 hv hs, by omega⟩
  · have hs : Sev (v : Int) 1 := ⟨by omega, by simp; omega, .inr (by simp; omega)⟩
    exact ⟨1, hs, vr_sev v 1 hv hs, by omega⟩
theorem vr_len (v : Nat) : 1 ≤ (vr v).length ∧ (vr v).length ≤ 2 := by unfold vr; split <;> simp
theorem vr_bytes (v : Nat) (h : v < 16384) : IsBytes (vr v) := bytes_of_mem fun x hx => by
  unfold vr at hx
  split at hx <;> simp at hx <;> omega
/-- the bytes of an entry, of a layer -/
def ee (x : En) : List Int := [x.k, x.m / 256, x.m % 256] ++ (vr x.p.length ++ nm x.p) ++ (if x.k = 1 then vr x.b.length ++ nm x.b else [])
theorem ee_is (p : Tx) (k m : Int) (b : Tx) : ee (p, k, m, b) = [k, m / 256, m % 256] ++ (vr p.length ++ nm p) ++ (if k = 1 then vr b.length ++ nm b else []) := rfl
def ees : List En → List Int
  | [] => []
  | x :: r => ee x ++ ees r
theorem ees_snoc (l : List En) (x : En) : ees (l ++ [x]) = ees l ++ ee x := by
  induction l with
  | nil => simp [ees]
  | cons y l ih => simp [ees, ih]
theorem ees_app (l m : List En) : ees (l ++ m) = ees l ++ ees m := by
  induction l with
  | nil => simp [ees]
  | cons y l ih => simp [ees, ih]
def enc (l : List En) : List Int := [86, 76, 1] ++ vr l.length ++ ees l
/-- a number, a text, an entry, entries, read off the front -/
def rn (L : List Int) : Option (Int × List Int) := if (rv L 0 0).2.2 = 0 then some ((rv L 0 0).1, L.drop (rv L 0 0).2.1.toNat) else none
def rt (L : List Int) : Option (Tx × List Int) := match rn L with
  | none => none
  | some (v, r) => if r.length < v.toNat then none else some (bytesOf (r.take v.toNat), r.drop v.toNat)
def re (L : List Int) : Option (En × List Int) := match L with
  | k :: m1 :: m2 :: r => match rt r with
    | none => none
    | some (p, r) => if k = 1 then (match rt r with
        | none => none
        | some (b, r) => some ((p, k, 256 * m1 + m2, b), r)) else some ((p, k, 256 * m1 + m2, []), r)
  | _ => none
def rl : Nat → List En → List Int → Option (List En × List Int)
  | 0, acc, L => some (acc, L)
  | n + 1, acc, L => match re L with
    | none => none
    | some (x, r) => rl n (acc ++ [x]) r
/-- a count, and so many entries -/
def rc (L : List Int) : Option (List En × List Int) := match rn L with
  | none => none
  | some (c, r) => if 64 < c then none else rl c.toNat [] r
/-- Decode's answer -/
def dec (L : List Int) : Option (List En) := if L.take 3 = [86, 76, 1] then (match rc (L.drop 3) with
  | none => none
  | some (l, r) => if (chk l).2 = 0 ∧ r = [] then some l else none) else none
theorem rn_vr (v : Nat) (hv : v < 16384) (M : List Int) : rn (vr v ++ M) = some ((v : Int), M) := by
  obtain ⟨n, h1, h2, h3⟩ := vr_isSev v hv
  have := rv_back v n (by omega) (by omega) h1 M
  rw [h2] at this
  unfold rn
  rw [this]
  have hl : (vr v).length = n + 1 := by rw [← h2, varL_length]
  simp only [if_true]
  rw [show (((n : Int) + 1).toNat) = (vr v).length by omega, List.drop_left]
theorem rt_text (t : Tx) (ht : t.length < 16384) (M : List Int) : rt (vr t.length ++ nm t ++ M) = some (t, M) := by
  unfold rt
  rw [List.append_assoc, rn_vr _ ht]
  simp only
  rw [if_neg (by simp [nm_length])]
  have e : ((t.length : Nat) : Int).toNat = (nm t).length := by rw [nm_length]; omega
  rw [e, List.take_left, List.drop_left, bytes_nm]
theorem re_ee (x : En) (hx : fo x = 0) (hp : x.p.length < 16384) (M : List Int) : re (ee x ++ M) = some (x, M) := by
  obtain ⟨_, ⟨k1, k2⟩, ⟨m1, m2⟩, hb, hl⟩ := fo_all hx
  obtain ⟨p, k, m, b⟩ := x
  simp only [En.p, En.k, En.m, En.b] at *
  rw [ee_is]
  unfold re
  have em : 256 * (m / 256) + m % 256 = m := by omega
  by_cases hk : k = 1
  · subst hk
    simp only [if_true, List.cons_append, List.nil_append]
    have h1 := rt_text p hp ((vr b.length ++ nm b) ++ M)
    have h2 := rt_text b (by omega) M
    have e1 : (vr p.length ++ nm p ++ (vr b.length ++ nm b) ++ M) = vr p.length ++ nm p ++ (vr b.length ++ nm b ++ M) := by simp
    rw [e1, h1]
    simp only
    rw [h2]
    simp only
    rw [em]
  · rw [if_neg hk, List.append_nil]
    simp only [List.cons_append, List.nil_append]
    rw [rt_text p hp M]
    simp only
    rw [if_neg hk, em, hb hk]
theorem rl_ees (l : List En) (acc : List En) (h : ∀ x ∈ l, fo x = 0) (hp : ∀ x ∈ l, x.p.length < 16384) (M : List Int) : rl l.length acc (ees l ++ M) = some (acc ++ l, M) := by
  induction l generalizing acc with
  | nil => simp [rl, ees]
  | cons x l ih =>
    simp only [List.length_cons, rl, ees, List.append_assoc]
    rw [re_ee x (h x (by simp)) (hp x (by simp))]
    simp only
    rw [ih (acc ++ [x]) (fun y hy => h y (by simp [hy])) (fun y hy => hp y (by simp [hy]))]
    simp
theorem rc_enc (l : List En) (h64 : l.length ≤ 64) (h : ∀ x ∈ l, fo x = 0) (hp : ∀ x ∈ l, x.p.length < 16384) (M : List Int) : rc (vr l.length ++ ees l ++ M) = some (l, M) := by
  unfold rc
  rw [List.append_assoc, rn_vr _ (by omega)]
  simp only
  rw [if_neg (by omega), Int.toNat_natCast, rl_ees l [] h hp]
  rfl
/-- what is read was written so -/
theorem rn_some {L : List Int} (hb : IsBytes L) {v : Int} {r : List Int} (h : rn L = some (v, r)) : 0 ≤ v ∧ v ≤ 18446744073709551615 ∧ ∃ n, Sev v n ∧ L = varL n v ++ r := by
  unfold rn at h
  split at h
  · rename_i h0
    simp only [Option.some.injEq, Prod.mk.injEq] at h
    obtain ⟨rfl, rfl⟩ := h
    rcases rv_only L 0 0 (bytes_mem hb) (by omega) with (h1 | h1) | ⟨n, u, e1, e2, e3, e4, u0, u1, u2, u3⟩
    · rw [h1] at h0; simp at h0
    · rw [h1] at h0; simp at h0
    · obtain ⟨s1, s2⟩ := sev_of u n e4 u0 u1 u2 u3
      rw [e1]
      simp only [Int.pow_zero, Int.mul_one, Int.zero_add]
      refine ⟨u0, s2, n, s1, ?_⟩
      rw [show (((0 + n : Nat) : Int) + 1).toNat = n + 1 by omega, ← e2, List.take_append_drop]
  · simp at h
theorem bytes_drop {L : List Int} (h : IsBytes L) (n : Nat) : IsBytes (L.drop n) := bytes_of_mem fun x hx => bytes_mem h x (List.mem_of_mem_drop hx)
theorem bytes_take {L : List Int} (h : IsBytes L) (n : Nat) : IsBytes (L.take n) := bytes_of_mem fun x hx => bytes_mem h x (List.mem_of_mem_take hx)
theorem bytes_right {A B : List Int} (h : IsBytes (A ++ B)) : IsBytes B := bytes_of_mem fun x hx => bytes_mem h x (by simp [hx])
theorem rt_some {L : List Int} (hb : IsBytes L) {t : Tx} {r : List Int} (h : rt L = some (t, r)) : IsBytes r ∧ (t.length < 16384 → L = vr t.length ++ nm t ++ r) ∧ t.length ≤ L.length ∧ r.length ≤ L.length := by
  unfold rt at h
  split at h
  · simp at h
  · rename_i v s hn
    obtain ⟨v0, v1, n, hs, hL⟩ := rn_some hb hn
    have hbs : IsBytes s := by rw [hL] at hb; exact bytes_right hb
    split at h
    · simp at h
    · rename_i hle
      simp only [Option.some.injEq, Prod.mk.injEq] at h
      obtain ⟨rfl, rfl⟩ := h
      have hlen : (bytesOf (s.take v.toNat)).length = v.toNat := by simp [bytesOf]; omega
      have hsl : s.length ≤ L.length := by rw [hL]; simp
      refine ⟨bytes_drop hbs _, fun ht => ?_, by omega, by rw [List.length_drop]; omega⟩
      rw [hlen] at ht ⊢
      have e : varL n v = vr v.toNat := by
        have := vr_sev v.toNat n ht (by rw [Int.toNat_of_nonneg v0]; exact hs)
        rwa [Int.toNat_of_nonneg v0] at this
      rw [nm_bytesOf _ (bytes_take hbs _), List.append_assoc, List.take_append_drop, ← e]
      exact hL
theorem isP_short {p : Tx} (h : isP p = true) : p.length < 16384 := by
  have h1 := (isP_iff p).1 h
  rcases cln_cases p with ⟨l, e, h2, h3, _⟩ | e | e
  · rw [h1] at e
    rw [(Prod.mk.inj e).1]
    have : ∀ (l : List Tx), (∀ p ∈ l, p.length ≤ 24) → (jn l).length ≤ 25 * l.length := by
      intro l
      induction l with
      | nil => simp [jn_nil]
      | cons x l ih =>
        intro hl
        have hx := hl x (by simp)
        have := ih (fun p hp => hl p (by simp [hp]))
        cases l with
        | nil => rw [jn_one]; simp; omega
        | cons y l => rw [jn_cons]; simp at this ⊢; omega
    have := this l (fun p hp => ((isPart_iff p).1 (h2 p hp)).2.2.1)
    omega
  · rw [h1] at e; simp at e
  · rw [h1] at e; simp at e
theorem re_some {L : List Int} (hb : IsBytes L) {x : En} {r : List Int} (h : re L = some (x, r)) : IsBytes r ∧ (fo x = 0 → L = ee x ++ r) := by
  unfold re at h
  split at h
  · rename_i k m1 m2 s
    have b0 := hb 0 (by simp)
    have b1 := hb 1 (by simp)
    have b2 := hb 2 (by simp)
    simp at b0 b1 b2
    have hbs : IsBytes s := by
      have := bytes_drop hb 3
      simpa using this
    split at h
    · simp at h
    · rename_i p s2 hp
      obtain ⟨q1, q2, _⟩ := rt_some hbs hp
      split at h
      · rename_i hk
        split at h
        · simp at h
        · rename_i b s3 hb3
          obtain ⟨q3, q4, _⟩ := rt_some q1 hb3
          simp only [Option.some.injEq, Prod.mk.injEq] at h
          obtain ⟨rfl, rfl⟩ := h
          refine ⟨q3, fun hf => ?_⟩
          obtain ⟨⟨_, f1⟩, f2, f3, f4, f5⟩ := fo_all hf
          have f1' := isP_short f1
          simp only [En.p, En.k, En.m, En.b] at *
          rw [ee_is, if_pos hk, q2 (by omega), q4 (by omega), show (256 * m1 + m2) / 256 = m1 by omega, show (256 * m1 + m2) % 256 = m2 by omega]
          simp
      · rename_i hk
        simp only [Option.some.injEq, Prod.mk.injEq] at h
        obtain ⟨rfl, rfl⟩ := h
        refine ⟨q1, fun hf => ?_⟩
        obtain ⟨⟨_, f1⟩, f2, f3, f4, f5⟩ := fo_all hf
        have f1' := isP_short f1
        simp only [En.p, En.k, En.m, En.b] at *
        rw [ee_is, if_neg hk, q2 (by omega), show (256 * m1 + m2) / 256 = m1 by omega, show (256 * m1 + m2) % 256 = m2 by omega]
        simp
  · simp at h
theorem rl_some : ∀ (n : Nat) (acc : List En) (L : List Int), IsBytes L → ∀ (l : List En) (r : List Int), rl n acc L = some (l, r) → IsBytes r ∧ ∃ m, l = acc ++ m ∧ m.length = n ∧ ((∀ x ∈ m, fo x = 0) → L = ees m ++ r)
  | 0, acc, L, hb, l, r, h => by
    simp only [rl, Option.some.injEq, Prod.mk.injEq] at h
    obtain ⟨rfl, rfl⟩ := h
    exact ⟨hb, [], by simp, rfl, fun _ => by simp [ees]⟩
  | n + 1, acc, L, hb, l, r, h => by
    unfold rl at h
    split at h
    · simp at h
    · rename_i x s hx
      obtain ⟨q1, q2⟩ := re_some hb hx
      obtain ⟨q3, m, e1, e2, e3⟩ := rl_some n (acc ++ [x]) s q1 l r h
      refine ⟨q3, x :: m, by rw [e1]; simp, by simp [e2], fun hf => ?_⟩
      rw [q2 (hf x (by simp)), e3 (fun y hy => hf y (by simp [hy]))]
      simp [ees]
theorem rc_some {L : List Int} (hb : IsBytes L) {l : List En} {r : List Int} (h : rc L = some (l, r)) : l.length ≤ 64 ∧ ((∀ x ∈ l, fo x = 0) → L = vr l.length ++ ees l ++ r) := by
  unfold rc at h
  split at h
  · simp at h
  · rename_i c s hn
    obtain ⟨v0, v1, n, hs, hL⟩ := rn_some hb hn
    have hbs : IsBytes s := by rw [hL] at hb; exact bytes_right hb
    split at h
    · simp at h
    · rename_i h64
      obtain ⟨q3, m, e1, e2, e3⟩ := rl_some c.toNat [] s hbs l r h
      simp only [List.nil_append] at e1
      subst e1
      refine ⟨by omega, fun hf => ?_⟩
      rw [hL, e3 hf, e2]
      have e : varL n c = vr c.toNat := by
        have := vr_sev c.toNat n (by omega) (by rw [Int.toNat_of_nonneg v0]; exact hs)
        rwa [Int.toNat_of_nonneg v0] at this
      rw [e]
      simp
theorem enc_take (l : List En) (M : List Int) : (enc l ++ M).take 3 = [86, 76, 1] := by simp [enc]
theorem enc_drop (l : List En) (M : List Int) : (enc l ++ M).drop 3 = vr l.length ++ ees l ++ M := by simp [enc]
theorem rc_of_enc {l : List En} (h : (chk l).2 = 0) (M : List Int) : rc ((enc l ++ M).drop 3) = some (l, M) := by
  obtain ⟨h1, h2, h3⟩ := (chk_iff l).1 h
  rw [enc_drop]
  exact rc_enc l h1 h2 (fun x hx => isP_short (fo_path (h2 x hx)).2) M
theorem dec_enc {l : List En} (h : (chk l).2 = 0) : dec (enc l) = some l := by
  have h1 := rc_of_enc h []
  rw [List.append_nil] at h1
  have h2 := enc_take l []
  rw [List.append_nil] at h2
  unfold dec
  rw [if_pos h2, h1]
  simp [h]
theorem dec_some {L : List Int} (hb : IsBytes L) {l : List En} (h : dec L = some l) : (chk l).2 = 0 ∧ enc l = L := by
  unfold dec at h
  split at h
  · rename_i h3
    split at h
    · simp at h
    · rename_i m r hr
      split at h
      · rename_i hc
        simp only [Option.some.injEq] at h
        subst h
        obtain ⟨q1, q2⟩ := rc_some (bytes_drop hb 3) hr
        refine ⟨hc.1, ?_⟩
        have := q2 ((chk_iff m).1 hc.1).2.1
        rw [hc.2, List.append_nil] at this
        rw [← List.take_append_drop 3 L, h3, this]
        simp [enc]
      · simp at h
  · simp at h
theorem dec_more {l : List En} (h : (chk l).2 = 0) (M : List Int) (hM : M ≠ []) : dec (enc l ++ M) = none := by
  unfold dec
  rw [if_pos (enc_take l M), rc_of_enc h M]
  simp only
  rw [if_neg (by simp [hM])]
theorem vr_bytes' (l : List En) (h : (chk l).2 = 0) : IsBytes (enc l) := by
  obtain ⟨h1, h2, h3⟩ := (chk_iff l).1 h
  have hee : ∀ x ∈ l, IsBytes (ee x) := by
    intro x hx
    obtain ⟨⟨_, f1⟩, f2, f3, f4, f5⟩ := fo_all (h2 x hx)
    have f1' := isP_short f1
    unfold ee
    refine bytes_app (bytes_app (bytes_of_mem fun y hy => ?_) (bytes_app (vr_bytes _ f1') (nm_bytes _))) ?_
    · simp at hy; omega
    · split
      · exact bytes_app (vr_bytes _ (by omega)) (nm_bytes _)
      · exact fun i hi => by simp at hi
  have hes : IsBytes (ees l) := by
    clear h h1 h2 h3
    induction l with
    | nil => exact fun i hi => by simp [ees] at hi
    | cons x l ih => exact bytes_app (hee x (by simp)) (ih (fun y hy => hee y (by simp [hy])))
  unfold enc
  refine bytes_app (bytes_app (bytes_of_mem fun y hy => ?_) (vr_bytes _ (by omega))) hes
  simp at hy; omega
theorem dec_cut {l : List En} (h : (chk l).2 = 0) (n : Nat) (hn : n < (enc l).length) : dec ((enc l).take n) = none := by
  cases hd : dec ((enc l).take n) with
  | none => rfl
  | some m =>
    exfalso
    obtain ⟨c1, c2⟩ := dec_some (bytes_take (vr_bytes' l h) n) hd
    have h1 := rc_of_enc c1 ((enc l).drop n)
    rw [c2, List.take_append_drop] at h1
    have h2 := rc_of_enc h []
    rw [List.append_nil, h1] at h2
    simp only [Option.some.injEq, Prod.mk.injEq] at h2
    have := congrArg List.length h2.2
    rw [List.length_drop] at this
    simp at this
    omega
/-- by the document: what would be read, held against its own bytes -/
theorem dec_ref (L : List Int) (hb : IsBytes L) (h3 : 3 ≤ L.length) (g : List En) (hg : g = (match rc (L.drop 3) with | none => [] | some (l, _) => l)) :
    dec L = if (chk g).2 = 0 ∧ enc g = L then some g else none := by
  split
  · rename_i h; rw [← h.2]; exact dec_enc h.1
  · rename_i h
    cases hd : dec L with
    | none => rfl
    | some m =>
      exfalso
      obtain ⟨c1, c2⟩ := dec_some hb hd
      have h1 := rc_of_enc c1 []
      rw [List.append_nil, c2] at h1
      rw [h1] at hg
      simp only at hg
      subst hg
      exact h ⟨c1, c2⟩
end Go.Proofs.Ythaeidbnbgghkaa
