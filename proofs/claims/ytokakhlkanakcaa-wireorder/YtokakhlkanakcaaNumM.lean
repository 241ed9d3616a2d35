/- Plain facts on a number's bytes, the highest first: no Go in sight. -/
import Derived.Lib.Bytes
import GoSem.Op.String
namespace Go.Proofs.Ytokakhlkanakcaa
open Go.Lib
set_option linter.unusedVariables false

/-- the bytes of v in a width of k, the highest first -/
def fixL (v : Int) (k : Nat) : List Int := (List.range k).map fun j => v / 256 ^ (k - 1 - j) % 256
theorem fixL_length (v : Int) (k : Nat) : (fixL v k).length = k := by simp [fixL]
theorem fixL_succ (v : Int) (k : Nat) : fixL v (k + 1) = v / 256 ^ k % 256 :: fixL v k := by
  unfold fixL
  rw [List.range_succ_eq_map, List.map_cons, List.map_map]
  congr 1
  apply List.map_congr_left
  intro j _
  simp only [Function.comp]
  rw [show k + 1 - 1 - Nat.succ j = k - 1 - j by omega]
theorem fixL_range (v : Int) (k : Nat) : ∀ x ∈ fixL v k, 0 ≤ x ∧ x ≤ 255 := by
  intro x hx
  simp only [fixL, List.mem_map] at hx
  obtain ⟨j, _, rfl⟩ := hx
  omega
theorem fixL_getD (v : Int) (k : Nat) : ∀ i, i < k → 0 ≤ (fixL v k).getD i 0 ∧ (fixL v k).getD i 0 ≤ 255 := by
  intro i hi
  have h : i < (fixL v k).length := by rw [fixL_length]; exact hi
  have := fixL_range v k _ (List.getElem_mem h)
  simpa [List.getD, List.getElem?_eq_getElem h] using this
theorem mod_succ256 (v : Int) (h : 0 ≤ v) (k : Nat) : v % 256 ^ (k + 1) = v / 256 ^ k % 256 * 256 ^ k + v % 256 ^ k := by
  have p : (0 : Int) < 256 ^ k := Int.pow_pos (by decide)
  rw [Int.pow_succ]
  have e1 := Int.mul_ediv_add_emod v (256 ^ k)
  have e2 := Int.mul_ediv_add_emod (v / 256 ^ k) 256
  have r0 := Int.emod_nonneg v (show (256 : Int) ^ k ≠ 0 by omega)
  have r1 := Int.emod_lt_of_pos v p
  generalize v % 256 ^ k = r at *
  generalize v / 256 ^ k = q at *
  generalize hP : (256 : Int) ^ k = P at *
  have d0 : 0 ≤ q % 256 := by omega
  have d1 : q % 256 ≤ 255 := by omega
  have ev : v = P * 256 * (q / 256) + (q % 256 * P + r) := by
    rw [← e1]
    conv => lhs; rw [← e2]
    rw [Int.mul_add, Int.mul_assoc, Int.mul_comm (q % 256) P, Int.add_assoc]
  have b0 : 0 ≤ q % 256 * P := Int.mul_nonneg d0 (by omega)
  have b1 : q % 256 * P ≤ 255 * P := Int.mul_le_mul_of_nonneg_right d1 (by omega)
  rw [ev, Int.mul_add_emod_self_left, Int.emod_eq_of_lt (by omega) (by omega)]
theorem ofNat_lt {x y : Int} (x0 : 0 ≤ x) (x1 : x ≤ 255) (y0 : 0 ≤ y) (y1 : y ≤ 255) : (UInt8.ofNat x.toNat < UInt8.ofNat y.toNat) ↔ x < y := by
  rw [UInt8.lt_iff_toNat_lt]
  simp
  omega
theorem ofNat_eq {x y : Int} (x0 : 0 ≤ x) (x1 : x ≤ 255) (y0 : 0 ≤ y) (y1 : y ≤ 255) : (UInt8.ofNat x.toNat = UInt8.ofNat y.toNat) ↔ x = y := by
  rw [← UInt8.toNat_inj]
  simp
  omega
/-- bytes that fit are told by their numbers -/
theorem bytesOf_inj : ∀ (L M : List Int), (∀ x ∈ L, 0 ≤ x ∧ x ≤ 255) → (∀ x ∈ M, 0 ≤ x ∧ x ≤ 255) → (bytesOf L = bytesOf M ↔ L = M)
  | [], [], _, _ => by simp
  | [], b :: M, _, _ => by simp [bytesOf]
  | a :: L, [], _, _ => by simp [bytesOf]
  | a :: L, b :: M, hL, hM => by
    have ih := bytesOf_inj L M (fun x hx => hL x (by simp [hx])) (fun x hx => hM x (by simp [hx]))
    have ha := hL a (by simp)
    have hb := hM b (by simp)
    have e := ofNat_eq ha.1 ha.2 hb.1 hb.2
    simp only [bytesOf, List.map_cons, List.cons.injEq] at ih ⊢
    rw [ih, e]
theorem fix_less (a b : Int) (a0 : 0 ≤ a) (b0 : 0 ≤ b) : ∀ k, Op.bytesLess (bytesOf (fixL a k)) (bytesOf (fixL b k)) = decide (a % 256 ^ k < b % 256 ^ k)
  | 0 => by simp [fixL, bytesOf, Op.bytesLess, Int.emod_one]
  | k + 1 => by
    have ih := fix_less a b a0 b0 k
    rw [fixL_succ, fixL_succ, mod_succ256 a a0, mod_succ256 b b0]
    have p : (0 : Int) < 256 ^ k := Int.pow_pos (by decide)
    have ra0 := Int.emod_nonneg a (show (256 : Int) ^ k ≠ 0 by omega)
    have ra1 := Int.emod_lt_of_pos a p
    have rb0 := Int.emod_nonneg b (show (256 : Int) ^ k ≠ 0 by omega)
    have rb1 := Int.emod_lt_of_pos b p
    have x0 : 0 ≤ a / 256 ^ k % 256 := by omega
    have x1 : a / 256 ^ k % 256 ≤ 255 := by omega
    have y0 : 0 ≤ b / 256 ^ k % 256 := by omega
    have y1 : b / 256 ^ k % 256 ≤ 255 := by omega
    generalize a / 256 ^ k % 256 = x at *
    generalize b / 256 ^ k % 256 = y at *
    have el := ofNat_lt x0 x1 y0 y1
    have ee := ofNat_eq x0 x1 y0 y1
    simp only [bytesOf, List.map_cons, Op.bytesLess] at ih ⊢
    rw [ih]
    generalize a % 256 ^ k = r at *
    generalize b % 256 ^ k = t at *
    generalize (256 : Int) ^ k = P at *
    rw [Bool.eq_iff_iff]
    simp only [Bool.or_eq_true, Bool.and_eq_true, decide_eq_true_eq, beq_iff_eq, el, ee]
    constructor
    · rintro (h | ⟨rfl, h⟩)
      · have : (x + 1) * P ≤ y * P := Int.mul_le_mul_of_nonneg_right (by omega) (by omega)
        rw [Int.add_mul] at this
        omega
      · omega
    · intro h
      rcases Int.lt_trichotomy x y with g | g | g
      · exact .inl g
      · subst g; exact .inr ⟨rfl, by omega⟩
      · have : (y + 1) * P ≤ x * P := Int.mul_le_mul_of_nonneg_right (by omega) (by omega)
        rw [Int.add_mul] at this
        omega
/-- two numbers of one width whose bytes are the same are the same -/
theorem fixL_inj (a b : Int) (a0 : 0 ≤ a) (b0 : 0 ≤ b) : ∀ k, fixL a k = fixL b k → a % 256 ^ k = b % 256 ^ k
  | 0, _ => by simp [Int.emod_one]
  | k + 1, h => by
    rw [fixL_succ, fixL_succ, List.cons.injEq] at h
    rw [mod_succ256 a a0, mod_succ256 b b0, h.1, fixL_inj a b a0 b0 k h.2]
theorem fix_eq (a b : Int) (a0 : 0 ≤ a) (b0 : 0 ≤ b) (k : Nat) (ha : a < 256 ^ k) (hb : b < 256 ^ k) : (bytesOf (fixL a k) == bytesOf (fixL b k)) = (a == b) := by
  rw [Bool.eq_iff_iff, beq_iff_eq, beq_iff_eq, bytesOf_inj _ _ (fixL_range a k) (fixL_range b k)]
  constructor
  · intro h
    have := fixL_inj a b a0 b0 k h
    rwa [Int.emod_eq_of_lt a0 ha, Int.emod_eq_of_lt b0 hb] at this
  · rintro rfl; rfl
theorem fix_lt (a b : Int) (a0 : 0 ≤ a) (b0 : 0 ≤ b) (k : Nat) (ha : a < 256 ^ k) (hb : b < 256 ^ k) : Op.bytesLess (bytesOf (fixL a k)) (bytesOf (fixL b k)) = decide (a < b) := by
  rw [fix_less a b a0 b0 k, Int.emod_eq_of_lt a0 ha, Int.emod_eq_of_lt b0 hb]
/-- the number that bytes are, the highest first -/
def val (L : List Int) : Int := L.foldl (fun v c => v * 256 + c) 0
/-- each is a byte -/
def IsBytes (L : List Int) : Prop := ∀ i, i < L.length → 0 ≤ L.getD i 0 ∧ L.getD i 0 ≤ 255
theorem val_snoc (L : List Int) (c : Int) : val (L ++ [c]) = val L * 256 + c := by simp [val]
theorem take_snoc (L : List Int) (i : Nat) (h : i < L.length) : L.take (i + 1) = L.take i ++ [L.getD i 0] := by
  rw [List.take_succ_eq_append_getElem h]; simp [List.getD, List.getElem?_eq_getElem h]
theorem val_step (L : List Int) (i : Nat) (h : i < L.length) : val (L.take (i + 1)) = val (L.take i) * 256 + L.getD i 0 := by
  rw [take_snoc L i h, val_snoc]
theorem val_bd (L : List Int) (hb : IsBytes L) : ∀ i, i ≤ L.length → 0 ≤ val (L.take i) ∧ val (L.take i) < 256 ^ i
  | 0, _ => by simp [val]
  | i + 1, h => by
    have ih := val_bd L hb i (by omega)
    have hc := hb i (by omega)
    rw [val_step L i (by omega), Int.pow_succ]
    omega
theorem val_fold (v : Int) (L : List Int) : L.foldl (fun v c => v * 256 + c) v = v * 256 ^ L.length + val L := by
  induction L generalizing v with
  | nil => simp [val]
  | cons c L ih =>
    have e : val (c :: L) = (0 * 256 + c) * 256 ^ L.length + val L := by
      show (c :: L).foldl (fun v c => v * 256 + c) 0 = _
      rw [List.foldl_cons, ih]
    rw [List.foldl_cons, ih, e, List.length_cons, Int.pow_succ, Int.zero_mul, Int.zero_add, Int.add_mul, Int.mul_assoc, Int.mul_comm 256, Int.add_assoc]
theorem val_fixL (v : Int) (h : 0 ≤ v) : ∀ k, val (fixL v k) = v % 256 ^ k
  | 0 => by simp [fixL, val, Int.emod_one]
  | k + 1 => by
    rw [fixL_succ, val, List.foldl_cons, val_fold, fixL_length, val_fixL v h k, mod_succ256 v h, Int.zero_mul, Int.zero_add]
theorem fixL_bytes (v : Int) (k : Nat) : IsBytes (fixL v k) := fun i hi => fixL_getD v k i (by rwa [fixL_length] at hi)
theorem bytes_mem {L : List Int} (h : IsBytes L) : ∀ x ∈ L, 0 ≤ x ∧ x ≤ 255 := by
  intro x hx
  obtain ⟨i, hi, rfl⟩ := List.getElem_of_mem hx
  have := h i hi
  simpa [List.getD, List.getElem?_eq_getElem hi] using this
theorem bytes_of_mem {L : List Int} (h : ∀ x ∈ L, 0 ≤ x ∧ x ≤ 255) : IsBytes L := by
  intro i hi
  have := h _ (List.getElem_mem hi)
  simpa [List.getD, List.getElem?_eq_getElem hi] using this
theorem bytes_app {A B : List Int} (ha : IsBytes A) (hb : IsBytes B) : IsBytes (A ++ B) :=
  bytes_of_mem fun x hx => (List.mem_append.1 hx).elim (bytes_mem ha x) (bytes_mem hb x)
end Go.Proofs.Ytokakhlkanakcaa
