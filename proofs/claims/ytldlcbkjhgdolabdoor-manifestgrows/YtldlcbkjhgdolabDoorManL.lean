/- The digits of a number; versions that grow. -/
import Derived.Test.YtldlcbkjhgdolabDoorManK
namespace Go.Proofs.YtldlcbkjhgdolabDoor
open Go.ChangeShapes Go.WideShapes Go.ChangeAt Go.RowKit Go.Deep Go.Maps
set_option linter.unusedVariables false
theorem tmodNM (x : Int) (n : Nat) (h : 0 < n) : -(n : Int) < x.tmod n ∧ x.tmod n < n := by
  rcases Int.le_total 0 x with g | g
  · rw [Int.tmod_eq_emod_of_nonneg g]
    have := Int.emod_nonneg x (show (n : Int) ≠ 0 by omega)
    have := Int.emod_lt_of_pos x (show (0 : Int) < n by omega)
    omega
  · have e : x.tmod n = -((-x).tmod n) := by rw [Int.neg_tmod, Int.neg_neg]
    rw [e, Int.tmod_eq_emod_of_nonneg (by omega)]
    have := Int.emod_nonneg (-x) (show (n : Int) ≠ 0 by omega)
    have := Int.emod_lt_of_pos (-x) (show (0 : Int) < n by omega)
    omega
theorem inNM (x : Int) (n : Nat) (h : 0 < n) (hb : n ≤ 1000000) : ∃ k : Nat, k < n ∧ (wrap64 (x.tmod n + n)).tmod n = k := by
  have g := tmodNM x n h
  have e1 : wrap64 (x.tmod n + n) = x.tmod n + n := by unfold wrap64; omega
  rw [e1, Int.tmod_eq_emod_of_nonneg (by omega)]
  have h0 := Int.emod_nonneg (x.tmod n + n) (show (n : Int) ≠ 0 by omega)
  have h1 := Int.emod_lt_of_pos (x.tmod n + n) (show (0 : Int) < n by omega)
  exact ⟨((x.tmod n + n) % n).toNat, by omega, by omega⟩
/-- the digits of a number -/
def dgF : Nat → Nat → Tx
  | 0, n => [UInt8.ofNat (48 + n)]
  | f + 1, n => if n < 10 then [UInt8.ofNat (48 + n)] else dgF f (n / 10) ++ dgF f (n % 10)
def dgt (n : Nat) : Tx := dgF 3 n
theorem one_dig : ∀ n : Fin 10, (⟨#[48, 49, 50, 51, 52, 53, 54, 55, 56, 57]⟩ : ByteArray).extract n.val (n.val + 1) = tx [UInt8.ofNat (48 + n.val)] := by
  intro n
  have : (⟨#[48, 49, 50, 51, 52, 53, 54, 55, 56, 57]⟩ : ByteArray) = tx [48, 49, 50, 51, 52, 53, 54, 55, 56, 57] := rfl
  rw [this, tx_extract]
  revert n
  have : ∀ n : Fin 10, (List.drop n.val [48, 49, 50, 51, 52, 53, 54, 55, 56, 57]).take (n.val + 1 - n.val) = [UInt8.ofNat (48 + n.val)] := by decide +kernel
  intro n
  rw [this n]
theorem dgF_len : ∀ f n, (dgF f n).length ≤ 2 ^ f
  | 0, n => by simp [dgF]
  | f + 1, n => by
    unfold dgF
    split
    · simp; exact Nat.one_le_two_pow
    · have h1 := dgF_len f (n / 10)
      have h2 := dgF_len f (n % 10)
      rw [List.length_append, Nat.pow_succ]
      omega
set_option maxHeartbeats 1000000 in
theorem digits_is : ∀ (f n : Nat), f ≤ 3 → n < 10 ^ (f + 1) → ∀ w, Calls Tryd.prog 17 #[.int .i64 (n : Int)] w fun e w' => e = .returned (.string (tx (dgF f n))) ∧ w' = w
  | f, n, hf, hn, w => by
    by_cases h10 : n < 10
    · have HX : Hid (dgF f n = [UInt8.ofNat (48 + n)]) := by
        cases f with
        | zero => rfl
        | succ f => show dgF (f + 1) n = _; unfold dgF; rw [if_pos h10]
      rw [HX.out]
      have hx := one_dig ⟨n, h10⟩
      simp only at hx
      have e1 : (n : Int) < 10 := by omega
      have i1 : (0 : Int) ≤ (n : Int) := by omega
      have i2 : (n : Int) ≤ (n : Int) + 1 := by omega
      have i3 : (n : Int) + 1 ≤ 10 := by omega
      generalize tx [UInt8.ofNat (48 + n)] = R at *
      clear HX
      go_enter Tryd.func17, Tryd.ntmps17
      go_wp2_with fail
      go_ret
      exact ⟨rfl, rfl⟩
    · cases f with
      | zero => simp at hn; omega
      | succ f =>
        have HX : Hid (dgF (f + 1) n = dgF f (n / 10) ++ dgF f (n % 10)) := by
          show dgF (f + 1) n = _
          rw [dgF, if_neg h10]
        have hp : (10 : Nat) ≤ 10 ^ (f + 1) := by
          have := Nat.pow_le_pow_right (show 0 < 10 by decide) (show 1 ≤ f + 1 by omega)
          omega
        have K1 : Hid (∀ w, Calls Tryd.prog 17 #[.int .i64 ((n / 10 : Nat) : Int)] w fun e w' => e = .returned (.string (tx (dgF f (n / 10)))) ∧ w' = w) := digits_is f (n / 10) (by omega) (by rw [Nat.pow_succ] at hn; omega)
        have K2 : Hid (∀ w, Calls Tryd.prog 17 #[.int .i64 ((n % 10 : Nat) : Int)] w fun e w' => e = .returned (.string (tx (dgF f (n % 10)))) ∧ w' = w) := digits_is f (n % 10) (by omega) (by omega)
        rw [HX.out]
        have hap := tx_append (dgF f (n / 10)) (dgF f (n % 10))
        have s1 := tx_size (dgF f (n / 10))
        have s2 := tx_size (dgF f (n % 10))
        have l1 := dgF_len f (n / 10)
        have l2 := dgF_len f (n % 10)
        have hp8 : 2 ^ f ≤ 8 := by rcases (by omega : f = 0 ∨ f = 1 ∨ f = 2) with rfl | rfl | rfl <;> decide
        have hn4 : n < 100000 := by
          have : 10 ^ (f + 1 + 1) ≤ 10 ^ 4 := Nat.pow_le_pow_right (by decide) (by omega)
          omega
        have q1 : (n : Int).tdiv 10 = ((n / 10 : Nat) : Int) := by simp [Int.tdiv_eq_ediv]
        have q2 : (n : Int).tmod 10 = ((n % 10 : Nat) : Int) := by simp [Int.tmod_eq_emod]
        have e1 : ¬ (n : Int) < 10 := by omega
        have wp : wrap64 ((n / 10 : Nat) : Int) = ((n / 10 : Nat) : Int) := by unfold wrap64; omega
        generalize n / 10 = p at *
        generalize n % 10 = q at *
        generalize dgF f p = D1 at *
        generalize dgF f q = D2 at *
        clear HX hn hp h10
        go_enter Tryd.func17, Tryd.ntmps17
        go_wp2_with fail
        refine (K1.out _).mono ?_
        rintro e w' ⟨rfl, hw⟩
        obtain rfl := hw.symm
        clear hw
        go_wp2_with fail
        refine (K2.out _).mono ?_
        rintro e w' ⟨rfl, hw⟩
        obtain rfl := hw.symm
        clear hw
        go_wp2_with fail
        go_ret
        exact ⟨rfl, rfl⟩
theorem dgt_facts : ∀ n : Fin 1000, dgt n.val ≠ dgt (n.val + 1) ∧ cP (dgt n.val) (dgt (n.val + 1)) = -1 ∧ (46 : UInt8) ∉ dgt n.val ∧ (46 : UInt8) ∉ dgt (n.val + 1) := by decide +kernel
theorem grows1 (H : Tx) (n : Nat) (h : n < 1000) : ord (H ++ 46 :: dgt n) (H ++ 46 :: dgt (n + 1)) = -1 := by
  obtain ⟨f1, f2, f3, f4⟩ := dgt_facts ⟨n, h⟩
  simp only at f1 f2 f3 f4
  unfold ord
  rw [pcd_app, pcd_app, pcd_no _ f3, pcd_no _ f4, cL_app, cL, if_neg f1]
  exact f2
theorem grows2 (H T : Tx) (n : Nat) (h : n < 1000) : ord (H ++ 46 :: dgt n ++ 46 :: T) (H ++ 46 :: dgt (n + 1)) = -1 := by
  obtain ⟨f1, f2, f3, f4⟩ := dgt_facts ⟨n, h⟩
  simp only at f1 f2 f3 f4
  unfold ord
  rw [pcd_app, pcd_app, pcd_app, pcd_no _ f3, pcd_no _ f4, List.append_assoc, cL_app, List.singleton_append, cL, if_neg f1]
  exact f2
theorem grows3 (X T : Tx) : ord X (X ++ 46 :: T) = -1 := by
  unfold ord
  rw [pcd_app]
  exact cL_pre _ _ (pcd_ne T)
end Go.Proofs.YtldlcbkjhgdolabDoor
