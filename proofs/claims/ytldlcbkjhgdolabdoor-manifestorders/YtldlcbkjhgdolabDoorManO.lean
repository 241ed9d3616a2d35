/- The document's digits, less, padded. -/
import Derived.Test.YtldlcbkjhgdolabDoorManN
namespace Go.Proofs.YtldlcbkjhgdolabDoor
open Go.ChangeShapes Go.WideShapes Go.ChangeAt Go.RowKit Go.Deep Go.Maps
set_option linter.unusedVariables false
set_option maxHeartbeats 2000000 in
theorem rdigits_is (S : Tx) (hl : S.length ≤ 140737488355328) (w : World) : Calls Tryd.prog 22 #[.string (tx S)] w fun e w' => e = .returned (.bool (isN S)) ∧ w' = w := by
  have hs := tx_size S
  have ht := tx_toList S
  obtain ⟨r, hr⟩ : ∃ r, r = isN S := ⟨_, rfl⟩
  have HA : Hid (isN S = r) := hr.symm
  rw [← hr]
  clear hr
  go_enter Tryd.func22, Tryd.ntmps22
  go_wp2_with fail
  go_loopg [3] S.length (fun g i wr => ∃ (j : Nat), j ≤ S.length ∧ g = S.length - j ∧ i = .int .i64 j ∧ Hid ((S.take j).all dig = true) ∧ wr = w)
  case atStart => exact ⟨0, Nat.zero_le _, rfl, rfl, rfl, rfl⟩
  case round =>
    obtain ⟨j, hj, rfl, rfl, HT, rfl⟩ := hrel
    by_cases hlt : j < S.length
    · have j1 : (j : Int) < ((S.length : Nat) : Int) := by omega
      have ix := run_index_txD S j hlt
      have HDG : Hid (dig (S.getD j 0) = (decide ((48 : Int) ≤ ((S.getD j 0).toNat : Int)) && decide (((S.getD j 0).toNat : Int) ≤ 57))) := dig_eq _
      have HN : Hid (dig (S.getD j 0) = false → r = false) := fun hm => by rw [← HA.out]; unfold isN; rw [all_no hlt hm]; rfl
      have HY : Hid (dig (S.getD j 0) = true → (S.take (j + 1)).all dig = true) := fun hm => by rw [all_take hlt, HT.out, hm]; rfl
      generalize dig (S.getD j 0) = d at *
      generalize ((S.getD j 0).toNat : Int) = y at *
      by_cases h1 : y < 48
      · have HF : Hid (r = false) := HN.out (by rw [HDG.out]; simp; omega)
        have e1 : decide (y < 48) = true := by simp [h1]
        clear HDG HN HY
        go_wp2_with fail
        go_ret
        refine ⟨?_, rfl⟩
        rw [HF.out]
        rfl
      · have e1 : decide (y < 48) = false := by simp; omega
        by_cases h2 : 57 < y
        · have HF : Hid (r = false) := HN.out (by rw [HDG.out]; simp; omega)
          have e2 : decide (57 < y) = true := by simp [h2]
          clear HDG HN HY
          go_wp2_with fail
          go_ret
          refine ⟨?_, rfl⟩
          rw [HF.out]
          rfl
        · have e2 : decide (57 < y) = false := by simp; omega
          have HT2 : Hid ((S.take (j + 1)).all dig = true) := HY.out (by rw [HDG.out]; simp; omega)
          clear HDG HN HY
          go_wp2_with fail
          go_roundg (S.length - (j + 1))
          case measure => omega
          case rel => exact ⟨j + 1, by omega, rfl, by go_num, HT2, rfl⟩
    · have e : j = S.length := by omega
      subst e
      have j1 : ¬ ((S.length : Nat) : Int) < ((S.length : Nat) : Int) := by omega
      have HF : Hid (r = !S.isEmpty) := by
        show _ = _
        rw [← HA.out]
        have := HT.out
        rw [List.take_length] at this
        unfold isN
        rw [this]
        rfl
      have he : (S == []) = S.isEmpty := by cases S <;> rfl
      generalize S.isEmpty = q at *
      go_wp2_with fail
      go_ret
      refine ⟨?_, rfl⟩
      rw [HF.out]
      rfl
theorem rlessM_is (A B : Tx) (w : World) : Calls Tryd.prog 23 #[.string (tx A), .string (tx B)] w fun e w' => e = .returned (.int .i64 (cB A B)) ∧ w' = w := by
  have t1 := tx_toList A
  have t2 := tx_toList B
  have b1 := bytesLess_lt A B
  have b2 := bytesLess_lt B A
  have hC : cB A B = if A = B then 0 else if ltB A B = true then -1 else 1 := rfl
  by_cases hab : A = B
  · subst hab
    rw [ltB_irr] at b1
    have : cB A A = 0 := cB_self A
    rw [this]
    clear hC this b2
    go_enter Tryd.func23, Tryd.ntmps23
    go_wp2_with fail
    go_ret
    exact ⟨rfl, rfl⟩
  · have htot := ltB_total A B hab
    cases hlt : ltB A B with
    | true =>
      rw [hlt] at b1 hC
      rw [if_neg hab, if_pos rfl] at hC
      rw [hC]
      clear b2 htot hab
      go_enter Tryd.func23, Tryd.ntmps23
      go_wp2_with fail
      go_ret
      exact ⟨rfl, rfl⟩
    | false =>
      rw [hlt] at b1 hC htot
      rw [if_neg hab, if_neg (by simp)] at hC
      have hba : ltB B A = true := by simpa using htot.symm
      rw [hba] at b2
      rw [hC]
      have he : (A == B) = false := by simp [hab]
      clear htot hab
      go_enter Tryd.func23, Tryd.ntmps23
      go_wp2_with fail
      go_ret
      exact ⟨rfl, rfl⟩
/-- with so many noughts ahead that it has n signs -/
def pad (S : Tx) (n : Nat) : Tx := List.replicate (n - S.length) 48 ++ S
end Go.Proofs.YtldlcbkjhgdolabDoor
