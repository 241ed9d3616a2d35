/- The document's Name. -/
import Derived.Test.YtokakhlkanakcaaMaH
namespace Go.Proofs.Ytokakhlkanakcaa
open Go.ChangeShapes Go.WideShapes Go.ChangeAt Go.RowKit Go.Deep Go.Maps
set_option linter.unusedVariables false
theorem mayN_int (b : UInt8) : mayN b = true ↔ ((97 ≤ (b.toNat : Int) ∧ (b.toNat : Int) ≤ 122) ∨ (48 ≤ (b.toNat : Int) ∧ (b.toNat : Int) ≤ 57) ∨ (b.toNat : Int) = 45 ∨ (b.toNat : Int) = 46) := by
  have e1 : (b == 45) = decide (b.toNat = 45) := by rw [Bool.eq_iff_iff, beq_iff_eq, decide_eq_true_iff]; exact ⟨fun h => by rw [h]; rfl, fun h => UInt8.toNat_inj.1 h⟩
  have e2 : (b == 46) = decide (b.toNat = 46) := by rw [Bool.eq_iff_iff, beq_iff_eq, decide_eq_true_iff]; exact ⟨fun h => by rw [h]; rfl, fun h => UInt8.toNat_inj.1 h⟩
  unfold mayN
  rw [e1, e2]
  simp only [Bool.or_eq_true, Bool.and_eq_true, decide_eq_true_iff]
  omega
set_option maxRecDepth 100000 in
set_option maxHeartbeats 4000000 in
theorem rname_is (S : Tx) (hl : S.length ≤ 140737488355328) (w : World) : Calls Try.prog 58 #[.string (tx S)] w fun e w' => e = .returned (.bool (nmOk S)) ∧ w' = w := by
  have hs := tx_size S
  obtain ⟨n, hn⟩ : ∃ n, n = S.length := ⟨_, rfl⟩
  rw [← hn] at hs hl
  have HN : Hid (S.length = n) := hn.symm
  obtain ⟨r, hr⟩ : ∃ r, r = nmOk S := ⟨_, rfl⟩
  have HA : Hid (r = (decide (1 ≤ S.length) && decide (S.length ≤ 16) && S.all mayN)) := hr
  rw [← hr]
  clear hr hn
  go_enter Try.func58, Try.ntmps58
  go_wp2_with fail
  go_loopg [3] n (fun g i wr => ∃ (j : Nat), j ≤ n ∧ g = n - j ∧ i = .int .i64 j ∧ Hid ((S.take j).all mayN = true) ∧ wr = w)
  case atStart => exact ⟨0, Nat.zero_le _, rfl, rfl, rfl, rfl⟩
  case round =>
    obtain ⟨j, hj, rfl, rfl, HT, rfl⟩ := hrel
    by_cases hlt : j < n
    · have j1 : (j : Int) < ((n : Nat) : Int) := by omega
      have hlt' : j < S.length := by rw [HN.out]; exact hlt
      have ix := run_index_txD S j hlt'
      have HM : Hid (mayN (S.getD j 0) = true ↔ ((97 ≤ ((S.getD j 0).toNat : Int) ∧ ((S.getD j 0).toNat : Int) ≤ 122) ∨ (48 ≤ ((S.getD j 0).toNat : Int) ∧ ((S.getD j 0).toNat : Int) ≤ 57) ∨ ((S.getD j 0).toNat : Int) = 45 ∨ ((S.getD j 0).toNat : Int) = 46)) := mayN_int _
      have HY : Hid (mayN (S.getD j 0) = true → (S.take (j + 1)).all mayN = true) := fun hm => by rw [all_take hlt', HT.out, hm]; rfl
      have HF : Hid (mayN (S.getD j 0) = false → r = false) := fun hm => by rw [HA.out, all_no hlt' hm]; simp
      generalize mayN (S.getD j 0) = d at *
      generalize ((S.getD j 0).toNat : Int) = y at *
      clear hlt'
      rcases (by omega : (97 ≤ y ∧ y ≤ 122) ∨ (122 < y) ∨ (57 < y ∧ y < 97) ∨ (48 ≤ y ∧ y ≤ 57) ∨ (y = 45) ∨ (y = 46) ∨ (y < 48 ∧ ¬ y = 45 ∧ ¬ y = 46)) with hc | hc | hc | hc | hc | hc | hc
      · have hd : d = true := by exact HM.out.2 (by omega)
        have f0 : decide (97 ≤ y) = true := by simp; omega
        have f1 : decide (y ≤ 122) = true := by simp; omega
        have f2 : decide (48 ≤ y) = true := by simp; omega
        have f3 : decide (y ≤ 57) = false := by simp; omega
        have HT2 : Hid ((S.take (j + 1)).all mayN = true) := HY.out hd
        go_wp2_with fail
        go_roundg (n - (j + 1))
        case measure => omega
        case rel => exact ⟨j + 1, by omega, rfl, by go_num, HT2, rfl⟩
      · have hd : d = false := by rw [← Bool.not_eq_true, HM.out]; omega
        have f0 : decide (97 ≤ y) = true := by simp; omega
        have f1 : decide (y ≤ 122) = false := by simp; omega
        have f2 : decide (48 ≤ y) = true := by simp; omega
        have f3 : decide (y ≤ 57) = false := by simp; omega
        have f4 : (y != 45) = true := by simp; omega
        have f5 : (y != 46) = true := by simp; omega
        have HR : Hid (r = false) := HF.out hd
        go_wp2_with fail
        go_ret
        exact ⟨by rw [HR.out]; rfl, rfl⟩
      · have hd : d = false := by rw [← Bool.not_eq_true, HM.out]; omega
        have f0 : decide (97 ≤ y) = false := by simp; omega
        have f1 : decide (48 ≤ y) = true := by simp; omega
        have f2 : decide (y ≤ 57) = false := by simp; omega
        have f3 : (y != 45) = true := by simp; omega
        have f4 : (y != 46) = true := by simp; omega
        have HR : Hid (r = false) := HF.out hd
        go_wp2_with fail
        go_ret
        exact ⟨by rw [HR.out]; rfl, rfl⟩
      · have hd : d = true := by exact HM.out.2 (by omega)
        have f0 : decide (97 ≤ y) = false := by simp; omega
        have f1 : decide (48 ≤ y) = true := by simp; omega
        have f2 : decide (y ≤ 57) = true := by simp; omega
        have HT2 : Hid ((S.take (j + 1)).all mayN = true) := HY.out hd
        go_wp2_with fail
        go_roundg (n - (j + 1))
        case measure => omega
        case rel => exact ⟨j + 1, by omega, rfl, by go_num, HT2, rfl⟩
      · have hd : d = true := by exact HM.out.2 (by omega)
        have f0 : decide (97 ≤ y) = false := by simp; omega
        have f1 : decide (48 ≤ y) = false := by simp; omega
        clear HM
        subst hc
        have HT2 : Hid ((S.take (j + 1)).all mayN = true) := HY.out hd
        go_wp2_with fail
        go_roundg (n - (j + 1))
        case measure => omega
        case rel => exact ⟨j + 1, by omega, rfl, by go_num, HT2, rfl⟩
      · have hd : d = true := by exact HM.out.2 (by omega)
        have f0 : decide (97 ≤ y) = false := by simp; omega
        have f1 : decide (48 ≤ y) = false := by simp; omega
        clear HM
        subst hc
        have HT2 : Hid ((S.take (j + 1)).all mayN = true) := HY.out hd
        go_wp2_with fail
        go_roundg (n - (j + 1))
        case measure => omega
        case rel => exact ⟨j + 1, by omega, rfl, by go_num, HT2, rfl⟩
      · have hd : d = false := by rw [← Bool.not_eq_true, HM.out]; omega
        have f0 : decide (97 ≤ y) = false := by simp; omega
        have f1 : decide (48 ≤ y) = false := by simp; omega
        have f2 : (y != 45) = true := by simp; omega
        have f3 : (y != 46) = true := by simp; omega
        have HR : Hid (r = false) := HF.out hd
        go_wp2_with fail
        go_ret
        exact ⟨by rw [HR.out]; rfl, rfl⟩
    · have e : j = n := by omega
      subst e
      have j1 : ¬ (j : Int) < (j : Int) := by omega
      have HF : Hid (r = (decide (1 ≤ (j : Int)) && decide ((j : Int) ≤ 16))) := by
        show _ = _
        have := HT.out
        rw [List.take_of_length_le (by rw [HN.out]; omega)] at this
        rw [HA.out, this, HN.out, Bool.and_true]
        congr 1
        · rw [Bool.eq_iff_iff]; simp; omega
        · rw [Bool.eq_iff_iff]; simp; omega
      by_cases h1 : 1 ≤ j
      · have e1 : decide (1 ≤ (j : Int)) = true := by simp; omega
        rw [e1, Bool.true_and] at HF
        go_wp2_with fail
        go_ret
        exact ⟨by rw [HF.out]; rfl, rfl⟩
      · have e1 : decide (1 ≤ (j : Int)) = false := by simp; omega
        rw [e1, Bool.false_and] at HF
        go_wp2_with fail
        go_ret
        exact ⟨by rw [HF.out]; rfl, rfl⟩
end Go.Proofs.Ytokakhlkanakcaa
