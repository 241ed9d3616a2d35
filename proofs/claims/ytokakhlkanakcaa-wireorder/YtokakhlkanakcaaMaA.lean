/- manifest.isDigit, mayStand, isName, isNumber; cmp.Compare, strings.Compare. -/
import Derived.Test.YtokakhlkanakcaaManP
import Derived.Test.YtokakhlkanakcaaMaX
import Derived.Test.YtokakhlkanakcaaWrB
import Derived.Test.YtokakhlkanakcaaManM
namespace Go.Proofs.Ytokakhlkanakcaa
open Go.ChangeShapes Go.WideShapes Go.ChangeAt Go.RowKit Go.Deep
set_option linter.unusedVariables false
theorem run_index_txD (L : Tx) (j : Nat) (h : j < L.length) (w : World) : (Instr.index 9 (.string (tx L)) (.int .i64 (j : Int))).run Try.prog w = .ok (.int .u8 ((L.getD j 0).toNat : Int)) w := by
  have hs := tx_size L
  rw [run_index_string (P := Try.prog) w 9 (tx L) .i64 _ Try.underlying9, dif_pos ⟨by omega, by omega⟩]
  congr 2
  have : ((tx L)[((j : Int)).toNat]'(by omega)) = L.getD j 0 := by
    simp only [Int.toNat_natCast]
    show (tx L).data[j]'_ = _
    simp [tx, List.getD, h]
  rw [this]
theorem dig_eq (b : UInt8) : dig b = (decide ((48 : Int) ≤ (b.toNat : Int)) && decide ((b.toNat : Int) ≤ 57)) := by
  unfold dig
  rw [Bool.eq_iff_iff]
  simp
  omega
theorem mayN_eq (b : UInt8) : mayN b = ((decide ((97 : Int) ≤ (b.toNat : Int)) && decide ((b.toNat : Int) ≤ 122)) || (dig b || (decide ((b.toNat : Int) = 45) || decide ((b.toNat : Int) = 46)))) := by
  have h1 : (b == 45) = decide ((b.toNat : Int) = 45) := by
    rw [Bool.eq_iff_iff]
    simp only [beq_iff_eq, decide_eq_true_eq]
    constructor
    · intro h; rw [h]; rfl
    · intro h; exact UInt8.toNat_inj.1 (by show b.toNat = 45; omega)
  have h2 : (b == 46) = decide ((b.toNat : Int) = 46) := by
    rw [Bool.eq_iff_iff]
    simp only [beq_iff_eq, decide_eq_true_eq]
    constructor
    · intro h; rw [h]; rfl
    · intro h; exact UInt8.toNat_inj.1 (by show b.toNat = 46; omega)
  unfold mayN
  rw [h1, h2, dig_eq]
  rw [Bool.eq_iff_iff]
  simp
  omega
theorem isDigit_is (b : UInt8) (w : World) : Calls Try.prog 60 #[.int .u8 (b.toNat : Int)] w fun e w' => e = .returned (.bool (dig b)) ∧ w' = w := by
  go_enter Try.func60, Try.ntmps60
  go_wp2
  all_goals (
    go_ret
    refine ⟨?_, rfl⟩
    rw [dig_eq]
    show Ending.returned (Value.bool _) = _
    congr 2
    first
      | (simp_all; done)
      | (simp_all; omega)
      | (rw [Bool.eq_iff_iff]; simp; omega))
theorem mayStandN_is (b : UInt8) (w : World) : Calls Try.prog 59 #[.int .u8 (b.toNat : Int)] w fun e w' => e = .returned (.bool (mayN b)) ∧ w' = w := by
  have K : Hid (Calls Try.prog 60 #[.int .u8 (b.toNat : Int)] w fun e w' => e = .returned (.bool (dig b)) ∧ w' = w) := isDigit_is b w
  rw [mayN_eq]
  generalize hd : dig b = d at *
  have hb := b.toNat_lt
  generalize b.toNat = q at *
  clear hd
  by_cases h1 : (97 : Int) ≤ (q : Int) ∧ (q : Int) ≤ 122
  · have e1 : decide ((97 : Int) ≤ (q : Int)) = true := by simp; omega
    have e2 : decide ((q : Int) ≤ 122) = true := by simp; omega
    rw [e1, e2]
    have i1 : (97 : Int) ≤ (q : Int) := h1.1
    have i2 : (q : Int) ≤ 122 := h1.2
    clear e1 e2 h1
    go_enter Try.func59, Try.ntmps59
    go_wp2_with fail
    go_ret
    exact ⟨rfl, rfl⟩
  · have e0 : (decide ((97 : Int) ≤ (q : Int)) && decide ((q : Int) ≤ 122)) = false := by
      rw [Bool.eq_false_iff]
      intro h
      simp at h
      omega
    rw [e0, Bool.false_or]
    have fin : ∀ {P : Prop}, (¬ (97 : Int) ≤ (q : Int) → P) → ((97 : Int) ≤ (q : Int) → ¬ (q : Int) ≤ 122 → P) → P := fun a b => by
      by_cases h : (97 : Int) ≤ (q : Int)
      · exact b h (fun h2 => h1 ⟨h, h2⟩)
      · exact a h
    clear e0 h1
    refine fin ?_ ?_
    · intro i1
      clear fin
      go_enter Try.func59, Try.ntmps59
      go_wp2_with fail
      refine K.out.mono ?_
      rintro e w' ⟨rfl, hw⟩
      obtain rfl := hw.symm
      clear hw K
      cases d with
      | true =>
        go_wp2_with fail
        go_ret
        exact ⟨rfl, rfl⟩
      | false =>
        go_wp2_with fail
        all_goals (
          go_ret
          refine ⟨?_, rfl⟩
          show Ending.returned (Value.bool _) = _
          congr 2
          first
            | done
            | (simp_all; done)
            | (simp_all; omega)
            | (rw [Bool.eq_iff_iff]; simp; omega))
    · intro i1 i2
      clear fin
      go_enter Try.func59, Try.ntmps59
      go_wp2_with fail
      refine K.out.mono ?_
      rintro e w' ⟨rfl, hw⟩
      obtain rfl := hw.symm
      clear hw K
      cases d with
      | true =>
        go_wp2_with fail
        go_ret
        exact ⟨rfl, rfl⟩
      | false =>
        go_wp2_with fail
        all_goals (
          go_ret
          refine ⟨?_, rfl⟩
          show Ending.returned (Value.bool _) = _
          congr 2
          first
            | done
            | (simp_all; done)
            | (simp_all; omega)
            | (rw [Bool.eq_iff_iff]; simp; omega))
theorem all_take {f : UInt8 → Bool} {S : Tx} {i : Nat} (h : i < S.length) : (S.take (i + 1)).all f = ((S.take i).all f && f (S.getD i 0)) := by
  rw [List.take_succ_eq_append_getElem h, List.all_append]
  simp [List.getD, h]
theorem all_no {f : UInt8 → Bool} {S : Tx} {i : Nat} (h : i < S.length) (hf : f (S.getD i 0) = false) : S.all f = false := by
  rw [List.all_eq_false]
  refine ⟨S[i], List.getElem_mem _, ?_⟩
  have : S.getD i 0 = S[i] := by simp [List.getD, h]
  rw [← this, hf]
  simp
set_option maxHeartbeats 2000000 in
theorem isName_is (S : Tx) (hl : S.length ≤ 140737488355328) (w : World) : Calls Try.prog 57 #[.string (tx S)] w fun e w' => e = .returned (.bool (nmOk S)) ∧ Below w.heap.size w w' := by
  have hs := tx_size S
  obtain ⟨n, hn⟩ : ∃ n, n = S.length := ⟨_, rfl⟩
  rw [← hn] at hs hl
  have HN : Hid (S.length = n) := hn.symm
  by_cases h0 : S.length = 0
  · have HR : Hid (nmOk S = false) := by show _ = _; unfold nmOk; rw [h0]; rfl
    rw [HR.out]
    have i0 : ((n : Nat) : Int) = 0 := by omega
    clear h0 hn
    go_enter Try.func57, Try.ntmps57
    go_wp2_with fail
    go_ret
    exact ⟨rfl, Below.refl _ _⟩
  · have i0 : ¬ ((n : Nat) : Int) = 0 := by omega
    by_cases h16 : 16 < S.length
    · have HR : Hid (nmOk S = false) := by
        show _ = _
        unfold nmOk
        have : decide (S.length ≤ 16) = false := by simp; omega
        rw [this]
        simp
      rw [HR.out]
      have i1 : (16 : Int) < ((n : Nat) : Int) := by omega
      clear h0 hn h16
      go_enter Try.func57, Try.ntmps57
      go_wp2_with fail
      go_ret
      exact ⟨rfl, Below.refl _ _⟩
    · have i1 : ¬ (16 : Int) < ((n : Nat) : Int) := by omega
      have HR : Hid (nmOk S = S.all mayN) := by
        show _ = _
        unfold nmOk
        have e1 : decide (1 ≤ S.length) = true := by simp; omega
        have e2 : decide (S.length ≤ 16) = true := by simp; omega
        rw [e1, e2]
        simp
      rw [HR.out]
      obtain ⟨r, hr⟩ : ∃ r, r = S.all mayN := ⟨_, rfl⟩
      have HA : Hid (S.all mayN = r) := hr.symm
      rw [← hr]
      clear hr h0 h16 hn
      go_enter Try.func57, Try.ntmps57
      go_wp2_with fail
      go_loopg [14] n (fun g i wr => ∃ (j : Nat), j ≤ n ∧ g = n - j ∧ i = .int .i64 j ∧ Hid ((S.take j).all mayN = true) ∧ wr = w)
      case atStart => exact ⟨0, Nat.zero_le _, rfl, rfl, rfl, rfl⟩
      case round =>
        obtain ⟨j, hj, rfl, rfl, HT, rfl⟩ := hrel
        by_cases hlt : j < n
        · have j1 : (j : Int) < ((n : Nat) : Int) := by omega
          have hlt' : j < S.length := by rw [HN.out]; exact hlt
          have ix := run_index_txD S j hlt'
          have K : Hid (∀ w, Calls Try.prog 59 #[.int .u8 ((S.getD j 0).toNat : Int)] w fun e w' => e = .returned (.bool (mayN (S.getD j 0))) ∧ w' = w) := mayStandN_is _
          cases hm : mayN (S.getD j 0) with
          | true =>
            have HT2 : Hid ((S.take (j + 1)).all mayN = true) := by show _ = _; rw [all_take hlt', HT.out, hm]; rfl
            rw [hm] at K
            clear hlt'
            generalize S.getD j 0 = y at *
            go_wp2_with fail
            refine (K.out _).mono ?_
            rintro e w' ⟨rfl, hw⟩
            obtain rfl := hw.symm
            clear hw
            go_wp2_with fail
            go_roundg (n - (j + 1))
            case measure => omega
            case rel => exact ⟨j + 1, by omega, rfl, by go_num, HT2, rfl⟩
          | false =>
            have HF : Hid (r = false) := by show _ = _; rw [← HA.out]; exact all_no hlt' hm
            rw [hm] at K
            clear hlt'
            generalize S.getD j 0 = y at *
            go_wp2_with fail
            refine (K.out _).mono ?_
            rintro e w' ⟨rfl, hw⟩
            obtain rfl := hw.symm
            clear hw
            go_wp2_with fail
            go_ret
            refine ⟨?_, Below.refl _ _⟩
            rw [HF.out]
            rfl
        · have e : j = n := by omega
          subst e
          have j1 : ¬ ((j : Nat) : Int) < ((j : Nat) : Int) := by omega
          have HF : Hid (r = true) := by show _ = _; rw [← HA.out]; have := HT.out; rwa [List.take_of_length_le (by rw [HN.out]; omega)] at this
          go_wp2_with fail
          go_ret
          refine ⟨?_, Below.refl _ _⟩
          rw [HF.out]
          rfl
end Go.Proofs.Ytokakhlkanakcaa
