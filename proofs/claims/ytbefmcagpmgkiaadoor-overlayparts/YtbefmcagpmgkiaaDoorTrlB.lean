/- trail.In, trail.mayStand, trail.Less. -/
import Derived.Test.YtbefmcagpmgkiaaDoorTrlA
namespace Go.Proofs.YtbefmcagpmgkiaaDoor
open Go.ChangeShapes Go.WideShapes Go.ChangeAt Go.RowKit Go.Deep
set_option linter.unusedVariables false
theorem in_is (P Q : Tx) (hp : P.length ≤ 281474976710656) (w : World) : Calls Tryd.prog 65 #[.string (tx P), .string (tx Q)] w fun e w' => e = .returned (.bool (inn P Q)) ∧ Below w.heap.size w w' := by
  have K : Hid (∀ w, Calls Tryd.prog 75 #[.string (tx Q), .string (tx (P ++ [47]))] w fun e w' => e = .returned (.bool ((P ++ [47]).isPrefixOf Q)) ∧ w' = w) := hasPrefix_is Q (P ++ [47])
  have h1 := tx_toList P
  have h2 := tx_toList Q
  have h3 := tx_size P
  have a1 : tx P ++ ⟨#[47]⟩ = tx (P ++ [47]) := tx_append P [47]
  have EI : Hid (inn P Q = (decide (P = []) || decide (Q = P) || (P ++ [47]).isPrefixOf Q)) := rfl
  rw [EI.out]
  go_enter Tryd.func65, Tryd.ntmps65
  go_wp2_with (go_at_call 75; refine (K.out _).mono ?_; rintro e w' ⟨rfl, hw⟩; obtain rfl := hw.symm; clear hw)
  · have h : P = [] := by assumption
    go_ret
    refine ⟨?_, Below.refl _ _⟩
    rw [decide_eq_true h]
    rfl
  · have h : Q = P := by assumption
    go_ret
    refine ⟨?_, Below.refl _ _⟩
    rw [decide_eq_true h, Bool.or_true]
    rfl
  · have n1 : ¬ P = [] := by assumption
    have n2 : ¬ Q = P := by assumption
    go_ret
    refine ⟨?_, Below.refl _ _⟩
    show Ending.returned (Value.bool _) = _
    congr 2
    rw [Bool.eq_iff_iff]
    simp [n1, n2]
theorem may_eq (b : UInt8) : may b = ((decide (97 ≤ (b.toNat : Int)) && decide ((b.toNat : Int) ≤ 122)) || (decide (48 ≤ (b.toNat : Int)) && decide ((b.toNat : Int) ≤ 57)) || decide ((b.toNat : Int) = 95) || decide ((b.toNat : Int) = 45) || decide ((b.toNat : Int) = 46)) := by
  have h (k : UInt8) : (b == k) = decide ((b.toNat : Int) = (k.toNat : Int)) := by
    rw [Bool.eq_iff_iff, beq_iff_eq, decide_eq_true_iff]
    constructor
    · rintro rfl; rfl
    · intro e; exact UInt8.toNat_inj.1 (by omega)
  unfold may
  rw [h 95, h 45, h 46, Bool.eq_iff_iff]
  simp only [Bool.or_eq_true, Bool.and_eq_true, decide_eq_true_eq]
  have e1 : (UInt8.toNat 95 : Int) = 95 := rfl
  have e2 : (UInt8.toNat 45 : Int) = 45 := rfl
  have e3 : (UInt8.toNat 46 : Int) = 46 := rfl
  rw [e1, e2, e3]
  omega
theorem mayStand_is (b : UInt8) (w : World) : Calls Tryd.prog 55 #[.int .u8 (b.toNat : Int)] w fun e w' => e = .returned (.bool (may b)) ∧ w' = w := by
  go_enter Tryd.func55, Tryd.ntmps55
  go_wp2
  all_goals (
    go_ret
    refine ⟨?_, rfl⟩
    rw [may_eq]
    show Ending.returned (Value.bool _) = _
    congr 2
    first
      | (simp_all; done)
      | (simp_all; omega)
      | (rw [Bool.eq_iff_iff]; simp; omega))
theorem les_ne (A B : Tx) (h : cutA A ≠ cutA B) : les A B = ltB (cutA A) (cutA B) := by
  unfold les
  have hA : ∃ r, pcs A = cutA A :: r := by
    cases hf : cutF A with
    | true => exact ⟨_, pcs_yes A hf⟩
    | false => exact ⟨_, pcs_end A hf⟩
  have hB : ∃ r, pcs B = cutA B :: r := by
    cases hf : cutF B with
    | true => exact ⟨_, pcs_yes B hf⟩
    | false => exact ⟨_, pcs_end B hf⟩
  obtain ⟨r, hr⟩ := hA
  obtain ⟨t, ht⟩ := hB
  rw [hr, ht, ltP, if_neg h]
theorem les_on (A B : Tx) (h : cutA A = cutA B) (hA : cutF A = true) (hB : cutF B = true) : les A B = les (cutB A) (cutB B) := by
  unfold les
  rw [pcs_yes A hA, pcs_yes B hB, ltP, if_pos h]
theorem les_end (A B : Tx) (h : cutA A = cutA B) (hf : cutF A = false ∨ cutF B = false) : les A B = cutF B := by
  unfold les
  cases hA : cutF A with
  | false =>
    rw [pcs_end A hA]
    cases hB : cutF B with
    | false => rw [pcs_end B hB, ltP, if_pos h]; rfl
    | true =>
      rw [pcs_yes B hB, ltP, if_pos h]
      cases hp : pcs (cutB B) with
      | nil => exact absurd hp (pcs_ne _)
      | cons x xs => rfl
  | true =>
    have hB : cutF B = false := by
      rcases hf with h1 | h1
      · rw [h1] at hA; simp at hA
      · exact h1
    rw [pcs_yes A hA, pcs_end B hB, ltP, if_pos h, hB]
    cases hp : pcs (cutB A) with
    | nil => rfl
    | cons x xs => rfl
theorem cutB_len (L : Tx) (h : cutF L = true) : (cutB L).length + 1 ≤ L.length := by
  have := congrArg List.length (cut_yes L h)
  simp at this
  omega
theorem cutB_le (L : Tx) : (cutB L).length ≤ L.length := by
  cases h : cutF L with
  | true => have := cutB_len L h; omega
  | false => rw [(cut_no L h).2]; simp
theorem cutA_le (L : Tx) : (cutA L).length ≤ L.length := by
  cases h : cutF L with
  | true =>
    have := congrArg List.length (cut_yes L h)
    simp at this
    omega
  | false => rw [(cut_no L h).1]; omega
set_option maxHeartbeats 1000000 in
theorem less_is (P Q : Tx) (hp : P.length ≤ 281474976710656) (hq : Q.length ≤ 281474976710656) (w : World) : Calls Tryd.prog 59 #[.string (tx P), .string (tx Q)] w fun e w' => e = .returned (.bool (les P Q)) ∧ Below w.heap.size w w' := by
  go_enter Tryd.func59, Tryd.ntmps59
  go_wp2
  go_loopg [0, 1] P.length (fun g p q wr => ∃ A B : Tx, p = .string (tx A) ∧ q = .string (tx B) ∧ g = A.length ∧ A.length ≤ P.length ∧ B.length ≤ Q.length ∧ Hid (les P Q = les A B) ∧ Hid (Below w.heap.size w wr))
  case atStart => exact ⟨P, Q, rfl, rfl, rfl, Nat.le_refl _, Nat.le_refl _, rfl, Below.refl _ _⟩
  case round =>
    obtain ⟨A, B, rfl, rfl, rfl, hA, hB, HL, HW⟩ := hrel
    have hsz := HW.out.size
    have KA : Hid (Calls Tryd.prog 54 #[.string (tx A), .string ⟨#[47]⟩] wr fun e w' => e = .returned (.tuple #[.string (tx (cutA A)), .string (tx (cutB A)), .bool (cutF A)]) ∧ Below wr.heap.size wr w') := cut_is A (by omega) wr
    have KB : Hid (∀ w, Calls Tryd.prog 54 #[.string (tx B), .string ⟨#[47]⟩] w fun e w' => e = .returned (.tuple #[.string (tx (cutA B)), .string (tx (cutB B)), .bool (cutF B)]) ∧ Below w.heap.size w w') := cut_is B (by omega)
    go_wp2_with fail
    refine KA.out.mono ?_
    rintro e w1 ⟨rfl, hb1⟩
    have B1 : Hid (Below w.heap.size w w1) := HW.out.trans (hb1.mono hsz)
    clear hb1 KA HW
    go_wp2_with fail
    refine (KB.out _).mono ?_
    rintro e w2 ⟨rfl, hb2⟩
    have B2 : Hid (Below w.heap.size w w2) := B1.out.trans (hb2.mono B1.out.size)
    clear hb2 KB B1
    have t1 := tx_toList (cutA A)
    have t2 := tx_toList (cutA B)
    have T3 : Hid (Op.bytesLess (cutA A) (cutA B) = ltB (cutA A) (cutA B)) := bytesLess_lt _ _
    have lB := cutB_le B
    have HC : Hid (cutA A ≠ cutA B → les A B = ltB (cutA A) (cutA B)) := les_ne A B
    have HD : Hid (cutA A = cutA B → cutF A = true → cutF B = true → les A B = les (cutB A) (cutB B)) := les_on A B
    have HE : Hid (cutA A = cutA B → cutF A = false ∨ cutF B = false → les A B = cutF B) := les_end A B
    have HF : Hid (cutF A = true → (cutB A).length + 1 ≤ A.length) := cutB_len A
    generalize cutA A = a at *
    generalize cutA B = b at *
    generalize cutB A = A' at *
    generalize cutB B = B' at *
    generalize cutF A = fa at *
    generalize cutF B = fb at *
    by_cases hab : a = b
    · subst hab
      clear T3 HC
      cases fa with
      | false =>
        have HE2 : Hid (les A B = fb) := HE.out rfl (.inl rfl)
        clear HE HD HF
        go_wp2_with fail
        go_ret
        refine ⟨?_, B2.out⟩
        rw [HL.out, HE2.out]
        rfl
      | true =>
        cases fb with
        | false =>
          have HE2 : Hid (les A B = false) := HE.out rfl (.inr rfl)
          clear HE HD HF
          go_wp2_with fail
          go_ret
          refine ⟨?_, B2.out⟩
          rw [HL.out, HE2.out]
          rfl
        | true =>
          have hlt := HF.out rfl
          have HL2 : Hid (les P Q = les A' B') := HL.out.trans (HD.out rfl rfl rfl)
          go_wp2_with fail
          go_roundg A'.length
          case measure => omega
          case rel => exact ⟨A', B', rfl, rfl, rfl, by omega, by omega, HL2, B2⟩
    · have e1 : (a == b) = false := by simp [hab]
      have t3 := T3.out
      go_wp2_with fail
      go_ret
      refine ⟨?_, B2.out⟩
      rw [HL.out, HC.out hab]
      rfl
end Go.Proofs.YtbefmcagpmgkiaaDoor
