/- TrailOne's walk: three texts. -/
import Derived.Test.YtegdblacmghghaaTrlD
namespace Go.Proofs.Ytegdblacmghghaa
open Go.ChangeShapes Go.WideShapes Go.ChangeAt Go.RowKit Go.Deep
set_option linter.unusedVariables false
set_option maxHeartbeats 2000000 in
theorem trailOne_walk (a b c : ByteArray) (w : World) (ha : a.size ≤ 140737488355328) (hb : b.size ≤ 140737488355328) (hc : c.size ≤ 140737488355328) :
    Calls Try.prog 5 #[.string a, .string b, .string c] w fun e w' => e = .returned (.bool true) ∧ Below w.heap.size w w' := by
  obtain ⟨A, rfl⟩ : ∃ A, a = tx A := ⟨_, tx_mk a⟩
  obtain ⟨B, rfl⟩ : ∃ B, b = tx B := ⟨_, tx_mk b⟩
  obtain ⟨C, rfl⟩ : ∃ C, c = tx C := ⟨_, tx_mk c⟩
  rw [tx_size] at ha hb hc
  have KAB : Hid (∀ w, Calls Try.prog 10 #[.string (tx A), .string (tx B)] w fun e w' => e = .returned (.bool (les A B)) ∧ Below w.heap.size w w') := less_is A B (by omega) (by omega)
  have KBC : Hid (∀ w, Calls Try.prog 10 #[.string (tx B), .string (tx C)] w fun e w' => e = .returned (.bool (les B C)) ∧ Below w.heap.size w w') := less_is B C (by omega) (by omega)
  have KAC : Hid (∀ w, Calls Try.prog 10 #[.string (tx A), .string (tx C)] w fun e w' => e = .returned (.bool (les A C)) ∧ Below w.heap.size w w') := less_is A C (by omega) (by omega)
  have KAA : Hid (∀ w, Calls Try.prog 10 #[.string (tx A), .string (tx A)] w fun e w' => e = .returned (.bool false) ∧ Below w.heap.size w w') := fun w => by
    have := less_is A A (by omega) (by omega) w
    rwa [les_irr] at this
  have KBA : Hid (∀ w, Calls Try.prog 10 #[.string (tx B), .string (tx A)] w fun e w' => e = .returned (.bool (les B A)) ∧ Below w.heap.size w w') := less_is B A (by omega) (by omega)
  have KW : Hid (∀ w, Calls Try.prog 9 #[] w fun e w' => e = .returned (.bool true) ∧ Below w.heap.size w w') := works_is
  have HT : Hid (les A B = true → les B C = true → les A C = true) := les_trans A B C
  have HE : Hid ((les A B != les B A) = decide (A ≠ B)) := by
    show _ = _
    by_cases e : A = B
    · subst e; rw [les_irr]; simp
    · rw [les_total A B e]; simp [e]
  have t1 := tx_toList A
  have t2 := tx_toList B
  generalize les A B = x at *
  generalize les B C = y at *
  generalize les A C = z at *
  generalize les B A = x' at *
  have HX : x = false ∨ (x = true ∧ y = false) ∨ (x = true ∧ y = true ∧ z = true) := by
    have := HT.out
    cases x <;> cases y <;> cases z <;> simp_all
  clear HT
  go_enter Try.func5, Try.ntmps5
  rcases HX with rfl | ⟨rfl, rfl⟩ | ⟨rfl, rfl, rfl⟩
  · have e1 : (A == B) = !x' := by
      have := HE.out
      have hd : (A == B) = decide (A = B) := by rw [Bool.eq_iff_iff, beq_iff_eq, decide_eq_true_iff]
      rw [hd]
      cases x' <;> simp_all
    go_wp2_with fail
    refine (KAB.out _).mono ?_
    rintro e w1 ⟨rfl, hb1⟩
    have B1 : Hid (Below w.heap.size w w1) := hb1
    clear hb1
    go_wp2_with fail
    refine (KAA.out _).mono ?_
    rintro e w2 ⟨rfl, hb2⟩
    have B2 : Hid (Below w.heap.size w w2) := B1.out.trans (hb2.mono B1.out.size)
    clear hb2
    go_wp2_with fail
    refine (KAB.out _).mono ?_
    rintro e w3 ⟨rfl, hb3⟩
    have B3 : Hid (Below w.heap.size w w3) := B2.out.trans (hb3.mono B2.out.size)
    clear hb3
    go_wp2_with fail
    refine (KBA.out _).mono ?_
    rintro e w4 ⟨rfl, hb4⟩
    have B4 : Hid (Below w.heap.size w w4) := B3.out.trans (hb4.mono B3.out.size)
    clear hb4
    go_wp2_with fail
    refine (KW.out _).mono ?_
    rintro e w5 ⟨rfl, hb5⟩
    have B5 : Hid (Below w.heap.size w w5) := B4.out.trans (hb5.mono B4.out.size)
    clear hb5
    go_wp2_with fail
    go_ret
    exact ⟨rfl, B5.out⟩
  · have e1 : (A == B) = x' := by
      have := HE.out
      have hd : (A == B) = decide (A = B) := by rw [Bool.eq_iff_iff, beq_iff_eq, decide_eq_true_iff]
      rw [hd]
      cases x' <;> simp_all
    go_wp2_with fail
    refine (KAB.out _).mono ?_
    rintro e w1 ⟨rfl, hb1⟩
    have B1 : Hid (Below w.heap.size w w1) := hb1
    clear hb1
    go_wp2_with fail
    refine (KBC.out _).mono ?_
    rintro e w2 ⟨rfl, hb2⟩
    have B2 : Hid (Below w.heap.size w w2) := B1.out.trans (hb2.mono B1.out.size)
    clear hb2
    go_wp2_with fail
    refine (KAA.out _).mono ?_
    rintro e w3 ⟨rfl, hb3⟩
    have B3 : Hid (Below w.heap.size w w3) := B2.out.trans (hb3.mono B2.out.size)
    clear hb3
    go_wp2_with fail
    refine (KAB.out _).mono ?_
    rintro e w4 ⟨rfl, hb4⟩
    have B4 : Hid (Below w.heap.size w w4) := B3.out.trans (hb4.mono B3.out.size)
    clear hb4
    go_wp2_with fail
    refine (KBA.out _).mono ?_
    rintro e w5 ⟨rfl, hb5⟩
    have B5 : Hid (Below w.heap.size w w5) := B4.out.trans (hb5.mono B4.out.size)
    clear hb5
    go_wp2_with fail
    refine (KW.out _).mono ?_
    rintro e w6 ⟨rfl, hb6⟩
    have B6 : Hid (Below w.heap.size w w6) := B5.out.trans (hb6.mono B5.out.size)
    clear hb6
    go_wp2_with fail
    go_ret
    exact ⟨rfl, B6.out⟩
  · have e1 : (A == B) = x' := by
      have := HE.out
      have hd : (A == B) = decide (A = B) := by rw [Bool.eq_iff_iff, beq_iff_eq, decide_eq_true_iff]
      rw [hd]
      cases x' <;> simp_all
    go_wp2_with fail
    refine (KAB.out _).mono ?_
    rintro e w1 ⟨rfl, hb1⟩
    have B1 : Hid (Below w.heap.size w w1) := hb1
    clear hb1
    go_wp2_with fail
    refine (KBC.out _).mono ?_
    rintro e w2 ⟨rfl, hb2⟩
    have B2 : Hid (Below w.heap.size w w2) := B1.out.trans (hb2.mono B1.out.size)
    clear hb2
    go_wp2_with fail
    refine (KAC.out _).mono ?_
    rintro e w3 ⟨rfl, hb3⟩
    have B3 : Hid (Below w.heap.size w w3) := B2.out.trans (hb3.mono B2.out.size)
    clear hb3
    go_wp2_with fail
    refine (KAA.out _).mono ?_
    rintro e w4 ⟨rfl, hb4⟩
    have B4 : Hid (Below w.heap.size w w4) := B3.out.trans (hb4.mono B3.out.size)
    clear hb4
    go_wp2_with fail
    refine (KAB.out _).mono ?_
    rintro e w5 ⟨rfl, hb5⟩
    have B5 : Hid (Below w.heap.size w w5) := B4.out.trans (hb5.mono B4.out.size)
    clear hb5
    go_wp2_with fail
    refine (KBA.out _).mono ?_
    rintro e w6 ⟨rfl, hb6⟩
    have B6 : Hid (Below w.heap.size w w6) := B5.out.trans (hb6.mono B5.out.size)
    clear hb6
    go_wp2_with fail
    refine (KW.out _).mono ?_
    rintro e w7 ⟨rfl, hb7⟩
    have B7 : Hid (Below w.heap.size w w7) := B6.out.trans (hb7.mono B6.out.size)
    clear hb7
    go_wp2_with fail
    go_ret
    exact ⟨rfl, B7.out⟩
end Go.Proofs.Ytegdblacmghghaa
