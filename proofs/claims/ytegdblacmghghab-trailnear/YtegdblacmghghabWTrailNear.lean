/- TrailNear's walk. -/
import Derived.Test.YtegdblacmghghabTrlD
namespace Go.Proofs.Ytegdblacmghghab
open Go.ChangeShapes Go.WideShapes Go.ChangeAt Go.RowKit Go.Deep
set_option linter.unusedVariables false
theorem cln_len (s : Tx) : (cln s).1.length ≤ 200 := by
  rcases cln_cases s with ⟨l, e, h1, h2, _⟩ | e | e
  · rw [e]
    exact jn_len l h2 (fun p hp => ((isPart_iff p).1 (h1 p hp)).2.2.1)
  · rw [e]; simp
  · rw [e]; simp
set_option maxHeartbeats 4000000 in
theorem trailNear_walk (a b c : ByteArray) (w : World) (ha : a.size ≤ 140737488355328) (hb : b.size ≤ 140737488355328) (hc : c.size ≤ 140737488355328) :
    Calls Try.prog 3 #[.string a, .string b, .string c] w fun e w' => e = .returned (.bool true) ∧ Below w.heap.size w w' := by
  obtain ⟨A, rfl⟩ : ∃ A, a = tx A := ⟨_, tx_mk a⟩
  obtain ⟨B, rfl⟩ : ∃ B, b = tx B := ⟨_, tx_mk b⟩
  obtain ⟨C, rfl⟩ : ∃ C, c = tx C := ⟨_, tx_mk c⟩
  rw [tx_size] at ha hb hc
  have K1 : Hid (∀ w, Calls Try.prog 4 #[.string (tx A)] w fun e w' => e = .returned (.tuple #[.string (tx (cln A).1), .int .i64 (cln A).2]) ∧ Below w.heap.size w w') := clean_is A (by omega)
  have K2 : Hid (∀ w, Calls Try.prog 4 #[.string (tx B)] w fun e w' => e = .returned (.tuple #[.string (tx (cln B).1), .int .i64 (cln B).2]) ∧ Below w.heap.size w w') := clean_is B (by omega)
  have K3 : Hid (∀ w, Calls Try.prog 4 #[.string (tx C)] w fun e w' => e = .returned (.tuple #[.string (tx (cln C).1), .int .i64 (cln C).2]) ∧ Below w.heap.size w w') := clean_is C (by omega)
  have l1 := cln_len A
  have l2 := cln_len B
  have l3 := cln_len C
  generalize (cln A).1 = P at *
  generalize (cln B).1 = Q at *
  generalize (cln C).1 = R at *
  generalize (cln A).2 = e1 at *
  generalize (cln B).2 = e2 at *
  generalize (cln C).2 = e3 at *
  have KPR : Hid (∀ w, Calls Try.prog 6 #[.string (tx P), .string (tx R)] w fun e w' => e = .returned (.bool (inn P R)) ∧ Below w.heap.size w w') := in_is P R (by omega)
  have KPQ : Hid (∀ w, Calls Try.prog 6 #[.string (tx P), .string (tx Q)] w fun e w' => e = .returned (.bool (inn P Q)) ∧ Below w.heap.size w w') := in_is P Q (by omega)
  have LQP : Hid (∀ w, Calls Try.prog 7 #[.string (tx Q), .string (tx P)] w fun e w' => e = .returned (.bool (les Q P)) ∧ Below w.heap.size w w') := less_is Q P (by omega) (by omega)
  have LQR : Hid (∀ w, Calls Try.prog 7 #[.string (tx Q), .string (tx R)] w fun e w' => e = .returned (.bool (les Q R)) ∧ Below w.heap.size w w') := less_is Q R (by omega) (by omega)
  have LPR : Hid (∀ w, Calls Try.prog 7 #[.string (tx P), .string (tx R)] w fun e w' => e = .returned (.bool (les P R)) ∧ Below w.heap.size w w') := less_is P R (by omega) (by omega)
  have KW : Hid (∀ w, Calls Try.prog 5 #[] w fun e w' => e = .returned (.bool true) ∧ Below w.heap.size w w') := works_is
  have HN : Hid (inn P R = true → les Q P = false → les Q R = true → inn P Q = true) := near P Q R
  have HI : Hid (inn P R = true → P ≠ R → les P R = true) := inn_les P R
  have t1 := tx_toList P
  have t2 := tx_toList R
  generalize inn P R = xPR at *
  generalize inn P Q = xPQ at *
  generalize les Q P = yQP at *
  generalize les Q R = yQR at *
  generalize les P R = yPR at *
  have HX : (e1 ≠ 0) ∨ (e1 = 0 ∧ e2 ≠ 0) ∨ (e1 = 0 ∧ e2 = 0 ∧ e3 ≠ 0) ∨ (e1 = 0 ∧ e2 = 0 ∧ e3 = 0) := by omega
  have HY : xPR = false ∨ (xPR = true ∧ yQP = true) ∨ (xPR = true ∧ yQP = false ∧ yQR = false) ∨ (xPR = true ∧ yQP = false ∧ yQR = true ∧ xPQ = true) := by
    have := HN.out
    cases xPR <;> cases yQP <;> cases yQR <;> cases xPQ <;> simp_all
  have HZ : Hid (xPR = true → P ≠ R → yPR = true) := HI.out
  clear HN HI
  go_enter Try.func3, Try.ntmps3
  go_wp2_with fail
  refine (K1.out _).mono ?_
  rintro e w1 ⟨rfl, hb1⟩
  have B1 : Hid (Below w.heap.size w w1) := hb1
  clear hb1
  go_wp2_with fail
  refine (K2.out _).mono ?_
  rintro e w2 ⟨rfl, hb2⟩
  have B2 : Hid (Below w.heap.size w w2) := B1.out.trans (hb2.mono B1.out.size)
  clear hb2
  go_wp2_with fail
  refine (K3.out _).mono ?_
  rintro e w3 ⟨rfl, hb3⟩
  have B3 : Hid (Below w.heap.size w w3) := B2.out.trans (hb3.mono B2.out.size)
  clear hb3
  rcases HX with h | ⟨rfl, h⟩ | ⟨rfl, rfl, h⟩ | ⟨rfl, rfl, rfl⟩
  · go_wp2_with fail
    refine (KW.out _).mono ?_
    rintro e w4 ⟨rfl, hb4⟩
    have B4 : Hid (Below w.heap.size w w4) := B3.out.trans (hb4.mono B3.out.size)
    clear hb4
    go_wp2_with fail
    go_ret
    exact ⟨rfl, B4.out⟩
  · go_wp2_with fail
    refine (KW.out _).mono ?_
    rintro e w4 ⟨rfl, hb4⟩
    have B4 : Hid (Below w.heap.size w w4) := B3.out.trans (hb4.mono B3.out.size)
    clear hb4
    go_wp2_with fail
    go_ret
    exact ⟨rfl, B4.out⟩
  · go_wp2_with fail
    refine (KW.out _).mono ?_
    rintro e w4 ⟨rfl, hb4⟩
    have B4 : Hid (Below w.heap.size w w4) := B3.out.trans (hb4.mono B3.out.size)
    clear hb4
    go_wp2_with fail
    go_ret
    exact ⟨rfl, B4.out⟩
  · rcases HY with rfl | ⟨rfl, rfl⟩ | ⟨rfl, rfl, rfl⟩ | ⟨rfl, rfl, rfl, rfl⟩
    · go_wp2_with fail
      refine (KPR.out _).mono ?_
      rintro e w4 ⟨rfl, hb4⟩
      have B4 : Hid (Below w.heap.size w w4) := B3.out.trans (hb4.mono B3.out.size)
      clear hb4
      go_wp2_with fail
      refine (KPR.out _).mono ?_
      rintro e w5 ⟨rfl, hb5⟩
      have B5 : Hid (Below w.heap.size w w5) := B4.out.trans (hb5.mono B4.out.size)
      clear hb5
      go_wp2_with fail
      refine (KW.out _).mono ?_
      rintro e w6 ⟨rfl, hb6⟩
      have B6 : Hid (Below w.heap.size w w6) := B5.out.trans (hb6.mono B5.out.size)
      clear hb6
      go_wp2_with fail
      go_ret
      exact ⟨rfl, B6.out⟩
    · by_cases hpr : P = R
      · have e1 : (P == R) = true := by simp [hpr]
        clear hpr
        go_wp2_with fail
        refine (KPR.out _).mono ?_
        rintro e w4 ⟨rfl, hb4⟩
        have B4 : Hid (Below w.heap.size w w4) := B3.out.trans (hb4.mono B3.out.size)
        clear hb4
        go_wp2_with fail
        refine (LQP.out _).mono ?_
        rintro e w5 ⟨rfl, hb5⟩
        have B5 : Hid (Below w.heap.size w w5) := B4.out.trans (hb5.mono B4.out.size)
        clear hb5
        go_wp2_with fail
        refine (KPR.out _).mono ?_
        rintro e w6 ⟨rfl, hb6⟩
        have B6 : Hid (Below w.heap.size w w6) := B5.out.trans (hb6.mono B5.out.size)
        clear hb6
        go_wp2_with fail
        refine (KW.out _).mono ?_
        rintro e w7 ⟨rfl, hb7⟩
        have B7 : Hid (Below w.heap.size w w7) := B6.out.trans (hb7.mono B6.out.size)
        clear hb7
        go_wp2_with fail
        go_ret
        exact ⟨rfl, B7.out⟩
      · have e1 : (P == R) = false := by simp [hpr]
        have ey : yPR = true := HZ.out rfl hpr
        subst ey
        clear hpr
        go_wp2_with fail
        refine (KPR.out _).mono ?_
        rintro e w4 ⟨rfl, hb4⟩
        have B4 : Hid (Below w.heap.size w w4) := B3.out.trans (hb4.mono B3.out.size)
        clear hb4
        go_wp2_with fail
        refine (LQP.out _).mono ?_
        rintro e w5 ⟨rfl, hb5⟩
        have B5 : Hid (Below w.heap.size w w5) := B4.out.trans (hb5.mono B4.out.size)
        clear hb5
        go_wp2_with fail
        refine (KPR.out _).mono ?_
        rintro e w6 ⟨rfl, hb6⟩
        have B6 : Hid (Below w.heap.size w w6) := B5.out.trans (hb6.mono B5.out.size)
        clear hb6
        go_wp2_with fail
        refine (LPR.out _).mono ?_
        rintro e w7 ⟨rfl, hb7⟩
        have B7 : Hid (Below w.heap.size w w7) := B6.out.trans (hb7.mono B6.out.size)
        clear hb7
        go_wp2_with fail
        refine (KW.out _).mono ?_
        rintro e w8 ⟨rfl, hb8⟩
        have B8 : Hid (Below w.heap.size w w8) := B7.out.trans (hb8.mono B7.out.size)
        clear hb8
        go_wp2_with fail
        go_ret
        exact ⟨rfl, B8.out⟩
    · by_cases hpr : P = R
      · have e1 : (P == R) = true := by simp [hpr]
        clear hpr
        go_wp2_with fail
        refine (KPR.out _).mono ?_
        rintro e w4 ⟨rfl, hb4⟩
        have B4 : Hid (Below w.heap.size w w4) := B3.out.trans (hb4.mono B3.out.size)
        clear hb4
        go_wp2_with fail
        refine (LQP.out _).mono ?_
        rintro e w5 ⟨rfl, hb5⟩
        have B5 : Hid (Below w.heap.size w w5) := B4.out.trans (hb5.mono B4.out.size)
        clear hb5
        go_wp2_with fail
        refine (LQR.out _).mono ?_
        rintro e w6 ⟨rfl, hb6⟩
        have B6 : Hid (Below w.heap.size w w6) := B5.out.trans (hb6.mono B5.out.size)
        clear hb6
        go_wp2_with fail
        refine (KPR.out _).mono ?_
        rintro e w7 ⟨rfl, hb7⟩
        have B7 : Hid (Below w.heap.size w w7) := B6.out.trans (hb7.mono B6.out.size)
        clear hb7
        go_wp2_with fail
        refine (KW.out _).mono ?_
        rintro e w8 ⟨rfl, hb8⟩
        have B8 : Hid (Below w.heap.size w w8) := B7.out.trans (hb8.mono B7.out.size)
        clear hb8
        go_wp2_with fail
        go_ret
        exact ⟨rfl, B8.out⟩
      · have e1 : (P == R) = false := by simp [hpr]
        have ey : yPR = true := HZ.out rfl hpr
        subst ey
        clear hpr
        go_wp2_with fail
        refine (KPR.out _).mono ?_
        rintro e w4 ⟨rfl, hb4⟩
        have B4 : Hid (Below w.heap.size w w4) := B3.out.trans (hb4.mono B3.out.size)
        clear hb4
        go_wp2_with fail
        refine (LQP.out _).mono ?_
        rintro e w5 ⟨rfl, hb5⟩
        have B5 : Hid (Below w.heap.size w w5) := B4.out.trans (hb5.mono B4.out.size)
        clear hb5
        go_wp2_with fail
        refine (LQR.out _).mono ?_
        rintro e w6 ⟨rfl, hb6⟩
        have B6 : Hid (Below w.heap.size w w6) := B5.out.trans (hb6.mono B5.out.size)
        clear hb6
        go_wp2_with fail
        refine (KPR.out _).mono ?_
        rintro e w7 ⟨rfl, hb7⟩
        have B7 : Hid (Below w.heap.size w w7) := B6.out.trans (hb7.mono B6.out.size)
        clear hb7
        go_wp2_with fail
        refine (LPR.out _).mono ?_
        rintro e w8 ⟨rfl, hb8⟩
        have B8 : Hid (Below w.heap.size w w8) := B7.out.trans (hb8.mono B7.out.size)
        clear hb8
        go_wp2_with fail
        refine (KW.out _).mono ?_
        rintro e w9 ⟨rfl, hb9⟩
        have B9 : Hid (Below w.heap.size w w9) := B8.out.trans (hb9.mono B8.out.size)
        clear hb9
        go_wp2_with fail
        go_ret
        exact ⟨rfl, B9.out⟩
    · by_cases hpr : P = R
      · have e1 : (P == R) = true := by simp [hpr]
        clear hpr
        go_wp2_with fail
        refine (KPR.out _).mono ?_
        rintro e w4 ⟨rfl, hb4⟩
        have B4 : Hid (Below w.heap.size w w4) := B3.out.trans (hb4.mono B3.out.size)
        clear hb4
        go_wp2_with fail
        refine (LQP.out _).mono ?_
        rintro e w5 ⟨rfl, hb5⟩
        have B5 : Hid (Below w.heap.size w w5) := B4.out.trans (hb5.mono B4.out.size)
        clear hb5
        go_wp2_with fail
        refine (LQR.out _).mono ?_
        rintro e w6 ⟨rfl, hb6⟩
        have B6 : Hid (Below w.heap.size w w6) := B5.out.trans (hb6.mono B5.out.size)
        clear hb6
        go_wp2_with fail
        refine (KPQ.out _).mono ?_
        rintro e w7 ⟨rfl, hb7⟩
        have B7 : Hid (Below w.heap.size w w7) := B6.out.trans (hb7.mono B6.out.size)
        clear hb7
        go_wp2_with fail
        refine (KPR.out _).mono ?_
        rintro e w8 ⟨rfl, hb8⟩
        have B8 : Hid (Below w.heap.size w w8) := B7.out.trans (hb8.mono B7.out.size)
        clear hb8
        go_wp2_with fail
        refine (KW.out _).mono ?_
        rintro e w9 ⟨rfl, hb9⟩
        have B9 : Hid (Below w.heap.size w w9) := B8.out.trans (hb9.mono B8.out.size)
        clear hb9
        go_wp2_with fail
        go_ret
        exact ⟨rfl, B9.out⟩
      · have e1 : (P == R) = false := by simp [hpr]
        have ey : yPR = true := HZ.out rfl hpr
        subst ey
        clear hpr
        go_wp2_with fail
        refine (KPR.out _).mono ?_
        rintro e w4 ⟨rfl, hb4⟩
        have B4 : Hid (Below w.heap.size w w4) := B3.out.trans (hb4.mono B3.out.size)
        clear hb4
        go_wp2_with fail
        refine (LQP.out _).mono ?_
        rintro e w5 ⟨rfl, hb5⟩
        have B5 : Hid (Below w.heap.size w w5) := B4.out.trans (hb5.mono B4.out.size)
        clear hb5
        go_wp2_with fail
        refine (LQR.out _).mono ?_
        rintro e w6 ⟨rfl, hb6⟩
        have B6 : Hid (Below w.heap.size w w6) := B5.out.trans (hb6.mono B5.out.size)
        clear hb6
        go_wp2_with fail
        refine (KPQ.out _).mono ?_
        rintro e w7 ⟨rfl, hb7⟩
        have B7 : Hid (Below w.heap.size w w7) := B6.out.trans (hb7.mono B6.out.size)
        clear hb7
        go_wp2_with fail
        refine (KPR.out _).mono ?_
        rintro e w8 ⟨rfl, hb8⟩
        have B8 : Hid (Below w.heap.size w w8) := B7.out.trans (hb8.mono B7.out.size)
        clear hb8
        go_wp2_with fail
        refine (LPR.out _).mono ?_
        rintro e w9 ⟨rfl, hb9⟩
        have B9 : Hid (Below w.heap.size w w9) := B8.out.trans (hb9.mono B8.out.size)
        clear hb9
        go_wp2_with fail
        refine (KW.out _).mono ?_
        rintro e w10 ⟨rfl, hb10⟩
        have B10 : Hid (Below w.heap.size w w10) := B9.out.trans (hb10.mono B9.out.size)
        clear hb10
        go_wp2_with fail
        go_ret
        exact ⟨rfl, B10.out⟩
end Go.Proofs.Ytegdblacmghghab
