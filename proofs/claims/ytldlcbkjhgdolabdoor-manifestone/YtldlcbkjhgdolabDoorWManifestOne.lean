/- ManifestOne's walk. -/
import Derived.Test.YtldlcbkjhgdolabDoorManK
namespace Go.Proofs.YtldlcbkjhgdolabDoor
open Go.ChangeShapes Go.WideShapes Go.ChangeAt Go.RowKit Go.Deep Go.Maps
set_option linter.unusedVariables false
set_option maxRecDepth 100000 in
set_option maxHeartbeats 8000000 in
theorem manifestOne_walk (a b c : ByteArray) (w : World) (ha : a.size ≤ 140737488355328) (hb : b.size ≤ 140737488355328) (hc : c.size ≤ 140737488355328) :
    Calls Tryd.prog 6 #[.string a, .string b, .string c] w fun e w' => e = .returned (.bool true) ∧ Below w.heap.size w w' := by
  obtain ⟨A, rfl⟩ : ∃ A, a = tx A := ⟨_, tx_mk a⟩
  obtain ⟨B, rfl⟩ : ∃ A, b = tx A := ⟨_, tx_mk b⟩
  obtain ⟨C, rfl⟩ : ∃ A, c = tx A := ⟨_, tx_mk c⟩
  have KW : Hid (∀ w, Calls Tryd.prog 8 #[] w fun e w' => e = .returned (.bool true) ∧ Below w.heap.size w w') := worksM_is
  have sA := tx_size A
  have sB := tx_size B
  have sC := tx_size C
  rw [sA] at ha
  rw [sB] at hb
  rw [sC] at hc
  have B0 : Hid (Below w.heap.size w w) := Below.refl _ _
  have KAB : Hid (∀ w, Calls Tryd.prog 9 #[.string (tx A), .string (tx B)] w fun e w' => e = .returned (.int .i64 (ord A B)) ∧ Below w.heap.size w w') := order_is A B (by omega) (by omega)
  have KBC : Hid (∀ w, Calls Tryd.prog 9 #[.string (tx B), .string (tx C)] w fun e w' => e = .returned (.int .i64 (ord B C)) ∧ Below w.heap.size w w') := order_is B C (by omega) (by omega)
  have KAC : Hid (∀ w, Calls Tryd.prog 9 #[.string (tx A), .string (tx C)] w fun e w' => e = .returned (.int .i64 (ord A C)) ∧ Below w.heap.size w w') := order_is A C (by omega) (by omega)
  have KBA : Hid (∀ w, Calls Tryd.prog 9 #[.string (tx B), .string (tx A)] w fun e w' => e = .returned (.int .i64 (ord B A)) ∧ Below w.heap.size w w') := order_is B A (by omega) (by omega)
  have KAA : Hid (∀ w, Calls Tryd.prog 9 #[.string (tx A), .string (tx A)] w fun e w' => e = .returned (.int .i64 (ord A A)) ∧ Below w.heap.size w w') := order_is A A (by omega) (by omega)
  rw [good_ord.anti A B] at KBA
  rw [good_ord.refl A] at KAA
  have rx := good_ord.rng A B
  have ry := good_ord.rng B C
  have rz := good_ord.rng A C
  have tr := good_ord.tr A B C
  have tr2 := good_ord.tr C B A
  have an1 := good_ord.anti A B
  have an2 := good_ord.anti B C
  have an3 := good_ord.anti A C
  have te := tx_eq A B
  have hz : ord A B = 0 ↔ A = B := ord_zero A B
  obtain ⟨nA, hnA⟩ : ∃ n, n = A.length := ⟨_, rfl⟩
  obtain ⟨nB, hnB⟩ : ∃ n, n = B.length := ⟨_, rfl⟩
  obtain ⟨nC, hnC⟩ : ∃ n, n = C.length := ⟨_, rfl⟩
  rw [← hnA] at sA ha
  rw [← hnB] at sB hb
  rw [← hnC] at sC hc
  clear hnA hnB hnC
  by_cases h1 : 5000 < nA
  · have e1 : (5000 : Int) < (nA : Int) := by omega
    clear rx ry rz tr tr2 an1 an2 an3 te hz
    go_enter Tryd.func6, Tryd.ntmps6
    go_wp2_with fail
    refine (KW.out _).mono ?_
    rintro e w1 ⟨rfl, hb1⟩
    have B1 : Hid (Below w.heap.size w w1) := B0.out.trans (hb1.mono B0.out.size)
    clear hb1
    go_wp2_with fail
    go_ret
    exact ⟨rfl, B1.out⟩
  · have e1 : ¬ (5000 : Int) < (nA : Int) := by omega
    by_cases h2 : 5000 < nB
    · have e2 : (5000 : Int) < (nB : Int) := by omega
      clear rx ry rz tr tr2 an1 an2 an3 te hz
      go_enter Tryd.func6, Tryd.ntmps6
      go_wp2_with fail
      refine (KW.out _).mono ?_
      rintro e w1 ⟨rfl, hb1⟩
      have B1 : Hid (Below w.heap.size w w1) := B0.out.trans (hb1.mono B0.out.size)
      clear hb1
      go_wp2_with fail
      go_ret
      exact ⟨rfl, B1.out⟩
    · have e2 : ¬ (5000 : Int) < (nB : Int) := by omega
      by_cases h3 : 5000 < nC
      · have e3 : (5000 : Int) < (nC : Int) := by omega
        clear rx ry rz tr tr2 an1 an2 an3 te hz
        go_enter Tryd.func6, Tryd.ntmps6
        go_wp2_with fail
        refine (KW.out _).mono ?_
        rintro e w1 ⟨rfl, hb1⟩
        have B1 : Hid (Below w.heap.size w w1) := B0.out.trans (hb1.mono B0.out.size)
        clear hb1
        go_wp2_with fail
        go_ret
        exact ⟨rfl, B1.out⟩
      · have e3 : ¬ (5000 : Int) < (nC : Int) := by omega
        generalize ord A B = x at *
        generalize ord B C = y at *
        generalize ord A C = z at *
        have cases7 : x = 1 ∨ (x = -1 ∧ y = 1) ∨ (x = 0 ∧ y = 1) ∨ (x = -1 ∧ y = -1 ∧ z = -1) ∨ (x = -1 ∧ y = 0 ∧ z = -1) ∨ (x = 0 ∧ y = -1 ∧ z = -1) ∨ (x = 0 ∧ y = 0 ∧ z = 0) := by
          have t1 : x ≤ 0 → y ≤ 0 → z ≤ 0 := fun a b => (tr a b).1
          have t2 : x ≤ 0 → y ≤ 0 → x + y < 0 → z < 0 := fun a b => (tr a b).2
          have t3 : 0 ≤ x → 0 ≤ y → 0 ≤ z := fun a b => by have := (tr2 (by omega) (by omega)).1; omega
          clear tr tr2 hz te
          rcases rx with h | h | h
          · rcases ry with k | k | k
            · have := t2 (by omega) (by omega) (by omega); omega
            · have := t2 (by omega) (by omega) (by omega); omega
            · omega
          · rcases ry with k | k | k
            · have := t2 (by omega) (by omega) (by omega); omega
            · have := t1 (by omega) (by omega); have := t3 (by omega) (by omega); omega
            · omega
          · omega
        clear rx ry rz tr tr2 an1 an2 an3
        rcases cases7 with rfl | ⟨rfl, rfl⟩ | ⟨rfl, rfl⟩ | ⟨rfl, rfl, rfl⟩ | ⟨rfl, rfl, rfl⟩ | ⟨rfl, rfl, rfl⟩ | ⟨rfl, rfl, rfl⟩
        · have hE : ¬ A = B := fun h => by have := hz.2 h; omega
          rw [decide_eq_false hE] at te
          clear hE hz
          go_enter Tryd.func6, Tryd.ntmps6
          go_wp2_with fail
          refine (KAB.out _).mono ?_
          rintro e w1 ⟨rfl, hb1⟩
          have B1 : Hid (Below w.heap.size w w1) := B0.out.trans (hb1.mono B0.out.size)
          clear hb1
          go_wp2_with fail
          refine (KBC.out _).mono ?_
          rintro e w2 ⟨rfl, hb2⟩
          have B2 : Hid (Below w.heap.size w w2) := B1.out.trans (hb2.mono B1.out.size)
          clear hb2
          go_wp2_with fail
          refine (KAC.out _).mono ?_
          rintro e w3 ⟨rfl, hb3⟩
          have B3 : Hid (Below w.heap.size w w3) := B2.out.trans (hb3.mono B2.out.size)
          clear hb3
          go_wp2_with fail
          refine (KBA.out _).mono ?_
          rintro e w4 ⟨rfl, hb4⟩
          have B4 : Hid (Below w.heap.size w w4) := B3.out.trans (hb4.mono B3.out.size)
          clear hb4
          go_wp2_with fail
          refine (KAA.out _).mono ?_
          rintro e w5 ⟨rfl, hb5⟩
          have B5 : Hid (Below w.heap.size w w5) := B4.out.trans (hb5.mono B4.out.size)
          clear hb5
          go_wp2_with fail
          refine (KW.out _).mono ?_
          rintro e w6 ⟨rfl, hb6⟩
          have B6 : Hid (Below w.heap.size w w6) := B5.out.trans (hb6.mono B5.out.size)
          clear hb6
          go_wp2_with fail
          go_ret
          exact ⟨rfl, B6.out⟩
        · have hE : ¬ A = B := fun h => by have := hz.2 h; omega
          rw [decide_eq_false hE] at te
          clear hE hz
          go_enter Tryd.func6, Tryd.ntmps6
          go_wp2_with fail
          refine (KAB.out _).mono ?_
          rintro e w1 ⟨rfl, hb1⟩
          have B1 : Hid (Below w.heap.size w w1) := B0.out.trans (hb1.mono B0.out.size)
          clear hb1
          go_wp2_with fail
          refine (KBC.out _).mono ?_
          rintro e w2 ⟨rfl, hb2⟩
          have B2 : Hid (Below w.heap.size w w2) := B1.out.trans (hb2.mono B1.out.size)
          clear hb2
          go_wp2_with fail
          refine (KAC.out _).mono ?_
          rintro e w3 ⟨rfl, hb3⟩
          have B3 : Hid (Below w.heap.size w w3) := B2.out.trans (hb3.mono B2.out.size)
          clear hb3
          go_wp2_with fail
          refine (KBA.out _).mono ?_
          rintro e w4 ⟨rfl, hb4⟩
          have B4 : Hid (Below w.heap.size w w4) := B3.out.trans (hb4.mono B3.out.size)
          clear hb4
          go_wp2_with fail
          refine (KAA.out _).mono ?_
          rintro e w5 ⟨rfl, hb5⟩
          have B5 : Hid (Below w.heap.size w w5) := B4.out.trans (hb5.mono B4.out.size)
          clear hb5
          go_wp2_with fail
          refine (KW.out _).mono ?_
          rintro e w6 ⟨rfl, hb6⟩
          have B6 : Hid (Below w.heap.size w w6) := B5.out.trans (hb6.mono B5.out.size)
          clear hb6
          go_wp2_with fail
          go_ret
          exact ⟨rfl, B6.out⟩
        · have hE : A = B := hz.1 rfl
          rw [decide_eq_true hE] at te
          clear hE hz
          go_enter Tryd.func6, Tryd.ntmps6
          go_wp2_with fail
          refine (KAB.out _).mono ?_
          rintro e w1 ⟨rfl, hb1⟩
          have B1 : Hid (Below w.heap.size w w1) := B0.out.trans (hb1.mono B0.out.size)
          clear hb1
          go_wp2_with fail
          refine (KBC.out _).mono ?_
          rintro e w2 ⟨rfl, hb2⟩
          have B2 : Hid (Below w.heap.size w w2) := B1.out.trans (hb2.mono B1.out.size)
          clear hb2
          go_wp2_with fail
          refine (KAC.out _).mono ?_
          rintro e w3 ⟨rfl, hb3⟩
          have B3 : Hid (Below w.heap.size w w3) := B2.out.trans (hb3.mono B2.out.size)
          clear hb3
          go_wp2_with fail
          refine (KBA.out _).mono ?_
          rintro e w4 ⟨rfl, hb4⟩
          have B4 : Hid (Below w.heap.size w w4) := B3.out.trans (hb4.mono B3.out.size)
          clear hb4
          go_wp2_with fail
          refine (KAA.out _).mono ?_
          rintro e w5 ⟨rfl, hb5⟩
          have B5 : Hid (Below w.heap.size w w5) := B4.out.trans (hb5.mono B4.out.size)
          clear hb5
          go_wp2_with fail
          refine (KW.out _).mono ?_
          rintro e w6 ⟨rfl, hb6⟩
          have B6 : Hid (Below w.heap.size w w6) := B5.out.trans (hb6.mono B5.out.size)
          clear hb6
          go_wp2_with fail
          go_ret
          exact ⟨rfl, B6.out⟩
        · have hE : ¬ A = B := fun h => by have := hz.2 h; omega
          rw [decide_eq_false hE] at te
          clear hE hz
          go_enter Tryd.func6, Tryd.ntmps6
          go_wp2_with fail
          refine (KAB.out _).mono ?_
          rintro e w1 ⟨rfl, hb1⟩
          have B1 : Hid (Below w.heap.size w w1) := B0.out.trans (hb1.mono B0.out.size)
          clear hb1
          go_wp2_with fail
          refine (KBC.out _).mono ?_
          rintro e w2 ⟨rfl, hb2⟩
          have B2 : Hid (Below w.heap.size w w2) := B1.out.trans (hb2.mono B1.out.size)
          clear hb2
          go_wp2_with fail
          refine (KAC.out _).mono ?_
          rintro e w3 ⟨rfl, hb3⟩
          have B3 : Hid (Below w.heap.size w w3) := B2.out.trans (hb3.mono B2.out.size)
          clear hb3
          go_wp2_with fail
          refine (KBA.out _).mono ?_
          rintro e w4 ⟨rfl, hb4⟩
          have B4 : Hid (Below w.heap.size w w4) := B3.out.trans (hb4.mono B3.out.size)
          clear hb4
          go_wp2_with fail
          refine (KAA.out _).mono ?_
          rintro e w5 ⟨rfl, hb5⟩
          have B5 : Hid (Below w.heap.size w w5) := B4.out.trans (hb5.mono B4.out.size)
          clear hb5
          go_wp2_with fail
          refine (KW.out _).mono ?_
          rintro e w6 ⟨rfl, hb6⟩
          have B6 : Hid (Below w.heap.size w w6) := B5.out.trans (hb6.mono B5.out.size)
          clear hb6
          go_wp2_with fail
          go_ret
          exact ⟨rfl, B6.out⟩
        · have hE : ¬ A = B := fun h => by have := hz.2 h; omega
          rw [decide_eq_false hE] at te
          clear hE hz
          go_enter Tryd.func6, Tryd.ntmps6
          go_wp2_with fail
          refine (KAB.out _).mono ?_
          rintro e w1 ⟨rfl, hb1⟩
          have B1 : Hid (Below w.heap.size w w1) := B0.out.trans (hb1.mono B0.out.size)
          clear hb1
          go_wp2_with fail
          refine (KBC.out _).mono ?_
          rintro e w2 ⟨rfl, hb2⟩
          have B2 : Hid (Below w.heap.size w w2) := B1.out.trans (hb2.mono B1.out.size)
          clear hb2
          go_wp2_with fail
          refine (KAC.out _).mono ?_
          rintro e w3 ⟨rfl, hb3⟩
          have B3 : Hid (Below w.heap.size w w3) := B2.out.trans (hb3.mono B2.out.size)
          clear hb3
          go_wp2_with fail
          refine (KBA.out _).mono ?_
          rintro e w4 ⟨rfl, hb4⟩
          have B4 : Hid (Below w.heap.size w w4) := B3.out.trans (hb4.mono B3.out.size)
          clear hb4
          go_wp2_with fail
          refine (KAA.out _).mono ?_
          rintro e w5 ⟨rfl, hb5⟩
          have B5 : Hid (Below w.heap.size w w5) := B4.out.trans (hb5.mono B4.out.size)
          clear hb5
          go_wp2_with fail
          refine (KW.out _).mono ?_
          rintro e w6 ⟨rfl, hb6⟩
          have B6 : Hid (Below w.heap.size w w6) := B5.out.trans (hb6.mono B5.out.size)
          clear hb6
          go_wp2_with fail
          go_ret
          exact ⟨rfl, B6.out⟩
        · have hE : A = B := hz.1 rfl
          rw [decide_eq_true hE] at te
          clear hE hz
          go_enter Tryd.func6, Tryd.ntmps6
          go_wp2_with fail
          refine (KAB.out _).mono ?_
          rintro e w1 ⟨rfl, hb1⟩
          have B1 : Hid (Below w.heap.size w w1) := B0.out.trans (hb1.mono B0.out.size)
          clear hb1
          go_wp2_with fail
          refine (KBC.out _).mono ?_
          rintro e w2 ⟨rfl, hb2⟩
          have B2 : Hid (Below w.heap.size w w2) := B1.out.trans (hb2.mono B1.out.size)
          clear hb2
          go_wp2_with fail
          refine (KAC.out _).mono ?_
          rintro e w3 ⟨rfl, hb3⟩
          have B3 : Hid (Below w.heap.size w w3) := B2.out.trans (hb3.mono B2.out.size)
          clear hb3
          go_wp2_with fail
          refine (KBA.out _).mono ?_
          rintro e w4 ⟨rfl, hb4⟩
          have B4 : Hid (Below w.heap.size w w4) := B3.out.trans (hb4.mono B3.out.size)
          clear hb4
          go_wp2_with fail
          refine (KAA.out _).mono ?_
          rintro e w5 ⟨rfl, hb5⟩
          have B5 : Hid (Below w.heap.size w w5) := B4.out.trans (hb5.mono B4.out.size)
          clear hb5
          go_wp2_with fail
          refine (KW.out _).mono ?_
          rintro e w6 ⟨rfl, hb6⟩
          have B6 : Hid (Below w.heap.size w w6) := B5.out.trans (hb6.mono B5.out.size)
          clear hb6
          go_wp2_with fail
          go_ret
          exact ⟨rfl, B6.out⟩
        · have hE : A = B := hz.1 rfl
          rw [decide_eq_true hE] at te
          clear hE hz
          go_enter Tryd.func6, Tryd.ntmps6
          go_wp2_with fail
          refine (KAB.out _).mono ?_
          rintro e w1 ⟨rfl, hb1⟩
          have B1 : Hid (Below w.heap.size w w1) := B0.out.trans (hb1.mono B0.out.size)
          clear hb1
          go_wp2_with fail
          refine (KBC.out _).mono ?_
          rintro e w2 ⟨rfl, hb2⟩
          have B2 : Hid (Below w.heap.size w w2) := B1.out.trans (hb2.mono B1.out.size)
          clear hb2
          go_wp2_with fail
          refine (KAC.out _).mono ?_
          rintro e w3 ⟨rfl, hb3⟩
          have B3 : Hid (Below w.heap.size w w3) := B2.out.trans (hb3.mono B2.out.size)
          clear hb3
          go_wp2_with fail
          refine (KBA.out _).mono ?_
          rintro e w4 ⟨rfl, hb4⟩
          have B4 : Hid (Below w.heap.size w w4) := B3.out.trans (hb4.mono B3.out.size)
          clear hb4
          go_wp2_with fail
          refine (KAA.out _).mono ?_
          rintro e w5 ⟨rfl, hb5⟩
          have B5 : Hid (Below w.heap.size w w5) := B4.out.trans (hb5.mono B4.out.size)
          clear hb5
          go_wp2_with fail
          refine (KW.out _).mono ?_
          rintro e w6 ⟨rfl, hb6⟩
          have B6 : Hid (Below w.heap.size w w6) := B5.out.trans (hb6.mono B5.out.size)
          clear hb6
          go_wp2_with fail
          go_ret
          exact ⟨rfl, B6.out⟩
end Go.Proofs.YtldlcbkjhgdolabDoor
