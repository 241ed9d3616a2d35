/- ManifestOrders's walk. -/
import Derived.Test.YtldlcbkjhgdolabDoorManS
namespace Go.Proofs.YtldlcbkjhgdolabDoor
open Go.ChangeShapes Go.WideShapes Go.ChangeAt Go.RowKit Go.Deep Go.Maps
set_option linter.unusedVariables false
set_option maxRecDepth 100000 in
set_option maxHeartbeats 8000000 in
theorem manifestOrders_walk (a b : ByteArray) (w : World) (ha : a.size ≤ 140737488355328) (hb : b.size ≤ 140737488355328) :
    Calls Tryd.prog 3 #[.string a, .string b] w fun e w' => e = .returned (.bool true) ∧ Below w.heap.size w w' := by
  obtain ⟨A, rfl⟩ : ∃ A, a = tx A := ⟨_, tx_mk a⟩
  obtain ⟨B, rfl⟩ : ∃ A, b = tx A := ⟨_, tx_mk b⟩
  have KW : Hid (∀ w, Calls Tryd.prog 8 #[] w fun e w' => e = .returned (.bool true) ∧ Below w.heap.size w w') := worksM_is
  have sA := tx_size A
  have sB := tx_size B
  rw [sA] at ha
  rw [sB] at hb
  have B0 : Hid (Below w.heap.size w w) := Below.refl _ _
  have KAB : Hid (∀ w, Calls Tryd.prog 9 #[.string (tx A), .string (tx B)] w fun e w' => e = .returned (.int .i64 (ord A B)) ∧ Below w.heap.size w w') := order_is A B (by omega) (by omega)
  have KR : Hid (A.length ≤ 5000 → B.length ≤ 5000 → ∀ w, Calls Tryd.prog 10 #[.string (tx A), .string (tx B)] w fun e w' => e = .returned (.int .i64 (ord A B)) ∧ Below w.heap.size w w') := fun h1 h2 => rorder_is A B h1 h2
  generalize ord A B = r at *
  generalize A.length = nA at *
  generalize B.length = nB at *
  by_cases h1 : 5000 < nA
  · have e1 : (5000 : Int) < (nA : Int) := by omega
    clear KR
    go_enter Tryd.func3, Tryd.ntmps3
    go_wp2_with fail
    refine (KW.out _).mono ?_
    rintro e w1 ⟨rfl, hb1⟩
    have B1 : Hid (Below w.heap.size w w1) := B0.out.trans (hb1.mono B0.out.size)
    clear hb1
    go_wp2_with fail
    go_ret
    exact ⟨rfl, B1.out⟩
  · have e1 : ¬ (5000 : Int) < (nA : Int) := by omega
    by_cases h2 : 5000 < nB
    · have e2 : (5000 : Int) < (nB : Int) := by omega
      clear KR
      go_enter Tryd.func3, Tryd.ntmps3
      go_wp2_with fail
      refine (KW.out _).mono ?_
      rintro e w1 ⟨rfl, hb1⟩
      have B1 : Hid (Below w.heap.size w w1) := B0.out.trans (hb1.mono B0.out.size)
      clear hb1
      go_wp2_with fail
      go_ret
      exact ⟨rfl, B1.out⟩
    · have e2 : ¬ (5000 : Int) < (nB : Int) := by omega
      have KO : Hid (∀ w, Calls Tryd.prog 10 #[.string (tx A), .string (tx B)] w fun e w' => e = .returned (.int .i64 r) ∧ Below w.heap.size w w') := KR.out (by omega) (by omega)
      clear KR
      go_enter Tryd.func3, Tryd.ntmps3
      go_wp2_with fail
      refine (KAB.out _).mono ?_
      rintro e w1 ⟨rfl, hb1⟩
      have B1 : Hid (Below w.heap.size w w1) := B0.out.trans (hb1.mono B0.out.size)
      clear hb1
      go_wp2_with fail
      refine (KO.out _).mono ?_
      rintro e w2 ⟨rfl, hb2⟩
      have B2 : Hid (Below w.heap.size w w2) := B1.out.trans (hb2.mono B1.out.size)
      clear hb2
      go_wp2_with fail
      refine (KW.out _).mono ?_
      rintro e w3 ⟨rfl, hb3⟩
      have B3 : Hid (Below w.heap.size w w3) := B2.out.trans (hb3.mono B2.out.size)
      clear hb3
      go_wp2_with fail
      go_ret
      exact ⟨rfl, B3.out⟩
end Go.Proofs.YtldlcbkjhgdolabDoor
