/- TrailOrders' walk. -/
import Derived.Test.YtegdblacmghghaaTrlD
import Derived.Test.YtegdblacmghghaaTrlT
namespace Go.Proofs.Ytegdblacmghghaa
open Go.ChangeShapes Go.WideShapes Go.ChangeAt Go.RowKit Go.Deep
set_option linter.unusedVariables false
set_option maxHeartbeats 4000000 in
theorem trailOrders_walk (a b : ByteArray) (w : World) (ha : a.size ≤ 140737488355328) (hb : b.size ≤ 140737488355328) (hab : a.size + b.size ≤ 1048576) :
    Calls Try.prog 4 #[.string a, .string b] w fun e w' => e = .returned (.bool true) ∧ Below w.heap.size w w' := by
  obtain ⟨A, rfl⟩ : ∃ A, a = tx A := ⟨_, tx_mk a⟩
  obtain ⟨B, rfl⟩ : ∃ B, b = tx B := ⟨_, tx_mk b⟩
  rw [tx_size] at ha hb hab
  rw [tx_size] at hab
  have K1 : Hid (∀ w, Calls Try.prog 10 #[.string (tx A), .string (tx B)] w fun e w' => e = .returned (.bool (les A B)) ∧ Below w.heap.size w w') := less_is A B (by omega) (by omega)
  have K2 : Hid (∀ w, Calls Try.prog 11 #[.string (tx A), .string (tx B)] w fun e w' => e = .returned (.bool (les A B)) ∧ Below w.heap.size w w') := rless_is A B (by omega) (by omega)
  have K3 : Hid (∀ w, Calls Try.prog 10 #[.string (tx B), .string (tx A)] w fun e w' => e = .returned (.bool (les B A)) ∧ Below w.heap.size w w') := less_is B A (by omega) (by omega)
  have K4 : Hid (∀ w, Calls Try.prog 11 #[.string (tx B), .string (tx A)] w fun e w' => e = .returned (.bool (les B A)) ∧ Below w.heap.size w w') := rless_is B A (by omega) (by omega)
  have K5 : Hid (∀ w, Calls Try.prog 12 #[.string (tx A), .string (tx B)] w fun e w' => e = .returned (.bool (inn A B)) ∧ Below w.heap.size w w') := in_is A B (by omega)
  have K6 : Hid (∀ w, Calls Try.prog 13 #[.string (tx A), .string (tx B)] w fun e w' => e = .returned (.bool (inn A B)) ∧ Below w.heap.size w w') := rin_is A B (by omega) (by omega)
  have K7 : Hid (∀ w, Calls Try.prog 12 #[.string (tx B), .string (tx A)] w fun e w' => e = .returned (.bool (inn B A)) ∧ Below w.heap.size w w') := in_is B A (by omega)
  have K8 : Hid (∀ w, Calls Try.prog 13 #[.string (tx B), .string (tx A)] w fun e w' => e = .returned (.bool (inn B A)) ∧ Below w.heap.size w w') := rin_is B A (by omega) (by omega)
  have KW : Hid (∀ w, Calls Try.prog 9 #[] w fun e w' => e = .returned (.bool true) ∧ Below w.heap.size w w') := works_is
  generalize les A B = x0 at *
  generalize les B A = x1 at *
  generalize inn A B = x2 at *
  generalize inn B A = x3 at *
  go_enter Try.func4, Try.ntmps4
  go_wp2_with fail
  refine (K1.out _).mono ?_
  rintro e w1 ⟨rfl, hb1⟩
  have B1 : Hid (Below w.heap.size w w1) := hb1
  clear hb1
  go_wp2_with fail
  refine (K2.out _).mono ?_
  rintro e w2 ⟨rfl, hb2⟩
  have B2 : Hid (Below w.heap.size w w2) := B1.out.trans (hb2.mono B1.out.size)
  clear hb2
  go_wp2_with fail
  refine (K3.out _).mono ?_
  rintro e w3 ⟨rfl, hb3⟩
  have B3 : Hid (Below w.heap.size w w3) := B2.out.trans (hb3.mono B2.out.size)
  clear hb3
  go_wp2_with fail
  refine (K4.out _).mono ?_
  rintro e w4 ⟨rfl, hb4⟩
  have B4 : Hid (Below w.heap.size w w4) := B3.out.trans (hb4.mono B3.out.size)
  clear hb4
  go_wp2_with fail
  refine (K5.out _).mono ?_
  rintro e w5 ⟨rfl, hb5⟩
  have B5 : Hid (Below w.heap.size w w5) := B4.out.trans (hb5.mono B4.out.size)
  clear hb5
  go_wp2_with fail
  refine (K6.out _).mono ?_
  rintro e w6 ⟨rfl, hb6⟩
  have B6 : Hid (Below w.heap.size w w6) := B5.out.trans (hb6.mono B5.out.size)
  clear hb6
  go_wp2_with fail
  refine (K7.out _).mono ?_
  rintro e w7 ⟨rfl, hb7⟩
  have B7 : Hid (Below w.heap.size w w7) := B6.out.trans (hb7.mono B6.out.size)
  clear hb7
  go_wp2_with fail
  refine (K8.out _).mono ?_
  rintro e w8 ⟨rfl, hb8⟩
  have B8 : Hid (Below w.heap.size w w8) := B7.out.trans (hb8.mono B7.out.size)
  clear hb8
  go_wp2_with fail
  refine (KW.out _).mono ?_
  rintro e w9 ⟨rfl, hb9⟩
  have B9 : Hid (Below w.heap.size w w9) := B8.out.trans (hb9.mono B8.out.size)
  clear hb9
  go_wp2_with fail
  go_ret
  exact ⟨rfl, B9.out⟩
end Go.Proofs.Ytegdblacmghghaa
