/- TrailCleans' walk. -/
import Derived.Test.YtegdblacmghghaaTrlD
import Derived.Test.YtegdblacmghghaaTrlE
import Derived.Test.YtegdblacmghghaaTrlU
namespace Go.Proofs.Ytegdblacmghghaa
open Go.ChangeShapes Go.WideShapes Go.ChangeAt Go.RowKit Go.Deep
set_option linter.unusedVariables false
theorem cln_err (s : Tx) : (cln s).2 = 0 ∨ (cln s).2 = 12 ∨ (cln s).2 = 3 := by
  rcases cln_cases s with ⟨l, e, _⟩ | e | e <;> rw [e] <;> simp
set_option maxHeartbeats 4000000 in
theorem trailCleans_walk (a b : ByteArray) (w : World) (ha : a.size ≤ 140737488355328) (hb : b.size ≤ 140737488355328) (hab : a.size + b.size ≤ 1048576) :
    Calls Try.prog 3 #[.string a, .string b] w fun e w' => e = .returned (.bool true) ∧ Below w.heap.size w w' := by
  obtain ⟨A, rfl⟩ : ∃ A, a = tx A := ⟨_, tx_mk a⟩
  obtain ⟨B, rfl⟩ : ∃ B, b = tx B := ⟨_, tx_mk b⟩
  rw [tx_size] at ha hb hab
  rw [tx_size] at hab
  have hcat : (A ++ 47 :: B).length ≤ 1048577 := by simp; omega
  have K1 : Hid (∀ w, Calls Try.prog 6 #[.string (tx A)] w fun e w' => e = .returned (.tuple #[.string (tx (cln A).1), .int .i64 (cln A).2]) ∧ Below w.heap.size w w') := clean_is A (by omega)
  have K2 : Hid (∀ w, Calls Try.prog 7 #[.string (tx A)] w fun e w' => e = .returned (.tuple #[.string (tx (cln A).1), .int .i64 (cln A).2]) ∧ Below w.heap.size w w') := rclean_is A (by omega)
  have K3 : Hid (∀ w, Calls Try.prog 8 #[.string (tx A), .string (tx B)] w fun e w' => e = .returned (.tuple #[.string (tx (cln (A ++ 47 :: B)).1), .int .i64 (cln (A ++ 47 :: B)).2]) ∧ Below w.heap.size w w') := tjoin_is A B (by omega) (by omega)
  have K4 : Hid (∀ w, Calls Try.prog 7 #[.string (tx (A ++ 47 :: B))] w fun e w' => e = .returned (.tuple #[.string (tx (cln (A ++ 47 :: B)).1), .int .i64 (cln (A ++ 47 :: B)).2]) ∧ Below w.heap.size w w') := rclean_is (A ++ 47 :: B) (by omega)
  have KW : Hid (∀ w, Calls Try.prog 9 #[] w fun e w' => e = .returned (.bool true) ∧ Below w.heap.size w w') := works_is
  have h1 := tx_size A
  have h2 := tx_size B
  have a1 : tx A ++ ⟨#[47]⟩ = tx (A ++ [47]) := tx_append A [47]
  have h3 : (tx (A ++ [47])).size = A.length + 1 := by rw [tx_size]; simp
  have a2 : tx (A ++ [47]) ++ tx B = tx (A ++ 47 :: B) := by rw [tx_append]; simp
  have i1 : ¬ 9223372036854775807 < A.length + 1 := by omega
  have i2 : ¬ 9223372036854775807 < A.length + 1 + B.length := by omega
  have E1 := cln_err A
  have E2 := cln_err (A ++ 47 :: B)
  generalize tx (cln A).1 = X at *
  generalize (cln A).2 = e1 at *
  generalize tx (cln (A ++ 47 :: B)).1 = Y at *
  generalize (cln (A ++ 47 :: B)).2 = e2 at *
  generalize tx (A ++ 47 :: B) = S at *
  generalize tx (A ++ [47]) = S1 at *
  have c1 : e1 % 18446744073709551616 = e1 := by omega
  have c2 : e2 % 18446744073709551616 = e2 := by omega
  have HE1 : Hid (e1 = 0 ∨ e1 = 12 ∨ e1 = 3) := E1
  have HE2 : Hid (e2 = 0 ∨ e2 = 12 ∨ e2 = 3) := E2
  clear E1 E2 c1 c2
  have q1 : (0 : Int) ≤ e1 ∧ e1 ≤ 12 := by have := HE1.out; omega
  have q2 : (0 : Int) ≤ e2 ∧ e2 ≤ 12 := by have := HE2.out; omega
  obtain ⟨q1a, q1b⟩ := q1
  obtain ⟨q2a, q2b⟩ := q2
  go_enter Try.func3, Try.ntmps3
  go_wp2_with fail
  refine (K1.out _).mono ?_
  rintro e w1 ⟨rfl, hb1⟩
  have B1 : Hid (Below w.heap.size w w1) := hb1
  clear hb1
  go_wp2_with fail
  refine (K2.out _).mono ?_
  rintro e w2 ⟨rfl, hb2⟩
  have B2 : Hid (Below w.heap.size w w2) := B1.out.trans (hb2.mono B1.out.size)
  clear hb2
  go_wp2_with fail
  refine (K3.out _).mono ?_
  rintro e w3 ⟨rfl, hb3⟩
  have B3 : Hid (Below w.heap.size w w3) := B2.out.trans (hb3.mono B2.out.size)
  clear hb3
  go_wp2_with fail
  refine (K4.out _).mono ?_
  rintro e w4 ⟨rfl, hb4⟩
  have B4 : Hid (Below w.heap.size w w4) := B3.out.trans (hb4.mono B3.out.size)
  clear hb4
  go_wp2_with fail
  refine (KW.out _).mono ?_
  rintro e w5 ⟨rfl, hb5⟩
  have B5 : Hid (Below w.heap.size w w5) := B4.out.trans (hb5.mono B4.out.size)
  clear hb5
  go_wp2_with fail
  go_ret
  exact ⟨rfl, B5.out⟩
end Go.Proofs.Ytegdblacmghghaa
