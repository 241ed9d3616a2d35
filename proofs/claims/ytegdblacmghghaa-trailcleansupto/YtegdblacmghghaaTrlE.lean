/- trail.Join. -/
import Derived.Test.YtegdblacmghghaaTrlC
namespace Go.Proofs.Ytegdblacmghghaa
open Go.ChangeShapes Go.WideShapes Go.ChangeAt Go.RowKit Go.Deep
set_option linter.unusedVariables false
theorem tjoin_is (P Q : Tx) (hp : P.length ≤ 100000000000000) (hq : Q.length ≤ 100000000000000) (w : World) :
    Calls Try.prog 8 #[.string (tx P), .string (tx Q)] w fun e w' => e = .returned (.tuple #[.string (tx (cln (P ++ 47 :: Q)).1), .int .i64 (cln (P ++ 47 :: Q)).2]) ∧ Below w.heap.size w w' := by
  have K : Hid (Calls Try.prog 6 #[.string (tx (P ++ 47 :: Q))] w fun e w' => e = .returned (.tuple #[.string (tx (cln (P ++ 47 :: Q)).1), .int .i64 (cln (P ++ 47 :: Q)).2]) ∧ Below w.heap.size w w') := clean_is _ (by simp; omega) w
  have h1 := tx_size P
  have h2 := tx_size Q
  have a1 : tx P ++ ⟨#[47]⟩ = tx (P ++ [47]) := tx_append P [47]
  have h3 := tx_size (P ++ [47])
  have a2 : tx (P ++ [47]) ++ tx Q = tx (P ++ 47 :: Q) := by rw [tx_append]; simp
  have h4 : (P ++ [47]).length = P.length + 1 := by simp
  rw [h4] at h3
  have i1 : ¬ 9223372036854775807 < P.length + 1 := by omega
  have i2 : ¬ 9223372036854775807 < P.length + 1 + Q.length := by omega
  generalize tx (P ++ 47 :: Q) = S at *
  generalize tx (P ++ [47]) = S1 at *
  generalize cln (P ++ 47 :: Q) = c at *
  go_enter Try.func8, Try.ntmps8
  go_wp2_with (go_at_call 6; refine K.out.mono ?_; rintro e w' ⟨rfl, hw⟩)
  go_ret2
  exact ⟨rfl, hw⟩
end Go.Proofs.Ytegdblacmghghaa
