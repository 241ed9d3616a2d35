/- ManifestGrows' walk. -/
import Derived.Test.YtldlcbkjhgdolabDoorManL
namespace Go.Proofs.YtldlcbkjhgdolabDoor
open Go.ChangeShapes Go.WideShapes Go.ChangeAt Go.RowKit Go.Deep Go.Maps
set_option linter.unusedVariables false
set_option maxRecDepth 100000 in
set_option maxHeartbeats 8000000 in
theorem manifestGrows_walk (a : ByteArray) (x : Int) (b : ByteArray) (w : World) (ha : a.size ≤ 140737488355328) (hx : -9223372036854775808 ≤ x ∧ x ≤ 9223372036854775807) (hb : b.size ≤ 140737488355328) :
    Calls Tryd.prog 7 #[.string a, .int .i64 x, .string b] w fun e w' => e = .returned (.bool true) ∧ Below w.heap.size w w' := by
  obtain ⟨A, rfl⟩ : ∃ A, a = tx A := ⟨_, tx_mk a⟩
  obtain ⟨T, rfl⟩ : ∃ A, b = tx A := ⟨_, tx_mk b⟩
  have KW : Hid (∀ w, Calls Tryd.prog 8 #[] w fun e w' => e = .returned (.bool true) ∧ Below w.heap.size w w') := worksM_is
  have sA := tx_size A
  have sT := tx_size T
  rw [sA] at ha
  rw [sT] at hb
  have B0 : Hid (Below w.heap.size w w) := Below.refl _ _
  by_cases h1 : 1000 < A.length
  · obtain ⟨nA, hnA⟩ : ∃ n, n = A.length := ⟨_, rfl⟩
    rw [← hnA] at sA ha
    have e1 : (1000 : Int) < (nA : Int) := by omega
    clear hnA h1
    go_enter Tryd.func7, Tryd.ntmps7
    go_wp2_with fail
    refine (KW.out _).mono ?_
    rintro e w1 ⟨rfl, hb1⟩
    have B1 : Hid (Below w.heap.size w w1) := B0.out.trans (hb1.mono B0.out.size)
    clear hb1
    go_wp2_with fail
    go_ret
    exact ⟨rfl, B1.out⟩
  · by_cases h2 : 1000 < T.length
    · obtain ⟨nA, hnA⟩ : ∃ n, n = A.length := ⟨_, rfl⟩
      obtain ⟨nT, hnT⟩ : ∃ n, n = T.length := ⟨_, rfl⟩
      rw [← hnA] at sA ha h1
      rw [← hnT] at sT hb
      have e1 : ¬ (1000 : Int) < (nA : Int) := by omega
      have e2 : (1000 : Int) < (nT : Int) := by omega
      clear hnA hnT h1 h2
      go_enter Tryd.func7, Tryd.ntmps7
      go_wp2_with fail
      refine (KW.out _).mono ?_
      rintro e w1 ⟨rfl, hb1⟩
      have B1 : Hid (Below w.heap.size w w1) := B0.out.trans (hb1.mono B0.out.size)
      clear hb1
      go_wp2_with fail
      go_ret
      exact ⟨rfl, B1.out⟩
    · obtain ⟨k, hk, hkx0⟩ := inNM x 1000 (by omega) (by omega)
      have hkx : (wrap64 (x.tmod 1000 + 1000)).tmod 1000 = (k : Int) := hkx0
      clear hkx0
      have D1 : Hid (∀ w, Calls Tryd.prog 17 #[.int .i64 (k : Int)] w fun e w' => e = .returned (.string (tx (dgt k))) ∧ Below w.heap.size w w') := fun w => (digits_is 3 k (by omega) (by omega) w).mono fun e w' ⟨h1, h2⟩ => ⟨h1, by rw [h2]; exact Below.refl _ _⟩
      have D2 : Hid (∀ w, Calls Tryd.prog 17 #[.int .i64 ((k : Int) + 1)] w fun e w' => e = .returned (.string (tx (dgt (k + 1)))) ∧ Below w.heap.size w w') := fun w => (digits_is 3 (k + 1) (by omega) (by omega) w).mono fun e w' ⟨h1, h2⟩ => ⟨h1, by rw [h2]; exact Below.refl _ _⟩
      have hl1 : (dgt k).length ≤ 8 := dgF_len 3 k
      have hl2 : (dgt (k + 1)).length ≤ 8 := dgF_len 3 (k + 1)
      have g1 := grows1 A k hk
      have g2 := grows2 A T k hk
      have g3 := grows3 (A ++ 46 :: dgt k) T
      have K1 : Hid (∀ w, Calls Tryd.prog 9 #[.string (tx (A ++ 46 :: dgt k)), .string (tx (A ++ 46 :: dgt (k + 1)))] w fun e w' => e = .returned (.int .i64 (-1)) ∧ Below w.heap.size w w') := fun w => by
        have := order_is (A ++ 46 :: dgt k) (A ++ 46 :: dgt (k + 1)) (by simp; omega) (by simp; omega) w
        rwa [g1] at this
      have K2 : Hid (∀ w, Calls Tryd.prog 9 #[.string (tx (A ++ 46 :: dgt k ++ 46 :: T)), .string (tx (A ++ 46 :: dgt (k + 1)))] w fun e w' => e = .returned (.int .i64 (-1)) ∧ Below w.heap.size w w') := fun w => by
        have := order_is (A ++ 46 :: dgt k ++ 46 :: T) (A ++ 46 :: dgt (k + 1)) (by simp; omega) (by simp; omega) w
        rwa [g2] at this
      have K3 : Hid (∀ w, Calls Tryd.prog 9 #[.string (tx (A ++ 46 :: dgt k)), .string (tx (A ++ 46 :: dgt k ++ 46 :: T))] w fun e w' => e = .returned (.int .i64 (-1)) ∧ Below w.heap.size w w') := fun w => by
        have := order_is (A ++ 46 :: dgt k) (A ++ 46 :: dgt k ++ 46 :: T) (by simp; omega) (by simp; omega) w
        rwa [g3] at this
      have p1 : tx A ++ (⟨#[46]⟩ : ByteArray) = tx (A ++ [46]) := tx_append A [46]
      have p2 : tx (A ++ [46]) ++ tx (dgt k) = tx (A ++ 46 :: dgt k) := by rw [tx_append]; simp
      have p3 : tx (A ++ [46]) ++ tx (dgt (k + 1)) = tx (A ++ 46 :: dgt (k + 1)) := by rw [tx_append]; simp
      have p4 : tx (A ++ 46 :: dgt k) ++ (⟨#[46]⟩ : ByteArray) = tx (A ++ 46 :: dgt k ++ [46]) := tx_append _ [46]
      have p5 : tx (A ++ 46 :: dgt k ++ [46]) ++ tx T = tx (A ++ 46 :: dgt k ++ 46 :: T) := by rw [tx_append]; simp
      have z1 : (tx (A ++ [46])).size = A.length + 1 := by rw [tx_size]; simp
      have z2 : (tx (dgt k)).size = (dgt k).length := tx_size _
      have z3 : (tx (dgt (k + 1))).size = (dgt (k + 1)).length := tx_size _
      have z4 : (tx (A ++ 46 :: dgt k)).size = A.length + 1 + (dgt k).length := by rw [tx_size]; simp; omega
      have z5 : (tx (A ++ 46 :: dgt k ++ [46])).size = A.length + 2 + (dgt k).length := by rw [tx_size]; simp; omega
      obtain ⟨nA, hnA⟩ : ∃ n, n = A.length := ⟨_, rfl⟩
      obtain ⟨nT, hnT⟩ : ∃ n, n = T.length := ⟨_, rfl⟩
      rw [← hnA] at sA ha h1 z1 z4 z5
      rw [← hnT] at sT hb h2
      have e1 : ¬ (1000 : Int) < (nA : Int) := by omega
      have e2 : ¬ (1000 : Int) < (nT : Int) := by omega
      clear hnA hnT g1 g2 g3
      generalize tx A = SA at *
      generalize tx T = ST at *
      generalize tx (dgt k) = S1 at *
      generalize tx (dgt (k + 1)) = S2 at *
      generalize tx (A ++ [46]) = S3 at *
      generalize tx (A ++ 46 :: dgt k ++ [46]) = S6 at *
      generalize tx (A ++ 46 :: dgt k ++ 46 :: T) = S7 at *
      generalize tx (A ++ 46 :: dgt (k + 1)) = S5 at *
      generalize tx (A ++ 46 :: dgt k) = S4 at *
      generalize (dgt k).length = m1 at *
      generalize (dgt (k + 1)).length = m2 at *
      go_enter Tryd.func7, Tryd.ntmps7
      go_wp2_with fail
      refine (D1.out _).mono ?_
      rintro e w1 ⟨rfl, hb1⟩
      have B1 : Hid (Below w.heap.size w w1) := B0.out.trans (hb1.mono B0.out.size)
      clear hb1
      go_wp2_with fail
      refine (D2.out _).mono ?_
      rintro e w2 ⟨rfl, hb2⟩
      have B2 : Hid (Below w.heap.size w w2) := B1.out.trans (hb2.mono B1.out.size)
      clear hb2
      go_wp2_with fail
      refine (K1.out _).mono ?_
      rintro e w3 ⟨rfl, hb3⟩
      have B3 : Hid (Below w.heap.size w w3) := B2.out.trans (hb3.mono B2.out.size)
      clear hb3
      go_wp2_with fail
      refine (K2.out _).mono ?_
      rintro e w4 ⟨rfl, hb4⟩
      have B4 : Hid (Below w.heap.size w w4) := B3.out.trans (hb4.mono B3.out.size)
      clear hb4
      go_wp2_with fail
      refine (K3.out _).mono ?_
      rintro e w5 ⟨rfl, hb5⟩
      have B5 : Hid (Below w.heap.size w w5) := B4.out.trans (hb5.mono B4.out.size)
      clear hb5
      go_wp2_with fail
      refine (KW.out _).mono ?_
      rintro e w6 ⟨rfl, hb6⟩
      have B6 : Hid (Below w.heap.size w w6) := B5.out.trans (hb6.mono B5.out.size)
      clear hb6
      go_wp2_with fail
      go_ret
      exact ⟨rfl, B6.out⟩
end Go.Proofs.YtldlcbkjhgdolabDoor
