/- TrailTells' walk. -/
import Derived.Test.YtegdblacmghghaaDoorTrlD
import Derived.Test.YtegdblacmghghaaDoorTrlV
namespace Go.Proofs.YtegdblacmghghaaDoor
open Go.ChangeShapes Go.WideShapes Go.ChangeAt Go.RowKit Go.Deep
set_option linter.unusedVariables false
set_option maxHeartbeats 4000000 in
theorem trailTells_walk (a : ByteArray) (w : World) (ha : a.size ≤ 140737488355328) (hab : a.size ≤ 1048576) :
    Calls Tryd.prog 3 #[.string a] w fun e w' => e = .returned (.bool true) ∧ Below w.heap.size w w' := by
  obtain ⟨A, rfl⟩ : ∃ A, a = tx A := ⟨_, tx_mk a⟩
  rw [tx_size] at ha hab
  have K1 : Hid (∀ w, Calls Tryd.prog 6 #[.string (tx A)] w fun e w' => e = .returned (.tuple #[.string (tx (jn (prt A).dropLast)), .bool (!(prt A).isEmpty)]) ∧ Below w.heap.size w w') := up_is A (by omega)
  have K2 : Hid (∀ w, Calls Tryd.prog 7 #[.string (tx A)] w fun e w' => e = .returned (.tuple #[.string (tx (jn (prt A).dropLast)), .bool (!(prt A).isEmpty)]) ∧ Below w.heap.size w w') := rup_is A (by omega)
  have K3 : Hid (∀ w, Calls Tryd.prog 9 #[.string (tx A)] w fun e w' => ∃ v, e = .returned v ∧ Sl w' w.heap.size v (prt A) ∧ Below w.heap.size w w') := parts_is A (by omega)
  have K4 : Hid (∀ w, Calls Tryd.prog 10 #[.string (tx A)] w fun e w' => ∃ v, e = .returned v ∧ Rd w' v (prt A) ∧ Below w.heap.size w w') := rparts_is A (by omega)
  have KW : Hid (∀ w, Calls Tryd.prog 11 #[] w fun e w' => e = .returned (.bool true) ∧ Below w.heap.size w w') := works_is
  have h8 := (prt_facts A).2
  generalize prt A = l at *
  generalize tx (jn l.dropLast) = X at *
  generalize (!l.isEmpty) = y at *
  go_enter Tryd.func3, Tryd.ntmps3
  go_wp2_with fail
  refine (K1.out _).mono ?_
  rintro e w1 ⟨rfl, hb1⟩
  have B1 : Hid (Below w.heap.size w w1) := hb1
  clear hb1
  go_wp2_with fail
  refine (K2.out _).mono ?_
  rintro e w2 ⟨rfl, hb2⟩
  have B2 : Hid (Below w.heap.size w w2) := B1.out.trans (hb2.mono B1.out.size)
  clear hb2
  go_wp2_with fail
  refine (K3.out _).mono ?_
  rintro e w3 ⟨v1, rfl, hs1, hb3⟩
  have B3 : Hid (Below w.heap.size w w3) := B2.out.trans (hb3.mono B2.out.size)
  have R1 : Hid (Rd w3 v1 l) := hs1.rd (by omega)
  clear hb3 hs1
  go_wp2_with fail
  refine (K4.out _).mono ?_
  rintro e w4 ⟨v2, rfl, hs2, hb4⟩
  have B4 : Hid (Below w.heap.size w w4) := B3.out.trans (hb4.mono B3.out.size)
  have KS : Hid (Calls Tryd.prog 8 #[v1, v2] w4 fun e w' => e = .returned (.bool true) ∧ Below w4.heap.size w4 w') := same_is v1 v2 l (by omega) w4 (R1.out.keep hb4) hs2
  clear hb4 hs2
  go_wp2_with fail
  refine KS.out.mono ?_
  rintro e w5 ⟨rfl, hb5⟩
  have B5 : Hid (Below w.heap.size w w5) := B4.out.trans (hb5.mono B4.out.size)
  clear hb5 KS
  go_wp2_with fail
  refine (KW.out _).mono ?_
  rintro e w6 ⟨rfl, hb6⟩
  have B6 : Hid (Below w.heap.size w w6) := B5.out.trans (hb6.mono B5.out.size)
  clear hb6
  go_wp2_with fail
  go_ret
  exact ⟨rfl, B6.out⟩
end Go.Proofs.YtegdblacmghghaaDoor
