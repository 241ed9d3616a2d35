/- TrailUps' walk. -/
import Derived.Test.YtegdblacmghghabDoorTrlD
import Derived.Test.YtegdblacmghghabDoorTrlE
import Derived.Test.YtegdblacmghghabDoorTrlH
namespace Go.Proofs.YtegdblacmghghabDoor
open Go.ChangeShapes Go.WideShapes Go.ChangeAt Go.RowKit Go.Deep
set_option linter.unusedVariables false
/-- a path, the one above it, its last part -/
theorem ups {l : List Tx} {x : Tx} (h : ∀ p ∈ l, isPart p = true) (h8 : l.length ≤ 8) (hx : l[l.length - 1]? = some x) :
    cln (jn l.dropLast ++ 47 :: x) = (jn l, 0) ∧ cln (jn l ++ 47 :: [46, 46]) = (jn l.dropLast, 0) ∧ inn (jn l.dropLast) (jn l) = true ∧ inn (jn l) (jn l.dropLast) = false ∧ les (jn l.dropLast) (jn l) = true ∧ jn l ≠ [] := by
  have hpos : 0 < l.length := by have := (List.getElem?_eq_some_iff.1 hx).1; omega
  have hne : l ≠ [] := List.length_pos_iff.1 hpos
  have hd : ∀ p ∈ l.dropLast, isPart p = true := fun p hp => h p (List.dropLast_subset _ hp)
  have hpx : isPart x = true := h x (List.mem_of_getElem? hx)
  have hl : l = l.dropLast ++ [x] := by
    have h1 := List.dropLast_concat_getLast hne
    rw [List.getLast_eq_getElem hne] at h1
    have h2 : l[l.length - 1]'(by omega) = x := by
      have := List.getElem?_eq_getElem (l := l) (i := l.length - 1) (by omega)
      rw [this] at hx
      exact Option.some.inj hx
    rw [h2] at h1
    exact h1.symm
  have hj := jn_take l (l.length - 1) x hx
  rw [show l.length - 1 + 1 = l.length by omega, List.take_length, ← List.dropLast_eq_take] at hj
  have hxl := part_ne hpx
  have hxp : 0 < x.length := List.length_pos_iff.2 hxl
  have hlen : (jn l.dropLast).length < (jn l).length := by
    rw [hj]
    split
    · rename_i e
      have : l.dropLast = [] := by rw [List.dropLast_eq_take, e]; rfl
      rw [this, jn_nil]
      exact hxp
    · simp only [List.length_append, List.length_cons]; omega
  have hin : inn (jn l.dropLast) (jn l) = true := by
    rw [inn_iff]
    by_cases e : l.length - 1 = 0
    · left
      have : l.dropLast = [] := by rw [List.dropLast_eq_take, e]; rfl
      rw [this, jn_nil]
    · right; right
      rw [if_neg e] at hj
      exact ⟨x, hj⟩
  refine ⟨?_, ?_, hin, ?_, inn_les _ _ hin (fun e => by rw [e] at hlen; omega), fun e => by rw [e] at hlen; simp at hlen⟩
  · have e : cl [] (pcs (jn l.dropLast ++ 47 :: x)) = some l := by
      rw [pcs_app, pcs_no x (part_nosep hpx), cl_app, cl_jn hd]
      show cl l.dropLast [x] = some l
      rw [cl_part _ _ _ hpx, cl, ← hl]
    unfold cln
    rw [e]
    simp only
    rw [if_neg (by omega)]
  · have e : cl [] (pcs (jn l ++ 47 :: [46, 46])) = some l.dropLast := by
      rw [pcs_app, cl_app, cl_jn h]
      show cl l [[46, 46]] = some l.dropLast
      rw [cl_up _ _ hne, cl]
    unfold cln
    rw [e]
    simp only
    rw [if_neg (by rw [List.length_dropLast]; omega)]
  · rw [Bool.eq_false_iff]
    intro e
    rw [inn_iff] at e
    rcases e with e | e | ⟨r, e⟩
    · rw [e] at hlen; simp at hlen
    · rw [e] at hlen; omega
    · have := congrArg List.length e
      simp at this
      omega
theorem up_nil (w : World) : Calls Tryd.prog 5 #[.string ⟨#[]⟩] w fun e w' => e = .returned (.tuple #[.string ⟨#[]⟩, .bool false]) ∧ Below w.heap.size w w' := by
  have := up_is [] (by simp) w
  exact this
set_option maxHeartbeats 4000000 in
theorem trailUps_walk (a : ByteArray) (w : World) (ha : a.size ≤ 140737488355328) :
    Calls Tryd.prog 3 #[.string a] w fun e w' => e = .returned (.bool true) ∧ Below w.heap.size w w' := by
  obtain ⟨A, rfl⟩ : ∃ A, a = tx A := ⟨_, tx_mk a⟩
  rw [tx_size] at ha
  have K1 : Hid (∀ w, Calls Tryd.prog 4 #[.string (tx A)] w fun e w' => e = .returned (.tuple #[.string (tx (cln A).1), .int .i64 (cln A).2]) ∧ Below w.heap.size w w') := clean_is A (by omega)
  have KW : Hid (∀ w, Calls Tryd.prog 6 #[] w fun e w' => e = .returned (.bool true) ∧ Below w.heap.size w w') := works_is
  have K0 : Hid (∀ w, Calls Tryd.prog 5 #[.string ⟨#[]⟩] w fun e w' => e = .returned (.tuple #[.string ⟨#[]⟩, .bool false]) ∧ Below w.heap.size w w') := up_nil
  have t0 := tx_toList []
  rcases cln_cases A with ⟨l, e, h1, h2, _⟩ | e | e
  · rw [e] at K1
    clear e
    by_cases hl0 : l = []
    · subst hl0
      have K1' : Hid (∀ w, Calls Tryd.prog 4 #[.string (tx A)] w fun e w' => e = .returned (.tuple #[.string (tx []), .int .i64 0]) ∧ Below w.heap.size w w') := K1
      clear K1
      go_enter Tryd.func3, Tryd.ntmps3
      go_wp2_with fail
      refine (K1'.out _).mono ?_
      rintro e w1 ⟨rfl, hb1⟩
      have B1 : Hid (Below w.heap.size w w1) := hb1
      clear hb1
      go_wp2_with fail
      refine (K0.out _).mono ?_
      rintro e w2 ⟨rfl, hb2⟩
      have B2 : Hid (Below w.heap.size w w2) := B1.out.trans (hb2.mono B1.out.size)
      clear hb2
      go_wp2_with fail
      refine (KW.out _).mono ?_
      rintro e w3 ⟨rfl, hb3⟩
      have B3 : Hid (Below w.heap.size w w3) := B2.out.trans (hb3.mono B2.out.size)
      clear hb3
      go_wp2_with fail
      go_ret
      exact ⟨rfl, B3.out⟩
    · have hpos : 0 < l.length := List.length_pos_iff.2 hl0
      have hx : l[l.length - 1]? = some (l[l.length - 1]'(by omega)) := List.getElem?_eq_getElem (by omega)
      generalize l[l.length - 1]'(by omega) = x at hx
      obtain ⟨u1, u2, u3, u4, u5, u6⟩ := ups h1 h2 hx
      have hjl := jn_le8 h1 h2
      have hd : ∀ p ∈ l.dropLast, isPart p = true := fun p hp => h1 p (List.dropLast_subset _ hp)
      have hdl : l.dropLast.length = l.length - 1 := List.length_dropLast
      have hul := jn_le8 hd (by omega)
      have hxl : x.length ≤ 24 := ((isPart_iff x).1 (h1 x (List.mem_of_getElem? hx))).2.2.1
      have KU : Hid (∀ w, Calls Tryd.prog 5 #[.string (tx (jn l))] w fun e w' => e = .returned (.tuple #[.string (tx (jn l.dropLast)), .bool true]) ∧ Below w.heap.size w w') := fun w => by
        have := up_is (jn l) (by omega) w
        rw [prt_jn h1 h2, show (!l.isEmpty) = true by simp [hl0]] at this
        exact this
      have KP : Hid (∀ w, Calls Tryd.prog 7 #[.string (tx (jn l))] w fun e w' => ∃ v, e = .returned v ∧ Sl w' w.heap.size v l ∧ Below w.heap.size w w') := fun w => by
        have := parts_is (jn l) (by omega) w
        rwa [prt_jn h1 h2] at this
      have KQ : Hid (∀ w, Calls Tryd.prog 7 #[.string (tx (jn l.dropLast))] w fun e w' => ∃ v, e = .returned v ∧ Sl w' w.heap.size v l.dropLast ∧ Below w.heap.size w w') := fun w => by
        have := parts_is (jn l.dropLast) (by omega) w
        rwa [prt_jn hd (by omega)] at this
      have KJ : Hid (∀ w, Calls Tryd.prog 8 #[.string (tx (jn l.dropLast)), .string (tx x)] w fun e w' => e = .returned (.tuple #[.string (tx (jn l)), .int .i64 0]) ∧ Below w.heap.size w w') := fun w => by
        have := tjoin_is (jn l.dropLast) x (by omega) (by omega) w
        rwa [u1] at this
      have KD : Hid (∀ w, Calls Tryd.prog 8 #[.string (tx (jn l)), .string ⟨#[46, 46]⟩] w fun e w' => e = .returned (.tuple #[.string (tx (jn l.dropLast)), .int .i64 0]) ∧ Below w.heap.size w w') := fun w => by
        have := tjoin_is (jn l) [46, 46] (by omega) (by simp) w
        rw [u2] at this
        exact this
      have KI1 : Hid (∀ w, Calls Tryd.prog 9 #[.string (tx (jn l.dropLast)), .string (tx (jn l))] w fun e w' => e = .returned (.bool true) ∧ Below w.heap.size w w') := fun w => by
        have := in_is (jn l.dropLast) (jn l) (by omega) w
        rwa [u3] at this
      have KI2 : Hid (∀ w, Calls Tryd.prog 9 #[.string (tx (jn l)), .string (tx (jn l.dropLast))] w fun e w' => e = .returned (.bool false) ∧ Below w.heap.size w w') := fun w => by
        have := in_is (jn l) (jn l.dropLast) (by omega) w
        rwa [u4] at this
      have KL : Hid (∀ w, Calls Tryd.prog 10 #[.string (tx (jn l.dropLast)), .string (tx (jn l))] w fun e w' => e = .returned (.bool true) ∧ Below w.heap.size w w') := fun w => by
        have := less_is (jn l.dropLast) (jn l) (by omega) (by omega) w
        rwa [u5] at this
      have t1 := tx_toList (jn l)
      have t2 := tx_toList (jn l.dropLast)
      have ne : ((jn l) == []) = false := by simp [u6]
      have HX : Hid (l[l.length - 1]? = some x) := hx
      clear u1 u2 u3 u4 u5 u6 h1 hd hx
      generalize jn l = P at *
      generalize jn l.dropLast = U at *
      go_enter Tryd.func3, Tryd.ntmps3
      go_wp2_with fail
      refine (K1.out _).mono ?_
      rintro e w1 ⟨rfl, hb1⟩
      have B1 : Hid (Below w.heap.size w w1) := hb1
      clear hb1
      go_wp2_with fail
      refine (KU.out _).mono ?_
      rintro e w2 ⟨rfl, hb2⟩
      have B2 : Hid (Below w.heap.size w w2) := B1.out.trans (hb2.mono B1.out.size)
      clear hb2
      go_wp2_with fail
      refine (KP.out _).mono ?_
      rintro e w3 ⟨v, rfl, hs, hb3⟩
      have B3 : Hid (Below w.heap.size w w3) := B2.out.trans (hb3.mono B2.out.size)
      clear hb3
      obtain ⟨o, rfl, ho⟩ := hs.open
      obtain ⟨g, rfl, hc3⟩ := ho _ _ HX.out
      have hg3 : g < w3.heap.size := World.block_lt_of_cell? _ _ hc3
      have HC3 : Hid (w3.cell? ⟨g, l.length - 1, none⟩ = some (.string (tx x))) := hc3
      clear ho hs hc3
      have i1 : ¬ ((l.length : Nat) : Int) = 0 := by omega
      go_wp2_with fail
      refine (KQ.out _).mono ?_
      rintro e w4 ⟨v, rfl, hs, hb4⟩
      have B4 : Hid (Below w.heap.size w w4) := B3.out.trans (hb4.mono B3.out.size)
      have hc4 : w4.cell? ⟨g, l.length - 1, none⟩ = some (.string (tx x)) := (hb4.cell (p := ⟨g, l.length - 1, none⟩) hg3).trans HC3.out
      obtain ⟨o2, rfl, _⟩ := hs.open
      rw [hdl]
      clear hb4 hs
      have i2 : (((l.length - 1 : Nat) : Int)) = ((l.length : Nat) : Int) - 1 := by omega
      have i3 : (0 : Int) ≤ ((l.length : Nat) : Int) - 1 := by omega
      have i4 : (((l.length : Nat) : Int) - 1).toNat = l.length - 1 := by omega
      have i5 : ((l.length : Nat) : Int) - 1 < ((l.length : Nat) : Int) := by omega

      go_wp2_with fail
      refine (KJ.out _).mono ?_
      rintro e w5 ⟨rfl, hb5⟩
      have B5 : Hid (Below w.heap.size w w5) := B4.out.trans (hb5.mono B4.out.size)
      clear hb5
      go_wp2_with fail
      refine (KD.out _).mono ?_
      rintro e w6 ⟨rfl, hb6⟩
      have B6 : Hid (Below w.heap.size w w6) := B5.out.trans (hb6.mono B5.out.size)
      clear hb6
      go_wp2_with fail
      refine (KI1.out _).mono ?_
      rintro e w7 ⟨rfl, hb7⟩
      have B7 : Hid (Below w.heap.size w w7) := B6.out.trans (hb7.mono B6.out.size)
      clear hb7
      go_wp2_with fail
      refine (KI2.out _).mono ?_
      rintro e w8 ⟨rfl, hb8⟩
      have B8 : Hid (Below w.heap.size w w8) := B7.out.trans (hb8.mono B7.out.size)
      clear hb8
      go_wp2_with fail
      refine (KL.out _).mono ?_
      rintro e w9 ⟨rfl, hb9⟩
      have B9 : Hid (Below w.heap.size w w9) := B8.out.trans (hb9.mono B8.out.size)
      clear hb9
      go_wp2_with fail
      refine (KW.out _).mono ?_
      rintro e w10 ⟨rfl, hb10⟩
      have B10 : Hid (Below w.heap.size w w10) := B9.out.trans (hb10.mono B9.out.size)
      clear hb10
      go_wp2_with fail
      go_ret
      exact ⟨rfl, B10.out⟩
  · rw [e] at K1
    go_enter Tryd.func3, Tryd.ntmps3
    go_wp2_with fail
    refine (K1.out _).mono ?_
    rintro e w1 ⟨rfl, hb1⟩
    have B1 : Hid (Below w.heap.size w w1) := hb1
    clear hb1
    go_wp2_with fail
    refine (K0.out _).mono ?_
    rintro e w2 ⟨rfl, hb2⟩
    have B2 : Hid (Below w.heap.size w w2) := B1.out.trans (hb2.mono B1.out.size)
    clear hb2
    go_wp2_with fail
    refine (KW.out _).mono ?_
    rintro e w3 ⟨rfl, hb3⟩
    have B3 : Hid (Below w.heap.size w w3) := B2.out.trans (hb3.mono B2.out.size)
    clear hb3
    go_wp2_with fail
    go_ret
    exact ⟨rfl, B3.out⟩
  · rw [e] at K1
    go_enter Tryd.func3, Tryd.ntmps3
    go_wp2_with fail
    refine (K1.out _).mono ?_
    rintro e w1 ⟨rfl, hb1⟩
    have B1 : Hid (Below w.heap.size w w1) := hb1
    clear hb1
    go_wp2_with fail
    refine (K0.out _).mono ?_
    rintro e w2 ⟨rfl, hb2⟩
    have B2 : Hid (Below w.heap.size w w2) := B1.out.trans (hb2.mono B1.out.size)
    clear hb2
    go_wp2_with fail
    refine (KW.out _).mono ?_
    rintro e w3 ⟨rfl, hb3⟩
    have B3 : Hid (Below w.heap.size w w3) := B2.out.trans (hb3.mono B2.out.size)
    clear hb3
    go_wp2_with fail
    go_ret
    exact ⟨rfl, B3.out⟩
end Go.Proofs.YtegdblacmghghabDoor
