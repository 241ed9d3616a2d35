/- The document's own Is, Parts, Up; the statements' own same. -/
import Derived.Test.YtldlcbkjhgdolaaDoorTrlS
import Derived.Test.YtldlcbkjhgdolaaDoorTrlG1
namespace Go.Proofs.YtldlcbkjhgdolaaDoor
open Go.ChangeShapes Go.WideShapes Go.ChangeAt Go.RowKit Go.Deep
set_option linter.unusedVariables false
theorem pcs_len2 (S : Tx) : (pcs S).length ≤ S.length + 1 := by
  induction S with
  | nil => simp [pcs]
  | cons b t ih =>
    unfold pcs
    split
    · simp; exact ih
    · have := List.length_pos_iff.2 (pcs_ne t)
      simp only [List.length_cons, List.length_tail]
      omega
theorem pcs_mem_len (L : Tx) : ∀ p ∈ pcs L, p.length ≤ L.length := fun p hp => by
  obtain ⟨i, hi, rfl⟩ := List.getElem_of_mem hp
  have := part_le_jn (pcs L) i _ (List.getElem?_eq_getElem hi)
  rwa [jn_pcs] at this
theorem Rd.nil (w : World) : Rd w (.slice none 0 0) [] := ⟨none, 0, rfl, by simp, by simp, fun j x hx => by simp at hx⟩
theorem Rd.take {w : World} {o : Option Addr} {n c : Nat} {l : List Tx} (h : Rd w (.slice o n c) l) (k : Nat) (hk : k ≤ l.length) : Rd w (.slice o k c) (l.take k) := by
  obtain ⟨o', c', e, h2, h3, h4⟩ := h
  simp only [Value.slice.injEq] at e
  obtain ⟨rfl, rfl, rfl⟩ := e
  have hl : (l.take k).length = k := by rw [List.length_take]; omega
  refine ⟨o, c, by rw [hl], by omega, h3, fun j x hx => ?_⟩
  refine h4 j x ?_
  rw [List.getElem?_take] at hx
  split at hx
  · exact hx
  · simp at hx
set_option maxHeartbeats 2000000 in
theorem rIs_is (L : Tx) (hl : L.length ≤ 100000000) (w : World) :
    Calls Tryd.prog 59 #[.string (tx L)] w fun e w' => e = .returned (.bool (isP L)) ∧ Below w.heap.size w w' := by
  have KP : Hid (Calls Tryd.prog 83 #[.string (tx L)] w fun e w' => ∃ v, e = .returned v ∧ RowsS w' w.heap.size v (pcs L) ∧ Below w.heap.size w w') := rpieces_is L (by omega) w
  have t1 := tx_toList L
  by_cases h0 : L = []
  · have HI : Hid (isP L = true) := by show _ = _; rw [h0]; rfl
    have e1 : (L == []) = true := by simp [h0]
    clear h0 KP
    go_enter Tryd.func59, Tryd.ntmps59
    go_wp2_with fail
    go_ret
    exact ⟨by rw [HI.out]; rfl, Below.refl _ _⟩
  · have e1 : (L == []) = false := by simp [h0]
    have HI : Hid (isP L = ((pcs L).all isPart && decide (((pcs L).length : Int) ≤ 8))) := by
      show _ = _
      unfold isP
      have : L.isEmpty = false := by simp [h0]
      rw [this, Bool.false_or, Bool.eq_iff_iff]
      simp only [Bool.and_eq_true, decide_eq_true_eq]
      constructor
      · rintro ⟨h1, h2⟩; exact ⟨h1, by omega⟩
      · rintro ⟨h1, h2⟩; exact ⟨h1, by omega⟩
    have hpl := pcs_len2 L
    have hpm : Hid (∀ p ∈ pcs L, p.length ≤ L.length) := pcs_mem_len L
    generalize pcs L = ps at *
    clear h0
    go_enter Tryd.func59, Tryd.ntmps59
    go_wp2_with fail
    refine KP.out.mono ?_
    rintro e w1 ⟨v1, rfl, hr1, hb1⟩
    have B1 : Hid (Below w.heap.size w w1) := hb1
    obtain ⟨o1, c1, rfl, k1, m1, ho1⟩ := hr1.rd
    have O1 : Hid (∀ j x, ps[j]? = some x → ∃ g, o1 = some ⟨g, 0, none⟩ ∧ w1.cell? ⟨g, j, none⟩ = some (.string (tx x))) := ho1
    clear hb1 hr1 ho1 KP
    go_wp2_with fail
    go_loopg [4] ps.length (fun g ii wr => ∃ (i : Nat), ii = .int .i64 i ∧ i ≤ ps.length ∧ g = ps.length - i ∧ Hid (∀ p ∈ ps.take i, isPart p = true) ∧ Hid (Below w1.heap.size w1 wr))
    case atStart => exact ⟨0, rfl, Nat.zero_le _, rfl, by intro p hp; simp at hp, Below.refl _ _⟩
    case round =>
      obtain ⟨i, rfl, hi, rfl, HP, HW⟩ := hrel
      have HBW : Hid (Below w.heap.size w wr) := B1.out.trans (HW.out.mono B1.out.size)
      by_cases hlt : i < ps.length
      · have j1 : (i : Int) < ((ps.length : Nat) : Int) := by omega
        have hx : ps[i]? = some ps[i] := List.getElem?_eq_getElem hlt
        have hal := hpm.out _ (List.getElem_mem hlt)
        have hmem := List.getElem_mem hlt
        obtain ⟨g1, rfl, q1⟩ := O1.out i _ hx
        have b1 : g1 < w1.heap.size := World.block_lt_of_cell? _ _ q1
        have HT : Hid (isPart ps[i] = true → ∀ p ∈ ps.take (i + 1), isPart p = true) := fun hp p hm => by
          rw [List.take_add_one, hx] at hm
          simp only [Option.toList_some, List.mem_append, List.mem_singleton] at hm
          rcases hm with hm | rfl
          · exact HP.out p hm
          · exact hp
        have HF : Hid (isPart ps[i] = false → isP L = false) := fun hp => by
          rw [HI.out]
          have : ps.all isPart = false := by
            rw [Bool.eq_false_iff]
            intro ha
            rw [List.all_eq_true.1 ha _ hmem] at hp
            simp at hp
          rw [this, Bool.false_and]
        generalize ps[i] = a at *
        have r1 : wr.cell? ⟨g1, i, none⟩ = some (.string (tx a)) := (HW.out.cell (p := ⟨g1, i, none⟩) b1).trans q1
        have KA : Hid (Calls Tryd.prog 84 #[.string (tx a)] wr fun e w' => e = .returned (.bool (isPart a)) ∧ Below wr.heap.size wr w') := rpart_is a (by omega) wr
        clear hx hmem q1
        go_wp2_with fail
        refine KA.out.mono ?_
        rintro e w2 ⟨rfl, hb2⟩
        have W2 : Hid (Below w1.heap.size w1 w2) := HW.out.trans (hb2.mono HW.out.size)
        have BW2 : Hid (Below w.heap.size w w2) := HBW.out.trans (hb2.mono HBW.out.size)
        clear hb2 KA
        cases hpa : isPart a with
        | true =>
          have HT2 : Hid (∀ p ∈ ps.take (i + 1), isPart p = true) := HT.out hpa
          clear HT HF
          go_wp2_with fail
          go_roundg (ps.length - (i + 1))
          case measure => omega
          case rel => exact ⟨i + 1, by go_num, by omega, rfl, HT2, W2⟩
        | false =>
          have HF2 : Hid (isP L = false) := HF.out hpa
          clear HT HF
          go_wp2_with fail
          go_ret
          exact ⟨by rw [HF2.out]; rfl, BW2.out⟩
      · have ei : i = ps.length := by omega
        subst ei
        have j1 : ¬ ((ps.length : Nat) : Int) < ((ps.length : Nat) : Int) := by omega
        have HI2 : Hid (isP L = decide (((ps.length : Nat) : Int) ≤ 8)) := by
          show _ = _
          rw [HI.out]
          have : ps.all isPart = true := List.all_eq_true.2 fun p hp => HP.out p (by rw [List.take_length]; exact hp)
          rw [this, Bool.true_and]
        go_wp2_with fail
        go_ret
        exact ⟨by rw [HI2.out]; rfl, HBW.out⟩
end Go.Proofs.YtldlcbkjhgdolaaDoor
