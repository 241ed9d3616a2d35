/- The document's own Is, Parts, Up; the statements' own same. -/
import Derived.Test.YtegdblacmghghaaDoorTrlS
import Derived.Test.YtegdblacmghghaaDoorTrlH
namespace Go.Proofs.YtegdblacmghghaaDoor
open Go.ChangeShapes Go.WideShapes Go.ChangeAt Go.RowKit Go.Deep
set_option linter.unusedVariables false
theorem pcs_len2 (S : Tx) : (pcs S).length ≤ S.length + 1 := by
  induction S with
  | nil => simp [pcs]
  | cons b t ih =>
    unfold pcs
    split
    · simp; exact ih
    · have := List.length_pos_iff.2 (pcs_ne t)
      simp only [List.length_cons, List.length_tail]
      omega
theorem pcs_mem_len (L : Tx) : ∀ p ∈ pcs L, p.length ≤ L.length := fun p hp => by
  obtain ⟨i, hi, rfl⟩ := List.getElem_of_mem hp
  have := part_le_jn (pcs L) i _ (List.getElem?_eq_getElem hi)
  rwa [jn_pcs] at this
theorem Rd.nil (w : World) : Rd w (.slice none 0 0) [] := ⟨none, 0, rfl, by simp, by simp, fun j x hx => by simp at hx⟩
theorem Rd.take {w : World} {o : Option Addr} {n c : Nat} {l : List Tx} (h : Rd w (.slice o n c) l) (k : Nat) (hk : k ≤ l.length) : Rd w (.slice o k c) (l.take k) := by
  obtain ⟨o', c', e, h2, h3, h4⟩ := h
  simp only [Value.slice.injEq] at e
  obtain ⟨rfl, rfl, rfl⟩ := e
  have hl : (l.take k).length = k := by rw [List.length_take]; omega
  refine ⟨o, c, by rw [hl], by omega, h3, fun j x hx => ?_⟩
  refine h4 j x ?_
  rw [List.getElem?_take] at hx
  split at hx
  · exact hx
  · simp at hx
theorem Sl.rd {w : World} {base : Nat} {v : Value} {l : List Tx} (h : Sl w base v l) (hl : l.length ≤ 1000000) : Rd w v l := by
  obtain ⟨o, rfl, ho⟩ := h.open
  exact ⟨o, _, rfl, Nat.le_refl _, by omega, ho⟩
set_option maxHeartbeats 2000000 in
theorem rIs_is (L : Tx) (hl : L.length ≤ 100000000) (w : World) :
    Calls Tryd.prog 19 #[.string (tx L)] w fun e w' => e = .returned (.bool (isP L)) ∧ Below w.heap.size w w' := by
  have KP : Hid (Calls Tryd.prog 20 #[.string (tx L)] w fun e w' => ∃ v, e = .returned v ∧ RowsS w' w.heap.size v (pcs L) ∧ Below w.heap.size w w') := rpieces_is L (by omega) w
  have t1 := tx_toList L
  by_cases h0 : L = []
  · have HI : Hid (isP L = true) := by show _ = _; rw [h0]; rfl
    have e1 : (L == []) = true := by simp [h0]
    clear h0 KP
    go_enter Tryd.func19, Tryd.ntmps19
    go_wp2_with fail
    go_ret
    exact ⟨by rw [HI.out]; rfl, Below.refl _ _⟩
  · have e1 : (L == []) = false := by simp [h0]
    have HI : Hid (isP L = ((pcs L).all isPart && decide (((pcs L).length : Int) ≤ 8))) := by
      show _ = _
      unfold isP
      have : L.isEmpty = false := by simp [h0]
      rw [this, Bool.false_or, Bool.eq_iff_iff]
      simp only [Bool.and_eq_true, decide_eq_true_eq]
      constructor
      · rintro ⟨h1, h2⟩; exact ⟨h1, by omega⟩
      · rintro ⟨h1, h2⟩; exact ⟨h1, by omega⟩
    have hpl := pcs_len2 L
    have hpm : Hid (∀ p ∈ pcs L, p.length ≤ L.length) := pcs_mem_len L
    generalize pcs L = ps at *
    clear h0
    go_enter Tryd.func19, Tryd.ntmps19
    go_wp2_with fail
    refine KP.out.mono ?_
    rintro e w1 ⟨v1, rfl, hr1, hb1⟩
    have B1 : Hid (Below w.heap.size w w1) := hb1
    obtain ⟨o1, c1, rfl, k1, m1, ho1⟩ := hr1.rd
    have O1 : Hid (∀ j x, ps[j]? = some x → ∃ g, o1 = some ⟨g, 0, none⟩ ∧ w1.cell? ⟨g, j, none⟩ = some (.string (tx x))) := ho1
    clear hb1 hr1 ho1 KP
    go_wp2_with fail
    go_loopg [4] ps.length (fun g ii wr => ∃ (i : Nat), ii = .int .i64 i ∧ i ≤ ps.length ∧ g = ps.length - i ∧ Hid (∀ p ∈ ps.take i, isPart p = true) ∧ Hid (Below w1.heap.size w1 wr))
    case atStart => exact ⟨0, rfl, Nat.zero_le _, rfl, by intro p hp; simp at hp, Below.refl _ _⟩
    case round =>
      obtain ⟨i, rfl, hi, rfl, HP, HW⟩ := hrel
      have HBW : Hid (Below w.heap.size w wr) := B1.out.trans (HW.out.mono B1.out.size)
      by_cases hlt : i < ps.length
      · have j1 : (i : Int) < ((ps.length : Nat) : Int) := by omega
        have hx : ps[i]? = some ps[i] := List.getElem?_eq_getElem hlt
        have hal := hpm.out _ (List.getElem_mem hlt)
        have hmem := List.getElem_mem hlt
        obtain ⟨g1, rfl, q1⟩ := O1.out i _ hx
        have b1 : g1 < w1.heap.size := World.block_lt_of_cell? _ _ q1
        have HT : Hid (isPart ps[i] = true → ∀ p ∈ ps.take (i + 1), isPart p = true) := fun hp p hm => by
          rw [List.take_add_one, hx] at hm
          simp only [Option.toList_some, List.mem_append, List.mem_singleton] at hm
          rcases hm with hm | rfl
          · exact HP.out p hm
          · exact hp
        have HF : Hid (isPart ps[i] = false → isP L = false) := fun hp => by
          rw [HI.out]
          have : ps.all isPart = false := by
            rw [Bool.eq_false_iff]
            intro ha
            rw [List.all_eq_true.1 ha _ hmem] at hp
            simp at hp
          rw [this, Bool.false_and]
        generalize ps[i] = a at *
        have r1 : wr.cell? ⟨g1, i, none⟩ = some (.string (tx a)) := (HW.out.cell (p := ⟨g1, i, none⟩) b1).trans q1
        have KA : Hid (Calls Tryd.prog 30 #[.string (tx a)] wr fun e w' => e = .returned (.bool (isPart a)) ∧ Below wr.heap.size wr w') := rpart_is a (by omega) wr
        clear hx hmem q1
        go_wp2_with fail
        refine KA.out.mono ?_
        rintro e w2 ⟨rfl, hb2⟩
        have W2 : Hid (Below w1.heap.size w1 w2) := HW.out.trans (hb2.mono HW.out.size)
        have BW2 : Hid (Below w.heap.size w w2) := HBW.out.trans (hb2.mono HBW.out.size)
        clear hb2 KA
        cases hpa : isPart a with
        | true =>
          have HT2 : Hid (∀ p ∈ ps.take (i + 1), isPart p = true) := HT.out hpa
          clear HT HF
          go_wp2_with fail
          go_roundg (ps.length - (i + 1))
          case measure => omega
          case rel => exact ⟨i + 1, by go_num, by omega, rfl, HT2, W2⟩
        | false =>
          have HF2 : Hid (isP L = false) := HF.out hpa
          clear HT HF
          go_wp2_with fail
          go_ret
          exact ⟨by rw [HF2.out]; rfl, BW2.out⟩
      · have ei : i = ps.length := by omega
        subst ei
        have j1 : ¬ ((ps.length : Nat) : Int) < ((ps.length : Nat) : Int) := by omega
        have HI2 : Hid (isP L = decide (((ps.length : Nat) : Int) ≤ 8)) := by
          show _ = _
          rw [HI.out]
          have : ps.all isPart = true := List.all_eq_true.2 fun p hp => HP.out p (by rw [List.take_length]; exact hp)
          rw [this, Bool.true_and]
        go_wp2_with fail
        go_ret
        exact ⟨by rw [HI2.out]; rfl, HBW.out⟩
theorem RowsS.base {w : World} {a b : Nat} {v : Value} {l : List Tx} (h : RowsS w b v l) (hab : a ≤ b) : RowsS w a v l := by
  refine ⟨h.1, ?_⟩
  rcases h.2 with h1 | ⟨g, cap, cur, g1, g2, r⟩
  · exact .inl h1
  · exact .inr ⟨g, cap, cur, g1, Nat.le_trans hab g2, r⟩
theorem RowsS.from {w : World} {b : Nat} {v : Value} {l : List Tx} (h : RowsS w b v l) : ∀ g, v.ownBlock = some g → b ≤ g := fun g hg => (World.ownsRow.lt h g hg).1
theorem rparts_rows (L : Tx) (hl : L.length ≤ 100000000) (w : World) :
    Calls Tryd.prog 10 #[.string (tx L)] w fun e w' => ∃ v, e = .returned v ∧ RowsS w' w.heap.size v (prt L) ∧ Below w.heap.size w w' := by
  have K : Hid (Calls Tryd.prog 19 #[.string (tx L)] w fun e w' => e = .returned (.bool (isP L)) ∧ Below w.heap.size w w') := rIs_is L hl w
  have KS : Hid (∀ w, Calls Tryd.prog 20 #[.string (tx L)] w fun e w' => ∃ v, e = .returned v ∧ RowsS w' w.heap.size v (pcs L) ∧ Below w.heap.size w w') := rpieces_is L (by omega)
  have t1 := tx_toList L
  by_cases h0 : L = []
  · have HP : Hid (prt L = []) := by show _ = _; rw [prt, if_neg (by simp [h0])]
    have e1 : (L == []) = true := by simp [h0]
    clear h0
    go_enter Tryd.func10, Tryd.ntmps10
    go_wp2_with fail
    go_ret
    exact ⟨_, rfl, by rw [HP.out]; exact World.ownsRow_nil _ _ _ _, Below.refl _ _⟩
  · have e1 : (L == []) = false := by simp [h0]
    cases hp : isP L with
    | false =>
      have HP : Hid (prt L = []) := by show _ = _; rw [prt, if_neg (by simp [hp])]
      rw [hp] at K
      clear h0 hp
      go_enter Tryd.func10, Tryd.ntmps10
      go_wp2_with fail
      refine K.out.mono ?_
      rintro e w' ⟨rfl, hw⟩
      go_wp2_with fail
      go_ret
      exact ⟨_, rfl, by rw [HP.out]; exact World.ownsRow_nil _ _ _ _, hw⟩
    | true =>
      have HP : Hid (prt L = pcs L) := by show _ = _; rw [prt, if_pos ⟨h0, hp⟩]
      rw [hp] at K
      clear h0 hp
      go_enter Tryd.func10, Tryd.ntmps10
      go_wp2_with fail
      refine K.out.mono ?_
      rintro e w' ⟨rfl, hw⟩
      have HW : Hid (Below w.heap.size w w') := hw
      clear hw
      go_wp2_with fail
      refine (KS.out _).mono ?_
      rintro e w2 ⟨v, rfl, hr, hb2⟩
      have HR : Hid (RowsS w2 w.heap.size v (prt L)) := by rw [HP.out]; exact hr.base HW.out.size
      have B2 : Hid (Below w.heap.size w w2) := HW.out.trans (hb2.mono HW.out.size)
      clear hr hb2
      go_wp2_with fail
      go_ret
      exact ⟨_, rfl, HR.out, B2.out⟩
theorem rparts_is (L : Tx) (hl : L.length ≤ 100000000) (w : World) :
    Calls Tryd.prog 10 #[.string (tx L)] w fun e w' => ∃ v, e = .returned v ∧ Rd w' v (prt L) ∧ Below w.heap.size w w' :=
  (rparts_rows L hl w).mono fun _ _ ⟨v, he, hr, hb⟩ => ⟨v, he, hr.rd, hb⟩
theorem rup_is (L : Tx) (hl : L.length ≤ 100000000) (w : World) :
    Calls Tryd.prog 7 #[.string (tx L)] w fun e w' => e = .returned (.tuple #[.string (tx (jn (prt L).dropLast)), .bool (!(prt L).isEmpty)]) ∧ Below w.heap.size w w' := by
  have K : Hid (Calls Tryd.prog 10 #[.string (tx L)] w fun e w' => ∃ v, e = .returned v ∧ Rd w' v (prt L) ∧ Below w.heap.size w w') := rparts_is L hl w
  have HF : Hid ((∀ p ∈ prt L, isPart p = true) ∧ (prt L).length ≤ 8) := prt_facts L
  generalize prt L = l at *
  go_enter Tryd.func7, Tryd.ntmps7
  go_wp2_with fail
  refine K.out.mono ?_
  rintro e w' ⟨v, rfl, hs, hw⟩
  have HW : Hid (Below w.heap.size w w') := hw
  have h8 := HF.out.2
  obtain ⟨o, c, rfl, hc1, hc2, ho⟩ := hs
  by_cases h0 : l = []
  · subst h0
    clear hw K ho
    go_wp2_with fail
    go_ret2
    exact ⟨rfl, HW.out⟩
  · have hlp : 0 < l.length := List.length_pos_iff.2 h0
    obtain ⟨g, rfl, _⟩ := ho 0 _ (List.getElem?_eq_getElem hlp)
    have HIE : Hid (l.isEmpty = false) := by show _ = _; simp [h0]
    have hd : l.dropLast.length = l.length - 1 := List.length_dropLast
    have hjl := jn_le8 (l := l.dropLast) (fun p hp => HF.out.1 p (List.dropLast_subset _ hp)) (by omega)
    have hrd : Rd w' (.slice (some ⟨g, 0, none⟩) (l.length - 1) c) l.dropLast := by
      have := Rd.take (w := w') (o := some ⟨g, 0, none⟩) (n := l.length) (c := c) (l := l) ⟨_, _, rfl, hc1, hc2, ho⟩ (l.length - 1) (by omega)
      rwa [← List.dropLast_eq_take] at this
    have KT : Hid (Calls Tryd.prog 16 #[.slice (some ⟨g, 0, none⟩) (l.length - 1) c] w' fun e w2 => e = .returned (.string (tx (jn l.dropLast))) ∧ Below w'.heap.size w' w2) := rtext_is _ _ w' hrd (by omega) (by omega)
    have i1 : ¬ ((l.length : Nat) : Int) = 0 := by omega
    have i2 : (0 : Int) ≤ ((l.length : Nat) : Int) - 1 := by omega
    have i3 : ((l.length : Nat) : Int) - 1 ≤ (c : Int) := by omega
    have i4 : (((l.length : Nat) : Int) - 1).toNat = l.length - 1 := by omega
    clear hw K ho hrd hjl
    go_wp2_with fail
    refine KT.out.mono ?_
    rintro e w2 ⟨rfl, hb2⟩
    have B2 : Hid (Below w.heap.size w w2) := HW.out.trans (hb2.mono HW.out.size)
    clear hb2 KT
    go_wp2_with fail
    go_ret2
    refine ⟨?_, B2.out⟩
    rw [HIE.out]
    rfl
set_option maxHeartbeats 2000000 in
theorem same_is (v1 v2 : Value) (l : List Tx) (hn : l.length ≤ 1000000000) (w : World) (h1 : Rd w v1 l) (h2 : Rd w v2 l) :
    Calls Tryd.prog 8 #[v1, v2] w fun e w' => e = .returned (.bool true) ∧ Below w.heap.size w w' := by
  obtain ⟨o1, c1, rfl, k1, m1, ho1⟩ := h1
  obtain ⟨o2, c2, rfl, k2, m2, ho2⟩ := h2
  have O1 : Hid (∀ j x, l[j]? = some x → ∃ g, o1 = some ⟨g, 0, none⟩ ∧ w.cell? ⟨g, j, none⟩ = some (.string (tx x))) := ho1
  have O2 : Hid (∀ j x, l[j]? = some x → ∃ g, o2 = some ⟨g, 0, none⟩ ∧ w.cell? ⟨g, j, none⟩ = some (.string (tx x))) := ho2
  clear ho1 ho2
  go_enter Tryd.func8, Tryd.ntmps8
  go_wp2_with fail
  go_loopg [13] l.length (fun g ii wr => ∃ i : Nat, ii = .int .i64 i ∧ i ≤ l.length ∧ g = l.length - i ∧ Hid (Below w.heap.size w wr))
  case atStart => exact ⟨0, rfl, Nat.zero_le _, rfl, Below.refl _ _⟩
  case round =>
    obtain ⟨i, rfl, hi, rfl, HW⟩ := hrel
    by_cases hlt : i < l.length
    · have j1 : (i : Int) < ((l.length : Nat) : Int) := by omega
      have hx : l[i]? = some l[i] := List.getElem?_eq_getElem hlt
      obtain ⟨g1, rfl, q1⟩ := O1.out i _ hx
      obtain ⟨g2, rfl, q2⟩ := O2.out i _ hx
      generalize l[i] = x at *
      have r1 : wr.cell? ⟨g1, i, none⟩ = some (.string (tx x)) := (HW.out.cell (p := ⟨g1, i, none⟩) (World.block_lt_of_cell? _ _ q1)).trans q1
      have r2 : wr.cell? ⟨g2, i, none⟩ = some (.string (tx x)) := (HW.out.cell (p := ⟨g2, i, none⟩) (World.block_lt_of_cell? _ _ q2)).trans q2
      have t1 := tx_toList x
      clear q1 q2 hx
      go_wp2_with fail
      go_quiet (fail)
      go_wp2_with fail
      go_roundg (l.length - (i + 1))
      case measure => omega
      case rel => exact ⟨i + 1, by go_num, by omega, rfl, below_drewN HW.out _⟩
    · have ei : i = l.length := by omega
      subst ei
      have j1 : ¬ ((l.length : Nat) : Int) < ((l.length : Nat) : Int) := by omega
      go_wp2_with fail
      go_ret
      exact ⟨rfl, HW.out⟩
end Go.Proofs.YtegdblacmghghaaDoor
