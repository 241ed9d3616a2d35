/- The document's own pieces, Less, In. The document's own Is, Parts, Up; the statements' own same. -/
import Derived.Test.YtlddoobomjcldaaDoorMgLc5
import Derived.Test.YtlddoobomjcldaaDoorMgLc2
namespace Go.Proofs.YtlddoobomjcldaaDoor
open Go.ChangeShapes Go.WideShapes Go.ChangeAt Go.RowKit Go.Deep
set_option linter.unusedVariables false
theorem rpieces0_is (S : Tx) (hl : S.length ≤ 1000000000) (w : World) :
    Calls Tryd.prog 94 #[.string (tx S)] w fun e w' => ∃ v, e = .returned v ∧ Rd w' v (pcs0 S) ∧ Below w.heap.size w w' := by
  have K : Hid (Calls Tryd.prog 92 #[.string (tx S)] w fun e w' => ∃ v, e = .returned v ∧ RowsS w' w.heap.size v (pcs S) ∧ Below w.heap.size w w') := rpieces_is S hl w
  have t1 := tx_toList S
  by_cases h0 : S = []
  · have HP : Hid (pcs0 S = []) := by show _ = _; rw [pcs0, if_pos h0]
    have e1 : (S == []) = true := by simp [h0]
    clear h0 K
    go_enter Tryd.func94, Tryd.ntmps94
    go_wp2_with fail
    go_ret
    refine ⟨_, rfl, ?_, Below.refl _ _⟩
    rw [HP.out]
    exact ⟨none, 0, rfl, by simp, by simp, fun j x hx => by simp at hx⟩
  · have HP : Hid (pcs0 S = pcs S) := by show _ = _; rw [pcs0, if_neg h0]
    have e1 : (S == []) = false := by simp [h0]
    clear h0
    go_enter Tryd.func94, Tryd.ntmps94
    go_wp2_with fail
    refine K.out.mono ?_
    rintro e w1 ⟨v, rfl, hr, hb⟩
    have HR : Hid (Rd w1 v (pcs0 S)) := by rw [HP.out]; exact hr.rd
    have HB : Hid (Below w.heap.size w w1) := hb
    clear hr hb K
    go_wp2_with fail
    go_ret
    exact ⟨_, rfl, HR.out, HB.out⟩
theorem drop_at (l : List Tx) (i : Nat) (x : Tx) (h : l[i]? = some x) : l.drop i = x :: l.drop (i + 1) := by
  have hi := (List.getElem?_eq_some_iff.1 h).1
  rw [List.drop_eq_getElem_cons hi]
  rw [List.getElem?_eq_getElem hi] at h
  rw [Option.some.inj h]
theorem ltP_end (A B : List Tx) (i : Nat) (hA : i ≤ A.length) (hB : i ≤ B.length) (h : ¬ (i < A.length ∧ i < B.length)) : ltP (A.drop i) (B.drop i) = decide (A.length < B.length) := by
  by_cases h1 : i < A.length
  · have h2 : B.length = i := by omega
    rw [List.drop_of_length_le (l := B) (by omega), decide_eq_false (by omega)]
    cases A.drop i <;> rfl
  · have h2 : A.length = i := by omega
    rw [List.drop_of_length_le (l := A) (by omega)]
    by_cases h3 : i < B.length
    · rw [decide_eq_true (by omega), List.drop_eq_getElem_cons h3]
      rfl
    · rw [decide_eq_false (by omega), List.drop_of_length_le (by omega)]
      rfl
theorem pcs_len (S : Tx) : (pcs S).length ≤ S.length + 1 := by
  induction S with
  | nil => simp [pcs]
  | cons b t ih =>
    unfold pcs
    split
    · simp; exact ih
    · have := List.length_pos_iff.2 (pcs_ne t)
      simp only [List.length_cons, List.length_tail]
      omega
theorem pcs0_len (S : Tx) : (pcs0 S).length ≤ S.length + 1 := by
  unfold pcs0
  split
  · simp
  · exact pcs_len S
set_option maxHeartbeats 2000000 in
theorem rless_is (P Q : Tx) (hp : P.length ≤ 1000000000) (hq : Q.length ≤ 1000000000) (w : World) :
    Calls Tryd.prog 73 #[.string (tx P), .string (tx Q)] w fun e w' => e = .returned (.bool (les P Q)) ∧ Below w.heap.size w w' := by
  have KP : Hid (Calls Tryd.prog 94 #[.string (tx P)] w fun e w' => ∃ v, e = .returned v ∧ Rd w' v (pcs0 P) ∧ Below w.heap.size w w') := rpieces0_is P hp w
  have KQ : Hid (∀ w, Calls Tryd.prog 94 #[.string (tx Q)] w fun e w' => ∃ v, e = .returned v ∧ Rd w' v (pcs0 Q) ∧ Below w.heap.size w w') := rpieces0_is Q hq
  have HL : Hid (ltP (pcs0 P) (pcs0 Q) = les P Q) := les_pcs0 P Q
  have hlA := pcs0_len P
  have hlB := pcs0_len Q
  generalize pcs0 P = A at *
  generalize pcs0 Q = B at *
  go_enter Tryd.func73, Tryd.ntmps73
  go_wp2_with fail
  refine KP.out.mono ?_
  rintro e w1 ⟨v1, rfl, hr1, hb1⟩
  have B1 : Hid (Below w.heap.size w w1) := hb1
  have R1 : Hid (Rd w1 v1 A) := hr1
  clear hb1 hr1 KP
  go_wp2_with fail
  refine (KQ.out _).mono ?_
  rintro e w2 ⟨v2, rfl, hr2, hb2⟩
  have B2 : Hid (Below w.heap.size w w2) := B1.out.trans (hb2.mono B1.out.size)
  obtain ⟨o1, c1, rfl, k1, m1, ho1⟩ := R1.out.keep hb2
  obtain ⟨o2, c2, rfl, k2, m2, ho2⟩ := hr2
  have O1 : Hid (∀ j x, A[j]? = some x → ∃ g, o1 = some ⟨g, 0, none⟩ ∧ w2.cell? ⟨g, j, none⟩ = some (.string (tx x))) := ho1
  have O2 : Hid (∀ j x, B[j]? = some x → ∃ g, o2 = some ⟨g, 0, none⟩ ∧ w2.cell? ⟨g, j, none⟩ = some (.string (tx x))) := ho2
  clear hb2 R1 ho1 ho2 KQ B1
  go_wp2_with fail
  go_loopg [7] A.length (fun g ii wr => ∃ i : Nat, ii = .int .i64 i ∧ i ≤ A.length ∧ i ≤ B.length ∧ g = A.length - i ∧ Hid (ltP (A.drop i) (B.drop i) = les P Q) ∧ Hid (Below w2.heap.size w2 wr))
  case atStart => exact ⟨0, rfl, Nat.zero_le _, Nat.zero_le _, rfl, HL, Below.refl _ _⟩
  case round =>
    obtain ⟨i, rfl, hiA, hiB, rfl, HE, HW⟩ := hrel
    by_cases hlt : i < A.length ∧ i < B.length
    · have j1 : (i : Int) < ((A.length : Nat) : Int) := by omega
      have j2 : (i : Int) < ((B.length : Nat) : Int) := by omega
      have hx : A[i]? = some A[i] := List.getElem?_eq_getElem hlt.1
      have hy : B[i]? = some B[i] := List.getElem?_eq_getElem hlt.2
      have hdx := drop_at A i _ hx
      have hdy := drop_at B i _ hy
      obtain ⟨g1, rfl, q1⟩ := O1.out i _ hx
      obtain ⟨g2, rfl, q2⟩ := O2.out i _ hy
      generalize A[i] = x at *
      generalize B[i] = y at *
      have b1 : g1 < w2.heap.size := World.block_lt_of_cell? _ _ q1
      have b2 : g2 < w2.heap.size := World.block_lt_of_cell? _ _ q2
      have r1 : wr.cell? ⟨g1, i, none⟩ = some (.string (tx x)) := (HW.out.cell (p := ⟨g1, i, none⟩) b1).trans q1
      have r2 : wr.cell? ⟨g2, i, none⟩ = some (.string (tx y)) := (HW.out.cell (p := ⟨g2, i, none⟩) b2).trans q2
      have t1 := tx_toList x
      have t2 := tx_toList y
      have HE2 : Hid (les P Q = if x = y then ltP (A.drop (i + 1)) (B.drop (i + 1)) else ltB x y) := by show _ = _; rw [← HE.out, hdx, hdy, ltP]
      clear q1 q2 hx hy hdx hdy HE
      by_cases hxy : x = y
      · subst hxy
        have HE3 : Hid (ltP (A.drop (i + 1)) (B.drop (i + 1)) = les P Q) := by show _ = _; rw [HE2.out, if_pos rfl]
        clear HE2
        go_wp2_with fail
        go_quiet (fail)
        go_wp2_with fail
        go_roundg (A.length - (i + 1))
        case measure => omega
        case rel => exact ⟨i + 1, by go_num, by omega, by omega, rfl, HE3, below_drewN HW.out _⟩
      · have exy : (x == y) = false := by simp [hxy]
        have HE3 : Hid (les P Q = ltB x y) := by show _ = _; rw [HE2.out, if_neg hxy]
        have t3 := bytesLess_lt x y
        clear HE2
        go_wp2_with fail
        go_quiet (fail)
        go_wp2_with fail
        go_quiet (fail)
        go_wp2_with fail
        go_ret
        exact ⟨by rw [HE3.out]; rfl, B2.out.trans (below_drewN (below_drewN (HW.out.mono B2.out.size) _) _)⟩
    · have HE2 : Hid (les P Q = decide (A.length < B.length)) := by show _ = _; rw [← HE.out, ltP_end A B i hiA hiB hlt]
      have HB2 : Hid (Below w.heap.size w wr) := B2.out.trans (HW.out.mono B2.out.size)
      by_cases h1 : i < A.length
      · have j1 : (i : Int) < ((A.length : Nat) : Int) := by omega
        have j2 : ¬ (i : Int) < ((B.length : Nat) : Int) := by omega
        go_wp2_with fail
        go_ret
        exact ⟨by rw [HE2.out]; rfl, HB2.out⟩
      · have j1 : ¬ (i : Int) < ((A.length : Nat) : Int) := by omega
        go_wp2_with fail
        go_ret
        exact ⟨by rw [HE2.out]; rfl, HB2.out⟩
theorem inn_eq (P Q : Tx) (h0 : ¬ P = []) (h1 : ¬ Q = P) : inn P Q = (decide (((P.length : Nat) : Int) < ((Q.length : Nat) : Int)) && decide (Q.take (P.length + 1) = P ++ [47])) := by
  rw [Bool.eq_iff_iff, Bool.and_eq_true, decide_eq_true_iff, decide_eq_true_iff, inn_iff]
  constructor
  · rintro (h | h | ⟨r, rfl⟩)
    · exact absurd h h0
    · exact absurd h h1
    · refine ⟨by simp; omega, ?_⟩
      rw [List.take_append, List.take_of_length_le (by omega), show P.length + 1 - P.length = 1 by omega]
      rfl
  · rintro ⟨h2, h3⟩
    right; right
    refine ⟨Q.drop (P.length + 1), ?_⟩
    conv => lhs; rw [← List.take_append_drop (P.length + 1) Q]
    rw [h3]
    simp
theorem rin_is (P Q : Tx) (hp : P.length ≤ 1000000000) (hq : Q.length ≤ 1000000000) (w : World) :
    Calls Tryd.prog 74 #[.string (tx P), .string (tx Q)] w fun e w' => e = .returned (.bool (inn P Q)) ∧ Below w.heap.size w w' := by
  have h1 := tx_toList P
  have h2 := tx_toList Q
  have h3 := tx_size P
  have h4 := tx_size Q
  by_cases e0 : P = []
  · have HI : Hid (inn P Q = true) := (inn_iff P Q).2 (.inl e0)
    have ee : (P == []) = true := by simp [e0]
    clear e0
    go_enter Tryd.func74, Tryd.ntmps74
    go_wp2_with fail
    go_ret
    exact ⟨by rw [HI.out]; rfl, Below.refl _ _⟩
  · have ee : (P == []) = false := by simp [e0]
    by_cases e1 : Q = P
    · have HI : Hid (inn P Q = true) := (inn_iff P Q).2 (.inr (.inl e1))
      have ef : (P == Q) = true := by simp [e1]
      clear e1
      go_enter Tryd.func74, Tryd.ntmps74
      go_wp2_with fail
      go_ret
      exact ⟨by rw [HI.out]; rfl, Below.refl _ _⟩
    · have HI : Hid (inn P Q = (decide (((P.length : Nat) : Int) < ((Q.length : Nat) : Int)) && decide (Q.take (P.length + 1) = P ++ [47]))) := inn_eq P Q e0 e1
      have ef : (P == Q) = false := by simp; exact fun e => e1 e.symm
      have a1 : tx P ++ ⟨#[47]⟩ = tx (P ++ [47]) := tx_append P [47]
      have i1 : ¬ 9223372036854775807 < P.length + 1 := by omega
      clear e0 e1
      by_cases hlt : P.length < Q.length
      · have j1 : ((P.length : Nat) : Int) < ((Q.length : Nat) : Int) := by omega
        have j2 : ((P.length : Nat) : Int) + 1 ≤ ((Q.length : Nat) : Int) := by omega
        have x1 : (tx Q).extract 0 (P.length + 1) = tx (Q.take (P.length + 1)) := by rw [tx_extract]; simp
        have eq1 : ((tx (Q.take (P.length + 1))).toList == (tx (P ++ [47])).toList) = decide (Q.take (P.length + 1) = P ++ [47]) := tx_eq _ _
        have HI2 : Hid (inn P Q = decide (Q.take (P.length + 1) = P ++ [47])) := by show _ = _; rw [HI.out, decide_eq_true j1, Bool.true_and]
        generalize decide (Q.take (P.length + 1) = P ++ [47]) = bb at *
        generalize tx (Q.take (P.length + 1)) = S1 at *
        generalize tx (P ++ [47]) = S2 at *
        clear HI
        go_enter Tryd.func74, Tryd.ntmps74
        go_wp2_with fail
        go_ret
        exact ⟨by rw [HI2.out]; rfl, Below.refl _ _⟩
      · have j1 : ¬ ((P.length : Nat) : Int) < ((Q.length : Nat) : Int) := by omega
        have HI2 : Hid (inn P Q = false) := by show _ = _; rw [HI.out, decide_eq_false j1, Bool.false_and]
        clear HI
        go_enter Tryd.func74, Tryd.ntmps74
        go_wp2_with fail
        go_ret
        exact ⟨by rw [HI2.out]; rfl, Below.refl _ _⟩
end Go.Proofs.YtlddoobomjcldaaDoor
namespace Go.Proofs.YtlddoobomjcldaaDoor
open Go.ChangeShapes Go.WideShapes Go.ChangeAt Go.RowKit Go.Deep
set_option linter.unusedVariables false
theorem pcs_len2 (S : Tx) : (pcs S).length ≤ S.length + 1 := by
  induction S with
  | nil => simp [pcs]
  | cons b t ih =>
    unfold pcs
    split
    · simp; exact ih
    · have := List.length_pos_iff.2 (pcs_ne t)
      simp only [List.length_cons, List.length_tail]
      omega
theorem pcs_mem_len (L : Tx) : ∀ p ∈ pcs L, p.length ≤ L.length := fun p hp => by
  obtain ⟨i, hi, rfl⟩ := List.getElem_of_mem hp
  have := part_le_jn (pcs L) i _ (List.getElem?_eq_getElem hi)
  rwa [jn_pcs] at this
theorem Rd.nil (w : World) : Rd w (.slice none 0 0) [] := ⟨none, 0, rfl, by simp, by simp, fun j x hx => by simp at hx⟩
theorem Rd.take {w : World} {o : Option Addr} {n c : Nat} {l : List Tx} (h : Rd w (.slice o n c) l) (k : Nat) (hk : k ≤ l.length) : Rd w (.slice o k c) (l.take k) := by
  obtain ⟨o', c', e, h2, h3, h4⟩ := h
  simp only [Value.slice.injEq] at e
  obtain ⟨rfl, rfl, rfl⟩ := e
  have hl : (l.take k).length = k := by rw [List.length_take]; omega
  refine ⟨o, c, by rw [hl], by omega, h3, fun j x hx => ?_⟩
  refine h4 j x ?_
  rw [List.getElem?_take] at hx
  split at hx
  · exact hx
  · simp at hx
set_option maxHeartbeats 2000000 in
theorem rIs_is (L : Tx) (hl : L.length ≤ 100000000) (w : World) :
    Calls Tryd.prog 72 #[.string (tx L)] w fun e w' => e = .returned (.bool (isP L)) ∧ Below w.heap.size w w' := by
  have KP : Hid (Calls Tryd.prog 92 #[.string (tx L)] w fun e w' => ∃ v, e = .returned v ∧ RowsS w' w.heap.size v (pcs L) ∧ Below w.heap.size w w') := rpieces_is L (by omega) w
  have t1 := tx_toList L
  by_cases h0 : L = []
  · have HI : Hid (isP L = true) := by show _ = _; rw [h0]; rfl
    have e1 : (L == []) = true := by simp [h0]
    clear h0 KP
    go_enter Tryd.func72, Tryd.ntmps72
    go_wp2_with fail
    go_ret
    exact ⟨by rw [HI.out]; rfl, Below.refl _ _⟩
  · have e1 : (L == []) = false := by simp [h0]
    have HI : Hid (isP L = ((pcs L).all isPart && decide (((pcs L).length : Int) ≤ 8))) := by
      show _ = _
      unfold isP
      have : L.isEmpty = false := by simp [h0]
      rw [this, Bool.false_or, Bool.eq_iff_iff]
      simp only [Bool.and_eq_true, decide_eq_true_eq]
      constructor
      · rintro ⟨h1, h2⟩; exact ⟨h1, by omega⟩
      · rintro ⟨h1, h2⟩; exact ⟨h1, by omega⟩
    have hpl := pcs_len2 L
    have hpm : Hid (∀ p ∈ pcs L, p.length ≤ L.length) := pcs_mem_len L
    generalize pcs L = ps at *
    clear h0
    go_enter Tryd.func72, Tryd.ntmps72
    go_wp2_with fail
    refine KP.out.mono ?_
    rintro e w1 ⟨v1, rfl, hr1, hb1⟩
    have B1 : Hid (Below w.heap.size w w1) := hb1
    obtain ⟨o1, c1, rfl, k1, m1, ho1⟩ := hr1.rd
    have O1 : Hid (∀ j x, ps[j]? = some x → ∃ g, o1 = some ⟨g, 0, none⟩ ∧ w1.cell? ⟨g, j, none⟩ = some (.string (tx x))) := ho1
    clear hb1 hr1 ho1 KP
    go_wp2_with fail
    go_loopg [4] ps.length (fun g ii wr => ∃ (i : Nat), ii = .int .i64 i ∧ i ≤ ps.length ∧ g = ps.length - i ∧ Hid (∀ p ∈ ps.take i, isPart p = true) ∧ Hid (Below w1.heap.size w1 wr))
    case atStart => exact ⟨0, rfl, Nat.zero_le _, rfl, by intro p hp; simp at hp, Below.refl _ _⟩
    case round =>
      obtain ⟨i, rfl, hi, rfl, HP, HW⟩ := hrel
      have HBW : Hid (Below w.heap.size w wr) := B1.out.trans (HW.out.mono B1.out.size)
      by_cases hlt : i < ps.length
      · have j1 : (i : Int) < ((ps.length : Nat) : Int) := by omega
        have hx : ps[i]? = some ps[i] := List.getElem?_eq_getElem hlt
        have hal := hpm.out _ (List.getElem_mem hlt)
        have hmem := List.getElem_mem hlt
        obtain ⟨g1, rfl, q1⟩ := O1.out i _ hx
        have b1 : g1 < w1.heap.size := World.block_lt_of_cell? _ _ q1
        have HT : Hid (isPart ps[i] = true → ∀ p ∈ ps.take (i + 1), isPart p = true) := fun hp p hm => by
          rw [List.take_add_one, hx] at hm
          simp only [Option.toList_some, List.mem_append, List.mem_singleton] at hm
          rcases hm with hm | rfl
          · exact HP.out p hm
          · exact hp
        have HF : Hid (isPart ps[i] = false → isP L = false) := fun hp => by
          rw [HI.out]
          have : ps.all isPart = false := by
            rw [Bool.eq_false_iff]
            intro ha
            rw [List.all_eq_true.1 ha _ hmem] at hp
            simp at hp
          rw [this, Bool.false_and]
        generalize ps[i] = a at *
        have r1 : wr.cell? ⟨g1, i, none⟩ = some (.string (tx a)) := (HW.out.cell (p := ⟨g1, i, none⟩) b1).trans q1
        have KA : Hid (Calls Tryd.prog 93 #[.string (tx a)] wr fun e w' => e = .returned (.bool (isPart a)) ∧ Below wr.heap.size wr w') := rpart_is a (by omega) wr
        clear hx hmem q1
        go_wp2_with fail
        refine KA.out.mono ?_
        rintro e w2 ⟨rfl, hb2⟩
        have W2 : Hid (Below w1.heap.size w1 w2) := HW.out.trans (hb2.mono HW.out.size)
        have BW2 : Hid (Below w.heap.size w w2) := HBW.out.trans (hb2.mono HBW.out.size)
        clear hb2 KA
        cases hpa : isPart a with
        | true =>
          have HT2 : Hid (∀ p ∈ ps.take (i + 1), isPart p = true) := HT.out hpa
          clear HT HF
          go_wp2_with fail
          go_roundg (ps.length - (i + 1))
          case measure => omega
          case rel => exact ⟨i + 1, by go_num, by omega, rfl, HT2, W2⟩
        | false =>
          have HF2 : Hid (isP L = false) := HF.out hpa
          clear HT HF
          go_wp2_with fail
          go_ret
          exact ⟨by rw [HF2.out]; rfl, BW2.out⟩
      · have ei : i = ps.length := by omega
        subst ei
        have j1 : ¬ ((ps.length : Nat) : Int) < ((ps.length : Nat) : Int) := by omega
        have HI2 : Hid (isP L = decide (((ps.length : Nat) : Int) ≤ 8)) := by
          show _ = _
          rw [HI.out]
          have : ps.all isPart = true := List.all_eq_true.2 fun p hp => HP.out p (by rw [List.take_length]; exact hp)
          rw [this, Bool.true_and]
        go_wp2_with fail
        go_ret
        exact ⟨by rw [HI2.out]; rfl, HBW.out⟩
end Go.Proofs.YtlddoobomjcldaaDoor
