/- The document's own Part and Text. The document's own pieces, Less, In. -/
import Derived.Test.YtbefmcagpmgkiaaDoorMgMe12
namespace Go.Proofs.YtbefmcagpmgkiaaDoor
open Go.ChangeShapes Go.WideShapes Go.ChangeAt Go.RowKit Go.Deep
set_option linter.unusedVariables false
/-- the signs that a part may have -/
def sg : Tx := [97, 98, 99, 100, 101, 102, 103, 104, 105, 106, 107, 108, 109, 110, 111, 112, 113, 114, 115, 116, 117, 118, 119, 120, 121, 122, 48, 49, 50, 51, 52, 53, 54, 55, 56, 57, 95, 45, 46]
theorem sg_all : ∀ n : Fin 256, sg.contains (UInt8.ofNat n.val) = may (UInt8.ofNat n.val) := by decide +kernel
theorem sg_may (b : UInt8) : sg.contains b = may b := by
  have := sg_all ⟨b.toNat, b.toNat_lt⟩
  simpa using this
theorem sg_step (k : Nat) (b : UInt8) (h : k < 39) : (sg.take (k + 1)).contains b = ((sg.take k).contains b || decide (((sg.getD k 0).toNat : Int) = (b.toNat : Int))) := by
  have hk : k < sg.length := h
  rw [List.take_add_one, List.getElem?_eq_getElem hk]
  have e : sg.getD k 0 = sg[k] := getD_at sg k hk
  rw [e, Bool.eq_iff_iff]
  simp only [Option.toList_some, List.contains_eq_mem, List.mem_append, List.mem_singleton, decide_eq_true_eq, Bool.or_eq_true]
  constructor
  · rintro (h1 | h1)
    · exact .inl h1
    · exact .inr (by rw [h1])
  · rintro (h1 | h1)
    · exact .inl h1
    · exact .inr (UInt8.toNat_inj.1 (by omega))
set_option maxHeartbeats 4000000 in
theorem rpart_is (a : Tx) (hl : a.length ≤ 1000000000) (w : World) :
    Calls Tryd.prog 57 #[.string (tx a)] w fun e w' => e = .returned (.bool (isPart a)) ∧ Below w.heap.size w w' := by
  have hs := tx_size a
  have t1 := tx_toList a
  go_enter Tryd.func57, Tryd.ntmps57
  go_wp2
  go_loopg [3] a.length (fun g ii wr => ∃ i : Nat, ii = .int .i64 i ∧ i ≤ a.length ∧ g = a.length - i ∧ Hid (∀ j, j < i → may (a.getD j 0) = true) ∧ Hid (Below w.heap.size w wr))
  case atStart => exact ⟨0, rfl, Nat.zero_le _, rfl, fun j hj => by omega, Below.refl _ _⟩
  case round =>
    obtain ⟨i, rfl, hi, rfl, HY, HW⟩ := hrel
    by_cases hlt : i < a.length
    · have j1 : (i : Int) < ((a.length : Nat) : Int) := by omega
      have ix := run_index_tx a i hlt
      have HY2 : Hid (may (a.getD i 0) = true → ∀ j, j < i + 1 → may (a.getD j 0) = true) := fun hm j hj => by
        rcases (by omega : j < i ∨ j = i) with h | rfl
        · exact HY.out j h
        · exact hm
      have HF : Hid (may (a.getD i 0) = false → isPart a = false) := part_no2 i hlt
      have HG : Hid (sg.contains (a.getD i 0) = may (a.getD i 0)) := sg_may _
      generalize a.getD i 0 = y at *
      rename World => wo
      go_wp2_with fail
      go_loopg [4, 5] 39 (fun g ok kk wr => ∃ k : Nat, ok = .bool ((sg.take k).contains y) ∧ kk = .int .i64 k ∧ k ≤ 39 ∧ g = 39 - k ∧ Hid (Below w.heap.size w wr))
      case atStart => exact ⟨0, rfl, rfl, Nat.zero_le _, rfl, HW⟩
      case round =>
        obtain ⟨k, rfl, rfl, hk, rfl, HW2⟩ := hrel
        by_cases hk39 : k < 39
        · have j2 : (k : Int) < 39 := by omega
          have iy : ∀ w, (Instr.index 9 (.string ⟨#[97, 98, 99, 100, 101, 102, 103, 104, 105, 106, 107, 108, 109, 110, 111, 112, 113, 114, 115, 116, 117, 118, 119, 120, 121, 122, 48, 49, 50, 51, 52, 53, 54, 55, 56, 57, 95, 45, 46]⟩) (.int .i64 (k : Int))).run Tryd.prog w = .ok (.int .u8 ((sg.getD k 0).toNat : Int)) w := run_index_tx sg k hk39
          have HS : Hid ((sg.take (k + 1)).contains y = ((sg.take k).contains y || decide (((sg.getD k 0).toNat : Int) = (y.toNat : Int)))) := sg_step k y hk39
          generalize (sg.take k).contains y = ok at *
          generalize ((sg.getD k 0).toNat : Int) = z at *
          generalize hyy : (y.toNat : Int) = yy at *
          have HYY : Hid ((y.toNat : Int) = yy) := hyy
          clear hyy
          cases ok with
          | true =>
            have HS2 : Hid ((sg.take (k + 1)).contains y = true) := by show _ = _; rw [HS.out]; rfl
            clear HS
            go_wp2_with fail
            go_quiet (fail)
            go_wp2_with fail
            go_roundg (39 - (k + 1))
            case measure => omega
            case rel => exact ⟨k + 1, by rw [HS2.out], by go_num, by omega, rfl, below_drewN HW2.out _⟩
          | false =>
            have HS2 : Hid ((sg.take (k + 1)).contains y = decide (z = yy)) := by show _ = _; rw [HS.out]; rfl
            have ezy : (z == yy) = decide (z = yy) := by rw [Bool.eq_iff_iff, beq_iff_eq, decide_eq_true_iff]
            clear HS
            go_wp2_with fail
            go_quiet (fail)
            go_wp2_with fail
            go_roundg (39 - (k + 1))
            case measure => omega
            case rel => exact ⟨k + 1, by rw [HS2.out], by go_num, by omega, rfl, below_drewN HW2.out _⟩
        · have ek : k = 39 := by omega
          subst ek
          have j2 : ¬ ((39 : Nat) : Int) < 39 := by omega
          have e39 : (sg.take 39).contains y = may y := by rw [List.take_of_length_le (by decide)]; exact HG.out
          rw [e39]
          cases hm : may y with
          | true =>
            have HY3 : Hid (∀ j, j < i + 1 → may (a.getD j 0) = true) := HY2.out hm
            clear e39 HY2 HF
            go_wp2_with fail
            go_roundg (a.length - (i + 1))
            case measure => omega
            case rel => exact ⟨i + 1, by go_num, by omega, rfl, HY3, HW2⟩
          | false =>
            have HF2 : Hid (isPart a = false) := HF.out hm
            clear e39 HY2 HF
            go_wp2_with fail
            go_ret
            exact ⟨by rw [HF2.out]; rfl, HW2.out⟩
    · have e : i = a.length := by omega
      subst e
      have j1 : ¬ ((a.length : Nat) : Int) < ((a.length : Nat) : Int) := by omega
      have HA : Hid (isPart a = (decide (1 ≤ ((a.length : Nat) : Int)) && decide (((a.length : Nat) : Int) ≤ 24) && !(a == [46]) && !(a == [46, 46]))) := by
        show _ = _
        have : a.all may = true := List.all_eq_true.2 fun b hb => by
          obtain ⟨j, hj, rfl⟩ := List.getElem_of_mem hb
          have := HY.out j hj
          rwa [getD_at a j hj] at this
        rw [isPart, this, Bool.eq_iff_iff]
        simp
        omega
      have H46 : Hid (isPart [46] = false) := by show _ = _; decide
      clear HY
      go_wp2_with fail
      · go_ret
        refine ⟨?_, HW.out⟩
        rw [H46.out]
        rfl
      · have a1 : (1 : Int) ≤ ((a.length : Nat) : Int) := by assumption
        have a2 : ((a.length : Nat) : Int) ≤ 24 := by assumption
        go_ret
        refine ⟨?_, HW.out⟩
        rw [HA.out, decide_eq_true a1, decide_eq_true a2]
        rfl
      · have a2 : (24 : Int) < ((a.length : Nat) : Int) := by assumption
        go_ret
        refine ⟨?_, HW.out⟩
        rw [HA.out, decide_eq_false (show ¬ ((a.length : Nat) : Int) ≤ 24 by omega), Bool.and_false]
        rfl
      · have a2 : ((a.length : Nat) : Int) < 1 := by assumption
        go_ret
        refine ⟨?_, HW.out⟩
        rw [HA.out, decide_eq_false (show ¬ (1 : Int) ≤ ((a.length : Nat) : Int) by omega)]
        rfl
theorem jn_grow (l : List Tx) (i : Nat) : (jn (l.take i)).length ≤ (jn l).length := by
  induction l generalizing i with
  | nil => simp
  | cons x l ih =>
    cases i with
    | zero => simp [jn_nil]
    | succ i =>
      rw [List.take_succ_cons]
      cases l with
      | nil => simp
      | cons y l =>
        cases i with
        | zero => rw [List.take_zero, jn_one, jn_cons]; simp
        | succ i =>
          have := ih (i + 1)
          rw [List.take_succ_cons] at this ⊢
          rw [jn_cons, jn_cons]
          simp only [List.length_append, List.length_cons]
          omega
theorem jn_take' (l : List Tx) (i : Nat) (x : Tx) (h : l[i]? = some x) : jn (l.take (i + 1)) = if i = 0 then x else jn (l.take i) ++ 47 :: x := by
  induction l generalizing i with
  | nil => simp at h
  | cons y l ih =>
    cases i with
    | zero => simp at h; subst h; simp [jn_one]
    | succ i =>
      simp only [List.getElem?_cons_succ] at h
      have := ih i h
      rw [if_neg (by omega), List.take_succ_cons, List.take_succ_cons]
      cases i with
      | zero =>
        simp only [if_true] at this
        cases l with
        | nil => simp at h
        | cons z l =>
          simp at h
          subst h
          simp [jn_cons, jn_one]
      | succ i =>
        rw [if_neg (by omega)] at this
        cases l with
        | nil => simp at h
        | cons z l =>
          rw [List.take_succ_cons, jn_cons, List.take_succ_cons, jn_cons]
          rw [List.take_succ_cons, List.take_succ_cons] at this
          rw [this]
          simp
theorem part_le_jn (l : List Tx) (i : Nat) (x : Tx) (h : l[i]? = some x) : x.length ≤ (jn l).length := by
  have h1 := jn_take' l i x h
  have h2 := jn_grow l (i + 1)
  rw [h1] at h2
  split at h2
  · exact h2
  · simp at h2; omega
set_option maxHeartbeats 2000000 in
theorem rtext_is (v : Value) (l : List Tx) (w : World) (hv : Rd w v l) (hl : (jn l).length ≤ 1000000000) (hn : l.length ≤ 1000000000) :
    Calls Tryd.prog 52 #[v] w fun e w' => e = .returned (.string (tx (jn l))) ∧ Below w.heap.size w w' := by
  obtain ⟨o, c, rfl, hc1, hc2, ho⟩ := hv
  have HO : Hid (∀ j x, l[j]? = some x → ∃ g, o = some ⟨g, 0, none⟩ ∧ w.cell? ⟨g, j, none⟩ = some (.string (tx x))) := ho
  have HTA : Hid (∀ (i : Nat) (x : Tx), l[i]? = some x → jn (l.take (i + 1)) = if i = 0 then x else jn (l.take i) ++ 47 :: x) := jn_take' l
  have HTL : Hid (∀ i, (jn (l.take i)).length ≤ 1000000000) := fun i => Nat.le_trans (jn_grow l i) hl
  have HAL : Hid (jn (l.take l.length) = jn l) := by show _ = _; rw [List.take_length]
  have HPL : Hid (∀ (i : Nat) (x : Tx), l[i]? = some x → x.length ≤ 1000000000) := fun i x hx => Nat.le_trans (part_le_jn l i x hx) hl
  clear ho
  go_enter Tryd.func52, Tryd.ntmps52
  go_wp2
  go_loopg [3, 4] l.length (fun g al i wr => ∃ c : Nat, c ≤ l.length ∧ g = l.length - c ∧ al = .string (tx (jn (l.take c))) ∧ i = .int .i64 c ∧ wr = w)
  case atStart => exact ⟨0, Nat.zero_le _, rfl, rfl, rfl, rfl⟩
  case round =>
    obtain ⟨c, hc, rfl, rfl, rfl, rfl⟩ := hrel
    by_cases hlt : c < l.length
    · have j1 : (c : Int) < ((l.length : Nat) : Int) := by omega
      have hx : l[c]? = some l[c] := List.getElem?_eq_getElem hlt
      obtain ⟨g, rfl, hcell⟩ := HO.out c _ hx
      have hta := HTA.out c _ hx
      have htl := HTL.out c
      have hpl := HPL.out c _ hx
      have n1 := tx_size (jn (l.take c))
      have n2 := tx_size l[c]
      generalize l[c] = x at *
      by_cases h0 : c = 0
      · subst h0
        have HT : Hid (jn (l.take 1) = x) := hta
        have a3 : tx (jn (l.take 0)) ++ tx x = tx x := by rw [tx_append, List.take_zero, jn_nil]; rfl
        clear hta hx
        have i3 : ¬ 9223372036854775807 < (jn (l.take 0)).length + x.length := by omega
        generalize tx (jn (l.take 0)) = S0 at *
        generalize (jn (l.take 0)).length = m0 at *
        go_wp2_with fail
        go_roundg (l.length - 1)
        case measure => omega
        case rel => exact ⟨1, by omega, rfl, by rw [HT.out], rfl, rfl⟩
      · have HT : Hid (jn (l.take (c + 1)) = jn (l.take c) ++ 47 :: x) := by rw [if_neg h0] at hta; exact hta
        have j2 : (0 : Int) < (c : Int) := by omega
        have a3 : tx (jn (l.take c)) ++ (⟨#[47]⟩ : ByteArray) = tx (jn (l.take c) ++ [47]) := tx_append _ [47]
        have a4 : tx (jn (l.take c) ++ [47]) ++ tx x = tx (jn (l.take c) ++ 47 :: x) := by rw [tx_append]; simp
        have n3 : (tx (jn (l.take c) ++ [47])).size = (jn (l.take c)).length + 1 := by rw [tx_size]; simp
        clear hta hx
        have i3 : ¬ 9223372036854775807 < (jn (l.take c)).length + 1 := by omega
        have i4 : ¬ 9223372036854775807 < (jn (l.take c)).length + 1 + x.length := by omega
        rw [← HT.out] at a4
        generalize (jn (l.take c)).length = m0 at *
        generalize tx (jn (l.take c) ++ [47]) = S1 at *
        generalize hS2 : tx (jn (l.take (c + 1))) = S2 at *
        have HS2 : Hid (tx (jn (l.take (c + 1))) = S2) := hS2
        clear hS2
        generalize tx (jn (l.take c)) = S0 at *
        go_wp2_with fail
        go_roundg (l.length - (c + 1))
        case measure => omega
        case rel => exact ⟨c + 1, by omega, rfl, by rw [HS2.out], by go_num, rfl⟩
    · have ec : c = l.length := by omega
      subst ec
      have j1 : ¬ ((l.length : Nat) : Int) < ((l.length : Nat) : Int) := by omega
      rw [HAL.out]
      go_wp2_with fail
      go_ret
      exact ⟨rfl, Below.refl _ _⟩
end Go.Proofs.YtbefmcagpmgkiaaDoor
namespace Go.Proofs.YtbefmcagpmgkiaaDoor
open Go.ChangeShapes Go.WideShapes Go.ChangeAt Go.RowKit Go.Deep
set_option linter.unusedVariables false
theorem rpieces0_is (S : Tx) (hl : S.length ≤ 1000000000) (w : World) :
    Calls Tryd.prog 60 #[.string (tx S)] w fun e w' => ∃ v, e = .returned v ∧ Rd w' v (pcs0 S) ∧ Below w.heap.size w w' := by
  have K : Hid (Calls Tryd.prog 56 #[.string (tx S)] w fun e w' => ∃ v, e = .returned v ∧ RowsS w' w.heap.size v (pcs S) ∧ Below w.heap.size w w') := rpieces_is S hl w
  have t1 := tx_toList S
  by_cases h0 : S = []
  · have HP : Hid (pcs0 S = []) := by show _ = _; rw [pcs0, if_pos h0]
    have e1 : (S == []) = true := by simp [h0]
    clear h0 K
    go_enter Tryd.func60, Tryd.ntmps60
    go_wp2_with fail
    go_ret
    refine ⟨_, rfl, ?_, Below.refl _ _⟩
    rw [HP.out]
    exact ⟨none, 0, rfl, by simp, by simp, fun j x hx => by simp at hx⟩
  · have HP : Hid (pcs0 S = pcs S) := by show _ = _; rw [pcs0, if_neg h0]
    have e1 : (S == []) = false := by simp [h0]
    clear h0
    go_enter Tryd.func60, Tryd.ntmps60
    go_wp2_with fail
    refine K.out.mono ?_
    rintro e w1 ⟨v, rfl, hr, hb⟩
    have HR : Hid (Rd w1 v (pcs0 S)) := by rw [HP.out]; exact hr.rd
    have HB : Hid (Below w.heap.size w w1) := hb
    clear hr hb K
    go_wp2_with fail
    go_ret
    exact ⟨_, rfl, HR.out, HB.out⟩
theorem drop_at (l : List Tx) (i : Nat) (x : Tx) (h : l[i]? = some x) : l.drop i = x :: l.drop (i + 1) := by
  have hi := (List.getElem?_eq_some_iff.1 h).1
  rw [List.drop_eq_getElem_cons hi]
  rw [List.getElem?_eq_getElem hi] at h
  rw [Option.some.inj h]
theorem ltP_end (A B : List Tx) (i : Nat) (hA : i ≤ A.length) (hB : i ≤ B.length) (h : ¬ (i < A.length ∧ i < B.length)) : ltP (A.drop i) (B.drop i) = decide (A.length < B.length) := by
  by_cases h1 : i < A.length
  · have h2 : B.length = i := by omega
    rw [List.drop_of_length_le (l := B) (by omega), decide_eq_false (by omega)]
    cases A.drop i <;> rfl
  · have h2 : A.length = i := by omega
    rw [List.drop_of_length_le (l := A) (by omega)]
    by_cases h3 : i < B.length
    · rw [decide_eq_true (by omega), List.drop_eq_getElem_cons h3]
      rfl
    · rw [decide_eq_false (by omega), List.drop_of_length_le (by omega)]
      rfl
theorem pcs_len (S : Tx) : (pcs S).length ≤ S.length + 1 := by
  induction S with
  | nil => simp [pcs]
  | cons b t ih =>
    unfold pcs
    split
    · simp; exact ih
    · have := List.length_pos_iff.2 (pcs_ne t)
      simp only [List.length_cons, List.length_tail]
      omega
theorem pcs0_len (S : Tx) : (pcs0 S).length ≤ S.length + 1 := by
  unfold pcs0
  split
  · simp
  · exact pcs_len S
set_option maxHeartbeats 2000000 in
theorem rless_is (P Q : Tx) (hp : P.length ≤ 1000000000) (hq : Q.length ≤ 1000000000) (w : World) :
    Calls Tryd.prog 39 #[.string (tx P), .string (tx Q)] w fun e w' => e = .returned (.bool (les P Q)) ∧ Below w.heap.size w w' := by
  have KP : Hid (Calls Tryd.prog 60 #[.string (tx P)] w fun e w' => ∃ v, e = .returned v ∧ Rd w' v (pcs0 P) ∧ Below w.heap.size w w') := rpieces0_is P hp w
  have KQ : Hid (∀ w, Calls Tryd.prog 60 #[.string (tx Q)] w fun e w' => ∃ v, e = .returned v ∧ Rd w' v (pcs0 Q) ∧ Below w.heap.size w w') := rpieces0_is Q hq
  have HL : Hid (ltP (pcs0 P) (pcs0 Q) = les P Q) := les_pcs0 P Q
  have hlA := pcs0_len P
  have hlB := pcs0_len Q
  generalize pcs0 P = A at *
  generalize pcs0 Q = B at *
  go_enter Tryd.func39, Tryd.ntmps39
  go_wp2_with fail
  refine KP.out.mono ?_
  rintro e w1 ⟨v1, rfl, hr1, hb1⟩
  have B1 : Hid (Below w.heap.size w w1) := hb1
  have R1 : Hid (Rd w1 v1 A) := hr1
  clear hb1 hr1 KP
  go_wp2_with fail
  refine (KQ.out _).mono ?_
  rintro e w2 ⟨v2, rfl, hr2, hb2⟩
  have B2 : Hid (Below w.heap.size w w2) := B1.out.trans (hb2.mono B1.out.size)
  obtain ⟨o1, c1, rfl, k1, m1, ho1⟩ := R1.out.keep hb2
  obtain ⟨o2, c2, rfl, k2, m2, ho2⟩ := hr2
  have O1 : Hid (∀ j x, A[j]? = some x → ∃ g, o1 = some ⟨g, 0, none⟩ ∧ w2.cell? ⟨g, j, none⟩ = some (.string (tx x))) := ho1
  have O2 : Hid (∀ j x, B[j]? = some x → ∃ g, o2 = some ⟨g, 0, none⟩ ∧ w2.cell? ⟨g, j, none⟩ = some (.string (tx x))) := ho2
  clear hb2 R1 ho1 ho2 KQ B1
  go_wp2_with fail
  go_loopg [7] A.length (fun g ii wr => ∃ i : Nat, ii = .int .i64 i ∧ i ≤ A.length ∧ i ≤ B.length ∧ g = A.length - i ∧ Hid (ltP (A.drop i) (B.drop i) = les P Q) ∧ Hid (Below w2.heap.size w2 wr))
  case atStart => exact ⟨0, rfl, Nat.zero_le _, Nat.zero_le _, rfl, HL, Below.refl _ _⟩
  case round =>
    obtain ⟨i, rfl, hiA, hiB, rfl, HE, HW⟩ := hrel
    by_cases hlt : i < A.length ∧ i < B.length
    · have j1 : (i : Int) < ((A.length : Nat) : Int) := by omega
      have j2 : (i : Int) < ((B.length : Nat) : Int) := by omega
      have hx : A[i]? = some A[i] := List.getElem?_eq_getElem hlt.1
      have hy : B[i]? = some B[i] := List.getElem?_eq_getElem hlt.2
      have hdx := drop_at A i _ hx
      have hdy := drop_at B i _ hy
      obtain ⟨g1, rfl, q1⟩ := O1.out i _ hx
      obtain ⟨g2, rfl, q2⟩ := O2.out i _ hy
      generalize A[i] = x at *
      generalize B[i] = y at *
      have b1 : g1 < w2.heap.size := World.block_lt_of_cell? _ _ q1
      have b2 : g2 < w2.heap.size := World.block_lt_of_cell? _ _ q2
      have r1 : wr.cell? ⟨g1, i, none⟩ = some (.string (tx x)) := (HW.out.cell (p := ⟨g1, i, none⟩) b1).trans q1
      have r2 : wr.cell? ⟨g2, i, none⟩ = some (.string (tx y)) := (HW.out.cell (p := ⟨g2, i, none⟩) b2).trans q2
      have t1 := tx_toList x
      have t2 := tx_toList y
      have HE2 : Hid (les P Q = if x = y then ltP (A.drop (i + 1)) (B.drop (i + 1)) else ltB x y) := by show _ = _; rw [← HE.out, hdx, hdy, ltP]
      clear q1 q2 hx hy hdx hdy HE
      by_cases hxy : x = y
      · subst hxy
        have HE3 : Hid (ltP (A.drop (i + 1)) (B.drop (i + 1)) = les P Q) := by show _ = _; rw [HE2.out, if_pos rfl]
        clear HE2
        go_wp2_with fail
        go_quiet (fail)
        go_wp2_with fail
        go_roundg (A.length - (i + 1))
        case measure => omega
        case rel => exact ⟨i + 1, by go_num, by omega, by omega, rfl, HE3, below_drewN HW.out _⟩
      · have exy : (x == y) = false := by simp [hxy]
        have HE3 : Hid (les P Q = ltB x y) := by show _ = _; rw [HE2.out, if_neg hxy]
        have t3 := bytesLess_lt x y
        clear HE2
        go_wp2_with fail
        go_quiet (fail)
        go_wp2_with fail
        go_quiet (fail)
        go_wp2_with fail
        go_ret
        exact ⟨by rw [HE3.out]; rfl, B2.out.trans (below_drewN (below_drewN (HW.out.mono B2.out.size) _) _)⟩
    · have HE2 : Hid (les P Q = decide (A.length < B.length)) := by show _ = _; rw [← HE.out, ltP_end A B i hiA hiB hlt]
      have HB2 : Hid (Below w.heap.size w wr) := B2.out.trans (HW.out.mono B2.out.size)
      by_cases h1 : i < A.length
      · have j1 : (i : Int) < ((A.length : Nat) : Int) := by omega
        have j2 : ¬ (i : Int) < ((B.length : Nat) : Int) := by omega
        go_wp2_with fail
        go_ret
        exact ⟨by rw [HE2.out]; rfl, HB2.out⟩
      · have j1 : ¬ (i : Int) < ((A.length : Nat) : Int) := by omega
        go_wp2_with fail
        go_ret
        exact ⟨by rw [HE2.out]; rfl, HB2.out⟩
theorem inn_eq (P Q : Tx) (h0 : ¬ P = []) (h1 : ¬ Q = P) : inn P Q = (decide (((P.length : Nat) : Int) < ((Q.length : Nat) : Int)) && decide (Q.take (P.length + 1) = P ++ [47])) := by
  rw [Bool.eq_iff_iff, Bool.and_eq_true, decide_eq_true_iff, decide_eq_true_iff, inn_iff]
  constructor
  · rintro (h | h | ⟨r, rfl⟩)
    · exact absurd h h0
    · exact absurd h h1
    · refine ⟨by simp; omega, ?_⟩
      rw [List.take_append, List.take_of_length_le (by omega), show P.length + 1 - P.length = 1 by omega]
      rfl
  · rintro ⟨h2, h3⟩
    right; right
    refine ⟨Q.drop (P.length + 1), ?_⟩
    conv => lhs; rw [← List.take_append_drop (P.length + 1) Q]
    rw [h3]
    simp
theorem rin_is (P Q : Tx) (hp : P.length ≤ 1000000000) (hq : Q.length ≤ 1000000000) (w : World) :
    Calls Tryd.prog 53 #[.string (tx P), .string (tx Q)] w fun e w' => e = .returned (.bool (inn P Q)) ∧ Below w.heap.size w w' := by
  have h1 := tx_toList P
  have h2 := tx_toList Q
  have h3 := tx_size P
  have h4 := tx_size Q
  by_cases e0 : P = []
  · have HI : Hid (inn P Q = true) := (inn_iff P Q).2 (.inl e0)
    have ee : (P == []) = true := by simp [e0]
    clear e0
    go_enter Tryd.func53, Tryd.ntmps53
    go_wp2_with fail
    go_ret
    exact ⟨by rw [HI.out]; rfl, Below.refl _ _⟩
  · have ee : (P == []) = false := by simp [e0]
    by_cases e1 : Q = P
    · have HI : Hid (inn P Q = true) := (inn_iff P Q).2 (.inr (.inl e1))
      have ef : (P == Q) = true := by simp [e1]
      clear e1
      go_enter Tryd.func53, Tryd.ntmps53
      go_wp2_with fail
      go_ret
      exact ⟨by rw [HI.out]; rfl, Below.refl _ _⟩
    · have HI : Hid (inn P Q = (decide (((P.length : Nat) : Int) < ((Q.length : Nat) : Int)) && decide (Q.take (P.length + 1) = P ++ [47]))) := inn_eq P Q e0 e1
      have ef : (P == Q) = false := by simp; exact fun e => e1 e.symm
      have a1 : tx P ++ ⟨#[47]⟩ = tx (P ++ [47]) := tx_append P [47]
      have i1 : ¬ 9223372036854775807 < P.length + 1 := by omega
      clear e0 e1
      by_cases hlt : P.length < Q.length
      · have j1 : ((P.length : Nat) : Int) < ((Q.length : Nat) : Int) := by omega
        have j2 : ((P.length : Nat) : Int) + 1 ≤ ((Q.length : Nat) : Int) := by omega
        have x1 : (tx Q).extract 0 (P.length + 1) = tx (Q.take (P.length + 1)) := by rw [tx_extract]; simp
        have eq1 : ((tx (Q.take (P.length + 1))).toList == (tx (P ++ [47])).toList) = decide (Q.take (P.length + 1) = P ++ [47]) := tx_eq _ _
        have HI2 : Hid (inn P Q = decide (Q.take (P.length + 1) = P ++ [47])) := by show _ = _; rw [HI.out, decide_eq_true j1, Bool.true_and]
        generalize decide (Q.take (P.length + 1) = P ++ [47]) = bb at *
        generalize tx (Q.take (P.length + 1)) = S1 at *
        generalize tx (P ++ [47]) = S2 at *
        clear HI
        go_enter Tryd.func53, Tryd.ntmps53
        go_wp2_with fail
        go_ret
        exact ⟨by rw [HI2.out]; rfl, Below.refl _ _⟩
      · have j1 : ¬ ((P.length : Nat) : Int) < ((Q.length : Nat) : Int) := by omega
        have HI2 : Hid (inn P Q = false) := by show _ = _; rw [HI.out, decide_eq_false j1, Bool.false_and]
        clear HI
        go_enter Tryd.func53, Tryd.ntmps53
        go_wp2_with fail
        go_ret
        exact ⟨by rw [HI2.out]; rfl, Below.refl _ _⟩
end Go.Proofs.YtbefmcagpmgkiaaDoor
