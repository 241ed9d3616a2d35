/- The document's own pieces, Less, In. The document's own Clean. -/
import Derived.Test.YtbefmcagpmgkiaaDoorMgDi14
namespace Go.Proofs.YtbefmcagpmgkiaaDoor
open Go.ChangeShapes Go.WideShapes Go.ChangeAt Go.RowKit Go.Deep
set_option linter.unusedVariables false
theorem rpieces0_is (S : Tx) (hl : S.length ≤ 1000000000) (w : World) :
    Calls Tryd.prog 60 #[.string (tx S)] w fun e w' => ∃ v, e = .returned v ∧ Rd w' v (pcs0 S) ∧ Below w.heap.size w w' := by
  have K : Hid (Calls Tryd.prog 56 #[.string (tx S)] w fun e w' => ∃ v, e = .returned v ∧ RowsS w' w.heap.size v (pcs S) ∧ Below w.heap.size w w') := rpieces_is S hl w
  have t1 := tx_toList S
  by_cases h0 : S = []
  · have HP : Hid (pcs0 S = []) := by show _ = _; rw [pcs0, if_pos h0]
    have e1 : (S == []) = true := by simp [h0]
    clear h0 K
    go_enter Tryd.func60, Tryd.ntmps60
    go_wp2_with fail
    go_ret
    refine ⟨_, rfl, ?_, Below.refl _ _⟩
    rw [HP.out]
    exact ⟨none, 0, rfl, by simp, by simp, fun j x hx => by simp at hx⟩
  · have HP : Hid (pcs0 S = pcs S) := by show _ = _; rw [pcs0, if_neg h0]
    have e1 : (S == []) = false := by simp [h0]
    clear h0
    go_enter Tryd.func60, Tryd.ntmps60
    go_wp2_with fail
    refine K.out.mono ?_
    rintro e w1 ⟨v, rfl, hr, hb⟩
    have HR : Hid (Rd w1 v (pcs0 S)) := by rw [HP.out]; exact hr.rd
    have HB : Hid (Below w.heap.size w w1) := hb
    clear hr hb K
    go_wp2_with fail
    go_ret
    exact ⟨_, rfl, HR.out, HB.out⟩
theorem drop_at (l : List Tx) (i : Nat) (x : Tx) (h : l[i]? = some x) : l.drop i = x :: l.drop (i + 1) := by
  have hi := (List.getElem?_eq_some_iff.1 h).1
  rw [List.drop_eq_getElem_cons hi]
  rw [List.getElem?_eq_getElem hi] at h
  rw [Option.some.inj h]
theorem ltP_end (A B : List Tx) (i : Nat) (hA : i ≤ A.length) (hB : i ≤ B.length) (h : ¬ (i < A.length ∧ i < B.length)) : ltP (A.drop i) (B.drop i) = decide (A.length < B.length) := by
  by_cases h1 : i < A.length
  · have h2 : B.length = i := by omega
    rw [List.drop_of_length_le (l := B) (by omega), decide_eq_false (by omega)]
    cases A.drop i <;> rfl
  · have h2 : A.length = i := by omega
    rw [List.drop_of_length_le (l := A) (by omega)]
    by_cases h3 : i < B.length
    · rw [decide_eq_true (by omega), List.drop_eq_getElem_cons h3]
      rfl
    · rw [decide_eq_false (by omega), List.drop_of_length_le (by omega)]
      rfl
theorem pcs_len (S : Tx) : (pcs S).length ≤ S.length + 1 := by
  induction S with
  | nil => simp [pcs]
  | cons b t ih =>
    unfold pcs
    split
    · simp; exact ih
    · have := List.length_pos_iff.2 (pcs_ne t)
      simp only [List.length_cons, List.length_tail]
      omega
theorem pcs0_len (S : Tx) : (pcs0 S).length ≤ S.length + 1 := by
  unfold pcs0
  split
  · simp
  · exact pcs_len S
set_option maxHeartbeats 2000000 in
theorem rless_is (P Q : Tx) (hp : P.length ≤ 1000000000) (hq : Q.length ≤ 1000000000) (w : World) :
    Calls Tryd.prog 39 #[.string (tx P), .string (tx Q)] w fun e w' => e = .returned (.bool (les P Q)) ∧ Below w.heap.size w w' := by
  have KP : Hid (Calls Tryd.prog 60 #[.string (tx P)] w fun e w' => ∃ v, e = .returned v ∧ Rd w' v (pcs0 P) ∧ Below w.heap.size w w') := rpieces0_is P hp w
  have KQ : Hid (∀ w, Calls Tryd.prog 60 #[.string (tx Q)] w fun e w' => ∃ v, e = .returned v ∧ Rd w' v (pcs0 Q) ∧ Below w.heap.size w w') := rpieces0_is Q hq
  have HL : Hid (ltP (pcs0 P) (pcs0 Q) = les P Q) := les_pcs0 P Q
  have hlA := pcs0_len P
  have hlB := pcs0_len Q
  generalize pcs0 P = A at *
  generalize pcs0 Q = B at *
  go_enter Tryd.func39, Tryd.ntmps39
  go_wp2_with fail
  refine KP.out.mono ?_
  rintro e w1 ⟨v1, rfl, hr1, hb1⟩
  have B1 : Hid (Below w.heap.size w w1) := hb1
  have R1 : Hid (Rd w1 v1 A) := hr1
  clear hb1 hr1 KP
  go_wp2_with fail
  refine (KQ.out _).mono ?_
  rintro e w2 ⟨v2, rfl, hr2, hb2⟩
  have B2 : Hid (Below w.heap.size w w2) := B1.out.trans (hb2.mono B1.out.size)
  obtain ⟨o1, c1, rfl, k1, m1, ho1⟩ := R1.out.keep hb2
  obtain ⟨o2, c2, rfl, k2, m2, ho2⟩ := hr2
  have O1 : Hid (∀ j x, A[j]? = some x → ∃ g, o1 = some ⟨g, 0, none⟩ ∧ w2.cell? ⟨g, j, none⟩ = some (.string (tx x))) := ho1
  have O2 : Hid (∀ j x, B[j]? = some x → ∃ g, o2 = some ⟨g, 0, none⟩ ∧ w2.cell? ⟨g, j, none⟩ = some (.string (tx x))) := ho2
  clear hb2 R1 ho1 ho2 KQ B1
  go_wp2_with fail
  go_loopg [7] A.length (fun g ii wr => ∃ i : Nat, ii = .int .i64 i ∧ i ≤ A.length ∧ i ≤ B.length ∧ g = A.length - i ∧ Hid (ltP (A.drop i) (B.drop i) = les P Q) ∧ Hid (Below w2.heap.size w2 wr))
  case atStart => exact ⟨0, rfl, Nat.zero_le _, Nat.zero_le _, rfl, HL, Below.refl _ _⟩
  case round =>
    obtain ⟨i, rfl, hiA, hiB, rfl, HE, HW⟩ := hrel
    by_cases hlt : i < A.length ∧ i < B.length
    · have j1 : (i : Int) < ((A.length : Nat) : Int) := by omega
      have j2 : (i : Int) < ((B.length : Nat) : Int) := by omega
      have hx : A[i]? = some A[i] := List.getElem?_eq_getElem hlt.1
      have hy : B[i]? = some B[i] := List.getElem?_eq_getElem hlt.2
      have hdx := drop_at A i _ hx
      have hdy := drop_at B i _ hy
      obtain ⟨g1, rfl, q1⟩ := O1.out i _ hx
      obtain ⟨g2, rfl, q2⟩ := O2.out i _ hy
      generalize A[i] = x at *
      generalize B[i] = y at *
      have b1 : g1 < w2.heap.size := World.block_lt_of_cell? _ _ q1
      have b2 : g2 < w2.heap.size := World.block_lt_of_cell? _ _ q2
      have r1 : wr.cell? ⟨g1, i, none⟩ = some (.string (tx x)) := (HW.out.cell (p := ⟨g1, i, none⟩) b1).trans q1
      have r2 : wr.cell? ⟨g2, i, none⟩ = some (.string (tx y)) := (HW.out.cell (p := ⟨g2, i, none⟩) b2).trans q2
      have t1 := tx_toList x
      have t2 := tx_toList y
      have HE2 : Hid (les P Q = if x = y then ltP (A.drop (i + 1)) (B.drop (i + 1)) else ltB x y) := by show _ = _; rw [← HE.out, hdx, hdy, ltP]
      clear q1 q2 hx hy hdx hdy HE
      by_cases hxy : x = y
      · subst hxy
        have HE3 : Hid (ltP (A.drop (i + 1)) (B.drop (i + 1)) = les P Q) := by show _ = _; rw [HE2.out, if_pos rfl]
        clear HE2
        go_wp2_with fail
        go_quiet (fail)
        go_wp2_with fail
        go_roundg (A.length - (i + 1))
        case measure => omega
        case rel => exact ⟨i + 1, by go_num, by omega, by omega, rfl, HE3, below_drewN HW.out _⟩
      · have exy : (x == y) = false := by simp [hxy]
        have HE3 : Hid (les P Q = ltB x y) := by show _ = _; rw [HE2.out, if_neg hxy]
        have t3 := bytesLess_lt x y
        clear HE2
        go_wp2_with fail
        go_quiet (fail)
        go_wp2_with fail
        go_quiet (fail)
        go_wp2_with fail
        go_ret
        exact ⟨by rw [HE3.out]; rfl, B2.out.trans (below_drewN (below_drewN (HW.out.mono B2.out.size) _) _)⟩
    · have HE2 : Hid (les P Q = decide (A.length < B.length)) := by show _ = _; rw [← HE.out, ltP_end A B i hiA hiB hlt]
      have HB2 : Hid (Below w.heap.size w wr) := B2.out.trans (HW.out.mono B2.out.size)
      by_cases h1 : i < A.length
      · have j1 : (i : Int) < ((A.length : Nat) : Int) := by omega
        have j2 : ¬ (i : Int) < ((B.length : Nat) : Int) := by omega
        go_wp2_with fail
        go_ret
        exact ⟨by rw [HE2.out]; rfl, HB2.out⟩
      · have j1 : ¬ (i : Int) < ((A.length : Nat) : Int) := by omega
        go_wp2_with fail
        go_ret
        exact ⟨by rw [HE2.out]; rfl, HB2.out⟩
theorem inn_eq (P Q : Tx) (h0 : ¬ P = []) (h1 : ¬ Q = P) : inn P Q = (decide (((P.length : Nat) : Int) < ((Q.length : Nat) : Int)) && decide (Q.take (P.length + 1) = P ++ [47])) := by
  rw [Bool.eq_iff_iff, Bool.and_eq_true, decide_eq_true_iff, decide_eq_true_iff, inn_iff]
  constructor
  · rintro (h | h | ⟨r, rfl⟩)
    · exact absurd h h0
    · exact absurd h h1
    · refine ⟨by simp; omega, ?_⟩
      rw [List.take_append, List.take_of_length_le (by omega), show P.length + 1 - P.length = 1 by omega]
      rfl
  · rintro ⟨h2, h3⟩
    right; right
    refine ⟨Q.drop (P.length + 1), ?_⟩
    conv => lhs; rw [← List.take_append_drop (P.length + 1) Q]
    rw [h3]
    simp
theorem rin_is (P Q : Tx) (hp : P.length ≤ 1000000000) (hq : Q.length ≤ 1000000000) (w : World) :
    Calls Tryd.prog 53 #[.string (tx P), .string (tx Q)] w fun e w' => e = .returned (.bool (inn P Q)) ∧ Below w.heap.size w w' := by
  have h1 := tx_toList P
  have h2 := tx_toList Q
  have h3 := tx_size P
  have h4 := tx_size Q
  by_cases e0 : P = []
  · have HI : Hid (inn P Q = true) := (inn_iff P Q).2 (.inl e0)
    have ee : (P == []) = true := by simp [e0]
    clear e0
    go_enter Tryd.func53, Tryd.ntmps53
    go_wp2_with fail
    go_ret
    exact ⟨by rw [HI.out]; rfl, Below.refl _ _⟩
  · have ee : (P == []) = false := by simp [e0]
    by_cases e1 : Q = P
    · have HI : Hid (inn P Q = true) := (inn_iff P Q).2 (.inr (.inl e1))
      have ef : (P == Q) = true := by simp [e1]
      clear e1
      go_enter Tryd.func53, Tryd.ntmps53
      go_wp2_with fail
      go_ret
      exact ⟨by rw [HI.out]; rfl, Below.refl _ _⟩
    · have HI : Hid (inn P Q = (decide (((P.length : Nat) : Int) < ((Q.length : Nat) : Int)) && decide (Q.take (P.length + 1) = P ++ [47]))) := inn_eq P Q e0 e1
      have ef : (P == Q) = false := by simp; exact fun e => e1 e.symm
      have a1 : tx P ++ ⟨#[47]⟩ = tx (P ++ [47]) := tx_append P [47]
      have i1 : ¬ 9223372036854775807 < P.length + 1 := by omega
      clear e0 e1
      by_cases hlt : P.length < Q.length
      · have j1 : ((P.length : Nat) : Int) < ((Q.length : Nat) : Int) := by omega
        have j2 : ((P.length : Nat) : Int) + 1 ≤ ((Q.length : Nat) : Int) := by omega
        have x1 : (tx Q).extract 0 (P.length + 1) = tx (Q.take (P.length + 1)) := by rw [tx_extract]; simp
        have eq1 : ((tx (Q.take (P.length + 1))).toList == (tx (P ++ [47])).toList) = decide (Q.take (P.length + 1) = P ++ [47]) := tx_eq _ _
        have HI2 : Hid (inn P Q = decide (Q.take (P.length + 1) = P ++ [47])) := by show _ = _; rw [HI.out, decide_eq_true j1, Bool.true_and]
        generalize decide (Q.take (P.length + 1) = P ++ [47]) = bb at *
        generalize tx (Q.take (P.length + 1)) = S1 at *
        generalize tx (P ++ [47]) = S2 at *
        clear HI
        go_enter Tryd.func53, Tryd.ntmps53
        go_wp2_with fail
        go_ret
        exact ⟨by rw [HI2.out]; rfl, Below.refl _ _⟩
      · have j1 : ¬ ((P.length : Nat) : Int) < ((Q.length : Nat) : Int) := by omega
        have HI2 : Hid (inn P Q = false) := by show _ = _; rw [HI.out, decide_eq_false j1, Bool.false_and]
        clear HI
        go_enter Tryd.func53, Tryd.ntmps53
        go_wp2_with fail
        go_ret
        exact ⟨by rw [HI2.out]; rfl, Below.refl _ _⟩
end Go.Proofs.YtbefmcagpmgkiaaDoor
namespace Go.Proofs.YtbefmcagpmgkiaaDoor
open Go.ChangeShapes Go.WideShapes Go.ChangeAt Go.RowKit Go.Deep
set_option linter.unusedVariables false
theorem made_empty (w : World) (base : Nat) (hb : base ≤ w.heap.size) : RowsS (w.alloc (.cells #[] 9)) base (.slice (some ⟨w.heap.size, 0, none⟩) 0 0) [] :=
  World.ownsRow_made w #[] 0 hb (by simp) (by simp)
/-- append(s, t...) of texts -/
theorem append_texts {w : World} {ops : Array Oper} {rest : List Oper} {o : Oper} {act : Act} {Q : Exit → Act → World → Prop} (hgd : o.guard = none) (s x : Operand)
    (ho : o.op = .call { callee := .builtin .append, args := #[s, x], argTypes := #[39, 39] })
    (base : Nat) (v : Value) (l : List Tx) (hs : act.eval s = v) (hown : RowsS w base v l)
    (g m c : Nat) (l2 : List Tx) (hx : act.eval x = .slice (some ⟨g, 0, none⟩) m c) (hm : l2.length = m) (hc : ∀ j y, l2[j]? = some y → w.cell? ⟨g, j, none⟩ = some (.string (tx y)))
    (hN : l.length + m ≤ 5000000000000) (hbase : base ≤ w.heap.size)
    (h : ∀ v' w', RowsS w' base v' (l ++ l2) → Below base w w' → wpList Tryd.prog ops Q rest (act.put o.dst v') w') :
    wpList Tryd.prog ops Q (o :: rest) act w := by
  obtain ⟨i, hi, hz, h1, h2⟩ := info_parts infoT
  refine wpList_append_own w hgd s x 39 ho base 9 i (.string ⟨#[]⟩) 1 16 Tryd.underlying39 hi hz h1 h2 rfl (by decide) v l.length _ hs hown ⟨g, 0, none⟩ m c (l2.map fun y => .string (tx y)) hx (by rw [List.length_map, hm, Nat.mul_one]) ?_ (by intro u hu; obtain ⟨y, _, rfl⟩ := List.mem_map.1 hu; rfl) (by simp only [maxLen]; omega) (by omega) hbase ?_
  · intro j u hu
    rw [List.getElem?_map] at hu
    cases hj : l2[j]? with
    | none => rw [hj] at hu; simp at hu
    | some y =>
      rw [hj] at hu
      simp only [Option.map_some, Option.some.injEq] at hu
      rw [add0, hc j y hj, hu]
  · intro v' w' hown' hg _
    refine h v' w' ?_ ((Below.refl base w).grown hg hbase (fun k hk => (World.ownsRow.lt hown k hk).1))
    unfold RowsS
    rw [List.length_append, List.map_append, hm]
    exact hown'
theorem RowsS.some {w : World} {base : Nat} {v : Value} {l : List Tx} (h : RowsS w base v l) (hne : l ≠ []) : ∃ g c, v = .slice (Option.some ⟨g, 0, none⟩) l.length c ∧ l.length ≤ c ∧ c ≤ 9223372036854775807 ∧ base ≤ g ∧ g < w.heap.size ∧ ∀ j x, l[j]? = Option.some x → w.cell? ⟨g, j, none⟩ = Option.some (.string (tx x)) := by
  rcases h.2 with ⟨rfl, hn⟩ | ⟨g, cap, cur, rfl, hb, hg, hl, hm, hs, ht⟩
  · exact absurd (List.length_eq_zero_iff.1 hn) hne
  · refine ⟨g, cap, rfl, hl, by simpa [maxLen] using hm, hb, (Array.getElem?_eq_some_iff.1 hg).1, fun j x hx => ?_⟩
    have hc := World.ownsRow.cells h (g := g) rfl j (.string (tx x)) (by simp [hx])
    rwa [add0] at hc
theorem jn_pcs_le (l : List Tx) (N : Nat) (h : ∀ p ∈ l, p.length ≤ 24) (h8 : l.length ≤ 8) : (jn l).length ≤ 200 := jn_len l h8 h
set_option maxHeartbeats 4000000 in
theorem rclean_is (L : Tx) (hl : L.length ≤ 100000000) (w : World) :
    Calls Tryd.prog 34 #[.string (tx L)] w fun e w' => e = .returned (.tuple #[.string (tx (cln L).1), .int .i64 (cln L).2]) ∧ Below w.heap.size w w' := by
  have HN : Hid (cl [] (pcs L) = none → cln L = ([], 12)) := by intro e; unfold cln; rw [e]
  have HB : Hid (∀ l, cl [] (pcs L) = some l → 8 < l.length → cln L = ([], 3)) := by intro l e h8; unfold cln; rw [e]; simp [h8]
  have HO : Hid (∀ l, cl [] (pcs L) = some l → ¬ 8 < l.length → cln L = (jn l, 0)) := by intro l e h8; unfold cln; rw [e]; simp [h8]
  have KP : Hid (Calls Tryd.prog 56 #[.string (tx L)] w fun e w' => ∃ v, e = .returned v ∧ RowsS w' w.heap.size v (pcs L) ∧ Below w.heap.size w w') := rpieces_is L (by omega) w
  have hpl := pcs_len L
  have hpm : Hid (∀ p ∈ pcs L, p.length ≤ L.length) := fun p hp => by
    obtain ⟨i, hi, rfl⟩ := List.getElem_of_mem hp
    have := part_le_jn (pcs L) i _ (List.getElem?_eq_getElem hi)
    rwa [jn_pcs] at this
  generalize pcs L = ps at *
  go_enter Tryd.func34, Tryd.ntmps34
  go_wp2_with fail
  refine KP.out.mono ?_
  rintro e w1 ⟨v1, rfl, hr1, hb1⟩
  have B1 : Hid (Below w.heap.size w w1) := hb1
  have hs1 := hb1.size
  obtain ⟨o1, c1, rfl, k1, m1, ho1⟩ := hr1.rd
  have O1 : Hid (∀ j x, ps[j]? = some x → ∃ g, o1 = some ⟨g, 0, none⟩ ∧ w1.cell? ⟨g, j, none⟩ = some (.string (tx x))) := ho1
  clear hb1 hr1 ho1 KP
  obtain ⟨h, hh⟩ : ∃ h, h = w1.heap.size := ⟨_, rfl⟩
  have HH : Hid (h = w1.heap.size) := hh
  clear hh
  go_wp2_with fail
  go_loopg [4, 6] ps.length (fun g v ii wr => ∃ (l : List Tx) (i : Nat), ii = .int .i64 i ∧ i ≤ ps.length ∧ g = ps.length - i ∧ l.length ≤ i ∧ Hid (cl [] ps = cl l (ps.drop i)) ∧ Hid (∀ p ∈ l, isPart p = true) ∧ Hid (RowsS wr h v l) ∧ Hid (Below h w1 wr))
  case atStart => exact ⟨[], 0, rfl, Nat.zero_le _, rfl, by simp, rfl, by intro p hp; simp at hp, World.ownsRow_nil _ _ _ _, Below.refl _ _⟩
  case round =>
    obtain ⟨l, i, rfl, hi, rfl, hli, HC, HP, HR, HW⟩ := hrel
    have hsz := HW.out.size
    have hhw : h ≤ wr.heap.size := by rw [HH.out]; exact hsz
    have HBW : Hid (Below w.heap.size w wr) := B1.out.trans (HW.out.mono (by rw [HH.out]; exact hs1))
    by_cases hlt : i < ps.length
    · have j1 : (i : Int) < ((ps.length : Nat) : Int) := by omega
      have hx : ps[i]? = some ps[i] := List.getElem?_eq_getElem hlt
      have hal := hpm.out _ (List.getElem_mem hlt)
      have hdx := drop_at ps i _ hx
      obtain ⟨g1, rfl, q1⟩ := O1.out i _ hx
      generalize ps[i] = a at *
      have b1 : g1 < w1.heap.size := World.block_lt_of_cell? _ _ q1
      have r1 : wr.cell? ⟨g1, i, none⟩ = some (.string (tx a)) := (HW.out.cell (p := ⟨g1, i, none⟩) (by rw [HH.out]; exact b1)).trans q1
      have HC1 : Hid (cl [] ps = cl l (a :: ps.drop (i + 1))) := by rw [← hdx]; exact HC.out
      clear HC hdx hx q1
      have t1 := tx_toList a
      by_cases h0 : a = []
      · subst h0
        have HC2 : Hid (cl [] ps = cl l (ps.drop (i + 1))) := HC1.out.trans (cl_skip l _ _ (.inl rfl))
        clear HC1
        go_wp2_with fail
        go_roundg (ps.length - (i + 1))
        case measure => omega
        case rel => exact ⟨l, i + 1, by go_num, by omega, rfl, by omega, HC2, HP, HR, HW⟩
      · by_cases h1 : a = [46]
        · subst h1
          have HC2 : Hid (cl [] ps = cl l (ps.drop (i + 1))) := HC1.out.trans (cl_skip l _ _ (.inr rfl))
          clear HC1
          go_wp2_with fail
          go_roundg (ps.length - (i + 1))
          case measure => omega
          case rel => exact ⟨l, i + 1, by go_num, by omega, rfl, by omega, HC2, HP, HR, HW⟩
        · by_cases h2 : a = [46, 46]
          · subst h2
            by_cases hl0 : l = []
            · subst hl0
              have HQ : Hid (cln L = ([], 12)) := HN.out (HC1.out.trans (cl_up0 _))
              obtain ⟨o2, c2, rfl, _, _, _⟩ := HR.out.rd
              clear HC1
              go_wp2_with fail
              go_ret2
              refine ⟨?_, HBW.out⟩
              rw [HQ.out]
              rfl
            · have hl1 : 0 < l.length := List.length_pos_iff.2 hl0
              have HC2 : Hid (cl [] ps = cl l.dropLast (ps.drop (i + 1))) := HC1.out.trans (cl_up l _ hl0)
              have hd : l.dropLast.length = l.length - 1 := List.length_dropLast
              obtain ⟨g2, c2, rfl, k2, m2, hg2, hg3, hcell⟩ := HR.out.some hl0
              have RE : Hid (RowsS (wr.alloc (.cells #[] 9)) h (.slice (some ⟨wr.heap.size, 0, none⟩) 0 0) []) := made_empty wr h hhw
              have CE : Hid (∀ j y, l.dropLast[j]? = some y → (wr.alloc (.cells #[] 9)).cell? ⟨g2, j, none⟩ = some (.string (tx y))) := fun j y hy => by
                rw [((Below.refl wr.heap.size wr).alloc (Nat.le_refl _) (.cells #[] 9)).cell (p := ⟨g2, j, none⟩) hg3]
                refine hcell j y ?_
                rw [List.dropLast_eq_take, List.getElem?_take] at hy
                split at hy
                · exact hy
                · simp at hy
              have i1 : ¬ ((l.length : Nat) : Int) = 0 := by omega
              have i2 : (0 : Int) ≤ ((l.length : Nat) : Int) - 1 := by omega
              have i3 : ((l.length : Nat) : Int) - 1 ≤ ((l.length : Nat) : Int) := by omega
              have i4 : (((l.length : Nat) : Int) - 1).toNat = l.length - 1 := by omega
              have i5 : ((l.length : Nat) : Int) - 1 ≤ (c2 : Int) := by omega
              clear HC1 hcell HR
              go_wp2_with (at_builtin; refine append_texts rfl (.tmp 35) (.tmp 40) rfl h _ [] rfl RE.out g2 (l.length - 1) c2 l.dropLast rfl hd CE.out (by simp; omega) (by simp; omega) ?_; intro v3 w3 hr3 hb3; have R3 : Hid (RowsS w3 h v3 ([] ++ l.dropLast)) := hr3; have B3 : Hid (Below h (wr.alloc (.cells #[] 9)) w3) := hb3; clear hr3 hb3)
              go_roundg (ps.length - (i + 1))
              case measure => omega
              case rel =>
                have al1 : Below wr.heap.size wr (wr.alloc (.cells #[] 9)) := (Below.refl _ _).alloc (Nat.le_refl _) _
                exact ⟨l.dropLast, i + 1, by go_num, by omega, rfl, by omega, HC2, fun p hp => HP.out p (List.dropLast_subset _ hp), R3, HW.out.trans ((al1.mono hhw).trans B3.out)⟩
          · have e0 : (a == []) = false := by simp [h0]
            have e1 : (a == [46]) = false := by simp [h1]
            have e2 : (a == [46, 46]) = false := by simp [h2]
            have KA : Hid (Calls Tryd.prog 57 #[.string (tx a)] wr fun e w' => e = .returned (.bool (isPart a)) ∧ Below wr.heap.size wr w') := rpart_is a (by omega) wr
            go_wp2_with fail
            refine KA.out.mono ?_
            rintro e w2 ⟨rfl, hb2⟩
            have W2 : Hid (Below h w1 w2) := HW.out.trans (hb2.mono hhw)
            have BW2 : Hid (Below w.heap.size w w2) := HBW.out.trans (hb2.mono HBW.out.size)
            have R2 : Hid (RowsS w2 h u4 l) := HR.out.keep hb2
            have r2 : w2.cell? ⟨g1, i, none⟩ = some (.string (tx a)) := (hb2.cell (p := ⟨g1, i, none⟩) (by show g1 < wr.heap.size; omega)).trans r1
            have hs2 := hb2.size
            clear hb2 KA HR r1 HBW HW
            cases hpa : isPart a with
            | false =>
              have HQ : Hid (cln L = ([], 12)) := HN.out (HC1.out.trans (cl_bad l a _ h0 h1 h2 hpa))
              clear HC1
              go_wp2_with fail
              go_ret2
              refine ⟨?_, BW2.out⟩
              rw [HQ.out]
              rfl
            | true =>
              have HC2 : Hid (cl [] ps = cl (l ++ [a]) (ps.drop (i + 1))) := HC1.out.trans (cl_part l a _ hpa)
              have HP2 : Hid (∀ p ∈ l ++ [a], isPart p = true) := fun p hp => by
                simp only [List.mem_append, List.mem_singleton] at hp
                rcases hp with hp | rfl
                · exact HP.out p hp
                · exact hpa
              have RA : Hid (RowsS (w2.alloc (.cells #[.string (tx a)] 9)) h u4 l) := R2.out.keep ((Below.refl w2.heap.size w2).alloc (Nat.le_refl _) _)
              have CA : Hid ((w2.alloc (.cells #[.string (tx a)] 9)).cell? ⟨w2.heap.size, 0, none⟩ = some (.string (tx a))) := cell_one w2 a
              clear HC1
              go_wp2_with (at_builtin; refine append_text rfl (.tmp 48) (.tmp 53) rfl h _ l rfl RA.out ⟨w2.heap.size, 0, none⟩ a rfl CA.out (by omega) (by simp; omega) ?_; intro v3 w3 hr3 hb3; have R3 : Hid (RowsS w3 h v3 (l ++ [a])) := hr3; have B3 : Hid (Below h (w2.alloc (.cells #[.string (tx a)] 9)) w3) := hb3; clear hr3 hb3)
              go_roundg (ps.length - (i + 1))
              case measure => omega
              case rel =>
                have al1 : Below w2.heap.size w2 (w2.alloc (.cells #[.string (tx a)] 9)) := (Below.refl _ _).alloc (Nat.le_refl _) _
                exact ⟨l ++ [a], i + 1, by go_num, by omega, rfl, by simp; omega, HC2, HP2, R3, W2.out.trans ((al1.mono (by omega)).trans B3.out)⟩
    · have ei : i = ps.length := by omega
      subst ei
      have j1 : ¬ ((ps.length : Nat) : Int) < ((ps.length : Nat) : Int) := by omega
      have hc : cl [] ps = some l := by rw [HC.out, List.drop_length]; rfl
      by_cases h8 : 8 < l.length
      · have HQ : Hid (cln L = ([], 3)) := HB.out l hc h8
        have i1 : (8 : Int) < ((l.length : Nat) : Int) := by omega
        obtain ⟨o2, c2, rfl, k2, m2, _⟩ := HR.out.rd
        clear hc HC
        go_wp2_with fail
        go_ret2
        refine ⟨?_, HBW.out⟩
        rw [HQ.out]
        rfl
      · have HQ : Hid (cln L = (jn l, 0)) := HO.out l hc h8
        have i1 : ¬ (8 : Int) < ((l.length : Nat) : Int) := by omega
        have hjl := jn_len l (by omega) (fun p hp => ((isPart_iff p).1 (HP.out p hp)).2.2.1)
        have KT : Hid (Calls Tryd.prog 52 #[u4] wr fun e w' => e = .returned (.string (tx (jn l))) ∧ Below wr.heap.size wr w') := rtext_is u4 l wr HR.out.rd (by omega) (by omega)
        obtain ⟨o2, c2, rfl, k2, m2, _⟩ := HR.out.rd
        clear hc HC
        go_wp2_with fail
        refine KT.out.mono ?_
        rintro e w3 ⟨rfl, hb3⟩
        have B3 : Hid (Below w.heap.size w w3) := HBW.out.trans (hb3.mono HBW.out.size)
        clear hb3 KT
        go_wp2_with fail
        go_ret2
        refine ⟨?_, B3.out⟩
        rw [HQ.out]
        rfl
end Go.Proofs.YtbefmcagpmgkiaaDoor
