/- OverlayParts' walk. -/
import Derived.Test.YtbefmcagpmgkiaaDoorWOverlayFlat
import Derived.Test.YtbefmcagpmgkiaaDoorOvDf
namespace Go.Proofs.YtbefmcagpmgkiaaDoor
open Go.ChangeShapes Go.WideShapes Go.ChangeAt Go.RowKit Go.Deep Go.Maps
set_option linter.unusedVariables false
theorem scT_lst {T : Tx → Option En} (hT : TreeT T) {l : List En} (hl : Lst T l) : scT l = T := by
  funext q
  rw [scT_at _ l rfl hl.rise, ent_lst hT hl]
/-- Diff of trees -/
theorem diff_trees {A B : Tx → Option En} (hA : TreeT A) (hB : TreeT B) {la lb : List En} (ha : Lst A la) (hb : Lst B lb) (na nb : Nat) (hna : la.length = na) (hnb : lb.length = nb) (ha9 : na ≤ 1000000) (hb9 : nb ≤ 1000000) (aa ab : Option Addr) (ca cb : Nat) (w : World) (ia : InE w aa la) (ib : InE w ab lb) :
    Calls Tryd.prog 22 #[.slice aa na ca, .slice ab nb cb] w fun e w' => Below w.heap.size w w' ∧ ∃ l, Lst (dfT A B) l ∧ (64 < l.length ∧ e = .returned (.tuple #[.slice none 0 0, .int .i64 3]) ∨ l.length ≤ 64 ∧ ∃ g c, e = .returned (.tuple #[.slice (some ⟨g, 0, none⟩) l.length c, .int .i64 0]) ∧ InE w' (some ⟨g, 0, none⟩) l) := by
  have := diff_is la lb na nb hna hnb ha9 hb9 (tree_fit hA ha) (tree_fit hB hb) aa ab ca cb w ia ib
  rw [scT_lst hA ha, scT_lst hB hb, lst_isTr hA ha, lst_isTr hB hb] at this
  refine this.mono ?_
  rintro e w' ⟨h1, ⟨h2, _⟩ | ⟨_, l, h3, h4⟩⟩
  · cases h2
  · exact ⟨h1, l, h3, h4⟩
theorem self_nil {A : Tx → Option En} {l : List En} (h : Lst (dfT A A) l) : l = [] := by
  cases l with
  | nil => rfl
  | cons x r =>
    have := (h.mem x).1 (by simp)
    rw [dfT_self] at this
    cases this
theorem df_fit {A B : Tx → Option En} (hA : TreeT A) (hB : TreeT B) {l : List En} (hl : Lst (dfT A B) l) : Fit l := fun x hx => by
  have hf := dfT_fo hA hB ((hl.mem x).1 hx)
  have h1 := isP_short (fo_path hf).2
  have h2 := (fo_all hf).2.2.2.2
  exact ⟨by omega, by omega⟩
/-- the first tree and the layer over it -/
theorem parts_T {A B : Tx → Option En} (hA : TreeT A) (hB : TreeT B) {la d : List En} (ha : Lst A la) (ha64 : la.length ≤ 64) (hd : Lst (dfT A B) d) (h64 : d.length ≤ 64) : (chk d).2 = 0 ∧ mE [la, d] = 0 ∧ mg [la, d] = B := by
  have h1 := df_chk hA hB hd h64
  refine ⟨h1, mE_ok (by simp) (fun i l hi => ?_), ?_⟩
  · have hm := List.mem_of_getElem? hi
    simp at hm
    rcases hm with rfl | rfl
    · exact lst_chk hA ha ha64
    · exact h1
  · have e : mg [la, d] = mgT (mgT (fun _ => none) la) d := rfl
    rw [e, lst_mg hA ha ha64, df_makes hA hB hd h64]
theorem InS.two {w : World} {a1 a2 : Option Addr} {c1 c2 : Nat} {l1 l2 : List En} (i1 : InE w a1 l1) (i2 : InE w a2 l2) (f1 : Fit l1) (f2 : Fit l2) (n1 : l1.length ≤ 1000000) (n2 : l2.length ≤ 1000000) (h1 : a1 = none → c1 = 0) (h2 : a2 = none → c2 = 0) :
    InS (w.alloc (.cells #[.slice a1 l1.length c1, .slice a2 l2.length c2] 26)) (some ⟨w.heap.size, 0, none⟩) [l1, l2] := by
  have hb : Below w.heap.size w (w.alloc (.cells #[.slice a1 l1.length c1, .slice a2 l2.length c2] 26)) := (Below.refl _ _).alloc (Nat.le_refl _) _
  refine .inr ⟨w.heap.size, 0, rfl, by simp, fun i l hi => ?_⟩
  have hlt : i < 2 := (List.getElem?_eq_some_iff.1 hi).1
  have hc : ∀ j : Nat, (w.alloc (.cells #[.slice a1 l1.length c1, .slice a2 l2.length c2] 26)).cell? ⟨w.heap.size, 0 + j, none⟩ = (#[Value.slice a1 l1.length c1, .slice a2 l2.length c2])[j]? := fun j => by
    rw [Nat.zero_add, cell_of_row _ w.heap.size j _ _ (0, 0) (heap_alloc_new w _)]
  rcases (by omega : i = 0 ∨ i = 1) with rfl | rfl
  · cases hi
    exact ⟨a1, c1, hc 0, i1.keep hb, f1, by omega, h1⟩
  · cases hi
    exact ⟨a2, c2, hc 1, i2.keep hb, f2, by omega, h2⟩
set_option maxRecDepth 100000 in
set_option maxHeartbeats 8000000 in
theorem overlayParts_walk (a : Option Addr) (n c : Nat) (st : List (List En)) (a2 : Option Addr) (n2 c2 : Nat) (su : List (List En)) (w : World) (hn : st.length = n) (hn62 : n ≤ 4611686018427387904) (hs : InS w a st) (hn2 : su.length = n2) (hn262 : n2 ≤ 4611686018427387904) (hs2 : InS w a2 su) :
    Calls Tryd.prog 7 #[.slice a n c, .slice a2 n2 c2] w fun e w' => e = .returned (.bool true) ∧ Below w.heap.size w w' := by
  have KF : Hid (Calls Tryd.prog 9 #[.slice a n c] w fun e w' => e = .returned (.bool (fewB st)) ∧ Below w.heap.size w w') := few_is st n hn a c hn62 w hs
  have KF2 : Hid (∀ w0, Below w.heap.size w w0 → Calls Tryd.prog 9 #[.slice a2 n2 c2] w0 fun e w' => e = .returned (.bool (fewB su)) ∧ Below w0.heap.size w0 w') := fun w0 hb => few_is su n2 hn2 a2 c2 hn262 w0 (hs2.keep hb)
  have KW : Hid (∀ w, Calls Tryd.prog 10 #[] w fun e w' => e = .returned (.bool true) ∧ Below w.heap.size w w') := works_is
  have KM : Hid (∀ w0, Below w.heap.size w w0 → Calls Tryd.prog 12 #[.slice a n c] w0 fun e w' => ∃ a' c' l, e = .returned (.tuple #[.slice a' l.length c', .int .i64 (mE st)]) ∧ InE w' a' l ∧ (mE st = 0 → Lst (mg st) l) ∧ (a' = none → c' = 0) ∧ l.length ≤ 10240 ∧ Below w0.heap.size w0 w') := fun w0 hb => merge_any2 st n hn a c hn62 w0 (hs.keep hb)
  have KM2 : Hid (∀ w0, Below w.heap.size w w0 → Calls Tryd.prog 12 #[.slice a2 n2 c2] w0 fun e w' => ∃ a' c' l, e = .returned (.tuple #[.slice a' l.length c', .int .i64 (mE su)]) ∧ InE w' a' l ∧ (mE su = 0 → Lst (mg su) l) ∧ (a' = none → c' = 0) ∧ l.length ≤ 10240 ∧ Below w0.heap.size w0 w') := fun w0 hb => merge_any2 su n2 hn2 a2 c2 hn262 w0 (hs2.keep hb)
  clear hs hs2 hn hn2
  cases hf : fewB st with
  | false =>
    rw [hf] at KF
    go_enter Tryd.func7, Tryd.ntmps7
    go_wp2_with fail
    refine (KF.out).mono ?_
    rintro e w1 ⟨rfl, hbw1⟩
    have B1 : Hid (Below w.heap.size w w1) := hbw1
    clear hbw1
    go_wp2_with fail
    refine (KW.out _).mono ?_
    rintro e wz ⟨rfl, hbz⟩
    have Bz : Hid (Below w.heap.size w wz) := B1.out.trans (hbz.mono B1.out.size)
    clear hbz
    go_wp2_with fail
    go_ret
    exact ⟨rfl, Bz.out⟩
  | true =>
    rw [hf] at KF
    cases hf2 : fewB su with
    | false =>
      rw [hf2] at KF2
      go_enter Tryd.func7, Tryd.ntmps7
      go_wp2_with fail
      refine (KF.out).mono ?_
      rintro e w1 ⟨rfl, hbw1⟩
      have B1 : Hid (Below w.heap.size w w1) := hbw1
      clear hbw1
      go_wp2_with fail
      refine (KF2.out w1 B1.out).mono ?_
      rintro e w2 ⟨rfl, hbw2⟩
      have B2 : Hid (Below w.heap.size w w2) := B1.out.trans (hbw2.mono B1.out.size)
      clear hbw2
      go_wp2_with fail
      refine (KW.out _).mono ?_
      rintro e wz ⟨rfl, hbz⟩
      have Bz : Hid (Below w.heap.size w wz) := B2.out.trans (hbz.mono B2.out.size)
      clear hbz
      go_wp2_with fail
      go_ret
      exact ⟨rfl, Bz.out⟩
    | true =>
      rw [hf2] at KF2
      go_enter Tryd.func7, Tryd.ntmps7
      go_wp2_with fail
      refine (KF.out).mono ?_
      rintro e w1 ⟨rfl, hbw1⟩
      have B1 : Hid (Below w.heap.size w w1) := hbw1
      clear hbw1
      go_wp2_with fail
      refine (KF2.out w1 B1.out).mono ?_
      rintro e w2 ⟨rfl, hbw2⟩
      have B2 : Hid (Below w.heap.size w w2) := B1.out.trans (hbw2.mono B1.out.size)
      clear hbw2
      clear hf hf2 KF KF2 B1
      go_wp2_with fail
      refine (KM.out w2 B2.out).mono ?_
      rintro e w3 ⟨ra, rc, la, rfl, hri, hrl, hrc, hrn, hrb⟩
      have B3 : Hid (Below w.heap.size w w3) := B2.out.trans (hrb.mono B2.out.size)
      have R3 : Hid (InE w3 ra la) := hri
      have RL : Hid (mE st = 0 → Lst (mg st) la) := hrl
      have RC : Hid (ra = none → rc = 0) := hrc
      clear hri hrl hrc hrb KM B2
      go_wp2_with fail
      refine (KM2.out w3 B3.out).mono ?_
      rintro e w4 ⟨qa, qc, lb, rfl, hqi, hql, hqc, hqn, hqb⟩
      have B4 : Hid (Below w.heap.size w w4) := B3.out.trans (hqb.mono B3.out.size)
      have R4 : Hid (InE w4 ra la) := R3.out.keep hqb
      have Q4 : Hid (InE w4 qa lb) := hqi
      have QL : Hid (mE su = 0 → Lst (mg su) lb) := hql
      clear hqi hql hqc hqb KM2 B3 R3
      by_cases hM : mE st = 0
      · by_cases hM2 : mE su = 0
        · rw [hM, hM2]
          by_cases h64 : 64 < la.length
          · have e64 : (64 : Int) < (la.length : Int) := by omega
            go_wp2_with fail
            refine (KW.out _).mono ?_
            rintro e wz ⟨rfl, hbz⟩
            have Bz : Hid (Below w.heap.size w wz) := B4.out.trans (hbz.mono B4.out.size)
            clear hbz
            go_wp2_with fail
            go_ret
            exact ⟨rfl, Bz.out⟩
          · have e64 : ¬ (64 : Int) < (la.length : Int) := by omega
            have TA : Hid (TreeT (mg st)) := mg_tree (fun l hl => (mE_zero hM).2 l hl)
            have TB : Hid (TreeT (mg su)) := mg_tree (fun l hl => (mE_zero hM2).2 l hl)
            have LA : Hid (Lst (mg st) la) := RL.out hM
            have LB : Hid (Lst (mg su) lb) := QL.out hM2
            clear hM hM2 RL QL
            generalize mg st = A at *
            generalize mg su = B at *
            have KD : Hid (Calls Tryd.prog 22 #[.slice ra la.length rc, .slice ra la.length rc] w4 fun e w' => Below w4.heap.size w4 w' ∧ ∃ l, Lst (dfT A A) l ∧ (64 < l.length ∧ e = .returned (.tuple #[.slice none 0 0, .int .i64 3]) ∨ l.length ≤ 64 ∧ ∃ g c, e = .returned (.tuple #[.slice (some ⟨g, 0, none⟩) l.length c, .int .i64 0]) ∧ InE w' (some ⟨g, 0, none⟩) l)) := diff_trees TA.out TA.out LA.out LA.out la.length la.length rfl rfl (by omega) (by omega) ra ra rc rc w4 R4.out R4.out
            go_wp2_with fail
            refine KD.out.mono ?_
            rintro e w5 ⟨hb5, l5, hl5, h5⟩
            have e5 := self_nil hl5
            subst e5
            rcases h5 with ⟨h5, _⟩ | ⟨_, g5, c5, rfl, _⟩
            · simp at h5
            have B5 : Hid (Below w.heap.size w w5) := B4.out.trans (hb5.mono B4.out.size)
            have R5 : Hid (InE w5 ra la) := R4.out.keep hb5
            have Q5 : Hid (InE w5 qa lb) := Q4.out.keep hb5
            clear hb5 hl5 KD B4 R4 Q4
            have KD2 : Hid (Calls Tryd.prog 22 #[.slice ra la.length rc, .slice qa lb.length qc] w5 fun e w' => Below w5.heap.size w5 w' ∧ ∃ l, Lst (dfT A B) l ∧ (64 < l.length ∧ e = .returned (.tuple #[.slice none 0 0, .int .i64 3]) ∨ l.length ≤ 64 ∧ ∃ g c, e = .returned (.tuple #[.slice (some ⟨g, 0, none⟩) l.length c, .int .i64 0]) ∧ InE w' (some ⟨g, 0, none⟩) l)) := diff_trees TA.out TB.out LA.out LB.out la.length lb.length rfl rfl (by omega) (by omega) ra qa rc qc w5 R5.out Q5.out
            go_wp2_with fail
            refine KD2.out.mono ?_
            rintro e w6 ⟨hb6, d, hd, h6⟩
            have B6 : Hid (Below w.heap.size w w6) := B5.out.trans (hb6.mono B5.out.size)
            rcases h6 with ⟨_, rfl⟩ | ⟨h6, g6, c6, rfl, hi6⟩
            · clear hb6 hd KD2
              go_wp2_with fail
              refine (KW.out _).mono ?_
              rintro e wz ⟨rfl, hbz⟩
              have Bz : Hid (Below w.heap.size w wz) := B6.out.trans (hbz.mono B6.out.size)
              clear hbz
              go_wp2_with fail
              go_ret
              exact ⟨rfl, Bz.out⟩
            · obtain ⟨p1, p2, p3⟩ := parts_T TA.out TB.out LA.out (by omega) hd h6
              have R6 : Hid (InE w6 ra la) := R5.out.keep hb6
              have Q6 : Hid (InE w6 qa lb) := Q5.out.keep hb6
              have D6 : Hid (InE w6 (some ⟨g6, 0, none⟩) d) := hi6
              have FD : Hid (Fit d) := df_fit TA.out TB.out hd
              have FA : Hid (Fit la) := tree_fit TA.out LA.out
              have P2 : Hid (mE [la, d] = 0) := p2
              have P3 : Hid (mg [la, d] = B) := p3
              have KC : Hid (Calls Tryd.prog 26 #[.slice (some ⟨g6, 0, none⟩) d.length c6] w6 fun e w' => e = .returned (.tuple #[.int .i64 ((chk d).1 : Nat), .int .i64 (chk d).2]) ∧ Below w6.heap.size w6 w') := check_is d d.length rfl (by omega) FD.out _ c6 w6 D6.out
              rw [p1] at KC
              generalize (chk d).1 = ck1 at *
              clear hb6 hd hi6 KD2 p1 p2 p3 B5 R5 Q5
              go_wp2_with fail
              refine KC.out.mono ?_
              rintro e w7 ⟨rfl, hb7⟩
              have B7 : Hid (Below w.heap.size w w7) := B6.out.trans (hb7.mono B6.out.size)
              have R7 : Hid (InE w7 ra la) := R6.out.keep hb7
              have Q7 : Hid (InE w7 qa lb) := Q6.out.keep hb7
              have D7 : Hid (InE w7 (some ⟨g6, 0, none⟩) d) := D6.out.keep hb7
              clear hb7 KC B6 R6 Q6 D6
              have I8 : Hid (InS (w7.alloc (.cells #[.slice ra la.length rc, .slice (some ⟨g6, 0, none⟩) d.length c6] 26)) (some ⟨w7.heap.size, 0, none⟩) [la, d]) := InS.two R7.out D7.out FA.out FD.out (by omega) (by omega) RC.out (fun e => by cases e)
              have b8 : Below w7.heap.size w7 (w7.alloc (.cells #[.slice ra la.length rc, .slice (some ⟨g6, 0, none⟩) d.length c6] 26)) := (Below.refl _ _).alloc (Nat.le_refl _) _
              have B8 : Hid (Below w.heap.size w (w7.alloc (.cells #[.slice ra la.length rc, .slice (some ⟨g6, 0, none⟩) d.length c6] 26))) := B7.out.trans (b8.mono B7.out.size)
              have Q8 : Hid (InE (w7.alloc (.cells #[.slice ra la.length rc, .slice (some ⟨g6, 0, none⟩) d.length c6] 26)) qa lb) := Q7.out.keep b8
              clear b8 B7 R7 Q7 D7
              go_wp2_with fail
              refine (merge_any [la, d] 2 rfl _ 2 (by omega) _ I8.out).mono ?_
              rintro e w9 ⟨xa, xc, l9, rfl, hxi, hxl, _, hxn, hxb⟩
              have B9 : Hid (Below w.heap.size w w9) := B8.out.trans (hxb.mono B8.out.size)
              have LE : Hid (l9 = lb) := lst_eq ((hxl P2.out).of_eq P3.out) LB.out
              have KS : Hid (Calls Tryd.prog 14 #[.slice xa l9.length xc, .slice qa lb.length qc] w9 fun e w' => e = .returned (.bool true) ∧ Below w9.heap.size w9 w') := by
                have := sameE_is l9 lb l9.length lb.length xc qc xa qa w9 rfl rfl (by omega) (by omega) hxi (Q8.out.keep hxb)
                rw [decide_eq_true LE.out] at this
                exact this
              rw [P2.out]
              clear hxi hxl hxb I8 Q8 B8
              go_wp2_with fail
              refine KS.out.mono ?_
              rintro e wa ⟨rfl, hba⟩
              have Ba : Hid (Below w.heap.size w wa) := B9.out.trans (hba.mono B9.out.size)
              clear hba KS
              go_wp2_with fail
              refine (KW.out _).mono ?_
              rintro e wz ⟨rfl, hbz⟩
              have Bz : Hid (Below w.heap.size w wz) := Ba.out.trans (hbz.mono Ba.out.size)
              clear hbz
              go_wp2_with fail
              go_ret
              exact ⟨rfl, Bz.out⟩
        · have hM3 : (mE su != 0) = true := by simpa using hM2
          rw [hM]
          generalize mE su = M2 at *
          go_wp2_with fail
          refine (KW.out _).mono ?_
          rintro e wz ⟨rfl, hbz⟩
          have Bz : Hid (Below w.heap.size w wz) := B4.out.trans (hbz.mono B4.out.size)
          clear hbz
          go_wp2_with fail
          go_ret
          exact ⟨rfl, Bz.out⟩
      · have hM2 : (mE st != 0) = true := by simpa using hM
        generalize mE st = M at *
        generalize mE su = M2 at *
        go_wp2_with fail
        refine (KW.out _).mono ?_
        rintro e wz ⟨rfl, hbz⟩
        have Bz : Hid (Below w.heap.size w wz) := B4.out.trans (hbz.mono B4.out.size)
        clear hbz
        go_wp2_with fail
        go_ret
        exact ⟨rfl, Bz.out⟩
end Go.Proofs.YtbefmcagpmgkiaaDoor
