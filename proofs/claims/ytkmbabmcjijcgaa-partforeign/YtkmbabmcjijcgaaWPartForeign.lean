/- PartForeign's walk. -/
import Derived.Test.YtkmbabmcjijcgaaPtM
namespace Go.Proofs.Ytkmbabmcjijcgaa
open Go.ChangeShapes Go.WideShapes Go.ChangeAt Go.RowKit Go.Deep Go.Maps
set_option linter.unusedVariables false
set_option linter.unusedSimpArgs false
theorem tk_down {r s : Int} {D : List Int} {k f t x : Int} {y : Bool} {L : List Pk} (h : tkOk r s D k f t x y L) : (1 ≤ r ∧ r ≤ 6) ∧ f = 0 ∧ (k = 1 ∨ k = 3 ∨ k = 4) := by
  obtain ⟨h1, h2, h3⟩ := h
  unfold gdP at h1
  rw [Bool.and_eq_true, Bool.and_eq_true, decide_eq_true_eq, decide_eq_true_eq] at h1
  refine ⟨h1.1, ?_⟩
  unfold wchk at h2
  by_cases a1 : k < 1 ∨ 6 < k
  · rw [if_pos a1] at h2; exact absurd h2 (by decide)
  · rw [if_neg a1] at h2
    by_cases a2 : k = 1 ∨ k = 3 ∨ k = 4
    · refine ⟨?_, a2⟩
      by_cases a3 : f = 0
      · exact a3
      · rw [if_neg (by rw [if_pos a2]; exact fun h => a3 h.1.1)] at h2
        exact absurd h2 (by decide)
    · rw [if_neg (by rw [if_neg a2]; exact fun h => by have := h.1.1; omega)] at h2
      exact absurd h2 (by decide)
theorem tk_none {w w' : World} {r s : Int} {D : List Int} {k f t x : Int} {y : Bool} {L : List Pk} {V : Value} (h : TkSaid w w' r s D k f t x y L V) (hn : ¬ tkOk r s D k f t x y L) : V = .slice none 0 0 ∧ Below w.heap.size w w' := by
  obtain ⟨P, _, h2, _, h4⟩ := h
  exact ⟨h2 hn, h4⟩
set_option maxRecDepth 100000 in
set_option maxHeartbeats 8000000 in
theorem partForeign_walk (r s : Int) (ad : Option Addr) (nd cd : Nat) (D : List Int) (k f t x : Int) (y : Bool) (a : Option Addr) (n c : Nat) (L : List Pk) (w : World) (hp : PtIn w r s ad nd cd D) (hm : MsIn w k f t x a n c L) :
    Calls Try.prog 8 #[.agg #[.int .i64 r, .int .i64 s, .slice ad nd cd], .agg #[.int .i64 k, .int .i64 f, .int .i64 t, .int .i64 x, .bool y, .slice a n c]] w fun e w' => e = .returned (.bool true) ∧ Below w.heap.size w w' := by
  obtain ⟨hpI, hnd, hdc, hda, hD, hdN⟩ := hp
  obtain ⟨hI, hn, hc, ha, hL, hP, hN⟩ := hm
  obtain ⟨W0, hW0⟩ : ∃ W0, W0 = (w.alloc (.cells #[.int .i64 r, .int .i64 s, .slice ad nd cd] 24)).alloc (.cells #[.int .i64 k, .int .i64 f, .int .i64 t, .int .i64 x, .bool y, .slice a n c] 27) := ⟨_, rfl⟩
  have HE : Hid (W0 = (w.alloc (.cells #[.int .i64 r, .int .i64 s, .slice ad nd cd] 24)).alloc (.cells #[.int .i64 k, .int .i64 f, .int .i64 t, .int .i64 x, .bool y, .slice a n c] 27)) := hW0
  have hb0 : Below w.heap.size w W0 := by rw [hW0]; exact ((Below.refl _ _).alloc (Nat.le_refl _) _).alloc (by simp) _
  have hq0 : W0.heap[w.heap.size]? = some (.cells #[.int .i64 r, .int .i64 s, .slice ad nd cd] 24) := by rw [hW0]; exact (Below.heap_alloc _ _ _ (by simp)).trans (heap_alloc_new w _)
  have hq1 : W0.heap[w.heap.size + 1]? = some (.cells #[.int .i64 k, .int .i64 f, .int .i64 t, .int .i64 x, .bool y, .slice a n c] 27) := by
    rw [hW0]
    have := heap_alloc_new (w.alloc (.cells #[.int .i64 r, .int .i64 s, .slice ad nd cd] 24)) (.cells #[.int .i64 k, .int .i64 f, .int .i64 t, .int .i64 x, .bool y, .slice a n c] 27)
    rw [show (w.alloc (.cells #[.int .i64 r, .int .i64 s, .slice ad nd cd] 24)).heap.size = w.heap.size + 1 by simp] at this
    exact this
  have HQ : Hid (Below w.heap.size w W0 ∧ W0.heap[w.heap.size]? = some (.cells #[.int .i64 r, .int .i64 s, .slice ad nd cd] 24) ∧ W0.heap[w.heap.size + 1]? = some (.cells #[.int .i64 k, .int .i64 f, .int .i64 t, .int .i64 x, .bool y, .slice a n c] 27) ∧ W0.heap.size = w.heap.size + 2) := ⟨hb0, hq0, hq1, by rw [hW0]; simp⟩
  have KF : Hid (Calls Try.prog 9 #[.agg #[.int .i64 r, .int .i64 s, .slice ad nd cd], .agg #[.int .i64 k, .int .i64 f, .int .i64 t, .int .i64 x, .bool y, .slice a n c]] W0 (fun e w' => FwSaid W0 w' r s k f t x y D L e)) := fewp_is W0 r s ad nd cd D hnd (hD.keep hb0) hda hdc k f t x y a n c L hn (hL.keep hb0) hc (fun x hx => (hP x hx).2.1)
  have HII : Hid ((InI r ∧ InI s ∧ ∀ x ∈ D, InI x) ∧ (InI k ∧ InI f ∧ InI t ∧ InI x)) := ⟨hpI, hI⟩
  have KW : Hid (∀ u, Calls Try.prog 17 #[] u fun e w' => e = .returned (.bool true) ∧ Below u.heap.size u w') := pworks_true
  clear hW0 hb0 hq0 hq1 hpI hnd hdc hda hD hdN hI hn hc ha hL hP hN
  go_enter Try.func8, Try.ntmps8
  go_wp2_with fail
  rw [← HE.out]
  clear HE
  refine KF.out.mono ?_
  intro e w1 hsd
  obtain ⟨a5, m5, c5, a9, m9, c9, M, rfl, oz, hF, hpa, hma, _, hb1⟩ := fw_open hsd
  obtain ⟨DT, hDT⟩ : ∃ DT, DT = D.take 100 := ⟨_, rfl⟩
  rw [← hDT] at oz hpa
  have HDT : Hid (∀ z ∈ DT, InI z) := fun z hz => HII.out.1.2.2 z (by rw [hDT] at hz; exact List.mem_of_mem_take hz)
  obtain ⟨s1, s2, w2, hw2, x1, x2, x3, x4, x5, x6⟩ := fw_boxes (r := r) (s := s) (k := k) (f := f) (t := t) (x := x) (y := y) HQ.out.1 HQ.out.2.1 HQ.out.2.2.1 (by omega) (Nat.le_refl _) (by omega) oz hF hpa hma hb1
  have S1 : Hid (w1.heap[w.heap.size]? = some (.cells #[.int .i64 r, .int .i64 s, .slice ad nd cd] 24) ∧ (w1.setRow w.heap.size #[.int .i64 r, .int .i64 s, .slice a5 m5 c5]).heap[w.heap.size + 1]? = some (.cells #[.int .i64 k, .int .i64 f, .int .i64 t, .int .i64 x, .bool y, .slice a n c] 27)) := ⟨s1, s2⟩
  have X2 : Hid (Bx w2 w.heap.size r s a5 m5 c5 ∧ Bm w2 (w.heap.size + 1) k f t x y a9 m9 c9 ∧ PrtAt w2 a5 m5 c5 DT ∧ MsgAt w2 a9 m9 c9 M ∧ Below w.heap.size w w2) := ⟨x1, x2, x3, x4, x5⟩
  have HLO : Hid (Lo (w.heap.size + 2) a5 a9 M) := by have := x6; rw [HQ.out.2.2.2] at this; exact this
  have HW2 : Hid (w2 = (w1.setRow w.heap.size #[.int .i64 r, .int .i64 s, .slice a5 m5 c5]).setRow (w.heap.size + 1) #[.int .i64 k, .int .i64 f, .int .i64 t, .int .i64 x, .bool y, .slice a9 m9 c9]) := hw2
  clear hsd oz hF hpa hma hb1 s1 s2 x1 x2 x3 x4 x5 x6 hw2 hDT KF HQ
  go_wp2_with (first | (refine wpList_store_row rfl 24 (.tmp 2) (.tmp 10) rfl w.heap.size #[.int .i64 r, .int .i64 s, .slice a5 m5 c5] rfl rfl 24 _ S1.out.1 size3P rfl (by simp [Value.oneCell']) ?_) | (refine wpList_store_row rfl 27 (.tmp 3) (.tmp 11) rfl (w.heap.size + 1) #[.int .i64 k, .int .i64 f, .int .i64 t, .int .i64 x, .bool y, .slice a9 m9 c9] rfl rfl 27 _ S1.out.2 size6M rfl (by simp [Value.oneCell']) ?_; rw [← HW2.out]; clear HW2 S1; obtain ⟨c0, c1, c2⟩ := X2.out.1.cells; obtain ⟨m0, m1, m2, m3, m4, m5'⟩ := X2.out.2.1.cells))
  refine (take_at X2.out.2.2.1 X2.out.2.2.2.1 r s k f t x y).mono ?_
  rintro e w3 ⟨V3, rfl, hV3⟩
  by_cases hF : t ≠ r ∨ f ≠ 0 ∨ k = 2 ∨ k = 5 ∨ k = 6
  · have hno : ¬ tkOk r s DT k f t x y M := fun h => by
      obtain ⟨h1, h2, h3⟩ := tk_down h
      have h4 := h.2.2
      omega
    obtain ⟨rfl, hb3⟩ := tk_none hV3 hno
    have X3 : Hid (Bx w3 w.heap.size r s a5 m5 c5 ∧ Bm w3 (w.heap.size + 1) k f t x y a9 m9 c9 ∧ Below w.heap.size w w3) := ⟨X2.out.1.keep hb3, X2.out.2.1.keep hb3, X2.out.2.2.2.2.trans (hb3.mono X2.out.2.2.2.2.size)⟩
    obtain ⟨FF, hFF⟩ : ∃ F : Bool, F = true := ⟨_, rfl⟩
    clear hV3 hb3 hno c0 c1 c2 m0 m1 m2 m3 m4 m5' hFF FF
    obtain ⟨c0, c1, c2⟩ := X3.out.1.cells
    obtain ⟨m0, m1, m2, m3, m4, m5'⟩ := X3.out.2.1.cells
    have go : ∀ b, (t != r) = b → True := fun _ _ => trivial
    clear go
    by_cases q1 : t = r
    · have e1 : (t != r) = false := by simp [q1]
      by_cases q2 : f = 0
      · have e2 : (f != 0) = false := by simp [q2]
        by_cases q3 : k = 2
        · have e3 : (k == 2) = true := by simp [q3]
          clear hF q1 q2 q3
          go_wp2_with (go_at_call 17; refine (KW.out _).mono ?_; rintro e9 w9 ⟨rfl, b9⟩; have B9 : Hid (Below w.heap.size w w9) := X3.out.2.2.trans (b9.mono X3.out.2.2.size); clear b9)
          go_ret
          exact ⟨rfl, B9.out⟩
        · have e3 : (k == 2) = false := by simp [q3]
          by_cases q4 : k = 5
          · have e4 : (k == 5) = true := by simp [q4]
            clear hF q1 q2 q3 q4
            go_wp2_with (go_at_call 17; refine (KW.out _).mono ?_; rintro e9 w9 ⟨rfl, b9⟩; have B9 : Hid (Below w.heap.size w w9) := X3.out.2.2.trans (b9.mono X3.out.2.2.size); clear b9)
            go_ret
            exact ⟨rfl, B9.out⟩
          · have e4 : (k == 5) = false := by simp [q4]
            have e5 : (k == 6) = true := by have : k = 6 := by omega
                                            simp [this]
            clear hF q1 q2 q3 q4
            go_wp2_with (go_at_call 17; refine (KW.out _).mono ?_; rintro e9 w9 ⟨rfl, b9⟩; have B9 : Hid (Below w.heap.size w w9) := X3.out.2.2.trans (b9.mono X3.out.2.2.size); clear b9)
            go_ret
            exact ⟨rfl, B9.out⟩
      · have e2 : (f != 0) = true := by simp [q2]
        clear hF q1 q2
        go_wp2_with (go_at_call 17; refine (KW.out _).mono ?_; rintro e9 w9 ⟨rfl, b9⟩; have B9 : Hid (Below w.heap.size w w9) := X3.out.2.2.trans (b9.mono X3.out.2.2.size); clear b9)
        go_ret
        exact ⟨rfl, B9.out⟩
    · have e1 : (t != r) = true := by simp [q1]
      clear hF q1
      go_wp2_with (go_at_call 17; refine (KW.out _).mono ?_; rintro e9 w9 ⟨rfl, b9⟩; have B9 : Hid (Below w.heap.size w w9) := X3.out.2.2.trans (b9.mono X3.out.2.2.size); clear b9)
      go_ret
      exact ⟨rfl, B9.out⟩
  · have e1 : (t != r) = false := by simp; omega
    have e2 : (f != 0) = false := by simp; omega
    have e3 : (k == 2) = false := by simp; omega
    have e4 : (k == 5) = false := by simp; omega
    have e5 : (k == 6) = false := by simp; omega
    have hb3 : Below w2.heap.size w2 w3 := by obtain ⟨P, _, _, _, h4⟩ := hV3; exact h4
    have X3 : Hid (Bx w3 w.heap.size r s a5 m5 c5 ∧ Bm w3 (w.heap.size + 1) k f t x y a9 m9 c9 ∧ PrtAt w3 a5 m5 c5 DT ∧ MsgAt w3 a9 m9 c9 M ∧ Below w.heap.size w w3) := ⟨X2.out.1.keep hb3, X2.out.2.1.keep hb3, X2.out.2.2.1.keep hb3, X2.out.2.2.2.1.keep hb3, X2.out.2.2.2.2.trans (hb3.mono X2.out.2.2.2.2.size)⟩
    clear hV3 hb3 c0 c1 c2 m0 m1 m2 m3 m4 m5' hF
    obtain ⟨c0, c1, c2⟩ := X3.out.1.cells
    obtain ⟨m0, m1, m2, m3, m4, m5'⟩ := X3.out.2.1.cells
    have fz := frozen_blk X3.out.2.1 2
    go_upto_region 6 with fail
    have ht2 : ∀ t2, wrap64 (r.tmod 6 + 1) = t2 → ¬ tkOk r s DT k f t2 x y M := fun t2 h2 h => by
      obtain ⟨h1, _, _⟩ := tk_down h
      have h3 := h.2.2
      rw [← h2] at h3
      rcases (by omega : r = 1 ∨ r = 2 ∨ r = 3 ∨ r = 4 ∨ r = 5 ∨ r = 6) with rfl | rfl | rfl | rfl | rfl | rfl <;> exact absurd h3 (by decide +kernel)
    generalize hg2 : wrap64 (r.tmod 6 + 1) = t2 at *
    have HNO : Hid (¬ tkOk r s DT k f t2 x y M) := ht2 t2 rfl
    have hbm : Bm (w3.setCell ⟨w.heap.size + 1, 2, none⟩ (.int .i64 t2)) (w.heap.size + 1) k f t2 x y a9 m9 c9 := setCell_blk (i := 2) (.int .i64 t2) X3.out.2.1
    have off : ∀ q, q ≠ w.heap.size + 1 → (w3.setCell ⟨w.heap.size + 1, 2, none⟩ (.int .i64 t2)).heap[q]? = w3.heap[q]? := fun q hq => set_off w3 (w.heap.size + 1) 2 q _ hq
    have sz : (w3.setCell ⟨w.heap.size + 1, 2, none⟩ (.int .i64 t2)).heap.size = w3.heap.size := by simp [World.setCell]
    have X4 : Hid (Bx (w3.setCell ⟨w.heap.size + 1, 2, none⟩ (.int .i64 t2)) w.heap.size r s a5 m5 c5 ∧ Bm (w3.setCell ⟨w.heap.size + 1, 2, none⟩ (.int .i64 t2)) (w.heap.size + 1) k f t2 x y a9 m9 c9 ∧ PrtAt (w3.setCell ⟨w.heap.size + 1, 2, none⟩ (.int .i64 t2)) a5 m5 c5 DT ∧ MsgAt (w3.setCell ⟨w.heap.size + 1, 2, none⟩ (.int .i64 t2)) a9 m9 c9 M ∧ Below w.heap.size w (w3.setCell ⟨w.heap.size + 1, 2, none⟩ (.int .i64 t2))) := by
      refine ⟨(off _ (by omega)).trans X3.out.1, hbm, X3.out.2.2.1.far HLO.out (by rw [sz]; exact Nat.le_refl _) (fun q hq => off q (by omega)), X3.out.2.2.2.1.far HLO.out (by rw [sz]; exact Nat.le_refl _) (fun q hq => off q (by omega)), ?_⟩
      have h := X3.out.2.2.2.2
      exact ⟨h.os, h.tape, h.output, by rw [sz]; exact h.size, fun q hq => (off q (by omega)).trans (h.block q hq)⟩
    generalize w3.setCell ⟨w.heap.size + 1, 2, none⟩ (.int .i64 t2) = w4 at *
    clear ht2 hg2 hbm off sz fz c0 c1 c2 m0 m1 m2 m3 m4 m5' X3
    obtain ⟨c0, c1, c2⟩ := X4.out.1.cells
    obtain ⟨m0, m1, m2, m3, m4, m5'⟩ := X4.out.2.1.cells
    go_wp2_with fail
    refine (take_at X4.out.2.2.1 X4.out.2.2.2.1 r s k f t2 x y).mono ?_
    rintro e w5 ⟨V5, rfl, hV5⟩
    obtain ⟨rfl, hb5⟩ := tk_none hV5 HNO.out
    have X3 : Hid (True ∧ True ∧ Below w.heap.size w w5) := ⟨trivial, trivial, X4.out.2.2.2.2.trans (hb5.mono X4.out.2.2.2.2.size)⟩
    clear hV5 hb5
    go_wp2_with (go_at_call 17; refine (KW.out _).mono ?_; rintro e9 w9 ⟨rfl, b9⟩; have B9 : Hid (Below w.heap.size w w9) := X3.out.2.2.trans (b9.mono X3.out.2.2.size); clear b9)
    go_ret
    exact ⟨rfl, B9.out⟩
end Go.Proofs.Ytkmbabmcjijcgaa
