/- PartAgain's walk. -/
import Derived.Test.YtkmbabmcjijcgaaPtM
import Derived.Test.YtkmbabmcjijcgaaPtQ
namespace Go.Proofs.Ytkmbabmcjijcgaa
open Go.ChangeShapes Go.WideShapes Go.ChangeAt Go.RowKit Go.Deep Go.Maps
set_option linter.unusedVariables false
set_option linter.unusedSimpArgs false
/-- a box with the last message that was sent -/
def Lm (w : World) (b : Nat) (m : Mv) : Prop := w.heap[b]? = some (.cells (mC m) 27)
theorem ls_next {l : List Dd} {j : Nat} {y : Dd} (h : l[j]? = some y) : lsM (l.take (j + 1)) = if y.k = 5 then y.m else lsM (l.take j) := by
  unfold lsM
  rw [List.take_add_one, h, List.foldl_append]
  rfl
theorem OwnZ.prt {w : World} {base n c : Nat} {a : Option Addr} {D : List Int} (h : OwnZ w base (.slice a n c) D) (hb : D.length ≤ 10000) : PrtAt w a n c D := by
  obtain ⟨a', c', e, iz, lz, mz, nz, -⟩ := h.slice
  injection e with e1 e2 e3
  subst e1 e2 e3
  exact ⟨iz, rfl, (fun e => by have := nz e; omega), lz, hb⟩
set_option maxRecDepth 100000 in
set_option maxHeartbeats 8000000 in
theorem partAgain_walk (r s : Int) (ad : Option Addr) (nd cd : Nat) (D : List Int) (k f t x : Int) (y : Bool) (a : Option Addr) (n c : Nat) (L : List Pk) (w : World) (hp : PtIn w r s ad nd cd D) (hm : MsIn w k f t x a n c L) :
    Calls Try.prog 6 #[.agg #[.int .i64 r, .int .i64 s, .slice ad nd cd], .agg #[.int .i64 k, .int .i64 f, .int .i64 t, .int .i64 x, .bool y, .slice a n c]] w fun e w' => e = .returned (.bool true) ∧ Below w.heap.size w w' := by
  obtain ⟨hpI, hnd, hdc, hda, hD, hdN⟩ := hp
  obtain ⟨hI, hn, hc, ha, hL, hP, hN⟩ := hm
  obtain ⟨W0, hW0⟩ : ∃ W0, W0 = (w.alloc (.cells #[.int .i64 r, .int .i64 s, .slice ad nd cd] 24)).alloc (.cells #[.int .i64 k, .int .i64 f, .int .i64 t, .int .i64 x, .bool y, .slice a n c] 27) := ⟨_, rfl⟩
  have HE : Hid (W0 = (w.alloc (.cells #[.int .i64 r, .int .i64 s, .slice ad nd cd] 24)).alloc (.cells #[.int .i64 k, .int .i64 f, .int .i64 t, .int .i64 x, .bool y, .slice a n c] 27)) := hW0
  have hb0 : Below w.heap.size w W0 := by rw [hW0]; exact ((Below.refl _ _).alloc (Nat.le_refl _) _).alloc (by simp) _
  have hq0 : W0.heap[w.heap.size]? = some (.cells #[.int .i64 r, .int .i64 s, .slice ad nd cd] 24) := by rw [hW0]; exact (Below.heap_alloc _ _ _ (by simp)).trans (heap_alloc_new w _)
  have hq1 : W0.heap[w.heap.size + 1]? = some (.cells #[.int .i64 k, .int .i64 f, .int .i64 t, .int .i64 x, .bool y, .slice a n c] 27) := by
    rw [hW0]
    have := heap_alloc_new (w.alloc (.cells #[.int .i64 r, .int .i64 s, .slice ad nd cd] 24)) (.cells #[.int .i64 k, .int .i64 f, .int .i64 t, .int .i64 x, .bool y, .slice a n c] 27)
    rw [show (w.alloc (.cells #[.int .i64 r, .int .i64 s, .slice ad nd cd] 24)).heap.size = w.heap.size + 1 by simp] at this
    exact this
  have HQ : Hid (Below w.heap.size w W0 ∧ W0.heap[w.heap.size]? = some (.cells #[.int .i64 r, .int .i64 s, .slice ad nd cd] 24) ∧ W0.heap[w.heap.size + 1]? = some (.cells #[.int .i64 k, .int .i64 f, .int .i64 t, .int .i64 x, .bool y, .slice a n c] 27) ∧ W0.heap.size = w.heap.size + 2) := ⟨hb0, hq0, hq1, by rw [hW0]; simp⟩
  have KF : Hid (Calls Try.prog 9 #[.agg #[.int .i64 r, .int .i64 s, .slice ad nd cd], .agg #[.int .i64 k, .int .i64 f, .int .i64 t, .int .i64 x, .bool y, .slice a n c]] W0 (fun e w' => FwSaid W0 w' r s k f t x y D L e)) := fewp_is W0 r s ad nd cd D hnd (hD.keep hb0) hda hdc k f t x y a n c L hn (hL.keep hb0) hc (fun x hx => (hP x hx).2.1)
  have HII : Hid ((InI r ∧ InI s ∧ ∀ x ∈ D, InI x) ∧ (InI k ∧ InI f ∧ InI t ∧ InI x)) := ⟨hpI, hI⟩
  have KW : Hid (∀ u, Calls Try.prog 17 #[] u fun e w' => e = .returned (.bool true) ∧ Below u.heap.size u w') := pworks_true
  clear hW0 hb0 hq0 hq1 hpI hnd hdc hda hD hdN hI hn hc ha hL hP hN
  go_enter Try.func6, Try.ntmps6
  go_wp2_with fail
  rw [← HE.out]
  clear HE
  refine KF.out.mono ?_
  intro e w1 hsd
  obtain ⟨a5, m5, c5, a9, m9, c9, M, rfl, oz, hF, hpa, hma, _, hb1⟩ := fw_open hsd
  obtain ⟨DT, hDT⟩ : ∃ DT, DT = D.take 100 := ⟨_, rfl⟩
  rw [← hDT] at oz hpa
  have HDT : Hid (∀ z ∈ DT, InI z) := fun z hz => HII.out.1.2.2 z (by rw [hDT] at hz; exact List.mem_of_mem_take hz)
  have HB100 : Hid (DT.length ≤ 100) := by show _ ≤ _; rw [hDT, List.length_take]; omega
  obtain ⟨s1, s2, w2, hw2, x1, x2, x3, x4, x5, x6⟩ := fw_boxes (r := r) (s := s) (k := k) (f := f) (t := t) (x := x) (y := y) HQ.out.1 HQ.out.2.1 HQ.out.2.2.1 (by omega) (Nat.le_refl _) (by omega) oz hF hpa hma hb1
  have S1 : Hid (w1.heap[w.heap.size]? = some (.cells #[.int .i64 r, .int .i64 s, .slice ad nd cd] 24) ∧ (w1.setRow w.heap.size #[.int .i64 r, .int .i64 s, .slice a5 m5 c5]).heap[w.heap.size + 1]? = some (.cells #[.int .i64 k, .int .i64 f, .int .i64 t, .int .i64 x, .bool y, .slice a n c] 27)) := ⟨s1, s2⟩
  have X2 : Hid (Bx w2 w.heap.size r s a5 m5 c5 ∧ Bm w2 (w.heap.size + 1) k f t x y a9 m9 c9 ∧ PrtAt w2 a5 m5 c5 DT ∧ MsgAt w2 a9 m9 c9 M ∧ Below w.heap.size w w2) := ⟨x1, x2, x3, x4, x5⟩
  have HLO : Hid (Lo (w.heap.size + 2) a5 a9 M) := by have := x6; rw [HQ.out.2.2.2] at this; exact this
  have HW2 : Hid (w2 = (w1.setRow w.heap.size #[.int .i64 r, .int .i64 s, .slice a5 m5 c5]).setRow (w.heap.size + 1) #[.int .i64 k, .int .i64 f, .int .i64 t, .int .i64 x, .bool y, .slice a9 m9 c9]) := hw2
  clear hsd oz hF hpa hma hb1 s1 s2 x1 x2 x3 x4 x5 x6 hw2 hDT KF HQ
  go_wp2_with (first | (refine wpList_store_row rfl 24 (.tmp 2) (.tmp 19) rfl w.heap.size #[.int .i64 r, .int .i64 s, .slice a5 m5 c5] rfl rfl 24 _ S1.out.1 size3P rfl (by simp [Value.oneCell']) ?_) | (refine wpList_store_row rfl 27 (.tmp 3) (.tmp 20) rfl (w.heap.size + 1) #[.int .i64 k, .int .i64 f, .int .i64 t, .int .i64 x, .bool y, .slice a9 m9 c9] rfl rfl 27 _ S1.out.2 size6M rfl (by simp [Value.oneCell']) ?_; rw [← HW2.out]; clear HW2 S1; obtain ⟨c0, c1, c2⟩ := X2.out.1.cells; obtain ⟨m0, m1, m2, m3, m4, m5'⟩ := X2.out.2.1.cells))
  refine (take_at X2.out.2.2.1 X2.out.2.2.2.1 r s k f t x y).mono ?_
  rintro e w3 ⟨V3, rfl, hV3⟩
  obtain ⟨P, dl1, hdl1, od1, b3, hd1, -⟩ := tk_list hV3
  obtain ⟨aV, cV, rfl, -⟩ := od1.slice
  obtain ⟨N, hN⟩ : ∃ N, N = dl1.length := ⟨_, rfl⟩
  rw [← hN] at od1 ⊢
  have X3 : Hid (Bx w3 w.heap.size r s a5 m5 c5 ∧ Bm w3 (w.heap.size + 1) k f t x y a9 m9 c9 ∧ PrtAt w3 a5 m5 c5 DT ∧ MsgAt w3 a9 m9 c9 M ∧ Below w.heap.size w w3 ∧ OwnD w3 0 (.slice aV N cV) dl1) := ⟨X2.out.1.keep b3, X2.out.2.1.keep b3, X2.out.2.2.1.keep b3, X2.out.2.2.2.1.keep b3, X2.out.2.2.2.2.trans (b3.mono X2.out.2.2.2.2.size), od1.base (Nat.zero_le _)⟩
  have HD1 : Hid (tkL r s DT k f t x y M P dl1 ∧ dl1.length = N ∧ N ≤ 4) := ⟨hdl1, hN.symm, by omega⟩
  have hN4 : N ≤ 4 := by omega
  clear hV3 hdl1 od1 b3 hd1 hN c0 c1 c2 m0 m1 m2 m3 m4 m5'
  obtain ⟨c0, c1, c2⟩ := X3.out.1.cells
  obtain ⟨m0, m1, m2, m3, m4, m5'⟩ := X3.out.2.1.cells
  go_wp2_with fail
  refine (play_is w3 r s a5 m5 c5 DT X3.out.2.2.1 0 aV N cV dl1 X3.out.2.2.2.2.2 HD1.out.2.1 HD1.out.2.2).mono ?_
  rintro e w4 ⟨a1, n1, c1', rfl, oz4, b4⟩
  obtain ⟨⟨S1, D1⟩, hS1⟩ : ∃ st, ndA (s, DT) dl1 = st := ⟨_, rfl⟩
  rw [hS1] at oz4 ⊢
  simp only at oz4 ⊢
  have hl1 : D1.length ≤ 1000 := by have := ndA_len dl1 (s, DT); rw [hS1] at this; have h2 := HB100.out; have h3 := HD1.out.2.1; simp only at this; omega
  have B4 : Below w3.heap.size w3 (w4.alloc (.cells #[.int .i64 r, .int .i64 S1, .slice a1 n1 c1'] 24)) := b4.alloc b4.size _
  have X4 : Hid (Bx (w4.alloc (.cells #[.int .i64 r, .int .i64 S1, .slice a1 n1 c1'] 24)) w.heap.size r s a5 m5 c5 ∧ Bm (w4.alloc (.cells #[.int .i64 r, .int .i64 S1, .slice a1 n1 c1'] 24)) (w.heap.size + 1) k f t x y a9 m9 c9 ∧ PrtAt (w4.alloc (.cells #[.int .i64 r, .int .i64 S1, .slice a1 n1 c1'] 24)) a5 m5 c5 DT ∧ MsgAt (w4.alloc (.cells #[.int .i64 r, .int .i64 S1, .slice a1 n1 c1'] 24)) a9 m9 c9 M ∧ Below w.heap.size w (w4.alloc (.cells #[.int .i64 r, .int .i64 S1, .slice a1 n1 c1'] 24)) ∧ OwnD (w4.alloc (.cells #[.int .i64 r, .int .i64 S1, .slice a1 n1 c1'] 24)) 0 (.slice aV N cV) dl1 ∧ Bx (w4.alloc (.cells #[.int .i64 r, .int .i64 S1, .slice a1 n1 c1'] 24)) w4.heap.size r S1 a1 n1 c1' ∧ PrtAt (w4.alloc (.cells #[.int .i64 r, .int .i64 S1, .slice a1 n1 c1'] 24)) a1 n1 c1' D1) := ⟨X3.out.1.keep B4, X3.out.2.1.keep B4, X3.out.2.2.1.keep B4, X3.out.2.2.2.1.keep B4, X3.out.2.2.2.2.1.trans (B4.mono X3.out.2.2.2.2.1.size), X3.out.2.2.2.2.2.keep B4, heap_alloc_new w4 _, (oz4.prt (by omega)).keep (below1 _ _)⟩
  have HS1 : Hid (ndA (s, DT) dl1 = (S1, D1) ∧ D1.length ≤ 1000) := ⟨hS1, hl1⟩
  clear b4 oz4 hS1 hl1 B4 c0 c1 c2 m0 m1 m2 m3 m4 m5'
  go_upto_region 4 with fail
  obtain ⟨b6, hb6⟩ : ∃ b6, b6 = w4.heap.size := ⟨_, rfl⟩
  simp only [← hb6] at X4 ⊢
  generalize w4.alloc (.cells #[.int .i64 r, .int .i64 S1, .slice a1 n1 c1'] 24) = w5 at *
  clear hb6
  obtain ⟨c0, c1, c2⟩ := X4.out.1.cells
  obtain ⟨m0, m1, m2, m3, m4, m5'⟩ := X4.out.2.1.cells
  obtain ⟨q0, q1, q2⟩ := X4.out.2.2.2.2.2.2.1.cells
  go_wp2_with fail
  refine (take_at X4.out.2.2.2.2.2.2.2 X4.out.2.2.2.1 r S1 k f t x y).mono ?_
  rintro e w6 ⟨V6, rfl, hV6⟩
  obtain ⟨P2, dl2, hdl2, od2, b6', hd2, -⟩ := tk_list hV6
  obtain ⟨aW, cW, rfl, -⟩ := od2.slice
  obtain ⟨N2, hN2⟩ : ∃ N2, N2 = dl2.length := ⟨_, rfl⟩
  rw [← hN2] at od2 ⊢
  have X6 : Hid (Bx w6 w.heap.size r s a5 m5 c5 ∧ PrtAt w6 a5 m5 c5 DT ∧ Below w.heap.size w w6 ∧ OwnD w6 0 (.slice aV N cV) dl1 ∧ Bx w6 b6 r S1 a1 n1 c1' ∧ PrtAt w6 a1 n1 c1' D1 ∧ OwnD w6 0 (.slice aW N2 cW) dl2) := ⟨X4.out.1.keep b6', X4.out.2.2.1.keep b6', X4.out.2.2.2.2.1.trans (b6'.mono X4.out.2.2.2.2.1.size), X4.out.2.2.2.2.2.1.keep b6', X4.out.2.2.2.2.2.2.1.keep b6', X4.out.2.2.2.2.2.2.2.keep b6', od2.base (Nat.zero_le _)⟩
  have HD2 : Hid (tkL r S1 D1 k f t x y M P2 dl2 ∧ dl2.length = N2 ∧ N2 ≤ 4) := ⟨hdl2, hN2.symm, by omega⟩
  have hN24 : N2 ≤ 4 := by omega
  clear hV6 hdl2 od2 b6' hd2 hN2 c0 c1 c2 m0 m1 m2 m3 m4 m5' q0 q1 q2 X4 X3 X2
  obtain ⟨c0, c1, c2⟩ := X6.out.1.cells
  obtain ⟨q0, q1, q2⟩ := X6.out.2.2.2.2.1.cells
  go_wp2_with fail
  refine (play_is w6 r S1 a1 n1 c1' D1 X6.out.2.2.2.2.2.1 0 aW N2 cW dl2 X6.out.2.2.2.2.2.2 HD2.out.2.1 HD2.out.2.2).mono ?_
  rintro e w7 ⟨a2, n2, c2', rfl, oz7, b7⟩
  obtain ⟨⟨S2, D2⟩, hS2⟩ : ∃ st, ndA (S1, D1) dl2 = st := ⟨_, rfl⟩
  rw [hS2] at oz7 ⊢
  simp only at oz7 ⊢
  have hl2 : D2.length ≤ 10000 := by have := ndA_len dl2 (S1, D1); rw [hS2] at this; have h2 := HS1.out.2; have h3 := HD2.out.2.1; simp only at this; omega
  have hag := again_all HD1.out.1 HS1.out.1 HD2.out.1
  rw [hS2] at hag
  have HAG := (show Hid _ from hag)
  have HX7 : Hid (Bx w7 w.heap.size r s a5 m5 c5 ∧ PrtAt w7 a5 m5 c5 DT ∧ Below w.heap.size w w7 ∧ OwnD w7 0 (.slice aV N cV) dl1 ∧ Bx w7 b6 r S1 a1 n1 c1' ∧ PrtAt w7 a1 n1 c1' D1 ∧ OwnD w7 0 (.slice aW N2 cW) dl2 ∧ PrtAt w7 a2 n2 c2' D2) := ⟨X6.out.1.keep b7, X6.out.2.1.keep b7, X6.out.2.2.1.trans (b7.mono X6.out.2.2.1.size), X6.out.2.2.2.1.keep b7, X6.out.2.2.2.2.1.keep b7, X6.out.2.2.2.2.2.1.keep b7, X6.out.2.2.2.2.2.2.keep b7, oz7.prt hl2⟩
  clear b7 oz7 hS2 hl2 hag c0 c1 c2 q0 q1 q2 X6
  go_upto_region 6 with fail
  obtain ⟨b8, hb8⟩ : ∃ b8, b8 = w7.heap.size := ⟨_, rfl⟩
  have B8 : Below w7.heap.size w7 (w7.alloc (.cells #[.int .i64 r, .int .i64 S2, .slice a2 n2 c2'] 24)) := below1 _ _
  have X8 : Hid (Bx (w7.alloc (.cells #[.int .i64 r, .int .i64 S2, .slice a2 n2 c2'] 24)) w.heap.size r s a5 m5 c5 ∧ PrtAt (w7.alloc (.cells #[.int .i64 r, .int .i64 S2, .slice a2 n2 c2'] 24)) a5 m5 c5 DT ∧ Below w.heap.size w (w7.alloc (.cells #[.int .i64 r, .int .i64 S2, .slice a2 n2 c2'] 24)) ∧ OwnD (w7.alloc (.cells #[.int .i64 r, .int .i64 S2, .slice a2 n2 c2'] 24)) 0 (.slice aV N cV) dl1 ∧ Bx (w7.alloc (.cells #[.int .i64 r, .int .i64 S2, .slice a2 n2 c2'] 24)) b6 r S1 a1 n1 c1' ∧ PrtAt (w7.alloc (.cells #[.int .i64 r, .int .i64 S2, .slice a2 n2 c2'] 24)) a1 n1 c1' D1 ∧ OwnD (w7.alloc (.cells #[.int .i64 r, .int .i64 S2, .slice a2 n2 c2'] 24)) 0 (.slice aW N2 cW) dl2 ∧ PrtAt (w7.alloc (.cells #[.int .i64 r, .int .i64 S2, .slice a2 n2 c2'] 24)) a2 n2 c2' D2 ∧ Bx (w7.alloc (.cells #[.int .i64 r, .int .i64 S2, .slice a2 n2 c2'] 24)) w7.heap.size r S2 a2 n2 c2') := ⟨HX7.out.1.keep B8, HX7.out.2.1.keep B8, HX7.out.2.2.1.trans (B8.mono HX7.out.2.2.1.size), HX7.out.2.2.2.1.keep B8, HX7.out.2.2.2.2.1.keep B8, HX7.out.2.2.2.2.2.1.keep B8, HX7.out.2.2.2.2.2.2.1.keep B8, HX7.out.2.2.2.2.2.2.2.keep B8, heap_alloc_new w7 _⟩
  simp only [← hb8] at X8 ⊢
  generalize w7.alloc (.cells #[.int .i64 r, .int .i64 S2, .slice a2 n2 c2'] 24) = w8 at *
  clear hb8 B8 HX7
  obtain ⟨c0, c1, c2⟩ := X8.out.1.cells
  go_wp2_with fail
  refine (good_at X8.out.2.1 r s).mono ?_
  rintro e w9 ⟨rfl, b9⟩
  have X9 : Hid (Below w.heap.size w w9 ∧ OwnD w9 0 (.slice aV N cV) dl1 ∧ Bx w9 b6 r S1 a1 n1 c1' ∧ PrtAt w9 a1 n1 c1' D1 ∧ OwnD w9 0 (.slice aW N2 cW) dl2 ∧ PrtAt w9 a2 n2 c2' D2 ∧ Bx w9 b8 r S2 a2 n2 c2') := ⟨X8.out.2.2.1.trans (b9.mono X8.out.2.2.1.size), X8.out.2.2.2.1.keep b9, X8.out.2.2.2.2.1.keep b9, X8.out.2.2.2.2.2.1.keep b9, X8.out.2.2.2.2.2.2.1.keep b9, X8.out.2.2.2.2.2.2.2.1.keep b9, X8.out.2.2.2.2.2.2.2.2.keep b9⟩
  clear b9 c0 c1 c2 X8
  cases hG : gdP r s DT with
  | false =>
    have h0 := HAG.out.2 hG
    have hn0 : N = 0 := by have := HD1.out.2.1; rw [h0] at this; exact this.symm
    subst hn0
    clear hG h0
    go_wp2_with (go_at_call 17; refine (KW.out _).mono ?_; rintro ea wa ⟨rfl, ba⟩; have BA : Hid (Below w.heap.size w wa) := X9.out.1.trans (ba.mono X9.out.1.size); clear ba)
    go_ret
    exact ⟨rfl, BA.out⟩
  | true =>
    obtain ⟨hg1, hst, l1, l2, l3⟩ := HAG.out.1 hG
    cases hst
    have hnn : n2 = n1 := by have h1 := X9.out.2.2.2.1.len; have h2 := X9.out.2.2.2.2.2.1.len; omega
    subst hnn
    have HLS : Hid ((lsM dl1).k = (lsM dl2).k ∧ (lsM dl1).y = (lsM dl2).y ∧ (lsM dl1).x = (lsM dl2).x) := ⟨l1, l2, l3⟩
    have KG : Hid (∀ W, Below w9.heap.size w9 W → Calls Try.prog 13 #[.agg #[.int .i64 r, .int .i64 S1, .slice a1 n2 c1']] W fun e w' => e = .returned (.bool true) ∧ Below W.heap.size W w') := fun W hW => by
      have := good_at (X9.out.2.2.2.1.keep hW) r S1
      rw [hg1] at this
      exact this
    have KSA : Hid (∀ W, Below w9.heap.size w9 W → Calls Try.prog 22 #[.agg #[.int .i64 r, .int .i64 S1, .slice a1 n2 c1'], .agg #[.int .i64 r, .int .i64 S1, .slice a2 n2 c2']] W fun e w' => e = .returned (.bool true) ∧ Below W.heap.size W w') := fun W hW => psame_true W r S1 a1 a2 n2 c1' c2' D1 X9.out.2.2.2.1.len (X9.out.2.2.2.1.keep hW).inz (X9.out.2.2.2.2.2.1.keep hW).inz (by have := X9.out.2.2.2.1.big; omega)
    clear hG hg1 l1 l2 l3
    obtain ⟨c0, c1, c2⟩ := X9.out.2.2.1.cells
    go_wp2_with fail
    refine (KG.out _ (Below.refl _ _)).mono ?_
    rintro e w10 ⟨rfl, b10⟩
    have B10 : Hid (Below w9.heap.size w9 w10) := b10
    clear b10 c0 c1 c2
    obtain ⟨c0, c1, c2⟩ := (X9.out.2.2.1.keep B10.out).cells
    obtain ⟨d0, d1, d2⟩ := (X9.out.2.2.2.2.2.2.keep B10.out).cells
    go_wp2_with fail
    refine (KSA.out _ B10.out).mono ?_
    rintro e w11 ⟨rfl, b11⟩
    have B11 : Hid (Below w9.heap.size w9 w11) := B10.out.trans (b11.mono B10.out.size)
    clear b11 c0 c1 c2 d0 d1 d2 B10 KG KSA
    obtain ⟨z, hz⟩ : ∃ z, z = w11.heap.size := ⟨_, rfl⟩
    have HZ : Hid (z = w11.heap.size) := hz
    have HN : Hid (dl1.length = N ∧ dl2.length = N2) := ⟨HD1.out.2.1, HD2.out.2.1⟩
    have KDA : Hid (∀ W, Below z w11 W → OwnD W 0 (.slice aV N cV) dl1) := fun W hW => (X9.out.2.1.keep B11.out).keep (by rw [← HZ.out]; exact hW)
    have KDB : Hid (∀ W, Below z w11 W → OwnD W 0 (.slice aW N2 cW) dl2) := fun W hW => (X9.out.2.2.2.2.1.keep B11.out).keep (by rw [← HZ.out]; exact hW)
    have gen : ∀ (bx by' : Nat) (my' : Mv), z ≤ bx → z ≤ by' → bx ≠ by' → (∀ W m W', ((Below z w11 W ∧ Lm W by' my') ∧ Lm W bx m) → Below W.heap.size W W' → ((Below z w11 W' ∧ Lm W' by' my') ∧ Lm W' bx m)) ∧ (∀ W m m', ((Below z w11 W ∧ Lm W by' my') ∧ Lm W bx m) → ((Below z w11 (W.setRow bx (mC m')) ∧ Lm (W.setRow bx (mC m')) by' my') ∧ Lm (W.setRow bx (mC m')) bx m')) := fun bx by' my' h1 h2 h3 => by
      refine ⟨fun W m W' h hb => ⟨⟨h.1.1.trans (hb.mono (by have := h.1.1.size; omega)), (hb.block _ (lt_of_heapK h.1.2)).trans h.1.2⟩, (hb.block _ (lt_of_heapK h.2)).trans h.2⟩, fun W m m' h => ⟨⟨?_, (setRow_other _ _ _ _ (fun e => h3 e.symm)).trans h.1.2⟩, setRow_heap _ _ _ _ _ _ h.2⟩⟩
      exact ⟨h.1.1.os, h.1.1.tape, h.1.1.output, by rw [setRow_size]; exact h.1.1.size, fun q hq => (setRow_other _ _ _ _ (by omega)).trans (h.1.1.block q hq)⟩
    obtain ⟨koa, ksa⟩ := gen w11.heap.size (w11.heap.size + 1) noM (by omega) (by omega) (by omega)
    obtain ⟨kob, ksb⟩ := gen (w11.heap.size + 1) w11.heap.size (lsM dl1) (by omega) (by omega) (by omega)
    have KOA := (show Hid _ from koa)
    have KSA := (show Hid _ from ksa)
    have KOB := (show Hid _ from kob)
    have KSB := (show Hid _ from ksb)
    have A0 : Hid ((Below z w11 ((w11.alloc (.cells #[.int .i64 0, .int .i64 0, .int .i64 0, .int .i64 0, .bool false, .slice none 0 0] 27)).alloc (.cells #[.int .i64 0, .int .i64 0, .int .i64 0, .int .i64 0, .bool false, .slice none 0 0] 27)) ∧ Lm ((w11.alloc (.cells #[.int .i64 0, .int .i64 0, .int .i64 0, .int .i64 0, .bool false, .slice none 0 0] 27)).alloc (.cells #[.int .i64 0, .int .i64 0, .int .i64 0, .int .i64 0, .bool false, .slice none 0 0] 27)) (w11.heap.size + 1) noM) ∧ Lm ((w11.alloc (.cells #[.int .i64 0, .int .i64 0, .int .i64 0, .int .i64 0, .bool false, .slice none 0 0] 27)).alloc (.cells #[.int .i64 0, .int .i64 0, .int .i64 0, .int .i64 0, .bool false, .slice none 0 0] 27)) w11.heap.size (lsM (dl1.take 0))) := by
      refine ⟨⟨?_, ?_⟩, ?_⟩
      · rw [hz]; exact ((Below.refl _ _).alloc (Nat.le_refl _) _).alloc (by simp) _
      · have := heap_alloc_new (w11.alloc (.cells #[.int .i64 0, .int .i64 0, .int .i64 0, .int .i64 0, .bool false, .slice none 0 0] 27)) (.cells #[.int .i64 0, .int .i64 0, .int .i64 0, .int .i64 0, .bool false, .slice none 0 0] 27)
        rw [show (w11.alloc (.cells #[.int .i64 0, .int .i64 0, .int .i64 0, .int .i64 0, .bool false, .slice none 0 0] 27)).heap.size = w11.heap.size + 1 by simp] at this
        exact this
      · exact (Below.heap_alloc _ _ _ (by simp)).trans (heap_alloc_new w11 _)
    clear gen koa ksa kob ksb hz
    go_wp2_with fail
    go_loopg [53] N (fun q i wr => ∃ j : Nat, j ≤ N ∧ q = N - j ∧ i = .int .i64 (j : Int) ∧ Hid ((Below z w11 wr ∧ Lm wr (w11.heap.size + 1) noM) ∧ Lm wr w11.heap.size (lsM (dl1.take j))))
    case atStart => exact ⟨0, Nat.zero_le _, rfl, rfl, A0.out⟩
    case round =>
      obtain ⟨j, hj, rfl, rfl, RW⟩ := hrel
      by_cases hlt : j < N
      · have j1 : decide ((j : Int) < (N : Int)) = true := by rw [decide_eq_true_eq]; omega
        obtain ⟨y', hy⟩ : ∃ y', dl1[j]? = some y' := ⟨dl1[j]'(by rw [HN.out.1]; exact hlt), by simp [HN.out.1, hlt]⟩
        obtain ⟨g, c8, e8, _, hg8, _, _, hdc⟩ := (KDA.out wr RW.out.1.1).form (by rw [HN.out.1]; omega)
        have hpc := hdc j y' hy
        injection e8 with e8a e8b e8c
        subst e8a
        obtain ⟨d0, d1, d2, d3, d4, d5, d6, d7, d8⟩ := hpc
        have ri : IntKind.i64.wrap ((j : Int) + 1) = (j : Int) + 1 := by rw [IntKind.wrap_i64]; omega
        have HNX : Hid (lsM (dl1.take (j + 1)) = if y'.k = 5 then y'.m else lsM (dl1.take j)) := ls_next hy
        clear hy hdc e8b e8c hg8
        obtain ⟨dk, dt, dpa, dpn, dpc, mk, mf, mt, mx, my, mpa, mpn, mpc⟩ := y'
        simp only at d0 d1 d2 d3 d4 d5 d6 d7 d8
        have KP : Hid ((Below z w11 (wr.alloc (.cells #[.int .i64 dk, .int .i64 dt, .slice dpa dpn dpc, .int .i64 mk, .int .i64 mf, .int .i64 mt, .int .i64 mx, .bool my, .slice mpa mpn mpc] 37)) ∧ Lm (wr.alloc (.cells #[.int .i64 dk, .int .i64 dt, .slice dpa dpn dpc, .int .i64 mk, .int .i64 mf, .int .i64 mt, .int .i64 mx, .bool my, .slice mpa mpn mpc] 37)) (w11.heap.size + 1) noM) ∧ Lm (wr.alloc (.cells #[.int .i64 dk, .int .i64 dt, .slice dpa dpn dpc, .int .i64 mk, .int .i64 mf, .int .i64 mt, .int .i64 mx, .bool my, .slice mpa mpn mpc] 37)) w11.heap.size (lsM (dl1.take j))) := KOA.out _ _ _ RW.out (below1 _ _)
        by_cases k5 : dk = 5
        · have k5a : (dk == 5) = true := by simp [k5]
          have HSET : Hid ((Below z w11 ((wr.alloc (.cells #[.int .i64 dk, .int .i64 dt, .slice dpa dpn dpc, .int .i64 mk, .int .i64 mf, .int .i64 mt, .int .i64 mx, .bool my, .slice mpa mpn mpc] 37)).setRow w11.heap.size #[.int .i64 mk, .int .i64 mf, .int .i64 mt, .int .i64 mx, .bool my, .slice mpa mpn mpc]) ∧ Lm ((wr.alloc (.cells #[.int .i64 dk, .int .i64 dt, .slice dpa dpn dpc, .int .i64 mk, .int .i64 mf, .int .i64 mt, .int .i64 mx, .bool my, .slice mpa mpn mpc] 37)).setRow w11.heap.size #[.int .i64 mk, .int .i64 mf, .int .i64 mt, .int .i64 mx, .bool my, .slice mpa mpn mpc]) (w11.heap.size + 1) noM) ∧ Lm ((wr.alloc (.cells #[.int .i64 dk, .int .i64 dt, .slice dpa dpn dpc, .int .i64 mk, .int .i64 mf, .int .i64 mt, .int .i64 mx, .bool my, .slice mpa mpn mpc] 37)).setRow w11.heap.size #[.int .i64 mk, .int .i64 mf, .int .i64 mt, .int .i64 mx, .bool my, .slice mpa mpn mpc]) w11.heap.size (lsM (dl1.take (j + 1)))) := by
            rw [HNX.out, if_pos k5]
            exact KSA.out _ _ ⟨mk, mf, mt, mx, my, mpa, mpn, mpc⟩ KP.out
          clear k5
          go_wp2_with (refine wpList_store_row rfl 27 (.tmp 9) (.tmp 61) rfl w11.heap.size #[.int .i64 mk, .int .i64 mf, .int .i64 mt, .int .i64 mx, .bool my, .slice mpa mpn mpc] rfl rfl 27 _ KP.out.2 size6M rfl (by simp [Value.oneCell', mC]) ?_)
          go_roundg (N - (j + 1))
          case measure => omega
          case rel => exact ⟨j + 1, by omega, rfl, rfl, HSET.out⟩
        · have k5a : (dk == 5) = false := by simp [k5]
          have HSET : Hid ((Below z w11 (wr.alloc (.cells #[.int .i64 dk, .int .i64 dt, .slice dpa dpn dpc, .int .i64 mk, .int .i64 mf, .int .i64 mt, .int .i64 mx, .bool my, .slice mpa mpn mpc] 37)) ∧ Lm (wr.alloc (.cells #[.int .i64 dk, .int .i64 dt, .slice dpa dpn dpc, .int .i64 mk, .int .i64 mf, .int .i64 mt, .int .i64 mx, .bool my, .slice mpa mpn mpc] 37)) (w11.heap.size + 1) noM) ∧ Lm (wr.alloc (.cells #[.int .i64 dk, .int .i64 dt, .slice dpa dpn dpc, .int .i64 mk, .int .i64 mf, .int .i64 mt, .int .i64 mx, .bool my, .slice mpa mpn mpc] 37)) w11.heap.size (lsM (dl1.take (j + 1)))) := by
            rw [HNX.out, if_neg k5]
            exact KP.out
          clear k5
          go_wp2_with fail
          go_roundg (N - (j + 1))
          case measure => omega
          case rel => exact ⟨j + 1, by omega, rfl, rfl, HSET.out⟩
      · have j1 : decide ((j : Int) < (N : Int)) = false := by rw [decide_eq_false_iff_not]; omega
        have REA : Hid ((Below z w11 wr ∧ Lm wr (w11.heap.size + 1) noM) ∧ Lm wr w11.heap.size (lsM dl1)) := by
          have := RW.out
          rw [List.take_of_length_le (by rw [HN.out.1]; omega)] at this
          exact this
        clear RW
        rename_i uu1
        have B0 : Hid ((Below z w11 wr ∧ Lm wr w11.heap.size (lsM dl1)) ∧ Lm wr (w11.heap.size + 1) (lsM (dl2.take 0))) := ⟨⟨REA.out.1.1, REA.out.2⟩, REA.out.1.2⟩
        go_wp2_with fail
        go_loopg [65] N2 (fun q i wr => ∃ j : Nat, j ≤ N2 ∧ q = N2 - j ∧ i = .int .i64 (j : Int) ∧ Hid ((Below z w11 wr ∧ Lm wr w11.heap.size (lsM dl1)) ∧ Lm wr (w11.heap.size + 1) (lsM (dl2.take j))))
        case atStart => exact ⟨0, Nat.zero_le _, rfl, rfl, B0.out⟩
        case round =>
          obtain ⟨j, hj, rfl, rfl, RW⟩ := hrel
          by_cases hlt : j < N2
          · have j1 : decide ((j : Int) < (N2 : Int)) = true := by rw [decide_eq_true_eq]; omega
            obtain ⟨y', hy⟩ : ∃ y', dl2[j]? = some y' := ⟨dl2[j]'(by rw [HN.out.2]; exact hlt), by simp [HN.out.2, hlt]⟩
            obtain ⟨g, c8, e8, _, hg8, _, _, hdc⟩ := (KDB.out wr RW.out.1.1).form (by rw [HN.out.2]; omega)
            have hpc := hdc j y' hy
            injection e8 with e8a e8b e8c
            subst e8a
            obtain ⟨d0, d1, d2, d3, d4, d5, d6, d7, d8⟩ := hpc
            have ri : IntKind.i64.wrap ((j : Int) + 1) = (j : Int) + 1 := by rw [IntKind.wrap_i64]; omega
            have HNX : Hid (lsM (dl2.take (j + 1)) = if y'.k = 5 then y'.m else lsM (dl2.take j)) := ls_next hy
            clear hy hdc e8b e8c hg8
            obtain ⟨dk, dt, dpa, dpn, dpc, mk, mf, mt, mx, my, mpa, mpn, mpc⟩ := y'
            simp only at d0 d1 d2 d3 d4 d5 d6 d7 d8
            have KP : Hid ((Below z w11 (wr.alloc (.cells #[.int .i64 dk, .int .i64 dt, .slice dpa dpn dpc, .int .i64 mk, .int .i64 mf, .int .i64 mt, .int .i64 mx, .bool my, .slice mpa mpn mpc] 37)) ∧ Lm (wr.alloc (.cells #[.int .i64 dk, .int .i64 dt, .slice dpa dpn dpc, .int .i64 mk, .int .i64 mf, .int .i64 mt, .int .i64 mx, .bool my, .slice mpa mpn mpc] 37)) w11.heap.size (lsM dl1)) ∧ Lm (wr.alloc (.cells #[.int .i64 dk, .int .i64 dt, .slice dpa dpn dpc, .int .i64 mk, .int .i64 mf, .int .i64 mt, .int .i64 mx, .bool my, .slice mpa mpn mpc] 37)) (w11.heap.size + 1) (lsM (dl2.take j))) := KOB.out _ _ _ RW.out (below1 _ _)
            by_cases k5 : dk = 5
            · have k5a : (dk == 5) = true := by simp [k5]
              have HSET : Hid ((Below z w11 ((wr.alloc (.cells #[.int .i64 dk, .int .i64 dt, .slice dpa dpn dpc, .int .i64 mk, .int .i64 mf, .int .i64 mt, .int .i64 mx, .bool my, .slice mpa mpn mpc] 37)).setRow (w11.heap.size + 1) #[.int .i64 mk, .int .i64 mf, .int .i64 mt, .int .i64 mx, .bool my, .slice mpa mpn mpc]) ∧ Lm ((wr.alloc (.cells #[.int .i64 dk, .int .i64 dt, .slice dpa dpn dpc, .int .i64 mk, .int .i64 mf, .int .i64 mt, .int .i64 mx, .bool my, .slice mpa mpn mpc] 37)).setRow (w11.heap.size + 1) #[.int .i64 mk, .int .i64 mf, .int .i64 mt, .int .i64 mx, .bool my, .slice mpa mpn mpc]) w11.heap.size (lsM dl1)) ∧ Lm ((wr.alloc (.cells #[.int .i64 dk, .int .i64 dt, .slice dpa dpn dpc, .int .i64 mk, .int .i64 mf, .int .i64 mt, .int .i64 mx, .bool my, .slice mpa mpn mpc] 37)).setRow (w11.heap.size + 1) #[.int .i64 mk, .int .i64 mf, .int .i64 mt, .int .i64 mx, .bool my, .slice mpa mpn mpc]) (w11.heap.size + 1) (lsM (dl2.take (j + 1)))) := by
                rw [HNX.out, if_pos k5]
                exact KSB.out _ _ ⟨mk, mf, mt, mx, my, mpa, mpn, mpc⟩ KP.out
              clear k5
              go_wp2_with (refine wpList_store_row rfl 27 (.tmp 10) (.tmp 73) rfl (w11.heap.size + 1) #[.int .i64 mk, .int .i64 mf, .int .i64 mt, .int .i64 mx, .bool my, .slice mpa mpn mpc] rfl rfl 27 _ KP.out.2 size6M rfl (by simp [Value.oneCell', mC]) ?_)
              go_roundg (N2 - (j + 1))
              case measure => omega
              case rel => exact ⟨j + 1, by omega, rfl, rfl, HSET.out⟩
            · have k5a : (dk == 5) = false := by simp [k5]
              have HSET : Hid ((Below z w11 (wr.alloc (.cells #[.int .i64 dk, .int .i64 dt, .slice dpa dpn dpc, .int .i64 mk, .int .i64 mf, .int .i64 mt, .int .i64 mx, .bool my, .slice mpa mpn mpc] 37)) ∧ Lm (wr.alloc (.cells #[.int .i64 dk, .int .i64 dt, .slice dpa dpn dpc, .int .i64 mk, .int .i64 mf, .int .i64 mt, .int .i64 mx, .bool my, .slice mpa mpn mpc] 37)) w11.heap.size (lsM dl1)) ∧ Lm (wr.alloc (.cells #[.int .i64 dk, .int .i64 dt, .slice dpa dpn dpc, .int .i64 mk, .int .i64 mf, .int .i64 mt, .int .i64 mx, .bool my, .slice mpa mpn mpc] 37)) (w11.heap.size + 1) (lsM (dl2.take (j + 1)))) := by
                rw [HNX.out, if_neg k5]
                exact KP.out
              clear k5
              go_wp2_with fail
              go_roundg (N2 - (j + 1))
              case measure => omega
              case rel => exact ⟨j + 1, by omega, rfl, rfl, HSET.out⟩
          · have j1 : decide ((j : Int) < (N2 : Int)) = false := by rw [decide_eq_false_iff_not]; omega
            have REB : Hid ((Below z w11 wr ∧ Lm wr w11.heap.size (lsM dl1)) ∧ Lm wr (w11.heap.size + 1) (lsM dl2)) := by
              have := RW.out
              rw [List.take_of_length_le (by rw [HN.out.2]; omega)] at this
              exact this
            obtain ⟨ma, hma⟩ : ∃ ma, lsM dl1 = ma := ⟨_, rfl⟩
            obtain ⟨mb, hmb⟩ : ∃ mb, lsM dl2 = mb := ⟨_, rfl⟩
            have hls := HLS.out
            have hre := REB.out
            rw [hma] at hls hre
            rw [hmb] at hls hre
            obtain ⟨ka, fa, ta, xa, ya, paa, pna, pca⟩ := ma
            obtain ⟨kb, fb, tb, xb, yb, pab, pnb, pcb⟩ := mb
            simp only at hls
            obtain ⟨h1, h2, h3⟩ := hls
            subst h1 h2 h3
            have g1 := Bm.cells (show Bm _ _ _ _ _ _ _ _ _ _ from hre.1.2)
            have g2 := Bm.cells (show Bm _ _ _ _ _ _ _ _ _ _ from hre.2)
            obtain ⟨x0, x1, x2, x3, x4, x5⟩ := g1
            obtain ⟨y0, y1, y2, y3, y4, y5⟩ := g2
            have BF : Hid (Below w.heap.size w wr) := X9.out.1.trans ((B11.out.trans (hre.1.1.mono (by have := B11.out.size; have := HZ.out; omega))).mono X9.out.1.size)
            have yy : (ya == ya) = true := by simp
            clear hre hma hmb
            go_wp2_with (go_at_call 17; refine (KW.out _).mono ?_; rintro ea wa ⟨rfl, ba⟩; have BA : Hid (Below w.heap.size w wa) := BF.out.trans (ba.mono BF.out.size); clear ba)
            go_ret
            exact ⟨rfl, BA.out⟩
end Go.Proofs.Ytkmbabmcjijcgaa
