/- PartKeeps's walk. -/
import Derived.Test.YtkmbabmcjijcgaaPtM
import Derived.Test.YtkmbabmcjijcgaaPtN
namespace Go.Proofs.Ytkmbabmcjijcgaa
open Go.ChangeShapes Go.WideShapes Go.ChangeAt Go.RowKit Go.Deep Go.Maps
set_option linter.unusedVariables false
set_option linter.unusedSimpArgs false
set_option maxRecDepth 100000 in
set_option maxHeartbeats 8000000 in
theorem partKeeps_walk (r s : Int) (ad : Option Addr) (nd cd : Nat) (D : List Int) (k f t x : Int) (y : Bool) (a : Option Addr) (n c : Nat) (L : List Pk) (w : World) (hp : PtIn w r s ad nd cd D) (hm : MsIn w k f t x a n c L) :
    Calls Try.prog 5 #[.agg #[.int .i64 r, .int .i64 s, .slice ad nd cd], .agg #[.int .i64 k, .int .i64 f, .int .i64 t, .int .i64 x, .bool y, .slice a n c]] w fun e w' => e = .returned (.bool true) ∧ Below w.heap.size w w' := by
  obtain ⟨hpI, hnd, hdc, hda, hD, hdN⟩ := hp
  obtain ⟨hI, hn, hc, ha, hL, hP, hN⟩ := hm
  obtain ⟨W0, hW0⟩ : ∃ W0, W0 = (w.alloc (.cells #[.int .i64 r, .int .i64 s, .slice ad nd cd] 24)).alloc (.cells #[.int .i64 k, .int .i64 f, .int .i64 t, .int .i64 x, .bool y, .slice a n c] 27) := ⟨_, rfl⟩
  have HE : Hid (W0 = (w.alloc (.cells #[.int .i64 r, .int .i64 s, .slice ad nd cd] 24)).alloc (.cells #[.int .i64 k, .int .i64 f, .int .i64 t, .int .i64 x, .bool y, .slice a n c] 27)) := hW0
  have hb0 : Below w.heap.size w W0 := by rw [hW0]; exact ((Below.refl _ _).alloc (Nat.le_refl _) _).alloc (by simp) _
  have hq0 : W0.heap[w.heap.size]? = some (.cells #[.int .i64 r, .int .i64 s, .slice ad nd cd] 24) := by rw [hW0]; exact (Below.heap_alloc _ _ _ (by simp)).trans (heap_alloc_new w _)
  have hq1 : W0.heap[w.heap.size + 1]? = some (.cells #[.int .i64 k, .int .i64 f, .int .i64 t, .int .i64 x, .bool y, .slice a n c] 27) := by
    rw [hW0]
    have := heap_alloc_new (w.alloc (.cells #[.int .i64 r, .int .i64 s, .slice ad nd cd] 24)) (.cells #[.int .i64 k, .int .i64 f, .int .i64 t, .int .i64 x, .bool y, .slice a n c] 27)
    rw [show (w.alloc (.cells #[.int .i64 r, .int .i64 s, .slice ad nd cd] 24)).heap.size = w.heap.size + 1 by simp] at this
    exact this
  have HQ : Hid (Below w.heap.size w W0 ∧ W0.heap[w.heap.size]? = some (.cells #[.int .i64 r, .int .i64 s, .slice ad nd cd] 24) ∧ W0.heap[w.heap.size + 1]? = some (.cells #[.int .i64 k, .int .i64 f, .int .i64 t, .int .i64 x, .bool y, .slice a n c] 27) ∧ W0.heap.size = w.heap.size + 2) := ⟨hb0, hq0, hq1, by rw [hW0]; simp⟩
  have KF : Hid (Calls Try.prog 9 #[.agg #[.int .i64 r, .int .i64 s, .slice ad nd cd], .agg #[.int .i64 k, .int .i64 f, .int .i64 t, .int .i64 x, .bool y, .slice a n c]] W0 (fun e w' => FwSaid W0 w' r s k f t x y D L e)) := fewp_is W0 r s ad nd cd D hnd (hD.keep hb0) hda hdc k f t x y a n c L hn (hL.keep hb0) hc (fun x hx => (hP x hx).2.1)
  have HII : Hid ((InI r ∧ InI s ∧ ∀ x ∈ D, InI x) ∧ (InI k ∧ InI f ∧ InI t ∧ InI x)) := ⟨hpI, hI⟩
  have KW : Hid (∀ u, Calls Try.prog 17 #[] u fun e w' => e = .returned (.bool true) ∧ Below u.heap.size u w') := pworks_true
  clear hW0 hb0 hq0 hq1 hpI hnd hdc hda hD hdN hI hn hc ha hL hP hN
  go_enter Try.func5, Try.ntmps5
  go_wp2_with fail
  rw [← HE.out]
  clear HE
  refine KF.out.mono ?_
  intro e w1 hsd
  obtain ⟨a5, m5, c5, a9, m9, c9, M, rfl, oz, hF, hpa, hma, _, hb1⟩ := fw_open hsd
  obtain ⟨DT, hDT⟩ : ∃ DT, DT = D.take 100 := ⟨_, rfl⟩
  rw [← hDT] at oz hpa
  have HDT : Hid (∀ z ∈ DT, InI z) := fun z hz => HII.out.1.2.2 z (by rw [hDT] at hz; exact List.mem_of_mem_take hz)
  obtain ⟨s1, s2, w2, hw2, x1, x2, x3, x4, x5, x6⟩ := fw_boxes (r := r) (s := s) (k := k) (f := f) (t := t) (x := x) (y := y) HQ.out.1 HQ.out.2.1 HQ.out.2.2.1 (by omega) (Nat.le_refl _) (by omega) oz hF hpa hma hb1
  have S1 : Hid (w1.heap[w.heap.size]? = some (.cells #[.int .i64 r, .int .i64 s, .slice ad nd cd] 24) ∧ (w1.setRow w.heap.size #[.int .i64 r, .int .i64 s, .slice a5 m5 c5]).heap[w.heap.size + 1]? = some (.cells #[.int .i64 k, .int .i64 f, .int .i64 t, .int .i64 x, .bool y, .slice a n c] 27)) := ⟨s1, s2⟩
  have X2 : Hid (Bx w2 w.heap.size r s a5 m5 c5 ∧ Bm w2 (w.heap.size + 1) k f t x y a9 m9 c9 ∧ PrtAt w2 a5 m5 c5 DT ∧ MsgAt w2 a9 m9 c9 M ∧ Below w.heap.size w w2) := ⟨x1, x2, x3, x4, x5⟩
  have HLO : Hid (Lo (w.heap.size + 2) a5 a9 M) := by have := x6; rw [HQ.out.2.2.2] at this; exact this
  have HW2 : Hid (w2 = (w1.setRow w.heap.size #[.int .i64 r, .int .i64 s, .slice a5 m5 c5]).setRow (w.heap.size + 1) #[.int .i64 k, .int .i64 f, .int .i64 t, .int .i64 x, .bool y, .slice a9 m9 c9]) := hw2
  clear hsd oz hF hpa hma hb1 s1 s2 x1 x2 x3 x4 x5 x6 hw2 hDT KF HQ
  go_wp2_with (first | (refine wpList_store_row rfl 24 (.tmp 2) (.tmp 15) rfl w.heap.size #[.int .i64 r, .int .i64 s, .slice a5 m5 c5] rfl rfl 24 _ S1.out.1 size3P rfl (by simp [Value.oneCell']) ?_) | (refine wpList_store_row rfl 27 (.tmp 3) (.tmp 16) rfl (w.heap.size + 1) #[.int .i64 k, .int .i64 f, .int .i64 t, .int .i64 x, .bool y, .slice a9 m9 c9] rfl rfl 27 _ S1.out.2 size6M rfl (by simp [Value.oneCell']) ?_; rw [← HW2.out]; clear HW2 S1; obtain ⟨c0, c1, c2⟩ := X2.out.1.cells; obtain ⟨m0, m1, m2, m3, m4, m5'⟩ := X2.out.2.1.cells))
  have RA : Hid (OwnZ (w2.drew.alloc (.cells #[] 3)) w2.heap.size (.slice (some ⟨w2.heap.size, 0, none⟩) 0 0) []) := World.ownsRow_made (e := 3) (size := 1) (base := w2.heap.size) w2.drew #[] 0 (by simp) (by simp) (by simp)
  have RB : Hid (Below w2.heap.size w2 (w2.drew.alloc (.cells #[] 3))) := (below_drewM (Below.refl _ _)).alloc (by simp) _
  have RI : Hid (InZ (w2.drew.alloc (.cells #[] 3)) a5 DT ∧ DT.length = m5 ∧ (a5 = none → m5 = 0 ∧ c5 = 0) ∧ m5 ≤ 10000 ∧ w2.heap.size ≤ (w2.drew.alloc (.cells #[] 3)).heap.size) := ⟨X2.out.2.2.1.inz.keep RB.out, X2.out.2.2.1.len, X2.out.2.2.1.nil, X2.out.2.2.1.big, RB.out.size⟩
  have KX : Hid (∀ W, Below w2.heap.size w2 W → (W.cell? ⟨w.heap.size, 0, none⟩ = some (.int .i64 r) ∧ W.cell? ⟨w.heap.size, 1, none⟩ = some (.int .i64 s) ∧ W.cell? ⟨w.heap.size, 2, none⟩ = some (.slice a5 m5 c5))) := fun W hW => (X2.out.1.keep hW).cells
  refine wp_region_noPanic ?_
  refine wp_region_held_drew (S := (fun W : World => Below w2.heap.size w2 W)) (by kernel_rfl) ?hSaa (fun hHeld => ?restaa)
  case hSaa => exact below_drewM (Below.refl _ _)
  case restaa =>
    refine wpAnyH_take (i := 0) (v := .pointer (some ⟨w.heap.size, 1, none⟩)) rfl (by kernel_rfl) (by kernel_rfl) (by kernel_rfl) (fun _ _ _ h => h) (Or.inl ⟨by kernel_rfl, ?hy0a⟩) hHeld ?rest0a
    case hy0a => (intro w' hSw; (try dsimp only at hSw); go_simp; try with_reducible rfl)
    try simp only [Act.put, List.setIfInBounds_toArray, List.set_cons_zero, List.set_cons_succ, List.getElem_toArray, List.getElem_cons_zero, List.getElem_cons_succ]
    refine wpAnyH_take (i := 1) (v := .int .i64 s) rfl (by kernel_rfl) (by kernel_rfl) (by kernel_rfl) (fun _ _ _ h => h) (Or.inl ⟨by kernel_rfl, ?hy1a⟩) hHeld ?rest1a
    case hy1a => (intro w' hSw; (try dsimp only at hSw); obtain ⟨q0, q1, q2⟩ := KX.out _ hSw; go_simp; try with_reducible rfl)
    try simp only [Act.put, List.setIfInBounds_toArray, List.set_cons_zero, List.set_cons_succ, List.getElem_toArray, List.getElem_cons_zero, List.getElem_cons_succ]
    refine wpAnyH_take (i := 3) (v := .pointer (some ⟨w.heap.size, 2, none⟩)) rfl (by kernel_rfl) (by kernel_rfl) (by kernel_rfl) (fun _ _ _ h => h) (Or.inl ⟨by kernel_rfl, ?hy3a⟩) hHeld ?rest3a
    case hy3a => (intro w' hSw; (try dsimp only at hSw); go_simp; try with_reducible rfl)
    try simp only [Act.put, List.setIfInBounds_toArray, List.set_cons_zero, List.set_cons_succ, List.getElem_toArray, List.getElem_cons_zero, List.getElem_cons_succ]
    refine wpAnyH_take (i := 4) (v := .slice a5 m5 c5) rfl (by kernel_rfl) (by kernel_rfl) (by kernel_rfl) (fun _ _ _ h => h) (Or.inl ⟨by kernel_rfl, ?hy4a⟩) hHeld ?rest4a
    case hy4a => (intro w' hSw; (try dsimp only at hSw); obtain ⟨q0, q1, q2⟩ := KX.out _ hSw; go_simp; try with_reducible rfl)
    try simp only [Act.put, List.setIfInBounds_toArray, List.set_cons_zero, List.set_cons_succ, List.getElem_toArray, List.getElem_cons_zero, List.getElem_cons_succ]
    refine wpAnyH_ready (rs := [2]) (by kernel_rfl) (by simp) ?_
    refine AllReadyH.cons rfl (fun K hK => ?_) AllReadyH.nil
    go_wp2_with fail
    refine hK.out _ _ ?hS2a (fun hHeld => ?rest2a)
    case hS2a => exact RB.out
    clear hK K
    try simp only [Act.put, List.setIfInBounds_toArray, List.set_cons_zero, List.set_cons_succ, List.getElem_toArray, List.getElem_cons_zero, List.getElem_cons_succ]
    have KA : Hid (∀ (o : Oper) (act : Act) (K : Act → World → Prop) (Q : Exit → Act → World → Prop), o.op = .call { callee := .builtin .append, args := #[.tmp 19, .tmp 21], argTypes := #[22, 22] } → act.eval (.tmp 19) = .slice (some ⟨w2.heap.size, 0, none⟩) 0 0 → act.eval (.tmp 21) = .slice a5 m5 c5 → (∀ v' w', OwnZ w' w2.heap.size v' DT → Below w2.heap.size w2 w' → K (act.put o.dst v') w') → o.wp Try.prog act (w2.drew.alloc (.cells #[] 3)) K Q) := fun o act K Q ho h1 h2 h3 => (by
      cases ha5 : a5 with
      | none =>
        obtain ⟨e1, e2⟩ := RI.out.2.2.1 ha5
        have hd : DT = [] := List.length_eq_zero_iff.1 (RI.out.2.1.trans e1)
        rw [ha5, e1, e2] at h2
        refine wp_append_ints0 (.tmp 19) (.tmp 21) ho w2.heap.size _ [] h1 RA.out h2 ?_
        exact h3 _ _ (by rw [hd]; exact RA.out) RB.out
      | some q =>
        rw [ha5] at h2
        refine wp_append_ints (.tmp 19) (.tmp 21) ho w2.heap.size _ [] h1 RA.out q m5 c5 DT h2 RI.out.2.1 (by rw [← ha5]; exact RI.out.1) (by have := RI.out.2.2.2.1; simp; omega) RI.out.2.2.2.2 ?_
        intro v' w' o1 g1
        exact h3 v' w' o1 (RB.out.grown g1 RI.out.2.2.2.2 (fun k hk => by cases hk; exact Nat.le_refl _)))
    refine wpAnyH_ready (rs := [5]) (by kernel_rfl) (by simp) ?_
    refine AllReadyH.cons rfl (fun K hK => ?_) AllReadyH.nil
    refine KA.out _ _ _ _ rfl rfl rfl ?_; intro v5 w5 o5 b5; have O5 : Hid (OwnZ w5 w2.heap.size v5 DT ∧ Below w2.heap.size w2 w5) := ⟨o5, b5⟩; clear o5 b5; go_wp2_with fail
    refine hK.out _ _ ?hS5a (fun hHeld => ?rest5a)
    case hS5a => exact O5.out.2
    clear hK K
    try simp only [Act.put, List.setIfInBounds_toArray, List.set_cons_zero, List.set_cons_succ, List.getElem_toArray, List.getElem_cons_zero, List.getElem_cons_succ]
    refine wpAnyH_take (i := 6) (v := .int .i64 s) rfl (by kernel_rfl) (by kernel_rfl) (by kernel_rfl) (fun _ _ _ h => h) (Or.inl ⟨by kernel_rfl, ?hy6a⟩) hHeld ?rest6a
    case hy6a => (intro w' hSw; (try dsimp only at hSw); go_simp; try with_reducible rfl)
    try simp only [Act.put, List.setIfInBounds_toArray, List.set_cons_zero, List.set_cons_succ, List.getElem_toArray, List.getElem_cons_zero, List.getElem_cons_succ]
    refine wpAnyH_take (i := 7) (v := v5) rfl (by kernel_rfl) (by kernel_rfl) (by kernel_rfl) (fun _ _ _ h => h) (Or.inl ⟨by kernel_rfl, ?hy7a⟩) hHeld ?rest7a
    case hy7a => (intro w' hSw; (try dsimp only at hSw); go_simp; try with_reducible rfl)
    try simp only [Act.put, List.setIfInBounds_toArray, List.set_cons_zero, List.set_cons_succ, List.getElem_toArray, List.getElem_cons_zero, List.getElem_cons_succ]
    refine wpAnyH_done (by kernel_rfl) ?_ _
    refine NoPanic.normal ?_
    obtain ⟨z, hz⟩ : ∃ z, z = w2.heap.size := ⟨_, rfl⟩
    have HZ : Hid (z = w2.heap.size) := hz
    rw [← hz] at O5
    have X5 : Hid (Bx w5 w.heap.size r s a5 m5 c5 ∧ Bm w5 (w.heap.size + 1) k f t x y a9 m9 c9 ∧ PrtAt w5 a5 m5 c5 DT ∧ MsgAt w5 a9 m9 c9 M) := by
      have hb := O5.out.2
      rw [hz] at hb
      exact ⟨X2.out.1.keep hb, X2.out.2.1.keep hb, X2.out.2.2.1.keep hb, X2.out.2.2.2.1.keep hb⟩
    clear hz hHeld c0 c1 c2 m0 m1 m2 m3 m4 m5' RA RB RI KX KA
    obtain ⟨c0, c1, c2⟩ := X5.out.1.cells
    obtain ⟨m0, m1, m2, m3, m4, m5'⟩ := X5.out.2.1.cells
    go_wp2_with fail
    refine (take_at X5.out.2.2.1 X5.out.2.2.2 r s k f t x y).mono ?_
    rintro e w6 ⟨V6, rfl, hV6⟩
    obtain ⟨P, dl, hdl, od, b6, hd4, _⟩ := tk_list hV6
    have hok := tkL_ok hdl
    obtain ⟨aV, cV, rfl, _⟩ := od.slice
    obtain ⟨N, hN⟩ : ∃ N, N = dl.length := ⟨_, rfl⟩
    have h5z : z ≤ w5.heap.size := by have := O5.out.2.size; have := HZ.out; omega
    have L6 : Hid (OwnZ w6 z v5 DT ∧ OwnD w6 z (.slice aV N cV) dl ∧ okA r x (s, DT) (dl.drop 0) ∧ DT.length ≤ 10000 + 0 ∧ Below z w2 w6) := by
      refine ⟨O5.out.1.keep b6, by rw [hN]; exact od.base h5z, hok, ?_, O5.out.2.trans (b6.mono h5z)⟩
      have h1 := X5.out.2.2.1.len
      have h2 := X5.out.2.2.1.big
      omega
    rw [← hN] at od ⊢
    have HNN : Hid (dl.length = N ∧ N ≤ 4) := ⟨hN.symm, by omega⟩
    have hN4 : N ≤ 4 := by omega
    have KBX : Hid (∀ W, Below z w2 W → (W.cell? ⟨w.heap.size, 0, none⟩ = some (.int .i64 r)) ∧ W.cell? ⟨w.heap.size + 1, 3, none⟩ = some (.int .i64 x)) := fun W hW => ⟨(X2.out.1.keep (by rw [← HZ.out]; exact hW)).cells.1, (X2.out.2.1.keep (by rw [← HZ.out]; exact hW)).cells.2.2.2.1⟩
    clear hV6 hdl od b6 hd4 hok hN h5z c0 c1 c2 m0 m1 m2 m3 m4 m5' O5 X5
    go_wp2_with fail
    go_loopg [5, 6, 27] N (fun q st dn i wr => ∃ (j : Nat) (S : Int) (Dn : List Int), j ≤ N ∧ q = N - j ∧ st = .int .i64 S ∧ i = .int .i64 (j : Int) ∧ Hid (OwnZ wr z dn Dn ∧ OwnD wr z (.slice aV N cV) dl ∧ okA r x (S, Dn) (dl.drop j) ∧ Dn.length ≤ 10000 + j ∧ Below z w2 wr))
    case atStart => exact ⟨0, s, DT, Nat.zero_le _, rfl, rfl, rfl, L6.out⟩
    obtain ⟨j, S, Dn, hj, rfl, rfl, rfl, RW⟩ := hrel
    generalize u6 = dn at *
    obtain ⟨a7, c7, rfl, iz, lz, mz, nz, _⟩ := RW.out.1.slice
    obtain ⟨n7, hn7⟩ : ∃ n7, n7 = Dn.length := ⟨_, rfl⟩
    rw [← hn7] at RW lz ⊢
    have H7 : Hid (Dn.length = n7 ∧ InZ wr a7 Dn ∧ (a7 = none → n7 = 0 ∧ c7 = 0) ∧ n7 ≤ 10004) := ⟨hn7.symm, iz, (fun e => by have := nz e; omega), by have := RW.out.2.2.2.1; omega⟩
    have hn7b : n7 ≤ 10004 := H7.out.2.2.2
    clear hn7 iz lz mz nz
    have hzw : z ≤ wr.heap.size := by have := RW.out.2.2.2.2.size; have := HZ.out; omega
    have HZW : Hid (z ≤ wr.heap.size) := hzw
    clear hzw
    obtain ⟨cr, cx⟩ := KBX.out _ RW.out.2.2.2.2
    by_cases hlt : j < N
    · have j1 : decide ((j : Int) < (N : Int)) = true := by rw [decide_eq_true_eq]; omega
      obtain ⟨y', hy⟩ : ∃ y', dl[j]? = some y' := ⟨dl[j]'(by rw [HNN.out.1]; exact hlt), by simp [HNN.out.1, hlt]⟩
      obtain ⟨g, c8, e8, _, hg8, _, _, hdc⟩ := RW.out.2.1.form (by rw [HNN.out.1]; omega)
      have hpc := hdc j y' hy
      injection e8 with e8a e8b e8c
      subst e8a
      have hdrop : dl.drop j = y' :: dl.drop (j + 1) := by
        obtain ⟨h1, h2⟩ := List.getElem?_eq_some_iff.1 hy
        rw [List.drop_eq_getElem_cons h1, h2]
      have HOK : Hid (okS r x (S, Dn) y' ∧ okA r x (ndS (S, Dn) y') (dl.drop (j + 1))) := by have := RW.out.2.2.1; rw [hdrop] at this; exact this
      obtain ⟨d0, d1, d2, d3, d4, d5, d6, d7, d8⟩ := hpc
      have ri : IntKind.i64.wrap ((j : Int) + 1) = (j : Int) + 1 := by rw [IntKind.wrap_i64]; omega
      clear hy hdc hdrop e8b e8c hg8
      obtain ⟨dk, dt, dpa, dpn, dpc, mk, mf, mt, mx, my, mpa, mpn, mpc⟩ := y'
      simp only at d0 d1 d2 d3 d4 d5 d6 d7 d8
      obtain ⟨Q1, hQ1⟩ : ∃ Q1, decide (dt ∈ Dn) = Q1 := ⟨_, rfl⟩
      have KIN : Hid (∀ W, Below wr.heap.size wr W → Calls Try.prog 20 #[.slice a7 n7 c7, .int .i64 dt] W fun e w' => e = .returned (.bool Q1) ∧ w' = W) := fun W hW => by rw [← hQ1]; exact rin_is W a7 n7 c7 Dn H7.out.1 (H7.out.2.1.keep hW) (by have := H7.out.2.2.2; omega) dt
      have HQ1 : Hid (decide (dt ∈ Dn) = Q1) := hQ1
      have NX : Hid (∀ W, Below wr.heap.size wr W → OwnZ W z (.slice a7 n7 c7) Dn ∧ OwnD W z (.slice (some ⟨g, 0, none⟩) N cV) dl ∧ Dn.length ≤ 10000 + (j + 1) ∧ Below z w2 W) := fun W hW => ⟨RW.out.1.keep hW, RW.out.2.1.keep hW, by have := RW.out.2.2.2.1; have := H7.out.1; omega, RW.out.2.2.2.2.trans (hW.mono HZW.out)⟩
      have B1 : Hid (Below wr.heap.size wr (wr.alloc (.cells #[.int .i64 dk, .int .i64 dt, .slice dpa dpn dpc, .int .i64 mk, .int .i64 mf, .int .i64 mt, .int .i64 mx, .bool my, .slice mpa mpn mpc] 37))) := below1 _ _
      obtain ⟨cr1, cx1⟩ := KBX.out _ (RW.out.2.2.2.2.trans (B1.out.mono HZW.out))
      clear hQ1
      obtain ⟨h1, hrest⟩ := HOK.out
      clear HOK
      rcases h1 with ⟨e1, e2, e3, e4⟩ | ⟨e1, e2, e3⟩ | ⟨e1, e2, e3⟩ | ⟨e1, e2⟩ | ⟨e1, e2, e3, e4, e5, e6⟩
      · simp only at e1 e2 e3 e4
        have HRE : Hid (okA r x (dt, Dn) (dl.drop (j + 1))) := by
          have := hrest
          unfold ndS at this
          rw [if_pos e1] at this
          exact this
        have q1 : Q1 = false := by rw [← HQ1.out]; exact decide_eq_false e3
        subst dt
        subst e1 e2 q1
        clear hrest e3
        go_wp2_with (go_at_call 20; refine (KIN.out _ B1.out).mono ?_; rintro e9 w9 ⟨rfl, rfl⟩)
        go_roundg (N - (j + 1))
        case measure => omega
        case rel => exact ⟨j + 1, x, Dn, by omega, rfl, rfl, rfl, (by have h := NX.out _ B1.out; exact ⟨h.1, h.2.1, HRE.out, h.2.2.1, h.2.2.2⟩)⟩
      · simp only at e1 e2 e3
        have HRE : Hid (okA r x (0, Dn ++ [dt]) (dl.drop (j + 1))) := by
          have := hrest
          unfold ndS at this
          rw [if_neg (by simp only; omega), if_pos e1] at this
          exact this
        have q1 : Q1 = false := by rw [← HQ1.out]; exact decide_eq_false e3
        subst e1 e2 q1
        clear hrest e3
        have B2 : Hid (Below wr.heap.size wr ((wr.alloc (.cells #[.int .i64 3, .int .i64 S, .slice dpa dpn dpc, .int .i64 mk, .int .i64 mf, .int .i64 mt, .int .i64 mx, .bool my, .slice mpa mpn mpc] 37)).alloc (.cells #[.int .i64 S] 3))) := B1.out.alloc (by simp) _
        have AP : Hid (OwnZ ((wr.alloc (.cells #[.int .i64 3, .int .i64 S, .slice dpa dpn dpc, .int .i64 mk, .int .i64 mf, .int .i64 mt, .int .i64 mx, .bool my, .slice mpa mpn mpc] 37)).alloc (.cells #[.int .i64 S] 3)) z (.slice a7 n7 c7) Dn ∧ InZ ((wr.alloc (.cells #[.int .i64 3, .int .i64 S, .slice dpa dpn dpc, .int .i64 mk, .int .i64 mf, .int .i64 mt, .int .i64 mx, .bool my, .slice mpa mpn mpc] 37)).alloc (.cells #[.int .i64 S] 3)) (some ⟨wr.heap.size + 1, 0, none⟩) [S] ∧ Dn.length + 1 ≤ 17592186044416 ∧ z ≤ ((wr.alloc (.cells #[.int .i64 3, .int .i64 S, .slice dpa dpn dpc, .int .i64 mk, .int .i64 mf, .int .i64 mt, .int .i64 mx, .bool my, .slice mpa mpn mpc] 37)).alloc (.cells #[.int .i64 S] 3)).heap.size) := by
          refine ⟨RW.out.1.keep B2.out, .inr ⟨wr.heap.size + 1, 0, rfl, by simp, fun i v hv => ?_⟩, by have := H7.out.1; omega, Nat.le_trans HZW.out B2.out.size⟩
          have hi : i = 0 := by have := (List.getElem?_eq_some_iff.1 hv).1; simpa using this
          subst hi
          simp at hv
          subst hv
          have hh := heap_alloc_new (wr.alloc (.cells #[.int .i64 3, .int .i64 S, .slice dpa dpn dpc, .int .i64 mk, .int .i64 mf, .int .i64 mt, .int .i64 mx, .bool my, .slice mpa mpn mpc] 37)) (.cells #[.int .i64 S] 3)
          rw [show (wr.alloc (.cells #[.int .i64 3, .int .i64 S, .slice dpa dpn dpc, .int .i64 mk, .int .i64 mf, .int .i64 mt, .int .i64 mx, .bool my, .slice mpa mpn mpc] 37)).heap.size = wr.heap.size + 1 by simp] at hh
          rw [Nat.zero_add, cell_of_row _ (wr.heap.size + 1) 0 _ _ (0, 0) hh]
          rfl
        go_wp2_with (first | (go_at_call 20; refine (KIN.out _ B1.out).mono ?_; rintro e9 w9 ⟨rfl, rfl⟩) | (at_builtin; refine append_ints rfl (.tmp 62) (.tmp 65) rfl z _ Dn rfl AP.out.1 (some ⟨wr.heap.size + 1, 0, none⟩) 1 1 [S] rfl rfl AP.out.2.1 (fun e => by cases e) AP.out.2.2.1 AP.out.2.2.2 ?_; intro v8 w8 o8 g8; have G8 : Hid (OwnZ w8 z v8 (Dn ++ [S]) ∧ OwnD w8 z (.slice (some ⟨g, 0, none⟩) N cV) dl ∧ okA r x (0, Dn ++ [S]) (dl.drop (j + 1)) ∧ (Dn ++ [S]).length ≤ 10000 + (j + 1) ∧ Below z w2 w8) := ⟨o8, (RW.out.2.1.keep B2.out).int g8 (fun k hk => AP.out.1.blk hk), HRE.out, (by rw [List.length_append]; have := RW.out.2.2.2.1; have := H7.out.1; simp; omega), (RW.out.2.2.2.2.trans (B2.out.mono HZW.out)).grown g8 (by have := B2.out.size; have := HZW.out; omega) (fun k hk => (AP.out.1.own k hk).1)⟩; clear o8 g8))
        go_roundg (N - (j + 1))
        case measure => omega
        case rel => exact ⟨j + 1, 0, (Dn ++ [S]), by omega, rfl, rfl, rfl, G8.out⟩
      · simp only at e1 e2 e3
        have HRE : Hid (okA r x (0, Dn) (dl.drop (j + 1))) := by
          have := hrest
          unfold ndS at this
          rw [if_neg (by simp only; omega), if_neg (by simp only; omega), if_pos e1] at this
          exact this
        have q1 : Q1 = false := by rw [← HQ1.out]; exact decide_eq_false e3
        subst e1 e2 q1
        clear hrest e3
        go_wp2_with (go_at_call 20; refine (KIN.out _ B1.out).mono ?_; rintro e9 w9 ⟨rfl, rfl⟩)
        go_roundg (N - (j + 1))
        case measure => omega
        case rel => exact ⟨j + 1, 0, Dn, by omega, rfl, rfl, rfl, (by have h := NX.out _ B1.out; exact ⟨h.1, h.2.1, HRE.out, h.2.2.1, h.2.2.2⟩)⟩
      · simp only at e1 e2
        have HRE : Hid (okA r x (S, Dn) (dl.drop (j + 1))) := by
          have := hrest
          unfold ndS at this
          rw [if_neg (by simp only; omega), if_neg (by simp only; omega), if_neg (by simp only; omega)] at this
          exact this
        have hne : n7 ≠ 0 := fun e => by
          have : Dn = [] := List.length_eq_zero_iff.1 (H7.out.1.trans e)
          rw [this] at e2
          cases e2
        obtain ⟨i7, hi7⟩ : ∃ i7, n7 = i7 + 1 := ⟨n7 - 1, by omega⟩
        have hat : Dn[i7]? = some dt := by rw [List.getLast?_eq_getElem?, H7.out.1, hi7] at e2; exact e2
        obtain ⟨b7, o7, rfl, _, c9'⟩ := (H7.out.2.1.keep B1.out).at hat
        have z1 : ((n7 : Int) == 0) = false := by simp [hne]
        have z2 : decide ((n7 : Int) = 0) = false := by simp [hne]
        have z3 : decide (n7 = 0) = false := by simp [hne]
        have rj : IntKind.i64.wrap ((n7 : Int) - 1) = (i7 : Int) := by rw [IntKind.wrap_i64]; omega
        have hil : i7 < n7 := by omega
        have hil2 : (i7 : Int) < (n7 : Int) := by omega
        subst e1
        clear hrest e2 hne hi7 hat
        go_wp2_with (go_at_call 20; refine (KIN.out _ B1.out).mono ?_; rintro e9 w9 ⟨rfl, rfl⟩)
        go_quiet (fail)
        have BQ : Hid (Below wr.heap.size wr ((wr.alloc (.cells #[.int .i64 1, .int .i64 dt, .slice dpa dpn dpc, .int .i64 mk, .int .i64 mf, .int .i64 mt, .int .i64 mx, .bool my, .slice mpa mpn mpc] 37)).drewN nq)) := below_drewN B1.out nq
        go_wp2_with fail
        go_roundg (N - (j + 1))
        case measure => omega
        case rel => exact ⟨j + 1, S, Dn, by omega, rfl, rfl, rfl, (by have h := NX.out _ BQ.out; exact ⟨h.1, h.2.1, HRE.out, h.2.2.1, h.2.2.2⟩)⟩
      · simp only at e1 e2 e3 e4 e5 e6
        have HRE : Hid (okA r x (S, Dn) (dl.drop (j + 1))) := by
          have := hrest
          unfold ndS at this
          rw [if_neg (by simp only; omega), if_neg (by simp only; omega), if_neg (by simp only; omega)] at this
          exact this
        clear hrest
        subst mf
        subst mx
        subst e1 e3 e5
        rcases e6 with ⟨e6a, e6b⟩ | ⟨e6a, e6b⟩
        · subst e6a
          have B2 : Hid (Below wr.heap.size wr ((wr.alloc (.cells #[.int .i64 5, .int .i64 dt, .slice dpa dpn dpc, .int .i64 2, .int .i64 r, .int .i64 0, .int .i64 x, .bool my, .slice mpa 0 mpc] 37)).alloc (.cells #[.int .i64 2, .int .i64 r, .int .i64 0, .int .i64 x, .bool my, .slice mpa 0 mpc] 27))) := B1.out.alloc (by simp) _
          obtain ⟨cr2, cx2⟩ := KBX.out _ (RW.out.2.2.2.2.trans (B2.out.mono HZW.out))
          cases hsx : decide (S = x) with
          | true =>
            have b1 : (S == x) = true := by simpa using hsx
            rw [hsx] at e6b
            subst e6b
            clear hsx
            go_wp2_with (go_at_call 20; refine (KIN.out _ B1.out).mono ?_; rintro e9 w9 ⟨rfl, rfl⟩)
            go_roundg (N - (j + 1))
            case measure => omega
            case rel => exact ⟨j + 1, S, Dn, by omega, rfl, rfl, rfl, (by have h := NX.out _ B2.out; exact ⟨h.1, h.2.1, HRE.out, h.2.2.1, h.2.2.2⟩)⟩
          | false =>
            have b1 : (S == x) = false := by simpa using hsx
            rw [hsx] at e6b
            subst e6b
            clear hsx
            go_wp2_with (go_at_call 20; refine (KIN.out _ B1.out).mono ?_; rintro e9 w9 ⟨rfl, rfl⟩)
            go_roundg (N - (j + 1))
            case measure => omega
            case rel => exact ⟨j + 1, S, Dn, by omega, rfl, rfl, rfl, (by have h := NX.out _ B2.out; exact ⟨h.1, h.2.1, HRE.out, h.2.2.1, h.2.2.2⟩)⟩
        · subst e6a
          have B2 : Hid (Below wr.heap.size wr ((wr.alloc (.cells #[.int .i64 5, .int .i64 dt, .slice dpa dpn dpc, .int .i64 5, .int .i64 r, .int .i64 0, .int .i64 x, .bool my, .slice mpa 0 mpc] 37)).alloc (.cells #[.int .i64 5, .int .i64 r, .int .i64 0, .int .i64 x, .bool my, .slice mpa 0 mpc] 27))) := B1.out.alloc (by simp) _
          obtain ⟨cr2, cx2⟩ := KBX.out _ (RW.out.2.2.2.2.trans (B2.out.mono HZW.out))
          have KI2 : Hid (∀ W, Below wr.heap.size wr W → Calls Try.prog 20 #[.slice a7 n7 c7, .int .i64 x] W fun e w' => e = .returned (.bool true) ∧ w' = W) := fun W hW => by
            have := rin_is W a7 n7 c7 Dn H7.out.1 (H7.out.2.1.keep hW) (by have := H7.out.2.2.2; omega) x
            rw [decide_eq_true e6b] at this
            exact this
          clear e6b
          go_upto_region 7 with (go_at_call 20; refine (KIN.out _ B1.out).mono ?_; rintro e9 w9 ⟨rfl, rfl⟩)
          go_wp2_with (go_at_call 20; refine (KI2.out _ B2.out).mono ?_; rintro e9 w9 ⟨rfl, rfl⟩)
          go_roundg (N - (j + 1))
          case measure => omega
          case rel => exact ⟨j + 1, S, Dn, by omega, rfl, rfl, rfl, (by have h := NX.out _ B2.out; exact ⟨h.1, h.2.1, HRE.out, h.2.2.1, h.2.2.2⟩)⟩
    · have j1 : decide ((j : Int) < (N : Int)) = false := by rw [decide_eq_false_iff_not]; omega
      have HF : Hid (Below w.heap.size w wr) := X2.out.2.2.2.2.trans (RW.out.2.2.2.2.mono (by have := X2.out.2.2.2.2.size; have := HZ.out; omega))
      go_wp2_with (go_at_call 17; refine (KW.out _).mono ?_; rintro e9 w9 ⟨rfl, b9⟩; have B9 : Hid (Below w.heap.size w w9) := HF.out.trans (b9.mono HF.out.size); clear b9)
      go_ret
      exact ⟨rfl, B9.out⟩
end Go.Proofs.Ytkmbabmcjijcgaa
