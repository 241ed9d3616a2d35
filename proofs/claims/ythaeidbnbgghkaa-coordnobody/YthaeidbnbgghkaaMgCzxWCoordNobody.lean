/- CoordNobody's walk (gen_cnobody.py). -/
import Derived.Test.YthaeidbnbgghkaaMgCz21
import Derived.Test.YthaeidbnbgghkaaMgCz20
namespace Go.Proofs.Ythaeidbnbgghkaa
open Go.ChangeShapes Go.WideShapes Go.ChangeAt Go.RowKit Go.Deep Go.Maps
set_option linter.unusedVariables false
set_option linter.unusedSimpArgs false
theorem heap_two' (w : World) (o1 o2 : Obj) : ((w.alloc o1).alloc o2).heap[w.heap.size + 1]? = some o2 := by
  have e3 := heap_alloc_new (w.alloc o1) o2
  rwa [show (w.alloc o1).heap.size = w.heap.size + 1 by simp] at e3
theorem heap_three (w : World) (o1 o2 o3 : Obj) : (((w.alloc o1).alloc o2).alloc o3).heap[w.heap.size]? = some o1 ∧ (((w.alloc o1).alloc o2).alloc o3).heap[w.heap.size + 1]? = some o2 ∧ (((w.alloc o1).alloc o2).alloc o3).heap[w.heap.size + 1 + 1]? = some o3 ∧ (((w.alloc o1).alloc o2).alloc o3).heap.size = w.heap.size + 1 + 1 + 1 := by
  have s1 : (w.alloc o1).heap.size = w.heap.size + 1 := by simp
  have s2 : ((w.alloc o1).alloc o2).heap.size = w.heap.size + 1 + 1 := by simp
  have s3 : (((w.alloc o1).alloc o2).alloc o3).heap.size = w.heap.size + 1 + 1 + 1 := by simp
  have e3 := heap_alloc_new ((w.alloc o1).alloc o2) o3
  rw [s2] at e3
  refine ⟨?_, ?_, e3, s3⟩
  · exact (Below.heap_alloc _ _ _ (by omega)).trans ((Below.heap_alloc _ _ _ (by omega)).trans (heap_alloc_new w o1))
  · exact (Below.heap_alloc _ _ _ (by omega)).trans (heap_two' w o1 o2)
set_option maxRecDepth 100000 in
set_option maxHeartbeats 8000000 in
theorem coordNobody_walk0 (x0 x1 : Int) (pa : Option Addr) (pn pc : Nat) (P : List Rl) (m0 m1 m2 m3 : Int) (m4 : Bool) (a : Option Addr) (n c : Nat) (w : World) (hP : InRl w pa P) (hn : P.length = pn) (hN : pn ≤ 17592186044415) :
    Calls Try.prog 3 #[.agg #[.int .i64 x0, .int .i64 x1, .slice pa pn pc, .int .i64 m0, .int .i64 m1, .int .i64 m2, .int .i64 m3, .bool m4, .slice a n c]] w fun e w' => e = .returned (.bool true) ∧ Below w.heap.size w w' := by
  obtain ⟨W0, hW0⟩ : ∃ W0, W0 = ((w.alloc (.cells #[.int .i64 x0, .int .i64 x1, .slice pa pn pc, .int .i64 m0, .int .i64 m1, .int .i64 m2, .int .i64 m3, .bool m4, .slice a n c] 27)).alloc (.cells #[.int .i64 0, .map none] 31)).alloc (.cells #[.pointer none, .pointer (some ⟨w.heap.size + 1, 0, none⟩), .pointer none, .pointer none] 28) := ⟨_, rfl⟩
  obtain ⟨q1, q2, q3, q4⟩ := heap_three w (.cells #[.int .i64 x0, .int .i64 x1, .slice pa pn pc, .int .i64 m0, .int .i64 m1, .int .i64 m2, .int .i64 m3, .bool m4, .slice a n c] 27) (.cells #[.int .i64 0, .map none] 31) (.cells #[.pointer none, .pointer (some ⟨w.heap.size + 1, 0, none⟩), .pointer none, .pointer none] 28)
  rw [← hW0] at q1 q2 q3 q4
  have HW0 : Hid (Below w.heap.size w W0) := by
    show Below _ _ _
    rw [hW0]
    exact (((Below.refl _ _).alloc (Nat.le_refl _) _).alloc (by simp) _).alloc (by simp; omega) _
  have HE : Hid (W0 = ((w.alloc (.cells #[.int .i64 x0, .int .i64 x1, .slice pa pn pc, .int .i64 m0, .int .i64 m1, .int .i64 m2, .int .i64 m3, .bool m4, .slice a n c] 27)).alloc (.cells #[.int .i64 0, .map none] 31)).alloc (.cells #[.pointer none, .pointer (some ⟨w.heap.size + 1, 0, none⟩), .pointer none, .pointer none] 28)) := hW0
  obtain ⟨z, hz⟩ : ∃ z, z = W0.heap.size := ⟨_, rfl⟩
  have HZ : Hid (z = W0.heap.size ∧ w.heap.size ≤ z) := ⟨hz, by omega⟩
  have KC : Hid (∀ W, Below z W0 W → W.cell? ⟨w.heap.size, 1, none⟩ = some (.int .i64 x1) ∧ W.cell? ⟨w.heap.size, 2, none⟩ = some (.slice pa pn pc) ∧ W.cell? ⟨w.heap.size, 3, none⟩ = some (.int .i64 m0) ∧ W.cell? ⟨w.heap.size, 4, none⟩ = some (.int .i64 m1) ∧ W.cell? ⟨w.heap.size, 5, none⟩ = some (.int .i64 m2) ∧ W.cell? ⟨w.heap.size, 6, none⟩ = some (.int .i64 m3) ∧ W.cell? ⟨w.heap.size, 7, none⟩ = some (.bool m4) ∧ W.cell? ⟨w.heap.size, 8, none⟩ = some (.slice a n c) ∧ W.cell? ⟨w.heap.size + 1 + 1, 0, none⟩ = some (.pointer none) ∧ W.cell? ⟨w.heap.size + 1 + 1, 1, none⟩ = some (.pointer (some ⟨w.heap.size + 1, 0, none⟩)) ∧ W.cell? ⟨w.heap.size + 1 + 1, 2, none⟩ = some (.pointer none) ∧ W.cell? ⟨w.heap.size + 1 + 1, 3, none⟩ = some (.pointer none)) := by
    intro W hW
    have p1 := (hW.block _ (by omega)).trans q1
    have p3 := (hW.block _ (by omega)).trans q3
    refine ⟨?_, ?_, ?_, ?_, ?_, ?_, ?_, ?_, ?_, ?_, ?_, ?_⟩
    · rw [cell_of_row _ w.heap.size 1 _ _ (0, 0) p1]; rfl
    · rw [cell_of_row _ w.heap.size 2 _ _ (0, 0) p1]; rfl
    · rw [cell_of_row _ w.heap.size 3 _ _ (0, 0) p1]; rfl
    · rw [cell_of_row _ w.heap.size 4 _ _ (0, 0) p1]; rfl
    · rw [cell_of_row _ w.heap.size 5 _ _ (0, 0) p1]; rfl
    · rw [cell_of_row _ w.heap.size 6 _ _ (0, 0) p1]; rfl
    · rw [cell_of_row _ w.heap.size 7 _ _ (0, 0) p1]; rfl
    · rw [cell_of_row _ w.heap.size 8 _ _ (0, 0) p1]; rfl
    · rw [cell_of_row _ (w.heap.size + 1 + 1) 0 _ _ (0, 0) p3]; rfl
    · rw [cell_of_row _ (w.heap.size + 1 + 1) 1 _ _ (0, 0) p3]; rfl
    · rw [cell_of_row _ (w.heap.size + 1 + 1) 2 _ _ (0, 0) p3]; rfl
    · rw [cell_of_row _ (w.heap.size + 1 + 1) 3 _ _ (0, 0) p3]; rfl
  have KP : Hid (∀ W, Below z W0 W → NoCo W (.pointer none) ∧ NoCo W (.pointer (some ⟨w.heap.size + 1, 0, none⟩))) := fun W hW => ⟨.inl rfl, .inr ⟨_, 0, rfl, (hW.block _ (by omega)).trans q2⟩⟩
  have HP : Hid (∀ W, Below z W0 W → InRl W pa P) := fun W hW => hP.keep (HW0.out.trans (hW.mono (by omega)))
  have HN : Hid (P.length = pn ∧ pn ≤ 17592186044415) := ⟨hn, hN⟩
  have KW : Hid (∀ u, Calls Try.prog 20 #[] u fun e w' => e = .returned (.bool true) ∧ Below u.heap.size u w') := works15_is
  clear hW0 q1 q2 q3 q4 hz hP hn hN
  go_enter Try.func3, Try.ntmps3
  go_wp2_with fail
  refine (new_bad _ 0 (by omega)).mono ?_
  rintro e w1 ⟨rfl, h1⟩
  obtain rfl := h1.symm
  clear h1
  go_wp2_with fail
  refine (new_bad _ 1001 (by omega)).mono ?_
  rintro e w1 ⟨rfl, h1⟩
  obtain rfl := h1.symm
  clear h1
  go_wp2_with fail
  go_loopg [21] 4 (fun g i wr => ∃ j : Nat, j ≤ 4 ∧ g = 4 - j ∧ i = .int .i64 (j : Int) ∧ Hid (Below z W0 wr))
  case atStart =>
    refine ⟨0, Nat.zero_le _, rfl, rfl, ?_⟩
    show Below _ _ _
    rw [HZ.out.1, ← HE.out]
    exact Below.refl _ _
  case round =>
    obtain ⟨j, hj, rfl, rfl, R0⟩ := hrel
    clear HE
    rcases (by omega : j = 0 ∨ j = 1 ∨ j = 2 ∨ j = 3 ∨ j = 4) with rfl | rfl | rfl | rfl | rfl
    · obtain ⟨k1, k2, k3, k4, k5, k6, k7, k8, p0, p1, p2, p3⟩ := KC.out _ R0.out
      go_wp2_with fail
      refine (begin_no _ (.pointer none) (KP.out _ R0.out).1 x1 pa pn pc P (HP.out _ R0.out) HN.out.1 HN.out.2).mono ?_
      rintro e w1 ⟨rfl, hb⟩
      have R1 : Hid (Below z W0 w1) := R0.out.trans (hb.mono (by have := R0.out.size; have := HZ.out.1; omega))
      clear hb k1 k2 k3 k4 k5 k6 k7 k8 p0 p1 p2 p3
      obtain ⟨k1, k2, k3, k4, k5, k6, k7, k8, p0, p1, p2, p3⟩ := KC.out _ R1.out
      go_wp2_with fail
      refine wp_region_noPanic ?_
      refine wp_region_held_drew (S := (fun W : World => Below z W0 W)) (by kernel_rfl) ?hSar0 (fun hHeld => ?restar0)
      case hSar0 => exact below_drewM R1.out
      case restar0 =>
        refine wpAnyH_take (i := 0) (v := .pointer none) rfl (by kernel_rfl) (by kernel_rfl) (by kernel_rfl) (fun _ _ _ h => h) (Or.inl ⟨by kernel_rfl, ?hy0r0⟩) hHeld ?rest0r0
        case hy0r0 => (intro w' hSw; (try dsimp only at hSw); go_simp; try with_reducible rfl)
        try simp only [Act.put, List.setIfInBounds_toArray, List.set_cons_zero, List.set_cons_succ, List.getElem_toArray, List.getElem_cons_zero, List.getElem_cons_succ]
        refine wpAnyH_take (i := 1) (v := .pointer (some ⟨w.heap.size, 1, none⟩)) rfl (by kernel_rfl) (by kernel_rfl) (by kernel_rfl) (fun _ _ _ h => h) (Or.inl ⟨by kernel_rfl, ?hy1r0⟩) hHeld ?rest1r0
        case hy1r0 => (intro w' hSw; (try dsimp only at hSw); go_simp; try with_reducible rfl)
        try simp only [Act.put, List.setIfInBounds_toArray, List.set_cons_zero, List.set_cons_succ, List.getElem_toArray, List.getElem_cons_zero, List.getElem_cons_succ]
        refine wpAnyH_take (i := 2) (v := .int .i64 x1) rfl (by kernel_rfl) (by kernel_rfl) (by kernel_rfl) (fun _ _ _ h => h) (Or.inl ⟨by kernel_rfl, ?hy2r0⟩) hHeld ?rest2r0
        case hy2r0 => (intro w' hSw; (try dsimp only at hSw); obtain ⟨k1, k2, k3, k4, k5, k6, k7, k8, p0, p1, p2, p3⟩ := KC.out _ hSw; go_simp; try with_reducible rfl)
        try simp only [Act.put, List.setIfInBounds_toArray, List.set_cons_zero, List.set_cons_succ, List.getElem_toArray, List.getElem_cons_zero, List.getElem_cons_succ]
        refine wpAnyH_take (i := 3) (v := .pointer (some ⟨w.heap.size, 2, none⟩)) rfl (by kernel_rfl) (by kernel_rfl) (by kernel_rfl) (fun _ _ _ h => h) (Or.inl ⟨by kernel_rfl, ?hy3r0⟩) hHeld ?rest3r0
        case hy3r0 => (intro w' hSw; (try dsimp only at hSw); go_simp; try with_reducible rfl)
        try simp only [Act.put, List.setIfInBounds_toArray, List.set_cons_zero, List.set_cons_succ, List.getElem_toArray, List.getElem_cons_zero, List.getElem_cons_succ]
        refine wpAnyH_take (i := 4) (v := .slice pa pn pc) rfl (by kernel_rfl) (by kernel_rfl) (by kernel_rfl) (fun _ _ _ h => h) (Or.inl ⟨by kernel_rfl, ?hy4r0⟩) hHeld ?rest4r0
        case hy4r0 => (intro w' hSw; (try dsimp only at hSw); obtain ⟨k1, k2, k3, k4, k5, k6, k7, k8, p0, p1, p2, p3⟩ := KC.out _ hSw; go_simp; try with_reducible rfl)
        try simp only [Act.put, List.setIfInBounds_toArray, List.set_cons_zero, List.set_cons_succ, List.getElem_toArray, List.getElem_cons_zero, List.getElem_cons_succ]
        refine wpAnyH_ready (rs := [5]) (by kernel_rfl) (by simp) ?_
        refine AllReadyH.cons rfl (fun K hK => ?_) AllReadyH.nil
        go_simp
        refine (lroots_is _ pa pn pc P (HP.out _ (below_drewM R1.out)) HN.out.1 HN.out.2).mono ?_
        rintro e5 w5 ⟨V5, rfl, -, b5⟩
        have B5 : Hid (Below z W0 w5) := (below_drewM R1.out).trans (b5.mono (by have := R1.out.size; have := HZ.out.1; show _ ≤ w1.heap.size; omega))
        clear b5
        refine hK.out _ _ ?hS5r0 (fun hHeld => ?rest5r0)
        case hS5r0 => exact B5.out
        clear hK K
        try simp only [Act.put, List.setIfInBounds_toArray, List.set_cons_zero, List.set_cons_succ, List.getElem_toArray, List.getElem_cons_zero, List.getElem_cons_succ]
        refine wpAnyH_ready (rs := [6]) (by kernel_rfl) (by simp) ?_
        refine AllReadyH.cons rfl (fun K hK => ?_) AllReadyH.nil
        go_simp
        refine (recall_no _ (.pointer none) (KP.out _ B5.out).1 x1 V5).mono ?_
        rintro e6 w6 ⟨rfl, b6⟩
        have B6 : Hid (Below z W0 w6) := B5.out.trans (b6.mono (by have := B5.out.size; have := HZ.out.1; omega))
        clear b6
        refine hK.out _ _ ?hS6r0 (fun hHeld => ?rest6r0)
        case hS6r0 => exact B6.out
        clear hK K
        try simp only [Act.put, List.setIfInBounds_toArray, List.set_cons_zero, List.set_cons_succ, List.getElem_toArray, List.getElem_cons_zero, List.getElem_cons_succ]
        refine wpAnyH_take (i := 7) (v := .tuple #[.slice none 0 0, .int .i64 1]) rfl (by kernel_rfl) (by kernel_rfl) (by kernel_rfl) (fun _ _ _ h => h) (Or.inl ⟨by kernel_rfl, ?hy7r0⟩) hHeld ?rest7r0
        case hy7r0 => (intro w' hSw; (try dsimp only at hSw); go_simp; try with_reducible rfl)
        try simp only [Act.put, List.setIfInBounds_toArray, List.set_cons_zero, List.set_cons_succ, List.getElem_toArray, List.getElem_cons_zero, List.getElem_cons_succ]
        refine wpAnyH_take (i := 8) (v := .slice none 0 0) rfl (by kernel_rfl) (by kernel_rfl) (by kernel_rfl) (fun _ _ _ h => h) (Or.inl ⟨by kernel_rfl, ?hy8r0⟩) hHeld ?rest8r0
        case hy8r0 => (intro w' hSw; (try dsimp only at hSw); go_simp; try with_reducible rfl)
        try simp only [Act.put, List.setIfInBounds_toArray, List.set_cons_zero, List.set_cons_succ, List.getElem_toArray, List.getElem_cons_zero, List.getElem_cons_succ]
        refine wpAnyH_take (i := 9) (v := .int .i64 1) rfl (by kernel_rfl) (by kernel_rfl) (by kernel_rfl) (fun _ _ _ h => h) (Or.inl ⟨by kernel_rfl, ?hy9r0⟩) hHeld ?rest9r0
        case hy9r0 => (intro w' hSw; (try dsimp only at hSw); go_simp; try with_reducible rfl)
        try simp only [Act.put, List.setIfInBounds_toArray, List.set_cons_zero, List.set_cons_succ, List.getElem_toArray, List.getElem_cons_zero, List.getElem_cons_succ]
        refine wpAnyH_take (i := 10) (v := .slice none 0 0) rfl (by kernel_rfl) (by kernel_rfl) (by kernel_rfl) (fun _ _ _ h => h) (Or.inl ⟨by kernel_rfl, ?hy10r0⟩) hHeld ?rest10r0
        case hy10r0 => (intro w' hSw; (try dsimp only at hSw); go_simp; try with_reducible rfl)
        try simp only [Act.put, List.setIfInBounds_toArray, List.set_cons_zero, List.set_cons_succ, List.getElem_toArray, List.getElem_cons_zero, List.getElem_cons_succ]
        refine wpAnyH_take (i := 11) (v := .int .i64 1) rfl (by kernel_rfl) (by kernel_rfl) (by kernel_rfl) (fun _ _ _ h => h) (Or.inl ⟨by kernel_rfl, ?hy11r0⟩) hHeld ?rest11r0
        case hy11r0 => (intro w' hSw; (try dsimp only at hSw); go_simp; try with_reducible rfl)
        try simp only [Act.put, List.setIfInBounds_toArray, List.set_cons_zero, List.set_cons_succ, List.getElem_toArray, List.getElem_cons_zero, List.getElem_cons_succ]
        refine wpAnyH_done (by kernel_rfl) ?_ _
        refine NoPanic.normal ?_
        have R2 : Hid (Below z W0 w6) := B6.out
        clear k1 k2 k3 k4 k5 k6 k7 k8 p0 p1 p2 p3 R0
        obtain ⟨k1, k2, k3, k4, k5, k6, k7, k8, p0, p1, p2, p3⟩ := KC.out _ R2.out
        go_wp2_with fail

        refine (sure_no _ (.pointer none) (KP.out _ R2.out).1 x1).mono ?_
        rintro e w3 ⟨rfl, hb⟩
        have R3 : Hid (Below z W0 w3) := R2.out.trans (hb.mono (by have := R2.out.size; have := HZ.out.1; omega))
        clear hb k1 k2 k3 k4 k5 k6 k7 k8 p0 p1 p2 p3
        obtain ⟨k1, k2, k3, k4, k5, k6, k7, k8, p0, p1, p2, p3⟩ := KC.out _ R3.out
        go_wp2_with fail
        refine (quit_no _ (.pointer none) (KP.out _ R3.out).1 x1).mono ?_
        rintro e w4 ⟨rfl, hb⟩
        have R4 : Hid (Below z W0 w4) := R3.out.trans (hb.mono (by have := R3.out.size; have := HZ.out.1; omega))
        clear hb k1 k2 k3 k4 k5 k6 k7 k8 p0 p1 p2 p3
        obtain ⟨k1, k2, k3, k4, k5, k6, k7, k8, p0, p1, p2, p3⟩ := KC.out _ R4.out
        go_wp2_with fail
        refine (tick_no _ (.pointer none) (KP.out _ R4.out).1).mono ?_
        rintro e w5 ⟨rfl, hb⟩
        have R5 : Hid (Below z W0 w5) := R4.out.trans (hb.mono (by have := R4.out.size; have := HZ.out.1; omega))
        clear hb k1 k2 k3 k4 k5 k6 k7 k8 p0 p1 p2 p3
        obtain ⟨k1, k2, k3, k4, k5, k6, k7, k8, p0, p1, p2, p3⟩ := KC.out _ R5.out
        go_wp2_with fail
        refine (take_no _ (.pointer none) (KP.out _ R5.out).1 m0 m1 m2 m3 m4 a n c).mono ?_
        rintro e w6 ⟨rfl, hb⟩
        have R6 : Hid (Below z W0 w6) := R5.out.trans (hb.mono (by have := R5.out.size; have := HZ.out.1; omega))
        clear hb k1 k2 k3 k4 k5 k6 k7 k8 p0 p1 p2 p3
        obtain ⟨k1, k2, k3, k4, k5, k6, k7, k8, p0, p1, p2, p3⟩ := KC.out _ R6.out
        go_wp2_with fail
        refine (rsame15_nil _ 0 0 0).mono ?_
        rintro e w7 ⟨rfl, hb⟩
        have R7 : Hid (Below z W0 w7) := R6.out.trans (hb.mono (by have := R6.out.size; have := HZ.out.1; omega))
        clear hb k1 k2 k3 k4 k5 k6 k7 k8 p0 p1 p2 p3
        obtain ⟨k1, k2, k3, k4, k5, k6, k7, k8, p0, p1, p2, p3⟩ := KC.out _ R7.out
        go_wp2_with fail
        refine (open_no _ (.pointer none) (KP.out _ R7.out).1 0).mono ?_
        rintro e w8 ⟨rfl, hb⟩
        have R8 : Hid (Below z W0 w8) := R7.out.trans (hb.mono (by have := R7.out.size; have := HZ.out.1; omega))
        clear hb k1 k2 k3 k4 k5 k6 k7 k8 p0 p1 p2 p3
        obtain ⟨k1, k2, k3, k4, k5, k6, k7, k8, p0, p1, p2, p3⟩ := KC.out _ R8.out
        go_wp2_with fail
        refine (state_no _ (.pointer none) (KP.out _ R8.out).1 x1).mono ?_
        rintro e w9 ⟨rfl, hb⟩
        have R9 : Hid (Below z W0 w9) := R8.out.trans (hb.mono (by have := R8.out.size; have := HZ.out.1; omega))
        clear hb k1 k2 k3 k4 k5 k6 k7 k8 p0 p1 p2 p3
        obtain ⟨k1, k2, k3, k4, k5, k6, k7, k8, p0, p1, p2, p3⟩ := KC.out _ R9.out
        go_wp2_with fail
        refine (lacks_no _ (.pointer none) (KP.out _ R9.out).1 x1).mono ?_
        rintro e w10 ⟨rfl, hb⟩
        have R10 : Hid (Below z W0 w10) := R9.out.trans (hb.mono (by have := R9.out.size; have := HZ.out.1; omega))
        clear hb k1 k2 k3 k4 k5 k6 k7 k8 p0 p1 p2 p3
        obtain ⟨k1, k2, k3, k4, k5, k6, k7, k8, p0, p1, p2, p3⟩ := KC.out _ R10.out
        go_wp2_with fail
        go_roundg 3
        case measure => omega
        case rel => exact ⟨1, by omega, rfl, by go_num, R10⟩
    · obtain ⟨k1, k2, k3, k4, k5, k6, k7, k8, p0, p1, p2, p3⟩ := KC.out _ R0.out
      go_wp2_with fail
      refine (begin_no _ (.pointer (some ⟨w.heap.size + 1, 0, none⟩)) (KP.out _ R0.out).2 x1 pa pn pc P (HP.out _ R0.out) HN.out.1 HN.out.2).mono ?_
      rintro e w1 ⟨rfl, hb⟩
      have R1 : Hid (Below z W0 w1) := R0.out.trans (hb.mono (by have := R0.out.size; have := HZ.out.1; omega))
      clear hb k1 k2 k3 k4 k5 k6 k7 k8 p0 p1 p2 p3
      obtain ⟨k1, k2, k3, k4, k5, k6, k7, k8, p0, p1, p2, p3⟩ := KC.out _ R1.out
      go_wp2_with fail
      refine wp_region_noPanic ?_
      refine wp_region_held_drew (S := (fun W : World => Below z W0 W)) (by kernel_rfl) ?hSar1 (fun hHeld => ?restar1)
      case hSar1 => exact below_drewM R1.out
      case restar1 =>
        refine wpAnyH_take (i := 0) (v := .pointer (some ⟨w.heap.size + 1, 0, none⟩)) rfl (by kernel_rfl) (by kernel_rfl) (by kernel_rfl) (fun _ _ _ h => h) (Or.inl ⟨by kernel_rfl, ?hy0r1⟩) hHeld ?rest0r1
        case hy0r1 => (intro w' hSw; (try dsimp only at hSw); go_simp; try with_reducible rfl)
        try simp only [Act.put, List.setIfInBounds_toArray, List.set_cons_zero, List.set_cons_succ, List.getElem_toArray, List.getElem_cons_zero, List.getElem_cons_succ]
        refine wpAnyH_take (i := 1) (v := .pointer (some ⟨w.heap.size, 1, none⟩)) rfl (by kernel_rfl) (by kernel_rfl) (by kernel_rfl) (fun _ _ _ h => h) (Or.inl ⟨by kernel_rfl, ?hy1r1⟩) hHeld ?rest1r1
        case hy1r1 => (intro w' hSw; (try dsimp only at hSw); go_simp; try with_reducible rfl)
        try simp only [Act.put, List.setIfInBounds_toArray, List.set_cons_zero, List.set_cons_succ, List.getElem_toArray, List.getElem_cons_zero, List.getElem_cons_succ]
        refine wpAnyH_take (i := 2) (v := .int .i64 x1) rfl (by kernel_rfl) (by kernel_rfl) (by kernel_rfl) (fun _ _ _ h => h) (Or.inl ⟨by kernel_rfl, ?hy2r1⟩) hHeld ?rest2r1
        case hy2r1 => (intro w' hSw; (try dsimp only at hSw); obtain ⟨k1, k2, k3, k4, k5, k6, k7, k8, p0, p1, p2, p3⟩ := KC.out _ hSw; go_simp; try with_reducible rfl)
        try simp only [Act.put, List.setIfInBounds_toArray, List.set_cons_zero, List.set_cons_succ, List.getElem_toArray, List.getElem_cons_zero, List.getElem_cons_succ]
        refine wpAnyH_take (i := 3) (v := .pointer (some ⟨w.heap.size, 2, none⟩)) rfl (by kernel_rfl) (by kernel_rfl) (by kernel_rfl) (fun _ _ _ h => h) (Or.inl ⟨by kernel_rfl, ?hy3r1⟩) hHeld ?rest3r1
        case hy3r1 => (intro w' hSw; (try dsimp only at hSw); go_simp; try with_reducible rfl)
        try simp only [Act.put, List.setIfInBounds_toArray, List.set_cons_zero, List.set_cons_succ, List.getElem_toArray, List.getElem_cons_zero, List.getElem_cons_succ]
        refine wpAnyH_take (i := 4) (v := .slice pa pn pc) rfl (by kernel_rfl) (by kernel_rfl) (by kernel_rfl) (fun _ _ _ h => h) (Or.inl ⟨by kernel_rfl, ?hy4r1⟩) hHeld ?rest4r1
        case hy4r1 => (intro w' hSw; (try dsimp only at hSw); obtain ⟨k1, k2, k3, k4, k5, k6, k7, k8, p0, p1, p2, p3⟩ := KC.out _ hSw; go_simp; try with_reducible rfl)
        try simp only [Act.put, List.setIfInBounds_toArray, List.set_cons_zero, List.set_cons_succ, List.getElem_toArray, List.getElem_cons_zero, List.getElem_cons_succ]
        refine wpAnyH_ready (rs := [5]) (by kernel_rfl) (by simp) ?_
        refine AllReadyH.cons rfl (fun K hK => ?_) AllReadyH.nil
        go_simp
        refine (lroots_is _ pa pn pc P (HP.out _ (below_drewM R1.out)) HN.out.1 HN.out.2).mono ?_
        rintro e5 w5 ⟨V5, rfl, -, b5⟩
        have B5 : Hid (Below z W0 w5) := (below_drewM R1.out).trans (b5.mono (by have := R1.out.size; have := HZ.out.1; show _ ≤ w1.heap.size; omega))
        clear b5
        refine hK.out _ _ ?hS5r1 (fun hHeld => ?rest5r1)
        case hS5r1 => exact B5.out
        clear hK K
        try simp only [Act.put, List.setIfInBounds_toArray, List.set_cons_zero, List.set_cons_succ, List.getElem_toArray, List.getElem_cons_zero, List.getElem_cons_succ]
        refine wpAnyH_ready (rs := [6]) (by kernel_rfl) (by simp) ?_
        refine AllReadyH.cons rfl (fun K hK => ?_) AllReadyH.nil
        go_simp
        refine (recall_no _ (.pointer (some ⟨w.heap.size + 1, 0, none⟩)) (KP.out _ B5.out).2 x1 V5).mono ?_
        rintro e6 w6 ⟨rfl, b6⟩
        have B6 : Hid (Below z W0 w6) := B5.out.trans (b6.mono (by have := B5.out.size; have := HZ.out.1; omega))
        clear b6
        refine hK.out _ _ ?hS6r1 (fun hHeld => ?rest6r1)
        case hS6r1 => exact B6.out
        clear hK K
        try simp only [Act.put, List.setIfInBounds_toArray, List.set_cons_zero, List.set_cons_succ, List.getElem_toArray, List.getElem_cons_zero, List.getElem_cons_succ]
        refine wpAnyH_take (i := 7) (v := .tuple #[.slice none 0 0, .int .i64 1]) rfl (by kernel_rfl) (by kernel_rfl) (by kernel_rfl) (fun _ _ _ h => h) (Or.inl ⟨by kernel_rfl, ?hy7r1⟩) hHeld ?rest7r1
        case hy7r1 => (intro w' hSw; (try dsimp only at hSw); go_simp; try with_reducible rfl)
        try simp only [Act.put, List.setIfInBounds_toArray, List.set_cons_zero, List.set_cons_succ, List.getElem_toArray, List.getElem_cons_zero, List.getElem_cons_succ]
        refine wpAnyH_take (i := 8) (v := .slice none 0 0) rfl (by kernel_rfl) (by kernel_rfl) (by kernel_rfl) (fun _ _ _ h => h) (Or.inl ⟨by kernel_rfl, ?hy8r1⟩) hHeld ?rest8r1
        case hy8r1 => (intro w' hSw; (try dsimp only at hSw); go_simp; try with_reducible rfl)
        try simp only [Act.put, List.setIfInBounds_toArray, List.set_cons_zero, List.set_cons_succ, List.getElem_toArray, List.getElem_cons_zero, List.getElem_cons_succ]
        refine wpAnyH_take (i := 9) (v := .int .i64 1) rfl (by kernel_rfl) (by kernel_rfl) (by kernel_rfl) (fun _ _ _ h => h) (Or.inl ⟨by kernel_rfl, ?hy9r1⟩) hHeld ?rest9r1
        case hy9r1 => (intro w' hSw; (try dsimp only at hSw); go_simp; try with_reducible rfl)
        try simp only [Act.put, List.setIfInBounds_toArray, List.set_cons_zero, List.set_cons_succ, List.getElem_toArray, List.getElem_cons_zero, List.getElem_cons_succ]
        refine wpAnyH_take (i := 10) (v := .slice none 0 0) rfl (by kernel_rfl) (by kernel_rfl) (by kernel_rfl) (fun _ _ _ h => h) (Or.inl ⟨by kernel_rfl, ?hy10r1⟩) hHeld ?rest10r1
        case hy10r1 => (intro w' hSw; (try dsimp only at hSw); go_simp; try with_reducible rfl)
        try simp only [Act.put, List.setIfInBounds_toArray, List.set_cons_zero, List.set_cons_succ, List.getElem_toArray, List.getElem_cons_zero, List.getElem_cons_succ]
        refine wpAnyH_take (i := 11) (v := .int .i64 1) rfl (by kernel_rfl) (by kernel_rfl) (by kernel_rfl) (fun _ _ _ h => h) (Or.inl ⟨by kernel_rfl, ?hy11r1⟩) hHeld ?rest11r1
        case hy11r1 => (intro w' hSw; (try dsimp only at hSw); go_simp; try with_reducible rfl)
        try simp only [Act.put, List.setIfInBounds_toArray, List.set_cons_zero, List.set_cons_succ, List.getElem_toArray, List.getElem_cons_zero, List.getElem_cons_succ]
        refine wpAnyH_done (by kernel_rfl) ?_ _
        refine NoPanic.normal ?_
        have R2 : Hid (Below z W0 w6) := B6.out
        clear k1 k2 k3 k4 k5 k6 k7 k8 p0 p1 p2 p3 R0
        obtain ⟨k1, k2, k3, k4, k5, k6, k7, k8, p0, p1, p2, p3⟩ := KC.out _ R2.out
        go_wp2_with fail

        refine (sure_no _ (.pointer (some ⟨w.heap.size + 1, 0, none⟩)) (KP.out _ R2.out).2 x1).mono ?_
        rintro e w3 ⟨rfl, hb⟩
        have R3 : Hid (Below z W0 w3) := R2.out.trans (hb.mono (by have := R2.out.size; have := HZ.out.1; omega))
        clear hb k1 k2 k3 k4 k5 k6 k7 k8 p0 p1 p2 p3
        obtain ⟨k1, k2, k3, k4, k5, k6, k7, k8, p0, p1, p2, p3⟩ := KC.out _ R3.out
        go_wp2_with fail
        refine (quit_no _ (.pointer (some ⟨w.heap.size + 1, 0, none⟩)) (KP.out _ R3.out).2 x1).mono ?_
        rintro e w4 ⟨rfl, hb⟩
        have R4 : Hid (Below z W0 w4) := R3.out.trans (hb.mono (by have := R3.out.size; have := HZ.out.1; omega))
        clear hb k1 k2 k3 k4 k5 k6 k7 k8 p0 p1 p2 p3
        obtain ⟨k1, k2, k3, k4, k5, k6, k7, k8, p0, p1, p2, p3⟩ := KC.out _ R4.out
        go_wp2_with fail
        refine (tick_no _ (.pointer (some ⟨w.heap.size + 1, 0, none⟩)) (KP.out _ R4.out).2).mono ?_
        rintro e w5 ⟨rfl, hb⟩
        have R5 : Hid (Below z W0 w5) := R4.out.trans (hb.mono (by have := R4.out.size; have := HZ.out.1; omega))
        clear hb k1 k2 k3 k4 k5 k6 k7 k8 p0 p1 p2 p3
        obtain ⟨k1, k2, k3, k4, k5, k6, k7, k8, p0, p1, p2, p3⟩ := KC.out _ R5.out
        go_wp2_with fail
        refine (take_no _ (.pointer (some ⟨w.heap.size + 1, 0, none⟩)) (KP.out _ R5.out).2 m0 m1 m2 m3 m4 a n c).mono ?_
        rintro e w6 ⟨rfl, hb⟩
        have R6 : Hid (Below z W0 w6) := R5.out.trans (hb.mono (by have := R5.out.size; have := HZ.out.1; omega))
        clear hb k1 k2 k3 k4 k5 k6 k7 k8 p0 p1 p2 p3
        obtain ⟨k1, k2, k3, k4, k5, k6, k7, k8, p0, p1, p2, p3⟩ := KC.out _ R6.out
        go_wp2_with fail
        refine (rsame15_nil _ 0 0 0).mono ?_
        rintro e w7 ⟨rfl, hb⟩
        have R7 : Hid (Below z W0 w7) := R6.out.trans (hb.mono (by have := R6.out.size; have := HZ.out.1; omega))
        clear hb k1 k2 k3 k4 k5 k6 k7 k8 p0 p1 p2 p3
        obtain ⟨k1, k2, k3, k4, k5, k6, k7, k8, p0, p1, p2, p3⟩ := KC.out _ R7.out
        go_wp2_with fail
        refine (open_no _ (.pointer (some ⟨w.heap.size + 1, 0, none⟩)) (KP.out _ R7.out).2 0).mono ?_
        rintro e w8 ⟨rfl, hb⟩
        have R8 : Hid (Below z W0 w8) := R7.out.trans (hb.mono (by have := R7.out.size; have := HZ.out.1; omega))
        clear hb k1 k2 k3 k4 k5 k6 k7 k8 p0 p1 p2 p3
        obtain ⟨k1, k2, k3, k4, k5, k6, k7, k8, p0, p1, p2, p3⟩ := KC.out _ R8.out
        go_wp2_with fail
        refine (state_no _ (.pointer (some ⟨w.heap.size + 1, 0, none⟩)) (KP.out _ R8.out).2 x1).mono ?_
        rintro e w9 ⟨rfl, hb⟩
        have R9 : Hid (Below z W0 w9) := R8.out.trans (hb.mono (by have := R8.out.size; have := HZ.out.1; omega))
        clear hb k1 k2 k3 k4 k5 k6 k7 k8 p0 p1 p2 p3
        obtain ⟨k1, k2, k3, k4, k5, k6, k7, k8, p0, p1, p2, p3⟩ := KC.out _ R9.out
        go_wp2_with fail
        refine (lacks_no _ (.pointer (some ⟨w.heap.size + 1, 0, none⟩)) (KP.out _ R9.out).2 x1).mono ?_
        rintro e w10 ⟨rfl, hb⟩
        have R10 : Hid (Below z W0 w10) := R9.out.trans (hb.mono (by have := R9.out.size; have := HZ.out.1; omega))
        clear hb k1 k2 k3 k4 k5 k6 k7 k8 p0 p1 p2 p3
        obtain ⟨k1, k2, k3, k4, k5, k6, k7, k8, p0, p1, p2, p3⟩ := KC.out _ R10.out
        go_wp2_with fail
        go_roundg 2
        case measure => omega
        case rel => exact ⟨2, by omega, rfl, by go_num, R10⟩
    · obtain ⟨k1, k2, k3, k4, k5, k6, k7, k8, p0, p1, p2, p3⟩ := KC.out _ R0.out
      go_wp2_with fail
      refine (begin_no _ (.pointer none) (KP.out _ R0.out).1 x1 pa pn pc P (HP.out _ R0.out) HN.out.1 HN.out.2).mono ?_
      rintro e w1 ⟨rfl, hb⟩
      have R1 : Hid (Below z W0 w1) := R0.out.trans (hb.mono (by have := R0.out.size; have := HZ.out.1; omega))
      clear hb k1 k2 k3 k4 k5 k6 k7 k8 p0 p1 p2 p3
      obtain ⟨k1, k2, k3, k4, k5, k6, k7, k8, p0, p1, p2, p3⟩ := KC.out _ R1.out
      go_wp2_with fail
      refine wp_region_noPanic ?_
      refine wp_region_held_drew (S := (fun W : World => Below z W0 W)) (by kernel_rfl) ?hSar2 (fun hHeld => ?restar2)
      case hSar2 => exact below_drewM R1.out
      case restar2 =>
        refine wpAnyH_take (i := 0) (v := .pointer none) rfl (by kernel_rfl) (by kernel_rfl) (by kernel_rfl) (fun _ _ _ h => h) (Or.inl ⟨by kernel_rfl, ?hy0r2⟩) hHeld ?rest0r2
        case hy0r2 => (intro w' hSw; (try dsimp only at hSw); go_simp; try with_reducible rfl)
        try simp only [Act.put, List.setIfInBounds_toArray, List.set_cons_zero, List.set_cons_succ, List.getElem_toArray, List.getElem_cons_zero, List.getElem_cons_succ]
        refine wpAnyH_take (i := 1) (v := .pointer (some ⟨w.heap.size, 1, none⟩)) rfl (by kernel_rfl) (by kernel_rfl) (by kernel_rfl) (fun _ _ _ h => h) (Or.inl ⟨by kernel_rfl, ?hy1r2⟩) hHeld ?rest1r2
        case hy1r2 => (intro w' hSw; (try dsimp only at hSw); go_simp; try with_reducible rfl)
        try simp only [Act.put, List.setIfInBounds_toArray, List.set_cons_zero, List.set_cons_succ, List.getElem_toArray, List.getElem_cons_zero, List.getElem_cons_succ]
        refine wpAnyH_take (i := 2) (v := .int .i64 x1) rfl (by kernel_rfl) (by kernel_rfl) (by kernel_rfl) (fun _ _ _ h => h) (Or.inl ⟨by kernel_rfl, ?hy2r2⟩) hHeld ?rest2r2
        case hy2r2 => (intro w' hSw; (try dsimp only at hSw); obtain ⟨k1, k2, k3, k4, k5, k6, k7, k8, p0, p1, p2, p3⟩ := KC.out _ hSw; go_simp; try with_reducible rfl)
        try simp only [Act.put, List.setIfInBounds_toArray, List.set_cons_zero, List.set_cons_succ, List.getElem_toArray, List.getElem_cons_zero, List.getElem_cons_succ]
        refine wpAnyH_take (i := 3) (v := .pointer (some ⟨w.heap.size, 2, none⟩)) rfl (by kernel_rfl) (by kernel_rfl) (by kernel_rfl) (fun _ _ _ h => h) (Or.inl ⟨by kernel_rfl, ?hy3r2⟩) hHeld ?rest3r2
        case hy3r2 => (intro w' hSw; (try dsimp only at hSw); go_simp; try with_reducible rfl)
        try simp only [Act.put, List.setIfInBounds_toArray, List.set_cons_zero, List.set_cons_succ, List.getElem_toArray, List.getElem_cons_zero, List.getElem_cons_succ]
        refine wpAnyH_take (i := 4) (v := .slice pa pn pc) rfl (by kernel_rfl) (by kernel_rfl) (by kernel_rfl) (fun _ _ _ h => h) (Or.inl ⟨by kernel_rfl, ?hy4r2⟩) hHeld ?rest4r2
        case hy4r2 => (intro w' hSw; (try dsimp only at hSw); obtain ⟨k1, k2, k3, k4, k5, k6, k7, k8, p0, p1, p2, p3⟩ := KC.out _ hSw; go_simp; try with_reducible rfl)
        try simp only [Act.put, List.setIfInBounds_toArray, List.set_cons_zero, List.set_cons_succ, List.getElem_toArray, List.getElem_cons_zero, List.getElem_cons_succ]
        refine wpAnyH_ready (rs := [5]) (by kernel_rfl) (by simp) ?_
        refine AllReadyH.cons rfl (fun K hK => ?_) AllReadyH.nil
        go_simp
        refine (lroots_is _ pa pn pc P (HP.out _ (below_drewM R1.out)) HN.out.1 HN.out.2).mono ?_
        rintro e5 w5 ⟨V5, rfl, -, b5⟩
        have B5 : Hid (Below z W0 w5) := (below_drewM R1.out).trans (b5.mono (by have := R1.out.size; have := HZ.out.1; show _ ≤ w1.heap.size; omega))
        clear b5
        refine hK.out _ _ ?hS5r2 (fun hHeld => ?rest5r2)
        case hS5r2 => exact B5.out
        clear hK K
        try simp only [Act.put, List.setIfInBounds_toArray, List.set_cons_zero, List.set_cons_succ, List.getElem_toArray, List.getElem_cons_zero, List.getElem_cons_succ]
        refine wpAnyH_ready (rs := [6]) (by kernel_rfl) (by simp) ?_
        refine AllReadyH.cons rfl (fun K hK => ?_) AllReadyH.nil
        go_simp
        refine (recall_no _ (.pointer none) (KP.out _ B5.out).1 x1 V5).mono ?_
        rintro e6 w6 ⟨rfl, b6⟩
        have B6 : Hid (Below z W0 w6) := B5.out.trans (b6.mono (by have := B5.out.size; have := HZ.out.1; omega))
        clear b6
        refine hK.out _ _ ?hS6r2 (fun hHeld => ?rest6r2)
        case hS6r2 => exact B6.out
        clear hK K
        try simp only [Act.put, List.setIfInBounds_toArray, List.set_cons_zero, List.set_cons_succ, List.getElem_toArray, List.getElem_cons_zero, List.getElem_cons_succ]
        refine wpAnyH_take (i := 7) (v := .tuple #[.slice none 0 0, .int .i64 1]) rfl (by kernel_rfl) (by kernel_rfl) (by kernel_rfl) (fun _ _ _ h => h) (Or.inl ⟨by kernel_rfl, ?hy7r2⟩) hHeld ?rest7r2
        case hy7r2 => (intro w' hSw; (try dsimp only at hSw); go_simp; try with_reducible rfl)
        try simp only [Act.put, List.setIfInBounds_toArray, List.set_cons_zero, List.set_cons_succ, List.getElem_toArray, List.getElem_cons_zero, List.getElem_cons_succ]
        refine wpAnyH_take (i := 8) (v := .slice none 0 0) rfl (by kernel_rfl) (by kernel_rfl) (by kernel_rfl) (fun _ _ _ h => h) (Or.inl ⟨by kernel_rfl, ?hy8r2⟩) hHeld ?rest8r2
        case hy8r2 => (intro w' hSw; (try dsimp only at hSw); go_simp; try with_reducible rfl)
        try simp only [Act.put, List.setIfInBounds_toArray, List.set_cons_zero, List.set_cons_succ, List.getElem_toArray, List.getElem_cons_zero, List.getElem_cons_succ]
        refine wpAnyH_take (i := 9) (v := .int .i64 1) rfl (by kernel_rfl) (by kernel_rfl) (by kernel_rfl) (fun _ _ _ h => h) (Or.inl ⟨by kernel_rfl, ?hy9r2⟩) hHeld ?rest9r2
        case hy9r2 => (intro w' hSw; (try dsimp only at hSw); go_simp; try with_reducible rfl)
        try simp only [Act.put, List.setIfInBounds_toArray, List.set_cons_zero, List.set_cons_succ, List.getElem_toArray, List.getElem_cons_zero, List.getElem_cons_succ]
        refine wpAnyH_take (i := 10) (v := .slice none 0 0) rfl (by kernel_rfl) (by kernel_rfl) (by kernel_rfl) (fun _ _ _ h => h) (Or.inl ⟨by kernel_rfl, ?hy10r2⟩) hHeld ?rest10r2
        case hy10r2 => (intro w' hSw; (try dsimp only at hSw); go_simp; try with_reducible rfl)
        try simp only [Act.put, List.setIfInBounds_toArray, List.set_cons_zero, List.set_cons_succ, List.getElem_toArray, List.getElem_cons_zero, List.getElem_cons_succ]
        refine wpAnyH_take (i := 11) (v := .int .i64 1) rfl (by kernel_rfl) (by kernel_rfl) (by kernel_rfl) (fun _ _ _ h => h) (Or.inl ⟨by kernel_rfl, ?hy11r2⟩) hHeld ?rest11r2
        case hy11r2 => (intro w' hSw; (try dsimp only at hSw); go_simp; try with_reducible rfl)
        try simp only [Act.put, List.setIfInBounds_toArray, List.set_cons_zero, List.set_cons_succ, List.getElem_toArray, List.getElem_cons_zero, List.getElem_cons_succ]
        refine wpAnyH_done (by kernel_rfl) ?_ _
        refine NoPanic.normal ?_
        have R2 : Hid (Below z W0 w6) := B6.out
        clear k1 k2 k3 k4 k5 k6 k7 k8 p0 p1 p2 p3 R0
        obtain ⟨k1, k2, k3, k4, k5, k6, k7, k8, p0, p1, p2, p3⟩ := KC.out _ R2.out
        go_wp2_with fail

        refine (sure_no _ (.pointer none) (KP.out _ R2.out).1 x1).mono ?_
        rintro e w3 ⟨rfl, hb⟩
        have R3 : Hid (Below z W0 w3) := R2.out.trans (hb.mono (by have := R2.out.size; have := HZ.out.1; omega))
        clear hb k1 k2 k3 k4 k5 k6 k7 k8 p0 p1 p2 p3
        obtain ⟨k1, k2, k3, k4, k5, k6, k7, k8, p0, p1, p2, p3⟩ := KC.out _ R3.out
        go_wp2_with fail
        refine (quit_no _ (.pointer none) (KP.out _ R3.out).1 x1).mono ?_
        rintro e w4 ⟨rfl, hb⟩
        have R4 : Hid (Below z W0 w4) := R3.out.trans (hb.mono (by have := R3.out.size; have := HZ.out.1; omega))
        clear hb k1 k2 k3 k4 k5 k6 k7 k8 p0 p1 p2 p3
        obtain ⟨k1, k2, k3, k4, k5, k6, k7, k8, p0, p1, p2, p3⟩ := KC.out _ R4.out
        go_wp2_with fail
        refine (tick_no _ (.pointer none) (KP.out _ R4.out).1).mono ?_
        rintro e w5 ⟨rfl, hb⟩
        have R5 : Hid (Below z W0 w5) := R4.out.trans (hb.mono (by have := R4.out.size; have := HZ.out.1; omega))
        clear hb k1 k2 k3 k4 k5 k6 k7 k8 p0 p1 p2 p3
        obtain ⟨k1, k2, k3, k4, k5, k6, k7, k8, p0, p1, p2, p3⟩ := KC.out _ R5.out
        go_wp2_with fail
        refine (take_no _ (.pointer none) (KP.out _ R5.out).1 m0 m1 m2 m3 m4 a n c).mono ?_
        rintro e w6 ⟨rfl, hb⟩
        have R6 : Hid (Below z W0 w6) := R5.out.trans (hb.mono (by have := R5.out.size; have := HZ.out.1; omega))
        clear hb k1 k2 k3 k4 k5 k6 k7 k8 p0 p1 p2 p3
        obtain ⟨k1, k2, k3, k4, k5, k6, k7, k8, p0, p1, p2, p3⟩ := KC.out _ R6.out
        go_wp2_with fail
        refine (rsame15_nil _ 0 0 0).mono ?_
        rintro e w7 ⟨rfl, hb⟩
        have R7 : Hid (Below z W0 w7) := R6.out.trans (hb.mono (by have := R6.out.size; have := HZ.out.1; omega))
        clear hb k1 k2 k3 k4 k5 k6 k7 k8 p0 p1 p2 p3
        obtain ⟨k1, k2, k3, k4, k5, k6, k7, k8, p0, p1, p2, p3⟩ := KC.out _ R7.out
        go_wp2_with fail
        refine (open_no _ (.pointer none) (KP.out _ R7.out).1 0).mono ?_
        rintro e w8 ⟨rfl, hb⟩
        have R8 : Hid (Below z W0 w8) := R7.out.trans (hb.mono (by have := R7.out.size; have := HZ.out.1; omega))
        clear hb k1 k2 k3 k4 k5 k6 k7 k8 p0 p1 p2 p3
        obtain ⟨k1, k2, k3, k4, k5, k6, k7, k8, p0, p1, p2, p3⟩ := KC.out _ R8.out
        go_wp2_with fail
        refine (state_no _ (.pointer none) (KP.out _ R8.out).1 x1).mono ?_
        rintro e w9 ⟨rfl, hb⟩
        have R9 : Hid (Below z W0 w9) := R8.out.trans (hb.mono (by have := R8.out.size; have := HZ.out.1; omega))
        clear hb k1 k2 k3 k4 k5 k6 k7 k8 p0 p1 p2 p3
        obtain ⟨k1, k2, k3, k4, k5, k6, k7, k8, p0, p1, p2, p3⟩ := KC.out _ R9.out
        go_wp2_with fail
        refine (lacks_no _ (.pointer none) (KP.out _ R9.out).1 x1).mono ?_
        rintro e w10 ⟨rfl, hb⟩
        have R10 : Hid (Below z W0 w10) := R9.out.trans (hb.mono (by have := R9.out.size; have := HZ.out.1; omega))
        clear hb k1 k2 k3 k4 k5 k6 k7 k8 p0 p1 p2 p3
        obtain ⟨k1, k2, k3, k4, k5, k6, k7, k8, p0, p1, p2, p3⟩ := KC.out _ R10.out
        go_wp2_with fail
        go_roundg 1
        case measure => omega
        case rel => exact ⟨3, by omega, rfl, by go_num, R10⟩
    · obtain ⟨k1, k2, k3, k4, k5, k6, k7, k8, p0, p1, p2, p3⟩ := KC.out _ R0.out
      go_wp2_with fail
      refine (begin_no _ (.pointer none) (KP.out _ R0.out).1 x1 pa pn pc P (HP.out _ R0.out) HN.out.1 HN.out.2).mono ?_
      rintro e w1 ⟨rfl, hb⟩
      have R1 : Hid (Below z W0 w1) := R0.out.trans (hb.mono (by have := R0.out.size; have := HZ.out.1; omega))
      clear hb k1 k2 k3 k4 k5 k6 k7 k8 p0 p1 p2 p3
      obtain ⟨k1, k2, k3, k4, k5, k6, k7, k8, p0, p1, p2, p3⟩ := KC.out _ R1.out
      go_wp2_with fail
      refine wp_region_noPanic ?_
      refine wp_region_held_drew (S := (fun W : World => Below z W0 W)) (by kernel_rfl) ?hSar3 (fun hHeld => ?restar3)
      case hSar3 => exact below_drewM R1.out
      case restar3 =>
        refine wpAnyH_take (i := 0) (v := .pointer none) rfl (by kernel_rfl) (by kernel_rfl) (by kernel_rfl) (fun _ _ _ h => h) (Or.inl ⟨by kernel_rfl, ?hy0r3⟩) hHeld ?rest0r3
        case hy0r3 => (intro w' hSw; (try dsimp only at hSw); go_simp; try with_reducible rfl)
        try simp only [Act.put, List.setIfInBounds_toArray, List.set_cons_zero, List.set_cons_succ, List.getElem_toArray, List.getElem_cons_zero, List.getElem_cons_succ]
        refine wpAnyH_take (i := 1) (v := .pointer (some ⟨w.heap.size, 1, none⟩)) rfl (by kernel_rfl) (by kernel_rfl) (by kernel_rfl) (fun _ _ _ h => h) (Or.inl ⟨by kernel_rfl, ?hy1r3⟩) hHeld ?rest1r3
        case hy1r3 => (intro w' hSw; (try dsimp only at hSw); go_simp; try with_reducible rfl)
        try simp only [Act.put, List.setIfInBounds_toArray, List.set_cons_zero, List.set_cons_succ, List.getElem_toArray, List.getElem_cons_zero, List.getElem_cons_succ]
        refine wpAnyH_take (i := 2) (v := .int .i64 x1) rfl (by kernel_rfl) (by kernel_rfl) (by kernel_rfl) (fun _ _ _ h => h) (Or.inl ⟨by kernel_rfl, ?hy2r3⟩) hHeld ?rest2r3
        case hy2r3 => (intro w' hSw; (try dsimp only at hSw); obtain ⟨k1, k2, k3, k4, k5, k6, k7, k8, p0, p1, p2, p3⟩ := KC.out _ hSw; go_simp; try with_reducible rfl)
        try simp only [Act.put, List.setIfInBounds_toArray, List.set_cons_zero, List.set_cons_succ, List.getElem_toArray, List.getElem_cons_zero, List.getElem_cons_succ]
        refine wpAnyH_take (i := 3) (v := .pointer (some ⟨w.heap.size, 2, none⟩)) rfl (by kernel_rfl) (by kernel_rfl) (by kernel_rfl) (fun _ _ _ h => h) (Or.inl ⟨by kernel_rfl, ?hy3r3⟩) hHeld ?rest3r3
        case hy3r3 => (intro w' hSw; (try dsimp only at hSw); go_simp; try with_reducible rfl)
        try simp only [Act.put, List.setIfInBounds_toArray, List.set_cons_zero, List.set_cons_succ, List.getElem_toArray, List.getElem_cons_zero, List.getElem_cons_succ]
        refine wpAnyH_take (i := 4) (v := .slice pa pn pc) rfl (by kernel_rfl) (by kernel_rfl) (by kernel_rfl) (fun _ _ _ h => h) (Or.inl ⟨by kernel_rfl, ?hy4r3⟩) hHeld ?rest4r3
        case hy4r3 => (intro w' hSw; (try dsimp only at hSw); obtain ⟨k1, k2, k3, k4, k5, k6, k7, k8, p0, p1, p2, p3⟩ := KC.out _ hSw; go_simp; try with_reducible rfl)
        try simp only [Act.put, List.setIfInBounds_toArray, List.set_cons_zero, List.set_cons_succ, List.getElem_toArray, List.getElem_cons_zero, List.getElem_cons_succ]
        refine wpAnyH_ready (rs := [5]) (by kernel_rfl) (by simp) ?_
        refine AllReadyH.cons rfl (fun K hK => ?_) AllReadyH.nil
        go_simp
        refine (lroots_is _ pa pn pc P (HP.out _ (below_drewM R1.out)) HN.out.1 HN.out.2).mono ?_
        rintro e5 w5 ⟨V5, rfl, -, b5⟩
        have B5 : Hid (Below z W0 w5) := (below_drewM R1.out).trans (b5.mono (by have := R1.out.size; have := HZ.out.1; show _ ≤ w1.heap.size; omega))
        clear b5
        refine hK.out _ _ ?hS5r3 (fun hHeld => ?rest5r3)
        case hS5r3 => exact B5.out
        clear hK K
        try simp only [Act.put, List.setIfInBounds_toArray, List.set_cons_zero, List.set_cons_succ, List.getElem_toArray, List.getElem_cons_zero, List.getElem_cons_succ]
        refine wpAnyH_ready (rs := [6]) (by kernel_rfl) (by simp) ?_
        refine AllReadyH.cons rfl (fun K hK => ?_) AllReadyH.nil
        go_simp
        refine (recall_no _ (.pointer none) (KP.out _ B5.out).1 x1 V5).mono ?_
        rintro e6 w6 ⟨rfl, b6⟩
        have B6 : Hid (Below z W0 w6) := B5.out.trans (b6.mono (by have := B5.out.size; have := HZ.out.1; omega))
        clear b6
        refine hK.out _ _ ?hS6r3 (fun hHeld => ?rest6r3)
        case hS6r3 => exact B6.out
        clear hK K
        try simp only [Act.put, List.setIfInBounds_toArray, List.set_cons_zero, List.set_cons_succ, List.getElem_toArray, List.getElem_cons_zero, List.getElem_cons_succ]
        refine wpAnyH_take (i := 7) (v := .tuple #[.slice none 0 0, .int .i64 1]) rfl (by kernel_rfl) (by kernel_rfl) (by kernel_rfl) (fun _ _ _ h => h) (Or.inl ⟨by kernel_rfl, ?hy7r3⟩) hHeld ?rest7r3
        case hy7r3 => (intro w' hSw; (try dsimp only at hSw); go_simp; try with_reducible rfl)
        try simp only [Act.put, List.setIfInBounds_toArray, List.set_cons_zero, List.set_cons_succ, List.getElem_toArray, List.getElem_cons_zero, List.getElem_cons_succ]
        refine wpAnyH_take (i := 8) (v := .slice none 0 0) rfl (by kernel_rfl) (by kernel_rfl) (by kernel_rfl) (fun _ _ _ h => h) (Or.inl ⟨by kernel_rfl, ?hy8r3⟩) hHeld ?rest8r3
        case hy8r3 => (intro w' hSw; (try dsimp only at hSw); go_simp; try with_reducible rfl)
        try simp only [Act.put, List.setIfInBounds_toArray, List.set_cons_zero, List.set_cons_succ, List.getElem_toArray, List.getElem_cons_zero, List.getElem_cons_succ]
        refine wpAnyH_take (i := 9) (v := .int .i64 1) rfl (by kernel_rfl) (by kernel_rfl) (by kernel_rfl) (fun _ _ _ h => h) (Or.inl ⟨by kernel_rfl, ?hy9r3⟩) hHeld ?rest9r3
        case hy9r3 => (intro w' hSw; (try dsimp only at hSw); go_simp; try with_reducible rfl)
        try simp only [Act.put, List.setIfInBounds_toArray, List.set_cons_zero, List.set_cons_succ, List.getElem_toArray, List.getElem_cons_zero, List.getElem_cons_succ]
        refine wpAnyH_take (i := 10) (v := .slice none 0 0) rfl (by kernel_rfl) (by kernel_rfl) (by kernel_rfl) (fun _ _ _ h => h) (Or.inl ⟨by kernel_rfl, ?hy10r3⟩) hHeld ?rest10r3
        case hy10r3 => (intro w' hSw; (try dsimp only at hSw); go_simp; try with_reducible rfl)
        try simp only [Act.put, List.setIfInBounds_toArray, List.set_cons_zero, List.set_cons_succ, List.getElem_toArray, List.getElem_cons_zero, List.getElem_cons_succ]
        refine wpAnyH_take (i := 11) (v := .int .i64 1) rfl (by kernel_rfl) (by kernel_rfl) (by kernel_rfl) (fun _ _ _ h => h) (Or.inl ⟨by kernel_rfl, ?hy11r3⟩) hHeld ?rest11r3
        case hy11r3 => (intro w' hSw; (try dsimp only at hSw); go_simp; try with_reducible rfl)
        try simp only [Act.put, List.setIfInBounds_toArray, List.set_cons_zero, List.set_cons_succ, List.getElem_toArray, List.getElem_cons_zero, List.getElem_cons_succ]
        refine wpAnyH_done (by kernel_rfl) ?_ _
        refine NoPanic.normal ?_
        have R2 : Hid (Below z W0 w6) := B6.out
        clear k1 k2 k3 k4 k5 k6 k7 k8 p0 p1 p2 p3 R0
        obtain ⟨k1, k2, k3, k4, k5, k6, k7, k8, p0, p1, p2, p3⟩ := KC.out _ R2.out
        go_wp2_with fail

        refine (sure_no _ (.pointer none) (KP.out _ R2.out).1 x1).mono ?_
        rintro e w3 ⟨rfl, hb⟩
        have R3 : Hid (Below z W0 w3) := R2.out.trans (hb.mono (by have := R2.out.size; have := HZ.out.1; omega))
        clear hb k1 k2 k3 k4 k5 k6 k7 k8 p0 p1 p2 p3
        obtain ⟨k1, k2, k3, k4, k5, k6, k7, k8, p0, p1, p2, p3⟩ := KC.out _ R3.out
        go_wp2_with fail
        refine (quit_no _ (.pointer none) (KP.out _ R3.out).1 x1).mono ?_
        rintro e w4 ⟨rfl, hb⟩
        have R4 : Hid (Below z W0 w4) := R3.out.trans (hb.mono (by have := R3.out.size; have := HZ.out.1; omega))
        clear hb k1 k2 k3 k4 k5 k6 k7 k8 p0 p1 p2 p3
        obtain ⟨k1, k2, k3, k4, k5, k6, k7, k8, p0, p1, p2, p3⟩ := KC.out _ R4.out
        go_wp2_with fail
        refine (tick_no _ (.pointer none) (KP.out _ R4.out).1).mono ?_
        rintro e w5 ⟨rfl, hb⟩
        have R5 : Hid (Below z W0 w5) := R4.out.trans (hb.mono (by have := R4.out.size; have := HZ.out.1; omega))
        clear hb k1 k2 k3 k4 k5 k6 k7 k8 p0 p1 p2 p3
        obtain ⟨k1, k2, k3, k4, k5, k6, k7, k8, p0, p1, p2, p3⟩ := KC.out _ R5.out
        go_wp2_with fail
        refine (take_no _ (.pointer none) (KP.out _ R5.out).1 m0 m1 m2 m3 m4 a n c).mono ?_
        rintro e w6 ⟨rfl, hb⟩
        have R6 : Hid (Below z W0 w6) := R5.out.trans (hb.mono (by have := R5.out.size; have := HZ.out.1; omega))
        clear hb k1 k2 k3 k4 k5 k6 k7 k8 p0 p1 p2 p3
        obtain ⟨k1, k2, k3, k4, k5, k6, k7, k8, p0, p1, p2, p3⟩ := KC.out _ R6.out
        go_wp2_with fail
        refine (rsame15_nil _ 0 0 0).mono ?_
        rintro e w7 ⟨rfl, hb⟩
        have R7 : Hid (Below z W0 w7) := R6.out.trans (hb.mono (by have := R6.out.size; have := HZ.out.1; omega))
        clear hb k1 k2 k3 k4 k5 k6 k7 k8 p0 p1 p2 p3
        obtain ⟨k1, k2, k3, k4, k5, k6, k7, k8, p0, p1, p2, p3⟩ := KC.out _ R7.out
        go_wp2_with fail
        refine (open_no _ (.pointer none) (KP.out _ R7.out).1 0).mono ?_
        rintro e w8 ⟨rfl, hb⟩
        have R8 : Hid (Below z W0 w8) := R7.out.trans (hb.mono (by have := R7.out.size; have := HZ.out.1; omega))
        clear hb k1 k2 k3 k4 k5 k6 k7 k8 p0 p1 p2 p3
        obtain ⟨k1, k2, k3, k4, k5, k6, k7, k8, p0, p1, p2, p3⟩ := KC.out _ R8.out
        go_wp2_with fail
        refine (state_no _ (.pointer none) (KP.out _ R8.out).1 x1).mono ?_
        rintro e w9 ⟨rfl, hb⟩
        have R9 : Hid (Below z W0 w9) := R8.out.trans (hb.mono (by have := R8.out.size; have := HZ.out.1; omega))
        clear hb k1 k2 k3 k4 k5 k6 k7 k8 p0 p1 p2 p3
        obtain ⟨k1, k2, k3, k4, k5, k6, k7, k8, p0, p1, p2, p3⟩ := KC.out _ R9.out
        go_wp2_with fail
        refine (lacks_no _ (.pointer none) (KP.out _ R9.out).1 x1).mono ?_
        rintro e w10 ⟨rfl, hb⟩
        have R10 : Hid (Below z W0 w10) := R9.out.trans (hb.mono (by have := R9.out.size; have := HZ.out.1; omega))
        clear hb k1 k2 k3 k4 k5 k6 k7 k8 p0 p1 p2 p3
        obtain ⟨k1, k2, k3, k4, k5, k6, k7, k8, p0, p1, p2, p3⟩ := KC.out _ R10.out
        go_wp2_with fail
        go_roundg 0
        case measure => omega
        case rel => exact ⟨4, by omega, rfl, by go_num, R10⟩
    · go_wp2_with fail
      refine (KW.out _).mono ?_
      rintro e w3 ⟨rfl, hb3⟩
      have HB3 : Hid (Below w.heap.size w w3) := HW0.out.trans ((R0.out.mono HZ.out.2).trans (hb3.mono (by have := R0.out.size; have := HZ.out; omega)))
      clear hb3
      go_wp2_with fail
      go_ret
      exact ⟨rfl, HB3.out⟩
theorem coordNobody_walk (v : Ac) (w : World) (h : v.ok w) : Calls Try.prog 3 #[.agg v.cells] w fun e w' => e = .returned (.bool true) ∧ Below w.heap.size w w' :=
  coordNobody_walk0 v.k v.x v.pa v.pn v.pc (v.P.map vrRl) v.m0 v.m1 v.m2 v.m3 v.m4 v.a v.n v.c w h.pl.2.2.rl (by rw [List.length_map]; exact h.pl.1) (Nat.le_trans h.pb (by decide))
end Go.Proofs.Ythaeidbnbgghkaa
