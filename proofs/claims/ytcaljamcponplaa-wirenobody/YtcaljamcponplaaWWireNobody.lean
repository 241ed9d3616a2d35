/- WireNobody's walk (gen_wnobody.py). -/
import Derived.Test.YtcaljamcponplaaWrY
namespace Go.Proofs.Ytcaljamcponplaa
open Go.ChangeShapes Go.WideShapes Go.ChangeAt Go.RowKit Go.Deep Go.Maps
set_option linter.unusedVariables false
set_option linter.unusedSimpArgs false
theorem heap_three (w : World) (o1 o2 o3 : Obj) : (((w.alloc o1).alloc o2).alloc o3).heap[w.heap.size]? = some o1 ∧ (((w.alloc o1).alloc o2).alloc o3).heap[w.heap.size + 1]? = some o2 ∧ (((w.alloc o1).alloc o2).alloc o3).heap[w.heap.size + 1 + 1]? = some o3 ∧ (((w.alloc o1).alloc o2).alloc o3).heap.size = w.heap.size + 1 + 1 + 1 := by
  have s1 : (w.alloc o1).heap.size = w.heap.size + 1 := by simp
  have s2 : ((w.alloc o1).alloc o2).heap.size = w.heap.size + 1 + 1 := by simp
  have s3 : (((w.alloc o1).alloc o2).alloc o3).heap.size = w.heap.size + 1 + 1 + 1 := by simp
  have e3 := heap_alloc_new ((w.alloc o1).alloc o2) o3
  rw [s2] at e3
  refine ⟨?_, ?_, e3, s3⟩
  · exact (Below.heap_alloc _ _ _ (by omega)).trans ((Below.heap_alloc _ _ _ (by omega)).trans (heap_alloc_new w o1))
  · exact (Below.heap_alloc _ _ _ (by omega)).trans (heap_two w o1 o2)
def zeroM : Mv := ⟨0, 0, 0, 0, false, none, 0, 0⟩
set_option maxRecDepth 100000 in
set_option maxHeartbeats 8000000 in
theorem wireNobody_walk (x0 x1 x2 x3 m0 m1 m2 m3 : Int) (m4 : Bool) (a : Option Addr) (n c : Nat) (w : World) :
    Calls Try.prog 6 #[.agg #[.int .i64 x0, .int .i64 x1, .int .i64 x2, .int .i64 x3, .int .i64 m0, .int .i64 m1, .int .i64 m2, .int .i64 m3, .bool m4, .slice a n c]] w fun e w' => e = .returned (.bool true) ∧ Below w.heap.size w w' := by
  obtain ⟨W0, hW0⟩ : ∃ W0, W0 = ((w.alloc (.cells #[.int .i64 x0, .int .i64 x1, .int .i64 x2, .int .i64 x3, .int .i64 m0, .int .i64 m1, .int .i64 m2, .int .i64 m3, .bool m4, .slice a n c] 33)).alloc (.cells #[.map none, .map none] 50)).alloc (.cells #[.pointer none, .pointer (some ⟨w.heap.size + 1, 0, none⟩)] 23) := ⟨_, rfl⟩
  obtain ⟨q1, q2, q3, q4⟩ := heap_three w (.cells #[.int .i64 x0, .int .i64 x1, .int .i64 x2, .int .i64 x3, .int .i64 m0, .int .i64 m1, .int .i64 m2, .int .i64 m3, .bool m4, .slice a n c] 33) (.cells #[.map none, .map none] 50) (.cells #[.pointer none, .pointer (some ⟨w.heap.size + 1, 0, none⟩)] 23)
  rw [← hW0] at q1 q2 q3 q4
  have HW0 : Hid (Below w.heap.size w W0) := by
    show Below _ _ _
    rw [hW0]
    exact (((Below.refl _ _).alloc (Nat.le_refl _) _).alloc (by simp) _).alloc (by simp; omega) _
  have HE : Hid (W0 = ((w.alloc (.cells #[.int .i64 x0, .int .i64 x1, .int .i64 x2, .int .i64 x3, .int .i64 m0, .int .i64 m1, .int .i64 m2, .int .i64 m3, .bool m4, .slice a n c] 33)).alloc (.cells #[.map none, .map none] 50)).alloc (.cells #[.pointer none, .pointer (some ⟨w.heap.size + 1, 0, none⟩)] 23)) := hW0
  obtain ⟨z, hz⟩ : ∃ z, z = W0.heap.size := ⟨_, rfl⟩
  have HZ : Hid (z = W0.heap.size ∧ w.heap.size ≤ z) := ⟨hz, by omega⟩
  have KC : Hid (∀ W, Below z W0 W → W.cell? ⟨w.heap.size, 1, none⟩ = some (.int .i64 x1) ∧ W.cell? ⟨w.heap.size, 2, none⟩ = some (.int .i64 x2) ∧ W.cell? ⟨w.heap.size, 3, none⟩ = some (.int .i64 x3) ∧ W.cell? ⟨w.heap.size, 4, none⟩ = some (.int .i64 m0) ∧ W.cell? ⟨w.heap.size, 5, none⟩ = some (.int .i64 m1) ∧ W.cell? ⟨w.heap.size, 6, none⟩ = some (.int .i64 m2) ∧ W.cell? ⟨w.heap.size, 7, none⟩ = some (.int .i64 m3) ∧ W.cell? ⟨w.heap.size, 8, none⟩ = some (.bool m4) ∧ W.cell? ⟨w.heap.size, 9, none⟩ = some (.slice a n c) ∧ W.cell? ⟨w.heap.size + 1 + 1, 0, none⟩ = some (.pointer none) ∧ W.cell? ⟨w.heap.size + 1 + 1, 1, none⟩ = some (.pointer (some ⟨w.heap.size + 1, 0, none⟩))) := by
    intro W hW
    have p1 := (hW.block _ (by omega)).trans q1
    have p3 := (hW.block _ (by omega)).trans q3
    refine ⟨?_, ?_, ?_, ?_, ?_, ?_, ?_, ?_, ?_, ?_, ?_⟩
    · rw [cell_of_row _ w.heap.size 1 _ _ (0, 0) p1]; rfl
    · rw [cell_of_row _ w.heap.size 2 _ _ (0, 0) p1]; rfl
    · rw [cell_of_row _ w.heap.size 3 _ _ (0, 0) p1]; rfl
    · rw [cell_of_row _ w.heap.size 4 _ _ (0, 0) p1]; rfl
    · rw [cell_of_row _ w.heap.size 5 _ _ (0, 0) p1]; rfl
    · rw [cell_of_row _ w.heap.size 6 _ _ (0, 0) p1]; rfl
    · rw [cell_of_row _ w.heap.size 7 _ _ (0, 0) p1]; rfl
    · rw [cell_of_row _ w.heap.size 8 _ _ (0, 0) p1]; rfl
    · rw [cell_of_row _ w.heap.size 9 _ _ (0, 0) p1]; rfl
    · rw [cell_of_row _ (w.heap.size + 1 + 1) 0 _ _ (0, 0) p3]; rfl
    · rw [cell_of_row _ (w.heap.size + 1 + 1) 1 _ _ (0, 0) p3]; rfl
  have KP : Hid (∀ W, Below z W0 W → NoN W (.pointer none) ∧ NoN W (.pointer (some ⟨w.heap.size + 1, 0, none⟩))) := fun W hW => ⟨.inl rfl, .inr ⟨_, rfl, (hW.block _ (by omega)).trans q2⟩⟩
  have KW : Hid (∀ u, Calls Try.prog 15 #[] u fun e w' => e = .returned (.bool true) ∧ Below u.heap.size u w') := wworks_true
  clear hW0 q1 q2 q3 q4 hz
  go_enter Try.func6, Try.ntmps6
  go_wp2_with fail
  go_loopg [11] 2 (fun g i wr => ∃ j : Nat, j ≤ 2 ∧ g = 2 - j ∧ i = .int .i64 (j : Int) ∧ Hid (Below z W0 wr))
  case atStart =>
    refine ⟨0, Nat.zero_le _, rfl, rfl, ?_⟩
    show Below _ _ _
    rw [HZ.out.1, ← HE.out]
    exact Below.refl _ _
  case round =>
    obtain ⟨j, hj, rfl, rfl, R0⟩ := hrel
    clear HE
    rcases (by omega : j = 0 ∨ j = 1 ∨ j = 2) with rfl | rfl | rfl
    · obtain ⟨k1, k2, k3, k4, k5, k6, k7, k8, k9, kp, kq⟩ := KC.out _ R0.out
      go_wp2_with fail
      refine (take_none _ (.pointer none) (KP.out _ R0.out).1 x2).mono ?_
      rintro e w1 ⟨rfl, hb⟩
      have R1' : Hid (Below z W0 w1) := R0.out.trans (hb.mono (by have := R0.out.size; have := HZ.out.1; omega))
      have M1 : Hid ((w1.alloc (.cells (mC zeroM) 31)).heap[w1.heap.size]? = some (.cells (mC zeroM) 31)) := heap_alloc_new w1 _
      have R1 : Hid (Below z W0 (w1.alloc (.cells (mC zeroM) 31))) := R1'.out.alloc (by have := R1'.out.size; have := HZ.out.1; omega) _
      clear hb k1 k2 k3 k4 k5 k6 k7 k8 k9 kp kq R0
      obtain ⟨k1, k2, k3, k4, k5, k6, k7, k8, k9, kp, kq⟩ := KC.out _ R1.out
      unfold mC zeroM at k1 k2 k3 k4 k5 k6 k7 k8 k9 kp kq R1 M1
      simp only at k1 k2 k3 k4 k5 k6 k7 k8 k9 kp kq R1 M1
      go_wp2_with fail
      refine (send_none _ (.pointer none) (KP.out _ R1.out).1 #[.int .i64 m0, .int .i64 m1, .int .i64 m2, .int .i64 m3, .bool m4, .slice a n c] rfl).mono ?_
      rintro e w2 ⟨rfl, hb⟩
      have R2 : Hid (Below z W0 w2) := R1.out.trans (hb.mono (by have := R1.out.size; have := HZ.out.1; omega))
      have M2 : Hid (w2.heap[w1.heap.size]? = some (.cells (mC zeroM) 31)) := (hb.block w1.heap.size (lt_of_heapK M1.out)).trans M1.out
      clear hb k1 k2 k3 k4 k5 k6 k7 k8 k9 kp kq R1 M1
      obtain ⟨k1, k2, k3, k4, k5, k6, k7, k8, k9, kp, kq⟩ := KC.out _ R2.out
      obtain ⟨z0, z1, z2, z3, z4, z5⟩ := mc_cells M2.out
      simp only [zeroM] at z0 z1 z2 z3 z4 z5
      go_wp2_with fail
      try clear z0 z1 z2 z3 z4 z5
      refine (deliver_none _ (.pointer none) (KP.out _ R2.out).1 x1 x2 x3).mono ?_
      rintro e w3 ⟨rfl, hb⟩
      have R3 : Hid (Below z W0 w3) := R2.out.trans (hb.mono (by have := R2.out.size; have := HZ.out.1; omega))
      have M3 : Hid (w3.heap[w1.heap.size]? = some (.cells (mC zeroM) 31)) := (hb.block w1.heap.size (lt_of_heapK M2.out)).trans M2.out
      clear hb k1 k2 k3 k4 k5 k6 k7 k8 k9 kp kq R2 M2
      obtain ⟨k1, k2, k3, k4, k5, k6, k7, k8, k9, kp, kq⟩ := KC.out _ R3.out
      obtain ⟨z0, z1, z2, z3, z4, z5⟩ := mc_cells M3.out
      simp only [zeroM] at z0 z1 z2 z3 z4 z5
      go_wp2_with fail
      try clear z0 z1 z2 z3 z4 z5
      refine (drop_none _ (.pointer none) (KP.out _ R3.out).1 x1 x2 x3).mono ?_
      rintro e w4 ⟨rfl, hb⟩
      have R4 : Hid (Below z W0 w4) := R3.out.trans (hb.mono (by have := R3.out.size; have := HZ.out.1; omega))
      have M4 : Hid (w4.heap[w1.heap.size]? = some (.cells (mC zeroM) 31)) := (hb.block w1.heap.size (lt_of_heapK M3.out)).trans M3.out
      clear hb k1 k2 k3 k4 k5 k6 k7 k8 k9 kp kq R3 M3
      obtain ⟨k1, k2, k3, k4, k5, k6, k7, k8, k9, kp, kq⟩ := KC.out _ R4.out
      obtain ⟨z0, z1, z2, z3, z4, z5⟩ := mc_cells M4.out
      simp only [zeroM] at z0 z1 z2 z3 z4 z5
      go_wp2_with fail
      try clear z0 z1 z2 z3 z4 z5
      refine (double_none _ (.pointer none) (KP.out _ R4.out).1 x1 x2 x3).mono ?_
      rintro e w5 ⟨rfl, hb⟩
      have R5 : Hid (Below z W0 w5) := R4.out.trans (hb.mono (by have := R4.out.size; have := HZ.out.1; omega))
      have M5 : Hid (w5.heap[w1.heap.size]? = some (.cells (mC zeroM) 31)) := (hb.block w1.heap.size (lt_of_heapK M4.out)).trans M4.out
      clear hb k1 k2 k3 k4 k5 k6 k7 k8 k9 kp kq R4 M4
      obtain ⟨k1, k2, k3, k4, k5, k6, k7, k8, k9, kp, kq⟩ := KC.out _ R5.out
      obtain ⟨z0, z1, z2, z3, z4, z5⟩ := mc_cells M5.out
      simp only [zeroM] at z0 z1 z2 z3 z4 z5
      go_wp2_with fail
      try clear z0 z1 z2 z3 z4 z5
      refine (sameM_zero _).mono ?_
      rintro e w6 ⟨rfl, hb⟩
      have R6 : Hid (Below z W0 w6) := R5.out.trans (hb.mono (by have := R5.out.size; have := HZ.out.1; omega))
      have M6 : Hid (w6.heap[w1.heap.size]? = some (.cells (mC zeroM) 31)) := (hb.block w1.heap.size (lt_of_heapK M5.out)).trans M5.out
      clear hb k1 k2 k3 k4 k5 k6 k7 k8 k9 kp kq R5 M5
      obtain ⟨k1, k2, k3, k4, k5, k6, k7, k8, k9, kp, kq⟩ := KC.out _ R6.out
      obtain ⟨z0, z1, z2, z3, z4, z5⟩ := mc_cells M6.out
      simp only [zeroM] at z0 z1 z2 z3 z4 z5
      go_wp2_with fail
      try clear z0 z1 z2 z3 z4 z5
      refine (clear_none _ (.pointer none) (KP.out _ R6.out).1 x2).mono ?_
      rintro e w7 ⟨rfl, hb⟩
      have R7 : Hid (Below z W0 w7) := R6.out.trans (hb.mono (by have := R6.out.size; have := HZ.out.1; omega))
      have M7 : Hid (w7.heap[w1.heap.size]? = some (.cells (mC zeroM) 31)) := (hb.block w1.heap.size (lt_of_heapK M6.out)).trans M6.out
      clear hb k1 k2 k3 k4 k5 k6 k7 k8 k9 kp kq R6 M6
      obtain ⟨k1, k2, k3, k4, k5, k6, k7, k8, k9, kp, kq⟩ := KC.out _ R7.out
      obtain ⟨z0, z1, z2, z3, z4, z5⟩ := mc_cells M7.out
      simp only [zeroM] at z0 z1 z2 z3 z4 z5
      go_wp2_with fail
      try clear z0 z1 z2 z3 z4 z5
      refine (link_none _ (.pointer none) (KP.out _ R7.out).1 x1 x2).mono ?_
      rintro e w8 ⟨rfl, hb⟩
      have R8 : Hid (Below z W0 w8) := R7.out.trans (hb.mono (by have := R7.out.size; have := HZ.out.1; omega))
      have M8 : Hid (w8.heap[w1.heap.size]? = some (.cells (mC zeroM) 31)) := (hb.block w1.heap.size (lt_of_heapK M7.out)).trans M7.out
      clear hb k1 k2 k3 k4 k5 k6 k7 k8 k9 kp kq R7 M7
      obtain ⟨k1, k2, k3, k4, k5, k6, k7, k8, k9, kp, kq⟩ := KC.out _ R8.out
      obtain ⟨z0, z1, z2, z3, z4, z5⟩ := mc_cells M8.out
      simp only [zeroM] at z0 z1 z2 z3 z4 z5
      go_wp2_with fail
      try clear z0 z1 z2 z3 z4 z5
      refine (box_none _ (.pointer none) (KP.out _ R8.out).1 x2).mono ?_
      rintro e w9 ⟨rfl, hb⟩
      have R9 : Hid (Below z W0 w9) := R8.out.trans (hb.mono (by have := R8.out.size; have := HZ.out.1; omega))
      have M9 : Hid (w9.heap[w1.heap.size]? = some (.cells (mC zeroM) 31)) := (hb.block w1.heap.size (lt_of_heapK M8.out)).trans M8.out
      clear hb k1 k2 k3 k4 k5 k6 k7 k8 k9 kp kq R8 M8
      obtain ⟨k1, k2, k3, k4, k5, k6, k7, k8, k9, kp, kq⟩ := KC.out _ R9.out
      obtain ⟨z0, z1, z2, z3, z4, z5⟩ := mc_cells M9.out
      simp only [zeroM] at z0 z1 z2 z3 z4 z5
      go_wp2_with fail
      try clear z0 z1 z2 z3 z4 z5
      refine (copy_none _ (.pointer none) (KP.out _ R9.out).1).mono ?_
      rintro e w10 ⟨rfl, hb⟩
      have R10 : Hid (Below z W0 w10) := R9.out.trans (hb.mono (by have := R9.out.size; have := HZ.out.1; omega))
      have M10 : Hid (w10.heap[w1.heap.size]? = some (.cells (mC zeroM) 31)) := (hb.block w1.heap.size (lt_of_heapK M9.out)).trans M9.out
      clear hb k1 k2 k3 k4 k5 k6 k7 k8 k9 kp kq R9 M9
      obtain ⟨k1, k2, k3, k4, k5, k6, k7, k8, k9, kp, kq⟩ := KC.out _ R10.out
      obtain ⟨z0, z1, z2, z3, z4, z5⟩ := mc_cells M10.out
      simp only [zeroM] at z0 z1 z2 z3 z4 z5
      go_wp2_with fail
      try clear z0 z1 z2 z3 z4 z5
      go_roundg 1
      case measure => omega
      case rel => exact ⟨1, by omega, rfl, by go_num, R10⟩
    · obtain ⟨k1, k2, k3, k4, k5, k6, k7, k8, k9, kp, kq⟩ := KC.out _ R0.out
      go_wp2_with fail
      refine (take_none _ (.pointer (some ⟨w.heap.size + 1, 0, none⟩)) (KP.out _ R0.out).2 x2).mono ?_
      rintro e w1 ⟨rfl, hb⟩
      have R1' : Hid (Below z W0 w1) := R0.out.trans (hb.mono (by have := R0.out.size; have := HZ.out.1; omega))
      have M1 : Hid ((w1.alloc (.cells (mC zeroM) 31)).heap[w1.heap.size]? = some (.cells (mC zeroM) 31)) := heap_alloc_new w1 _
      have R1 : Hid (Below z W0 (w1.alloc (.cells (mC zeroM) 31))) := R1'.out.alloc (by have := R1'.out.size; have := HZ.out.1; omega) _
      clear hb k1 k2 k3 k4 k5 k6 k7 k8 k9 kp kq R0
      obtain ⟨k1, k2, k3, k4, k5, k6, k7, k8, k9, kp, kq⟩ := KC.out _ R1.out
      unfold mC zeroM at k1 k2 k3 k4 k5 k6 k7 k8 k9 kp kq R1 M1
      simp only at k1 k2 k3 k4 k5 k6 k7 k8 k9 kp kq R1 M1
      go_wp2_with fail
      refine (send_none _ (.pointer (some ⟨w.heap.size + 1, 0, none⟩)) (KP.out _ R1.out).2 #[.int .i64 m0, .int .i64 m1, .int .i64 m2, .int .i64 m3, .bool m4, .slice a n c] rfl).mono ?_
      rintro e w2 ⟨rfl, hb⟩
      have R2 : Hid (Below z W0 w2) := R1.out.trans (hb.mono (by have := R1.out.size; have := HZ.out.1; omega))
      have M2 : Hid (w2.heap[w1.heap.size]? = some (.cells (mC zeroM) 31)) := (hb.block w1.heap.size (lt_of_heapK M1.out)).trans M1.out
      clear hb k1 k2 k3 k4 k5 k6 k7 k8 k9 kp kq R1 M1
      obtain ⟨k1, k2, k3, k4, k5, k6, k7, k8, k9, kp, kq⟩ := KC.out _ R2.out
      obtain ⟨z0, z1, z2, z3, z4, z5⟩ := mc_cells M2.out
      simp only [zeroM] at z0 z1 z2 z3 z4 z5
      go_wp2_with fail
      try clear z0 z1 z2 z3 z4 z5
      refine (deliver_none _ (.pointer (some ⟨w.heap.size + 1, 0, none⟩)) (KP.out _ R2.out).2 x1 x2 x3).mono ?_
      rintro e w3 ⟨rfl, hb⟩
      have R3 : Hid (Below z W0 w3) := R2.out.trans (hb.mono (by have := R2.out.size; have := HZ.out.1; omega))
      have M3 : Hid (w3.heap[w1.heap.size]? = some (.cells (mC zeroM) 31)) := (hb.block w1.heap.size (lt_of_heapK M2.out)).trans M2.out
      clear hb k1 k2 k3 k4 k5 k6 k7 k8 k9 kp kq R2 M2
      obtain ⟨k1, k2, k3, k4, k5, k6, k7, k8, k9, kp, kq⟩ := KC.out _ R3.out
      obtain ⟨z0, z1, z2, z3, z4, z5⟩ := mc_cells M3.out
      simp only [zeroM] at z0 z1 z2 z3 z4 z5
      go_wp2_with fail
      try clear z0 z1 z2 z3 z4 z5
      refine (drop_none _ (.pointer (some ⟨w.heap.size + 1, 0, none⟩)) (KP.out _ R3.out).2 x1 x2 x3).mono ?_
      rintro e w4 ⟨rfl, hb⟩
      have R4 : Hid (Below z W0 w4) := R3.out.trans (hb.mono (by have := R3.out.size; have := HZ.out.1; omega))
      have M4 : Hid (w4.heap[w1.heap.size]? = some (.cells (mC zeroM) 31)) := (hb.block w1.heap.size (lt_of_heapK M3.out)).trans M3.out
      clear hb k1 k2 k3 k4 k5 k6 k7 k8 k9 kp kq R3 M3
      obtain ⟨k1, k2, k3, k4, k5, k6, k7, k8, k9, kp, kq⟩ := KC.out _ R4.out
      obtain ⟨z0, z1, z2, z3, z4, z5⟩ := mc_cells M4.out
      simp only [zeroM] at z0 z1 z2 z3 z4 z5
      go_wp2_with fail
      try clear z0 z1 z2 z3 z4 z5
      refine (double_none _ (.pointer (some ⟨w.heap.size + 1, 0, none⟩)) (KP.out _ R4.out).2 x1 x2 x3).mono ?_
      rintro e w5 ⟨rfl, hb⟩
      have R5 : Hid (Below z W0 w5) := R4.out.trans (hb.mono (by have := R4.out.size; have := HZ.out.1; omega))
      have M5 : Hid (w5.heap[w1.heap.size]? = some (.cells (mC zeroM) 31)) := (hb.block w1.heap.size (lt_of_heapK M4.out)).trans M4.out
      clear hb k1 k2 k3 k4 k5 k6 k7 k8 k9 kp kq R4 M4
      obtain ⟨k1, k2, k3, k4, k5, k6, k7, k8, k9, kp, kq⟩ := KC.out _ R5.out
      obtain ⟨z0, z1, z2, z3, z4, z5⟩ := mc_cells M5.out
      simp only [zeroM] at z0 z1 z2 z3 z4 z5
      go_wp2_with fail
      try clear z0 z1 z2 z3 z4 z5
      refine (sameM_zero _).mono ?_
      rintro e w6 ⟨rfl, hb⟩
      have R6 : Hid (Below z W0 w6) := R5.out.trans (hb.mono (by have := R5.out.size; have := HZ.out.1; omega))
      have M6 : Hid (w6.heap[w1.heap.size]? = some (.cells (mC zeroM) 31)) := (hb.block w1.heap.size (lt_of_heapK M5.out)).trans M5.out
      clear hb k1 k2 k3 k4 k5 k6 k7 k8 k9 kp kq R5 M5
      obtain ⟨k1, k2, k3, k4, k5, k6, k7, k8, k9, kp, kq⟩ := KC.out _ R6.out
      obtain ⟨z0, z1, z2, z3, z4, z5⟩ := mc_cells M6.out
      simp only [zeroM] at z0 z1 z2 z3 z4 z5
      go_wp2_with fail
      try clear z0 z1 z2 z3 z4 z5
      refine (clear_none _ (.pointer (some ⟨w.heap.size + 1, 0, none⟩)) (KP.out _ R6.out).2 x2).mono ?_
      rintro e w7 ⟨rfl, hb⟩
      have R7 : Hid (Below z W0 w7) := R6.out.trans (hb.mono (by have := R6.out.size; have := HZ.out.1; omega))
      have M7 : Hid (w7.heap[w1.heap.size]? = some (.cells (mC zeroM) 31)) := (hb.block w1.heap.size (lt_of_heapK M6.out)).trans M6.out
      clear hb k1 k2 k3 k4 k5 k6 k7 k8 k9 kp kq R6 M6
      obtain ⟨k1, k2, k3, k4, k5, k6, k7, k8, k9, kp, kq⟩ := KC.out _ R7.out
      obtain ⟨z0, z1, z2, z3, z4, z5⟩ := mc_cells M7.out
      simp only [zeroM] at z0 z1 z2 z3 z4 z5
      go_wp2_with fail
      try clear z0 z1 z2 z3 z4 z5
      refine (link_none _ (.pointer (some ⟨w.heap.size + 1, 0, none⟩)) (KP.out _ R7.out).2 x1 x2).mono ?_
      rintro e w8 ⟨rfl, hb⟩
      have R8 : Hid (Below z W0 w8) := R7.out.trans (hb.mono (by have := R7.out.size; have := HZ.out.1; omega))
      have M8 : Hid (w8.heap[w1.heap.size]? = some (.cells (mC zeroM) 31)) := (hb.block w1.heap.size (lt_of_heapK M7.out)).trans M7.out
      clear hb k1 k2 k3 k4 k5 k6 k7 k8 k9 kp kq R7 M7
      obtain ⟨k1, k2, k3, k4, k5, k6, k7, k8, k9, kp, kq⟩ := KC.out _ R8.out
      obtain ⟨z0, z1, z2, z3, z4, z5⟩ := mc_cells M8.out
      simp only [zeroM] at z0 z1 z2 z3 z4 z5
      go_wp2_with fail
      try clear z0 z1 z2 z3 z4 z5
      refine (box_none _ (.pointer (some ⟨w.heap.size + 1, 0, none⟩)) (KP.out _ R8.out).2 x2).mono ?_
      rintro e w9 ⟨rfl, hb⟩
      have R9 : Hid (Below z W0 w9) := R8.out.trans (hb.mono (by have := R8.out.size; have := HZ.out.1; omega))
      have M9 : Hid (w9.heap[w1.heap.size]? = some (.cells (mC zeroM) 31)) := (hb.block w1.heap.size (lt_of_heapK M8.out)).trans M8.out
      clear hb k1 k2 k3 k4 k5 k6 k7 k8 k9 kp kq R8 M8
      obtain ⟨k1, k2, k3, k4, k5, k6, k7, k8, k9, kp, kq⟩ := KC.out _ R9.out
      obtain ⟨z0, z1, z2, z3, z4, z5⟩ := mc_cells M9.out
      simp only [zeroM] at z0 z1 z2 z3 z4 z5
      go_wp2_with fail
      try clear z0 z1 z2 z3 z4 z5
      refine (copy_none _ (.pointer (some ⟨w.heap.size + 1, 0, none⟩)) (KP.out _ R9.out).2).mono ?_
      rintro e w10 ⟨rfl, hb⟩
      have R10 : Hid (Below z W0 w10) := R9.out.trans (hb.mono (by have := R9.out.size; have := HZ.out.1; omega))
      have M10 : Hid (w10.heap[w1.heap.size]? = some (.cells (mC zeroM) 31)) := (hb.block w1.heap.size (lt_of_heapK M9.out)).trans M9.out
      clear hb k1 k2 k3 k4 k5 k6 k7 k8 k9 kp kq R9 M9
      obtain ⟨k1, k2, k3, k4, k5, k6, k7, k8, k9, kp, kq⟩ := KC.out _ R10.out
      obtain ⟨z0, z1, z2, z3, z4, z5⟩ := mc_cells M10.out
      simp only [zeroM] at z0 z1 z2 z3 z4 z5
      go_wp2_with fail
      try clear z0 z1 z2 z3 z4 z5
      go_roundg 0
      case measure => omega
      case rel => exact ⟨2, by omega, rfl, by go_num, R10⟩
    · go_wp2_with fail
      refine (KW.out _).mono ?_
      rintro e w3 ⟨rfl, hb3⟩
      have HB3 : Hid (Below w.heap.size w w3) := HW0.out.trans ((R0.out.mono HZ.out.2).trans (hb3.mono (by have := R0.out.size; have := HZ.out; omega)))
      clear hb3
      go_wp2_with fail
      go_ret
      exact ⟨rfl, HB3.out⟩
end Go.Proofs.Ytcaljamcponplaa
