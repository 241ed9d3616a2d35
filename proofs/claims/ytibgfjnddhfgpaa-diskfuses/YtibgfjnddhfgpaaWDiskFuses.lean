/- DiskFuses' walk. -/
import Derived.Test.YtibgfjnddhfgpaaDkTw
import Derived.Test.YtibgfjnddhfgpaaDkAc
import Derived.BigQuiet
import Derived.Deep.QuietTactic
namespace Go.Proofs.Ytibgfjnddhfgpaa
open Go.ChangeShapes Go.WideShapes Go.ChangeAt Go.RowKit Go.Deep Go.Maps
set_option linter.unusedVariables false
/-- the box of an act, whose Long is 0 -/
def bx5 (vk va vn : Int) (u : Value) : Obj := .cells #[.int .i64 vk, .int .i64 va, .int .i64 vn, .int .i64 0, u] 32
theorem bx5_cells {w : World} {B : Nat} {vk va vn : Int} {u : Value} (h : w.heap[B]? = some (bx5 vk va vn u)) : w.cell? ⟨B, 0, none⟩ = some (.int .i64 vk) ∧ w.cell? ⟨B, 1, none⟩ = some (.int .i64 va) ∧ w.cell? ⟨B, 2, none⟩ = some (.int .i64 vn) ∧ w.cell? ⟨B, 3, none⟩ = some (.int .i64 0) ∧ w.cell? ⟨B, 4, none⟩ = some u := by
  refine ⟨?_, ?_, ?_, ?_, ?_⟩ <;> simp [World.cell?, h, bx5]
set_option maxRecDepth 100000 in
set_option maxHeartbeats 8000000 in
theorem diskFuses_walk (a : Option Addr) (len cap : Nat) (A : Nat → Av) (n0 : Int) (ka : Option Addr) (kl kc : Nat) (zs : List Int) (w : World) (hA : InA w a len A) (hn0 : (Lit.int .i64 n0).wf = true) (hz : IsRow .i64 w ka kl kc zs) :
    Calls Try.prog 7 #[.slice a len cap, .int .i64 n0, .slice ka kl kc] w fun e w' => e = .returned (.bool true) ∧ Below w.heap.size w w' := by
  obtain ⟨n, hn', hn40, hm1, hm2⟩ := mod_in40 n0
  have hn0' := wf_i64 hn0
  have r1 : IntKind.i64.wrap (Int.tmod n0 40) = Int.tmod n0 40 := by rw [IntKind.wrap_i64]; omega
  have r2 : IntKind.i64.wrap (Int.tmod n0 40 + 40) = Int.tmod n0 40 + 40 := by rw [IntKind.wrap_i64]; omega
  have r3 : IntKind.i64.wrap (n : Int) = (n : Int) := by rw [IntKind.wrap_i64]; omega
  obtain ⟨hin, hkl⟩ := inK_of (row_keepR hz)
  have HIN : Hid (InK w ka (zs.take kl) ∧ (zs.take kl).length = kl) := ⟨hin, hkl⟩
  have HA : Hid (InA w a len A) := hA
  clear hin hkl hz hA
  go_enter Try.func7, Try.ntmps7
  go_wp2_with fail
  refine (dk_new 8 (by omega) (by omega) w).mono ?_
  rintro e w1 ⟨bx, Fx, rfl, hx, hb1, hF⟩
  have X1 : Hid (Dk w1 Fx bx 0 (Ds.new 8) ∧ Below w.heap.size w w1 ∧ ∀ k, Fx k → w.heap.size ≤ k) := ⟨hx, hb1, hF⟩
  clear hx hb1 hF
  go_wp2_with fail
  refine (dk_new 8 (by omega) (by omega) w1).mono ?_
  rintro e w2 ⟨bY, Fy, rfl, hy, hb2, hG⟩
  have T2 : Hid (Two w w2 (fun _ => False) bx bY 0 (Ds.new 8) (Ds.new 8)) := two_new X1.out.1 X1.out.2.1 X1.out.2.2 hy hb2 hG
  clear hy hb2 hG X1
  go_wp2_with fail
  refine (two_fuse T2.out (n : Int) (by omega)).mono ?_
  rintro e w3 ⟨rfl, ht3, _⟩
  have f0 : ((Ds.new 8).fs (n : Int)).1 = 0 := by simp [Ds.fs, Ds.new, fuA]
  rw [f0]
  have T3 : Hid (Two w w3 (fun _ => False) bx bY 0 ((Ds.new 8).fs (n : Int)).2 (Ds.new 8)) := ht3
  clear ht3 T2 f0
  go_wp2_with fail
  go_loopg [11] 60 (fun gg iv wr => ∃ (i : Nat) (xs ys : Ds), i ≤ 60 ∧ gg = 60 - i ∧ iv = .int .i64 (i : Int) ∧ Hid (Two w wr (fun _ => False) bx bY (2 * i) xs ys) ∧ Hid (FzR n i xs ys))
  case atStart => exact ⟨0, _, _, by omega, rfl, rfl, T3, FzR.start n⟩
  case round =>
    obtain ⟨i, xs, ys, hi60, rfl, rfl, TW, FZ⟩ := hrel
    by_cases hil : i < len ∧ i < 60
    · have e1 : decide ((i : Int) < (len : Int)) = true := by rw [decide_eq_true_eq]; omega
      have e2 : decide ((i : Int) < 60) = true := by rw [decide_eq_true_eq]; omega
      have hia := HA.out.below TW.out.below
      obtain ⟨ab, off, rfl, hab, hcells⟩ := hia.1 (by omega)
      obtain ⟨c0, c1, c2, c3, c4⟩ := hcells i hil.1
      obtain ⟨b0, b1, b2, b3, b4, b5⟩ := hia.2 i hil.1
      generalize A i = v at *
      obtain ⟨vk, va, vn, vl, vka, vkl, vkc, vz⟩ := v
      simp only at c0 c1 c2 c3 c4 b0 b1 b2 b3
      clear hia hcells b4 b5
      obtain ⟨k, hk, hk8, hk1, hk2⟩ := mod_in8 va
      have s1 : IntKind.i64.wrap (Int.tmod va 8) = Int.tmod va 8 := by rw [IntKind.wrap_i64]; omega
      have s2 : IntKind.i64.wrap (Int.tmod va 8 + 8) = Int.tmod va 8 + 8 := by rw [IntKind.wrap_i64]; omega
      have s3 : IntKind.i64.wrap (k : Int) = (k : Int) := by rw [IntKind.wrap_i64]; omega
      have KB : Hid (∀ W, Calls Try.prog 25 #[.agg #[.int .i64 vk, .int .i64 va, .int .i64 vn, .int .i64 0, .slice vka vkl vkc]] W fun e w' => ∃ g, e = .returned (.slice (some ⟨g, 0, none⟩) 64 64) ∧ Owned w' W.heap.size (.slice (some ⟨g, 0, none⟩) 64 64) (bL vn 0) ∧ Below W.heap.size W w') := fun W => bytesOf_is vk va vn 0 (.slice vka vkl vkc) b2 (by omega) rfl W
      obtain ⟨W1, hW1⟩ : ∃ W1, wr.alloc (bx5 vk va vn (.slice vka vkl vkc)) = W1 := ⟨_, rfl⟩
      have HW1 : Hid (wr.alloc (.cells #[.int .i64 vk, .int .i64 va, .int .i64 vn, .int .i64 0, .slice vka vkl vkc] 32) = W1) := hW1
      have BX1 : Hid (W1.heap[wr.heap.size]? = some (bx5 vk va vn (.slice vka vkl vkc)) ∧ wr.heap.size < W1.heap.size ∧ (wr.heap.size ≤ wr.heap.size ∧ wr.heap.size < W1.heap.size)) := by
        rw [← hW1]
        exact ⟨heap_alloc_new wr _, by simp, by simp⟩
      have T1 : Hid (Two w W1 (fun k => False ∨ (wr.heap.size ≤ k ∧ k < W1.heap.size)) bx bY (2 * i) xs ys) := TW.out.keep (by rw [← hW1]; exact below1 _ _)
      have C64 : Hid ((bL vn 0).length = 64 ∧ IsBytes (bL vn 0)) := ⟨by simp [bL, bN_zero], bL_bytes vn 0⟩
      obtain ⟨d0, d1, d2, d3, d4⟩ := bx5_cells BX1.out.1
      clear hW1 TW
      have hi6 : i < 60 := hil.2
      by_cases hk1' : vk = 1
      · subst hk1'
        by_cases hin : i < n
        · have e4 : decide ((i : Int) < (n : Int)) = true := by rw [decide_eq_true_eq]; omega
          go_wp2_with fail
          rw [show World.alloc _ _ = W1 from HW1.out]
          refine (two_flush T1.out (by omega)).mono ?_
          rintro e w6 ⟨rfl, t6, hp6⟩
          have BX6 : Hid (w6.heap[wr.heap.size]? = some (bx5 1 va vn (.slice vka vkl vkc))) := (hp6 _ (.inr BX1.out.2.2)).trans BX1.out.1
          have T6 : Hid (Two w w6 (fun k => k = wr.heap.size) bx bY (2 * i + 1) (xs.fl).2 ys) := t6.less (fun k hk => .inr (by rw [hk]; exact BX1.out.2.2))
          clear t6 hp6
          obtain ⟨x0, y0, fz⟩ := FZ.out.fl hin
          have FZ2 : Hid (FzR n (i + 1) xs.fl.2 ys.fl.2) := fz
          have UP : Hid (xs.fl.2.up = true) := by have := fz.up; rw [decide_eq_true hin] at this; exact this
          clear fz
          rw [x0]
          obtain ⟨d0, d1, d2, d3, d4⟩ := bx5_cells BX6.out
          go_wp2_with fail
          refine (two_flush T6.out.swap (by omega)).mono ?_
          rintro e w8 ⟨rfl, t8, _⟩
          clear d0 d1 d2 d3 d4
          rw [y0]
          have T8 : Hid (Two w w8 (fun _ => False) bx bY (2 * (i + 1)) xs.fl.2 ys.fl.2) := t8.swap.less (fun _ hk => hk.elim)
          clear t8 T6 BX6
          go_wp2_with fail
          refine (two_up T8.out).mono ?_
          rintro e w9 ⟨rfl, hw9⟩
          obtain rfl := hw9.symm
          clear hw9
          rw [UP.out]
          go_wp2_with fail
          go_roundg (60 - (i + 1))
          case measure => omega
          case rel => exact ⟨i + 1, _, _, by omega, rfl, by simp, T8, FZ2⟩
        · have e4 : decide ((i : Int) < (n : Int)) = false := by rw [decide_eq_false_iff_not]; omega
          go_wp2_with fail
          rw [show World.alloc _ _ = W1 from HW1.out]
          refine (two_flush T1.out (by omega)).mono ?_
          rintro e w6 ⟨rfl, t6, hp6⟩
          have BX6 : Hid (w6.heap[wr.heap.size]? = some (bx5 1 va vn (.slice vka vkl vkc))) := (hp6 _ (.inr BX1.out.2.2)).trans BX1.out.1
          have T6 : Hid (Two w w6 (fun k => k = wr.heap.size) bx bY (2 * i + 1) (xs.fl).2 ys) := t6.less (fun k hk => .inr (by rw [hk]; exact BX1.out.2.2))
          clear t6 hp6
          obtain ⟨x0, fz⟩ := FZ.out.fl_no (by omega)
          have FZ2 : Hid (FzR n (i + 1) xs.fl.2 ys) := fz
          have UP : Hid (xs.fl.2.up = false) := by have := fz.up; rw [decide_eq_false hin] at this; exact this
          clear fz
          rw [x0]
          have T8 : Hid (Two w w6 (fun _ => False) bx bY (2 * (i + 1)) xs.fl.2 ys) := (T6.out.more (by omega)).less (fun _ hk => hk.elim)
          clear T6 BX6
          go_wp2_with fail
          refine (two_up T8.out).mono ?_
          rintro e w9 ⟨rfl, hw9⟩
          obtain rfl := hw9.symm
          clear hw9
          rw [UP.out]
          go_wp2_with fail
          go_roundg (60 - (i + 1))
          case measure => omega
          case rel => exact ⟨i + 1, _, _, by omega, rfl, by simp, T8, FZ2⟩
      · have e3 : (vk == 1) = false := by simp [hk1']
        by_cases hin : i < n
        · have e4 : decide ((i : Int) < (n : Int)) = true := by rw [decide_eq_true_eq]; omega
          go_wp2_with fail
          rw [show World.alloc _ _ = W1 from HW1.out]
          refine (KB.out _).mono ?_
          rintro e w5 ⟨g5, rfl, o5, b5⟩
          have BX5 : Hid (w5.heap[wr.heap.size]? = some (bx5 vk va vn (.slice vka vkl vkc))) := (b5.block _ BX1.out.2.1).trans BX1.out.1
          have lt5 := World.ownsRow.lt o5 g5 rfl
          have T5 := T1.out.keep b5
          clear b5
          go_wp2_with fail
          refine (two_write T5 (by omega) (k : Int) g5 64 (bL vn 0) _ o5 C64.out.1 C64.out.2 (.inr lt5)).mono ?_
          rintro e w6 ⟨rfl, t6, hp6⟩
          have BX6 : Hid (w6.heap[wr.heap.size]? = some (bx5 vk va vn (.slice vka vkl vkc))) := (hp6 _ (.inl (.inr BX1.out.2.2))).trans BX5.out
          have T6 : Hid (Two w w6 (fun k => k = wr.heap.size) bx bY (2 * i + 1) (xs.wr (k : Int) (bL vn 0)).2 ys) := t6.less (fun k hk => .inl (.inr (by rw [hk]; exact BX1.out.2.2)))
          clear t6 hp6 T5 lt5 o5 BX5
          obtain ⟨x0, y0, fz⟩ := FZ.out.wr (k : Int) (by omega) (bL vn 0) C64.out.1 hin
          have FZ2 : Hid (FzR n (i + 1) (xs.wr (k : Int) (bL vn 0)).2 (ys.wr (k : Int) (bL vn 0)).2) := fz
          have UP : Hid ((xs.wr (k : Int) (bL vn 0)).2.up = true) := by have := fz.up; rw [decide_eq_true hin] at this; exact this
          clear fz
          rw [x0]
          obtain ⟨d0, d1, d2, d3, d4⟩ := bx5_cells BX6.out
          go_wp2_with fail
          refine (KB.out _).mono ?_
          rintro e w7 ⟨g7, rfl, o7, b7⟩
          have lt7 := World.ownsRow.lt o7 g7 rfl
          have T7 := T6.out.keep b7
          clear b7 d0 d1 d2 d3 d4
          go_wp2_with fail
          refine (two_write T7.swap (by omega) (k : Int) g7 64 (bL vn 0) _ o7 C64.out.1 C64.out.2 (.inr lt7)).mono ?_
          rintro e w8 ⟨rfl, t8, _⟩
          clear T7 lt7 o7
          rw [y0]
          have T8 : Hid (Two w w8 (fun _ => False) bx bY (2 * (i + 1)) (xs.wr (k : Int) (bL vn 0)).2 (ys.wr (k : Int) (bL vn 0)).2) := t8.swap.less (fun _ hk => hk.elim)
          clear t8 T6 BX6
          go_wp2_with fail
          refine (two_up T8.out).mono ?_
          rintro e w9 ⟨rfl, hw9⟩
          obtain rfl := hw9.symm
          clear hw9
          rw [UP.out]
          go_wp2_with fail
          go_roundg (60 - (i + 1))
          case measure => omega
          case rel => exact ⟨i + 1, _, _, by omega, rfl, by simp, T8, FZ2⟩
        · have e4 : decide ((i : Int) < (n : Int)) = false := by rw [decide_eq_false_iff_not]; omega
          go_wp2_with fail
          rw [show World.alloc _ _ = W1 from HW1.out]
          refine (KB.out _).mono ?_
          rintro e w5 ⟨g5, rfl, o5, b5⟩
          have BX5 : Hid (w5.heap[wr.heap.size]? = some (bx5 vk va vn (.slice vka vkl vkc))) := (b5.block _ BX1.out.2.1).trans BX1.out.1
          have lt5 := World.ownsRow.lt o5 g5 rfl
          have T5 := T1.out.keep b5
          clear b5
          go_wp2_with fail
          refine (two_write T5 (by omega) (k : Int) g5 64 (bL vn 0) _ o5 C64.out.1 C64.out.2 (.inr lt5)).mono ?_
          rintro e w6 ⟨rfl, t6, hp6⟩
          have BX6 : Hid (w6.heap[wr.heap.size]? = some (bx5 vk va vn (.slice vka vkl vkc))) := (hp6 _ (.inl (.inr BX1.out.2.2))).trans BX5.out
          have T6 : Hid (Two w w6 (fun k => k = wr.heap.size) bx bY (2 * i + 1) (xs.wr (k : Int) (bL vn 0)).2 ys) := t6.less (fun k hk => .inl (.inr (by rw [hk]; exact BX1.out.2.2)))
          clear t6 hp6 T5 lt5 o5 BX5
          obtain ⟨x0, fz⟩ := FZ.out.wr_no (k : Int) (by omega) (bL vn 0) C64.out.1 (by omega)
          have FZ2 : Hid (FzR n (i + 1) (xs.wr (k : Int) (bL vn 0)).2 ys) := fz
          have UP : Hid ((xs.wr (k : Int) (bL vn 0)).2.up = false) := by have := fz.up; rw [decide_eq_false hin] at this; exact this
          clear fz
          rw [x0]
          have T8 : Hid (Two w w6 (fun _ => False) bx bY (2 * (i + 1)) (xs.wr (k : Int) (bL vn 0)).2 ys) := (T6.out.more (by omega)).less (fun _ hk => hk.elim)
          clear T6 BX6
          go_wp2_with fail
          refine (two_up T8.out).mono ?_
          rintro e w9 ⟨rfl, hw9⟩
          obtain rfl := hw9.symm
          clear hw9
          rw [UP.out]
          go_wp2_with fail
          go_roundg (60 - (i + 1))
          case measure => omega
          case rel => exact ⟨i + 1, _, _, by omega, rfl, by simp, T8, FZ2⟩
    · have hi0 : 2 * i < 1000000 := by omega
      clear hi60
      rcases (by omega : ¬ i < len ∨ (i < len ∧ ¬ i < 60)) with h0 | ⟨h0, h1⟩
      · have e1 : decide ((i : Int) < (len : Int)) = false := by rw [decide_eq_false_iff_not]; omega
        clear hil
        go_wp2_with fail
        refine (two_crash TW.out (by omega) ka kl kc (zs.take kl) HIN.out.2 HIN.out.1).mono ?_
        rintro e w4 ⟨rfl, t4, _⟩
        have T4 : Hid (Two w w4 (fun _ => False) bx bY (2 * i) (xs.cr (zs.take kl)) ys) := t4
        clear t4 TW
        go_wp2_with fail
        refine (two_crash T4.out.swap (by omega) ka kl kc (zs.take kl) HIN.out.2 HIN.out.1).mono ?_
        rintro e w5 ⟨rfl, t5, _⟩
        have T5 : Hid (Two w w5 (fun _ => False) bx bY (2 * i) (xs.cr (zs.take kl)) (ys.cr (zs.take kl))) := t5.swap
        clear t5 T4
        obtain ⟨m, hm⟩ : ∃ m, min i n = m := ⟨_, rfl⟩
        have hmn : m ≤ n := by omega
        have e5 : decide ((n : Int) < (m : Int)) = false := by rw [decide_eq_false_iff_not]; omega
        have DX : Hid ((xs.cr (zs.take kl)).dn = (m : Int) ∧ (ys.cr (zs.take kl)).dn = (m : Int)) := by rw [← hm]; exact ⟨FZ.out.dx, FZ.out.dy⟩
        have LX : Hid ((xs.cr (zs.take kl)).D = (ys.cr (zs.take kl)).D ∧ (ys.cr (zs.take kl)).D.length = 8) := by
          refine ⟨?_, ?_⟩
          · show crD _ xs.D xs.W = crD _ ys.D ys.W
            rw [FZ.out.D, FZ.out.W]
          · show (crD _ ys.D ys.W).length = 8
            unfold crD
            rw [crs_len]
            exact FZ.out.l8
        have UX : Hid ((xs.cr (zs.take kl)).up = true ∧ (xs.cr (zs.take kl)).fu = -1) := ⟨rfl, rfl⟩
        clear hm FZ
        generalize xs.cr (zs.take kl) = x at *
        generalize ys.cr (zs.take kl) = y at *
        go_wp2_with fail
        refine (two_up T5.out).mono ?_
        rintro e w9 ⟨rfl, hw9⟩
        obtain rfl := hw9.symm
        clear hw9
        rw [UX.out.1]
        go_wp2_with fail
        refine (two_done T5.out).mono ?_
        rintro e w9 ⟨rfl, hw9⟩
        obtain rfl := hw9.symm
        clear hw9
        rw [DX.out.1]
        go_wp2_with fail
        refine (two_done T5.out.swap).mono ?_
        rintro e w9 ⟨rfl, hw9⟩
        obtain rfl := hw9.symm
        clear hw9
        rw [DX.out.2]
        go_wp2_with fail
        refine (two_done T5.out).mono ?_
        rintro e w9 ⟨rfl, hw9⟩
        obtain rfl := hw9.symm
        clear hw9
        rw [DX.out.1]
        go_wp2_with fail
        refine (two_image T5.out).mono ?_
        rintro e w6 ⟨g1, V1, rfl, hV1, im1, b6⟩
        rw [LX.out.1] at hV1 im1 ⊢
        rw [LX.out.2] at hV1 im1 ⊢
        have T6 : Hid (Two w w6 (fun k => False ∨ (w5.heap.size ≤ k ∧ k < w6.heap.size)) bx bY (2 * i) x y) := T5.out.keep b6
        have I6 : Hid (Img w6 w5.heap.size g1 8 V1 y.D) := im1
        clear im1 b6 T5
        go_wp2_with fail
        refine (two_image T6.out.swap).mono ?_
        rintro e w7 ⟨g2, V2, rfl, hV2, im2, b7⟩
        rw [LX.out.2] at hV2 im2 ⊢
        have T7 : Hid (Two w w7 (fun _ => False) bx bY (2 * i) x y) := (T6.out.keep b7).less (fun _ hk => hk.elim)
        have I7 : Hid (Img w7 w5.heap.size g1 8 V1 y.D ∧ Img w7 w6.heap.size g2 8 V2 y.D) := ⟨I6.out.keep b7, im2⟩
        clear im2 b7 T6 I6
        go_wp2_with fail
        go_loopg [131] 8 (fun gg jv wq => ∃ (j : Nat), j ≤ 8 ∧ gg = 8 - j ∧ jv = .int .i64 (j : Int) ∧ Hid (∃ q, wq = w7.drewN q))
        case atStart => exact ⟨0, by omega, rfl, rfl, 0, rfl⟩
        case round =>
          obtain ⟨j, hj8, rfl, rfl, HQ⟩ := hrel
          obtain ⟨q, rfl⟩ := HQ.out
          by_cases hj : j < 8
          · have f1 : decide ((j : Int) < 8) = true := by rw [decide_eq_true_eq]; omega
            obtain ⟨p1, hp1⟩ : ∃ p, V1[j]? = some p := ⟨_, List.getElem?_eq_getElem (by omega)⟩
            obtain ⟨p2, hp2⟩ : ∃ p, V2[j]? = some p := ⟨_, List.getElem?_eq_getElem (by omega)⟩
            obtain ⟨z1, hz1, ho1⟩ := I7.out.1.own j p1 hp1
            obtain ⟨z2, hz2, ho2⟩ := I7.out.2.own j p2 hp2
            obtain rfl : z1 = z2 := Option.some.inj (hz1.symm.trans hz2)
            have s64 : z1.length = 64 := by
              have := ho1.holds.2.1
              simpa [sv] using this
            have k1 : w7.cell? ⟨g1, j, none⟩ = some (.slice (some ⟨p1.1, 0, none⟩) 64 p1.2) := (I7.out.1.row.cellAt j (by omega)).trans (vlS_at V1 8 j p1 hp1)
            have k2 : w7.cell? ⟨g2, j, none⟩ = some (.slice (some ⟨p2.1, 0, none⟩) 64 p2.2) := (I7.out.2.row.cellAt j (by omega)).trans (vlS_at V2 8 j p2 hp2)
            have cv1 : ∀ q, (convert 35 9 (.slice (some ⟨p1.1, 0, none⟩) 64 p1.2)).run Try.prog (w7.drewN q) = .ok (.string (strOfNums z1)) (w7.drewN q) := fun q => conv_str (w := w7.drewN q) ho1.holds.1 _ _ s64
            have cv2 : ∀ q, (convert 35 9 (.slice (some ⟨p2.1, 0, none⟩) 64 p2.2)).run Try.prog (w7.drewN q) = .ok (.string (strOfNums z1)) (w7.drewN q) := fun q => conv_str (w := w7.drewN q) ho2.holds.1 _ _ s64
            have rj : IntKind.i64.wrap ((j : Int) + 1) = (j : Int) + 1 := by rw [IntKind.wrap_i64]; omega
            clear hp1 hp2 hz1 hz2 ho1 ho2 s64
            generalize strOfNums z1 = st at *
            obtain ⟨p1a, p1b⟩ := p1
            obtain ⟨p2a, p2b⟩ := p2
            simp only at k1 k2 cv1 cv2
            go_wp2_with fail
            go_quiet (fail)
            go_wp2_with fail
            go_roundg (8 - (j + 1))
            case measure => omega
            case rel => exact ⟨j + 1, by omega, rfl, by simp, _, rfl⟩
          · have f1 : decide ((j : Int) < 8) = false := by rw [decide_eq_false_iff_not]; omega
            obtain ⟨w8, hw8⟩ : ∃ w8, w7.drewN q = w8 := ⟨_, rfl⟩
            have BW8 : Hid (Below w7.heap.size w7 w8) := by rw [← hw8]; exact ⟨rfl, rfl, rfl, Nat.le_refl _, fun _ _ => rfl⟩
            rw [hw8]
            clear hw8 HQ
            have hmk : ∀ W : World, (Instr.makeSlice 35 (.int .i64 64) (.int .i64 64)).run Try.prog W = .ok (.slice (some ⟨W.heap.size, 0, none⟩) 64 64) (W.alloc (.cells (madeCells #[.int .u8 0] 64) 5)) := fun W => run_make_row' 35 5 (.int .u8 0) 1 Try.underlying35 info8 rfl .i64 .i64 64 (by omega) (by omega) W
            have OZ : Hid (Owned (w8.alloc (.cells (madeCells #[.int .u8 0] 64) 5)) w8.heap.size (.slice (some ⟨w8.heap.size, 0, none⟩) 64 64) (List.replicate 64 0)) := madeO w8 64 (by omega)
            have B9 : Hid (Below w8.heap.size w8 (w8.alloc (.cells (madeCells #[.int .u8 0] 64) 5))) := below1 _ _
            have T8 : Hid (Two w w8 (fun _ => False) bx bY (2 * i) x y) := (T7.out.keep BW8.out).less (fun _ hk => hk.elim)
            generalize madeCells #[.int .u8 0] 64 = mc at *
            have hz0 : x.wr 0 (List.replicate 64 0) = (0, _) := Ds.wr_ok UX.out.1 (by rw [LX.out.1, LX.out.2]; omega) (by simp) (by rw [UX.out.2]; omega)
            go_wp2_with fail
            have T9 := T8.out.keep B9.out
            refine (two_write T9 (by omega) 0 w8.heap.size 64 (List.replicate 64 0) _ OZ.out (by simp) (bytes_of_mem fun z hz => by rw [(List.mem_replicate.1 hz).2]; omega) (.inr ⟨Nat.le_refl _, World.ownsRow.lt OZ.out w8.heap.size rfl |>.2⟩)).mono ?_
            rintro e w10 ⟨rfl, t10, _⟩
            rw [hz0]
            have B10 : Hid (Below w.heap.size w w10) := t10.below
            clear t10 T9 hz0
            go_wp2_with fail
            go_ret
            exact ⟨rfl, B10.out⟩
      · have e1 : decide ((i : Int) < (len : Int)) = true := by rw [decide_eq_true_eq]; omega
        have e2 : decide ((i : Int) < 60) = false := by rw [decide_eq_false_iff_not]; omega
        clear hil
        go_wp2_with fail
        refine (two_crash TW.out (by omega) ka kl kc (zs.take kl) HIN.out.2 HIN.out.1).mono ?_
        rintro e w4 ⟨rfl, t4, _⟩
        have T4 : Hid (Two w w4 (fun _ => False) bx bY (2 * i) (xs.cr (zs.take kl)) ys) := t4
        clear t4 TW
        go_wp2_with fail
        refine (two_crash T4.out.swap (by omega) ka kl kc (zs.take kl) HIN.out.2 HIN.out.1).mono ?_
        rintro e w5 ⟨rfl, t5, _⟩
        have T5 : Hid (Two w w5 (fun _ => False) bx bY (2 * i) (xs.cr (zs.take kl)) (ys.cr (zs.take kl))) := t5.swap
        clear t5 T4
        obtain ⟨m, hm⟩ : ∃ m, min i n = m := ⟨_, rfl⟩
        have hmn : m ≤ n := by omega
        have e5 : decide ((n : Int) < (m : Int)) = false := by rw [decide_eq_false_iff_not]; omega
        have DX : Hid ((xs.cr (zs.take kl)).dn = (m : Int) ∧ (ys.cr (zs.take kl)).dn = (m : Int)) := by rw [← hm]; exact ⟨FZ.out.dx, FZ.out.dy⟩
        have LX : Hid ((xs.cr (zs.take kl)).D = (ys.cr (zs.take kl)).D ∧ (ys.cr (zs.take kl)).D.length = 8) := by
          refine ⟨?_, ?_⟩
          · show crD _ xs.D xs.W = crD _ ys.D ys.W
            rw [FZ.out.D, FZ.out.W]
          · show (crD _ ys.D ys.W).length = 8
            unfold crD
            rw [crs_len]
            exact FZ.out.l8
        have UX : Hid ((xs.cr (zs.take kl)).up = true ∧ (xs.cr (zs.take kl)).fu = -1) := ⟨rfl, rfl⟩
        clear hm FZ
        generalize xs.cr (zs.take kl) = x at *
        generalize ys.cr (zs.take kl) = y at *
        go_wp2_with fail
        refine (two_up T5.out).mono ?_
        rintro e w9 ⟨rfl, hw9⟩
        obtain rfl := hw9.symm
        clear hw9
        rw [UX.out.1]
        go_wp2_with fail
        refine (two_done T5.out).mono ?_
        rintro e w9 ⟨rfl, hw9⟩
        obtain rfl := hw9.symm
        clear hw9
        rw [DX.out.1]
        go_wp2_with fail
        refine (two_done T5.out.swap).mono ?_
        rintro e w9 ⟨rfl, hw9⟩
        obtain rfl := hw9.symm
        clear hw9
        rw [DX.out.2]
        go_wp2_with fail
        refine (two_done T5.out).mono ?_
        rintro e w9 ⟨rfl, hw9⟩
        obtain rfl := hw9.symm
        clear hw9
        rw [DX.out.1]
        go_wp2_with fail
        refine (two_image T5.out).mono ?_
        rintro e w6 ⟨g1, V1, rfl, hV1, im1, b6⟩
        rw [LX.out.1] at hV1 im1 ⊢
        rw [LX.out.2] at hV1 im1 ⊢
        have T6 : Hid (Two w w6 (fun k => False ∨ (w5.heap.size ≤ k ∧ k < w6.heap.size)) bx bY (2 * i) x y) := T5.out.keep b6
        have I6 : Hid (Img w6 w5.heap.size g1 8 V1 y.D) := im1
        clear im1 b6 T5
        go_wp2_with fail
        refine (two_image T6.out.swap).mono ?_
        rintro e w7 ⟨g2, V2, rfl, hV2, im2, b7⟩
        rw [LX.out.2] at hV2 im2 ⊢
        have T7 : Hid (Two w w7 (fun _ => False) bx bY (2 * i) x y) := (T6.out.keep b7).less (fun _ hk => hk.elim)
        have I7 : Hid (Img w7 w5.heap.size g1 8 V1 y.D ∧ Img w7 w6.heap.size g2 8 V2 y.D) := ⟨I6.out.keep b7, im2⟩
        clear im2 b7 T6 I6
        go_wp2_with fail
        go_loopg [131] 8 (fun gg jv wq => ∃ (j : Nat), j ≤ 8 ∧ gg = 8 - j ∧ jv = .int .i64 (j : Int) ∧ Hid (∃ q, wq = w7.drewN q))
        case atStart => exact ⟨0, by omega, rfl, rfl, 0, rfl⟩
        case round =>
          obtain ⟨j, hj8, rfl, rfl, HQ⟩ := hrel
          obtain ⟨q, rfl⟩ := HQ.out
          by_cases hj : j < 8
          · have f1 : decide ((j : Int) < 8) = true := by rw [decide_eq_true_eq]; omega
            obtain ⟨p1, hp1⟩ : ∃ p, V1[j]? = some p := ⟨_, List.getElem?_eq_getElem (by omega)⟩
            obtain ⟨p2, hp2⟩ : ∃ p, V2[j]? = some p := ⟨_, List.getElem?_eq_getElem (by omega)⟩
            obtain ⟨z1, hz1, ho1⟩ := I7.out.1.own j p1 hp1
            obtain ⟨z2, hz2, ho2⟩ := I7.out.2.own j p2 hp2
            obtain rfl : z1 = z2 := Option.some.inj (hz1.symm.trans hz2)
            have s64 : z1.length = 64 := by
              have := ho1.holds.2.1
              simpa [sv] using this
            have k1 : w7.cell? ⟨g1, j, none⟩ = some (.slice (some ⟨p1.1, 0, none⟩) 64 p1.2) := (I7.out.1.row.cellAt j (by omega)).trans (vlS_at V1 8 j p1 hp1)
            have k2 : w7.cell? ⟨g2, j, none⟩ = some (.slice (some ⟨p2.1, 0, none⟩) 64 p2.2) := (I7.out.2.row.cellAt j (by omega)).trans (vlS_at V2 8 j p2 hp2)
            have cv1 : ∀ q, (convert 35 9 (.slice (some ⟨p1.1, 0, none⟩) 64 p1.2)).run Try.prog (w7.drewN q) = .ok (.string (strOfNums z1)) (w7.drewN q) := fun q => conv_str (w := w7.drewN q) ho1.holds.1 _ _ s64
            have cv2 : ∀ q, (convert 35 9 (.slice (some ⟨p2.1, 0, none⟩) 64 p2.2)).run Try.prog (w7.drewN q) = .ok (.string (strOfNums z1)) (w7.drewN q) := fun q => conv_str (w := w7.drewN q) ho2.holds.1 _ _ s64
            have rj : IntKind.i64.wrap ((j : Int) + 1) = (j : Int) + 1 := by rw [IntKind.wrap_i64]; omega
            clear hp1 hp2 hz1 hz2 ho1 ho2 s64
            generalize strOfNums z1 = st at *
            obtain ⟨p1a, p1b⟩ := p1
            obtain ⟨p2a, p2b⟩ := p2
            simp only at k1 k2 cv1 cv2
            go_wp2_with fail
            go_quiet (fail)
            go_wp2_with fail
            go_roundg (8 - (j + 1))
            case measure => omega
            case rel => exact ⟨j + 1, by omega, rfl, by simp, _, rfl⟩
          · have f1 : decide ((j : Int) < 8) = false := by rw [decide_eq_false_iff_not]; omega
            obtain ⟨w8, hw8⟩ : ∃ w8, w7.drewN q = w8 := ⟨_, rfl⟩
            have BW8 : Hid (Below w7.heap.size w7 w8) := by rw [← hw8]; exact ⟨rfl, rfl, rfl, Nat.le_refl _, fun _ _ => rfl⟩
            rw [hw8]
            clear hw8 HQ
            have hmk : ∀ W : World, (Instr.makeSlice 35 (.int .i64 64) (.int .i64 64)).run Try.prog W = .ok (.slice (some ⟨W.heap.size, 0, none⟩) 64 64) (W.alloc (.cells (madeCells #[.int .u8 0] 64) 5)) := fun W => run_make_row' 35 5 (.int .u8 0) 1 Try.underlying35 info8 rfl .i64 .i64 64 (by omega) (by omega) W
            have OZ : Hid (Owned (w8.alloc (.cells (madeCells #[.int .u8 0] 64) 5)) w8.heap.size (.slice (some ⟨w8.heap.size, 0, none⟩) 64 64) (List.replicate 64 0)) := madeO w8 64 (by omega)
            have B9 : Hid (Below w8.heap.size w8 (w8.alloc (.cells (madeCells #[.int .u8 0] 64) 5))) := below1 _ _
            have T8 : Hid (Two w w8 (fun _ => False) bx bY (2 * i) x y) := (T7.out.keep BW8.out).less (fun _ hk => hk.elim)
            generalize madeCells #[.int .u8 0] 64 = mc at *
            have hz0 : x.wr 0 (List.replicate 64 0) = (0, _) := Ds.wr_ok UX.out.1 (by rw [LX.out.1, LX.out.2]; omega) (by simp) (by rw [UX.out.2]; omega)
            go_wp2_with fail
            have T9 := T8.out.keep B9.out
            refine (two_write T9 (by omega) 0 w8.heap.size 64 (List.replicate 64 0) _ OZ.out (by simp) (bytes_of_mem fun z hz => by rw [(List.mem_replicate.1 hz).2]; omega) (.inr ⟨Nat.le_refl _, World.ownsRow.lt OZ.out w8.heap.size rfl |>.2⟩)).mono ?_
            rintro e w10 ⟨rfl, t10, _⟩
            rw [hz0]
            have B10 : Hid (Below w.heap.size w w10) := t10.below
            clear t10 T9 hz0
            go_wp2_with fail
            go_ret
            exact ⟨rfl, B10.out⟩
end Go.Proofs.Ytibgfjnddhfgpaa
