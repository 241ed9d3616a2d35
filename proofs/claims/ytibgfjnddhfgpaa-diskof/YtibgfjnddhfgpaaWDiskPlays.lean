/- DiskPlays' walk. Written by gen_plays.py. -/
import Derived.Test.YtibgfjnddhfgpaaDkDo
import Derived.Test.YtibgfjnddhfgpaaDkAd
namespace Go.Proofs.Ytibgfjnddhfgpaa
open Go.ChangeShapes Go.WideShapes Go.ChangeAt Go.RowKit Go.Deep Go.Maps
set_option linter.unusedVariables false
theorem wa_le (n : Nat) (W : Int → List (List Int)) : (wa n W).length ≤ n := by
  unfold wa wb
  rw [List.length_map]
  exact Nat.le_trans (List.length_filter_le _ _) (by simp)
theorem Pr.same {w wr : World} {P : Nat → Prop} {d r N : Nat} {s : Ds} (T : Pr w wr P d r N s s) (hN : N ≤ 1000000) : Calls Try.prog 15 #[.pointer (some ⟨d, 0, none⟩), .pointer (some ⟨r, 0, none⟩)] wr fun e w' => e = .returned (.bool true) ∧ Below wr.heap.size wr w' := by
  have h4 : s.D.length ≤ 4096 := by
    obtain ⟨_, _, hx, _⟩ := T
    exact hx.is64.2.2.2
  exact same_is T hN h4 (by have := wa_le s.D.length s.W; omega)
theorem Pr.swap {w wr : World} {P F2 : Nat → Prop} {d d2 r N : Nat} {sd s sr : Ds} (T : Pr w wr P d r N sd sr) (hP : ∀ k, F2 k → P k) (hd : Dk wr F2 d2 N s) (hF : ∀ k, F2 k → w.heap.size ≤ k) : Pr w wr (fun _ => False) d2 r N s sr := by
  obtain ⟨Fx, Fy, hx, hy, h1, h2, h3, h4, h5⟩ := T
  exact ⟨F2, Fy, hd, hy, fun k hk => (h5 k (hP k hk)).2.2, hF, h3, h4, fun k hk => hk.elim⟩
set_option maxRecDepth 100000 in
set_option maxHeartbeats 8000000 in
theorem diskPlays_walk (n : Int) (a : Option Addr) (len cap : Nat) (A : Nat → Av) (w : World) (hn : (Lit.int .i64 n).wf = true) (hA : InA w a len A) (hX : ∀ i, i < len → ((A i).ka = none → (A i).kc = 0) ∧ (A i).kl ≤ 17592186044416) :
    Calls Try.prog 3 #[.int .i64 n, .slice a len cap] w fun e w' => e = .returned (.bool true) ∧ Below w.heap.size w w' := by
  have HA : Hid (InA w a len A) := hA
  have HX : Hid (∀ i, i < len → ((A i).ka = none → (A i).kc = 0) ∧ (A i).kl ≤ 17592186044416) := hX
  have KN : Hid (∀ W, Calls Try.prog 9 #[.int .i64 1] W fun e w' => ∃ b, e = .returned (.tuple #[.pointer (some ⟨b, 0, none⟩), .int .i64 0]) ∧ (Calls Try.prog 16 #[.pointer (some ⟨b, 0, none⟩)] w' fun e w2 => e = .returned (.int .i64 1) ∧ w2 = w') ∧ Below W.heap.size W w') := fun W => by
    refine (dk_new 1 (by omega) (by omega) W).mono ?_
    rintro e w' ⟨b, F, rfl, hd, hb, _⟩
    exact ⟨b, rfl, dk_blocks w' F b 0 (Ds.new 1) hd, hb⟩
  clear hA hX hn
  go_enter Try.func3, Try.ntmps3
  by_cases hb : ¬ (1 ≤ n ∧ n ≤ 4096)
  · by_cases h4 : 40 < n
    · have f1 : decide (40 < n) = true := by rw [decide_eq_true_eq]; exact h4
      have f2 : decide (n ≤ 4096) = false := by rw [decide_eq_false_iff_not]; omega
      go_wp2_with fail
      refine (new_bad n hb w).mono ?_
      rintro e w1 ⟨rfl, rfl⟩
      go_wp2_with fail
      refine (rnew_bad n hb w1).mono ?_
      rintro e w2 ⟨rfl, rfl⟩
      clear f1 f2 hb
      go_wp2_with fail
      go_loopg [9] 0 (fun gg iv wr => gg = 0 ∧ iv = .int .i64 0 ∧ Hid (Below w2.heap.size w2 wr))
      case atStart => exact ⟨rfl, rfl, Below.refl _ _⟩
      case round =>
        obtain ⟨rfl, rfl, BW⟩ := hrel
        by_cases h0 : len = 0
        · have e1 : decide ((0 : Int) < (len : Int)) = false := by rw [decide_eq_false_iff_not]; omega
          go_wp2_with fail
          refine (KN.out _).mono ?_
          rintro e w8 ⟨b1, rfl, KB1, hb1⟩
          have B8 : Hid (Below w2.heap.size w2 w8) := BW.out.trans (hb1.mono BW.out.size)
          have KB2 : Hid (Calls Try.prog 16 #[.pointer (some ⟨b1, 0, none⟩)] w8 fun e w' => e = .returned (.int .i64 1) ∧ w' = w8) := KB1
          clear KB1 hb1
          go_wp2_with fail
          refine KB2.out.mono ?_
          rintro e w9 ⟨rfl, rfl⟩
          go_wp2_with fail
          go_ret
          exact ⟨rfl, B8.out⟩
        · have e1 : decide ((0 : Int) < (len : Int)) = true := by rw [decide_eq_true_eq]; omega
          go_wp2_with fail
          refine (KN.out _).mono ?_
          rintro e w8 ⟨b1, rfl, KB1, hb1⟩
          have B8 : Hid (Below w2.heap.size w2 w8) := BW.out.trans (hb1.mono BW.out.size)
          have KB2 : Hid (Calls Try.prog 16 #[.pointer (some ⟨b1, 0, none⟩)] w8 fun e w' => e = .returned (.int .i64 1) ∧ w' = w8) := KB1
          clear KB1 hb1
          go_wp2_with fail
          refine KB2.out.mono ?_
          rintro e w9 ⟨rfl, rfl⟩
          go_wp2_with fail
          go_ret
          exact ⟨rfl, B8.out⟩
    · have f1 : decide (40 < n) = false := by rw [decide_eq_false_iff_not]; omega
      have f2 : True := trivial
      go_wp2_with fail
      refine (new_bad n hb w).mono ?_
      rintro e w1 ⟨rfl, rfl⟩
      go_wp2_with fail
      refine (rnew_bad n hb w1).mono ?_
      rintro e w2 ⟨rfl, rfl⟩
      clear f1 f2 hb
      go_wp2_with fail
      go_loopg [9] 0 (fun gg iv wr => gg = 0 ∧ iv = .int .i64 0 ∧ Hid (Below w2.heap.size w2 wr))
      case atStart => exact ⟨rfl, rfl, Below.refl _ _⟩
      case round =>
        obtain ⟨rfl, rfl, BW⟩ := hrel
        by_cases h0 : len = 0
        · have e1 : decide ((0 : Int) < (len : Int)) = false := by rw [decide_eq_false_iff_not]; omega
          go_wp2_with fail
          refine (KN.out _).mono ?_
          rintro e w8 ⟨b1, rfl, KB1, hb1⟩
          have B8 : Hid (Below w2.heap.size w2 w8) := BW.out.trans (hb1.mono BW.out.size)
          have KB2 : Hid (Calls Try.prog 16 #[.pointer (some ⟨b1, 0, none⟩)] w8 fun e w' => e = .returned (.int .i64 1) ∧ w' = w8) := KB1
          clear KB1 hb1
          go_wp2_with fail
          refine KB2.out.mono ?_
          rintro e w9 ⟨rfl, rfl⟩
          go_wp2_with fail
          go_ret
          exact ⟨rfl, B8.out⟩
        · have e1 : decide ((0 : Int) < (len : Int)) = true := by rw [decide_eq_true_eq]; omega
          go_wp2_with fail
          refine (KN.out _).mono ?_
          rintro e w8 ⟨b1, rfl, KB1, hb1⟩
          have B8 : Hid (Below w2.heap.size w2 w8) := BW.out.trans (hb1.mono BW.out.size)
          have KB2 : Hid (Calls Try.prog 16 #[.pointer (some ⟨b1, 0, none⟩)] w8 fun e w' => e = .returned (.int .i64 1) ∧ w' = w8) := KB1
          clear KB1 hb1
          go_wp2_with fail
          refine KB2.out.mono ?_
          rintro e w9 ⟨rfl, rfl⟩
          go_wp2_with fail
          go_ret
          exact ⟨rfl, B8.out⟩
  · have hb2 : 1 ≤ n ∧ n ≤ 4096 := by omega
    clear hb
    by_cases h4 : 40 < n
    · have f1 : decide (40 < n) = true := by rw [decide_eq_true_eq]; exact h4
      have f2 : decide (n ≤ 4096) = true := by rw [decide_eq_true_eq]; omega
      obtain ⟨m, hM, hm⟩ : ∃ m : Nat, (40 : Int) = (m : Int) ∧ 1 ≤ m ∧ m ≤ 4096 := ⟨40, rfl, by omega, by omega⟩
      have KD : Hid (∀ W, Calls Try.prog 9 #[.int .i64 40] W fun e w' => ∃ b F, e = .returned (.tuple #[.pointer (some ⟨b, 0, none⟩), .int .i64 0]) ∧ Dk w' F b 0 (Ds.new m) ∧ Below W.heap.size W w' ∧ ∀ k, F k → W.heap.size ≤ k) := fun W => by rw [hM]; exact dk_new m hm.1 hm.2 W
      have KR : Hid (∀ W, Calls Try.prog 10 #[.int .i64 40] W fun e w' => ∃ b F, e = .returned (.tuple #[.pointer (some ⟨b, 0, none⟩), .int .i64 0]) ∧ Rk w' F b 0 (Ds.new m) ∧ Below W.heap.size W w' ∧ ∀ k, F k → W.heap.size ≤ k) := fun W => by rw [hM]; exact rk_new m hm.1 hm.2 W
      clear hM
      go_wp2_with fail
      refine (KD.out w).mono ?_
      rintro e w1 ⟨d0, F1, rfl, hd1, hb1, hF1⟩
      have D1 : Hid (Dk w1 F1 d0 0 (Ds.new m) ∧ Below w.heap.size w w1 ∧ ∀ k, F1 k → w.heap.size ≤ k) := ⟨hd1, hb1, hF1⟩
      clear hd1 hb1 hF1
      go_wp2_with fail
      refine (KR.out w1).mono ?_
      rintro e w2 ⟨r, F2, rfl, hr, hb2, hF2⟩
      have T0 : Hid (Pr w w2 (fun _ => False) d0 r 0 (Ds.new m) (Ds.new m)) := ⟨F1, F2, D1.out.1.keep hb2, hr, fun k h1 h2 => by have := D1.out.1.lt k h1; have := hF2 k h2; omega, D1.out.2.2, fun k hk => Nat.le_trans D1.out.2.1.size (hF2 k hk), D1.out.2.1.trans (hb2.mono D1.out.2.1.size), fun k hk => hk.elim⟩
      generalize Ds.new m = s0 at *
      clear hr hb2 hF2 D1 KD KR
      go_wp2_with fail
      go_loopg [5, 9] 60 (fun gg dv iv wr => ∃ (i d : Nat) (s : Ds), i ≤ 60 ∧ gg = 60 - i ∧ dv = .pointer (some ⟨d, 0, none⟩) ∧ iv = .int .i64 (i : Int) ∧ Hid (Pr w wr (fun _ => False) d r (2 * i) s s))
      case atStart => exact ⟨0, d0, s0, by omega, rfl, rfl, rfl, T0⟩
      case round =>
        obtain ⟨i, d, s, hi60, rfl, rfl, rfl, TW⟩ := hrel
        clear T0
        by_cases hil : i < len ∧ i < 60
        · have e1 : decide ((i : Int) < (len : Int)) = true := by rw [decide_eq_true_eq]; omega
          have e2 : decide ((i : Int) < 60) = true := by rw [decide_eq_true_eq]; omega
          have ri : IntKind.i64.wrap ((i : Int) + 1) = (i : Int) + 1 := by rw [IntKind.wrap_i64]; omega
          have hx := HX.out i hil.1
          have HK : Hid ((A i).z.length = (A i).kl ∧ InK w (A i).ka (A i).z ∧ ((A i).ka = none → (A i).kc = 0) ∧ (A i).kl ≤ 17592186044416) := ⟨(HA.out.2 i hil.1).2.2.2.2.1, (HA.out.2 i hil.1).2.2.2.2.2, hx⟩
          have hia := HA.out.below TW.out.below
          obtain ⟨ab, off, rfl, hab, hcells⟩ := hia.1 (by omega)
          obtain ⟨c0, c1, c2, c3, c4⟩ := hcells i hil.1
          obtain ⟨b0, b1, b2, b3, b4, b5⟩ := hia.2 i hil.1
          generalize A i = v at *
          obtain ⟨vk, va, vn, vl, vka, vkl, vkc, vz⟩ := v
          simp only at c0 c1 c2 c3 c4 b0 b1 b2 b3 HK
          clear hia hcells b4 b5 hx
          by_cases hk5 : vk = 5
          · subst hk5
            go_wp2_with fail
            refine (pr_copy TW.out (by omega)).mono ?_
            rintro e w3 ⟨d2, rfl, _, F2, hd2, hF2, t3⟩
            have D3 : Hid (Dk w3 F2 d2 (2 * i) s ∧ ∀ k, F2 k → w.heap.size ≤ k) := ⟨hd2, fun k hk => Nat.le_trans TW.out.below.size (hF2 k hk)⟩
            have T3 : Hid (Pr w w3 F2 d r (2 * i) s s) := t3
            have hmk : ∀ W : World, (Instr.makeSlice 35 (.int .i64 64) (.int .i64 64)).run Try.prog W = .ok (.slice (some ⟨W.heap.size, 0, none⟩) 64 64) (W.alloc (.cells (madeCells #[.int .u8 0] 64) 5)) := fun W => run_make_row' 35 5 (.int .u8 0) 1 Try.underlying35 info8 rfl .i64 .i64 64 (by omega) (by omega) W
            have OM : Hid (Owned (w3.alloc (.cells (madeCells #[.int .u8 0] 64) 5)) w3.heap.size (.slice (some ⟨w3.heap.size, 0, none⟩) 64 64) (List.replicate 64 0)) := madeO w3 64 (by omega)
            have T4 : Hid (Pr w (w3.alloc (.cells (madeCells #[.int .u8 0] 64) 5)) (fun k => F2 k ∨ k = w3.heap.size) d r (2 * i) s s) := (T3.out.keep (below1 _ _)).less (fun q hq => by
              rcases hq with h | h
              · exact .inl h
              · exact .inr ⟨by omega, by rw [h]; simp⟩)
            have D4 : Hid (Dk (w3.alloc (.cells (madeCells #[.int .u8 0] 64) 5)) F2 d2 (2 * i) s) := D3.out.1.keep (below1 _ _)
            clear hd2 hF2 t3
            generalize hW4 : w3.alloc (.cells (madeCells #[.int .u8 0] 64) 5) = w4 at *
            have hm4 := hmk w3
            rw [hW4] at hm4
            clear hmk hW4
            go_wp2_with fail
            refine (pr_write T4.out (by omega) 0 w3.heap.size 64 64 _ w3.heap.size OM.out (by simp) (bytes_of_mem fun x hx => by rw [(List.mem_replicate.1 hx).2]; omega) (.inr rfl)).mono ?_
            rintro e w5 ⟨rfl, t5, hp5, hs5⟩
            obtain ⟨s5, hs5e⟩ : ∃ x, (s.wr 0 (List.replicate 64 0)).2 = x := ⟨_, rfl⟩
            rw [hs5e] at t5
            have T5 : Hid (Pr w w5 (fun k => F2 k ∨ k = w3.heap.size) d r (2 * i + 1) s5 s) := t5
            have D5 : Hid (Dk w5 F2 d2 (2 * i) s) := D4.out.kept hs5 (fun k hk => hp5 k (.inl hk)) (t5.below.os.trans T4.out.below.os.symm) (t5.below.tape.trans T4.out.below.tape.symm) (t5.below.output.trans T4.out.below.output.symm)
            clear t5 hp5 hs5 hs5e hm4
            generalize (s.wr 0 (List.replicate 64 0)).1 = an at *
            go_wp2_with fail
            refine (pr_flush T5.out (by omega)).mono ?_
            rintro e w6 ⟨rfl, t6, hp6, hs6⟩
            have T6 : Hid (Pr w w6 (fun _ => False) d2 r (2 * i + 2) s s) := t6.swap (fun k hk => .inl hk) ((D5.out.kept hs6 (fun k hk => hp6 k (.inl hk)) (t6.below.os.trans T5.out.below.os.symm) (t6.below.tape.trans T5.out.below.tape.symm) (t6.below.output.trans T5.out.below.output.symm)).more (by omega)) D3.out.2
            clear t6 hp6 hs6
            generalize (s5.fl).1 = an6 at *
            have KS : Hid (Calls Try.prog 15 #[.pointer (some ⟨d2, 0, none⟩), .pointer (some ⟨r, 0, none⟩)] w6 fun e w' => e = .returned (.bool true) ∧ Below w6.heap.size w6 w') := T6.out.same (by omega)
            go_wp2_with fail
            refine KS.out.mono ?_
            rintro e w7 ⟨rfl, hb7⟩
            have T7 : Hid (Pr w w7 (fun _ => False) d2 r (2 * (i + 1)) s s) := (T6.out.keep hb7).less (fun _ h => h.elim)
            clear hb7
            go_wp2_with fail
            go_roundg (60 - (i + 1))
            case measure => omega
            case rel => exact ⟨i + 1, d2, s, by omega, rfl, rfl, by simp, T7⟩
          · have e5 : (vk == 5) = false := by simp [hk5]
            have KDo : Hid (Calls Try.prog 14 #[.pointer (some ⟨d, 0, none⟩), .pointer (some ⟨r, 0, none⟩), .agg #[.int .i64 vk, .int .i64 va, .int .i64 vn, .int .i64 vl, .slice vka vkl vkc]] wr fun e w' => e = .returned (.bool true) ∧ ∃ s', Pr w w' (fun _ => False) d r (2 * i + 2) s' s') := does_is TW.out (by omega) vk va vn vl vka vkl vkc vz b0 b1 b2 b3 HK.out.1 HK.out.2.1 HK.out.2.2.1 HK.out.2.2.2
            clear b0 b1 b2 b3
            go_wp2_with fail
            refine KDo.out.mono ?_
            rintro e w6 ⟨rfl, s6, t6⟩
            have T6 : Hid (Pr w w6 (fun _ => False) d r (2 * i + 2) s6 s6) := t6
            clear t6 c0 c1 c2 c3 c4 KDo
            have KS : Hid (Calls Try.prog 15 #[.pointer (some ⟨d, 0, none⟩), .pointer (some ⟨r, 0, none⟩)] w6 fun e w' => e = .returned (.bool true) ∧ Below w6.heap.size w6 w') := T6.out.same (by omega)
            go_wp2_with fail
            refine KS.out.mono ?_
            rintro e w7 ⟨rfl, hb7⟩
            have T7 : Hid (Pr w w7 (fun _ => False) d r (2 * (i + 1)) s6 s6) := (T6.out.keep hb7).less (fun _ h => h.elim)
            clear hb7
            go_wp2_with fail
            go_roundg (60 - (i + 1))
            case measure => omega
            case rel => exact ⟨i + 1, d, s6, by omega, rfl, rfl, by simp, T7⟩
        · rcases (by omega : ¬ i < len ∨ (i < len ∧ ¬ i < 60)) with h0 | ⟨h0, h1⟩
          · have e1 : decide ((i : Int) < (len : Int)) = false := by rw [decide_eq_false_iff_not]; omega
            clear hil
            go_wp2_with fail
            refine (KN.out _).mono ?_
            rintro e w8 ⟨b1, rfl, KB1, hb1⟩
            have B8 : Hid (Below w.heap.size w w8) := TW.out.below.trans (hb1.mono TW.out.below.size)
            have KB2 : Hid (Calls Try.prog 16 #[.pointer (some ⟨b1, 0, none⟩)] w8 fun e w' => e = .returned (.int .i64 1) ∧ w' = w8) := KB1
            clear KB1 hb1
            go_wp2_with fail
            refine KB2.out.mono ?_
            rintro e w9 ⟨rfl, rfl⟩
            go_wp2_with fail
            go_ret
            exact ⟨rfl, B8.out⟩
          · have e1 : decide ((i : Int) < (len : Int)) = true := by rw [decide_eq_true_eq]; omega
            have e2 : decide ((i : Int) < 60) = false := by rw [decide_eq_false_iff_not]; omega
            clear hil
            go_wp2_with fail
            refine (KN.out _).mono ?_
            rintro e w8 ⟨b1, rfl, KB1, hb1⟩
            have B8 : Hid (Below w.heap.size w w8) := TW.out.below.trans (hb1.mono TW.out.below.size)
            have KB2 : Hid (Calls Try.prog 16 #[.pointer (some ⟨b1, 0, none⟩)] w8 fun e w' => e = .returned (.int .i64 1) ∧ w' = w8) := KB1
            clear KB1 hb1
            go_wp2_with fail
            refine KB2.out.mono ?_
            rintro e w9 ⟨rfl, rfl⟩
            go_wp2_with fail
            go_ret
            exact ⟨rfl, B8.out⟩
    · have f1 : decide (40 < n) = false := by rw [decide_eq_false_iff_not]; omega
      obtain ⟨m, hM, hm⟩ : ∃ m : Nat, n = (m : Int) ∧ 1 ≤ m ∧ m ≤ 4096 := ⟨n.toNat, by omega, by omega, by omega⟩
      have KD : Hid (∀ W, Calls Try.prog 9 #[.int .i64 n] W fun e w' => ∃ b F, e = .returned (.tuple #[.pointer (some ⟨b, 0, none⟩), .int .i64 0]) ∧ Dk w' F b 0 (Ds.new m) ∧ Below W.heap.size W w' ∧ ∀ k, F k → W.heap.size ≤ k) := fun W => by rw [hM]; exact dk_new m hm.1 hm.2 W
      have KR : Hid (∀ W, Calls Try.prog 10 #[.int .i64 n] W fun e w' => ∃ b F, e = .returned (.tuple #[.pointer (some ⟨b, 0, none⟩), .int .i64 0]) ∧ Rk w' F b 0 (Ds.new m) ∧ Below W.heap.size W w' ∧ ∀ k, F k → W.heap.size ≤ k) := fun W => by rw [hM]; exact rk_new m hm.1 hm.2 W
      clear hM
      go_wp2_with fail
      refine (KD.out w).mono ?_
      rintro e w1 ⟨d0, F1, rfl, hd1, hb1, hF1⟩
      have D1 : Hid (Dk w1 F1 d0 0 (Ds.new m) ∧ Below w.heap.size w w1 ∧ ∀ k, F1 k → w.heap.size ≤ k) := ⟨hd1, hb1, hF1⟩
      clear hd1 hb1 hF1
      go_wp2_with fail
      refine (KR.out w1).mono ?_
      rintro e w2 ⟨r, F2, rfl, hr, hb2, hF2⟩
      have T0 : Hid (Pr w w2 (fun _ => False) d0 r 0 (Ds.new m) (Ds.new m)) := ⟨F1, F2, D1.out.1.keep hb2, hr, fun k h1 h2 => by have := D1.out.1.lt k h1; have := hF2 k h2; omega, D1.out.2.2, fun k hk => Nat.le_trans D1.out.2.1.size (hF2 k hk), D1.out.2.1.trans (hb2.mono D1.out.2.1.size), fun k hk => hk.elim⟩
      generalize Ds.new m = s0 at *
      clear hr hb2 hF2 D1 KD KR
      go_wp2_with fail
      go_loopg [5, 9] 60 (fun gg dv iv wr => ∃ (i d : Nat) (s : Ds), i ≤ 60 ∧ gg = 60 - i ∧ dv = .pointer (some ⟨d, 0, none⟩) ∧ iv = .int .i64 (i : Int) ∧ Hid (Pr w wr (fun _ => False) d r (2 * i) s s))
      case atStart => exact ⟨0, d0, s0, by omega, rfl, rfl, rfl, T0⟩
      case round =>
        obtain ⟨i, d, s, hi60, rfl, rfl, rfl, TW⟩ := hrel
        clear T0
        by_cases hil : i < len ∧ i < 60
        · have e1 : decide ((i : Int) < (len : Int)) = true := by rw [decide_eq_true_eq]; omega
          have e2 : decide ((i : Int) < 60) = true := by rw [decide_eq_true_eq]; omega
          have ri : IntKind.i64.wrap ((i : Int) + 1) = (i : Int) + 1 := by rw [IntKind.wrap_i64]; omega
          have hx := HX.out i hil.1
          have HK : Hid ((A i).z.length = (A i).kl ∧ InK w (A i).ka (A i).z ∧ ((A i).ka = none → (A i).kc = 0) ∧ (A i).kl ≤ 17592186044416) := ⟨(HA.out.2 i hil.1).2.2.2.2.1, (HA.out.2 i hil.1).2.2.2.2.2, hx⟩
          have hia := HA.out.below TW.out.below
          obtain ⟨ab, off, rfl, hab, hcells⟩ := hia.1 (by omega)
          obtain ⟨c0, c1, c2, c3, c4⟩ := hcells i hil.1
          obtain ⟨b0, b1, b2, b3, b4, b5⟩ := hia.2 i hil.1
          generalize A i = v at *
          obtain ⟨vk, va, vn, vl, vka, vkl, vkc, vz⟩ := v
          simp only at c0 c1 c2 c3 c4 b0 b1 b2 b3 HK
          clear hia hcells b4 b5 hx
          by_cases hk5 : vk = 5
          · subst hk5
            go_wp2_with fail
            refine (pr_copy TW.out (by omega)).mono ?_
            rintro e w3 ⟨d2, rfl, _, F2, hd2, hF2, t3⟩
            have D3 : Hid (Dk w3 F2 d2 (2 * i) s ∧ ∀ k, F2 k → w.heap.size ≤ k) := ⟨hd2, fun k hk => Nat.le_trans TW.out.below.size (hF2 k hk)⟩
            have T3 : Hid (Pr w w3 F2 d r (2 * i) s s) := t3
            have hmk : ∀ W : World, (Instr.makeSlice 35 (.int .i64 64) (.int .i64 64)).run Try.prog W = .ok (.slice (some ⟨W.heap.size, 0, none⟩) 64 64) (W.alloc (.cells (madeCells #[.int .u8 0] 64) 5)) := fun W => run_make_row' 35 5 (.int .u8 0) 1 Try.underlying35 info8 rfl .i64 .i64 64 (by omega) (by omega) W
            have OM : Hid (Owned (w3.alloc (.cells (madeCells #[.int .u8 0] 64) 5)) w3.heap.size (.slice (some ⟨w3.heap.size, 0, none⟩) 64 64) (List.replicate 64 0)) := madeO w3 64 (by omega)
            have T4 : Hid (Pr w (w3.alloc (.cells (madeCells #[.int .u8 0] 64) 5)) (fun k => F2 k ∨ k = w3.heap.size) d r (2 * i) s s) := (T3.out.keep (below1 _ _)).less (fun q hq => by
              rcases hq with h | h
              · exact .inl h
              · exact .inr ⟨by omega, by rw [h]; simp⟩)
            have D4 : Hid (Dk (w3.alloc (.cells (madeCells #[.int .u8 0] 64) 5)) F2 d2 (2 * i) s) := D3.out.1.keep (below1 _ _)
            clear hd2 hF2 t3
            generalize hW4 : w3.alloc (.cells (madeCells #[.int .u8 0] 64) 5) = w4 at *
            have hm4 := hmk w3
            rw [hW4] at hm4
            clear hmk hW4
            go_wp2_with fail
            refine (pr_write T4.out (by omega) 0 w3.heap.size 64 64 _ w3.heap.size OM.out (by simp) (bytes_of_mem fun x hx => by rw [(List.mem_replicate.1 hx).2]; omega) (.inr rfl)).mono ?_
            rintro e w5 ⟨rfl, t5, hp5, hs5⟩
            obtain ⟨s5, hs5e⟩ : ∃ x, (s.wr 0 (List.replicate 64 0)).2 = x := ⟨_, rfl⟩
            rw [hs5e] at t5
            have T5 : Hid (Pr w w5 (fun k => F2 k ∨ k = w3.heap.size) d r (2 * i + 1) s5 s) := t5
            have D5 : Hid (Dk w5 F2 d2 (2 * i) s) := D4.out.kept hs5 (fun k hk => hp5 k (.inl hk)) (t5.below.os.trans T4.out.below.os.symm) (t5.below.tape.trans T4.out.below.tape.symm) (t5.below.output.trans T4.out.below.output.symm)
            clear t5 hp5 hs5 hs5e hm4
            generalize (s.wr 0 (List.replicate 64 0)).1 = an at *
            go_wp2_with fail
            refine (pr_flush T5.out (by omega)).mono ?_
            rintro e w6 ⟨rfl, t6, hp6, hs6⟩
            have T6 : Hid (Pr w w6 (fun _ => False) d2 r (2 * i + 2) s s) := t6.swap (fun k hk => .inl hk) ((D5.out.kept hs6 (fun k hk => hp6 k (.inl hk)) (t6.below.os.trans T5.out.below.os.symm) (t6.below.tape.trans T5.out.below.tape.symm) (t6.below.output.trans T5.out.below.output.symm)).more (by omega)) D3.out.2
            clear t6 hp6 hs6
            generalize (s5.fl).1 = an6 at *
            have KS : Hid (Calls Try.prog 15 #[.pointer (some ⟨d2, 0, none⟩), .pointer (some ⟨r, 0, none⟩)] w6 fun e w' => e = .returned (.bool true) ∧ Below w6.heap.size w6 w') := T6.out.same (by omega)
            go_wp2_with fail
            refine KS.out.mono ?_
            rintro e w7 ⟨rfl, hb7⟩
            have T7 : Hid (Pr w w7 (fun _ => False) d2 r (2 * (i + 1)) s s) := (T6.out.keep hb7).less (fun _ h => h.elim)
            clear hb7
            go_wp2_with fail
            go_roundg (60 - (i + 1))
            case measure => omega
            case rel => exact ⟨i + 1, d2, s, by omega, rfl, rfl, by simp, T7⟩
          · have e5 : (vk == 5) = false := by simp [hk5]
            have KDo : Hid (Calls Try.prog 14 #[.pointer (some ⟨d, 0, none⟩), .pointer (some ⟨r, 0, none⟩), .agg #[.int .i64 vk, .int .i64 va, .int .i64 vn, .int .i64 vl, .slice vka vkl vkc]] wr fun e w' => e = .returned (.bool true) ∧ ∃ s', Pr w w' (fun _ => False) d r (2 * i + 2) s' s') := does_is TW.out (by omega) vk va vn vl vka vkl vkc vz b0 b1 b2 b3 HK.out.1 HK.out.2.1 HK.out.2.2.1 HK.out.2.2.2
            clear b0 b1 b2 b3
            go_wp2_with fail
            refine KDo.out.mono ?_
            rintro e w6 ⟨rfl, s6, t6⟩
            have T6 : Hid (Pr w w6 (fun _ => False) d r (2 * i + 2) s6 s6) := t6
            clear t6 c0 c1 c2 c3 c4 KDo
            have KS : Hid (Calls Try.prog 15 #[.pointer (some ⟨d, 0, none⟩), .pointer (some ⟨r, 0, none⟩)] w6 fun e w' => e = .returned (.bool true) ∧ Below w6.heap.size w6 w') := T6.out.same (by omega)
            go_wp2_with fail
            refine KS.out.mono ?_
            rintro e w7 ⟨rfl, hb7⟩
            have T7 : Hid (Pr w w7 (fun _ => False) d r (2 * (i + 1)) s6 s6) := (T6.out.keep hb7).less (fun _ h => h.elim)
            clear hb7
            go_wp2_with fail
            go_roundg (60 - (i + 1))
            case measure => omega
            case rel => exact ⟨i + 1, d, s6, by omega, rfl, rfl, by simp, T7⟩
        · rcases (by omega : ¬ i < len ∨ (i < len ∧ ¬ i < 60)) with h0 | ⟨h0, h1⟩
          · have e1 : decide ((i : Int) < (len : Int)) = false := by rw [decide_eq_false_iff_not]; omega
            clear hil
            go_wp2_with fail
            refine (KN.out _).mono ?_
            rintro e w8 ⟨b1, rfl, KB1, hb1⟩
            have B8 : Hid (Below w.heap.size w w8) := TW.out.below.trans (hb1.mono TW.out.below.size)
            have KB2 : Hid (Calls Try.prog 16 #[.pointer (some ⟨b1, 0, none⟩)] w8 fun e w' => e = .returned (.int .i64 1) ∧ w' = w8) := KB1
            clear KB1 hb1
            go_wp2_with fail
            refine KB2.out.mono ?_
            rintro e w9 ⟨rfl, rfl⟩
            go_wp2_with fail
            go_ret
            exact ⟨rfl, B8.out⟩
          · have e1 : decide ((i : Int) < (len : Int)) = true := by rw [decide_eq_true_eq]; omega
            have e2 : decide ((i : Int) < 60) = false := by rw [decide_eq_false_iff_not]; omega
            clear hil
            go_wp2_with fail
            refine (KN.out _).mono ?_
            rintro e w8 ⟨b1, rfl, KB1, hb1⟩
            have B8 : Hid (Below w.heap.size w w8) := TW.out.below.trans (hb1.mono TW.out.below.size)
            have KB2 : Hid (Calls Try.prog 16 #[.pointer (some ⟨b1, 0, none⟩)] w8 fun e w' => e = .returned (.int .i64 1) ∧ w' = w8) := KB1
            clear KB1 hb1
            go_wp2_with fail
            refine KB2.out.mono ?_
            rintro e w9 ⟨rfl, rfl⟩
            go_wp2_with fail
            go_ret
            exact ⟨rfl, B8.out⟩
end Go.Proofs.Ytibgfjnddhfgpaa
