/- Reset. -/
import Derived.Test.YtcindeechmpalaaGreatMgKn18
namespace Go.Proofs.YtcindeechmpalaaGreat
open Go.ChangeShapes Go.WideShapes Go.ChangeAt Go.RowKit Go.Deep Go.Maps
set_option linter.unusedVariables false
/-- Reset, plainly -/
def Lg.reset (l : Lg) (s : Ds) (recs : List (List Int)) : Int × Lg × Ds :=
  if l.lost = true then (15, l, s)
  else if l.W ≠ [] then (11, l, s)
  else if (frO recs (64 * l.m)).2 ≠ 0 then ((frO recs (64 * l.m)).2, l, s)
  else if (s.run (mops l.m l.no (1 - l.ar) 0 (joinL recs))).1 = 0 then (0, { l with no := l.no + 1, ar := 1 - l.ar, R := recs, W := [] }, (s.run (mops l.m l.no (1 - l.ar) 0 (joinL recs))).2)
  else ((s.run (mops l.m l.no (1 - l.ar) 0 (joinL recs))).1, { l with lost := true }, (s.run (mops l.m l.no (1 - l.ar) 0 (joinL recs))).2)
theorem frO_ok {recs : List (List Int)} {room : Nat} (h : (frO recs room).2 = 0) : (frO recs room).1 = joinL recs ∧ (joinL recs).length ≤ room ∧ ∀ B ∈ recs, B.length ≤ 4096 := by
  unfold frO at h ⊢
  by_cases h1 : ∃ B ∈ recs, 4096 < B.length
  · rw [if_pos h1] at h; cases h
  · rw [if_neg h1] at h ⊢
    by_cases h2 : room < (joinL recs).length
    · rw [if_pos h2] at h; cases h
    · rw [if_neg h2]
      exact ⟨rfl, by omega, fun B hB => Nat.le_of_not_lt fun e => h1 ⟨B, hB, e⟩⟩
set_option maxRecDepth 100000 in
set_option maxHeartbeats 4000000 in
theorem reset_is (w : World) (F G : Nat → Prop) (bl bd N : Nat) (s : Ds) (l : Lg) (H : Dk w F bd N s) (h : Lm w G bl bd l) (hok : l.Ok N) (hd : ∀ k, G k → ¬ F k) (hN : N + 3000 < 999900)
    (a : Option Addr) (n c : Nat) (recs : List (List Int)) (hn : recs.length = n) (hn2 : n ≤ 1000000) (hin : InS w a recs) (ha : a = none → n = 0 ∧ c = 0) (hB : ∀ B ∈ recs, IsBytes B) (hx : ∀ x, a = some x → recs ≠ [] → ¬ F x.block ∧ ¬ G x.block) :
    Calls Tryz.prog 48 #[.pointer (some ⟨bl, 0, none⟩), .slice a n c] w fun e w' => e = .returned (.int .i64 (l.reset s recs).1) ∧ ∃ F' G', Dk w' F' bd (N + 2100) (l.reset s recs).2.2 ∧ Lm w' G' bl bd (l.reset s recs).2.1 ∧ StepB F F' G G' w w' ∧ ∀ k, G' k → ¬ F' k := by
  have H0 := h
  have hblw := h.lt bl h.b
  have hblF := hd bl h.b
  obtain ⟨vr, vw, vf, p, hG⟩ := h
  have hf := hok.few
  have hm := hok.m
  have har := hok.ar
  have hno := hok.no
  have K : Hid (Calls Tryz.prog 86 #[.pointer (some ⟨bl, 0, none⟩)] w fun e w' => e = .returned (.int .i64 (if l.lost then 15 else 0)) ∧ w' = w) := wready_is w bl bd l.lost p.cell.cells.c0 p.cell.cells.c8
  by_cases hlost : l.lost = true
  · have e1 : l.reset s recs = (15, l, s) := by unfold Lg.reset; rw [if_pos hlost]
    rw [e1]
    rw [if_pos hlost] at K
    clear p hG
    go_enter Tryz.func48, Tryz.ntmps48
    go_wp2_with fail
    refine K.out.mono ?_
    rintro e w1 ⟨rfl, rfl⟩
    go_wp2_with fail
    go_ret
    exact ⟨rfl, F, G, H.more (by omega), H0, StepB.refl F G _, hd⟩
  · rw [if_neg hlost] at K
    have c6 := p.cell.cells.c6
    obtain ⟨aw, cw, rfl, hwn, hwi, hwc⟩ := p.wait.slice
    by_cases hW : l.W ≠ []
    · have e1 : l.reset s recs = (11, l, s) := by unfold Lg.reset; rw [if_neg hlost, if_pos hW]
      rw [e1]
      have hWl : 0 < l.W.length := List.length_pos_iff.2 hW
      have e18 : (0 : Int) < ((l.W.length : Nat) : Int) := by omega
      clear p hG
      go_enter Tryz.func48, Tryz.ntmps48
      go_wp2_with fail
      refine K.out.mono ?_
      rintro e w1 ⟨rfl, rfl⟩
      go_wp2_with fail
      go_ret
      exact ⟨rfl, F, G, H.more (by omega), H0, StepB.refl F G _, hd⟩
    · have hW0 : l.W = [] := by simpa using hW
      have hWl : l.W.length = 0 := by rw [hW0]; rfl
      obtain ⟨X, hX⟩ : ∃ X, X = frO recs (64 * l.m) := ⟨_, rfl⟩
      obtain ⟨A, hA⟩ : ∃ A, A = l.reset s recs := ⟨_, rfl⟩
      rw [← hA]
      obtain ⟨R, hR⟩ : ∃ R, R = s.run (mops l.m l.no (1 - l.ar) 0 (joinL recs)) := ⟨_, rfl⟩
      have HA : Hid (A = if X.2 ≠ 0 then (X.2, l, s) else if R.1 = 0 then (0, { l with no := l.no + 1, ar := 1 - l.ar, R := recs, W := [] }, R.2) else (R.1, { l with lost := true }, R.2)) := by
        show _ = _
        rw [hA]
        unfold Lg.reset
        rw [if_neg hlost, if_neg hW, ← hX, ← hR]
      have KS : Hid (Calls Tryz.prog 88 #[.pointer (some ⟨bl, 0, none⟩)] w fun e w' => e = .returned (.int .i64 ((64 * l.m : Nat) : Int)) ∧ w' = w) := wsize_is w bl l.m (by omega) p.cell.cells.c1
      have KF : Hid (Calls Tryz.prog 87 #[.slice a n c, .int .i64 ((64 * l.m : Nat) : Int)] w fun e w' => ∃ a' m' c', e = .returned (.tuple #[.slice a' m' c', .int .i64 X.2]) ∧ X.1.length = m' ∧ Owned w' w.heap.size (.slice a' m' c') X.1 ∧ Below w.heap.size w w') := by rw [hX]; exact framesOf_is w a n c recs hn hn2 hin hB (64 * l.m) (by omega)
      have Q0 : Hid (LmQ w bl bd l.m l.no l.ar l.ln l.R l.W (joinL l.W) l.lost vr (.slice aw l.W.length cw) vf) := p.q
      have HG : Hid (∀ k, G k ↔ Lf bl vr (.slice aw l.W.length cw) vf k) := hG
      have HD : Hid (Dk w F bd N s) := H
      have HDJ : Hid (∀ k, G k → ¬ F k) := hd
      have HX0 : Hid (X.2 = 0 → X.1 = joinL recs ∧ (joinL recs).length ≤ 64 * l.m) := fun e => by
        rw [hX] at e ⊢
        have := frO_ok e
        exact ⟨this.1, this.2.1⟩
      have HI : Hid (InS w a recs) := hin
      have HXB : Hid (∀ x, a = some x → recs ≠ [] → ¬ F x.block ∧ ¬ G x.block) := hx
      have KM : Hid (∀ (u : World) (a' : Option Addr) (m' c' : Nat), (joinL recs).length = m' → (joinL recs).length ≤ 64 * l.m → Below w.heap.size w u → Owned u w.heap.size (.slice a' m' c') (joinL recs) → Calls Tryz.prog 89 #[.pointer (some ⟨bl, 0, none⟩), .int .i64 (1 - (l.ar : Int)), .int .i64 0, .slice a' m' c'] u fun e w' => e = .returned (.int .i64 R.1) ∧ ∃ F', Dk w' F' bd (N + 2100) R.2 ∧ StepL F F' bl u w' ∧
          ((R.1 = 0 ∧ LgC w' bl bd l.m (l.no + 1) (1 - l.ar) m' vr (.slice aw l.W.length cw) vf false) ∨ (R.1 ≠ 0 ∧ LgC w' bl bd l.m l.no l.ar l.ln vr (.slice aw l.W.length cw) vf true))) := fun u a' m' c' hm' hle hu ho => by
        have e1 : (1 - (l.ar : Int)) = ((1 - l.ar : Nat) : Int) := by omega
        have e2 : (0 : Int) = ((0 : Nat) : Int) := rfl
        rw [e1, e2]
        have k := move_is u F bd N s (H.keep hu) bl l.m l.no l.ar l.ln vr _ _ l.lost (p.cell.keep hu) hblF (by omega) (by omega) (1 - l.ar) 0 (by omega) (by omega) a' m' c' (joinL recs) hm' (joinL_bytes recs hB) ho.holds.1 (fun x hx hne => ⟨ho.lt_size x hx, fun hf => by have h1 := H.lt _ hf; have h2 := Owned.block ho x.block (by rw [hx]; rfl); omega⟩) ho.cap (by omega)
        rw [← hR] at k
        refine k.mono ?_
        rintro e w' ⟨he, F', hd', hs', hor⟩
        refine ⟨he, F', hd'.more (by omega), hs', ?_⟩
        rw [show 64 * 0 + m' = m' by omega] at hor
        exact hor
      have a1 : (1 - (l.ar : Int)) = ((1 - l.ar : Nat) : Int) := by omega
      have e17 : ¬ (0 : Int) < ((l.W.length : Nat) : Int) := by omega
      rw [hWl] at c6
      have c3 := p.cell.cells.c3
      clear p hG H hd hR hA hX hin hx H0 hwi hwn a1 e17
      go_enter Tryz.func48, Tryz.ntmps48
      go_wp2_with fail
      refine K.out.mono ?_
      rintro e w1 ⟨rfl, rfl⟩
      go_wp2_with fail
      refine KS.out.mono ?_
      rintro e w1 ⟨rfl, rfl⟩
      go_wp2_with fail
      refine KF.out.mono ?_
      rintro e w2 ⟨a2, m2, c2, rfl, hm2, ho2, hb2⟩
      have Q2 : Hid (LmQ w2 bl bd l.m l.no l.ar l.ln l.R l.W (joinL l.W) l.lost vr (.slice aw l.W.length cw) vf) := Q0.out.keep hb2
      have B2 : Hid (Below w1.heap.size w1 w2) := hb2
      by_cases he : X.2 = 0
      · have HA2 : Hid (A = if R.1 = 0 then (0, { l with no := l.no + 1, ar := 1 - l.ar, R := recs, W := [] }, R.2) else (R.1, { l with lost := true }, R.2)) := by show _ = _; rw [HA.out, if_neg (by simpa using he)]
        obtain ⟨hx1, hx2⟩ := HX0.out he
        rw [hx1] at hm2 ho2
        have HM : Hid ((joinL recs).length = m2) := hm2
        have KM2 : Hid (Calls Tryz.prog 89 #[.pointer (some ⟨bl, 0, none⟩), .int .i64 (1 - (l.ar : Int)), .int .i64 0, .slice a2 m2 c2] w2 fun e w' => e = .returned (.int .i64 R.1) ∧ ∃ F', Dk w' F' bd (N + 2100) R.2 ∧ StepL F F' bl w2 w' ∧
          ((R.1 = 0 ∧ LgC w' bl bd l.m (l.no + 1) (1 - l.ar) m2 vr (.slice aw l.W.length cw) vf false) ∨ (R.1 ≠ 0 ∧ LgC w' bl bd l.m l.no l.ar l.ln vr (.slice aw l.W.length cw) vf true))) := KM.out w2 a2 m2 c2 hm2 hx2 hb2 ho2
        have k3 := Q2.out.cell.cells.c3
        rw [he]
        clear hm2 ho2 hb2 hx1 hx2 c3 c6
        go_wp2_with fail
        refine KM2.out.mono ?_
        rintro e u2 ⟨rfl, F2, hd2, hs2, hor⟩
        have D2 : Hid (Dk u2 F2 bd (N + 2100) R.2) := hd2
        have S2 : Hid (StepL F F2 bl w2 u2) := hs2
        have GD : Hid (∀ k, Lf bl vr (.slice aw l.W.length cw) vf k → ¬ F k) := fun k hk => HDJ.out k ((HG.out k).2 hk)
        have SB4 : Hid (StepB F F2 G G w1 u2) := StepB.trans (F1 := F) (G1 := G) ⟨Off.ofBelow _ B2.out, fun _ hk => .inl hk, fun _ hk => .inl hk⟩ (hs2.toB ((HG.out bl).2 (.inl rfl)))
        have DJ2 : Hid (∀ k, G k → ¬ F2 k) := fun k hk hf2 => by
          rcases SB4.out.sub k hf2 with e | e
          · exact HDJ.out k hk e
          · have := Q0.out.lt k ((HG.out k).1 hk); omega
        rcases hor with ⟨hz, hl⟩ | ⟨hz, hl⟩
        · have Q5 : Hid (LmQ u2 bl bd l.m (l.no + 1) (1 - l.ar) m2 l.R l.W (joinL l.W) false vr (.slice aw l.W.length cw) vf) := Q2.out.moved hs2 GD.out hl
          have HA3 : Hid (A = (0, { l with no := l.no + 1, ar := 1 - l.ar, R := recs, W := [] }, R.2)) := by show _ = _; rw [HA2.out, if_pos hz]
          have I5 : Hid (InS u2 a recs) := HI.out.kept fun x hx hne => by
            have h1 := HI.out.lt x hx hne
            have h2 := HXB.out x hx hne
            exact SB4.out.off.block x.block h1 (fun e => e.elim h2.1 h2.2)
          have KC : Hid (Calls Tryz.prog 73 #[.slice a n c] u2 fun e w' => ∃ v, e = .returned v ∧ RowsS w' u2.heap.size v recs ∧ Below u2.heap.size u2 w') := cloneS_is u2 recs n c a hn (by omega) ha I5.out
          rw [hz]
          clear hl hd2 hs2 k3
          go_wp2_with fail
          refine KC.out.mono ?_
          rintro e u3 ⟨v3, rfl, hv3, hb3⟩
          have B3 : Hid (Below u2.heap.size u2 u3) := hb3
          have Q6 := Q5.out.setR (w1 := u3) (v := v3) (R' := recs) ⟨hb3.os, hb3.tape, hb3.output, hb3.size, fun k hk _ => hb3.block k hk⟩ (hv3.base (Nat.zero_le _)) (.inr fun k hk => (hv3.own k hk).1)
          have LC3 := (Q5.out.cell.keep hb3).cells
          have k5 := LC3.c5
          have f5 := LC3.f 5
          obtain ⟨a3, c3, rfl, _⟩ := hv3.slice
          rw [hn] at Q6
          have HQ6 : Hid (LmQ (u3.setCell ⟨bl, 5, none⟩ (.slice a3 n c3)) bl bd l.m (l.no + 1) (1 - l.ar) m2 recs l.W (joinL l.W) false (.slice a3 n c3) (.slice aw l.W.length cw) vf ∧ Step (Lf bl vr (.slice aw l.W.length cw) vf) (Lf bl (.slice a3 n c3) (.slice aw l.W.length cw) vf) u2 (u3.setCell ⟨bl, 5, none⟩ (.slice a3 n c3))) := Q6
          rw [hn]
          clear hv3 hb3 Q6 LC3
          go_wp2_with fail
          go_ret
          have T9 := HQ6.out.2
          have SB9 : StepB F F2 G (Lf bl (.slice a3 n c3) (.slice aw l.W.length cw) vf) w1 _ := SB4.out.trans ((T9.iff HG.out).toBG)
          have hnF : ∀ k, Lf bl (.slice a3 n c3) (.slice aw l.W.length cw) vf k → ¬ F2 k := fun k hk hf2 => by
            rcases (T9.iff HG.out).sub k hk with e | e
            · exact DJ2.out k e hf2
            · have := D2.out.lt k hf2; omega
          refine ⟨by rw [HA3.out]; rfl, F2, _, ?_, ⟨.slice a3 n c3, .slice aw l.W.length cw, vf, ?_, fun k => Iff.rfl⟩, SB9, hnF⟩
          · rw [HA3.out]
            exact D2.out.apartL T9 (fun k hk => DJ2.out k ((HG.out k).2 hk))
          · rw [HA3.out]
            have hl2 : l.lost = false := by simpa using hlost
            refine LmQ.p (l := { l with no := l.no + 1, ar := 1 - l.ar, R := recs, W := [] }) ?_
            have eln : ({ l with no := l.no + 1, ar := 1 - l.ar, R := recs, W := [] } : Lg).ln = m2 := HM.out
            rw [eln]
            show LmQ _ bl bd l.m (l.no + 1) (1 - l.ar) _ recs [] [] l.lost _ _ _
            rw [hl2]
            have q := HQ6.out.1
            rw [hW0] at q
            rw [hW0]
            exact q
        · have Q5 : Hid (LmQ u2 bl bd l.m l.no l.ar l.ln l.R l.W (joinL l.W) true vr (.slice aw l.W.length cw) vf) := Q2.out.moved hs2 GD.out hl
          have HA3 : Hid (A = (R.1, { l with lost := true }, R.2)) := by show _ = _; rw [HA2.out, if_neg hz]
          have e9 : (R.1 == 0) = false := by rw [beq_eq_false_iff_ne]; exact hz
          clear hl hd2 hs2 k3
          go_wp2_with fail
          go_ret
          exact ⟨by rw [HA3.out]; rfl, F2, G, by rw [HA3.out]; exact D2.out, by rw [HA3.out]; exact ⟨vr, _, _, LmQ.p (l := { l with lost := true }) Q5.out, HG.out⟩, SB4.out, DJ2.out⟩
      · have HA2 : Hid (A = (X.2, l, s)) := by show _ = _; rw [HA.out, if_pos he]
        have e9 : (X.2 == 0) = false := by rw [beq_eq_false_iff_ne]; exact he
        clear hm2 ho2 hb2 c3 c6
        go_wp2_with fail
        go_ret
        exact ⟨by rw [HA2.out]; rfl, F, G, by rw [HA2.out]; exact (HD.out.keep B2.out).more (by omega), by rw [HA2.out]; exact ⟨vr, _, _, LmQ.p Q2.out, HG.out⟩, ⟨Off.ofBelow _ B2.out, fun _ hk => .inl hk, fun _ hk => .inl hk⟩, HDJ.out⟩
end Go.Proofs.YtcindeechmpalaaGreat
