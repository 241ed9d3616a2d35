/- The document's log: Reset. -/
import Derived.Test.YtkhopmlhinkpcaaGreatMgWo18
namespace Go.Proofs.YtkhopmlhinkpcaaGreat
open Go.ChangeShapes Go.WideShapes Go.ChangeAt Go.RowKit Go.Deep Go.Maps
set_option linter.unusedVariables false
set_option linter.unusedSimpArgs false
theorem frO_is (recs : List (List Int)) (room : Nat) : (frO recs room).2 = if ∃ B ∈ recs, 4096 < B.length then 3 else if room < (joinL recs).length then 7 else 0 := by
  unfold frO
  by_cases h1 : ∃ B ∈ recs, 4096 < B.length
  · rw [if_pos h1, if_pos h1]
  · rw [if_neg h1, if_neg h1]
    by_cases h2 : room < (joinL recs).length
    · rw [if_pos h2, if_pos h2]
    · rw [if_neg h2, if_neg h2]
set_option maxRecDepth 100000 in
set_option maxHeartbeats 4000000 in
theorem rreset_is (w : World) (F G : Nat → Prop) (b bd N M : Nat) (s : Ds) (l : Lg) (HD : Rk w F bd M s) (hM : M + 3000 < 1000000) (h6 : 6 ≤ s.D.length) (hm : l.m = s.am) (H : Rl w G b bd l) (hok : l.Ok N) (hNN : N ≤ 1000000) (hx : ∀ k, G k → ¬ F k) (a : Option Addr) (n c : Nat) (recs : List (List Int)) (hn : recs.length = n) (hn2 : n ≤ 1000000) (hin : InS w a recs) (ha : a = none → n = 0 ∧ c = 0) (hB : ∀ B ∈ recs, IsBytes B) (hBl : ∀ B ∈ recs, B.length ≤ 1000000) (hax : ∀ x, a = some x → recs ≠ [] → ¬ F x.block ∧ ¬ G x.block) :
    Calls Tryz.prog 34 #[.pointer (some ⟨b, 0, none⟩), .slice a n c] w fun e w' => e = .returned (.int .i64 (l.reset s recs).1) ∧ ∃ F' G', Rk w' F' bd (M + 2100) (l.reset s recs).2.2 ∧ Rl w' G' b bd (l.reset s recs).2.1 ∧ StepB F F' G G' w w' ∧ ∀ k, G' k → ¬ F' k := by
  have HR0 : Hid (Rl w G b bd l) := H
  have HD0 : Hid (Rk w F bd M s) := HD
  have HX0 : Hid (∀ k, G k → ¬ F k) := hx
  have HOK : Hid (l.Ok N) := hok
  have HIN : Hid (InS w a recs ∧ (a = none → n = 0 ∧ c = 0)) := ⟨hin, ha⟩
  have HB : Hid (∀ B ∈ recs, IsBytes B ∧ B.length ≤ 1000000) := fun B h => ⟨hB B h, hBl B h⟩
  have HAX : Hid (∀ x, a = some x → recs ≠ [] → ¬ F x.block ∧ ¬ G x.block) := hax
  obtain ⟨vL, vW, p, hG⟩ := H
  have P0 : Hid (RlP w b bd l vL vW ∧ ∀ k, G k ↔ RlF b vL vW k) := ⟨p, hG⟩
  obtain ⟨d0, d1, d2, d3, d4, d5⟩ := p.cell.six
  obtain ⟨R, hR⟩ : ∃ R, R = l.reset s recs := ⟨_, rfl⟩
  have HR : Hid (R = l.reset s recs) := hR
  have HN : Hid (recs.length = n) := hn
  rw [← hR]
  clear hR HD hok hx p hG hin ha hB hBl hax hn
  have HSame : Hid (∀ c0 : Int, R = (c0, l, s) → ∀ w', Below w.heap.size w w' → ∃ F' G', Rk w' F' bd (M + 2100) R.2.2 ∧ Rl w' G' b bd R.2.1 ∧ StepB F F' G G' w w' ∧ ∀ k, G' k → ¬ F' k) := fun c0 e w' hb => by
    rw [e]
    exact ⟨F, G, (Rk.keep HD0.out hb).more (by omega), HR0.out.keep hb, ⟨Off.ofBelow _ hb, fun _ h => .inl h, fun _ h => .inl h⟩, HX0.out⟩
  by_cases hlost : l.lost = true
  · have HX2 : Hid (R = (15, l, s)) := by
      show _ = _
      rw [HR.out]
      unfold Lg.reset
      rw [if_pos hlost]
    rw [hlost] at d5
    go_enter Tryz.func34, Tryz.ntmps34
    go_wp2_with fail
    go_ret
    exact ⟨by rw [HX2.out]; rfl, HSame.out 15 HX2.out _ (Below.refl _ _)⟩
  · have hlf : l.lost = false := by simpa using hlost
    rw [hlf] at d5
    obtain ⟨aW, cW, hvW, hnW, _, _, _⟩ := P0.out.1.wait.slice
    subst hvW
    obtain ⟨k, hlk⟩ : ∃ k, l.W.length = k := ⟨_, rfl⟩
    have HLK : Hid (l.W.length = k) := hlk
    rw [hlk] at d4 P0
    clear hlk hnW
    by_cases hW : l.W = []
    rotate_left
    · have hk0 : (0 : Int) < (k : Int) := by
        have h1 : l.W.length ≠ 0 := fun e => hW (List.length_eq_zero_iff.1 e)
        have := HLK.out
        omega
      have HX2 : Hid (R = (11, l, s)) := by show _ = _; rw [HR.out]; exact reset_state hlf hW recs
      clear hW
      go_enter Tryz.func34, Tryz.ntmps34
      go_wp2_with fail
      go_ret
      exact ⟨by rw [HX2.out]; rfl, HSame.out 11 HX2.out _ (Below.refl _ _)⟩
    · have hk0 : ¬ (0 : Int) < (k : Int) := by have h1 : l.W.length = 0 := by rw [hW]; rfl
                                               have := HLK.out
                                               omega
      have HWn : Hid (l.W = []) := hW
      have HRX : Hid (R = if (frO recs (64 * l.m)).2 ≠ 0 then ((frO recs (64 * l.m)).2, l, s) else if (s.run (mops l.m l.no (1 - l.ar) 0 (joinL recs))).1 = 0 then (0, { l with no := l.no + 1, ar := 1 - l.ar, R := recs, W := [] }, (s.run (mops l.m l.no (1 - l.ar) 0 (joinL recs))).2) else ((s.run (mops l.m l.no (1 - l.ar) 0 (joinL recs))).1, { l with lost := true }, (s.run (mops l.m l.no (1 - l.ar) 0 (joinL recs))).2)) := by
        show _ = _
        rw [HR.out]
        unfold Lg.reset
        rw [if_neg hlost, if_neg (by simpa using hW)]
      have HRC : Hid (RC w b bd l.no l.ar vL (.slice aW k cW) false) := by have h := P0.out.1.cell; rw [hlf] at h; exact h
      clear hW
      go_enter Tryz.func34, Tryz.ntmps34
      go_wp2_with fail
      go_loopg [5] n (fun g iv wr => ∃ j : Nat, j ≤ n ∧ g = n - j ∧ iv = .int .i64 (j : Int) ∧ wr = w ∧ Hid (∀ B ∈ recs.take j, B.length ≤ 4096))
      case atStart => exact ⟨0, Nat.zero_le _, rfl, rfl, rfl, fun B hB => by simp at hB⟩
      case round =>
        obtain ⟨j, hj, rfl, rfl, hwr, HJ⟩ := hrel
        subst wr
        by_cases hlt : j < n
        · have i1 : (j : Int) < (n : Int) := by omega
          obtain ⟨g1, o1, rfl, hc1⟩ : ∃ g off, a = some ⟨g, off, none⟩ ∧ ∀ i, i < recs.length → w.cell? ⟨g, off + i, none⟩ = some (.string (strOfNums (recs.getD i []))) := by
            rcases HIN.out.1 with h | h
            · have := HN.out; rw [h] at this; simp at this; omega
            · exact h
          have k1 := hc1 j (by rw [HN.out]; exact hlt)
          have m1 : recs.getD j [] ∈ recs := by rw [List.getD_eq_getElem?_getD, List.getElem?_eq_getElem (by rw [HN.out]; exact hlt)]; exact List.getElem_mem _
          have HM1 : Hid (recs.getD j [] ∈ recs) := m1
          have hx := (HB.out _ m1).2
          have hz : (strOfNums (recs.getD j [])).size = (recs.getD j []).length := by rw [strOfNums_size]
          have HT : Hid (recs.take (j + 1) = recs.take j ++ [recs.getD j []]) := by
            show _ = _
            rw [List.take_succ_eq_append_getElem (by rw [HN.out]; exact hlt), List.getD_eq_getElem?_getD, List.getElem?_eq_getElem (by rw [HN.out]; exact hlt)]
            rfl
          clear hc1 m1
          generalize hXX : recs.getD j [] = XX at *
          obtain ⟨z, hzz⟩ : ∃ z, XX.length = z := ⟨_, rfl⟩
          have HZ : Hid (XX.length = z) := hzz
          rw [hzz] at hz hx
          clear hXX hzz
          by_cases hbig : 4096 < z
          · have f1 : (4096 : Int) < ((strOfNums XX).size : Int) := by omega
            have HX2 : Hid (R = (3, l, s)) := by
              have e : (frO recs (64 * l.m)).2 = 3 := by rw [frO_is, if_pos ⟨XX, HM1.out, by rw [HZ.out]; exact hbig⟩]
              show _ = _
              rw [HRX.out, if_pos (by rw [e]; omega), e]
            go_wp2_with fail
            go_ret
            exact ⟨by rw [HX2.out]; rfl, HSame.out 3 HX2.out _ (Below.refl _ _)⟩
          · have f1 : ¬ (4096 : Int) < ((strOfNums XX).size : Int) := by omega
            have HJ2 : Hid (∀ B ∈ recs.take (j + 1), B.length ≤ 4096) := fun B hB => by
              rw [HT.out] at hB
              rcases List.mem_append.1 hB with h | h
              · exact HJ.out B h
              · have : B = XX := by simpa using h
                rw [this, HZ.out]; omega
            go_wp2_with fail
            go_roundg (n - (j + 1))
            case measure => omega
            case rel => exact ⟨j + 1, by omega, rfl, by go_num, rfl, HJ2.out⟩
        · have e : j = n := by omega
          subst e
          have i1 : ¬ (j : Int) < (j : Int) := by omega
          have HSm : Hid (∀ B ∈ recs, IsBytes B ∧ B.length ≤ 4096) := fun B hB => ⟨(HB.out B hB).1, HJ.out B (by rw [List.take_of_length_le (by rw [HN.out]; exact Nat.le_refl _)]; exact hB)⟩
          obtain ⟨t, ht⟩ : ∃ t, (joinL recs).length = t := ⟨_, rfl⟩
          have HTl : Hid ((joinL recs).length = t) := ht
          obtain ⟨u, hu⟩ : ∃ u, 64 * s.am = u := ⟨_, rfl⟩
          have HUl : Hid (64 * s.am = u ∧ u ≤ 131008) := ⟨hu, by have := HOK.out.m; omega⟩
          have htb : t ≤ 4104 * j := by
            have h1 : ∀ (L : List (List Int)), (∀ B ∈ L, B.length ≤ 4096) → (joinL L).length ≤ 4104 * L.length := fun L => by
              induction L with
              | nil => intro _; exact Nat.le_refl _
              | cons x r ih =>
                intro h
                have := ih fun B hB => h B (List.mem_cons_of_mem _ hB)
                have h2 := h x (List.mem_cons_self ..)
                rw [joinL, List.length_append, frameL_length, List.length_cons]
                omega
            have h2 := h1 recs fun B hB => (HSm.out B hB).2
            rw [HN.out] at h2
            omega
          have KS : Hid (Calls Tryz.prog 57 #[.slice a j c] w fun e w' => e = .returned (.int .i64 (t : Int)) ∧ w' = w) := by
            have k := rsize_is w a j c recs HN.out hn2 HIN.out.1 (fun B hB => (HB.out B hB).2)
            rw [ht] at k
            exact k
          have KM : Hid (Calls Tryz.prog 53 #[.pointer (some ⟨b, 0, none⟩)] w fun e w' => e = .returned (.int .i64 (u : Int)) ∧ w' = w) := by
            have k := rmost_is w F bd M s HD0.out (by omega) b l.no l.ar vL _ false HRC.out
            rw [hu] at k
            exact k
          clear ht hu
          go_wp2_with fail
          refine KS.out.mono ?_
          rintro e w' ⟨rfl, hw⟩; obtain rfl := hw.symm; clear hw
          go_wp2_with fail
          refine KM.out.mono ?_
          rintro e w' ⟨rfl, hw⟩; obtain rfl := hw.symm; clear hw
          have HFE : Hid ((frO recs (64 * l.m)).2 = if u < t then 7 else 0) := by
            show _ = _
            rw [frO_is, if_neg (fun ⟨B, h1, h2⟩ => by have := (HSm.out B h1).2; omega), HTl.out, hm, HUl.out.1]
          by_cases hfull : u < t
          · have f2 : (u : Int) < (t : Int) := by omega
            have HX2 : Hid (R = (7, l, s)) := by
              have e : (frO recs (64 * l.m)).2 = 7 := by rw [HFE.out, if_pos hfull]
              show _ = _
              rw [HRX.out, if_pos (by rw [e]; omega), e]
            go_wp2_with fail
            go_ret
            exact ⟨by rw [HX2.out]; rfl, HSame.out 7 HX2.out _ (Below.refl _ _)⟩
          · have f2 : ¬ (u : Int) < (t : Int) := by omega
            obtain ⟨X, hX⟩ : ∃ X, X = s.run (mops l.m l.no (1 - l.ar) 0 (joinL recs)) := ⟨_, rfl⟩
            have HRY : Hid (R = if X.1 = 0 then (0, { l with no := l.no + 1, ar := 1 - l.ar, R := recs, W := [] }, X.2) else (X.1, { l with lost := true }, X.2)) := by
              show _ = _
              rw [HRX.out, if_neg (by rw [HFE.out, if_neg hfull]; simp), hX]
            have HFb : Hid (¬ F b) := HX0.out b HR0.out.b
            obtain ⟨na, hna⟩ : ∃ na, 1 - l.ar = na := ⟨_, rfl⟩
            have HNA : Hid (1 - l.ar = na) := hna
            have eNA : (1 : Int) - (l.ar : Int) = (na : Int) := by have := HOK.out.ar; omega
            have KL : Hid (Calls Tryz.prog 58 #[.pointer (some ⟨b, 0, none⟩), .slice a j c, .int .i64 0, .int .i64 (na : Int)] w fun e w' => e = .returned (.int .i64 X.1) ∧ ∃ F', Rk w' F' bd (M + 2100) X.2 ∧ StepL F F' b w w' ∧ (X.1 = 0 → RC w' b bd (l.no + 1) na vL (.slice aW k cW) false) ∧ (X.1 ≠ 0 → RC w' b bd l.no l.ar vL (.slice aW k cW) false)) := by
              refine (rlay_is w F bd M s HD0.out hM h6 b l.no l.ar _ _ false HRC.out HFb.out a j c recs HN.out HIN.out.1 HSm.out 0 na (Nat.zero_le _) (by omega) (by rw [HTl.out, HUl.out.1]; omega) (by have := HOK.out.no; omega)).mono ?_
              rintro e w' ⟨R', hR', he, F', h1, h2, h3, h4⟩
              have hR2 : R' = X := by rw [hR', hX, hm, ← hna]; rfl
              subst hR2
              exact ⟨he, F', h1, h2, h3, h4⟩
            obtain ⟨la, hla⟩ : ∃ la, l.ar = la := ⟨_, rfl⟩
            have HLA : Hid (l.ar = la) := hla
            rw [hla] at d2 eNA
            have hla1 : la ≤ 1 := by have := HOK.out.ar; omega
            clear hX hna hla KS KM
            go_wp2_with fail
            refine KL.out.mono ?_
            rintro e w2 ⟨rfl, F2, h1, h2, h3, h4⟩
            have HD2 : Hid (Rk w2 F2 bd (M + 2100) X.2) := h1
            have HS2 : Hid (StepL F F2 b w w2) := h2
            have HC2 : Hid ((X.1 = 0 → RC w2 b bd (l.no + 1) na vL (.slice aW k cW) false) ∧ (X.1 ≠ 0 → RC w2 b bd l.no l.ar vL (.slice aW k cW) false)) := ⟨h3, h4⟩
            clear h1 h2 h3 h4 d0 d1 d2 d3 d4 d5
            have HNF : Hid (∀ j, F2 j → F j ∨ w.heap.size ≤ j) := HS2.out.sub
            have HOff : Hid (Off (fun j => F j ∨ G j) w w2) := ⟨HS2.out.off.os, HS2.out.off.tape, HS2.out.off.output, HS2.out.off.size, fun j h1 h2 => HS2.out.off.block j h1 (fun h => h2 (or_r h (fun e => by rw [e]; exact HR0.out.b)))⟩
            have HFlt : Hid (∀ j, F j → j < w.heap.size) := HD0.out.lt
            have HGlt : Hid (∀ j, G j → j < w.heap.size) := HR0.out.lt
            have HF2b : Hid (¬ F2 b) := fun h => by
              rcases HNF.out b h with e | e
              · exact HFb.out e
              · have := HRC.out.lt; omega
            have HK2 : Hid (∀ j, G j → j ≠ b → w2.heap[j]? = w.heap[j]?) := fun j hj hne => HS2.out.off.block j (HGlt.out j hj) (fun h => h.elim (HX0.out j hj) hne)
            obtain ⟨c1, hc1⟩ : ∃ c, c = X.1 := ⟨_, rfl⟩
            have HC1e : Hid (c1 = X.1) := hc1
            rw [← hc1]
            clear hc1
            by_cases h0 : c1 = 0
            · have HR2 : Hid (R = (0, { l with no := l.no + 1, ar := 1 - l.ar, R := recs, W := [] }, X.2)) := by show _ = _; rw [HRY.out, ← HC1e.out, if_pos h0]
              have HCa : Hid (RC w2 b bd (l.no + 1) na vL (.slice aW k cW) false) := HC2.out.1 (HC1e.out.symm.trans h0)
              have HI2 : Hid (InS w2 a recs) := HIN.out.1.kept fun x hx hne => HS2.out.off.block _ (HIN.out.1.lt x hx hne) (fun h => h.elim (HAX.out x hx hne).1 (fun e => (HAX.out x hx hne).2 (by rw [e]; exact HR0.out.b)))
              have OE : Hid (RowsS (w2.alloc (.cells #[] 9)) w2.heap.size (.slice (some ⟨w2.heap.size, 0, none⟩) 0 0) []) := rows_empty w2 w2.heap.size (Nat.le_refl _)
              have BE : Hid (Below w2.heap.size w2 (w2.alloc (.cells #[] 9))) := gB_alloc w2 _
              subst h0
              go_wp2_with (at_builtin; refine appTA rfl (.tmp 49) (.tmp 50) rfl w2.heap.size _ [] rfl OE.out a j c recs rfl HN.out (HI2.out.keep BE.out) HIN.out.2 (by simp; omega) BE.out.size ?_; intro vf wf rf bf; rw [List.nil_append] at rf; have RF : Hid (RowsS wf w2.heap.size vf recs) := rf; have BF : Hid (Below w2.heap.size w2 wf) := BE.out.trans bf; clear rf bf; obtain ⟨af, cf, rfl, _⟩ := RowsS.slice RF.out; have HCf : Hid (RC wf b bd (l.no + 1) na vL (.slice aW k cW) false) := RC.keep HCa.out BF.out; obtain ⟨f0, f1, f2, f3, f4, f5⟩ := HCf.out.six; have hfz3 := HCf.out.fz 3)

              go_ret
              rw [HR2.out]
              have RF' := RF.out
              have HRg : ∀ j, (Value.slice af recs.length cf).ownBlock = some j → w2.heap.size ≤ j ∧ j < wf.heap.size := fun j hj => RF'.own j hj
              have hbw : b < w2.heap.size := HCa.out.lt
              have h22 : w.heap.size ≤ w2.heap.size := HS2.out.off.size
              have hoff2 : Off (fun j => F j ∨ G j) w wf := HOff.out.andBelow BF.out
              refine ⟨rfl, F2, RlF b (.slice af recs.length cf) (.slice aW k cW), ?_, ⟨_, _, ⟨?_, ?_, ?_, fun j hj e => ?_⟩, fun _ => Iff.rfl⟩, ⟨?_, fun j hj => HNF.out j hj, fun j hj => ?_⟩, fun j hj hf => ?_⟩
              · exact (Rk.keep HD2.out BF.out).kept fun j hj => set_off _ _ _ _ _ (fun e => by rw [e] at hj; exact HF2b.out hj)
              · have h := HCf.out.set 3 (.slice af recs.length cf)
                show RC _ b bd (l.no + 1) (1 - l.ar) _ _ l.lost
                rw [hlf, HNA.out]
                exact h
              · exact (RF'.base (Nat.zero_le _)).kept fun j hj => set_off _ _ _ _ _ (fun e => by have := (HRg j hj).1; omega)
              · have hw0 : RowsS w 0 (.slice aW k cW) l.W := P0.out.1.wait
                rw [HWn.out] at hw0
                show RowsS _ 0 (.slice aW k cW) []
                refine hw0.kept fun j hj => ?_
                have hG : G j := (P0.out.2 j).2 (.inr (.inr hj))
                have hne : j ≠ b := P0.out.1.off.2 j hj
                rw [set_off _ _ _ _ _ hne]
                exact (BF.out.block j (Nat.lt_of_lt_of_le (HGlt.out j hG) h22)).trans (HK2.out j hG hne)
              · have h1 := (HRg j hj).1
                have h2 := HGlt.out j ((P0.out.2 j).2 (.inr (.inr e)))
                omega
              · exact hoff2.grown (grown_setCell wf b 3 _) (fun j e => .inl (.inr (by cases e; exact HR0.out.b)))
              · rcases hj with rfl | e | e
                · exact .inl HR0.out.b
                · exact .inr (by have := (HRg j e).1; omega)
                · exact .inl ((P0.out.2 j).2 (.inr (.inr e)))
              · rcases hj with rfl | e | e
                · exact HF2b.out hf
                · have h2 := (HRg j e).1
                  have h3 := HD2.out.lt j hf
                  omega
                · have hG : G j := (P0.out.2 j).2 (.inr (.inr e))
                  rcases HNF.out j hf with h | h
                  · exact HX0.out j hG h
                  · have := HGlt.out j hG; omega
            · have HR2 : Hid (R = (X.1, { l with lost := true }, X.2)) := by show _ = _; rw [HRY.out, ← HC1e.out, if_neg h0]
              have HCa : Hid (RC w2 b bd l.no l.ar vL (.slice aW k cW) false) := HC2.out.2 (fun e => h0 (HC1e.out.trans e))
              obtain ⟨d0, d1, d2, d3, d4, d5⟩ := HCa.out.six
              have hfz5 := HCa.out.fz 5
              have HCb : Hid (RC (w2.setCell ⟨b, 5, none⟩ (.bool true)) b bd l.no l.ar vL (.slice aW k cW) true) := HCa.out.set 5 _
              have e2 : (c1 != 0) = true := by rw [bne_iff_ne]; exact h0
              clear h0
              go_wp2_with fail
              go_ret
              rw [HR2.out]
              refine ⟨by rw [HC1e.out]; rfl, F2, G, ?_, ⟨vL, .slice aW k cW, ⟨HCb.out, ?_, ?_, P0.out.1.apart⟩, P0.out.2⟩, ⟨?_, fun j hj => HNF.out j hj, fun j hj => .inl hj⟩, fun j hj hf => ?_⟩
              · exact HD2.out.kept fun j hj => set_off _ _ _ _ _ (fun e => by rw [e] at hj; exact HF2b.out hj)
              · exact P0.out.1.rows.kept fun j hj => (set_off _ _ _ _ _ (P0.out.1.off.1 j hj)).trans (HK2.out j ((P0.out.2 j).2 (.inr (.inl hj))) (P0.out.1.off.1 j hj))
              · exact P0.out.1.wait.kept fun j hj => (set_off _ _ _ _ _ (P0.out.1.off.2 j hj)).trans (HK2.out j ((P0.out.2 j).2 (.inr (.inr hj))) (P0.out.1.off.2 j hj))
              · exact HOff.out.grown (grown_setCell w2 b 5 _) (fun j e => .inl (.inr (by cases e; exact HR0.out.b)))
              · rcases HNF.out j hf with h | h
                · exact HX0.out j hj h
                · have := HGlt.out j hj; omega

end Go.Proofs.YtkhopmlhinkpcaaGreat
