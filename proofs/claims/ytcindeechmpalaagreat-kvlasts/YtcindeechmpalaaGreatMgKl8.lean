/- Crash. bytes.Clone; Read. Image. -/
import Derived.Test.YtcindeechmpalaaGreatMgKl7
import Derived.BigQuiet
import Derived.Deep.QuietTactic
import Derived.Laws.CopyOwn
import Derived.Lib.BufferMore
import Derived.Laws.OwnMore
namespace Go.Proofs.YtcindeechmpalaaGreat
open Go.ChangeShapes Go.WideShapes Go.ChangeAt Go.RowKit Go.Deep Go.Maps
set_option linter.unusedVariables false
/-- a slice of ints that may be read -/
def InK (w : World) (a : Option Addr) (K : List Int) : Prop := K = [] ∨ ∃ x, a = some x ∧ ∀ i v, K[i]? = some v → w.cell? (x.add i) = some (.int .i64 v)
theorem InK.kept {w w' : World} {a : Option Addr} {K : List Int} (h : InK w a K) (hb : ∀ x, a = some x → K ≠ [] → w'.heap[x.block]? = w.heap[x.block]?) : InK w' a K := by
  rcases h with h | ⟨x, hx, hc⟩
  · exact .inl h
  · by_cases hK : K = []
    · exact .inl hK
    · refine .inr ⟨x, hx, fun i v hv => ?_⟩
      have e : (x.add i).block = x.block := by unfold Addr.add; split <;> rfl
      exact (World.cell?_of_block (a := x.add i) (by rw [e]; exact hb x hx hK)).trans (hc i v hv)
theorem InK.lt {w : World} {a : Option Addr} {K : List Int} (h : InK w a K) (x : Addr) (hx : a = some x) (hK : K ≠ []) : x.block < w.heap.size := by
  rcases h with h | ⟨y, hy, hc⟩
  · exact absurd h hK
  · rw [hx] at hy
    obtain rfl := Option.some.inj hy
    cases K with
    | nil => exact absurd rfl hK
    | cons v l =>
      have := World.block_lt_of_cell? _ _ (hc 0 v rfl)
      have e : (x.add 0).block = x.block := by unfold Addr.add; split <;> rfl
      rwa [e] at this
theorem InW.kept {w w' : World} {g : Nat} {l : List Wt} (h : InW w (some ⟨g, 0, none⟩) l) (hb : w'.heap[g]? = w.heap[g]?) (hs : w.heap.size ≤ w'.heap.size) : InW w' (some ⟨g, 0, none⟩) l := by
  rcases h with h | ⟨g', off, e, hg, hc⟩
  · exact .inl h
  · cases e
    refine .inr ⟨g, 0, rfl, by omega, fun i x hx => ?_⟩
    obtain ⟨c0, c1⟩ := hc i x hx
    exact ⟨(World.cell?_of_block (a := ⟨g, 0 + i * 2, none⟩) hb).trans c0, (World.cell?_of_block (a := ⟨g, 0 + i * 2 + 1, none⟩) hb).trans c1⟩
theorem set_same (D : List (List Int)) (i : Nat) : D.set i (D[i]?.getD []) = D := by
  apply List.ext_getElem?
  intro k
  by_cases hk : i = k
  · subst hk
    by_cases hl : i < D.length
    · rw [List.getElem?_set_self hl, List.getElem?_eq_getElem hl]; rfl
    · rw [List.getElem?_eq_none (by simp; omega), List.getElem?_eq_none (by omega)]
  · rw [List.getElem?_set_ne hk]
theorem settle_kept (w : World) (h b N : Nat) (D : List (List Int)) (W : Int → List (List Int)) (up : Bool) (done fuse : Int) (gd cd mb : Nat) (T : Int → Option Hd) (H : DkP w h b N D W up done fuse gd cd mb T) (hD : D.length ≤ 4096) (i : Nat) (hi : i < D.length) (m : Nat) (hm : m ≤ (W i).length) (hkl : (W i).length ≤ 1000000000) :
    Calls Tryz.prog 53 #[.pointer (some ⟨b, 0, none⟩), .int .i64 (i : Int), .int .i64 (m : Int)] w fun e w' => e = .returned (.tuple #[]) ∧ Off (Fp b gd mb T) w w' ∧ DkP w' h b N (D.set i (pick (W (i : Int)) m (D[i]?.getD []))) (fun j => if j = (i : Int) then [] else W j) up done fuse gd cd mb (fun q => if q = (i : Int) then none else T q) := by
  cases m with
  | zero =>
    rw [show pick (W (i : Int)) 0 (D[i]?.getD []) = D[i]?.getD [] from rfl, set_same]
    exact settle_none w h b N D W up done fuse gd cd mb T H hD i hi
  | succ k =>
    have hne : W (i : Int) ≠ [] := fun e => by rw [e] at hm; simp at hm
    cases hT : T (i : Int) with
    | none => exact absurd ((H.nil _).1 hT) hne
    | some x =>
      obtain ⟨_, ⟨g, c, rfl, _⟩, _⟩ := H.row _ x hT
      obtain ⟨y, hy⟩ : ∃ y, (W (i : Int))[k]? = some y := ⟨_, List.getElem?_eq_getElem (by omega)⟩
      have e : pick (W (i : Int)) (k + 1) (D[i]?.getD []) = y := by simp [pick, hy]
      rw [e]
      rw [show (((k + 1 : Nat) : Int)) = (k : Int) + 1 by omega]
      have := settle_some w h b N D W up done fuse gd cd mb T H hD i hi k g c hT (by omega) hkl y hy
      exact this
theorem crs_step {keep : List Int} {W : Int → List (List Int)} {l : List Nat} {j i : Nat} (h : l[j]? = some i) (D : List (List Int)) : crs keep W (l.drop j) j D = crs keep W (l.drop (j + 1)) (j + 1) (D.set i (pick (W (i : Int)) (kp keep j (W (i : Int)).length) (D[i]?.getD []))) := by
  obtain ⟨hj, rfl⟩ := List.getElem?_eq_some_iff.1 h
  rw [List.drop_eq_getElem_cons hj, crs]
theorem wa_at {n : Nat} {W : Int → List (List Int)} {j i : Nat} (h : (wb n W)[j]? = some i) : (wa n W)[j]? = some ((i : Int), ((W (i : Int)).length : Int)) := by
  simp [wa, h]
theorem wa_len (n : Nat) (W : Int → List (List Int)) : (wa n W).length = (wb n W).length := by simp [wa]
/-- what still waits when the first j blocks are settled -/
structure Cw (D0 : List (List Int)) (W W' : Int → List (List Int)) (j : Nat) : Prop where
  here : ∀ i : Nat, i ∈ (wb D0.length W).drop j → W' (i : Int) = W (i : Int)
  gone : ∀ q : Int, (¬ ∃ i : Nat, (i : Int) = q ∧ i ∈ (wb D0.length W).drop j) → W' q = []
theorem Cw.start {D0 : List (List Int)} {W : Int → List (List Int)} (hWd : ∀ i, W i ≠ [] → 0 ≤ i ∧ i < D0.length) : Cw D0 W W 0 := by
  refine ⟨fun _ _ => rfl, fun q hq => ?_⟩
  by_cases hne : W q = []
  · exact hne
  · exfalso
    obtain ⟨h0, h1⟩ := hWd q hne
    obtain ⟨i, rfl⟩ := Int.eq_ofNat_of_zero_le h0
    exact hq ⟨i, rfl, by rw [List.drop_zero]; exact mem_wb.2 ⟨by omega, hne⟩⟩
theorem Cw.step {D0 : List (List Int)} {W W' : Int → List (List Int)} {j i : Nat} (h : Cw D0 W W' j) (hi : (wb D0.length W)[j]? = some i) : Cw D0 W (fun q => if q = (i : Int) then [] else W' q) (j + 1) := by
  obtain ⟨hj, rfl⟩ := List.getElem?_eq_some_iff.1 hi
  have hd := List.drop_eq_getElem_cons hj
  have hp := wb_rise D0.length W
  have hp2 : ((wb D0.length W).drop j).Pairwise (· < ·) := hp.sublist (List.drop_sublist _ _)
  rw [hd, List.pairwise_cons] at hp2
  refine ⟨fun k hk => ?_, fun q hq => ?_⟩
  · have := hp2.1 k hk
    rw [if_neg (by omega)]
    exact h.here k (by rw [hd]; exact List.mem_cons_of_mem _ hk)
  · by_cases e : q = (((wb D0.length W)[j] : Nat) : Int)
    · exact if_pos e
    · simp only [if_neg e]
      refine h.gone q ?_
      rintro ⟨k, rfl, hk⟩
      rw [hd] at hk
      rcases List.mem_cons.1 hk with e2 | e2
      · exact e (by rw [e2])
      · exact hq ⟨k, rfl, e2⟩
theorem Cw.done {D0 : List (List Int)} {W W' : Int → List (List Int)} {j : Nat} (h : Cw D0 W W' j) (hj : (wb D0.length W).length ≤ j) : W' = fun _ => [] := by
  funext q
  refine h.gone q ?_
  rintro ⟨k, _, hk⟩
  rw [List.drop_eq_nil_of_le hj] at hk
  simp at hk
theorem fp_less {b gd mb : Nat} {T : Int → Option Hd} {i : Int} {k : Nat} (hk : Fp b gd mb (fun q => if q = i then none else T q) k) : Fp b gd mb T k := by
  rcases hk with e | e | e | ⟨j, x, hx, e⟩
  · exact .inl e
  · exact .inr (.inl e)
  · exact .inr (.inr (.inl e))
  · by_cases hj : j = i
    · simp only [if_pos hj] at hx; cases hx
    · simp only [if_neg hj] at hx
      exact .inr (.inr (.inr ⟨j, x, hx, e⟩))
theorem below1N (w : World) (c : Obj) (n : Nat) : Below w.heap.size w ((w.alloc c).drewN n) := ⟨rfl, rfl, rfl, (below1 w c).size, (below1 w c).block⟩
set_option maxRecDepth 100000 in
set_option maxHeartbeats 4000000 in
theorem crash_is (w : World) (h b N : Nat) (D : List (List Int)) (W : Int → List (List Int)) (up : Bool) (done fuse : Int) (gd cd mb : Nat) (T : Int → Option Hd) (hn : 1 ≤ D.length ∧ D.length ≤ 4096) (H : DkP w h b N D W up done fuse gd cd mb T) (hN : N ≤ 1000000000) (hWl : ∀ i, (W i).length ≤ 1000000000) (hWd : ∀ i, W i ≠ [] → 0 ≤ i ∧ i < D.length) (ka : Option Addr) (kl kc : Nat) (keep : List Int) (hkl : keep.length = kl) (hin : InK w ka keep) (hkb : ∀ x, ka = some x → keep ≠ [] → ¬ Fp b gd mb T x.block) :
    Calls Tryz.prog 21 #[.pointer (some ⟨b, 0, none⟩), .slice ka kl kc] w fun e w' => e = .returned (.int .i64 0) ∧ Off (Fp b gd mb T) w w' ∧ DkP w' h b N (crD keep D W) (fun _ => []) true done (-1) gd cd mb (fun _ => none) := by
  have K : Hid (Calls Tryz.prog 51 #[.pointer (some ⟨b, 0, none⟩)] w fun e w' => e = .returned (.bool false) ∧ w' = w) := isNone_not w b gd D.length cd mb up done fuse hn.1 (d5_of H.cell)
  have KW : Hid (Calls Tryz.prog 52 #[.pointer (some ⟨b, 0, none⟩)] w fun e w' => ∃ g c, e = .returned (.slice (some ⟨g, 0, none⟩) (wa D.length W).length c) ∧ InW w' (some ⟨g, 0, none⟩) (wa D.length W) ∧ w.heap.size ≤ g ∧ w.grownBy w' none) := waiting_is w h b N D W up done fuse gd cd mb T hn.1 H hN hWd
  have HP : Hid (DkP w h b N D W up done fuse gd cd mb T) := H
  have HWL : Hid (∀ i, (W i).length ≤ 1000000000) := hWl
  have HWD : Hid (∀ i, W i ≠ [] → 0 ≤ i ∧ i < D.length) := hWd
  have HIN : Hid (InK w ka keep ∧ ∀ x, ka = some x → keep ≠ [] → ¬ Fp b gd mb T x.block) := ⟨hin, hkb⟩
  have HN : Hid (1 ≤ D.length ∧ D.length ≤ 4096) := hn
  have HLN : Hid ((wa D.length W).length = (wb D.length W).length ∧ (wb D.length W).length ≤ 4096) := by
    refine ⟨wa_len _ _, ?_⟩
    have := List.length_filter_le (fun i : Nat => !(W (i : Int)).isEmpty) (List.range D.length)
    rw [List.length_range] at this
    exact Nat.le_trans this hn.2
  clear H hWd hWl hin hkb hn hN
  go_enter Tryz.func21, Tryz.ntmps21
  go_wp2_with fail
  refine K.out.mono ?_
  rintro e w0 ⟨rfl, hw⟩
  obtain rfl := hw.symm
  clear hw K
  go_wp2_with fail
  refine KW.out.mono ?_
  rintro e w1 ⟨g, c, rfl, hin1, hg1, hgr1⟩
  have I1 : Hid (InW w1 (some ⟨g, 0, none⟩) (wa D.length W)) := hin1
  have P1 : Hid (DkP w1 h b N D W up done fuse gd cd mb T) := HP.out.kept hgr1.size (fun k hk => hgr1.block k (HP.out.fp_lt k hk).1 (by simp)) hgr1.os hgr1.tape hgr1.output
  have O1 : Hid (Off (Fp b gd mb T) w w1) := Off.ofBelow _ (grown_none_below hgr1)
  have FG : Hid (∀ k, Fp b gd mb T k → k < w.heap.size) := fun k hk => (HP.out.fp_lt k hk).1
  have GG : Hid (w.heap.size ≤ g) := hg1
  clear hin1 hg1 hgr1 KW
  obtain ⟨L, hL⟩ : ∃ L, (wa D.length W).length = L := ⟨_, rfl⟩
  have LL : Hid ((wb D.length W).length = L ∧ L ≤ 4096) := by rw [← hL]; exact ⟨HLN.out.1.symm, by rw [HLN.out.1]; exact HLN.out.2⟩
  have hLL := LL.out.2
  rw [hL]
  go_wp2_with fail
  go_loopg [13] L (fun gg i wr => ∃ (j : Nat) (Dc : List (List Int)) (Wc : Int → List (List Int)) (Tc : Int → Option Hd), j ≤ L ∧ gg = L - j ∧ i = .int .i64 (j : Int) ∧ Hid (DkP wr h b N Dc Wc up done fuse gd cd mb Tc) ∧ Hid (InW wr (some ⟨g, 0, none⟩) (wa D.length W)) ∧ Hid (Off (Fp b gd mb T) w wr) ∧ Hid (crs keep W ((wb D.length W).drop j) j Dc = crD keep D W ∧ Dc.length = D.length ∧ Cw D W Wc j ∧ ∀ k, Fp b gd mb Tc k → Fp b gd mb T k))
  case atStart => exact ⟨0, D, W, T, by omega, rfl, rfl, P1, I1, O1, rfl, rfl, Cw.start HWD.out, fun _ hk => hk⟩
  case round =>
    obtain ⟨j, Dc, Wc, Tc, hj, rfl, rfl, PC, IW, OC, IC⟩ := hrel
    by_cases hjl : j < L
    · have e1 : decide ((j : Int) < (L : Int)) = true := by rw [decide_eq_true_eq]; omega
      obtain ⟨i, hi⟩ : ∃ i, (wb D.length W)[j]? = some i := ⟨_, List.getElem?_eq_getElem (by have := LL.out.1; omega)⟩
      have hiD := mem_wb.1 (List.mem_of_getElem? hi)
      have hwa := wa_at hi
      have hWi : Wc (i : Int) = W (i : Int) := IC.out.2.2.1.here i (List.mem_of_getElem? (i := 0) (by rw [List.getElem?_drop]; exact hi))
      obtain ⟨n, hnW⟩ : ∃ n, (W (i : Int)).length = n := ⟨_, rfl⟩
      have hn9 : n ≤ 1000000000 := by rw [← hnW]; exact HWL.out _
      rw [hnW] at hwa
      have CG : Hid (wr.cell? ⟨g, j * 2, none⟩ = some (.int .i64 (i : Int)) ∧ wr.cell? ⟨g, j * 2 + 1, none⟩ = some (.int .i64 (n : Int))) := by
        rcases IW.out with h0 | ⟨g', off, eg, _, hc⟩
        · rw [h0] at hwa; simp at hwa
        · cases eg
          have := hc j _ hwa
          rwa [Nat.zero_add] at this
      obtain ⟨cg0, cg1⟩ := CG.out
      have r1 : IntKind.i64.wrap ((n : Int) + 1) = (n : Int) + 1 := by rw [IntKind.wrap_i64]; omega
      have r2 : IntKind.i64.wrap ((j : Int) + 1) = (j : Int) + 1 := by rw [IntKind.wrap_i64]; omega
      have MS : Hid (kp keep j n ≤ n) := kp_le keep j n
      have IDX : Hid ((wb D.length W)[j]? = some i ∧ i < D.length ∧ Wc (i : Int) = W (i : Int) ∧ (W (i : Int)).length = n) := ⟨hi, hiD.1, hWi, hnW⟩
      clear hi hiD hwa hWi hnW
      have KS : Hid (∀ Wd, Below wr.heap.size wr Wd → Calls Tryz.prog 53 #[.pointer (some ⟨b, 0, none⟩), .int .i64 (i : Int), .int .i64 (kp keep j n : Int)] Wd fun e w' => e = .returned (.tuple #[]) ∧ ∃ Dn Wn Tn, DkP w' h b N Dn Wn up done fuse gd cd mb Tn ∧ InW w' (some ⟨g, 0, none⟩) (wa D.length W) ∧ Off (Fp b gd mb T) w w' ∧ crs keep W ((wb D.length W).drop (j + 1)) (j + 1) Dn = crD keep D W ∧ Dn.length = D.length ∧ Cw D W Wn (j + 1) ∧ ∀ k, Fp b gd mb Tn k → Fp b gd mb T k) := by
        intro Wd hb
        obtain ⟨hi, hiD, hWi, hnW⟩ := IDX.out
        have P4 : DkP Wd h b N Dc Wc up done fuse gd cd mb Tc := PC.out.kept hb.size (fun k hk => hb.block k (PC.out.fp_lt k hk).1) hb.os hb.tape hb.output
        refine (settle_kept Wd h b N Dc Wc up done fuse gd cd mb Tc P4 (by have := IC.out.2.1; have := HN.out.2; omega) i (by have := IC.out.2.1; omega) (kp keep j n) (by rw [hWi, hnW]; exact MS.out) (by rw [hWi]; exact HWL.out _)).mono ?_
        rintro e w' ⟨rfl, o5, p5⟩
        refine ⟨rfl, _, _, _, p5, ?_, (OC.out.andBelow hb).trans o5 (fun k hk => .inl (IC.out.2.2.2 k hk)), ?_, by rw [List.length_set]; exact IC.out.2.1, IC.out.2.2.1.step hi, fun k hk => IC.out.2.2.2 k (fp_less hk)⟩
        · rcases IW.out with h0 | ⟨g', off, eg, hgl, hc⟩
          · exact .inl h0
          · have hg2 : g < wr.heap.size := by cases eg; exact hgl
            have i1 := InW.kept IW.out (hb.block g hg2) hb.size
            exact i1.kept (o5.block g (Nat.lt_of_lt_of_le hg2 hb.size) (fun hf => by have := FG.out g (IC.out.2.2.2 g hf); have := GG.out; omega)) o5.size
        · rw [← IC.out.1, crs_step hi, hWi, hnW]
      by_cases hjk : j < kl
      · have e2 : decide ((j : Int) < (kl : Int)) = true := by rw [decide_eq_true_eq]; omega
        obtain ⟨m, hm⟩ : ∃ m, keep[j]? = some m := ⟨_, List.getElem?_eq_getElem (by omega)⟩
        obtain ⟨x, rfl, hxc⟩ : ∃ x, ka = some x ∧ wr.cell? (x.add j) = some (.int .i64 m) := by
          rcases HIN.out.1 with h0 | ⟨x, hx, hc⟩
          · rw [h0] at hm; simp at hm
          · refine ⟨x, hx, ?_⟩
            have hne : keep ≠ [] := fun e => by rw [e] at hm; simp at hm
            have e : (x.add j).block = x.block := by unfold Addr.add; split <;> rfl
            have hx0 := hc j m hm
            have hlt := World.block_lt_of_cell? _ _ hx0
            exact (World.cell?_of_block (a := x.add j) (OC.out.block _ hlt (by rw [e]; exact HIN.out.2 x hx hne))).trans hx0
        have hlt : (x.add j).block < wr.heap.size := World.block_lt_of_cell? _ _ hxc
        by_cases hm0 : 0 < m
        · have e3 : decide (0 < m) = true := by rw [decide_eq_true_eq]; exact hm0
          have KM : Hid ((kp keep j n : Int) = m % ((n : Int) + 1)) := by
            show _ = _
            unfold kp
            rw [hm]
            simp only [if_pos hm0]
            rw [Int.toNat_of_nonneg (Int.emod_nonneg _ (by omega))]
          have e4 : ((n : Int) + 1 == 0) = false := by rw [beq_eq_false_iff_ne]; omega
          rw [KM.out] at KS
          go_wp2_with fail
          go_quiet (fail)
          go_wp2_with fail
          refine (KS.out _ (below1N _ _ _)).mono ?_
          rintro e w5 ⟨rfl, Dn, Wn, Tn, p5, i5, o5, c5⟩
          have P5 : Hid (DkP w5 h b N Dn Wn up done fuse gd cd mb Tn) := p5
          have I5 : Hid (InW w5 (some ⟨g, 0, none⟩) (wa D.length W)) := i5
          have O5 : Hid (Off (Fp b gd mb T) w w5) := o5
          have C5 : Hid (crs keep W ((wb D.length W).drop (j + 1)) (j + 1) Dn = crD keep D W ∧ Dn.length = D.length ∧ Cw D W Wn (j + 1) ∧ ∀ k, Fp b gd mb Tn k → Fp b gd mb T k) := c5
          clear p5 i5 o5 c5 KS
          go_wp2_with fail
          go_roundg (L - (j + 1))
          case measure => omega
          case rel => exact ⟨j + 1, Dn, Wn, Tn, by omega, rfl, by simp, P5, I5, O5, C5⟩
        · have e3 : decide (0 < m) = false := by rw [decide_eq_false_iff_not]; exact hm0
          have KM : Hid (kp keep j n = 0) := by
            show _ = _
            unfold kp
            rw [hm]
            simp only [if_neg hm0]
          rw [KM.out] at KS
          go_wp2_with fail
          refine (KS.out _ (below1 _ _)).mono ?_
          rintro e w5 ⟨rfl, Dn, Wn, Tn, p5, i5, o5, c5⟩
          have P5 : Hid (DkP w5 h b N Dn Wn up done fuse gd cd mb Tn) := p5
          have I5 : Hid (InW w5 (some ⟨g, 0, none⟩) (wa D.length W)) := i5
          have O5 : Hid (Off (Fp b gd mb T) w w5) := o5
          have C5 : Hid (crs keep W ((wb D.length W).drop (j + 1)) (j + 1) Dn = crD keep D W ∧ Dn.length = D.length ∧ Cw D W Wn (j + 1) ∧ ∀ k, Fp b gd mb Tn k → Fp b gd mb T k) := c5
          clear p5 i5 o5 c5 KS
          go_wp2_with fail
          go_roundg (L - (j + 1))
          case measure => omega
          case rel => exact ⟨j + 1, Dn, Wn, Tn, by omega, rfl, by simp, P5, I5, O5, C5⟩
      · have e2 : decide ((j : Int) < (kl : Int)) = false := by rw [decide_eq_false_iff_not]; omega
        have KM : Hid (kp keep j n = 0) := by
          show _ = _
          unfold kp
          rw [List.getElem?_eq_none (by omega)]
        rw [KM.out] at KS
        go_wp2_with fail
        refine (KS.out _ (below1 _ _)).mono ?_
        rintro e w5 ⟨rfl, Dn, Wn, Tn, p5, i5, o5, c5⟩
        have P5 : Hid (DkP w5 h b N Dn Wn up done fuse gd cd mb Tn) := p5
        have I5 : Hid (InW w5 (some ⟨g, 0, none⟩) (wa D.length W)) := i5
        have O5 : Hid (Off (Fp b gd mb T) w w5) := o5
        have C5 : Hid (crs keep W ((wb D.length W).drop (j + 1)) (j + 1) Dn = crD keep D W ∧ Dn.length = D.length ∧ Cw D W Wn (j + 1) ∧ ∀ k, Fp b gd mb Tn k → Fp b gd mb T k) := c5
        clear p5 i5 o5 c5 KS
        go_wp2_with fail
        go_roundg (L - (j + 1))
        case measure => omega
        case rel => exact ⟨j + 1, Dn, Wn, Tn, by omega, rfl, by simp, P5, I5, O5, C5⟩
    · have e1 : decide ((j : Int) < (L : Int)) = false := by rw [decide_eq_false_iff_not]; omega
      have hjL : j = L := by omega
      subst hjL
      obtain ⟨q0, q1, q2, q3, q4⟩ := d5_of PC.out.cell
      have z := frozen_not PC.out.cell
      have z2 := z 2
      have z4 := z 4
      clear z
      go_wp2_with fail
      go_ret
      have G : wr.grownBy ((wr.setCell ⟨b, 2, none⟩ (.bool true)).setCell ⟨b, 4, none⟩ (.int .i64 (-1))) (some b) :=
        ⟨rfl, rfl, rfl, Nat.le_trans (grown_set wr b 2 _).size (grown_set _ b 4 _).size, fun k hk hne => ((grown_set _ b 4 _).block k (Nat.lt_of_lt_of_le hk (grown_set wr b 2 _).size) hne).trans ((grown_set wr b 2 _).block k hk hne)⟩
      have eD : Dc = crD keep D W := by
        have := IC.out.1
        rw [List.drop_eq_nil_of_le (by have := LL.out.1; omega)] at this
        exact this
      have eW : Wc = fun _ => [] := IC.out.2.2.1.done (by have := LL.out.1; omega)
      have eT : Tc = fun _ => none := funext fun q => (PC.out.nil q).2 (by rw [eW])
      have p := PC.out.fields (up' := true) (done' := done) (fuse' := -1) G (fun s m hm => set_own _ b 4 _ _ (set_own wr b 2 _ _ hm _) _)
      rw [eD, eW, eT] at p
      exact ⟨rfl, OC.out.grown G (fun k e => .inl (.inl (Option.some.inj e).symm)), p⟩
end Go.Proofs.YtcindeechmpalaaGreat
namespace Go.Proofs.YtcindeechmpalaaGreat
open Go.ChangeShapes Go.WideShapes Go.ChangeAt Go.RowKit Go.Deep Go.Maps
set_option linter.unusedVariables false
theorem owned_low {w : World} {a b : Nat} {v : Value} {A : List Int} (h : Owned w b v A) (hab : a ≤ b) : Owned w a v A := by
  refine ⟨h.1, ?_⟩
  rcases h.2 with h1 | ⟨g, cap, cur, rfl, hbg, rest⟩
  · exact .inl h1
  · exact .inr ⟨g, cap, cur, rfl, Nat.le_trans hab hbg, rest⟩
theorem owned_kept {w w' : World} {base : Nat} {v : Value} {A : List Int} (h : Owned w base v A) (hb : ∀ k, v.ownBlock = some k → w'.heap[k]? = w.heap[k]?) : Owned w' base v A := by
  refine ⟨h.1, ?_⟩
  rcases h.2 with h1 | ⟨g, cap, cur, rfl, hbg, hg, rest⟩
  · exact .inl h1
  · exact .inr ⟨g, cap, cur, rfl, hbg, (hb g rfl).trans hg, rest⟩
theorem bclone_is (w : World) (L : List Int) (n c : Nat) (x : Addr) (hn : L.length = n) (hm : n ≤ 140737488355328) (h0 : n ≠ 0) (hh : Holds w (some x) L) :
    Calls Tryz.prog 93 #[.slice (some x) n c] w fun e w' => ∃ g' c', e = .returned (.slice (some ⟨g', 0, none⟩) n c') ∧ Owned w' w.heap.size (.slice (some ⟨g', 0, none⟩) n c') L ∧ Below w.heap.size w w' := by
  have HL : Hid (Holds (w.alloc (.cells #[] 5)) (some x) L) := by
    rcases hh with rfl | ⟨b, off, hx, hc⟩
    · exact .inl rfl
    · refine .inr ⟨b, off, hx, fun i hi => ?_⟩
      have := hc i hi
      have hlt := World.block_lt_of_cell? _ _ this
      rw [((Below.refl w.heap.size w).alloc (Nat.le_refl _) _).cell hlt]
      exact this
  have hnil : ∀ W, (binOp .eql 86 (.slice (some x) n c) (.slice none 0 0)).run Tryz.prog W = .ok (.bool false) W := fun W => Lib.run_eql_slice_some_nil W _ _ _ Tryz.underlying86
  have HN : Hid (L.length = n ∧ n ≠ 0) := ⟨hn, h0⟩
  clear hh h0
  go_enter Tryz.func93, Tryz.ntmps93
  go_wp2_with (at_builtin; refine append_bytes rfl (.tmp 5) (.tmp 6) rfl w.heap.size _ [] rfl (owned_empty w w.heap.size (Nat.le_refl _)) _ _ _ L rfl hn HL.out (fun h => by simp at h) n (by simp) (by omega) (by simp) ?_; intro a1 c1 w1 hown1 hbel1; have OWN1 : Hid (Owned w1 w.heap.size (.slice a1 n c1) ([] ++ L)) := hown1; have B1 : Hid (Below w.heap.size w w1) := (((Below.refl _ _).alloc (Nat.le_refl _) _).trans hbel1); clear hown1 hbel1)
  go_ret
  have o := OWN1.out
  rw [List.nil_append] at o
  rcases o.2 with ⟨e, h1⟩ | ⟨g, cap, cur, e, hb, hg, _⟩
  · exact absurd (HN.out.1.symm.trans h1) HN.out.2
  · cases e
    exact ⟨g, _, rfl, o, B1.out⟩
set_option maxHeartbeats 4000000 in
theorem read_ref (w : World) (b g n c mb : Nat) (up : Bool) (done fuse : Int) (hn : 1 ≤ n) (h : D5 w b g n c mb up done fuse) (i : Int) (hr : rdyAt up n i ≠ 0) : Calls Tryz.prog 102 #[.pointer (some ⟨b, 0, none⟩), .int .i64 i] w fun e w' => e = .returned (.tuple #[.slice none 0 0, .int .i64 (rdyAt up n i)]) ∧ w' = w := by
  have K : Hid (Calls Tryz.prog 126 #[.pointer (some ⟨b, 0, none⟩), .int .i64 i] w fun e w' => e = .returned (.int .i64 (rdyAt up n i)) ∧ w' = w) := readyAt_is w b g n c mb up done fuse hn h i
  obtain ⟨c0, c1, c2, c3, c4⟩ := h
  generalize rdyAt up n i = r at *
  have e1 : (r == 0) = false := by rw [beq_eq_false_iff_ne]; exact hr
  go_enter Tryz.func102, Tryz.ntmps102
  go_wp2_with fail
  refine K.out.mono ?_
  rintro e w1 ⟨rfl, rfl⟩
  go_wp2_with fail
  go_ret2
  exact ⟨rfl, rfl⟩
theorem u8_one (C : List Int) : ((C.map (Value.int .u8)).toArray.all (·.oneCell')) = true := by
  rw [Array.all_eq_true_iff_forall_mem]; intro v hv; simp at hv; obtain ⟨z, _, rfl⟩ := hv; rfl
theorem holds_row {w : World} {g : Nat} {C : List Int} {t : TypeId} (h : w.heap[g]? = some (.cells (C.map (Value.int .u8)).toArray t)) : Holds w (some ⟨g, 0, none⟩) C := by
  refine .inr ⟨g, 0, rfl, fun i hi => ?_⟩
  simp only [World.cell?, h]
  simp [List.getD_eq_getElem?_getD, hi]
/-- what is behind a store of a whole block into a new one -/
theorem stored64 (w : World) (zz : Array Value) (C : List Int) : ((w.alloc (.cells zz 144)).setRow w.heap.size (C.map (Value.int .u8)).toArray).heap[w.heap.size]? = some (.cells (C.map (Value.int .u8)).toArray 144) ∧ Below w.heap.size w ((w.alloc (.cells zz 144)).setRow w.heap.size (C.map (Value.int .u8)).toArray) :=
  ⟨setRow_heap _ _ _ _ _ _ (heap_alloc_new w _), below_setRow ((Below.refl w.heap.size w).alloc (Nat.le_refl _) _) (Nat.le_refl _) _⟩
set_option maxRecDepth 100000 in
set_option maxHeartbeats 4000000 in
theorem dkread_is (w : World) (h b N : Nat) (D : List (List Int)) (W : Int → List (List Int)) (done fuse : Int) (gd cd mb : Nat) (T : Int → Option Hd) (hn : 1 ≤ D.length ∧ D.length ≤ 4096) (H : DkP w h b N D W true done fuse gd cd mb T) (i : Nat) (x : List Int) (hx : D[i]? = some x) (hWl : (W (i : Int)).length ≤ 1000000000) :
    Calls Tryz.prog 102 #[.pointer (some ⟨b, 0, none⟩), .int .i64 (i : Int)] w fun e w' => ∃ g' c', e = .returned (.tuple #[.slice (some ⟨g', 0, none⟩) 64 c', .int .i64 0]) ∧ Owned w' w.heap.size (.slice (some ⟨g', 0, none⟩) 64 c') (lastOf (W (i : Int)) x) ∧ Below w.heap.size w w' := by
  have h5 := d5_of H.cell
  have hi := (List.getElem?_eq_some_iff.1 hx).1
  have K : Hid (Calls Tryz.prog 126 #[.pointer (some ⟨b, 0, none⟩), .int .i64 (i : Int)] w fun e w' => e = .returned (.int .i64 0) ∧ w' = w) := (show rdyAt true D.length (i : Int) = 0 by simp [rdyAt]; omega) ▸ readyAt_is w b gd D.length cd mb true done fuse hn.1 h5 (i : Int)
  obtain ⟨q0, q1, q2, q3, q4⟩ := h5
  have hx64 := H.is64 x (List.mem_of_getElem? hx)
  have HR : Hid (w.rangeAt gd (i * 64) (x.map (Value.int .u8))) := OwnB.range H.dur H.is64 i x hx
  have LN : Hid ((x.map (Value.int .u8)).length = 64) := by show _ = _; simp [hx64.1]
  have AS : Hid ((x.map (Value.int .u8)).toArray.size = 64) := by show _ = _; simp [hx64.1]
  have AL : Hid ((x.map (Value.int .u8)).toArray.all (·.oneCell') = true) := u8_one x
  have HI : Hid (InI (i : Int)) := ⟨by omega, by omega⟩
  have HP : Hid (DkP w h b N D W true done fuse gd cd mb T) := H
  have HX : Hid (x.length = 64) := hx64.1
  clear H hx hx64
  cases hT : T (i : Int) with
  | none =>
    rw [(HP.out.nil _).1 hT, show lastOf [] x = x from rfl]
    have LK : Hid (∀ Wd, Below w.heap.size w Wd → (Instr.lookup 73 (.map (some mb)) (.int .i64 (i : Int)) false).run Tryz.prog Wd = .ok (.slice none 0 0) Wd) := fun Wd hb => by
      have := (HP.out.mp.keep hb).look (i : Int) HI.out
      rw [hT] at this
      exact this
    clear hT hWl
    go_enter Tryz.func102, Tryz.ntmps102
    go_wp2_with fail
    refine K.out.mono ?_
    rintro e w1 ⟨rfl, hw⟩
    obtain rfl := hw.symm
    clear hw K
    go_wp2_with (first | (refine wpList_load_mid rfl 144 (.tmp 20) rfl gd (i * 64) rfl ((x).map (Value.int .u8)) _ HR.out Tryz.underlying144 rfl (by rw [LN.out]; kernel_rfl) ?_) | (refine wpList_store_row rfl 144 (.tmp 7) (.tmp 21) rfl w.heap.size (x.map (Value.int .u8)).toArray rfl rfl 144 _ (heap_alloc_new w _) (by rw [AS.out]; kernel_rfl) (by rw [AS.out]; rfl) AL.out ?_; generalize hW2 : World.setRow _ _ _ = W2; have S2 : Hid (W2.heap[w.heap.size]? = some (.cells (x.map (Value.int .u8)).toArray 144) ∧ Below w.heap.size w W2) := (by rw [← hW2]; exact stored64 w _ x); have q1' : W2.cell? ⟨b, 1, none⟩ = some (.map (some mb)) := (S2.out.2.cell (p := ⟨b, 1, none⟩) (World.block_lt_of_cell? _ _ q1)).trans q1; have lk := LK.out W2 S2.out.2; clear hW2))
    refine (bclone_is W2 x 64 64 ⟨w.heap.size, 0, none⟩ HX.out (by omega) (by omega) (holds_row S2.out.1)).mono ?_
    rintro e w5 ⟨g', c', rfl, o5, b5⟩
    have O5 : Hid (Owned w5 w.heap.size (.slice (some ⟨g', 0, none⟩) 64 c') x) := owned_low o5 S2.out.2.size
    have B5 : Hid (Below w.heap.size w w5) := S2.out.2.trans (b5.mono S2.out.2.size)
    clear o5 b5
    go_wp2_with fail
    go_ret2
    exact ⟨g', c', rfl, O5.out, B5.out⟩
  | some z =>
    obtain ⟨_, ⟨g, c, rfl, hgd⟩, hown, h64⟩ := HP.out.row _ z hT
    have hne : W (i : Int) ≠ [] := fun e => by have := (HP.out.nil _).2 e; rw [this] at hT; cases hT
    obtain ⟨k, hk⟩ : ∃ k, (W (i : Int)).length = k + 1 := by
      cases h0 : W (i : Int) with
      | nil => exact absurd h0 hne
      | cons a l => exact ⟨l.length, rfl⟩
    obtain ⟨y, hy⟩ : ∃ y, (W (i : Int))[k]? = some y := ⟨_, List.getElem?_eq_getElem (by omega)⟩
    have hlast : lastOf (W (i : Int)) x = y := by unfold lastOf; rw [List.getLast?_eq_getElem?, show (W (i : Int)).length - 1 = k by omega, hy]; rfl
    rw [hlast]
    have hy64 := h64 y (List.mem_of_getElem? hy)
    have HR0 : w.rangeAt g (k * 64) (y.map (Value.int .u8)) := OwnB.range hown h64 k y hy
    have HR2 : Hid (∀ Wd, Below w.heap.size w Wd → Wd.rangeAt g (k * 64) (y.map (Value.int .u8))) := fun Wd hb j v hv => (hb.cell (p := ⟨g, k * 64 + j, none⟩) (hown.own g rfl).2).trans (HR0 j v hv)
    have LN2 : Hid ((y.map (Value.int .u8)).length = 64) := by show _ = _; simp [hy64.1]
    have AS2 : Hid ((y.map (Value.int .u8)).toArray.size = 64) := by show _ = _; simp [hy64.1]
    have AL2 : Hid ((y.map (Value.int .u8)).toArray.all (·.oneCell') = true) := u8_one y
    have HY : Hid (y.length = 64) := hy64.1
    have LK : Hid (∀ Wd, Below w.heap.size w Wd → (Instr.lookup 73 (.map (some mb)) (.int .i64 (i : Int)) false).run Tryz.prog Wd = .ok (.slice (some ⟨g, 0, none⟩) (k + 1) c) Wd) := fun Wd hb => by
      have := (HP.out.mp.keep hb).look (i : Int) HI.out
      rw [hT] at this
      rw [← hk]
      exact this
    have r1 : IntKind.i64.wrap ((k : Int) + 1 - 1) = (k : Int) := by rw [IntKind.wrap_i64]; omega
    have e1 : decide (0 < (k : Int) + 1) = true := by rw [decide_eq_true_eq]; omega
    have hk9 : k < 1000000000 := by omega
    clear hT hWl hown h64 hne hy hlast hy64 hgd HR0 hk
    go_enter Tryz.func102, Tryz.ntmps102
    go_wp2_with fail
    refine K.out.mono ?_
    rintro e w1 ⟨rfl, hw⟩
    obtain rfl := hw.symm
    clear hw K
    go_wp2_with (first | (refine wpList_load_mid rfl 144 (.tmp 20) rfl gd (i * 64) rfl ((x).map (Value.int .u8)) _ HR.out Tryz.underlying144 rfl (by rw [LN.out]; kernel_rfl) ?_) | (refine wpList_store_row rfl 144 (.tmp 7) (.tmp 21) rfl w.heap.size (x.map (Value.int .u8)).toArray rfl rfl 144 _ (heap_alloc_new w _) (by rw [AS.out]; kernel_rfl) (by rw [AS.out]; rfl) AL.out ?_; generalize hW2 : World.setRow _ _ _ = W2; have S2 : Hid (W2.heap[w.heap.size]? = some (.cells (x.map (Value.int .u8)).toArray 144) ∧ Below w.heap.size w W2) := (by rw [← hW2]; exact stored64 w _ x); have q1' : W2.cell? ⟨b, 1, none⟩ = some (.map (some mb)) := (S2.out.2.cell (p := ⟨b, 1, none⟩) (World.block_lt_of_cell? _ _ q1)).trans q1; have lk := LK.out W2 S2.out.2; clear hW2) | (refine wpList_load_mid rfl 144 (.tmp 35) rfl g (k * 64) rfl ((y).map (Value.int .u8)) _ (HR2.out W2 S2.out.2) Tryz.underlying144 rfl (by rw [LN2.out]; kernel_rfl) ?_) | (refine wpList_store_row rfl 144 (.tmp 7) (.tmp 36) rfl w.heap.size (y.map (Value.int .u8)).toArray rfl rfl 144 _ S2.out.1 (by rw [AS2.out]; kernel_rfl) (by rw [AS2.out, AS.out]) AL2.out ?_; generalize hW3 : World.setRow _ _ _ = W3; have S3 : Hid (W3.heap[w.heap.size]? = some (.cells (y.map (Value.int .u8)).toArray 144) ∧ Below w.heap.size w W3) := (by rw [← hW3]; exact ⟨setRow_heap _ _ _ _ _ _ S2.out.1, below_setRow S2.out.2 (Nat.le_refl _) _⟩); clear hW3))
    refine (bclone_is W3 y 64 64 ⟨w.heap.size, 0, none⟩ HY.out (by omega) (by omega) (holds_row S3.out.1)).mono ?_
    rintro e w5 ⟨g', c', rfl, o5, b5⟩
    have O5 : Hid (Owned w5 w.heap.size (.slice (some ⟨g', 0, none⟩) 64 c') y) := owned_low o5 S3.out.2.size
    have B5 : Hid (Below w.heap.size w w5) := S3.out.2.trans (b5.mono S3.out.2.size)
    clear o5 b5
    go_wp2_with fail
    go_ret2
    exact ⟨g', c', rfl, O5.out, B5.out⟩
end Go.Proofs.YtcindeechmpalaaGreat
namespace Go.Proofs.YtcindeechmpalaaGreat
open Go.ChangeShapes Go.WideShapes Go.ChangeAt Go.RowKit Go.Deep Go.Maps
set_option linter.unusedVariables false
theorem ownsRow_kept {w w' : World} {base e size n : Nat} {v : Value} {xs : List Value} (h : w.ownsRow base e size v n xs) (hb : ∀ k, v.ownBlock = some k → w'.heap[k]? = w.heap[k]?) : w'.ownsRow base e size v n xs := by
  refine ⟨h.1, ?_⟩
  rcases h.2 with h1 | ⟨g, cap, cur, rfl, hbg, hg, rest⟩
  · exact .inl h1
  · exact .inr ⟨g, cap, cur, rfl, hbg, (hb g rfl).trans hg, rest⟩
/-- slices of sixty-four bytes each, and such as are not laid yet -/
def sv (p : Nat × Nat) : Value := .slice (some ⟨p.1, 0, none⟩) 64 p.2
def vlS (V : List (Nat × Nat)) (n : Nat) : List Value := V.map sv ++ List.replicate (n - V.length) (.slice none 0 0)
theorem vlS_more (V : List (Nat × Nat)) (n : Nat) (p : Nat × Nat) (h : V.length < n) : (vlS V n).set V.length (sv p) = vlS (V ++ [p]) n := by
  unfold vlS
  obtain ⟨m, rfl⟩ : ∃ m, n = V.length + (m + 1) := ⟨n - V.length - 1, by omega⟩
  rw [show V.length + (m + 1) - V.length = m + 1 by omega, List.replicate_succ, List.set_append_right _ _ (by simp)]
  simp [List.append_assoc]
  omega
theorem vlS_len (V : List (Nat × Nat)) (n : Nat) (h : V.length ≤ n) : (vlS V n).length = n := by simp [vlS]; omega
theorem vlS_at (V : List (Nat × Nat)) (n i : Nat) (p : Nat × Nat) (h : V[i]? = some p) : (vlS V n)[i]? = some (sv p) := by
  have hi := (List.getElem?_eq_some_iff.1 h).1
  unfold vlS
  rw [List.getElem?_append_left (by simpa using hi), List.getElem?_map, h]
  rfl
/-- rows of sixty-four bytes each, of one's own, in blocks apart from one another -/
structure Img (w : World) (B go n : Nat) (V : List (Nat × Nat)) (L : List (List Int)) : Prop where
  row : w.ownsRow B 86 1 (.slice (some ⟨go, 0, none⟩) n n) n (vlS V n)
  len : V.length ≤ n
  own : ∀ (i : Nat) (p : Nat × Nat), V[i]? = some p → ∃ x, L[i]? = some x ∧ Owned w B (sv p) x
  nodup : (V.map (·.1)).Nodup
  off : ∀ p ∈ V, p.1 ≠ go
theorem Img.lt {w : World} {B go n : Nat} {V : List (Nat × Nat)} {L : List (List Int)} (h : Img w B go n V L) : B ≤ go ∧ go < w.heap.size ∧ ∀ p ∈ V, B ≤ p.1 ∧ p.1 < w.heap.size := by
  refine ⟨(h.row.lt go rfl).1, (h.row.lt go rfl).2, fun p hp => ?_⟩
  obtain ⟨i, hi⟩ := List.mem_iff_getElem?.1 hp
  obtain ⟨x, _, ho⟩ := h.own i p hi
  exact World.ownsRow.lt ho p.1 rfl
theorem Img.kept {w w' : World} {B go n : Nat} {V : List (Nat × Nat)} {L : List (List Int)} (h : Img w B go n V L) (hb : ∀ k, (k = go ∨ ∃ p ∈ V, k = p.1) → w'.heap[k]? = w.heap[k]?) : Img w' B go n V L := by
  refine ⟨ownsRow_kept h.row fun k hk => ?_, h.len, fun i p hp => ?_, h.nodup, h.off⟩
  · have : go = k := by simpa [Value.ownBlock] using hk
    exact hb k (.inl this.symm)
  · obtain ⟨x, hx, ho⟩ := h.own i p hp
    refine ⟨x, hx, owned_kept ho fun k hk => ?_⟩
    have : p.1 = k := by simpa [sv, Value.ownBlock] using hk
    exact hb k (.inr ⟨p, List.mem_of_getElem? hp, this.symm⟩)
theorem Img.keep {w w' : World} {B go n : Nat} {V : List (Nat × Nat)} {L : List (List Int)} (h : Img w B go n V L) (hb : Below w.heap.size w w') : Img w' B go n V L := by
  refine h.kept fun k hk => hb.block k ?_
  rcases hk with rfl | ⟨p, hp, rfl⟩
  · exact h.lt.2.1
  · exact (h.lt.2.2 p hp).2
theorem Img.more {w w2 : World} {B go n : Nat} {V : List (Nat × Nat)} {L : List (List Int)} (h : Img w B go n V L) (hb : Below w.heap.size w w2) (hj : V.length < n) (x : List Int) (hx : L[V.length]? = some x) (g' c' : Nat) (ho : Owned w2 w.heap.size (sv (g', c')) x) (hB : B ≤ w.heap.size) :
    Img (w2.setCell ⟨go, V.length, none⟩ (sv (g', c'))) B go n (V ++ [(g', c')]) L := by
  have h2 := h.keep hb
  have hst := h2.row.stored V.length (sv (g', c'))
  have hg' := World.ownsRow.lt ho g' rfl
  have hlt := h.lt
  refine ⟨?_, by simp; omega, fun i p hp => ?_, ?_, fun p hp => ?_⟩
  · rw [← vlS_more V n (g', c') hj]
    exact hst.1
  · rcases Nat.lt_or_ge i V.length with hi | hi
    · rw [List.getElem?_append_left hi] at hp
      obtain ⟨x', hx', ho'⟩ := h2.own i p hp
      refine ⟨x', hx', owned_kept ho' fun k hk => ?_⟩
      have e : p.1 = k := by simpa [sv, Value.ownBlock] using hk
      subst e
      exact hst.2.block _ (by have := (hlt.2.2 p (List.mem_of_getElem? hp)).2; have := hb.size; omega) (by have := h.off p (List.mem_of_getElem? hp); simpa using this)
    · rw [List.getElem?_append_right hi] at hp
      have hi0 : i - V.length = 0 := by
        have := (List.getElem?_eq_some_iff.1 hp).1
        simp at this
        omega
      rw [hi0] at hp
      obtain rfl := (Option.some.inj hp).symm
      have hiV : i = V.length := by omega
      subst hiV
      refine ⟨x, hx, owned_kept (owned_low ho hB) fun k hk => ?_⟩
      have e : g' = k := by simpa [sv, Value.ownBlock] using hk
      subst e
      exact hst.2.block _ hg'.2 (by have := hlt.2.1; have := hg'.1; simp; omega)
  · rw [List.map_append, List.nodup_append]
    refine ⟨h.nodup, by simp, fun a ha b hb' => ?_⟩
    simp at hb'
    subst hb'
    obtain ⟨p, hp, rfl⟩ := List.mem_map.1 ha
    have := (hlt.2.2 p hp).2
    omega
  · rcases List.mem_append.1 hp with h1 | h1
    · exact h.off p h1
    · rw [List.mem_singleton.1 h1]
      have := hlt.2.1
      have := hg'.1
      show g' ≠ go
      omega
theorem infoSl : ∃ i, Tryz.prog.info? 86 = some i ∧ i.zero = some (.slice none 0 0) ∧ i.size = 1 ∧ i.bytes = 24 := info_parts (show (Tryz.prog.info? 86).map (fun i => (i.zero, i.size, i.bytes)) = some (some (.slice none 0 0), 1, 24) by kernel_rfl)
theorem made1 (z : Value) (N : Nat) : madeCells #[z] N = (List.replicate N z).toArray := by
  apply Array.ext'
  simp only [madeCells]
  rw [List.eq_replicate_iff]
  refine ⟨by simp, fun b hb => ?_⟩
  simp at hb
  obtain ⟨x, _, rfl⟩ := hb
  simp [Nat.mod_one]
theorem img_made (w : World) (n : Nat) (hn : n ≤ 4096) (L : List (List Int)) : Img (w.alloc (.cells (madeCells #[.slice none 0 0] n) 86)) w.heap.size w.heap.size n [] L := by
  refine ⟨?_, by simp, fun i p hp => by simp at hp, by simp, fun p hp => by cases hp⟩
  rw [made1]
  have := World.ownsRow_lit (e := 86) (size := 1) (base := w.heap.size) w (List.replicate n (Value.slice none 0 0)).toArray n (Nat.le_refl _) (by simp only [maxLen]; omega) (by simp)
  simpa [vlS] using this
theorem OwnB.holds {w : World} {base g n c : Nat} {B : List (List Int)} (h : OwnB w base (.slice (some ⟨g, 0, none⟩) n c) B) (h64 : Is64 B) (i : Nat) (x : List Int) (hx : B[i]? = some x) : Holds w (some ⟨g, i * 64, none⟩) x := by
  refine .inr ⟨g, i * 64, rfl, fun k hk => ?_⟩
  have := (h64 x (List.mem_of_getElem? hx)).1
  exact h.cell h64 i k x hx (by omega)
set_option maxRecDepth 100000 in
set_option maxHeartbeats 4000000 in
theorem image_is (w : World) (h b N : Nat) (D : List (List Int)) (W : Int → List (List Int)) (up : Bool) (done fuse : Int) (gd cd mb : Nat) (T : Int → Option Hd) (hn : 1 ≤ D.length ∧ D.length ≤ 4096) (H : DkP w h b N D W up done fuse gd cd mb T) :
    Calls Tryz.prog 56 #[.pointer (some ⟨b, 0, none⟩)] w fun e w' => ∃ go V, e = .returned (.slice (some ⟨go, 0, none⟩) D.length D.length) ∧ V.length = D.length ∧ Img w' w.heap.size go D.length V D ∧ Below w.heap.size w w' := by
  have h5 := d5_of H.cell
  have K : Hid (Calls Tryz.prog 51 #[.pointer (some ⟨b, 0, none⟩)] w fun e w' => e = .returned (.bool false) ∧ w' = w) := isNone_not w b gd D.length cd mb up done fuse hn.1 h5
  obtain ⟨q0, q1, q2, q3, q4⟩ := h5
  have HP : Hid (DkP w h b N D W up done fuse gd cd mb T) := H
  obtain ⟨n, hnD⟩ : ∃ n, D.length = n := ⟨_, rfl⟩
  have HND : Hid (D.length = n) := hnD
  rw [hnD] at q0 hn ⊢
  have hmk : (Instr.makeSlice 111 (.int .i64 (n : Int)) (.int .i64 (n : Int))).run Tryz.prog w = .ok (.slice (some ⟨w.heap.size, 0, none⟩) n n) (w.alloc (.cells (madeCells #[.slice none 0 0] n) 86)) := by
    obtain ⟨i, hi, hz, hs, hb⟩ := infoSl
    have := run_make (P := Tryz.prog) w 111 86 i _ Tryz.underlying111 hi hz .i64 .i64 (n : Int) (n : Int) (by omega) (Int.le_refl _) (by rw [hb]; omega) (by omega)
    rw [hs] at this
    simpa [show (Value.slice none 0 0).cells = #[Value.slice none 0 0] from rfl] using this
  have I0 : Hid (Img (w.alloc (.cells (madeCells #[.slice none 0 0] n) 86)) w.heap.size w.heap.size n [] D) := img_made w n hn.2 D
  have B0 : Hid (Below w.heap.size w (w.alloc (.cells (madeCells #[.slice none 0 0] n) 86))) := (Below.refl _ _).alloc (Nat.le_refl _) _
  clear H hnD
  generalize madeCells #[.slice none 0 0] n = mc at *
  go_enter Tryz.func56, Tryz.ntmps56
  go_wp2_with fail
  refine K.out.mono ?_
  rintro e w0 ⟨rfl, hw⟩
  obtain rfl := hw.symm
  clear hw K
  go_wp2_with fail
  go_loopg [15] n (fun gg i wr => ∃ (V : List (Nat × Nat)), V.length ≤ n ∧ gg = n - V.length ∧ i = .int .i64 (V.length : Int) ∧ Hid (Img wr w.heap.size w.heap.size n V D) ∧ Hid (Below w.heap.size w wr))
  case atStart => exact ⟨[], by simp, rfl, rfl, I0, B0⟩
  case round =>
    obtain ⟨V, hV, rfl, rfl, IM, BW⟩ := hrel
    by_cases hjl : V.length < n
    · have e1 : decide ((V.length : Int) < (n : Int)) = true := by rw [decide_eq_true_eq]; omega
      obtain ⟨x, hx⟩ : ∃ x, D[V.length]? = some x := ⟨_, List.getElem?_eq_getElem (by have := HND.out; omega)⟩
      have hx64 := (HP.out.is64 x (List.mem_of_getElem? hx)).1
      have hlt3 := HP.out.apart3
      have q0' : wr.cell? ⟨b, 0, none⟩ = some (.slice (some ⟨gd, 0, none⟩) n cd) := (BW.out.cell (p := ⟨b, 0, none⟩) hlt3.2.2.2.1).trans q0
      have KC : Hid (Calls Tryz.prog 93 #[.slice (some ⟨gd, V.length * 64, none⟩) 64 64] wr fun e w' => ∃ g' c', e = .returned (.slice (some ⟨g', 0, none⟩) 64 c') ∧ Owned w' wr.heap.size (.slice (some ⟨g', 0, none⟩) 64 c') x ∧ Below wr.heap.size wr w') := bclone_is wr x 64 64 ⟨gd, V.length * 64, none⟩ hx64 (by omega) (by omega) (OwnB.holds (HP.out.dur.keep BW.out) HP.out.is64 V.length x hx)
      have r2 : IntKind.i64.wrap ((V.length : Int) + 1) = (V.length : Int) + 1 := by rw [IntKind.wrap_i64]; omega
      have HX : Hid (D[V.length]? = some x) := hx
      clear hx hx64 hlt3
      go_wp2_with fail
      refine KC.out.mono ?_
      rintro e w2 ⟨g', c', rfl, o2, b2⟩
      have i2 := IM.out.keep b2
      have cj : w2.cell? ⟨w.heap.size, V.length, none⟩ = some (.slice none 0 0) := by
        rw [i2.row.cellAt V.length (by omega)]
        unfold vlS
        rw [List.getElem?_append_right (by simp), List.length_map, Nat.sub_self, List.getElem?_replicate, if_pos (by omega)]
      have fj : w2.frozen? ⟨w.heap.size, V.length, none⟩ = false := i2.row.frozenAt V.length
      have I3 : Hid (Img (w2.setCell ⟨w.heap.size, V.length, none⟩ (sv (g', c'))) w.heap.size w.heap.size n (V ++ [(g', c')]) D) := IM.out.more b2 hjl x HX.out g' c' o2 BW.out.size
      have B3 : Hid (Below w.heap.size w (w2.setCell ⟨w.heap.size, V.length, none⟩ (sv (g', c')))) := (BW.out.trans (b2.mono BW.out.size)).setCell (Nat.le_refl _) _
      simp only [sv] at I3 B3
      clear i2 o2 b2 KC
      go_wp2_with fail
      go_roundg (n - (V.length + 1))
      case measure => omega
      case rel => exact ⟨V ++ [(g', c')], by simp; omega, by simp, by simp, I3, B3⟩
    · have e1 : decide ((V.length : Int) < (n : Int)) = false := by rw [decide_eq_false_iff_not]; omega
      go_wp2_with fail
      go_ret
      exact ⟨w.heap.size, V, rfl, by omega, IM.out, BW.out⟩
end Go.Proofs.YtcindeechmpalaaGreat
