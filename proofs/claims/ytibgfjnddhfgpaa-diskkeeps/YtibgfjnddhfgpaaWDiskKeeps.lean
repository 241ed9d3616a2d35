/- DiskKeeps' walk. Written by gen_keeps.py. -/
import Derived.Test.YtibgfjnddhfgpaaDkCp
namespace Go.Proofs.Ytibgfjnddhfgpaa
open Go.ChangeShapes Go.WideShapes Go.ChangeAt Go.RowKit Go.Deep Go.Maps
set_option linter.unusedVariables false
set_option linter.unusedSimpArgs false in
set_option maxRecDepth 100000 in
set_option maxHeartbeats 16000000 in
theorem diskKeeps_walk (a : Option Addr) (len cap : Nat) (A : Nat → Av) (ka : Option Addr) (kl kc : Nat) (zs : List Int) (w : World) (hA : InA w a len A) (hz : IsRow .i64 w ka kl kc zs) :
    Calls Try.prog 5 #[.slice a len cap, .slice ka kl kc] w fun e w' => e = .returned (.bool true) ∧ Below w.heap.size w w' := by
  obtain ⟨hin, hkl⟩ := inK_of (row_keepR hz)
  generalize zs.take kl = keep at *
  have HIN : Hid (InK w ka keep ∧ keep.length = kl) := ⟨hin, hkl⟩
  have HA : Hid (InA w a len A) := hA
  clear hin hkl hz hA
  go_enter Try.func5, Try.ntmps5
  go_wp2_with fail
  refine (begun_is _ len cap A w HA.out).mono ?_
  rintro e w1 ⟨F, b, N, Bn, s, sl, rfl, BG0, hN60⟩
  have BG : Hid (Bg w w1 F b N Bn s sl) := BG0
  have Z8 : Hid ((strs s.D).size = 8 ∧ sl.toArray.size = 8) := ⟨by rw [strs_size]; exact BG0.l8, by have := BG0.svl; simpa using this⟩
  have A8 : Hid ((strs s.D).all (·.oneCell') = true ∧ sl.toArray.all (·.oneCell') = true) := by
    refine ⟨strs_one _, ?_⟩
    rw [Array.all_eq_true_iff_forall_mem]
    intro v hv
    obtain ⟨k, hk⟩ := List.mem_iff_getElem?.1 (show v ∈ sl by simpa using hv)
    rcases (BG0.row k v hk).2 with ⟨e, _⟩ | ⟨g, c, cur, e, _⟩ <;> (rw [e]; rfl)
  have H8 : Hid (((w1.alloc (.cells #[Value.string ⟨#[]⟩, Value.string ⟨#[]⟩, Value.string ⟨#[]⟩, Value.string ⟨#[]⟩, Value.string ⟨#[]⟩, Value.string ⟨#[]⟩, Value.string ⟨#[]⟩, Value.string ⟨#[]⟩] 45)).alloc (.cells #[Value.slice none 0 0, Value.slice none 0 0, Value.slice none 0 0, Value.slice none 0 0, Value.slice none 0 0, Value.slice none 0 0, Value.slice none 0 0, Value.slice none 0 0] 47)).heap[w1.heap.size]? = some (.cells #[Value.string ⟨#[]⟩, Value.string ⟨#[]⟩, Value.string ⟨#[]⟩, Value.string ⟨#[]⟩, Value.string ⟨#[]⟩, Value.string ⟨#[]⟩, Value.string ⟨#[]⟩, Value.string ⟨#[]⟩] 45)) := (Below.heap_alloc _ _ _ (by simp)).trans (heap_alloc_new w1 _)
  have H9 : Hid (((w1.alloc (.cells #[Value.string ⟨#[]⟩, Value.string ⟨#[]⟩, Value.string ⟨#[]⟩, Value.string ⟨#[]⟩, Value.string ⟨#[]⟩, Value.string ⟨#[]⟩, Value.string ⟨#[]⟩, Value.string ⟨#[]⟩] 45)).alloc (.cells #[Value.slice none 0 0, Value.slice none 0 0, Value.slice none 0 0, Value.slice none 0 0, Value.slice none 0 0, Value.slice none 0 0, Value.slice none 0 0, Value.slice none 0 0] 47)).heap[w1.heap.size + 1]? = some (.cells #[Value.slice none 0 0, Value.slice none 0 0, Value.slice none 0 0, Value.slice none 0 0, Value.slice none 0 0, Value.slice none 0 0, Value.slice none 0 0, Value.slice none 0 0] 47)) := by
    have := heap_alloc_new (w1.alloc (.cells #[Value.string ⟨#[]⟩, Value.string ⟨#[]⟩, Value.string ⟨#[]⟩, Value.string ⟨#[]⟩, Value.string ⟨#[]⟩, Value.string ⟨#[]⟩, Value.string ⟨#[]⟩, Value.string ⟨#[]⟩] 45)) (.cells #[Value.slice none 0 0, Value.slice none 0 0, Value.slice none 0 0, Value.slice none 0 0, Value.slice none 0 0, Value.slice none 0 0, Value.slice none 0 0, Value.slice none 0 0] 47)
    rw [show (w1.alloc (.cells #[Value.string ⟨#[]⟩, Value.string ⟨#[]⟩, Value.string ⟨#[]⟩, Value.string ⟨#[]⟩, Value.string ⟨#[]⟩, Value.string ⟨#[]⟩, Value.string ⟨#[]⟩, Value.string ⟨#[]⟩] 45)).heap.size = w1.heap.size + 1 by simp] at this
    exact this
  have B9 : Hid (Below w1.heap.size w1 ((w1.alloc (.cells #[Value.string ⟨#[]⟩, Value.string ⟨#[]⟩, Value.string ⟨#[]⟩, Value.string ⟨#[]⟩, Value.string ⟨#[]⟩, Value.string ⟨#[]⟩, Value.string ⟨#[]⟩, Value.string ⟨#[]⟩] 45)).alloc (.cells #[Value.slice none 0 0, Value.slice none 0 0, Value.slice none 0 0, Value.slice none 0 0, Value.slice none 0 0, Value.slice none 0 0, Value.slice none 0 0, Value.slice none 0 0] 47))) := (below1 w1 _).trans ((below1 _ _).mono (by simp))
  clear BG0
  generalize hst : strs s.D = st at *
  generalize hsa : sl.toArray = sa at *
  have HST : Hid (strs s.D = st ∧ sl.toArray = sa) := ⟨hst, hsa⟩
  clear hst hsa
  go_wp2_with (first | (refine wpList_store_row rfl 45 (.tmp 6) (.tmp 20) rfl w1.heap.size st rfl rfl 45 _ H8.out (by rw [Z8.out.1]; exact size45) (by rw [Z8.out.1]; rfl) A8.out.1 ?_) | (refine wpList_store_row rfl 47 (.tmp 7) (.tmp 21) rfl (w1.heap.size + 1) sa rfl rfl 47 _ ((setRow_other _ _ _ _ (by omega)).trans H9.out) (by rw [Z8.out.2]; exact size47) (by rw [Z8.out.2]; rfl) A8.out.2 ?_; generalize hW2 : World.setRow _ _ _ = w2; have S2 : Hid (w2.heap[w1.heap.size]? = some (.cells st 45) ∧ w2.heap[w1.heap.size + 1]? = some (.cells sa 47) ∧ Below w1.heap.size w1 w2) := (by rw [← hW2]; exact ⟨(setRow_other _ _ _ _ (by omega)).trans (setRow_heap _ _ _ _ _ _ H8.out), setRow_heap _ _ _ _ _ _ ((setRow_other _ _ _ _ (by omega)).trans H9.out), below_setRow (below_setRow B9.out (Nat.le_refl _) _) (by omega) _⟩); clear hW2))
  have T2 : Hid (One w w2 (fun k => (k < w1.heap.size ∧ ¬ F k) ∨ (w1.heap.size ≤ k ∧ k < w2.heap.size)) b N s) := BG.out.one.keep S2.out.2.2
  clear H8 H9 B9 Z8 A8
  refine (one_crash T2.out (by omega) ka kl kc keep HIN.out.2 (HIN.out.1.below T2.out.below) (fun x hx hK => .inr (HIN.out.1.lt x hx hK))).mono ?_
  rintro e w3 ⟨rfl, t3, hp3⟩
  obtain ⟨s2, hs2⟩ : ∃ s2, s.cr keep = s2 := ⟨_, rfl⟩
  have T3 : Hid (One w w3 (fun _ => False) b N s2) := hs2 ▸ t3.less (fun _ hk => hk.elim)
  have Q3 : Hid (w3.heap[w1.heap.size]? = some (.cells (strs s.D) 45) ∧ w3.heap[w1.heap.size + 1]? = some (.cells sl.toArray 47) ∧ ∀ (k : Nat) (v : Value), sl[k]? = some v → RowT w3 (w.heap.size + 4) v (s.W (k : Int))) := by
    refine ⟨?_, ?_, fun k v hv => ?_⟩
    · rw [HST.out.1]
      exact (hp3 _ (.inr ⟨Nat.le_refl _, lt_of_heap S2.out.1⟩)).trans S2.out.1
    · rw [HST.out.2]
      exact (hp3 _ (.inr ⟨Nat.le_succ _, lt_of_heap S2.out.2.1⟩)).trans S2.out.2.1
    · refine (BG.out.row k v hv).kept fun x hx => ?_
      have lx := (BG.out.row k v hv).own x hx
      exact (hp3 x (.inl ⟨lx.2, BG.out.off k v x hv hx⟩)).trans (S2.out.2.2.block x lx.2)
  have E3 : Hid (s2.up = true ∧ s2.W = (fun _ => []) ∧ s2.D = crD keep s.D s.W ∧ s.D.length = 8 ∧ s2.D.length = 8 ∧ sl.length = 8) := by
    rw [← hs2]
    refine ⟨rfl, rfl, rfl, BG.out.l8, ?_, BG.out.svl⟩
    show (crD keep s.D s.W).length = 8
    unfold crD
    rw [crs_len]
    exact BG.out.l8
  have W9 : Hid (∀ k, (s.W k).length ≤ 60) := by
    obtain ⟨_, _, _, _, _, _, _, h2, _⟩ := BG.out.dk
    exact fun k => Nat.le_trans (h2 k) hN60
  clear t3 hp3 hs2 T2 S2 HST BG
  generalize w1.heap.size = B1 at *
  go_wp2_with fail
  refine (one_image T3.out).mono ?_
  rintro e w4 ⟨g1, V1, rfl, hV1, im1, b4⟩
  rw [E3.out.2.2.2.2.1] at hV1 im1 ⊢
  have T4 : Hid (One w w4 (fun _ => False) b N s2) := (T3.out.keep b4).less (fun _ hk => hk.elim)
  have I4 : Hid (Img w4 w3.heap.size g1 8 V1 s2.D) := im1
  have Q4 : Hid (w4.heap[B1]? = some (.cells (strs s.D) 45) ∧ w4.heap[B1 + 1]? = some (.cells sl.toArray 47) ∧ ∀ (k : Nat) (v : Value), sl[k]? = some v → RowT w4 (w.heap.size + 4) v (s.W (k : Int))) := ⟨(b4.block _ (lt_of_heap Q3.out.1)).trans Q3.out.1, (b4.block _ (lt_of_heap Q3.out.2.1)).trans Q3.out.2.1, fun k v hv => (Q3.out.2.2 k v hv).keep b4⟩
  clear im1 b4 T3 Q3
  go_wp2_with fail
  go_loopg [33, 10] 8 (fun gg jv pv wr => ∃ (j : Nat), j ≤ 8 ∧ gg = 8 - j ∧ jv = .int .i64 (j : Int) ∧ pv = .int .i64 (pl s.W j : Int) ∧ Hid (Below w4.heap.size w4 wr))
  case atStart => exact ⟨0, by omega, rfl, rfl, rfl, Below.refl _ _⟩
  case round =>
    obtain ⟨j, hj8, rfl, rfl, rfl, BW⟩ := hrel
    have TW : Hid (One w wr (fun _ => False) b N s2) := (T4.out.keep BW.out).less (fun _ hk => hk.elim)
    by_cases hj : j < 8
    · have f1 : decide ((j : Int) < 8) = true := by rw [decide_eq_true_eq]; omega
      obtain ⟨x, hx⟩ : ∃ x, s.D[j]? = some x := ⟨_, List.getElem?_eq_getElem (by rw [E3.out.2.2.2.1]; exact hj)⟩
      obtain ⟨v, hv⟩ : ∃ v, sl[j]? = some v := ⟨_, List.getElem?_eq_getElem (by rw [E3.out.2.2.2.2.2]; exact hj)⟩
      obtain ⟨p1, hp1⟩ : ∃ p, V1[j]? = some p := ⟨_, List.getElem?_eq_getElem (by omega)⟩
      have hrow := (Q4.out.2.2 j v hv).keep BW.out
      have cx : wr.cell? ⟨B1, j, none⟩ = some (.string (strOfNums x)) := by
        rw [cell_of_row wr B1 j _ _ (0, 0) ((BW.out.block _ (lt_of_heap Q4.out.1)).trans Q4.out.1)]
        simp [strs, hx, sT]
      have cs : wr.cell? ⟨B1 + 1, j, none⟩ = some v := by
        rw [cell_of_row wr (B1 + 1) j _ _ (0, 0) ((BW.out.block _ (lt_of_heap Q4.out.2.1)).trans Q4.out.2.1), List.getElem?_toArray]
        exact hv
      have iw := I4.out.keep BW.out
      obtain ⟨z, hz1, ho1⟩ := iw.own j p1 hp1
      have hz : z = pick (s.W (j : Int)) (kp keep (pl s.W j) (s.W (j : Int)).length) x := by
        have := crD_at keep s.D s.W j x hx
        rw [← E3.out.2.2.1, hz1] at this
        exact Option.some.inj this
      have s64 : z.length = 64 := by
        have := ho1.holds.2.1
        simpa [sv] using this
      have KRD : Hid (∀ Wd, Below wr.heap.size wr Wd → Calls Try.prog 22 #[.pointer (some ⟨b, 0, none⟩), .int .i64 (j : Int)] Wd fun e w' => ∃ ga gc, e = .returned (.tuple #[.slice ga 64 gc, .int .i64 0]) ∧ Owned w' Wd.heap.size (.slice ga 64 gc) z ∧ Below Wd.heap.size Wd w') := by
        intro Wd hbd
        have hr : s2.rd (j : Int) = (z, 0) := by
          unfold Ds.rd
          rw [if_neg (by rw [E3.out.1, E3.out.2.2.2.2.1]; simp [rdyAt]; omega), E3.out.2.1, Int.toNat_natCast, hz1]
          rfl
        have := one_read (TW.out.keep hbd) (by omega) (j : Int)
        rw [hr] at this
        refine this.mono ?_
        rintro e w' ⟨ga, gn, gc, rfl, hl, ho, hb⟩
        obtain rfl : gn = 64 := by rw [← hl]; exact s64
        exact ⟨ga, gc, rfl, ho, hb⟩
      have KR : Hid (Calls Try.prog 22 #[.pointer (some ⟨b, 0, none⟩), .int .i64 (j : Int)] wr fun e w' => ∃ ga gc, e = .returned (.tuple #[.slice ga 64 gc, .int .i64 0]) ∧ Owned w' wr.heap.size (.slice ga 64 gc) z ∧ Below wr.heap.size wr w') := KRD.out wr (Below.refl _ _)
      have kI : wr.cell? ⟨g1, j, none⟩ = some (.slice (some ⟨p1.1, 0, none⟩) 64 p1.2) := (iw.row.cellAt j (by omega)).trans (vlS_at V1 8 j p1 hp1)
      have HO1 : Hid (Img wr w3.heap.size g1 8 V1 s2.D ∧ Owned wr w3.heap.size (sv p1) z ∧ z.length = 64) := ⟨iw, ho1, s64⟩
      have HI1 : Hid (g1 < wr.heap.size ∧ p1.1 < wr.heap.size) := ⟨iw.lt.2.1, (iw.lt.2.2 p1 (List.mem_of_getElem? hp1)).2⟩
      have rj : IntKind.i64.wrap ((j : Int) + 1) = (j : Int) + 1 := by rw [IntKind.wrap_i64]; omega
      have pl8 : pl s.W j ≤ 8 := by
        have : (wb j s.W).length ≤ (List.range j).length := List.length_filter_le _ _
        rw [List.length_range] at this
        show (wb j s.W).length ≤ 8
        omega
      have rp : IntKind.i64.wrap ((pl s.W j : Int) + 1) = (pl s.W j : Int) + 1 := by rw [IntKind.wrap_i64]; omega
      obtain ⟨p1a, p1b⟩ := p1
      simp only at kI
      have PS : Hid (pl s.W (j + 1) = pl s.W j + (if s.W (j : Int) = [] then 0 else 1)) := pl_succ s.W j
      have w60 := W9.out (j : Int)
      clear iw ho1 hz1 s64 hp1
      generalize hWj : s.W (j : Int) = Wj at *
      obtain ⟨n, hn⟩ : ∃ n, Wj.length = n := ⟨_, rfl⟩
      obtain ⟨p, hp⟩ : ∃ p, pl s.W j = p := ⟨_, rfl⟩
      obtain ⟨p', hp'⟩ : ∃ p', pl s.W (j + 1) = p' := ⟨_, rfl⟩
      have HPP : Hid (pl s.W (j + 1) = p') := hp'
      rw [hn] at hz w60
      rw [hp] at hz rp pl8 PS ⊢
      rw [hp'] at PS
      have HZ : Hid (z = pick Wj (kp keep p n) x) := hz
      have HKW : Hid (InK wr ka keep ∧ keep.length = kl) := ⟨HIN.out.1.below (T4.out.below.trans (BW.out.mono T4.out.below.size)), HIN.out.2⟩
      clear hz hWj hp hp' hx hv
      have HRW : Hid (RowT wr (w.heap.size + 4) v Wj) := hrow
      obtain ⟨va, vc, hve⟩ : ∃ va vc, v = .slice va n vc := by
        rcases hrow.2 with ⟨e, h0⟩ | ⟨g, c, cur, e, _⟩
        · exact ⟨none, 0, by rw [e]; congr 1; omega⟩
        · exact ⟨_, c, by rw [e, hn]⟩
      subst hve
      clear hrow
      rcases Nat.eq_zero_or_pos n with hn0 | hn0
      · subst hn0
        have e0 : decide ((0 : Int) < ((0 : Nat) : Int)) = false := by decide
        have W0 : Wj = [] := List.length_eq_zero_iff.1 hn
        have ZX : Hid (z = x) := by show _ = _; rw [HZ.out, kp_zero]; rfl
        have PX : Hid (p' = p) := by show _ = _; rw [PS.out, if_pos W0]; rfl
        clear PS HZ HRW w60 W0
        obtain rfl : z = x := ZX.out
        go_wp2_with fail
        refine (KR.out).mono ?_
        rintro e w5 ⟨ga, gc, rfl, o5, b5⟩
        have i5 := HO1.out.2.1
        have bw5 : Below wr.heap.size wr w5 := b5
        have cI5 : w5.cell? ⟨g1, j, none⟩ = some (.slice (some ⟨p1a, 0, none⟩) 64 p1b) := (bw5.cell (p := ⟨g1, j, none⟩) HI1.out.1).trans kI
        have oI5 : Owned w5 w3.heap.size (.slice (some ⟨p1a, 0, none⟩) 64 p1b) z := owned_kept i5 fun k hk => by
          have e : p1a = k := by simpa [sv, Value.ownBlock] using hk
          subst e
          exact bw5.block _ HI1.out.2
        have cv1 : (convert 35 9 (.slice (some ⟨p1a, 0, none⟩) 64 p1b)).run Try.prog w5 = .ok (.string (strOfNums z)) w5 := conv_str oI5.holds.1 _ _ HO1.out.2.2
        have cv2 : (convert 35 9 (.slice ga 64 gc)).run Try.prog w5 = .ok (.string (strOfNums z)) w5 := conv_str o5.holds.1 _ _ HO1.out.2.2
        have BN : Hid (Below w4.heap.size w4 w5) := BW.out.trans (bw5.mono BW.out.size)
        clear i5 bw5 oI5 o5 b5
        generalize strOfNums z = st at *
        go_wp2_with fail
        go_roundg (8 - (j + 1))
        case measure => omega
        case rel => exact ⟨j + 1, by omega, rfl, by simp, by rw [HPP.out, PX.out], BN⟩
      · have e0 : decide ((0 : Int) < (n : Int)) = true := by rw [decide_eq_true_eq]; omega
        have PX : Hid (p' = p + 1) := by show _ = _; rw [PS.out, if_neg (fun e => by rw [e] at hn; simp at hn; omega)]
        have rn : IntKind.i64.wrap ((n : Int) + 1) = (n : Int) + 1 := by rw [IntKind.wrap_i64]; omega
        have en : ((n : Int) + 1 == 0) = false := by rw [beq_eq_false_iff_ne]; omega
        clear PS
        by_cases hpk : p < kl
        · have e2 : decide ((p : Int) < (kl : Int)) = true := by rw [decide_eq_true_eq]; omega
          obtain ⟨m, hm⟩ : ∃ m, keep[p]? = some m := ⟨_, List.getElem?_eq_getElem (by rw [HKW.out.2]; exact hpk)⟩
          obtain ⟨xa, rfl, hxc⟩ : ∃ xa, ka = some xa ∧ wr.cell? (xa.add p) = some (.int .i64 m) := by
            rcases HKW.out.1 with h0 | ⟨xa, hxa, hc⟩
            · rw [h0] at hm; simp at hm
            · exact ⟨xa, hxa, hc p m hm⟩
          by_cases hm0 : 0 ≤ m
          · have e3 : decide (0 ≤ m) = true := by rw [decide_eq_true_eq]; exact hm0
            obtain ⟨r, hr⟩ : ∃ r : Nat, m % ((n : Int) + 1) = (r : Int) := ⟨(m % ((n : Int) + 1)).toNat, by rw [Int.toNat_of_nonneg (Int.emod_nonneg _ (by omega))]⟩
            have hrn : r ≤ n := by have := Int.emod_lt_of_pos m (show (0 : Int) < (n : Int) + 1 by omega); omega
            have KR2 : Hid (kp keep p n = r) := by
              show _ = _
              unfold kp
              rw [hm]
              simp only
              by_cases h0 : 0 < m
              · rw [if_pos h0, hr]; simp
              · rw [if_neg h0]
                have : m = 0 := by omega
                rw [this] at hr
                simp at hr
                omega
            have rr : IntKind.i64.wrap (r : Int) = (r : Int) := by rw [IntKind.wrap_i64]; omega
            rcases Nat.eq_zero_or_pos r with hr0 | hr0
            · subst hr0
              have e4 : decide ((0 : Int) < ((0 : Nat) : Int)) = false := by decide
              have ZX : Hid (z = x) := by show _ = _; rw [HZ.out, KR2.out]; rfl
              clear HZ KR2 HRW w60
              go_wp2_with fail
              go_quiet (fail)
              obtain rfl : z = x := ZX.out
              go_wp2_with fail
              refine (KRD.out _ (by exact ⟨rfl, rfl, rfl, Nat.le_refl _, fun _ _ => rfl⟩)).mono ?_
              rintro e w5 ⟨ga, gc, rfl, o5, b5⟩
              have i5 := HO1.out.2.1
              have bw5 : Below wr.heap.size wr w5 := ⟨b5.os, b5.tape, b5.output, b5.size, b5.block⟩
              have cI5 : w5.cell? ⟨g1, j, none⟩ = some (.slice (some ⟨p1a, 0, none⟩) 64 p1b) := (bw5.cell (p := ⟨g1, j, none⟩) HI1.out.1).trans kI
              have oI5 : Owned w5 w3.heap.size (.slice (some ⟨p1a, 0, none⟩) 64 p1b) z := owned_kept i5 fun k hk => by
                have e : p1a = k := by simpa [sv, Value.ownBlock] using hk
                subst e
                exact bw5.block _ HI1.out.2
              have cv1 : (convert 35 9 (.slice (some ⟨p1a, 0, none⟩) 64 p1b)).run Try.prog w5 = .ok (.string (strOfNums z)) w5 := conv_str oI5.holds.1 _ _ HO1.out.2.2
              have cv2 : (convert 35 9 (.slice ga 64 gc)).run Try.prog w5 = .ok (.string (strOfNums z)) w5 := conv_str o5.holds.1 _ _ HO1.out.2.2
              have BN : Hid (Below w4.heap.size w4 w5) := BW.out.trans (bw5.mono BW.out.size)
              clear i5 bw5 oI5 o5 b5
              generalize strOfNums z = st at *
              go_wp2_with fail
              go_roundg (8 - (j + 1))
              case measure => omega
              case rel => exact ⟨j + 1, by omega, rfl, by simp, by rw [HPP.out, PX.out]; simp, BN⟩
            · have e4 : decide ((0 : Int) < (r : Int)) = true := by rw [decide_eq_true_eq]; omega
              obtain ⟨r', rfl⟩ : ∃ r', r = r' + 1 := ⟨r - 1, by omega⟩
              obtain ⟨y, hy⟩ : ∃ y, Wj[r']? = some y := ⟨_, List.getElem?_eq_getElem (by omega)⟩
              have rs : IntKind.i64.wrap ((r' : Int) + 1 - 1) = (r' : Int) := by rw [IntKind.wrap_i64]; omega
              have rs2 : IntKind.i64.wrap (r' : Int) = (r' : Int) := by rw [IntKind.wrap_i64]; omega
              have e5 : decide ((0 : Int) < (r' : Int) + 1) = true := by rw [decide_eq_true_eq]; omega
              have rs3 : IntKind.i64.wrap ((r' : Int) + 1) = (r' : Int) + 1 := by rw [IntKind.wrap_i64]; omega
              obtain ⟨g, rfl, cy⟩ : ∃ g, va = some ⟨g, 0, none⟩ ∧ wr.cell? ⟨g, r', none⟩ = some (.string (strOfNums y)) := by
                rcases HRW.out.2 with ⟨e, h0⟩ | ⟨g, c, cur, e, _⟩
                · omega
                · have e2 : Value.slice va n vc = .slice (some ⟨g, 0, none⟩) n c := by rw [e, hn]
                  cases e2
                  refine ⟨g, rfl, ?_⟩
                  have hh := HRW.out
                  unfold RowT at hh
                  rw [hn] at hh
                  rw [World.ownsRow.cellAt hh r' (by omega), List.getElem?_map, hy]
                  rfl
              have ZX : Hid (z = y) := by show _ = _; rw [HZ.out, KR2.out]; simp [pick, hy]
              have cyn : ∀ q, (wr.drewN q).cell? ⟨g, r', none⟩ = some (.string (strOfNums y)) := fun _ => cy
              clear HZ KR2 HRW w60 hy
              generalize x = xold at *
              obtain rfl : z = y := ZX.out
              go_wp2_with fail
              go_quiet (fail)
              go_wp2_with fail
              refine (KRD.out _ (by exact ⟨rfl, rfl, rfl, Nat.le_refl _, fun _ _ => rfl⟩)).mono ?_
              rintro e w5 ⟨ga, gc, rfl, o5, b5⟩
              have i5 := HO1.out.2.1
              have bw5 : Below wr.heap.size wr w5 := ⟨b5.os, b5.tape, b5.output, b5.size, b5.block⟩
              have cI5 : w5.cell? ⟨g1, j, none⟩ = some (.slice (some ⟨p1a, 0, none⟩) 64 p1b) := (bw5.cell (p := ⟨g1, j, none⟩) HI1.out.1).trans kI
              have oI5 : Owned w5 w3.heap.size (.slice (some ⟨p1a, 0, none⟩) 64 p1b) z := owned_kept i5 fun k hk => by
                have e : p1a = k := by simpa [sv, Value.ownBlock] using hk
                subst e
                exact bw5.block _ HI1.out.2
              have cv1 : (convert 35 9 (.slice (some ⟨p1a, 0, none⟩) 64 p1b)).run Try.prog w5 = .ok (.string (strOfNums z)) w5 := conv_str oI5.holds.1 _ _ HO1.out.2.2
              have cv2 : (convert 35 9 (.slice ga 64 gc)).run Try.prog w5 = .ok (.string (strOfNums z)) w5 := conv_str o5.holds.1 _ _ HO1.out.2.2
              have BN : Hid (Below w4.heap.size w4 w5) := BW.out.trans (bw5.mono BW.out.size)
              clear i5 bw5 oI5 o5 b5
              generalize strOfNums z = st at *
              go_wp2_with fail
              go_roundg (8 - (j + 1))
              case measure => omega
              case rel => exact ⟨j + 1, by omega, rfl, by simp, by rw [HPP.out, PX.out]; simp, BN⟩
          · have e3 : decide (0 ≤ m) = false := by rw [decide_eq_false_iff_not]; exact hm0
            have ZX : Hid (z = x) := by
              show _ = _
              rw [HZ.out]
              have : kp keep p n = 0 := by
                unfold kp
                rw [hm]
                simp only
                rw [if_neg (by omega)]
              rw [this]
              rfl
            clear HZ HRW w60
            obtain rfl : z = x := ZX.out
            go_wp2_with fail
            refine (KR.out).mono ?_
            rintro e w5 ⟨ga, gc, rfl, o5, b5⟩
            have i5 := HO1.out.2.1
            have bw5 : Below wr.heap.size wr w5 := b5
            have cI5 : w5.cell? ⟨g1, j, none⟩ = some (.slice (some ⟨p1a, 0, none⟩) 64 p1b) := (bw5.cell (p := ⟨g1, j, none⟩) HI1.out.1).trans kI
            have oI5 : Owned w5 w3.heap.size (.slice (some ⟨p1a, 0, none⟩) 64 p1b) z := owned_kept i5 fun k hk => by
              have e : p1a = k := by simpa [sv, Value.ownBlock] using hk
              subst e
              exact bw5.block _ HI1.out.2
            have cv1 : (convert 35 9 (.slice (some ⟨p1a, 0, none⟩) 64 p1b)).run Try.prog w5 = .ok (.string (strOfNums z)) w5 := conv_str oI5.holds.1 _ _ HO1.out.2.2
            have cv2 : (convert 35 9 (.slice ga 64 gc)).run Try.prog w5 = .ok (.string (strOfNums z)) w5 := conv_str o5.holds.1 _ _ HO1.out.2.2
            have BN : Hid (Below w4.heap.size w4 w5) := BW.out.trans (bw5.mono BW.out.size)
            clear i5 bw5 oI5 o5 b5
            generalize strOfNums z = st at *
            go_wp2_with fail
            go_roundg (8 - (j + 1))
            case measure => omega
            case rel => exact ⟨j + 1, by omega, rfl, by simp, by rw [HPP.out, PX.out]; simp, BN⟩
        · have e2 : decide ((p : Int) < (kl : Int)) = false := by rw [decide_eq_false_iff_not]; omega
          have ZX : Hid (z = x) := by
            show _ = _
            rw [HZ.out]
            have : kp keep p n = 0 := by
              unfold kp
              rw [List.getElem?_eq_none (by rw [HKW.out.2]; omega)]
            rw [this]
            rfl
          clear HZ HRW w60
          obtain rfl : z = x := ZX.out
          go_wp2_with fail
          refine (KR.out).mono ?_
          rintro e w5 ⟨ga, gc, rfl, o5, b5⟩
          have i5 := HO1.out.2.1
          have bw5 : Below wr.heap.size wr w5 := b5
          have cI5 : w5.cell? ⟨g1, j, none⟩ = some (.slice (some ⟨p1a, 0, none⟩) 64 p1b) := (bw5.cell (p := ⟨g1, j, none⟩) HI1.out.1).trans kI
          have oI5 : Owned w5 w3.heap.size (.slice (some ⟨p1a, 0, none⟩) 64 p1b) z := owned_kept i5 fun k hk => by
            have e : p1a = k := by simpa [sv, Value.ownBlock] using hk
            subst e
            exact bw5.block _ HI1.out.2
          have cv1 : (convert 35 9 (.slice (some ⟨p1a, 0, none⟩) 64 p1b)).run Try.prog w5 = .ok (.string (strOfNums z)) w5 := conv_str oI5.holds.1 _ _ HO1.out.2.2
          have cv2 : (convert 35 9 (.slice ga 64 gc)).run Try.prog w5 = .ok (.string (strOfNums z)) w5 := conv_str o5.holds.1 _ _ HO1.out.2.2
          have BN : Hid (Below w4.heap.size w4 w5) := BW.out.trans (bw5.mono BW.out.size)
          clear i5 bw5 oI5 o5 b5
          generalize strOfNums z = st at *
          go_wp2_with fail
          go_roundg (8 - (j + 1))
          case measure => omega
          case rel => exact ⟨j + 1, by omega, rfl, by simp, by rw [HPP.out, PX.out]; simp, BN⟩
    · have f1 : decide ((j : Int) < 8) = false := by rw [decide_eq_false_iff_not]; omega
      clear TW
      have TW : Hid (One w wr (fun _ => False) b N s2) := (T4.out.keep BW.out).less (fun _ hk => hk.elim)
      go_wp2_with fail
      refine (one_waiting TW.out (by omega)).mono ?_
      rintro e w5 ⟨gw, cw, rfl, hin5, hg5, b5⟩
      rw [E3.out.2.1, wa_nil] at hin5 ⊢
      have T5 : Hid (One w w5 (fun _ => False) b N s2) := (TW.out.keep b5).less (fun _ hk => hk.elim)
      clear hin5 hg5 b5 TW
      go_wp2_with fail
      refine (one_up T5.out).mono ?_
      rintro e w9 ⟨rfl, hw9⟩
      obtain rfl := hw9.symm
      clear hw9
      rw [E3.out.1]
      go_wp2_with fail
      go_ret
      exact ⟨rfl, T5.out.below⟩
end Go.Proofs.Ytibgfjnddhfgpaa
