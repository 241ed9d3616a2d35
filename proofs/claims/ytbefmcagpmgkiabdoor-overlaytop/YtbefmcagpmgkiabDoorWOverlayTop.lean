/- OverlayTop's walk. -/
import Derived.Test.YtbefmcagpmgkiabDoorOvN
import Derived.Test.YtbefmcagpmgkiabDoorOvK
namespace Go.Proofs.YtbefmcagpmgkiabDoor
open Go.ChangeShapes Go.WideShapes Go.ChangeAt Go.RowKit Go.Deep Go.Maps
set_option linter.unusedVariables false
theorem tx_nil : tx [] = ⟨#[]⟩ := rfl
/-- what Lookup tells of what the top layer has -/
theorem top_lk {st : List (List En)} {top l : List En} (h : mE (st ++ [top]) = 0) (hl : Lst (mg (st ++ [top])) l) {x : En} (hx : x ∈ top) : (1 ≤ x.k ∧ x.k ≤ 4) ∧ lk l x.p = if x.k = 3 then (noE, 9) else if x.k = 4 then ((x.p, 2, x.m, x.b), 0) else (x, 0) := by
  obtain ⟨_, h2⟩ := mE_zero h
  have hf := ((chk_iff top).1 (h2 top (by simp))).2.1 x hx
  obtain ⟨h0, hP⟩ := fo_path hf
  have hT : TreeT (mg (st ++ [top])) := mg_tree h2
  refine ⟨(fo_all hf).2.1, ?_⟩
  rw [lk_path h0 hP, ent_lst hT hl, top_seen h hx]
  unfold vla
  by_cases e3 : x.k = 3
  · rw [if_pos e3, if_pos e3]
  · rw [if_neg e3, if_neg e3]
    by_cases e4 : x.k = 4
    · rw [if_pos e4, if_pos e4]
    · rw [if_neg e4, if_neg e4]
set_option maxRecDepth 100000 in
set_option maxHeartbeats 8000000 in
theorem overlayTop_walk (a : Option Addr) (n c : Nat) (st : List (List En)) (ta : Option Addr) (m tc : Nat) (top : List En) (w : World) (hn : st.length = n) (hn62 : n ≤ 4611686018427387904) (hs : InS w a st) (hm : top.length = m) (_hmc : m ≤ tc) (ht : InE w ta top) (hfit : Fit top) (hm62 : m ≤ 4611686018427387904) (htn : ta = none → tc = 0) :
    Calls Tryd.prog 3 #[.slice a n c, .slice ta m tc] w fun e w' => e = .returned (.bool true) ∧ Below w.heap.size w w' := by
  have KF : Hid (Calls Tryd.prog 4 #[.slice a n c] w fun e w' => e = .returned (.bool (fewB st)) ∧ Below w.heap.size w w') := few_is st n hn a c hn62 w hs
  have KW : Hid (∀ w, Calls Tryd.prog 5 #[] w fun e w' => e = .returned (.bool true) ∧ Below w.heap.size w w') := works_is
  have HS : Hid (InS w a st) := hs
  have HT : Hid (InE w ta top) := ht
  have HM : Hid (top.length = m) := hm
  have HF : Hid (Fit top) := hfit
  clear hs ht
  cases hf : fewB st with
  | false =>
    rw [hf] at KF
    go_enter Tryd.func3, Tryd.ntmps3
    go_wp2_with fail
    refine KF.out.mono ?_
    rintro e w1 ⟨rfl, hb1⟩
    have B1 : Hid (Below w.heap.size w w1) := hb1
    clear hb1
    go_wp2_with fail
    refine (KW.out w1).mono ?_
    rintro e w2 ⟨rfl, hb2⟩
    have B2 : Hid (Below w.heap.size w w2) := B1.out.trans (hb2.mono B1.out.size)
    clear hb2
    go_wp2_with fail
    go_ret
    exact ⟨rfl, B2.out⟩
  | true =>
    rw [hf] at KF
    by_cases h12 : 16 ≤ n ∨ 70 < m
    · go_enter Tryd.func3, Tryd.ntmps3
      go_wp2_with fail
      refine KF.out.mono ?_
      rintro e w1 ⟨rfl, hb1⟩
      have B1 : Hid (Below w.heap.size w w1) := hb1
      clear hb1
      by_cases h1 : 16 ≤ n
      · have e1 : (16 : Int) ≤ (n : Int) := by omega
        go_wp2_with fail
        refine (KW.out w1).mono ?_
        rintro e w2 ⟨rfl, hb2⟩
        have B2 : Hid (Below w.heap.size w w2) := B1.out.trans (hb2.mono B1.out.size)
        clear hb2
        go_wp2_with fail
        go_ret
        exact ⟨rfl, B2.out⟩
      · have e1 : ¬ (16 : Int) ≤ (n : Int) := by omega
        have e2 : (70 : Int) < (m : Int) := by omega
        go_wp2_with fail
        refine (KW.out w1).mono ?_
        rintro e w2 ⟨rfl, hb2⟩
        have B2 : Hid (Below w.heap.size w w2) := B1.out.trans (hb2.mono B1.out.size)
        clear hb2
        go_wp2_with fail
        go_ret
        exact ⟨rfl, B2.out⟩
    · have e1 : ¬ (16 : Int) ≤ (n : Int) := by omega
      have e2 : ¬ (70 : Int) < (m : Int) := by omega
      go_enter Tryd.func3, Tryd.ntmps3
      go_wp2_with fail
      refine KF.out.mono ?_
      rintro e w1 ⟨rfl, hb1⟩
      have B00 : Hid (Below w.heap.size w w1) := hb1
      have HN : Hid (st.length = n) := hn
      have h20 : fewB st = true := hf
      have KO : Hid (Calls Tryd.prog 7 #[.slice a n c] w1 fun e w' => ∃ v, e = .returned v ∧ Stk w' w1.heap.size v st ∧ Below w1.heap.size w1 w') := by
        unfold fewB at h20
        rw [Bool.and_eq_true, decide_eq_true_iff, List.all_eq_true] at h20
        exact own_is st n hn a c (by omega) (fun l hl => by simpa using h20.2 l hl) w1 (HS.out.keep hb1)
      have LY0 : Hid (∀ (w0 w' : World) (x : Obj), Below w.heap.size w w0 → Below w0.heap.size w0 w' → Ly (w'.alloc x) w0.heap.size (.slice ta m tc) top) := fun w0 w' x hb hb' => by
        refine ⟨hfit, by omega, .inr ⟨ta, tc, by rw [hm], htn, ?_⟩⟩
        have hbb : Below w.heap.size w (w'.alloc x) := (hb.trans (hb'.mono hb.size)).alloc (by have := (hb.trans (hb'.mono hb.size)).size; omega) _
        rcases HT.out with e | ⟨b, off, h1, h2, h3⟩
        · exact .inl e
        · exact .inr ⟨b, off, h1, Nat.lt_of_lt_of_le h2 hb.size, Nat.lt_of_lt_of_le h2 hbb.size, fun i x hx => (h3 i x hx).below hbb h2⟩
      clear hb1 hn hf h20 hfit
      go_wp2_with fail
      refine KO.out.mono ?_
      rintro e w2 ⟨v2, rfl, hs2, hb2⟩
      have S2 : Hid (Stk w2 w1.heap.size v2 st) := hs2
      have D2 : Hid (Below w1.heap.size w1 w2) := hb2
      have hz2 : w1.heap.size ≤ w2.heap.size := hb2.size
      clear hs2 hb2
      go_wp2_with (first
        | (at_builtin; (refine append_layers rfl (.tmp 27) (.tmp 29) rfl w1.heap.size _ st rfl (S2.out.below ((Below.refl _ _).alloc (Nat.le_refl _) _)) w2.heap.size 1 1 [.slice ta m tc] [top] rfl rfl rfl (heap_alloc_new w2 _) (one_ly (LY0.out w1 w2 _ B00.out D2.out)) (by rw [HN.out]; omega) (Nat.le_trans hz2 (by simp)) ?_; intro v3 w3 hs3 hb3; obtain ⟨a3, c3, hv3, hin3⟩ := hs3.slice; rw [List.length_append, HN.out] at hv3; subst hv3; have I3 : Hid (InS w3 a3 (st ++ [top])) := hin3; have D3 : Hid (Below w1.heap.size w1 w3) := D2.out.trans ((((Below.refl _ _).alloc (Nat.le_refl _) _).mono hz2).trans hb3); clear hs3 hb3 hin3)))
      refine (merge_any (st ++ [top]) (n + 1) (by rw [List.length_append, HN.out]; rfl) a3 c3 (by omega) w3 I3.out).mono ?_
      rintro e w4 ⟨ra, rc, l, rfl, hri, hrl, _, hrn, hrb⟩
      have D4 : Below w1.heap.size w1 w4 := D3.out.trans (hrb.mono D3.out.size)
      have B4 : Hid (Below w.heap.size w w4) := B00.out.trans (D4.mono B00.out.size)
      have R4 : Hid (InE w4 ra l) := hri
      clear hri hrb D4 D3 D2 S2 KO I3
      by_cases hM : mE (st ++ [top]) = 0
      · rw [hM]
        have TK : Hid (∀ x ∈ top, (1 ≤ x.k ∧ x.k ≤ 4) ∧ lk l x.p = if x.k = 3 then (noE, 9) else if x.k = 4 then ((x.p, 2, x.m, x.b), 0) else (x, 0)) := fun x hx => top_lk hM (hrl hM) hx
        clear hM hrl
        go_wp2_with fail
        go_loopg [39] m (fun g i wr => ∃ j : Nat, j ≤ m ∧ g = m - j ∧ i = .int .i64 j ∧ Hid (Below w.heap.size w wr) ∧ Hid (InE wr ra l))
        case atStart => exact ⟨0, Nat.zero_le _, rfl, rfl, B4, R4⟩
        case round =>
          obtain ⟨j, hj, rfl, rfl, BW, RW⟩ := hrel
          have hszw := BW.out.size
          by_cases hlt : j < m
          · have j1 : (j : Int) < (m : Int) := by omega
            obtain ⟨x, hx⟩ : ∃ x, top[j]? = some x := ⟨top[j]'(by rw [HM.out]; exact hlt), by simp [HM.out, hlt]⟩
            have hxm := List.mem_of_getElem? hx
            obtain ⟨b, off, rfl, hbw, hr⟩ : ∃ b off, ta = some ⟨b, off, none⟩ ∧ b < w.heap.size ∧ Ec w b (off + j * 4) x := by
              rcases HT.out with e | ⟨b, off, h1, h2, h3⟩
              · have := HM.out; rw [e] at this; simp at this; omega
              · exact ⟨b, off, h1, h2, h3 j x hx⟩
            obtain ⟨c0, c1, c2, c3⟩ := hr.below BW.out hbw
            have HX : Hid (Ec w b (off + j * 4) x) := hr
            obtain ⟨hxk, hxl⟩ := TK.out x hxm
            have hxp := (HF.out x hxm).1
            have KL : Hid (Calls Tryd.prog 8 #[.slice ra l.length rc, .string (tx x.p)] wr fun e w' => e = .returned (.tuple #[ag (lk l x.p).1, .int .i64 (lk l x.p).2]) ∧ Below wr.heap.size wr w') := lookup_is l l.length rfl (by omega) ra rc x.p (by omega) wr RW.out
            rw [hxl] at KL
            clear hx hxm hr hxl hxp
            have hneq : ∀ (y : En) (W : World), (binOp .neq 31 (.agg #[.string (tx y.p), .int .i64 y.k, .int .i64 y.m, .string (tx y.b)]) (.agg #[.string (tx y.p), .int .i64 y.k, .int .i64 y.m, .string (tx y.b)])).run Tryd.prog W = .ok (.bool false) W := fun y W => by
              have := neq_entry y y W
              rw [decide_eq_true rfl] at this
              exact this
            obtain ⟨xp, xk, xm, xb⟩ := x
            have hq1 := hneq (xp, 1, xm, xb)
            have hq2 := hneq (xp, 2, xm, xb)
            clear hneq
            simp only [En.p, En.k, En.m, En.b, ag] at *
            rcases (by omega : xk = 1 ∨ xk = 2 ∨ xk = 3 ∨ xk = 4) with rfl | rfl | rfl | rfl
            · simp only [show ((1 : Int) = 3) = False by decide, show ((1 : Int) = 4) = False by decide, if_false] at KL
              go_wp2_with fail
              refine KL.out.mono ?_
              rintro e w5 ⟨rfl, hb5⟩
              have b5 := hb5
              have h5 : Below w.heap.size w (w5.alloc (.cells #[.string (tx xp), .int .i64 1, .int .i64 xm, .string (tx xb)] 31)) := (BW.out.trans (hb5.mono hszw)).alloc (Nat.le_trans hszw hb5.size) _
              have s5 : wr.heap.size ≤ w5.heap.size := hb5.size
              have B5 : Hid (∀ o : Obj, Below w.heap.size w ((w5.alloc (.cells #[.string (tx xp), .int .i64 1, .int .i64 xm, .string (tx xb)] 31)).alloc o)) := fun o => h5.alloc (by simp; omega) _
              have R5 : Hid (∀ o : Obj, InE ((w5.alloc (.cells #[.string (tx xp), .int .i64 1, .int .i64 xm, .string (tx xb)] 31)).alloc o) ra l) := fun o => (RW.out.keep hb5).keep (((Below.refl _ _).alloc (Nat.le_refl _) _).alloc (by simp) _)
              clear hb5 KL c0 c1 c2 c3 b5
              obtain ⟨c0, c1, c2, c3⟩ := HX.out.below h5 hbw
              simp only [En.p, En.k, En.m, En.b] at c0 c1 c2 c3
              clear h5
              go_wp2_with fail
              go_roundg (m - (j + 1))
              case measure => omega
              case rel => exact ⟨j + 1, by omega, rfl, by go_num, B5.out _, R5.out _⟩
            · simp only [show ((2 : Int) = 3) = False by decide, show ((2 : Int) = 4) = False by decide, if_false] at KL
              go_wp2_with fail
              refine KL.out.mono ?_
              rintro e w5 ⟨rfl, hb5⟩
              have b5 := hb5
              have h5 : Below w.heap.size w (w5.alloc (.cells #[.string (tx xp), .int .i64 2, .int .i64 xm, .string (tx xb)] 31)) := (BW.out.trans (hb5.mono hszw)).alloc (Nat.le_trans hszw hb5.size) _
              have s5 : wr.heap.size ≤ w5.heap.size := hb5.size
              have B5 : Hid (∀ o : Obj, Below w.heap.size w ((w5.alloc (.cells #[.string (tx xp), .int .i64 2, .int .i64 xm, .string (tx xb)] 31)).alloc o)) := fun o => h5.alloc (by simp; omega) _
              have R5 : Hid (∀ o : Obj, InE ((w5.alloc (.cells #[.string (tx xp), .int .i64 2, .int .i64 xm, .string (tx xb)] 31)).alloc o) ra l) := fun o => (RW.out.keep hb5).keep (((Below.refl _ _).alloc (Nat.le_refl _) _).alloc (by simp) _)
              clear hb5 KL c0 c1 c2 c3 b5
              obtain ⟨c0, c1, c2, c3⟩ := HX.out.below h5 hbw
              simp only [En.p, En.k, En.m, En.b] at c0 c1 c2 c3
              clear h5
              go_wp2_with fail
              go_roundg (m - (j + 1))
              case measure => omega
              case rel => exact ⟨j + 1, by omega, rfl, by go_num, B5.out _, R5.out _⟩
            · simp only [if_true, noE, tx_nil] at KL
              go_wp2_with fail
              refine KL.out.mono ?_
              rintro e w5 ⟨rfl, hb5⟩
              have b5 := hb5
              have h5 : Below w.heap.size w (w5.alloc (.cells #[.string ⟨#[]⟩, .int .i64 0, .int .i64 0, .string ⟨#[]⟩] 31)) := (BW.out.trans (hb5.mono hszw)).alloc (Nat.le_trans hszw hb5.size) _
              have s5 : wr.heap.size ≤ w5.heap.size := hb5.size
              have B5 : Hid (∀ o : Obj, Below w.heap.size w ((w5.alloc (.cells #[.string ⟨#[]⟩, .int .i64 0, .int .i64 0, .string ⟨#[]⟩] 31)).alloc o)) := fun o => h5.alloc (by simp; omega) _
              have R5 : Hid (∀ o : Obj, InE ((w5.alloc (.cells #[.string ⟨#[]⟩, .int .i64 0, .int .i64 0, .string ⟨#[]⟩] 31)).alloc o) ra l) := fun o => (RW.out.keep hb5).keep (((Below.refl _ _).alloc (Nat.le_refl _) _).alloc (by simp) _)
              clear hb5 KL c0 c1 c2 c3 b5
              obtain ⟨c0, c1, c2, c3⟩ := HX.out.below h5 hbw
              simp only [En.p, En.k, En.m, En.b] at c0 c1 c2 c3
              clear h5
              go_wp2_with fail
              go_roundg (m - (j + 1))
              case measure => omega
              case rel => exact ⟨j + 1, by omega, rfl, by go_num, B5.out _, R5.out _⟩
            · simp only [show ((4 : Int) = 3) = False by decide, if_false, if_true] at KL
              go_wp2_with fail
              refine KL.out.mono ?_
              rintro e w5 ⟨rfl, hb5⟩
              have b5 := hb5
              have h5 : Below w.heap.size w (w5.alloc (.cells #[.string (tx xp), .int .i64 2, .int .i64 xm, .string (tx xb)] 31)) := (BW.out.trans (hb5.mono hszw)).alloc (Nat.le_trans hszw hb5.size) _
              have s5 : wr.heap.size ≤ w5.heap.size := hb5.size
              have B5 : Hid (∀ o : Obj, Below w.heap.size w ((w5.alloc (.cells #[.string (tx xp), .int .i64 2, .int .i64 xm, .string (tx xb)] 31)).alloc o)) := fun o => h5.alloc (by simp; omega) _
              have R5 : Hid (∀ o : Obj, InE ((w5.alloc (.cells #[.string (tx xp), .int .i64 2, .int .i64 xm, .string (tx xb)] 31)).alloc o) ra l) := fun o => (RW.out.keep hb5).keep (((Below.refl _ _).alloc (Nat.le_refl _) _).alloc (by simp) _)
              clear hb5 KL c0 c1 c2 c3 b5
              obtain ⟨c0, c1, c2, c3⟩ := HX.out.below h5 hbw
              simp only [En.p, En.k, En.m, En.b] at c0 c1 c2 c3
              clear h5
              go_wp2_with fail
              go_roundg (m - (j + 1))
              case measure => omega
              case rel => exact ⟨j + 1, by omega, rfl, by go_num, B5.out _, R5.out _⟩
          · have ej : j = m := by omega
            subst ej
            have j1 : ¬ (j : Int) < (j : Int) := by omega
            go_wp2_with fail
            refine (KW.out _).mono ?_
            rintro e wz ⟨rfl, hbz⟩
            have Bz : Hid (Below w.heap.size w wz) := BW.out.trans (hbz.mono hszw)
            clear hbz
            go_wp2_with fail
            go_ret
            exact ⟨rfl, Bz.out⟩
      · have hM2 : (mE (st ++ [top]) != 0) = true := by simpa using hM
        generalize mE (st ++ [top]) = M at *
        go_wp2_with fail
        refine (KW.out _).mono ?_
        rintro e wz ⟨rfl, hbz⟩
        have Bz : Hid (Below w.heap.size w wz) := B4.out.trans (hbz.mono B4.out.size)
        clear hbz
        go_wp2_with fail
        go_ret
        exact ⟨rfl, Bz.out⟩
end Go.Proofs.YtbefmcagpmgkiabDoor
