/- OverlayTwice's walk. -/
import Derived.Test.YtpdllalhaakfbabDoorOvL
import Derived.Test.YtpdllalhaakfbabDoorOvF
import Derived.Test.YtpdllalhaakfbabDoorOvO
namespace Go.Proofs.YtpdllalhaakfbabDoor
open Go.ChangeShapes Go.WideShapes Go.ChangeAt Go.RowKit Go.Deep Go.Maps
set_option linter.unusedVariables false
/-- Merge's answer, good or bad -/
theorem merge_any (st : List (List En)) (n : Nat) (hn : st.length = n) (a : Option Addr) (c : Nat) (hn62 : n ≤ 4611686018427387904) (w : World) (hs : InS w a st) :
    Calls Tryd.prog 8 #[.slice a n c] w fun e w' => ∃ a' c' l, e = .returned (.tuple #[.slice a' l.length c', .int .i64 (mE st)]) ∧ InE w' a' l ∧ (mE st = 0 → Lst (mg st) l) ∧ (mE st ≠ 0 → l = []) ∧ l.length ≤ 10240 ∧ Below w.heap.size w w' := by
  refine (merge_is st n hn a c hn62 w hs).mono ?_
  rintro e w' ⟨hb, ⟨h1, rfl⟩ | ⟨h1, g, c', l, rfl, hi, hl, _, hl2⟩⟩
  · exact ⟨none, 0, [], rfl, .inl rfl, fun h => absurd h h1, fun _ => rfl, by simp, hb⟩
  · exact ⟨some ⟨g, 0, none⟩, c', l, by rw [h1], hi, fun _ => hl, fun h => absurd h1 h, hl2, hb⟩
theorem mE_app {st ls : List (List En)} (h : st.length + ls.length ≤ 16) : mE (st ++ ls) = if (st.all (fun l => decide ((chk l).2 = 0)) && ls.all (fun l => decide ((chk l).2 = 0))) = true then 0 else 5 := by
  unfold mE
  rw [if_neg (by rw [List.length_append]; omega), List.all_append]
theorem twice_E {st : List (List En)} {top : List En} (h : st.length ≤ 12) : mE (st ++ [top, top]) = mE (st ++ [top]) ∧ mE (st ++ [[], top, []]) = mE (st ++ [top]) := by
  rw [mE_app (by simp; omega), mE_app (by simp; omega), mE_app (by simp; omega)]
  have e0 : decide ((chk ([] : List En)).2 = 0) = true := rfl
  constructor
  · simp
  · simp [e0]
theorem twice_T {st : List (List En)} {top : List En} (h : mE (st ++ [top]) = 0) : mg (st ++ [top, top]) = mg (st ++ [top]) ∧ mg (st ++ [[], top, []]) = mg (st ++ [top]) := by
  obtain ⟨_, h2⟩ := mE_zero h
  have hT : TreeT (mg st) := mg_tree (fun l hl => h2 l (by simp [hl]))
  have ht := h2 top (by simp)
  rw [mg_app, mg_app, mg_app]
  exact ⟨mgT_twice hT ht, rfl⟩
set_option maxRecDepth 100000 in
set_option maxHeartbeats 8000000 in
theorem overlayTwice_walk (a : Option Addr) (n c : Nat) (st : List (List En)) (ta : Option Addr) (m tc : Nat) (top : List En) (w : World) (hn : st.length = n) (hn62 : n ≤ 4611686018427387904) (hs : InS w a st) (hm : top.length = m) (_hmc : m ≤ tc) (ht : InE w ta top) (hfit : Fit top) (hm62 : m ≤ 4611686018427387904) (htn : ta = none → tc = 0) :
    Calls Tryd.prog 3 #[.slice a n c, .slice ta m tc] w fun e w' => e = .returned (.bool true) ∧ Below w.heap.size w w' := by
  have KF : Hid (Calls Tryd.prog 6 #[.slice a n c] w fun e w' => e = .returned (.bool (fewB st)) ∧ Below w.heap.size w w') := few_is st n hn a c hn62 w hs
  have KW : Hid (∀ w, Calls Tryd.prog 7 #[] w fun e w' => e = .returned (.bool true) ∧ Below w.heap.size w w') := works_is
  have HS : Hid (InS w a st) := hs
  have HT : Hid (InE w ta top) := ht
  clear hs ht
  cases hf : fewB st with
  | false =>
    rw [hf] at KF
    go_enter Tryd.func3, Tryd.ntmps3
    go_wp2_with fail
    refine KF.out.mono ?_
    rintro e w1 ⟨rfl, hb1⟩
    have B1 : Hid (Below w.heap.size w w1) := hb1
    clear hb1
    go_wp2_with fail
    refine (KW.out w1).mono ?_
    rintro e w2 ⟨rfl, hb2⟩
    have B2 : Hid (Below w.heap.size w w2) := B1.out.trans (hb2.mono B1.out.size)
    clear hb2
    go_wp2_with fail
    go_ret
    exact ⟨rfl, B2.out⟩
  | true =>
    rw [hf] at KF
    by_cases h12 : 12 < n ∨ 70 < m
    · go_enter Tryd.func3, Tryd.ntmps3
      go_wp2_with fail
      refine KF.out.mono ?_
      rintro e w1 ⟨rfl, hb1⟩
      have B1 : Hid (Below w.heap.size w w1) := hb1
      clear hb1
      by_cases h1 : 12 < n
      · have e1 : (12 : Int) < (n : Int) := by omega
        go_wp2_with fail
        refine (KW.out w1).mono ?_
        rintro e w2 ⟨rfl, hb2⟩
        have B2 : Hid (Below w.heap.size w w2) := B1.out.trans (hb2.mono B1.out.size)
        clear hb2
        go_wp2_with fail
        go_ret
        exact ⟨rfl, B2.out⟩
      · have e1 : ¬ (12 : Int) < (n : Int) := by omega
        have e2 : (70 : Int) < (m : Int) := by omega
        go_wp2_with fail
        refine (KW.out w1).mono ?_
        rintro e w2 ⟨rfl, hb2⟩
        have B2 : Hid (Below w.heap.size w w2) := B1.out.trans (hb2.mono B1.out.size)
        clear hb2
        go_wp2_with fail
        go_ret
        exact ⟨rfl, B2.out⟩
    · have e1 : ¬ (12 : Int) < (n : Int) := by omega
      have e2 : ¬ (70 : Int) < (m : Int) := by omega
      go_enter Tryd.func3, Tryd.ntmps3
      go_wp2_with fail
      refine KF.out.mono ?_
      rintro e w1 ⟨rfl, hb1⟩
      have B00 : Hid (Below w.heap.size w w1) := hb1
      have HN : Hid (st.length = n) := hn
      have h20 : fewB st = true := hf
      have KO : Hid (∀ w0, Below w.heap.size w w0 → Calls Tryd.prog 9 #[.slice a n c] w0 fun e w' => ∃ v, e = .returned v ∧ Stk w' w0.heap.size v st ∧ Below w0.heap.size w0 w') := fun w0 hb => by
        unfold fewB at h20
        rw [Bool.and_eq_true, decide_eq_true_iff, List.all_eq_true] at h20
        exact own_is st n hn a c (by omega) (fun l hl => by simpa using h20.2 l hl) w0 (HS.out.keep hb)
      have LY0 : Hid (∀ (w0 w' : World) (x : Obj), Below w.heap.size w w0 → Below w0.heap.size w0 w' → Ly (w'.alloc x) w0.heap.size (.slice ta m tc) top) := fun w0 w' x hb hb' => by
        refine ⟨hfit, by omega, .inr ⟨ta, tc, by rw [hm], htn, ?_⟩⟩
        have hbb : Below w.heap.size w (w'.alloc x) := (hb.trans (hb'.mono hb.size)).alloc (by have := (hb.trans (hb'.mono hb.size)).size; omega) _
        rcases HT.out with e | ⟨b, off, h1, h2, h3⟩
        · exact .inl e
        · exact .inr ⟨b, off, h1, Nat.lt_of_lt_of_le h2 hb.size, Nat.lt_of_lt_of_le h2 hbb.size, fun i x hx => (h3 i x hx).below hbb h2⟩
      have LY1 : Hid (∀ (w0 w' : World) (x : Obj), Below w.heap.size w w0 → Below w0.heap.size w0 w' → ∀ (i : Nat) (u : Value) (l : List En), [Value.slice ta m tc][i]? = some u → [top][i]? = some l → Ly (w'.alloc x) w0.heap.size u l) := fun w0 w' x hb hb' => one_ly (LY0.out w0 w' x hb hb')
      have LYN : Hid (∀ (w' : World) (b : Nat), Ly w' b (.slice none 0 0) []) := fun w' b => ⟨(fun y hy => by cases hy), (by simp), .inl (OwnE.nil _ _)⟩
      have LY2 : Hid (∀ (w0 w' : World) (x : Obj), Below w.heap.size w w0 → Below w0.heap.size w0 w' → ∀ (i : Nat) (u : Value) (l : List En), [Value.slice ta m tc, .slice ta m tc][i]? = some u → [top, top][i]? = some l → Ly (w'.alloc x) w0.heap.size u l) := fun w0 w' x hb hb' i u l h1 h2 => by
        have hi : i < 2 := (List.getElem?_eq_some_iff.1 h1).1
        rcases (by omega : i = 0 ∨ i = 1) with rfl | rfl <;> (cases h1; cases h2; exact LY0.out w0 w' x hb hb')
      have LY3 : Hid (∀ (w0 w' : World) (x : Obj), Below w.heap.size w w0 → Below w0.heap.size w0 w' → ∀ (i : Nat) (u : Value) (l : List En), [Value.slice none 0 0, .slice ta m tc, .slice none 0 0][i]? = some u → [[], top, []][i]? = some l → Ly (w'.alloc x) w0.heap.size u l) := fun w0 w' x hb hb' i u l h1 h2 => by
        have hi : i < 3 := (List.getElem?_eq_some_iff.1 h1).1
        rcases (by omega : i = 0 ∨ i = 1 ∨ i = 2) with rfl | rfl | rfl
        · cases h1; cases h2; exact LYN.out _ _
        · cases h1; cases h2; exact LY0.out w0 w' x hb hb'
        · cases h1; cases h2; exact LYN.out _ _
      clear hb1 hn hf h20
      go_wp2_with fail
      refine (KO.out w1 B00.out).mono ?_
      rintro e w11 ⟨v1, rfl, hs1, hb1⟩
      have S11 : Hid (Stk w11 w1.heap.size v1 st) := hs1
      have D11 : Hid (Below w1.heap.size w1 w11) := hb1
      have B11 : Hid (Below w.heap.size w w11) := B00.out.trans (hb1.mono B00.out.size)
      have hz1 : w1.heap.size ≤ w11.heap.size := hb1.size
      clear hs1 hb1
      go_wp2_with (first
        | (at_builtin; (refine append_layers rfl (.tmp 27) (.tmp 29) rfl w1.heap.size _ st rfl (S11.out.below ((Below.refl _ _).alloc (Nat.le_refl _) _)) w11.heap.size 1 1 [.slice ta m tc] [top] rfl rfl rfl (heap_alloc_new w11 _) (LY1.out w1 w11 _ B00.out D11.out) (by rw [HN.out]; omega) (Nat.le_trans hz1 (by simp)) ?_; intro v12 w12 hs12 hb12; obtain ⟨a12, c12, hv12, hin12⟩ := hs12.slice; rw [List.length_append, HN.out] at hv12; subst hv12; have I12 : Hid (InS w12 a12 (st ++ [top])) := hin12; have B12 : Hid (Below w.heap.size w w12) := B11.out.trans ((((Below.refl w1.heap.size w11).alloc hz1 _).trans hb12).mono B00.out.size); have C12 : Hid (Below w1.heap.size w1 w12) := D11.out.trans (((Below.refl w1.heap.size w11).alloc hz1 _).trans hb12); clear hs12 hb12 hin12)))
      refine (merge_any (st ++ [top]) (n + 1) (by rw [List.length_append, HN.out]; rfl) a12 c12 (by omega) w12 I12.out).mono ?_
      rintro e w10 ⟨ra1, rc1, l1, rfl, hri1, hrl1, hre1, hrn1, hrb1⟩
      have B10 : Hid (Below w.heap.size w w10) := B12.out.trans (hrb1.mono B12.out.size)
      have C10 : Hid (Below w1.heap.size w1 w10) := C12.out.trans (hrb1.mono C12.out.size)
      have L1 : Hid ((mE (st ++ [top]) = 0 → Lst (mg (st ++ [top])) l1) ∧ (mE (st ++ [top]) ≠ 0 → l1 = [])) := ⟨hrl1, hre1⟩
      have R1 : Hid (InE w10 ra1 l1) := hri1
      clear hri1 hrl1 hre1 hrb1
      go_wp2_with fail
      refine (KO.out w10 B10.out).mono ?_
      rintro e w21 ⟨v2, rfl, hs2, hb2⟩
      have S21 : Hid (Stk w21 w10.heap.size v2 st) := hs2
      have D21 : Hid (Below w10.heap.size w10 w21) := hb2
      have B21 : Hid (Below w.heap.size w w21) := B10.out.trans (hb2.mono B10.out.size)
      have hz2 : w10.heap.size ≤ w21.heap.size := hb2.size
      clear hs2 hb2
      go_wp2_with (first
        | (at_builtin; (refine append_layers rfl (.tmp 36) (.tmp 39) rfl w10.heap.size _ st rfl (S21.out.below ((Below.refl _ _).alloc (Nat.le_refl _) _)) w21.heap.size 2 2 [.slice ta m tc, .slice ta m tc] [top, top] rfl rfl rfl (heap_alloc_new w21 _) (LY2.out w10 w21 _ B10.out D21.out) (by rw [HN.out]; omega) (Nat.le_trans hz2 (by simp)) ?_; intro v22 w22 hs22 hb22; obtain ⟨a22, c22, hv22, hin22⟩ := hs22.slice; rw [List.length_append, HN.out] at hv22; subst hv22; have I22 : Hid (InS w22 a22 (st ++ [top, top])) := hin22; have B22 : Hid (Below w.heap.size w w22) := B21.out.trans ((((Below.refl w10.heap.size w21).alloc hz2 _).trans hb22).mono B10.out.size); have C22 : Hid (Below w10.heap.size w10 w22) := D21.out.trans (((Below.refl w10.heap.size w21).alloc hz2 _).trans hb22); clear hs22 hb22 hin22)))
      refine (merge_any (st ++ [top, top]) (n + 2) (by rw [List.length_append, HN.out]; rfl) a22 c22 (by omega) w22 I22.out).mono ?_
      rintro e w20 ⟨ra2, rc2, l2, rfl, hri2, hrl2, hre2, hrn2, hrb2⟩
      have B20 : Hid (Below w.heap.size w w20) := B22.out.trans (hrb2.mono B22.out.size)
      have C20 : Hid (Below w10.heap.size w10 w20) := C22.out.trans (hrb2.mono C22.out.size)
      have L2 : Hid ((mE (st ++ [top, top]) = 0 → Lst (mg (st ++ [top, top])) l2) ∧ (mE (st ++ [top, top]) ≠ 0 → l2 = [])) := ⟨hrl2, hre2⟩
      have R2 : Hid (InE w20 ra2 l2) := hri2
      clear hri2 hrl2 hre2 hrb2
      go_wp2_with fail
      refine (KO.out w20 B20.out).mono ?_
      rintro e w31 ⟨v3, rfl, hs3, hb3⟩
      have S31 : Hid (Stk w31 w20.heap.size v3 st) := hs3
      have D31 : Hid (Below w20.heap.size w20 w31) := hb3
      have B31 : Hid (Below w.heap.size w w31) := B20.out.trans (hb3.mono B20.out.size)
      have hz3 : w20.heap.size ≤ w31.heap.size := hb3.size
      clear hs3 hb3
      go_wp2_with (first
        | (at_builtin; (refine append_layers rfl (.tmp 46) (.tmp 48) rfl w20.heap.size _ st rfl (S31.out.below ((Below.refl _ _).alloc (Nat.le_refl _) _)) w31.heap.size 3 3 [.slice none 0 0, .slice ta m tc, .slice none 0 0] [[], top, []] rfl rfl rfl (heap_alloc_new w31 _) (LY3.out w20 w31 _ B20.out D31.out) (by rw [HN.out]; omega) (Nat.le_trans hz3 (by simp)) ?_; intro v32 w32 hs32 hb32; obtain ⟨a32, c32, hv32, hin32⟩ := hs32.slice; rw [List.length_append, HN.out] at hv32; subst hv32; have I32 : Hid (InS w32 a32 (st ++ [[], top, []])) := hin32; have B32 : Hid (Below w.heap.size w w32) := B31.out.trans ((((Below.refl w20.heap.size w31).alloc hz3 _).trans hb32).mono B20.out.size); have C32 : Hid (Below w20.heap.size w20 w32) := D31.out.trans (((Below.refl w20.heap.size w31).alloc hz3 _).trans hb32); clear hs32 hb32 hin32)))
      refine (merge_any (st ++ [[], top, []]) (n + 3) (by rw [List.length_append, HN.out]; rfl) a32 c32 (by omega) w32 I32.out).mono ?_
      rintro e w30 ⟨ra3, rc3, l3, rfl, hri3, hrl3, hre3, hrn3, hrb3⟩
      have B30 : Hid (Below w.heap.size w w30) := B32.out.trans (hrb3.mono B32.out.size)
      have C30 : Hid (Below w20.heap.size w20 w30) := C32.out.trans (hrb3.mono C32.out.size)
      have L3 : Hid ((mE (st ++ [[], top, []]) = 0 → Lst (mg (st ++ [[], top, []])) l3) ∧ (mE (st ++ [[], top, []]) ≠ 0 → l3 = [])) := ⟨hrl3, hre3⟩
      have R3 : Hid (InE w30 ra3 l3) := hri3
      clear hri3 hrl3 hre3 hrb3
      obtain ⟨E2, E3⟩ : mE (st ++ [top, top]) = mE (st ++ [top]) ∧ mE (st ++ [[], top, []]) = mE (st ++ [top]) := twice_E (by rw [HN.out]; omega)
      have LE : Hid (l1 = l2 ∧ l1 = l3) := by
        by_cases h0 : mE (st ++ [top]) = 0
        · obtain ⟨T2, T3⟩ := twice_T h0
          exact ⟨lst_eq (L1.out.1 h0) ((L2.out.1 (E2.trans h0)).of_eq T2), lst_eq (L1.out.1 h0) ((L3.out.1 (E3.trans h0)).of_eq T3)⟩
        · have g1 := L1.out.2 h0
          have g2 := L2.out.2 (by rw [E2]; exact h0)
          have g3 := L3.out.2 (by rw [E3]; exact h0)
          exact ⟨by rw [g1, g2], by rw [g1, g3]⟩
      rw [E2, E3]
      clear E2 E3 L1 L2 L3
      generalize mE (st ++ [top]) = E at *
      have R1b : Hid (InE w30 ra1 l1) := (R1.out.keep C20.out).keep C30.out
      have R2b : Hid (InE w30 ra2 l2) := R2.out.keep C30.out
      have KS1 : Hid (Calls Tryd.prog 10 #[.slice ra1 l1.length rc1, .slice ra2 l2.length rc2] w30 fun e w' => e = .returned (.bool true) ∧ Below w30.heap.size w30 w') := by
        have := sameE_is l1 l2 l1.length l2.length rc1 rc2 ra1 ra2 w30 rfl rfl (by omega) (by omega) R1b.out R2b.out
        rw [decide_eq_true LE.out.1] at this
        exact this
      go_wp2_with fail
      refine KS1.out.mono ?_
      rintro e w4 ⟨rfl, hb4⟩
      have B4 : Hid (Below w.heap.size w w4) := B30.out.trans (hb4.mono B30.out.size)
      have KS2 : Hid (Calls Tryd.prog 10 #[.slice ra1 l1.length rc1, .slice ra3 l3.length rc3] w4 fun e w' => e = .returned (.bool true) ∧ Below w4.heap.size w4 w') := by
        have := sameE_is l1 l3 l1.length l3.length rc1 rc3 ra1 ra3 w4 rfl rfl (by omega) (by omega) (R1b.out.keep hb4) (R3.out.keep hb4)
        rw [decide_eq_true LE.out.2] at this
        exact this
      clear hb4 KS1
      go_wp2_with fail
      refine KS2.out.mono ?_
      rintro e w5 ⟨rfl, hb5⟩
      have B5 : Hid (Below w.heap.size w w5) := B4.out.trans (hb5.mono B4.out.size)
      clear hb5 KS2
      go_wp2_with fail
      refine (KW.out w5).mono ?_
      rintro e w6 ⟨rfl, hb6⟩
      have B6 : Hid (Below w.heap.size w w6) := B5.out.trans (hb6.mono B5.out.size)
      clear hb6
      go_wp2_with fail
      go_ret
      exact ⟨rfl, B6.out⟩
end Go.Proofs.YtpdllalhaakfbabDoor
