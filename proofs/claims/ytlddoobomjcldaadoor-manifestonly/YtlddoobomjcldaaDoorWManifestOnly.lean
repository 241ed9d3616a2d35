/- ManifestOnly's walk. -/
import Derived.Test.YtlddoobomjcldaaDoorMnDc
import Derived.Test.YtlddoobomjcldaaDoorManW
namespace Go.Proofs.YtlddoobomjcldaaDoor
open Go.ChangeShapes Go.WideShapes Go.ChangeAt Go.RowKit Go.Deep Go.Maps
set_option linter.unusedVariables false
theorem same_zero (w : World) : Calls Tryd.prog 22 #[.agg #[.string ⟨#[]⟩, .string ⟨#[]⟩, .slice none 0 0], .agg #[.string ⟨#[]⟩, .string ⟨#[]⟩, .slice none 0 0]] w fun e w' => e = .returned (.bool true) ∧ Below w.heap.size w w' := by
  have := rmsame_is ([], [], []) ([], [], []) 0 0 0 0 none none w rfl rfl (by omega) (by omega) (fun x hx => by cases hx) (fun x hx => by cases hx) (.inl rfl) (.inl rfl)
  rw [decide_eq_true rfl] at this
  exact this
theorem menc_len {m : Mf} (h : mchk m = 0) (hd : Dgs m.2.2) : 4 ≤ (menc m).length := by
  unfold menc
  simp only [List.length_append, List.length_cons, List.length_nil]
  omega
set_option maxRecDepth 100000 in
set_option maxHeartbeats 8000000 in
theorem manifestOnly_walk (a : Option Addr) (n c : Nat) (zs : List Int) (at' : Int) (w : World) (hw : IsRow .u8 w a n c zs) (hat : -9223372036854775808 ≤ at' ∧ at' ≤ 9223372036854775807) :
    Calls Tryd.prog 6 #[.slice a n c, .int .i64 at'] w fun e w' => e = .returned (.bool true) ∧ Below w.heap.size w w' := by
  obtain ⟨L, _, hl, hh, hB, hnone, hn47, hlt, hnc, hc47⟩ := hw.holds
  clear hw
  have KD : Hid (Calls Tryd.prog 19 #[.slice a n c] w (MDSaid w L)) := mdecode_is w n c a L hl hB hh hlt hnc (by omega) (by omega)
  have KW : Hid (∀ w, Calls Tryd.prog 23 #[] w fun e w' => e = .returned (.bool true) ∧ Below w.heap.size w w') := worksM_is
  have HH : Hid (∀ w', Below w.heap.size w w' → Holds w' a L) := fun w' hb => hh.below hb hlt
  have HLT : Hid (∀ x, a = some x → L ≠ [] → x.block < w.heap.size) := hlt
  cases hd : mdec L with
  | none =>
    have KS : Hid (∀ w, Calls Tryd.prog 22 #[.agg #[.string ⟨#[]⟩, .string ⟨#[]⟩, .slice none 0 0], .agg #[.string ⟨#[]⟩, .string ⟨#[]⟩, .slice none 0 0]] w fun e w' => e = .returned (.bool true) ∧ Below w.heap.size w w') := same_zero
    go_enter Tryd.func6, Tryd.ntmps6
    go_wp2_with fail
    refine KD.out.mono ?_
    rintro e w1 ⟨hb1, hm⟩
    rw [hd] at hm
    subst hm
    have B1 : Hid (Below w.heap.size w w1) := hb1
    clear hb1 hd KD hh hlt
    go_wp2_with fail
    refine (KS.out _).mono ?_
    rintro e w2 ⟨rfl, hb2⟩
    have B2 : Hid (Below w.heap.size w w2) := (B1.out.alloc B1.out.size _).trans (hb2.mono (by have := B1.out.size; simp; omega))
    clear hb2
    go_wp2_with fail
    refine (KW.out _).mono ?_
    rintro e w3 ⟨rfl, hb3⟩
    have B3 : Hid (Below w.heap.size w w3) := B2.out.trans (hb3.mono B2.out.size)
    clear hb3
    go_wp2_with fail
    go_ret
    exact ⟨rfl, B3.out⟩
  | some m =>
    obtain ⟨hck, henc, hrd⟩ := mdec_some hd
    have hdg : Dgs m.2.2 := by rw [← hrd]; exact mread_dgs hB
    have hfit : FitM m := by rw [← hrd]; exact mread_fit hB (by omega)
    have h4 := menc_len hck hdg
    rw [henc, hl] at h4
    have n0 : ¬ ((n : Nat) : Int) = 0 := by omega
    obtain ⟨k, hkq, hk⟩ : ∃ k : Nat, k < n ∧ (wrap64 (at'.tmod (n : Int) + (n : Int))).tmod (n : Int) = (k : Int) := by
      have t1 : -(n : Int) < at'.tmod n ∧ at'.tmod n < n := by
        have h1 := Int.tmod_lt_of_pos at' (b := (n : Int)) (by omega)
        have h2 := Int.lt_tmod_of_pos at' (b := (n : Int)) (by omega)
        exact ⟨h2, h1⟩
      have t2 : wrap64 (at'.tmod n + n) = at'.tmod n + n := by unfold wrap64; omega
      rw [t2]
      have t3 := Int.tmod_lt_of_pos (at'.tmod n + n) (b := (n : Int)) (by omega)
      have t4 := Int.tmod_nonneg (n : Int) (a := at'.tmod n + n) (by omega)
      exact ⟨((at'.tmod n + n).tmod n).toNat, by omega, by omega⟩
    obtain ⟨mb, hmb, hmb0, hmb1⟩ : ∃ mb : Int, at' % 256 = mb ∧ 0 ≤ mb ∧ mb ≤ 255 := ⟨_, rfl, by omega, by omega⟩
    have k0 : (0 : Int) ≤ (k : Int) := by omega
    have k1 : (k : Int) ≤ (c : Int) := by omega
    have HCut : Hid (mdec (L.take k) = none) := mdec_cut hB hd k (by omega)
    have HMore : Hid (mdec (L ++ [mb]) = none) := mdec_more hB hd [mb] (by simp)
    have KE : Hid (∀ w1 a1 c1, InR w1 a1 m.2.2 → Calls Tryd.prog 16 #[.agg #[.string (tx m.1), .string (tx m.2.1), .slice a1 m.2.2.length c1]] w1 fun e w' => ∃ v, e = .returned (.tuple #[v, .int .i64 0]) ∧ Owned w' w1.heap.size v L ∧ Below w1.heap.size w1 w') := fun w1 a1 c1 hi => by
      have := mencode_ok m m.2.2.length rfl hfit a1 c1 w1 hi hck
      rw [henc] at this
      exact this
    have h8 := (mchk_ok hck).2.2.1
    have KC : Hid (∀ w1 a1 c1, InR w1 a1 m.2.2 → Calls Tryd.prog 24 #[.agg #[.string (tx m.1), .string (tx m.2.1), .slice a1 m.2.2.length c1]] w1 fun e w' => e = .returned (.int .i64 0) ∧ Below w1.heap.size w1 w') := fun w1 a1 c1 hi => by
      have := mcheck_is m m.2.2.length rfl (by omega) hdg hfit.1 hfit.2.1 a1 c1 w1 hi
      rw [hck] at this
      exact this
    have KD1 : Hid (∀ w1, Below w.heap.size w w1 → Calls Tryd.prog 19 #[.slice a k c] w1 (MDSaid w1 (L.take k))) := fun w1 hb => mdecode_is w1 k c a (L.take k) (by rw [List.length_take]; omega) (bytes_take hB k) ((hh.below hb hlt).take k) (fun x hx hne => Nat.lt_of_lt_of_le (hlt x hx (fun e => hne (by simp [e]))) hb.size) (by omega) (by omega) (by omega)
    have KD2 : Hid (∀ w1 a1 c1, Owned w1 0 (.slice a1 (n + 1) c1) (L ++ [mb]) → Calls Tryd.prog 19 #[.slice a1 (n + 1) c1] w1 (MDSaid w1 (L ++ [mb]))) := fun w1 a1 c1 ho => mdecode_is w1 (n + 1) c1 a1 (L ++ [mb]) (by simp [hl]) (bytes_app hB (bytes_of_mem (by simp; omega))) ho.holds.1 (fun x hx _ => ho.lt_size x hx) ho.cap.1 ho.cap.2 (by omega)
    have HDG : Hid (Dgs m.2.2) := hdg
    clear hfit hck henc hrd h8 hB hh hlt hdg h4
    go_enter Tryd.func6, Tryd.ntmps6
    go_wp2_with fail
    refine KD.out.mono ?_
    rintro e w1 ⟨hb1, hm⟩
    rw [hd] at hm
    obtain ⟨v, rfl, hown⟩ := hm
    obtain ⟨av, cv, rfl, hin, hlc, hcc, _⟩ := hown.slice HDG.out
    obtain ⟨W2, hW2⟩ : ∃ W2, W2 = w1.alloc (.cells #[.string (tx m.1), .string (tx m.2.1), .slice av m.2.2.length cv] 44) := ⟨_, rfl⟩
    have A2 : Below w1.heap.size w1 W2 := by rw [hW2]; exact (Below.refl _ _).alloc (Nat.le_refl _) _
    have M2 : Hid (MBox W2 w1.heap.size (tx m.1) (tx m.2.1) (.slice av m.2.2.length cv)) := by rw [hW2]; exact MBox.new _ _ _ _
    have I2 : Hid (InR W2 av m.2.2) := hin.keep A2
    have B2 : Hid (Below w.heap.size w W2) := hb1.trans (A2.mono hb1.size)
    obtain ⟨M, hM⟩ : ∃ M, M = w1.heap.size := ⟨_, rfl⟩
    have HM : Hid (M = w1.heap.size) := hM
    have HW2 : Hid (W2 = w1.alloc (.cells #[.string (tx m.1), .string (tx m.2.1), .slice av m.2.2.length cv] 44)) := hW2
    rw [← hM] at M2
    obtain ⟨⟨x0, x1, x2⟩, _, _, _⟩ := M2.out.cells
    have hMW := M2.out.lt
    have hwM := hb1.size
    clear hb1 hd KD hown hin hM hW2 A2
    go_wp2_with fail
    rw [← HW2.out, ← HM.out]
    clear HW2
    refine (KE.out _ _ _ I2.out).mono ?_
    rintro e w3 ⟨v3, rfl, ho3, hb3⟩
    have O3 : Hid (Owned w3 W2.heap.size v3 L) := ho3
    have B3 : Hid (Below w.heap.size w w3) := B2.out.trans (hb3.mono B2.out.size)
    have HB3 : Hid (Below W2.heap.size W2 w3) := hb3
    clear ho3 hb3 KE x0 x1 x2
    go_wp2_with fail
    refine (KD1.out _ B3.out).mono ?_
    rintro e w4 ⟨hb4, hm4⟩
    rw [HCut.out] at hm4
    subst hm4
    have hs3 := HB3.out.size
    have HB4 : Hid (Below W2.heap.size W2 w4) := HB3.out.trans (hb4.mono hs3)
    have B4 : Hid (Below w.heap.size w w4) := B3.out.trans (hb4.mono B3.out.size)
    have O4 : Hid (Owned w4 W2.heap.size v3 L) := O3.out.keep hb4
    clear hb4 KD1 O3 HB3 B3
    obtain ⟨W5, hW5⟩ : ∃ W5, W5 = w4.alloc (.cells #[.string ⟨#[]⟩, .string ⟨#[]⟩, .slice none 0 0] 44) := ⟨_, rfl⟩
    have HW5 : Hid (w4.alloc (.cells #[.string ⟨#[]⟩, .string ⟨#[]⟩, .slice none 0 0] 44) = W5) := hW5.symm
    have A5 : Below w4.heap.size w4 W5 := by rw [hW5]; exact (Below.refl _ _).alloc (Nat.le_refl _) _
    have hs4 := HB4.out.size
    have HB5 : Hid (Below W2.heap.size W2 W5) := HB4.out.trans (A5.mono hs4)
    have B5 : Hid (Below w.heap.size w W5) := B4.out.trans (A5.mono B4.out.size)
    have O5 : Hid (Owned W5 W2.heap.size v3 L) := O4.out.keep A5
    have hs5 : W5.heap.size = w4.heap.size + 1 := by rw [hW5]; simp
    have O6 : Hid (Owned (W5.alloc (.cells #[] 5)) W5.heap.size (.slice (some ⟨w4.heap.size + 1, 0, none⟩) 0 0) []) := by rw [← hs5]; exact owned_empty W5 W5.heap.size (Nat.le_refl _)
    have H6 : Hid (Holds (W5.alloc (.cells #[] 5)) a L) := HH.out _ (B5.out.alloc B5.out.size _)
    clear hW5 A5 O4 HB4 B4
    go_wp2_with (first
      | (at_builtin; rw [HW5.out]; refine append_bytes rfl (.tmp 57) (.tmp 58) rfl W5.heap.size _ [] rfl O6.out a n c L rfl hl H6.out hnone n (by simp) (by omega) (by simp) ?_; intro a7 c7 w7 ho7 hb7; have O7 : Hid (Owned w7 W5.heap.size (.slice a7 n c7) L) := ho7; have B7 : Hid (Below W5.heap.size W5 w7) := ((Below.refl W5.heap.size W5).alloc (Nat.le_refl _) _).trans hb7; clear ho7 hb7)
      | (at_builtin; refine append_bytes rfl (.tmp 59) (.tmp 62) rfl W5.heap.size _ L rfl (O7.out.alloc _) (some ⟨w7.heap.size, 0, none⟩) 1 1 [mb] rfl rfl (holds_one w7 mb) (by simp) (n + 1) (by omega) (by omega) (by have := B7.out.size; simp; omega) ?_; intro a8 c8 w8 ho8 hb8; have O8 : Hid (Owned w8 W5.heap.size (.slice a8 (n + 1) c8) (L ++ [mb])) := ho8; have B8 : Hid (Below W5.heap.size W5 w8) := (B7.out.alloc B7.out.size _).trans hb8; clear ho8 hb8))
    have hsW := HB5.out.size
    refine (KD2.out _ _ _ (O8.out.base (Nat.zero_le _))).mono ?_
    rintro e w9 ⟨hb9, hm9⟩
    rw [HMore.out] at hm9
    subst hm9
    have hb9' : Below W5.heap.size W5 w9 := B8.out.trans (hb9.mono B8.out.size)
    obtain ⟨W10, hW10⟩ : ∃ W10, W10 = w9.alloc (.cells #[.string ⟨#[]⟩, .string ⟨#[]⟩, .slice none 0 0] 44) := ⟨_, rfl⟩
    have A10 : Below W5.heap.size W5 W10 := by rw [hW10]; exact hb9'.alloc hb9'.size _
    have HW10 : Hid (w9.alloc (.cells #[.string ⟨#[]⟩, .string ⟨#[]⟩, .slice none 0 0] 44) = W10) := hW10.symm
    have B10 : Hid (Below w.heap.size w W10) := B5.out.trans (A10.mono B5.out.size)
    have M10 : MBox W10 M (tx m.1) (tx m.2.1) (.slice av m.2.2.length cv) := ((A10.block M (by omega)).trans (HB5.out.block M (by omega))).trans M2.out
    have I10 : Hid (InR W10 av m.2.2) := I2.out.keep (HB5.out.trans (A10.mono hsW))
    obtain ⟨a3, c3, e3, _, hh3, _⟩ := (O5.out.keep A10).slice
    rw [hl] at e3
    subst e3
    have cs1 := conv_str hh3 n c3 hl
    have cs2 := conv_str (HH.out _ B10.out) n c hl
    have eqs : ((strOfNums L).toList == (strOfNums L).toList) = true := by simp
    obtain ⟨⟨x0, x1, x2⟩, _, _, _⟩ := M10.cells
    rw [hW10] at cs1 cs2 x0 x1 x2
    clear hb9 hb9' KD2 O5 O8 hh3 A10 M10 hW10 O7 B7 B8 O6 H6
    generalize strOfNums L = S at *
    go_wp2_with fail
    rw [HW10.out]
    refine (KC.out _ _ _ I10.out).mono ?_
    rintro e w11 ⟨rfl, hb11⟩
    have B11 : Hid (Below w.heap.size w w11) := B10.out.trans (hb11.mono B10.out.size)
    clear hb11 KC cs1 cs2 x0 x1 x2
    go_wp2_with fail
    refine (KW.out _).mono ?_
    rintro e w12 ⟨rfl, hb12⟩
    have B12 : Hid (Below w.heap.size w w12) := B11.out.trans (hb12.mono B11.out.size)
    clear hb12
    go_wp2_with fail
    go_ret
    exact ⟨rfl, B12.out⟩
end Go.Proofs.YtlddoobomjcldaaDoor
