/- ManifestBack's walk. -/
import Derived.Test.YtlddoobomjcldaaDoorMnId
import Derived.Test.YtlddoobomjcldaaDoorManW
import Derived.Test.YtlddoobomjcldaaDoorShaQ
namespace Go.Proofs.YtlddoobomjcldaaDoor
open Go.ChangeShapes Go.WideShapes Go.ChangeAt Go.RowKit Go.Deep Go.Maps
set_option linter.unusedVariables false
theorem z32_u8sM : z32 = u8s (List.replicate 32 0) := by kernel_rfl
theorem eq_z32M (w : World) : (Op.equalIn 10000 35 (.agg z32) (.agg z32)).run Tryd.prog w = .ok true w := by
  rw [z32_u8sM]
  have := eq_digest (List.replicate 32 0) (List.replicate 32 0) (by simp) (by simp) w
  simpa using this
set_option maxRecDepth 100000 in
set_option maxHeartbeats 8000000 in
theorem manifestBack_walk (m : Mf) (a : Option Addr) (n c : Nat) (w : World) (hn : m.2.2.length = n) (hc : a = none → c = 0) (hl : InR w a m.2.2) (hd : Dgs m.2.2) (h1 : m.1.length ≤ 140737488351232) (h2 : m.2.1.length ≤ 140737488351232) (h40 : n * 40 ≤ 140737488351232) (hk : KIs w) :
    Calls Tryd.prog 5 #[mv m a n c] w fun e w' => e = .returned (.bool true) ∧ Below w.heap.size w w' := by
  have hf : FitM m := ⟨by omega, by omega, hd⟩
  have KW : Hid (∀ w, Calls Tryd.prog 23 #[] w fun e w' => e = .returned (.bool true) ∧ Below w.heap.size w w') := worksM_is
  obtain ⟨W0, hW0⟩ : ∃ W0, W0 = w.alloc (.cells #[.string (tx m.1), .string (tx m.2.1), .slice a n c] 44) := ⟨_, rfl⟩
  have HW0 : Hid (W0 = w.alloc (.cells #[.string (tx m.1), .string (tx m.2.1), .slice a n c] 44)) := hW0
  have A0 : Below w.heap.size w W0 := by rw [hW0]; exact (Below.refl _ _).alloc (Nat.le_refl _) _
  have M0 : MBox W0 w.heap.size (tx m.1) (tx m.2.1) (.slice a n c) := by rw [hW0]; exact MBox.new _ _ _ _
  have hs0 : W0.heap.size = w.heap.size + 1 := by rw [hW0]; simp
  have HB : Hid (Below w.heap.size w W0) := A0
  have HM : Hid (∀ w', Below W0.heap.size W0 w' → MBox w' w.heap.size (tx m.1) (tx m.2.1) (.slice a n c)) := fun w' hb => (hb.block _ (by omega)).trans M0
  have HI : ∀ w', Below W0.heap.size W0 w' → InR w' a m.2.2 := fun w' hb => hl.keep (A0.trans (hb.mono (by omega)))
  have HI' : Hid (∀ w', Below W0.heap.size W0 w' → InR w' a m.2.2) := HI
  have KC : Hid (∀ w', Below W0.heap.size W0 w' → Calls Tryd.prog 24 #[.agg #[.string (tx m.1), .string (tx m.2.1), .slice a n c]] w' fun e w'' => e = .returned (.int .i64 (mchk m)) ∧ Below w'.heap.size w' w'') := fun w' hb => mcheck_is m n hn (by omega) hd hf.1 hf.2.1 a c w' (HI w' hb)
  have hez := eq_z32M
  have hz24 := (zero_of_info zero24_info).1
  obtain ⟨M, hM⟩ : ∃ M, M = w.heap.size := ⟨_, rfl⟩
  by_cases hck : mchk m = 0
  · have KE : Hid (∀ w', Below W0.heap.size W0 w' → Calls Tryd.prog 16 #[.agg #[.string (tx m.1), .string (tx m.2.1), .slice a n c]] w' fun e w'' => ∃ v, e = .returned (.tuple #[v, .int .i64 0]) ∧ Owned w'' w'.heap.size v (menc m) ∧ Below w'.heap.size w' w'') := fun w' hb => mencode_ok m n hn hf a c w' (HI w' hb) hck
    have KI : Hid (∀ w', Below W0.heap.size W0 w' → Calls Tryd.prog 21 #[.agg #[.string (tx m.1), .string (tx m.2.1), .slice a n c]] w' fun e w'' => e = .returned (.tuple #[.agg (u8s (shaL (menc m))), .int .i64 0]) ∧ Below w'.heap.size w' w'') := fun w' hb => mid_ok m n hn hf a c w' (HI w' hb) hck (hk.below (A0.trans (hb.mono (by omega))) hk.pos)
    have hB := menc_bytes hck hd
    have hS := menc_short hck hd
    have KD : Hid (∀ w' a1 c1 base, Owned w' base (.slice a1 (menc m).length c1) (menc m) → Calls Tryd.prog 19 #[.slice a1 (menc m).length c1] w' (MDSaid w' (menc m))) := fun w' a1 c1 base ho => mdecode_is w' _ c1 a1 (menc m) rfl hB ho.holds.1 (fun x hx _ => ho.lt_size x hx) ho.cap.1 ho.cap.2 (by omega)
    have HDE : Hid (mdec (menc m) = some m) := mdec_menc hck hd
    have KS : Hid (∀ w' a' c', InR w' a' m.2.2 → InR w' a m.2.2 → Calls Tryd.prog 22 #[.agg #[.string (tx m.1), .string (tx m.2.1), .slice a' n c'], .agg #[.string (tx m.1), .string (tx m.2.1), .slice a n c]] w' fun e w'' => e = .returned (.bool true) ∧ Below w'.heap.size w' w'') := fun w' a' c' hi hj => by
      have := rmsame_is m m n n c' c a' a w' hn hn (by omega) (by omega) hd hd hi hj
      rw [decide_eq_true rfl] at this
      exact this
    have HD : Hid (Dgs m.2.2) := hd
    have HN : Hid (m.2.2.length = n) := hn
    rw [hck] at KC
    unfold mv
    obtain ⟨S, hS2⟩ : ∃ S, S = shaL (menc m) := ⟨_, rfl⟩
    rw [← hS2] at KI
    have hsl : S.length = 32 := by rw [hS2]; exact shaL_len _
    rw [← hM] at HM
    obtain ⟨E, hE⟩ : ∃ E, E = menc m := ⟨_, rfl⟩
    rw [← hE] at KE KD HDE
    have HMM : Hid (M = w.heap.size) := hM
    clear hf hl hd hn h1 h2 hc hW0 A0 M0 HI hB hS hS2 hE hM
    go_enter Tryd.func5, Tryd.ntmps5
    obtain ⟨⟨x0, x1, x2⟩, _⟩ := (HM.out W0 (Below.refl _ _)).cells
    go_wp2_with fail
    rw [← HW0.out, ← HMM.out]
    refine (KC.out _ (Below.refl _ _)).mono ?_
    rintro e w1 ⟨rfl, hb1⟩
    have B1 : Hid (Below W0.heap.size W0 w1) := hb1
    clear x0 x1 x2
    obtain ⟨⟨x0, x1, x2⟩, _⟩ := (HM.out _ B1.out).cells
    clear hb1 KC
    go_wp2_with fail
    refine (KE.out _ B1.out).mono ?_
    rintro e w2 ⟨v2, rfl, ho2, hb2⟩
    obtain ⟨a2, c2, rfl, _, _, _, _⟩ := ho2.slice
    have O2 : Hid (Owned w2 w1.heap.size (.slice a2 E.length c2) E) := ho2
    have B2 : Hid (Below W0.heap.size W0 w2) := B1.out.trans (hb2.mono B1.out.size)
    clear x0 x1 x2
    obtain ⟨⟨x0, x1, x2⟩, _⟩ := (HM.out _ B2.out).cells
    clear hb2 KE ho2
    go_wp2_with fail
    refine (KI.out _ B2.out).mono ?_
    rintro e w3 ⟨rfl, hb3⟩
    have B3 : Hid (Below W0.heap.size W0 w3) := B2.out.trans (hb3.mono B2.out.size)
    have O3 : Hid (Owned w3 w1.heap.size (.slice a2 E.length c2) E) := O2.out.keep hb3
    have Z3 : Hid ((w3.alloc (.cells z32 35)).heap[w3.heap.size]? = some (.cells z32 35)) := heap_alloc_new w3 _
    have C4 : Below w3.heap.size w3 ((w3.alloc (.cells z32 35)).setRow w3.heap.size (u8s S)) := below_setRow ((Below.refl _ _).alloc (Nat.le_refl _) _) (Nat.le_refl _) _
    obtain ⟨W4, hW4⟩ : ∃ W4, W4 = (w3.alloc (.cells z32 35)).setRow w3.heap.size (u8s S) := ⟨_, rfl⟩
    rw [← hW4] at C4
    have HW4 : Hid ((w3.alloc (.cells z32 35)).setRow w3.heap.size (u8s S) = W4) := hW4.symm
    have B4 : Hid (Below W0.heap.size W0 W4) := B3.out.trans (C4.mono B3.out.size)
    have O4 : Hid (Owned W4 w1.heap.size (.slice a2 E.length c2) E) := O3.out.keep C4
    clear x0 x1 x2 hb3 KI O2 O3 C4 hW4
    generalize hEl : E.length = q at *
    go_wp2_with (refine wpList_store_row rfl 35 (.tmp 6) (.tmp 20) rfl w3.heap.size (u8s S) rfl rfl 35 z32 Z3.out (size32l _ hsl) (by rw [z32_size, u8s_size, hsl]) (u8s_one _) ?_; rw [HW4.out])
    refine (KD.out _ _ _ _ O4.out).mono ?_
    rintro e w5 ⟨hb5, hm5⟩
    rw [HDE.out] at hm5
    obtain ⟨v5, rfl, ho5⟩ := hm5
    obtain ⟨a5, c5, rfl, hi5, _, _, _⟩ := ho5.slice HD.out
    rw [HN.out]
    have C5 : Below W4.heap.size W4 w5 := hb5
    obtain ⟨W6, hW6⟩ : ∃ W6, W6 = w5.alloc (.cells #[.string (tx m.1), .string (tx m.2.1), .slice a5 n c5] 44) := ⟨_, rfl⟩
    have A6 : Below w5.heap.size w5 W6 := by rw [hW6]; exact (Below.refl _ _).alloc (Nat.le_refl _) _
    have B5 : Below W0.heap.size W0 w5 := B4.out.trans (C5.mono B4.out.size)
    have B6 : Hid (Below W0.heap.size W0 W6) := B5.trans (A6.mono B5.size)
    have N6 : MBox W6 w5.heap.size (tx m.1) (tx m.2.1) (.slice a5 n c5) := by rw [hW6]; exact MBox.new _ _ _ _
    have I6 : Hid (InR W6 a5 m.2.2) := hi5.keep A6
    have J6 : Hid (InR W6 a m.2.2) := HI'.out _ B6.out
    obtain ⟨⟨x0, x1, x2⟩, _⟩ := (HM.out _ B6.out).cells
    obtain ⟨⟨y0, y1, y2⟩, _⟩ := N6.cells
    have HW6 : Hid (w5.alloc (.cells #[.string (tx m.1), .string (tx m.2.1), .slice a5 n c5] 44) = W6) := hW6.symm
    rw [hW6] at x0 x1 x2 y0 y1 y2
    clear hb5 ho5 hi5 C5 hW6 A6 B5 N6 KD O4
    go_wp2_with fail
    rw [HW6.out]
    refine (KS.out _ _ _ I6.out J6.out).mono ?_
    rintro e w7 ⟨rfl, hb7⟩
    have B7 : Hid (Below W0.heap.size W0 w7) := B6.out.trans (hb7.mono B6.out.size)
    clear x0 x1 x2 y0 y1 y2 hb7 KS
    go_wp2_with fail
    refine (KW.out _).mono ?_
    rintro e w8 ⟨rfl, hb8⟩
    have B8 : Hid (Below W0.heap.size W0 w8) := B7.out.trans (hb8.mono B7.out.size)
    clear hb8
    go_wp2_with fail
    go_ret
    exact ⟨rfl, HB.out.trans (B8.out.mono (by omega))⟩
  · have KE : Hid (∀ w', Below W0.heap.size W0 w' → Calls Tryd.prog 16 #[.agg #[.string (tx m.1), .string (tx m.2.1), .slice a n c]] w' fun e w'' => e = .returned (.tuple #[.slice none 0 0, .int .i64 (mchk m)]) ∧ Below w'.heap.size w' w'') := fun w' hb => mencode_bad m n hn (by omega) hf a c w' (HI w' hb) hck
    have KI : Hid (∀ w', Below W0.heap.size W0 w' → Calls Tryd.prog 21 #[.agg #[.string (tx m.1), .string (tx m.2.1), .slice a n c]] w' fun e w'' => e = .returned (.tuple #[.agg z32, .int .i64 (mchk m)]) ∧ Below w'.heap.size w' w'') := fun w' hb => mid_bad m n hn (by omega) hf a c w' (HI w' hb) hck
    have KZ : Hid (∀ w', Below W0.heap.size W0 w' → Calls Tryd.prog 25 #[.agg #[.string (tx m.1), .string (tx m.2.1), .slice a n c]] w' fun e w'' => e = .returned (.int .i64 0) ∧ Below w'.heap.size w' w'') := fun w' hb => by
      have := msize_is m n hn (by omega) hf a c w' (HI w' hb)
      rw [show msz m = 0 from if_neg hck] at this
      exact this
    unfold mv
    rw [← hM] at HM
    have HMM : Hid (M = w.heap.size) := hM
    generalize mchk m = r at *
    have er : (r != 0) = true := by simp [hck]
    clear hf hl hd hn h1 h2 hc hW0 A0 M0 HI hM
    go_enter Tryd.func5, Tryd.ntmps5
    go_wp2_with fail
    rw [← HW0.out, ← HMM.out]
    refine (KC.out _ (Below.refl _ _)).mono ?_
    rintro e w1 ⟨rfl, hb1⟩
    have B1 : Hid (Below W0.heap.size W0 w1) := hb1
    obtain ⟨⟨x0, x1, x2⟩, _⟩ := (HM.out _ B1.out).cells
    clear hb1 KC
    go_wp2_with fail
    refine (KE.out _ B1.out).mono ?_
    rintro e w2 ⟨rfl, hb2⟩
    have B2 : Hid (Below W0.heap.size W0 w2) := B1.out.trans (hb2.mono B1.out.size)
    clear x0 x1 x2
    obtain ⟨⟨x0, x1, x2⟩, _⟩ := (HM.out _ B2.out).cells
    clear hb2 KE
    go_wp2_with fail
    refine (KI.out _ B2.out).mono ?_
    rintro e w3 ⟨rfl, hb3⟩
    have B3 : Hid (Below W0.heap.size W0 w3) := B2.out.trans (hb3.mono B2.out.size)
    have Z3 : Hid ((w3.alloc (.cells z32 35)).heap[w3.heap.size]? = some (.cells z32 35)) := heap_alloc_new w3 _
    have C4 : Below w3.heap.size w3 ((w3.alloc (.cells z32 35)).setRow w3.heap.size z32) := below_setRow ((Below.refl _ _).alloc (Nat.le_refl _) _) (Nat.le_refl _) _
    have Z4 : Hid (((w3.alloc (.cells z32 35)).setRow w3.heap.size z32).heap[w3.heap.size]? = some (.cells z32 35)) := setRow_heap _ _ _ _ _ _ Z3.out
    obtain ⟨W4, hW4⟩ : ∃ W4, W4 = (w3.alloc (.cells z32 35)).setRow w3.heap.size z32 := ⟨_, rfl⟩
    rw [← hW4] at C4 Z4
    have HW4 : Hid ((w3.alloc (.cells z32 35)).setRow w3.heap.size z32 = W4) := hW4.symm
    have B4 : Hid (Below W0.heap.size W0 W4) := B3.out.trans (C4.mono B3.out.size)
    clear x0 x1 x2
    obtain ⟨⟨x0, x1, x2⟩, _⟩ := (HM.out _ B4.out).cells
    clear hb3 KI C4 hW4
    go_wp2_with (first | (refine wpList_store_row rfl 35 (.tmp 6) (.tmp 20) rfl w3.heap.size z32 rfl rfl 35 z32 Z3.out (by rw [z32_size]; exact size32) rfl z32_oneM ?_; rw [HW4.out]) | (refine wpList_load_row_g 35 (.tmp 6) rfl rfl w3.heap.size rfl 35 z32 (0, 0) 32 5 Z4.out Tryd.underlying35 (by rw [z32_size]; exact size32) ?_))
    refine (KZ.out _ B4.out).mono ?_
    rintro e w5 ⟨rfl, hb5⟩
    have B5 : Hid (Below W0.heap.size W0 w5) := B4.out.trans (hb5.mono B4.out.size)
    clear x0 x1 x2 hb5 KZ
    go_wp2_with fail
    refine (KW.out _).mono ?_
    rintro e w6 ⟨rfl, hb6⟩
    have B6 : Hid (Below W0.heap.size W0 w6) := B5.out.trans (hb6.mono B5.out.size)
    clear hb6
    go_wp2_with fail
    go_ret
    exact ⟨rfl, HB.out.trans (B6.out.mono (by omega))⟩
end Go.Proofs.YtlddoobomjcldaaDoor
