/- The sum of what was written: (*Hash).Sum; Sum of bytes. -/
import Derived.Test.YtlddoobomjcldaaDoorShaW
namespace Go.Proofs.YtlddoobomjcldaaDoor
open Go.ChangeShapes Go.WideShapes Go.ChangeAt Go.RowKit Go.Deep
set_option linter.unusedVariables false
def z32 : Array Value := u8s (fillN [] 32 0)
theorem z32_size : z32.size = 32 := by kernel_rfl
theorem z32_lit : z32 = #[.int .u8 0, .int .u8 0, .int .u8 0, .int .u8 0, .int .u8 0, .int .u8 0, .int .u8 0, .int .u8 0, .int .u8 0, .int .u8 0, .int .u8 0, .int .u8 0, .int .u8 0, .int .u8 0, .int .u8 0, .int .u8 0, .int .u8 0, .int .u8 0, .int .u8 0, .int .u8 0, .int .u8 0, .int .u8 0, .int .u8 0, .int .u8 0, .int .u8 0, .int .u8 0, .int .u8 0, .int .u8 0, .int .u8 0, .int .u8 0, .int .u8 0, .int .u8 0] := z32_is
theorem zero24_info : (Tryd.prog.info? 35).map (fun i => (i.zero, i.size)) = some (some (.agg z32), 32) := by kernel_rfl
theorem shaL_len (L : List Int) : (shaL L).length = 32 := digL_len _
theorem shaL_bytes (L : List Int) : IsBytes (shaL L) := digL_bytes _
set_option maxRecDepth 100000 in
set_option maxHeartbeats 8000000 in
theorem sumH_is (g : Nat) (L : List Int) (w : World) (hH : HashAt w g L) (hk : KIs w) (hL : L.length ≤ 1152921504606846000) :
    Calls Tryd.prog 58 #[.pointer (some ⟨g, 0, none⟩)] w fun e w' => e = .returned (.agg (u8s (shaL L))) ∧ Below w.heap.size w w' := by
  have hlt := hH.lt
  have hl73 : (w.alloc (.cells z32 35)).cell? ⟨g, 73, none⟩ = some (.int .i64 (L.length : Int)) := by
    rw [World.cell?_alloc_lt _ _ _ hlt]; exact hH.length
  have k0 : Hid (Calls Tryd.prog 78 #[.pointer (some ⟨g, 0, none⟩)] (w.alloc (.cells z32 35)) fun e w' => e = .returned (.bool false) ∧ w' = (w.alloc (.cells z32 35))) := isNone_made g true _ (by rw [World.cell?_alloc_lt _ _ _ hlt]; exact hH.made)
  obtain ⟨R, hR, hb, ht, hh⟩ := hH
  have H : Hid ((w.alloc (.cells z32 35)).heap[g]? = some (.cells (hcells (nums L) R L.length).toArray 123)) := (Below.heap_alloc _ _ _ hlt).trans hh
  have HR : Hid (R.length = 64 ∧ IsBytes R ∧ R.take (L.length % 64) = L.drop (64 * (L.length / 64))) := ⟨hR, hb, ht⟩
  have hl : (hcells (nums L) R L.length).toArray.size = 74 := by simp [hcells_len _ _ _ (nums_len L) hR]
  have h1 := hcells_one (nums L) R L.length
  have HK : Hid (KIs w) := hk
  clear hh hR hb ht hk
  obtain ⟨cs, hcs⟩ : ∃ cs, cs = hcells (nums L) R L.length := ⟨_, rfl⟩
  have HCS : Hid (cs = hcells (nums L) R L.length) := hcs
  rw [← hcs] at H hl h1
  clear hcs
  have hz := (zero_of_info hzero_info).1
  have HZ : Hid (hzero.toArray.size = 74) := rfl
  generalize hzero.toArray = Z at *
  have H1 : Hid (((w.alloc (.cells z32 35)).alloc (.cells Z 123)).heap[w.heap.size + 1]? = some (.cells Z 123)) := by
    have := heap_alloc_last (w.alloc (.cells z32 35)) (.cells Z 123)
    rwa [World.size_alloc] at this
  have H2 : Hid ((((w.alloc (.cells z32 35)).alloc (.cells Z 123)).setRow (w.heap.size + 1) cs.toArray).heap[w.heap.size + 1]? = some (.cells cs.toArray 123)) := setRow_heap _ _ _ _ _ _ H1.out
  have H3 : Hid ((((w.alloc (.cells z32 35)).alloc (.cells Z 123)).setRow (w.heap.size + 1) cs.toArray).heap[w.heap.size]? = some (.cells z32 35)) := (setRow_other _ _ _ _ (by omega)).trans ((Below.heap_alloc _ _ _ (by simp)).trans (heap_alloc_last w _))
  have H4 : Hid (Below w.heap.size w (((w.alloc (.cells z32 35)).alloc (.cells Z 123)).setRow (w.heap.size + 1) cs.toArray)) := below_setRow (((Below.refl _ _).alloc (Nat.le_refl _) _).alloc (by simp) _) (by omega) _
  have H5 : Hid ((((w.alloc (.cells z32 35)).alloc (.cells Z 123)).setRow (w.heap.size + 1) cs.toArray).heap.size = w.heap.size + 2) := by
    show _ = _
    simp [World.setRow]
  have hc73 : (((w.alloc (.cells z32 35)).alloc (.cells Z 123)).setRow (w.heap.size + 1) cs.toArray).cell? ⟨g, 73, none⟩ = some (.int .i64 (L.length : Int)) := by
    rw [World.cell?_of_block (w := w.alloc (.cells z32 35)) (a := ⟨g, 73, none⟩) ((setRow_other _ _ _ _ (show g ≠ w.heap.size + 1 by omega)).trans (Below.heap_alloc _ _ _ (by simp; omega)))]
    exact hl73
  have hz24 := (zero_of_info zero24_info).1
  clear hl73
  go_enter Tryd.func58, Tryd.ntmps58
  go_wp2_with (first | (go_at_call 78; refine k0.out.mono ?_; rintro e w' ⟨rfl, hw⟩; obtain rfl := hw.symm; clear hw) | (refine wpList_load_row rfl 123 (.tmp 8) rfl g rfl 123 cs.toArray (0, 0) _ H.out Tryd.underlying123 rfl (by rw [hl]; exact hsize) ?_) | (refine wpList_store_row rfl 123 (.tmp 3) (.tmp 9) rfl (w.heap.size + 1) cs.toArray rfl rfl 123 Z H1.out (by rw [hl]; exact hsize) (by rw [HZ.out, hl]) h1 ?_))
  clear H H1 k0 hc73 hz hz24
  generalize ((w.alloc (.cells z32 35)).alloc (.cells Z 123)).setRow (w.heap.size + 1) cs.toArray = W3 at *
  refine (end_is L.length (by omega) W3).mono ?_
  rintro e w' ⟨rfl, hw⟩
  obtain rfl := hw.symm
  clear hw
  have HH4 : Hid (HashAt (W3.alloc (.cells (u8s (endL L.length)) 5)) (w.heap.size + 1) L) := by
    refine ⟨R, HR.out.1, HR.out.2.1, HR.out.2.2, ?_⟩
    rw [← HCS.out]
    exact (Below.heap_alloc _ _ _ (lt_of_heap H2.out)).trans H2.out
  have HK4 : Hid (KIs (W3.alloc (.cells (u8s (endL L.length)) 5))) := HK.out.below (H4.out.alloc H4.out.size _) HK.out.pos
  have hz64 := zerosN_lt L.length
  have KW : Hid (Calls Tryd.prog 57 #[.pointer (some ⟨w.heap.size + 1, 0, none⟩), .slice (some ⟨W3.heap.size, 0, none⟩) (9 + zerosN L.length) (9 + zerosN L.length)] (W3.alloc (.cells (u8s (endL L.length)) 5)) fun e w' => e = .returned (.tuple #[]) ∧ HashAt w' (w.heap.size + 1) (L ++ endL L.length) ∧ Only (w.heap.size + 1) (W3.alloc (.cells (u8s (endL L.length)) 5)) w') :=
    write_is _ L (endL L.length) _ _ _ _ (endL_len _) (endL_bytes _) (Nat.le_refl _) (by omega) (by omega) (holds_laid _ _ _) (by
      intro x hx _
      simp only [Option.some.injEq] at hx
      subst hx
      show W3.heap.size ≠ w.heap.size + 1
      rw [H5.out]; omega) HH4.out HK4.out
  have hs4 : (W3.alloc (.cells (u8s (endL L.length)) 5)).heap.size = w.heap.size + 3 := by rw [World.size_alloc, H5.out]
  have HS4 : Hid ((W3.alloc (.cells (u8s (endL L.length)) 5)).heap.size = w.heap.size + 3) := hs4
  have H34 : Hid ((W3.alloc (.cells (u8s (endL L.length)) 5)).heap[w.heap.size]? = some (.cells z32 35)) := (Below.heap_alloc _ _ _ (lt_of_heap H3.out)).trans H3.out
  have H44 : Hid (Below w.heap.size w (W3.alloc (.cells (u8s (endL L.length)) 5))) := H4.out.alloc H4.out.size _
  clear HH4 HK4 hz64 hs4
  generalize W3.alloc (.cells (u8s (endL L.length)) 5) = W4 at *
  go_wp2_with fail
  refine KW.out.mono ?_
  rintro e w5 ⟨rfl, hH5, hO5⟩
  have HH5 : Hid (HashAt w5 (w.heap.size + 1) (L ++ endL L.length)) := hH5
  have HO5 : Hid (Only (w.heap.size + 1) W4 w5) := hO5
  clear hH5 hO5 KW
  have RN : Hid (w5.rangeAt (w.heap.size + 1) 1 (u32s (nums (L ++ endL L.length))).toList) := by
    obtain ⟨R5, _, _, _, h5⟩ := HH5.out
    exact hash_nums (nums_len _) h5
  have H35 : Hid (w5.heap[w.heap.size]? = some (.cells z32 35)) := (HO5.out.block _ (by rw [HS4.out]; omega) (by omega)).trans H34.out
  have H45 : Hid (Below w.heap.size w w5) := H44.out.trans (HO5.out.below _ (by omega) (by rw [HS4.out]; omega))
  have hsl := shaL_len L
  have HSL : Hid (digL (nums (L ++ endL L.length)) = shaL L) := rfl
  have hnl := nums_len (L ++ endL L.length)
  generalize nums (L ++ endL L.length) = s5 at *
  have KD : Hid (∀ W, Calls Tryd.prog 81 #[.agg (u32s s5)] W fun e w' => e = .returned (.agg (u8s (shaL L))) ∧ Below W.heap.size W w') := fun W => by rw [← HSL.out]; exact digest_is s5 hnl W
  clear HSL
  go_wp2_with (refine wpList_load_mid rfl 119 (.tmp 16) rfl (w.heap.size + 1) 1 rfl (u32s s5).toList _ RN.out Tryd.underlying119 rfl (by rw [Array.length_toList, u32s_size, hnl]; exact size8) ?_; rw [Array.toArray_toList])
  refine (KD.out w5).mono ?_
  rintro e w6 ⟨rfl, hb6⟩
  have H36 : Hid (w6.heap[w.heap.size]? = some (.cells z32 35)) := (hb6.block _ (lt_of_heap H35.out)).trans H35.out
  have H46 : Hid (Below w.heap.size w w6) := H45.out.trans (hb6.mono H45.out.size)
  clear hb6
  go_wp2_with (refine wpList_store_row rfl 35 (.tmp 2) (.tmp 18) rfl w.heap.size (u8s (shaL L)) rfl rfl 35 z32 H36.out (size32l _ hsl) (by rw [z32_size, u8s_size, hsl]) (u8s_one _) ?_)
  refine bodyPost_ret (results_cell_row rfl _ _ w.heap.size 35 (u8s (shaL L)) (0, 0) _ rfl (setRow_heap _ _ _ _ _ _ H36.out) Tryd.underlying35 rfl (size32l _ hsl)) rfl ⟨?_, ?_⟩
  · rfl
  · exact below_setRow H46.out (Nat.le_refl _) _
theorem sum_is (B : List Int) (a : Option Addr) (n cap : Nat) (w : World) (hB : B.length = n) (hb : IsBytes B) (hc : n ≤ cap) (hcm : cap ≤ 1152921504606846000) (hh : Holds w a B)
    (hf : ∀ x, a = some x → B ≠ [] → x.block < w.heap.size) (hk : KIs w) :
    Calls Tryd.prog 36 #[.slice a n cap] w fun e w' => e = .returned (.agg (u8s (shaL B))) ∧ Below w.heap.size w w' := by
  have HK : Hid (KIs w) := hk
  have HB : Hid (IsBytes B) := hb
  have HH : Hid (Holds w a B) := hh
  have HF : Hid (∀ x, a = some x → B ≠ [] → x.block < w.heap.size) := hf
  have hz24 := (zero_of_info zero24_info).1
  clear hk hb hh hf
  go_enter Tryd.func36, Tryd.ntmps36
  go_wp2_with (go_at_call 56; refine (new_is _).mono ?_; rintro e w1 ⟨g, rfl, hg, hH1, hb1⟩; have HH1 : Hid (HashAt w1 g []) := hH1; have HB1 : Hid (Below (w.alloc (.cells z32 35)).heap.size (w.alloc (.cells z32 35)) w1) := hb1; have HG : Hid ((w.alloc (.cells z32 35)).heap.size ≤ g) := hg; clear hH1 hb1 hg)
  have hsz : (w.alloc (.cells z32 35)).heap.size = w.heap.size + 1 := by simp
  have hg1 : w.heap.size + 1 ≤ g := by have := HG.out; omega
  have BW1 : Hid (Below w.heap.size w w1) := ((Below.refl _ _).alloc (Nat.le_refl _) _).trans (HB1.out.mono (by rw [hsz]; omega))
  have HZ1 : Hid (w1.heap[w.heap.size]? = some (.cells z32 35)) := (HB1.out.block _ (by rw [hsz]; omega)).trans (heap_alloc_last w _)
  have HK1 : Hid (KIs w1) := HK.out.below BW1.out HK.out.pos
  clear HB1 HG hsz hz24
  refine (write_is g [] B a n cap w1 hB HB.out hc (by omega) (by simp) (HH.out.below BW1.out HF.out) (fun x hx hne => by have := HF.out x hx hne; omega) HH1.out HK1.out).mono ?_
  rintro e w2 ⟨rfl, hH2, hO2⟩
  rw [List.nil_append] at hH2
  have HH2 : Hid (HashAt w2 g B) := hH2
  have BW2 : Hid (Below w.heap.size w w2) := BW1.out.trans (hO2.below _ (by omega) BW1.out.size)
  have HZ2 : Hid (w2.heap[w.heap.size]? = some (.cells z32 35)) := (hO2.block _ (lt_of_heap HZ1.out) (by omega)).trans HZ1.out
  have HK2 : Hid (KIs w2) := HK.out.below BW2.out HK.out.pos
  clear hH2 hO2
  go_wp2_with fail
  refine (sumH_is g B w2 HH2.out HK2.out (by omega)).mono ?_
  rintro e w3 ⟨rfl, hb3⟩
  have HZ3 : Hid (w3.heap[w.heap.size]? = some (.cells z32 35)) := (hb3.block _ (lt_of_heap HZ2.out)).trans HZ2.out
  have BW3 : Hid (Below w.heap.size w w3) := BW2.out.trans (hb3.mono BW2.out.size)
  have hsl := shaL_len B
  clear hb3
  go_wp2_with (refine wpList_store_row rfl 35 (.tmp 2) (.tmp 9) rfl w.heap.size (u8s (shaL B)) rfl rfl 35 z32 HZ3.out (size32l _ hsl) (by rw [z32_size, u8s_size, hsl]) (u8s_one _) ?_)
  refine bodyPost_ret (results_cell_row rfl _ _ w.heap.size 35 (u8s (shaL B)) (0, 0) _ rfl (setRow_heap _ _ _ _ _ _ HZ3.out) Tryd.underlying35 rfl (size32l _ hsl)) rfl ⟨rfl, ?_⟩
  exact below_setRow BW3.out (Nat.le_refl _) _
end Go.Proofs.YtlddoobomjcldaaDoor
