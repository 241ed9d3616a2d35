/- Disks that a call made: Write where it goes through. Written by gen_dkwrite.py. -/
import Derived.Test.YtchnbfdfcjahpaaMgWs7
import Derived.Deep.RegionHeld3
namespace Go.Proofs.Ytchnbfdfcjahpaa
open Go.ChangeShapes Go.WideShapes Go.ChangeAt Go.RowKit Go.Deep Go.Maps
set_option linter.unusedVariables false
set_option linter.unusedSimpArgs false in
set_option maxRecDepth 100000 in
set_option maxHeartbeats 4000000 in
theorem write_is (w : World) (h b N : Nat) (D : List (List Int)) (W : Int → List (List Int)) (done fuse : Int) (hf : fuse ≤ 9223372036854775807) (hf0 : fuse ≠ 0) (hd : 0 ≤ done ∧ done < 9223372036854775807) (gd' cd' mb' : Nat) (Hw : Int → Option Hd) (hn : 1 ≤ D.length ∧ D.length ≤ 4096) (H : DkP w h b N D W true done fuse gd' cd' mb' Hw) (hN : N < 4611686018427387904) (i : Int) (hi : 0 ≤ i ∧ i < D.length) (hW : (W i).length ≤ 1000000000) (x : Addr) (hxb : x.block ≠ b) (cp : Nat) (C : List Int) (hC : C.length = 64 ∧ IsBytes C) (hsrc : ∀ j v, (C.map (Value.int .u8))[j]? = some v → w.cell? (x.add j) = some v) (hh : h ≤ w.heap.size) :
    Calls Try.prog 53 #[.pointer (some ⟨b, 0, none⟩), .int .i64 i, .slice (some x) 64 cp] w fun e w' => e = .returned (.int .i64 0) ∧ Off (Fp b gd' mb' Hw) w w' ∧ ∃ T', DkP w' h b (N + 1) D (fun j => if j = i then W j ++ [C] else W j) true (done + 1) (lessF fuse) gd' cd' mb' T' ∧ ∀ k, Fp b gd' mb' T' k → Fp b gd' mb' Hw k ∨ w.heap.size ≤ k := by
  have hc := H.cell
  have hhb := H.hb
  have h5 := d5_of hc
  have K : Hid (Calls Try.prog 51 #[.pointer (some ⟨b, 0, none⟩), .int .i64 i] w fun e w' => e = .returned (.int .i64 0) ∧ w' = w) := (show rdyAt true D.length i = 0 by simp [rdyAt]; omega) ▸ readyAt_is w b gd' D.length cd' mb' true done fuse hn.1 h5 i
  have KB : Hid (Calls Try.prog 65 #[.pointer (some ⟨b, 0, none⟩)] w fun e w' => ∃ k, e = .returned (.int .i64 k) ∧ BurnSaid w w' h b N D W done fuse gd' cd' mb' Hw k) := burn_is w h b N D W done fuse gd' cd' mb' Hw hf hd H
  have HI : Hid (InI i) := ⟨by omega, by omega⟩
  have HW : Hid ((W i).length ≤ 1000000000) := hW
  have HNN : Hid (N < 4611686018427387904) := hN
  have HHB : Hid (h ≤ b) := hhb
  have HH : Hid (h ≤ w.heap.size) := hh
  clear hc h5 H hn hW hN hhb hh
  go_enter Try.func53, Try.ntmps53
  go_wp2_with fail
  refine K.out.mono ?_
  rintro e w1 ⟨rfl, rfl⟩
  go_wp2_with fail
  refine KB.out.mono ?_
  rintro e w2 ⟨k, rfl, hg, hs⟩
  rcases hs with ⟨x, _⟩ | ⟨_, rfl, hs⟩
  · exact absurd x hf0
  · clear K KB
    have hsrc2 : ∀ j v, (C.map (Value.int .u8))[j]? = some v → w2.cell? (x.add j) = some v := fun j v hv => by
      have h0 := hsrc j v hv
      have hxa : (x.add j).block = x.block := by unfold Addr.add; split <;> rfl
      have hlt : (x.add j).block < w1.heap.size := World.block_lt_of_cell? _ _ h0
      exact (World.cell?_of_block (a := x.add j) (hg.block (x.add j).block hlt (by rw [hxa]; simpa using hxb))).trans h0
    obtain ⟨w3, hcp, h3, hb3, hz3⟩ := copy64 w2 x cp C hC.1 hsrc2 #[Value.int .u8 0, Value.int .u8 0, Value.int .u8 0, Value.int .u8 0, Value.int .u8 0, Value.int .u8 0, Value.int .u8 0, Value.int .u8 0, Value.int .u8 0, Value.int .u8 0, Value.int .u8 0, Value.int .u8 0, Value.int .u8 0, Value.int .u8 0, Value.int .u8 0, Value.int .u8 0, Value.int .u8 0, Value.int .u8 0, Value.int .u8 0, Value.int .u8 0, Value.int .u8 0, Value.int .u8 0, Value.int .u8 0, Value.int .u8 0, Value.int .u8 0, Value.int .u8 0, Value.int .u8 0, Value.int .u8 0, Value.int .u8 0, Value.int .u8 0, Value.int .u8 0, Value.int .u8 0, Value.int .u8 0, Value.int .u8 0, Value.int .u8 0, Value.int .u8 0, Value.int .u8 0, Value.int .u8 0, Value.int .u8 0, Value.int .u8 0, Value.int .u8 0, Value.int .u8 0, Value.int .u8 0, Value.int .u8 0, Value.int .u8 0, Value.int .u8 0, Value.int .u8 0, Value.int .u8 0, Value.int .u8 0, Value.int .u8 0, Value.int .u8 0, Value.int .u8 0, Value.int .u8 0, Value.int .u8 0, Value.int .u8 0, Value.int .u8 0, Value.int .u8 0, Value.int .u8 0, Value.int .u8 0, Value.int .u8 0, Value.int .u8 0, Value.int .u8 0, Value.int .u8 0, Value.int .u8 0] rfl 3
    have hp := hs
    obtain ⟨q0, q1, q2, q3, q4⟩ := d5_of (t := 43) ((hb3.block b (hp.apart3).2.2.2.1).trans hp.cell)
    have HP : Hid (DkP w2 h b N D W true (done + 1) (lessF fuse) gd' cd' mb' Hw) := hp
    have B3 : Hid (Below w2.heap.size w2 w3) := hb3
    have SC3 : Hid (Sc w3 mb' N Hw) := hp.mp.keep hb3
    have OW3 : Hid (OwnB w3 h (hv ((Hw i).getD noH)) (W i)) := (hp.writes i).1.keep hb3
    have HSZ : Hid ((C.map (Value.int .u8)).toArray.size = 64) := by show _ = _; simp [hC.1]
    have HC : Hid (C.length = 64 ∧ IsBytes C) := hC
    have HG : Hid (w1.grownBy w2 (some b)) := hg
    have H3 : Hid (w3.heap[w2.heap.size]? = some (.cells (C.map (Value.int .u8)).toArray 79)) := h3
    have Z3 : Hid (w3.heap.size = w2.heap.size + 1) := hz3
    clear hsrc hsrc2 hp hb3 hC hg hs h3 hz3
    go_wp2_with fail
    refine wp_region_noPanic ?_
    refine wp_region_held_drew (S := (fun Wd : World => Wd.cell? ⟨b, 1, none⟩ = some (.map (some mb')) ∧ Wd.heap[w2.heap.size]? = some (.cells (C.map (Value.int .u8)).toArray 79))) (by kernel_rfl) ?hSa (fun hHeld => ?resta)
    case hSa => exact ⟨q1, H3.out⟩
    case resta =>
      refine wpAnyH_take (i := 0) (v := .pointer (some ⟨b, 0, none⟩)) rfl (by kernel_rfl) (by kernel_rfl) (by kernel_rfl) (fun _ _ _ h => h) (Or.inl ⟨by rfl, ?hy0⟩) hHeld ?rest0
      case hy0 => (intro w hSw; (try dsimp only at hSw); go_simp; try with_reducible rfl)
      try simp only [Act.put, List.setIfInBounds_toArray, List.set_cons_zero, List.set_cons_succ, List.getElem_toArray, List.getElem_cons_zero]
      refine wpAnyH_take (i := 1) (v := .pointer (some ⟨b, 0, none⟩)) rfl (by kernel_rfl) (by kernel_rfl) (by kernel_rfl) (fun _ _ _ h => h) (Or.inl ⟨by rfl, ?hy1⟩) hHeld ?rest1
      case hy1 => (intro w hSw; (try dsimp only at hSw); go_simp; try with_reducible rfl)
      try simp only [Act.put, List.setIfInBounds_toArray, List.set_cons_zero, List.set_cons_succ, List.getElem_toArray, List.getElem_cons_zero, List.getElem_cons_succ]
      refine wpAnyH_take (i := 2) (v := .pointer (some ⟨b, 1, none⟩)) rfl (by kernel_rfl) (by kernel_rfl) (by kernel_rfl) (fun _ _ _ h => h) (Or.inl ⟨by rfl, ?hy2⟩) hHeld ?rest2
      case hy2 => (intro w hSw; (try dsimp only at hSw); go_simp; try with_reducible rfl)
      try simp only [Act.put, List.setIfInBounds_toArray, List.set_cons_zero, List.set_cons_succ, List.getElem_toArray, List.getElem_cons_zero, List.getElem_cons_succ]
      refine wpAnyH_take (i := 3) (v := .map (some mb')) rfl (by kernel_rfl) (by kernel_rfl) (by kernel_rfl) (fun _ _ _ h => h) (Or.inl ⟨by rfl, ?hy3⟩) hHeld ?rest3
      case hy3 => (intro w hSw; have hS1 := hSw.1; clear hSw; go_simp; try with_reducible rfl)
      try simp only [Act.put, List.setIfInBounds_toArray, List.set_cons_zero, List.set_cons_succ, List.getElem_toArray, List.getElem_cons_zero, List.getElem_cons_succ]
      refine wpAnyH_take (i := 4) (v := .int .i64 i) rfl (by kernel_rfl) (by kernel_rfl) (by kernel_rfl) (fun _ _ _ h => h) (Or.inl ⟨by rfl, ?hy4⟩) hHeld ?rest4
      case hy4 => (intro w hSw; (try dsimp only at hSw); go_simp; try with_reducible rfl)
      try simp only [Act.put, List.setIfInBounds_toArray, List.set_cons_zero, List.set_cons_succ, List.getElem_toArray, List.getElem_cons_zero, List.getElem_cons_succ]
      refine wpAnyH_take (i := 5) (v := .pointer (some ⟨b, 0, none⟩)) rfl (by kernel_rfl) (by kernel_rfl) (by kernel_rfl) (fun _ _ _ h => h) (Or.inl ⟨by rfl, ?hy5⟩) hHeld ?rest5
      case hy5 => (intro w hSw; (try dsimp only at hSw); go_simp; try with_reducible rfl)
      try simp only [Act.put, List.setIfInBounds_toArray, List.set_cons_zero, List.set_cons_succ, List.getElem_toArray, List.getElem_cons_zero, List.getElem_cons_succ]
      refine wpAnyH_take (i := 6) (v := .pointer (some ⟨b, 0, none⟩)) rfl (by kernel_rfl) (by kernel_rfl) (by kernel_rfl) (fun _ _ _ h => h) (Or.inl ⟨by rfl, ?hy6⟩) hHeld ?rest6
      case hy6 => (intro w hSw; (try dsimp only at hSw); go_simp; try with_reducible rfl)
      try simp only [Act.put, List.setIfInBounds_toArray, List.set_cons_zero, List.set_cons_succ, List.getElem_toArray, List.getElem_cons_zero, List.getElem_cons_succ]
      refine wpAnyH_take (i := 7) (v := .pointer (some ⟨b, 1, none⟩)) rfl (by kernel_rfl) (by kernel_rfl) (by kernel_rfl) (fun _ _ _ h => h) (Or.inl ⟨by rfl, ?hy7⟩) hHeld ?rest7
      case hy7 => (intro w hSw; (try dsimp only at hSw); go_simp; try with_reducible rfl)
      try simp only [Act.put, List.setIfInBounds_toArray, List.set_cons_zero, List.set_cons_succ, List.getElem_toArray, List.getElem_cons_zero, List.getElem_cons_succ]
      refine wpAnyH_take (i := 8) (v := .map (some mb')) rfl (by kernel_rfl) (by kernel_rfl) (by kernel_rfl) (fun _ _ _ h => h) (Or.inl ⟨by rfl, ?hy8⟩) hHeld ?rest8
      case hy8 => (intro w hSw; have hS1 := hSw.1; clear hSw; go_simp; try with_reducible rfl)
      try simp only [Act.put, List.setIfInBounds_toArray, List.set_cons_zero, List.set_cons_succ, List.getElem_toArray, List.getElem_cons_zero, List.getElem_cons_succ]
      refine wpAnyH_take (i := 9) (v := .int .i64 i) rfl (by kernel_rfl) (by kernel_rfl) (by kernel_rfl) (fun _ _ _ h => h) (Or.inl ⟨by rfl, ?hy9⟩) hHeld ?rest9
      case hy9 => (intro w hSw; (try dsimp only at hSw); go_simp; try with_reducible rfl)
      try simp only [Act.put, List.setIfInBounds_toArray, List.set_cons_zero, List.set_cons_succ, List.getElem_toArray, List.getElem_cons_zero, List.getElem_cons_succ]
      refine wpAnyH_take (i := 11) (v := .agg (C.map (Value.int .u8)).toArray) rfl (by kernel_rfl) (by kernel_rfl) (by kernel_rfl) (fun _ _ _ h => h) (Or.inl ⟨by rfl, ?hy11⟩) hHeld ?rest11
      case hy11 => (intro w hSw; exact load_block _ _ _ _ (.tmp 9) rfl w2.heap.size rfl _ _ _ _ _ hSw.2 Try.underlying79 (by rw [HSZ.out]; kernel_rfl))
      try simp only [Act.put, List.setIfInBounds_toArray, List.set_cons_zero, List.set_cons_succ, List.getElem_toArray, List.getElem_cons_zero, List.getElem_cons_succ]
      have B4 : Hid (Below w3.heap.size w3 (w3.alloc (.cells (C.map (Value.int .u8)).toArray 79)).drew) := ((Below.refl w3.heap.size w3).alloc (Nat.le_refl _) _).drew
      have H4 : Hid (((w3.alloc (.cells (C.map (Value.int .u8)).toArray 79)).drew).heap[w3.heap.size]? = some (.cells (C.map (Value.int .u8)).toArray 79)) := heap_alloc_new w3 _
      have SS4 : Hid (((w3.alloc (.cells (C.map (Value.int .u8)).toArray 79)).drew).cell? ⟨b, 1, none⟩ = some (.map (some mb')) ∧ ((w3.alloc (.cells (C.map (Value.int .u8)).toArray 79)).drew).heap[w2.heap.size]? = some (.cells (C.map (Value.int .u8)).toArray 79)) := ⟨(B4.out.cell (p := ⟨b, 1, none⟩) (World.block_lt_of_cell? _ _ q1)).trans q1, (B4.out.block _ (by have := Z3.out; omega)).trans H3.out⟩
      have SC4 : Hid (Sc (w3.alloc (.cells (C.map (Value.int .u8)).toArray 79)).drew mb' N Hw) := SC3.out.keep B4.out
      have OW4 : Hid (OwnB (w3.alloc (.cells (C.map (Value.int .u8)).toArray 79)).drew h (hv ((Hw i).getD noH)) (W i)) := OW3.out.keep B4.out
      have LK3 : Hid ((Instr.lookup 41 (.map (some mb')) (.int .i64 i) false).run Try.prog w3.drew = .ok (hv ((Hw i).getD noH)) w3.drew) := Sc.look (w := w3.drew) SC3.out i HI.out
      have LK4 : Hid ((Instr.lookup 41 (.map (some mb')) (.int .i64 i) false).run Try.prog (w3.alloc (.cells (C.map (Value.int .u8)).toArray 79)).drew = .ok (hv ((Hw i).getD noH)) (w3.alloc (.cells (C.map (Value.int .u8)).toArray 79)).drew) := Sc.look (w := (w3.alloc (.cells (C.map (Value.int .u8)).toArray 79)).drew) SC4.out i HI.out
      have BB4 : Hid (Below w2.heap.size w2 (w3.alloc (.cells (C.map (Value.int .u8)).toArray 79)).drew) := B3.out.trans (B4.out.mono (by have := Z3.out; omega))
      have HH4 : Hid (h ≤ ((w3.alloc (.cells (C.map (Value.int .u8)).toArray 79)).drew).heap.size) := by have := HH.out; have h1 := HG.out.size; have h2 := BB4.out.size; show _ ≤ _; omega
      generalize hvv : hv ((Hw i).getD noH) = vv at *
      refine wpAnyH_ready (rs := [10, 12]) (by kernel_rfl) (by simp) ?_
      refine AllReadyH.cons rfl (fun K hK => ?_) (AllReadyH.cons rfl (fun K hK => ?_) AllReadyH.nil)
      · have lk := LK3.out
        go_simp
        clear lk
        refine hK.out _ _ ?hS10a (fun hHeld => ?rest10a)
        case hS10a => exact ⟨q1, H3.out⟩
        clear hK K
        try simp only [Act.put, List.setIfInBounds_toArray, List.set_cons_zero, List.set_cons_succ, List.getElem_toArray, List.getElem_cons_zero, List.getElem_cons_succ]
        refine wpAnyH_ready (rs := [12]) (by kernel_rfl) (by simp) ?_
        refine AllReadyH.cons rfl (fun K hK => ?_) AllReadyH.nil
        obtain ⟨ie, hie, hze, hs1, hb1⟩ := infoB
        refine wp_buildSlice 40 79 1 _ rfl (C.map (Value.int .u8)).toArray ie _ Try.underlying40 hie hze (by rw [hs1]; decide) (by rw [hs1]; decide) ?hf12a ?hk12a
        case hf12a => (rw [hs1]; refine Eq.trans (congrArg (Instr.fill _ _) (show _ = [(0, Value.agg (C.map (Value.int .u8)).toArray)] by simp only [List.map_toArray, List.map_cons, List.map_nil]; rfl)) (fill_block _ _ HSZ.out ?_); rw [Array.size_map, Array.size_range])
        case hk12a =>
        clear hie hze hs1 hb1
        refine hK.out _ _ ?hS12a (fun hHeld => ?rest12a)
        case hS12a => exact SS4.out
        clear hK K
        try simp only [Act.put, List.setIfInBounds_toArray, List.set_cons_zero, List.set_cons_succ, List.getElem_toArray, List.getElem_cons_zero, List.getElem_cons_succ]
        refine wpAnyH_ready (rs := [13]) (by kernel_rfl) (by simp) ?_
        refine AllReadyH.cons rfl (fun K hK => ?_) AllReadyH.nil
        refine wp_block (.tmp 37) (.tmp 39) rfl h vv (W i) rfl OW4.out w3.heap.size 1 C HC.out.1 rfl H4.out HW.out HH4.out ?_
        intro g' c' w5 o5 hg5 hat
        have O5 : Hid (OwnB w5 h (.slice (some ⟨g', 0, none⟩) ((W i).length + 1) c') (W i ++ [C])) := o5
        have G5 : Hid ((w3.alloc (.cells (C.map (Value.int .u8)).toArray 79)).drew.grownBy w5 vv.ownBlock) := hg5
        have AT : Hid (vv.ownBlock = some g' ∨ g' = (w3.alloc (.cells (C.map (Value.int .u8)).toArray 79)).drew.heap.size) := hat
        clear o5 hg5 hat
        have OFF : Hid (∀ k, vv.ownBlock = some k → k < w2.heap.size ∧ k ≠ b ∧ k ≠ mb') := fun k hk => by
          have := HP.out.off i k (by rw [hvv]; exact hk)
          exact ⟨this.1, this.2.1, this.2.2.1⟩
        have SS5 : Hid (w5.cell? ⟨b, 1, none⟩ = some (.map (some mb')) ∧ w5.heap[w2.heap.size]? = some (.cells (C.map (Value.int .u8)).toArray 79)) := by
          have hz := BB4.out.size
          have h4 := (Array.getElem?_eq_some_iff.1 SS4.out.2).1
          have hbz := World.block_lt_of_cell? _ _ SS4.out.1
          exact ⟨(World.cell?_of_block (a := ⟨b, 1, none⟩) (G5.out.block b hbz (fun e => (OFF.out b e.symm).2.1 rfl))).trans SS4.out.1, (G5.out.block _ h4 (fun e => Nat.lt_irrefl _ (OFF.out _ e.symm).1)).trans SS4.out.2⟩
        have SC5 : Hid (Sc w5 mb' N Hw) := SC4.out.kept G5.out (fun e => (OFF.out mb' e.symm).2.2 rfl)
        refine hK.out _ _ ?hS13a (fun hHeld => ?rest13a)
        case hS13a => exact SS5.out
        clear hK K
        try simp only [Act.put, List.setIfInBounds_toArray, List.set_cons_zero, List.set_cons_succ, List.getElem_toArray, List.getElem_cons_zero, List.getElem_cons_succ]
        refine wpAnyH_ready (rs := [14]) (by kernel_rfl) (by simp) ?_
        refine AllReadyH.cons rfl (fun K hK => ?_) AllReadyH.nil
        refine wp_put_sc (.tmp 30) (.tmp 31) (.tmp 40) rfl mb' N Hw rfl SC5.out HNN.out i HI.out (g' + 1, (W i).length + 1, c') rfl rfl ?_
        intro w6 s6 hg6
        have A3 : Hid (b ≠ mb' ∧ mb' < w2.heap.size) := ⟨HP.out.apart3.1, HP.out.apart3.2.2.2.2⟩
        have SS6 : Hid (w6.cell? ⟨b, 1, none⟩ = some (.map (some mb')) ∧ w6.heap[w2.heap.size]? = some (.cells (C.map (Value.int .u8)).toArray 79)) := by
          have h4 := (Array.getElem?_eq_some_iff.1 SS5.out.2).1
          have hbz := World.block_lt_of_cell? _ _ SS5.out.1
          have a1 := A3.out.1
          have a2 := A3.out.2
          exact ⟨(World.cell?_of_block (a := ⟨b, 1, none⟩) (hg6.block b hbz (by simpa using a1))).trans SS5.out.1, (hg6.block _ h4 (by simp; omega)).trans SS5.out.2⟩
        have E6 : Hid (DkP w6 h b (N + 1) D (fun j => if j = i then W j ++ [C] else W j) true (done + 1) (lessF fuse) gd' cd' mb' (fun q => if q = i then some (g' + 1, (W i).length + 1, c') else Hw q)) := by
          have g5 := G5.out
          have a5 := AT.out
          rw [← hvv] at g5 a5
          exact HP.out.wrote BB4.out i HI.out C HC.out g' c' O5.out g5 a5 s6 hg6
        have F6 : Hid (Off (Fp b gd' mb' Hw) w1 w6 ∧ ∀ k, Fp b gd' mb' (fun q => if q = i then some (g' + 1, (W i).length + 1, c') else Hw q) k → Fp b gd' mb' Hw k ∨ w1.heap.size ≤ k) := by
          have a5 := AT.out
          rw [← hvv] at a5
          have z1 := HG.out.size
          have c1 : Off (Fp b gd' mb' Hw) w1 (w3.alloc (.cells (C.map (Value.int .u8)).toArray 79)).drew := ((Off.refl _ w1).grown HG.out (fun k e => .inl (.inl (Option.some.inj e).symm))).andBelow BB4.out
          have c3 : Off (Fp b gd' mb' Hw) w1 w5 := c1.grown G5.out (fun k e => .inl (HP.out.own_fp i k (by rw [hvv]; exact e)))
          refine ⟨c3.grown hg6 (fun k e => .inl (.inr (.inr (.inl (Option.some.inj e).symm)))), fun k hk => ?_⟩
          rcases fp_wrote HP.out i g' c' _ a5 BB4.out.size k hk with h1 | h1
          · exact .inl h1
          · exact .inr (Nat.le_trans z1 h1)
        clear s6 hg6
        refine hK.out _ _ ?hS14a (fun hHeld => ?rest14a)
        case hS14a => exact SS6.out
        clear hK K
        try simp only [Act.put, List.setIfInBounds_toArray, List.set_cons_zero, List.set_cons_succ, List.getElem_toArray, List.getElem_cons_zero, List.getElem_cons_succ]
        refine wpAnyH_done (by kernel_rfl) ?_ _
        refine NoPanic.normal ?_
        go_wp2_with fail
        go_ret
        exact ⟨rfl, F6.out.1, _, E6.out, F6.out.2⟩
      · obtain ⟨ie, hie, hze, hs1, hb1⟩ := infoB
        refine wp_buildSlice 40 79 1 _ rfl (C.map (Value.int .u8)).toArray ie _ Try.underlying40 hie hze (by rw [hs1]; decide) (by rw [hs1]; decide) ?hf12b ?hk12b
        case hf12b => (rw [hs1]; refine Eq.trans (congrArg (Instr.fill _ _) (show _ = [(0, Value.agg (C.map (Value.int .u8)).toArray)] by simp only [List.map_toArray, List.map_cons, List.map_nil]; rfl)) (fill_block _ _ HSZ.out ?_); rw [Array.size_map, Array.size_range])
        case hk12b =>
        clear hie hze hs1 hb1
        refine hK.out _ _ ?hS12b (fun hHeld => ?rest12b)
        case hS12b => exact SS4.out
        clear hK K
        try simp only [Act.put, List.setIfInBounds_toArray, List.set_cons_zero, List.set_cons_succ, List.getElem_toArray, List.getElem_cons_zero, List.getElem_cons_succ]
        refine wpAnyH_ready (rs := [10]) (by kernel_rfl) (by simp) ?_
        refine AllReadyH.cons rfl (fun K hK => ?_) AllReadyH.nil
        have lk := LK4.out
        go_simp
        clear lk
        refine hK.out _ _ ?hS10b (fun hHeld => ?rest10b)
        case hS10b => exact SS4.out
        clear hK K
        try simp only [Act.put, List.setIfInBounds_toArray, List.set_cons_zero, List.set_cons_succ, List.getElem_toArray, List.getElem_cons_zero, List.getElem_cons_succ]
        refine wpAnyH_ready (rs := [13]) (by kernel_rfl) (by simp) ?_
        refine AllReadyH.cons rfl (fun K hK => ?_) AllReadyH.nil
        refine wp_block (.tmp 37) (.tmp 39) rfl h vv (W i) rfl OW4.out w3.heap.size 1 C HC.out.1 rfl H4.out HW.out HH4.out ?_
        intro g' c' w5 o5 hg5 hat
        have O5 : Hid (OwnB w5 h (.slice (some ⟨g', 0, none⟩) ((W i).length + 1) c') (W i ++ [C])) := o5
        have G5 : Hid ((w3.alloc (.cells (C.map (Value.int .u8)).toArray 79)).drew.grownBy w5 vv.ownBlock) := hg5
        have AT : Hid (vv.ownBlock = some g' ∨ g' = (w3.alloc (.cells (C.map (Value.int .u8)).toArray 79)).drew.heap.size) := hat
        clear o5 hg5 hat
        have OFF : Hid (∀ k, vv.ownBlock = some k → k < w2.heap.size ∧ k ≠ b ∧ k ≠ mb') := fun k hk => by
          have := HP.out.off i k (by rw [hvv]; exact hk)
          exact ⟨this.1, this.2.1, this.2.2.1⟩
        have SS5 : Hid (w5.cell? ⟨b, 1, none⟩ = some (.map (some mb')) ∧ w5.heap[w2.heap.size]? = some (.cells (C.map (Value.int .u8)).toArray 79)) := by
          have hz := BB4.out.size
          have h4 := (Array.getElem?_eq_some_iff.1 SS4.out.2).1
          have hbz := World.block_lt_of_cell? _ _ SS4.out.1
          exact ⟨(World.cell?_of_block (a := ⟨b, 1, none⟩) (G5.out.block b hbz (fun e => (OFF.out b e.symm).2.1 rfl))).trans SS4.out.1, (G5.out.block _ h4 (fun e => Nat.lt_irrefl _ (OFF.out _ e.symm).1)).trans SS4.out.2⟩
        have SC5 : Hid (Sc w5 mb' N Hw) := SC4.out.kept G5.out (fun e => (OFF.out mb' e.symm).2.2 rfl)
        refine hK.out _ _ ?hS13b (fun hHeld => ?rest13b)
        case hS13b => exact SS5.out
        clear hK K
        try simp only [Act.put, List.setIfInBounds_toArray, List.set_cons_zero, List.set_cons_succ, List.getElem_toArray, List.getElem_cons_zero, List.getElem_cons_succ]
        refine wpAnyH_ready (rs := [14]) (by kernel_rfl) (by simp) ?_
        refine AllReadyH.cons rfl (fun K hK => ?_) AllReadyH.nil
        refine wp_put_sc (.tmp 30) (.tmp 31) (.tmp 40) rfl mb' N Hw rfl SC5.out HNN.out i HI.out (g' + 1, (W i).length + 1, c') rfl rfl ?_
        intro w6 s6 hg6
        have A3 : Hid (b ≠ mb' ∧ mb' < w2.heap.size) := ⟨HP.out.apart3.1, HP.out.apart3.2.2.2.2⟩
        have SS6 : Hid (w6.cell? ⟨b, 1, none⟩ = some (.map (some mb')) ∧ w6.heap[w2.heap.size]? = some (.cells (C.map (Value.int .u8)).toArray 79)) := by
          have h4 := (Array.getElem?_eq_some_iff.1 SS5.out.2).1
          have hbz := World.block_lt_of_cell? _ _ SS5.out.1
          have a1 := A3.out.1
          have a2 := A3.out.2
          exact ⟨(World.cell?_of_block (a := ⟨b, 1, none⟩) (hg6.block b hbz (by simpa using a1))).trans SS5.out.1, (hg6.block _ h4 (by simp; omega)).trans SS5.out.2⟩
        have E6 : Hid (DkP w6 h b (N + 1) D (fun j => if j = i then W j ++ [C] else W j) true (done + 1) (lessF fuse) gd' cd' mb' (fun q => if q = i then some (g' + 1, (W i).length + 1, c') else Hw q)) := by
          have g5 := G5.out
          have a5 := AT.out
          rw [← hvv] at g5 a5
          exact HP.out.wrote BB4.out i HI.out C HC.out g' c' O5.out g5 a5 s6 hg6
        have F6 : Hid (Off (Fp b gd' mb' Hw) w1 w6 ∧ ∀ k, Fp b gd' mb' (fun q => if q = i then some (g' + 1, (W i).length + 1, c') else Hw q) k → Fp b gd' mb' Hw k ∨ w1.heap.size ≤ k) := by
          have a5 := AT.out
          rw [← hvv] at a5
          have z1 := HG.out.size
          have c1 : Off (Fp b gd' mb' Hw) w1 (w3.alloc (.cells (C.map (Value.int .u8)).toArray 79)).drew := ((Off.refl _ w1).grown HG.out (fun k e => .inl (.inl (Option.some.inj e).symm))).andBelow BB4.out
          have c3 : Off (Fp b gd' mb' Hw) w1 w5 := c1.grown G5.out (fun k e => .inl (HP.out.own_fp i k (by rw [hvv]; exact e)))
          refine ⟨c3.grown hg6 (fun k e => .inl (.inr (.inr (.inl (Option.some.inj e).symm)))), fun k hk => ?_⟩
          rcases fp_wrote HP.out i g' c' _ a5 BB4.out.size k hk with h1 | h1
          · exact .inl h1
          · exact .inr (Nat.le_trans z1 h1)
        clear s6 hg6
        refine hK.out _ _ ?hS14b (fun hHeld => ?rest14b)
        case hS14b => exact SS6.out
        clear hK K
        try simp only [Act.put, List.setIfInBounds_toArray, List.set_cons_zero, List.set_cons_succ, List.getElem_toArray, List.getElem_cons_zero, List.getElem_cons_succ]
        refine wpAnyH_done (by kernel_rfl) ?_ _
        refine NoPanic.normal ?_
        go_wp2_with fail
        go_ret
        exact ⟨rfl, F6.out.1, _, E6.out, F6.out.2⟩
end Go.Proofs.Ytchnbfdfcjahpaa
