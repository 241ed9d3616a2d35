/- Disks that a call made: Write where it goes through. Written by gen_dkwrite.py. A disk in memory against the plain one: each call. What a log does to its disk, plainly; zeros behind bytes. -/
import Derived.Test.YtcindeechmpalaaGreatMgKl6
import Derived.Deep.RegionHeld3
import Derived.Test.YtcindeechmpalaaGreatMgKl8
import Derived.Test.YtcindeechmpalaaGreatMgKl4
import Derived.Lib.AppendZerosOnto
import Derived.ArgAppend
namespace Go.Proofs.YtcindeechmpalaaGreat
open Go.ChangeShapes Go.WideShapes Go.ChangeAt Go.RowKit Go.Deep Go.Maps
set_option linter.unusedVariables false
set_option linter.unusedSimpArgs false in
set_option maxRecDepth 100000 in
set_option maxHeartbeats 4000000 in
theorem write_is (w : World) (h b N : Nat) (D : List (List Int)) (W : Int → List (List Int)) (done fuse : Int) (hf : fuse ≤ 9223372036854775807) (hf0 : fuse ≠ 0) (hd : 0 ≤ done ∧ done < 9223372036854775807) (gd' cd' mb' : Nat) (Hw : Int → Option Hd) (hn : 1 ≤ D.length ∧ D.length ≤ 4096) (H : DkP w h b N D W true done fuse gd' cd' mb' Hw) (hN : N < 4611686018427387904) (i : Int) (hi : 0 ≤ i ∧ i < D.length) (hW : (W i).length ≤ 1000000000) (x : Addr) (hxb : x.block ≠ b) (cp : Nat) (C : List Int) (hC : C.length = 64 ∧ IsBytes C) (hsrc : ∀ j v, (C.map (Value.int .u8))[j]? = some v → w.cell? (x.add j) = some v) (hh : h ≤ w.heap.size) :
    Calls Tryz.prog 128 #[.pointer (some ⟨b, 0, none⟩), .int .i64 i, .slice (some x) 64 cp] w fun e w' => e = .returned (.int .i64 0) ∧ Off (Fp b gd' mb' Hw) w w' ∧ ∃ T', DkP w' h b (N + 1) D (fun j => if j = i then W j ++ [C] else W j) true (done + 1) (lessF fuse) gd' cd' mb' T' ∧ ∀ k, Fp b gd' mb' T' k → Fp b gd' mb' Hw k ∨ w.heap.size ≤ k := by
  have hc := H.cell
  have hhb := H.hb
  have h5 := d5_of hc
  have K : Hid (Calls Tryz.prog 126 #[.pointer (some ⟨b, 0, none⟩), .int .i64 i] w fun e w' => e = .returned (.int .i64 0) ∧ w' = w) := (show rdyAt true D.length i = 0 by simp [rdyAt]; omega) ▸ readyAt_is w b gd' D.length cd' mb' true done fuse hn.1 h5 i
  have KB : Hid (Calls Tryz.prog 161 #[.pointer (some ⟨b, 0, none⟩)] w fun e w' => ∃ k, e = .returned (.int .i64 k) ∧ BurnSaid w w' h b N D W done fuse gd' cd' mb' Hw k) := burn_is w h b N D W done fuse gd' cd' mb' Hw hf hd H
  have HI : Hid (InI i) := ⟨by omega, by omega⟩
  have HW : Hid ((W i).length ≤ 1000000000) := hW
  have HNN : Hid (N < 4611686018427387904) := hN
  have HHB : Hid (h ≤ b) := hhb
  have HH : Hid (h ≤ w.heap.size) := hh
  clear hc h5 H hn hW hN hhb hh
  go_enter Tryz.func128, Tryz.ntmps128
  go_wp2_with fail
  refine K.out.mono ?_
  rintro e w1 ⟨rfl, rfl⟩
  go_wp2_with fail
  refine KB.out.mono ?_
  rintro e w2 ⟨k, rfl, hg, hs⟩
  rcases hs with ⟨x, _⟩ | ⟨_, rfl, hs⟩
  · exact absurd x hf0
  · clear K KB
    have hsrc2 : ∀ j v, (C.map (Value.int .u8))[j]? = some v → w2.cell? (x.add j) = some v := fun j v hv => by
      have h0 := hsrc j v hv
      have hxa : (x.add j).block = x.block := by unfold Addr.add; split <;> rfl
      have hlt : (x.add j).block < w1.heap.size := World.block_lt_of_cell? _ _ h0
      exact (World.cell?_of_block (a := x.add j) (hg.block (x.add j).block hlt (by rw [hxa]; simpa using hxb))).trans h0
    obtain ⟨w3, hcp, h3, hb3, hz3⟩ := copy64 w2 x cp C hC.1 hsrc2 #[Value.int .u8 0, Value.int .u8 0, Value.int .u8 0, Value.int .u8 0, Value.int .u8 0, Value.int .u8 0, Value.int .u8 0, Value.int .u8 0, Value.int .u8 0, Value.int .u8 0, Value.int .u8 0, Value.int .u8 0, Value.int .u8 0, Value.int .u8 0, Value.int .u8 0, Value.int .u8 0, Value.int .u8 0, Value.int .u8 0, Value.int .u8 0, Value.int .u8 0, Value.int .u8 0, Value.int .u8 0, Value.int .u8 0, Value.int .u8 0, Value.int .u8 0, Value.int .u8 0, Value.int .u8 0, Value.int .u8 0, Value.int .u8 0, Value.int .u8 0, Value.int .u8 0, Value.int .u8 0, Value.int .u8 0, Value.int .u8 0, Value.int .u8 0, Value.int .u8 0, Value.int .u8 0, Value.int .u8 0, Value.int .u8 0, Value.int .u8 0, Value.int .u8 0, Value.int .u8 0, Value.int .u8 0, Value.int .u8 0, Value.int .u8 0, Value.int .u8 0, Value.int .u8 0, Value.int .u8 0, Value.int .u8 0, Value.int .u8 0, Value.int .u8 0, Value.int .u8 0, Value.int .u8 0, Value.int .u8 0, Value.int .u8 0, Value.int .u8 0, Value.int .u8 0, Value.int .u8 0, Value.int .u8 0, Value.int .u8 0, Value.int .u8 0, Value.int .u8 0, Value.int .u8 0, Value.int .u8 0] rfl 3
    have hp := hs
    obtain ⟨q0, q1, q2, q3, q4⟩ := d5_of (t := 75) ((hb3.block b (hp.apart3).2.2.2.1).trans hp.cell)
    have HP : Hid (DkP w2 h b N D W true (done + 1) (lessF fuse) gd' cd' mb' Hw) := hp
    have B3 : Hid (Below w2.heap.size w2 w3) := hb3
    have SC3 : Hid (Sc w3 mb' N Hw) := hp.mp.keep hb3
    have OW3 : Hid (OwnB w3 h (hv ((Hw i).getD noH)) (W i)) := (hp.writes i).1.keep hb3
    have HSZ : Hid ((C.map (Value.int .u8)).toArray.size = 64) := by show _ = _; simp [hC.1]
    have HC : Hid (C.length = 64 ∧ IsBytes C) := hC
    have HG : Hid (w1.grownBy w2 (some b)) := hg
    have H3 : Hid (w3.heap[w2.heap.size]? = some (.cells (C.map (Value.int .u8)).toArray 144)) := h3
    have Z3 : Hid (w3.heap.size = w2.heap.size + 1) := hz3
    clear hsrc hsrc2 hp hb3 hC hg hs h3 hz3
    go_wp2_with fail
    refine wp_region_noPanic ?_
    refine wp_region_held_drew (S := (fun Wd : World => Wd.cell? ⟨b, 1, none⟩ = some (.map (some mb')) ∧ Wd.heap[w2.heap.size]? = some (.cells (C.map (Value.int .u8)).toArray 144))) (by kernel_rfl) ?hSa (fun hHeld => ?resta)
    case hSa => exact ⟨q1, H3.out⟩
    case resta =>
      refine wpAnyH_take (i := 0) (v := .pointer (some ⟨b, 0, none⟩)) rfl (by kernel_rfl) (by kernel_rfl) (by kernel_rfl) (fun _ _ _ h => h) (Or.inl ⟨by rfl, ?hy0⟩) hHeld ?rest0
      case hy0 => (intro w hSw; (try dsimp only at hSw); go_simp; try with_reducible rfl)
      try simp only [Act.put, List.setIfInBounds_toArray, List.set_cons_zero, List.set_cons_succ, List.getElem_toArray, List.getElem_cons_zero]
      refine wpAnyH_take (i := 1) (v := .pointer (some ⟨b, 0, none⟩)) rfl (by kernel_rfl) (by kernel_rfl) (by kernel_rfl) (fun _ _ _ h => h) (Or.inl ⟨by rfl, ?hy1⟩) hHeld ?rest1
      case hy1 => (intro w hSw; (try dsimp only at hSw); go_simp; try with_reducible rfl)
      try simp only [Act.put, List.setIfInBounds_toArray, List.set_cons_zero, List.set_cons_succ, List.getElem_toArray, List.getElem_cons_zero, List.getElem_cons_succ]
      refine wpAnyH_take (i := 2) (v := .pointer (some ⟨b, 1, none⟩)) rfl (by kernel_rfl) (by kernel_rfl) (by kernel_rfl) (fun _ _ _ h => h) (Or.inl ⟨by rfl, ?hy2⟩) hHeld ?rest2
      case hy2 => (intro w hSw; (try dsimp only at hSw); go_simp; try with_reducible rfl)
      try simp only [Act.put, List.setIfInBounds_toArray, List.set_cons_zero, List.set_cons_succ, List.getElem_toArray, List.getElem_cons_zero, List.getElem_cons_succ]
      refine wpAnyH_take (i := 3) (v := .map (some mb')) rfl (by kernel_rfl) (by kernel_rfl) (by kernel_rfl) (fun _ _ _ h => h) (Or.inl ⟨by rfl, ?hy3⟩) hHeld ?rest3
      case hy3 => (intro w hSw; have hS1 := hSw.1; clear hSw; go_simp; try with_reducible rfl)
      try simp only [Act.put, List.setIfInBounds_toArray, List.set_cons_zero, List.set_cons_succ, List.getElem_toArray, List.getElem_cons_zero, List.getElem_cons_succ]
      refine wpAnyH_take (i := 4) (v := .int .i64 i) rfl (by kernel_rfl) (by kernel_rfl) (by kernel_rfl) (fun _ _ _ h => h) (Or.inl ⟨by rfl, ?hy4⟩) hHeld ?rest4
      case hy4 => (intro w hSw; (try dsimp only at hSw); go_simp; try with_reducible rfl)
      try simp only [Act.put, List.setIfInBounds_toArray, List.set_cons_zero, List.set_cons_succ, List.getElem_toArray, List.getElem_cons_zero, List.getElem_cons_succ]
      refine wpAnyH_take (i := 5) (v := .pointer (some ⟨b, 0, none⟩)) rfl (by kernel_rfl) (by kernel_rfl) (by kernel_rfl) (fun _ _ _ h => h) (Or.inl ⟨by rfl, ?hy5⟩) hHeld ?rest5
      case hy5 => (intro w hSw; (try dsimp only at hSw); go_simp; try with_reducible rfl)
      try simp only [Act.put, List.setIfInBounds_toArray, List.set_cons_zero, List.set_cons_succ, List.getElem_toArray, List.getElem_cons_zero, List.getElem_cons_succ]
      refine wpAnyH_take (i := 6) (v := .pointer (some ⟨b, 0, none⟩)) rfl (by kernel_rfl) (by kernel_rfl) (by kernel_rfl) (fun _ _ _ h => h) (Or.inl ⟨by rfl, ?hy6⟩) hHeld ?rest6
      case hy6 => (intro w hSw; (try dsimp only at hSw); go_simp; try with_reducible rfl)
      try simp only [Act.put, List.setIfInBounds_toArray, List.set_cons_zero, List.set_cons_succ, List.getElem_toArray, List.getElem_cons_zero, List.getElem_cons_succ]
      refine wpAnyH_take (i := 7) (v := .pointer (some ⟨b, 1, none⟩)) rfl (by kernel_rfl) (by kernel_rfl) (by kernel_rfl) (fun _ _ _ h => h) (Or.inl ⟨by rfl, ?hy7⟩) hHeld ?rest7
      case hy7 => (intro w hSw; (try dsimp only at hSw); go_simp; try with_reducible rfl)
      try simp only [Act.put, List.setIfInBounds_toArray, List.set_cons_zero, List.set_cons_succ, List.getElem_toArray, List.getElem_cons_zero, List.getElem_cons_succ]
      refine wpAnyH_take (i := 8) (v := .map (some mb')) rfl (by kernel_rfl) (by kernel_rfl) (by kernel_rfl) (fun _ _ _ h => h) (Or.inl ⟨by rfl, ?hy8⟩) hHeld ?rest8
      case hy8 => (intro w hSw; have hS1 := hSw.1; clear hSw; go_simp; try with_reducible rfl)
      try simp only [Act.put, List.setIfInBounds_toArray, List.set_cons_zero, List.set_cons_succ, List.getElem_toArray, List.getElem_cons_zero, List.getElem_cons_succ]
      refine wpAnyH_take (i := 9) (v := .int .i64 i) rfl (by kernel_rfl) (by kernel_rfl) (by kernel_rfl) (fun _ _ _ h => h) (Or.inl ⟨by rfl, ?hy9⟩) hHeld ?rest9
      case hy9 => (intro w hSw; (try dsimp only at hSw); go_simp; try with_reducible rfl)
      try simp only [Act.put, List.setIfInBounds_toArray, List.set_cons_zero, List.set_cons_succ, List.getElem_toArray, List.getElem_cons_zero, List.getElem_cons_succ]
      refine wpAnyH_take (i := 11) (v := .agg (C.map (Value.int .u8)).toArray) rfl (by kernel_rfl) (by kernel_rfl) (by kernel_rfl) (fun _ _ _ h => h) (Or.inl ⟨by rfl, ?hy11⟩) hHeld ?rest11
      case hy11 => (intro w hSw; exact load_block _ _ _ _ (.tmp 9) rfl w2.heap.size rfl _ _ _ _ _ hSw.2 Tryz.underlying144 (by rw [HSZ.out]; kernel_rfl))
      try simp only [Act.put, List.setIfInBounds_toArray, List.set_cons_zero, List.set_cons_succ, List.getElem_toArray, List.getElem_cons_zero, List.getElem_cons_succ]
      have B4 : Hid (Below w3.heap.size w3 (w3.alloc (.cells (C.map (Value.int .u8)).toArray 144)).drew) := ((Below.refl w3.heap.size w3).alloc (Nat.le_refl _) _).drew
      have H4 : Hid (((w3.alloc (.cells (C.map (Value.int .u8)).toArray 144)).drew).heap[w3.heap.size]? = some (.cells (C.map (Value.int .u8)).toArray 144)) := heap_alloc_new w3 _
      have SS4 : Hid (((w3.alloc (.cells (C.map (Value.int .u8)).toArray 144)).drew).cell? ⟨b, 1, none⟩ = some (.map (some mb')) ∧ ((w3.alloc (.cells (C.map (Value.int .u8)).toArray 144)).drew).heap[w2.heap.size]? = some (.cells (C.map (Value.int .u8)).toArray 144)) := ⟨(B4.out.cell (p := ⟨b, 1, none⟩) (World.block_lt_of_cell? _ _ q1)).trans q1, (B4.out.block _ (by have := Z3.out; omega)).trans H3.out⟩
      have SC4 : Hid (Sc (w3.alloc (.cells (C.map (Value.int .u8)).toArray 144)).drew mb' N Hw) := SC3.out.keep B4.out
      have OW4 : Hid (OwnB (w3.alloc (.cells (C.map (Value.int .u8)).toArray 144)).drew h (hv ((Hw i).getD noH)) (W i)) := OW3.out.keep B4.out
      have LK3 : Hid ((Instr.lookup 73 (.map (some mb')) (.int .i64 i) false).run Tryz.prog w3.drew = .ok (hv ((Hw i).getD noH)) w3.drew) := Sc.look (w := w3.drew) SC3.out i HI.out
      have LK4 : Hid ((Instr.lookup 73 (.map (some mb')) (.int .i64 i) false).run Tryz.prog (w3.alloc (.cells (C.map (Value.int .u8)).toArray 144)).drew = .ok (hv ((Hw i).getD noH)) (w3.alloc (.cells (C.map (Value.int .u8)).toArray 144)).drew) := Sc.look (w := (w3.alloc (.cells (C.map (Value.int .u8)).toArray 144)).drew) SC4.out i HI.out
      have BB4 : Hid (Below w2.heap.size w2 (w3.alloc (.cells (C.map (Value.int .u8)).toArray 144)).drew) := B3.out.trans (B4.out.mono (by have := Z3.out; omega))
      have HH4 : Hid (h ≤ ((w3.alloc (.cells (C.map (Value.int .u8)).toArray 144)).drew).heap.size) := by have := HH.out; have h1 := HG.out.size; have h2 := BB4.out.size; show _ ≤ _; omega
      generalize hvv : hv ((Hw i).getD noH) = vv at *
      refine wpAnyH_ready (rs := [10, 12]) (by kernel_rfl) (by simp) ?_
      refine AllReadyH.cons rfl (fun K hK => ?_) (AllReadyH.cons rfl (fun K hK => ?_) AllReadyH.nil)
      · have lk := LK3.out
        go_simp
        clear lk
        refine hK.out _ _ ?hS10a (fun hHeld => ?rest10a)
        case hS10a => exact ⟨q1, H3.out⟩
        clear hK K
        try simp only [Act.put, List.setIfInBounds_toArray, List.set_cons_zero, List.set_cons_succ, List.getElem_toArray, List.getElem_cons_zero, List.getElem_cons_succ]
        refine wpAnyH_ready (rs := [12]) (by kernel_rfl) (by simp) ?_
        refine AllReadyH.cons rfl (fun K hK => ?_) AllReadyH.nil
        obtain ⟨ie, hie, hze, hs1, hb1⟩ := infoB
        refine wp_buildSlice 72 144 1 _ rfl (C.map (Value.int .u8)).toArray ie _ Tryz.underlying72 hie hze (by rw [hs1]; decide) (by rw [hs1]; decide) ?hf12a ?hk12a
        case hf12a => (rw [hs1]; refine Eq.trans (congrArg (Instr.fill _ _) (show _ = [(0, Value.agg (C.map (Value.int .u8)).toArray)] by simp only [List.map_toArray, List.map_cons, List.map_nil]; rfl)) (fill_block _ _ HSZ.out ?_); rw [Array.size_map, Array.size_range])
        case hk12a =>
        clear hie hze hs1 hb1
        refine hK.out _ _ ?hS12a (fun hHeld => ?rest12a)
        case hS12a => exact SS4.out
        clear hK K
        try simp only [Act.put, List.setIfInBounds_toArray, List.set_cons_zero, List.set_cons_succ, List.getElem_toArray, List.getElem_cons_zero, List.getElem_cons_succ]
        refine wpAnyH_ready (rs := [13]) (by kernel_rfl) (by simp) ?_
        refine AllReadyH.cons rfl (fun K hK => ?_) AllReadyH.nil
        refine wp_block (.tmp 37) (.tmp 39) rfl h vv (W i) rfl OW4.out w3.heap.size 1 C HC.out.1 rfl H4.out HW.out HH4.out ?_
        intro g' c' w5 o5 hg5 hat
        have O5 : Hid (OwnB w5 h (.slice (some ⟨g', 0, none⟩) ((W i).length + 1) c') (W i ++ [C])) := o5
        have G5 : Hid ((w3.alloc (.cells (C.map (Value.int .u8)).toArray 144)).drew.grownBy w5 vv.ownBlock) := hg5
        have AT : Hid (vv.ownBlock = some g' ∨ g' = (w3.alloc (.cells (C.map (Value.int .u8)).toArray 144)).drew.heap.size) := hat
        clear o5 hg5 hat
        have OFF : Hid (∀ k, vv.ownBlock = some k → k < w2.heap.size ∧ k ≠ b ∧ k ≠ mb') := fun k hk => by
          have := HP.out.off i k (by rw [hvv]; exact hk)
          exact ⟨this.1, this.2.1, this.2.2.1⟩
        have SS5 : Hid (w5.cell? ⟨b, 1, none⟩ = some (.map (some mb')) ∧ w5.heap[w2.heap.size]? = some (.cells (C.map (Value.int .u8)).toArray 144)) := by
          have hz := BB4.out.size
          have h4 := (Array.getElem?_eq_some_iff.1 SS4.out.2).1
          have hbz := World.block_lt_of_cell? _ _ SS4.out.1
          exact ⟨(World.cell?_of_block (a := ⟨b, 1, none⟩) (G5.out.block b hbz (fun e => (OFF.out b e.symm).2.1 rfl))).trans SS4.out.1, (G5.out.block _ h4 (fun e => Nat.lt_irrefl _ (OFF.out _ e.symm).1)).trans SS4.out.2⟩
        have SC5 : Hid (Sc w5 mb' N Hw) := SC4.out.kept G5.out (fun e => (OFF.out mb' e.symm).2.2 rfl)
        refine hK.out _ _ ?hS13a (fun hHeld => ?rest13a)
        case hS13a => exact SS5.out
        clear hK K
        try simp only [Act.put, List.setIfInBounds_toArray, List.set_cons_zero, List.set_cons_succ, List.getElem_toArray, List.getElem_cons_zero, List.getElem_cons_succ]
        refine wpAnyH_ready (rs := [14]) (by kernel_rfl) (by simp) ?_
        refine AllReadyH.cons rfl (fun K hK => ?_) AllReadyH.nil
        refine wp_put_sc (.tmp 30) (.tmp 31) (.tmp 40) rfl mb' N Hw rfl SC5.out HNN.out i HI.out (g' + 1, (W i).length + 1, c') rfl rfl ?_
        intro w6 s6 hg6
        have A3 : Hid (b ≠ mb' ∧ mb' < w2.heap.size) := ⟨HP.out.apart3.1, HP.out.apart3.2.2.2.2⟩
        have SS6 : Hid (w6.cell? ⟨b, 1, none⟩ = some (.map (some mb')) ∧ w6.heap[w2.heap.size]? = some (.cells (C.map (Value.int .u8)).toArray 144)) := by
          have h4 := (Array.getElem?_eq_some_iff.1 SS5.out.2).1
          have hbz := World.block_lt_of_cell? _ _ SS5.out.1
          have a1 := A3.out.1
          have a2 := A3.out.2
          exact ⟨(World.cell?_of_block (a := ⟨b, 1, none⟩) (hg6.block b hbz (by simpa using a1))).trans SS5.out.1, (hg6.block _ h4 (by simp; omega)).trans SS5.out.2⟩
        have E6 : Hid (DkP w6 h b (N + 1) D (fun j => if j = i then W j ++ [C] else W j) true (done + 1) (lessF fuse) gd' cd' mb' (fun q => if q = i then some (g' + 1, (W i).length + 1, c') else Hw q)) := by
          have g5 := G5.out
          have a5 := AT.out
          rw [← hvv] at g5 a5
          exact HP.out.wrote BB4.out i HI.out C HC.out g' c' O5.out g5 a5 s6 hg6
        have F6 : Hid (Off (Fp b gd' mb' Hw) w1 w6 ∧ ∀ k, Fp b gd' mb' (fun q => if q = i then some (g' + 1, (W i).length + 1, c') else Hw q) k → Fp b gd' mb' Hw k ∨ w1.heap.size ≤ k) := by
          have a5 := AT.out
          rw [← hvv] at a5
          have z1 := HG.out.size
          have c1 : Off (Fp b gd' mb' Hw) w1 (w3.alloc (.cells (C.map (Value.int .u8)).toArray 144)).drew := ((Off.refl _ w1).grown HG.out (fun k e => .inl (.inl (Option.some.inj e).symm))).andBelow BB4.out
          have c3 : Off (Fp b gd' mb' Hw) w1 w5 := c1.grown G5.out (fun k e => .inl (HP.out.own_fp i k (by rw [hvv]; exact e)))
          refine ⟨c3.grown hg6 (fun k e => .inl (.inr (.inr (.inl (Option.some.inj e).symm)))), fun k hk => ?_⟩
          rcases fp_wrote HP.out i g' c' _ a5 BB4.out.size k hk with h1 | h1
          · exact .inl h1
          · exact .inr (Nat.le_trans z1 h1)
        clear s6 hg6
        refine hK.out _ _ ?hS14a (fun hHeld => ?rest14a)
        case hS14a => exact SS6.out
        clear hK K
        try simp only [Act.put, List.setIfInBounds_toArray, List.set_cons_zero, List.set_cons_succ, List.getElem_toArray, List.getElem_cons_zero, List.getElem_cons_succ]
        refine wpAnyH_done (by kernel_rfl) ?_ _
        refine NoPanic.normal ?_
        go_wp2_with fail
        go_ret
        exact ⟨rfl, F6.out.1, _, E6.out, F6.out.2⟩
      · obtain ⟨ie, hie, hze, hs1, hb1⟩ := infoB
        refine wp_buildSlice 72 144 1 _ rfl (C.map (Value.int .u8)).toArray ie _ Tryz.underlying72 hie hze (by rw [hs1]; decide) (by rw [hs1]; decide) ?hf12b ?hk12b
        case hf12b => (rw [hs1]; refine Eq.trans (congrArg (Instr.fill _ _) (show _ = [(0, Value.agg (C.map (Value.int .u8)).toArray)] by simp only [List.map_toArray, List.map_cons, List.map_nil]; rfl)) (fill_block _ _ HSZ.out ?_); rw [Array.size_map, Array.size_range])
        case hk12b =>
        clear hie hze hs1 hb1
        refine hK.out _ _ ?hS12b (fun hHeld => ?rest12b)
        case hS12b => exact SS4.out
        clear hK K
        try simp only [Act.put, List.setIfInBounds_toArray, List.set_cons_zero, List.set_cons_succ, List.getElem_toArray, List.getElem_cons_zero, List.getElem_cons_succ]
        refine wpAnyH_ready (rs := [10]) (by kernel_rfl) (by simp) ?_
        refine AllReadyH.cons rfl (fun K hK => ?_) AllReadyH.nil
        have lk := LK4.out
        go_simp
        clear lk
        refine hK.out _ _ ?hS10b (fun hHeld => ?rest10b)
        case hS10b => exact SS4.out
        clear hK K
        try simp only [Act.put, List.setIfInBounds_toArray, List.set_cons_zero, List.set_cons_succ, List.getElem_toArray, List.getElem_cons_zero, List.getElem_cons_succ]
        refine wpAnyH_ready (rs := [13]) (by kernel_rfl) (by simp) ?_
        refine AllReadyH.cons rfl (fun K hK => ?_) AllReadyH.nil
        refine wp_block (.tmp 37) (.tmp 39) rfl h vv (W i) rfl OW4.out w3.heap.size 1 C HC.out.1 rfl H4.out HW.out HH4.out ?_
        intro g' c' w5 o5 hg5 hat
        have O5 : Hid (OwnB w5 h (.slice (some ⟨g', 0, none⟩) ((W i).length + 1) c') (W i ++ [C])) := o5
        have G5 : Hid ((w3.alloc (.cells (C.map (Value.int .u8)).toArray 144)).drew.grownBy w5 vv.ownBlock) := hg5
        have AT : Hid (vv.ownBlock = some g' ∨ g' = (w3.alloc (.cells (C.map (Value.int .u8)).toArray 144)).drew.heap.size) := hat
        clear o5 hg5 hat
        have OFF : Hid (∀ k, vv.ownBlock = some k → k < w2.heap.size ∧ k ≠ b ∧ k ≠ mb') := fun k hk => by
          have := HP.out.off i k (by rw [hvv]; exact hk)
          exact ⟨this.1, this.2.1, this.2.2.1⟩
        have SS5 : Hid (w5.cell? ⟨b, 1, none⟩ = some (.map (some mb')) ∧ w5.heap[w2.heap.size]? = some (.cells (C.map (Value.int .u8)).toArray 144)) := by
          have hz := BB4.out.size
          have h4 := (Array.getElem?_eq_some_iff.1 SS4.out.2).1
          have hbz := World.block_lt_of_cell? _ _ SS4.out.1
          exact ⟨(World.cell?_of_block (a := ⟨b, 1, none⟩) (G5.out.block b hbz (fun e => (OFF.out b e.symm).2.1 rfl))).trans SS4.out.1, (G5.out.block _ h4 (fun e => Nat.lt_irrefl _ (OFF.out _ e.symm).1)).trans SS4.out.2⟩
        have SC5 : Hid (Sc w5 mb' N Hw) := SC4.out.kept G5.out (fun e => (OFF.out mb' e.symm).2.2 rfl)
        refine hK.out _ _ ?hS13b (fun hHeld => ?rest13b)
        case hS13b => exact SS5.out
        clear hK K
        try simp only [Act.put, List.setIfInBounds_toArray, List.set_cons_zero, List.set_cons_succ, List.getElem_toArray, List.getElem_cons_zero, List.getElem_cons_succ]
        refine wpAnyH_ready (rs := [14]) (by kernel_rfl) (by simp) ?_
        refine AllReadyH.cons rfl (fun K hK => ?_) AllReadyH.nil
        refine wp_put_sc (.tmp 30) (.tmp 31) (.tmp 40) rfl mb' N Hw rfl SC5.out HNN.out i HI.out (g' + 1, (W i).length + 1, c') rfl rfl ?_
        intro w6 s6 hg6
        have A3 : Hid (b ≠ mb' ∧ mb' < w2.heap.size) := ⟨HP.out.apart3.1, HP.out.apart3.2.2.2.2⟩
        have SS6 : Hid (w6.cell? ⟨b, 1, none⟩ = some (.map (some mb')) ∧ w6.heap[w2.heap.size]? = some (.cells (C.map (Value.int .u8)).toArray 144)) := by
          have h4 := (Array.getElem?_eq_some_iff.1 SS5.out.2).1
          have hbz := World.block_lt_of_cell? _ _ SS5.out.1
          have a1 := A3.out.1
          have a2 := A3.out.2
          exact ⟨(World.cell?_of_block (a := ⟨b, 1, none⟩) (hg6.block b hbz (by simpa using a1))).trans SS5.out.1, (hg6.block _ h4 (by simp; omega)).trans SS5.out.2⟩
        have E6 : Hid (DkP w6 h b (N + 1) D (fun j => if j = i then W j ++ [C] else W j) true (done + 1) (lessF fuse) gd' cd' mb' (fun q => if q = i then some (g' + 1, (W i).length + 1, c') else Hw q)) := by
          have g5 := G5.out
          have a5 := AT.out
          rw [← hvv] at g5 a5
          exact HP.out.wrote BB4.out i HI.out C HC.out g' c' O5.out g5 a5 s6 hg6
        have F6 : Hid (Off (Fp b gd' mb' Hw) w1 w6 ∧ ∀ k, Fp b gd' mb' (fun q => if q = i then some (g' + 1, (W i).length + 1, c') else Hw q) k → Fp b gd' mb' Hw k ∨ w1.heap.size ≤ k) := by
          have a5 := AT.out
          rw [← hvv] at a5
          have z1 := HG.out.size
          have c1 : Off (Fp b gd' mb' Hw) w1 (w3.alloc (.cells (C.map (Value.int .u8)).toArray 144)).drew := ((Off.refl _ w1).grown HG.out (fun k e => .inl (.inl (Option.some.inj e).symm))).andBelow BB4.out
          have c3 : Off (Fp b gd' mb' Hw) w1 w5 := c1.grown G5.out (fun k e => .inl (HP.out.own_fp i k (by rw [hvv]; exact e)))
          refine ⟨c3.grown hg6 (fun k e => .inl (.inr (.inr (.inl (Option.some.inj e).symm)))), fun k hk => ?_⟩
          rcases fp_wrote HP.out i g' c' _ a5 BB4.out.size k hk with h1 | h1
          · exact .inl h1
          · exact .inr (Nat.le_trans z1 h1)
        clear s6 hg6
        refine hK.out _ _ ?hS14b (fun hHeld => ?rest14b)
        case hS14b => exact SS6.out
        clear hK K
        try simp only [Act.put, List.setIfInBounds_toArray, List.set_cons_zero, List.set_cons_succ, List.getElem_toArray, List.getElem_cons_zero, List.getElem_cons_succ]
        refine wpAnyH_done (by kernel_rfl) ?_ _
        refine NoPanic.normal ?_
        go_wp2_with fail
        go_ret
        exact ⟨rfl, F6.out.1, _, E6.out, F6.out.2⟩
end Go.Proofs.YtcindeechmpalaaGreat
namespace Go.Proofs.YtcindeechmpalaaGreat
open Go.ChangeShapes Go.WideShapes Go.ChangeAt Go.RowKit Go.Deep Go.Maps
set_option linter.unusedVariables false
/-- the plain disk -/
structure Ds where
  D : List (List Int)
  W : Int → List (List Int)
  up : Bool
  dn : Int
  fu : Int
def Ds.new (n : Nat) : Ds := ⟨noughts n, fun _ => [], true, 0, -1⟩
def Ds.wr (s : Ds) (i : Int) (C : List Int) : Int × Ds :=
  if rdyAt s.up s.D.length i ≠ 0 then (rdyAt s.up s.D.length i, s)
  else if C.length ≠ 64 then (2, s)
  else if s.fu = 0 then (15, { s with up := false })
  else (0, ⟨s.D, fun j => if j = i then s.W j ++ [C] else s.W j, true, s.dn + 1, lessF s.fu⟩)
def Ds.fl (s : Ds) : Int × Ds :=
  if s.up = false then (15, s)
  else if s.fu = 0 then (15, { s with up := false })
  else (0, ⟨flD s.D s.W, fun _ => [], true, s.dn + 1, lessF s.fu⟩)
def Ds.fs (s : Ds) (k : Int) : Int × Ds := (fuA s.up k, { s with fu := if s.up = true ∧ 0 ≤ k then k else s.fu })
def Ds.cr (s : Ds) (keep : List Int) : Ds := ⟨crD keep s.D s.W, fun _ => [], true, s.dn, -1⟩
def Ds.rd (s : Ds) (i : Int) : List Int × Int :=
  if rdyAt s.up s.D.length i ≠ 0 then ([], rdyAt s.up s.D.length i) else (lastOf (s.W i) (s.D[i.toNat]?.getD []), 0)
/-- block b is the disk s; F are its blocks; N bounds how often it was written -/
def Dk (w : World) (F : Nat → Prop) (b N : Nat) (s : Ds) : Prop :=
  ∃ gd cd mb T, DkP w 0 b N s.D s.W s.up s.dn s.fu gd cd mb T ∧ (∀ k, F k ↔ Fp b gd mb T k) ∧ (1 ≤ s.D.length ∧ s.D.length ≤ 4096) ∧ (∀ i, (s.W i).length ≤ N) ∧ (∀ i, s.W i ≠ [] → 0 ≤ i ∧ i < s.D.length) ∧ (0 ≤ s.dn ∧ s.dn ≤ N) ∧ s.fu ≤ 9223372036854775807
theorem Dk.lt {w : World} {F : Nat → Prop} {b N : Nat} {s : Ds} (h : Dk w F b N s) : ∀ k, F k → k < w.heap.size := by
  obtain ⟨gd, cd, mb, T, hp, hF, _⟩ := h
  exact fun k hk => (hp.fp_lt k ((hF k).1 hk)).1
theorem Dk.b {w : World} {F : Nat → Prop} {b N : Nat} {s : Ds} (h : Dk w F b N s) : F b := by
  obtain ⟨gd, cd, mb, T, hp, hF, _⟩ := h
  exact (hF b).2 (.inl rfl)
theorem Dk.kept {w w' : World} {F : Nat → Prop} {b N : Nat} {s : Ds} (h : Dk w F b N s) (hs : w.heap.size ≤ w'.heap.size) (hb : ∀ k, F k → w'.heap[k]? = w.heap[k]?) (ho : w'.os = w.os) (ht : w'.tape = w.tape) (hp : w'.output = w.output) : Dk w' F b N s := by
  obtain ⟨gd, cd, mb, T, p, hF, rest⟩ := h
  exact ⟨gd, cd, mb, T, p.kept hs (fun k hk => hb k ((hF k).2 hk)) ho ht hp, hF, rest⟩
theorem Dk.keep {w w' : World} {F : Nat → Prop} {b N : Nat} {s : Ds} (h : Dk w F b N s) (hb : Below w.heap.size w w') : Dk w' F b N s := h.kept hb.size (fun k hk => hb.block k (h.lt k hk)) hb.os hb.tape hb.output
theorem Dk.apart {w w' : World} {F G : Nat → Prop} {b N : Nat} {s : Ds} (h : Dk w F b N s) (ho : Off G w w') (hd : ∀ k, F k → ¬ G k) : Dk w' F b N s := h.kept ho.size (fun k hk => ho.block k (h.lt k hk) (hd k hk)) ho.os ho.tape ho.output
theorem Dk.grown {w w' : World} {F : Nat → Prop} {b N : Nat} {s : Ds} {row : Option Nat} (h : Dk w F b N s) (hg : w.grownBy w' row) (hr : ∀ k, row = some k → ¬ F k) : Dk w' F b N s := h.kept hg.size (fun k hk => hg.block k (h.lt k hk) (fun e => hr k e.symm hk)) hg.os hg.tape hg.output
theorem Dk.more {w : World} {F : Nat → Prop} {b N N' : Nat} {s : Ds} (h : Dk w F b N s) (hN : N ≤ N') : Dk w F b N' s := by
  obtain ⟨gd, cd, mb, T, p, hF, h1, h2, h3, h4, h5⟩ := h
  exact ⟨gd, cd, mb, T, ⟨p.hb, p.hm, p.cell, p.dur, p.is64, p.mp.mono hN, p.nil, p.row, p.apart⟩, hF, h1, fun i => Nat.le_trans (h2 i) hN, h3, ⟨h4.1, by omega⟩, h5⟩
theorem Dk.is64 {w : World} {F : Nat → Prop} {b N : Nat} {s : Ds} (h : Dk w F b N s) : Is64 s.D ∧ (∀ i, Is64 (s.W i)) ∧ (1 ≤ s.D.length ∧ s.D.length ≤ 4096) := by
  obtain ⟨gd, cd, mb, T, p, hF, h1, _⟩ := h
  exact ⟨p.is64, fun i => (p.writes i).2, h1⟩
theorem Dk.wd {w : World} {F : Nat → Prop} {b N : Nat} {s : Ds} (h : Dk w F b N s) : ∀ i, s.W i ≠ [] → 0 ≤ i ∧ i < s.D.length := by
  obtain ⟨gd, cd, mb, T, p, hF, h1, h2, h3, h4, h5⟩ := h
  exact h3
theorem Dk.fu {w : World} {F : Nat → Prop} {b N : Nat} {s : Ds} (h : Dk w F b N s) : s.fu ≤ 9223372036854775807 := by
  obtain ⟨gd, cd, mb, T, p, hF, h1, h2, h3, h4, h5⟩ := h
  exact h5
theorem Step.refl (F : Nat → Prop) (w : World) : Step F F w w := ⟨Off.refl F w, fun _ hk => .inl hk⟩
theorem Step.of {F : Nat → Prop} {w w' : World} {b : Nat} (hg : w.grownBy w' (some b)) (hb : F b) : Step F F w w' := ⟨(Off.refl F w).grown hg (fun k e => .inl (Option.some.inj e ▸ hb)), fun _ hk => .inl hk⟩
theorem dk_new (n : Nat) (h1 : 1 ≤ n) (h2 : n ≤ 4096) (w : World) : Calls Tryz.prog 9 #[.int .i64 (n : Int)] w fun e w' => ∃ b F, e = .returned (.tuple #[.pointer (some ⟨b, 0, none⟩), .int .i64 0]) ∧ Dk w' F b 0 (Ds.new n) ∧ Below w.heap.size w w' ∧ ∀ k, F k → w.heap.size ≤ k := by
  refine (new_is n h1 h2 w).mono ?_
  rintro e w' ⟨b, rfl, hd, hb⟩
  obtain ⟨gd, cd, mb, T, p⟩ := DkP.of hd
  have p0 : DkP w' 0 b 0 (noughts n) (fun _ => []) true 0 (-1) gd cd mb T := ⟨Nat.zero_le _, Nat.zero_le _, p.cell, p.dur.base (Nat.zero_le _), p.is64, p.mp, p.nil, fun i x hx => by
    obtain ⟨a1, a2, a3, a4⟩ := p.row i x hx
    exact ⟨a1, a2, a3.base (Nat.zero_le _), a4⟩, p.apart⟩
  refine ⟨b, Fp b gd mb T, rfl, ⟨gd, cd, mb, T, p0, fun _ => Iff.rfl, by simp [Ds.new, noughts]; omega, fun i => Nat.le_refl _, fun i hi => absurd rfl hi, ⟨Int.le_refl _, Int.le_refl _⟩, by show (-1 : Int) ≤ _; omega⟩, hb, fun k hk => (p.fp_lt k hk).2⟩
theorem lessF_le {f : Int} (h : f ≤ 9223372036854775807) : lessF f ≤ 9223372036854775807 := by unfold lessF; split <;> omega
theorem dk_write (w : World) (F : Nat → Prop) (b N : Nat) (s : Ds) (H : Dk w F b N s) (hN : N < 1000000) (i : Int) (a : Option Addr) (l cp : Nat) (C : List Int) (hC : C.length = l) (hB : IsBytes C) (hh : Holds w a C) (hxb : ∀ x, a = some x → C ≠ [] → x.block ≠ b) :
    Calls Tryz.prog 128 #[.pointer (some ⟨b, 0, none⟩), .int .i64 i, .slice a l cp] w fun e w' => e = .returned (.int .i64 (s.wr i C).1) ∧ ∃ F', Dk w' F' b (N + 1) (s.wr i C).2 ∧ Step F F' w w' := by
  have H0 := H
  obtain ⟨gd, cd, mb, T, p, hF, h1, h2, h3, h4, h5⟩ := H
  unfold Ds.wr
  by_cases hr : rdyAt s.up s.D.length i = 0
  · rw [if_neg (by simpa using hr)]
    by_cases hl : l = 64
    · subst hl
      rw [if_neg (by simpa using hC)]
      have hup : s.up = true := by
        cases hu : s.up
        · rw [hu] at hr; simp [rdyAt] at hr
        · rfl
      have hi : 0 ≤ i ∧ i < s.D.length := by
        rw [hup] at hr
        simp only [rdyAt, if_true] at hr
        by_cases hc : 0 ≤ i ∧ i < s.D.length
        · exact hc
        · rw [if_neg hc] at hr; cases hr
      rw [hup] at p
      by_cases hf : s.fu = 0
      · rw [if_pos hf]
        rw [hf] at p
        refine (write_out w 0 b N s.D s.W s.dn gd cd mb T ⟨h4.1, by omega⟩ h1.1 p i hi a cp).mono ?_
        rintro e w' ⟨rfl, hg, p'⟩
        refine ⟨rfl, F, Dk.more ⟨gd, cd, mb, T, ?_, hF, h1, h2, h3, h4, h5⟩ (Nat.le_succ N), Step.of hg H0.b⟩
        show DkP w' 0 b N s.D s.W false s.dn s.fu gd cd mb T
        rw [hf]
        exact p'
      · rw [if_neg hf]
        obtain ⟨x, hx, hsrc⟩ : ∃ x, a = some x ∧ ∀ j v, (C.map (Value.int .u8))[j]? = some v → w.cell? (x.add j) = some v := by
          rcases hh with h0 | ⟨g, off, hx, hc⟩
          · rw [h0] at hC; cases hC
          · refine ⟨_, hx, fun j v hv => ?_⟩
            rw [List.getElem?_map] at hv
            cases hj : C[j]? with
            | none => rw [hj] at hv; cases hv
            | some y =>
              rw [hj] at hv
              obtain rfl := Option.some.inj hv
              have hlt := (List.getElem?_eq_some_iff.1 hj).1
              rw [add_plain, hc j hlt, List.getD_eq_getElem?_getD, hj]
              rfl
        subst hx
        have hne : C ≠ [] := fun e => by rw [e] at hC; cases hC
        refine (write_is w 0 b N s.D s.W s.dn s.fu h5 hf ⟨h4.1, by omega⟩ gd cd mb T h1 p (by omega) i hi (by have := h2 i; omega) x (hxb x rfl hne) cp C ⟨hC, hB⟩ hsrc (Nat.zero_le _)).mono ?_
        rintro e w' ⟨rfl, ho, T', p', hs⟩
        refine ⟨rfl, Fp b gd mb T', ⟨gd, cd, mb, T', p', fun _ => Iff.rfl, h1, fun j => ?_, fun j hj => ?_, ⟨by show 0 ≤ s.dn + 1; omega, by show s.dn + 1 ≤ ((N + 1 : Nat) : Int); omega⟩, lessF_le h5⟩, ⟨⟨ho.os, ho.tape, ho.output, ho.size, fun k hk hn => ho.block k hk (fun e => hn ((hF k).2 e))⟩, fun k hk => ?_⟩⟩
        · show (if j = i then s.W j ++ [C] else s.W j).length ≤ N + 1
          have := h2 j
          split
          · simp; omega
          · omega
        · by_cases e : j = i
          · rw [e]; exact hi
          · exact h3 j (by simpa [e] using hj)
        · rcases hs k hk with e | e
          · exact .inl ((hF k).2 e)
          · exact .inr e
    · rw [if_pos (by rw [hC]; exact hl)]
      refine (write_len w b gd s.D.length cd mb s.up s.dn s.fu h1.1 (d5_of p.cell) i a l cp hr hl).mono ?_
      rintro e w' ⟨rfl, rfl⟩
      exact ⟨rfl, F, H0.more (Nat.le_succ N), Step.refl F _⟩
  · rw [if_pos hr]
    refine (write_ref w b gd s.D.length cd mb s.up s.dn s.fu h1.1 (d5_of p.cell) i _ hr).mono ?_
    rintro e w' ⟨rfl, rfl⟩
    exact ⟨rfl, F, H0.more (Nat.le_succ N), Step.refl F _⟩
theorem dk_flush (w : World) (F : Nat → Prop) (b N : Nat) (s : Ds) (H : Dk w F b N s) (hN : N < 1000000) :
    Calls Tryz.prog 130 #[.pointer (some ⟨b, 0, none⟩)] w fun e w' => e = .returned (.int .i64 (s.fl).1) ∧ ∃ F', Dk w' F' b (N + 1) (s.fl).2 ∧ Step F F' w w' := by
  have H0 := H
  obtain ⟨gd, cd, mb, T, p, hF, h1, h2, h3, h4, h5⟩ := H
  unfold Ds.fl
  by_cases hu : s.up = false
  · rw [if_pos hu]
    have p' := p
    rw [hu] at p'
    refine (flush_down w b gd s.D.length cd mb s.dn s.fu h1.1 (d5_of p'.cell)).mono ?_
    rintro e w' ⟨rfl, rfl⟩
    exact ⟨rfl, F, H0.more (Nat.le_succ N), Step.refl F _⟩
  · rw [if_neg hu]
    have hup : s.up = true := by simpa using hu
    rw [hup] at p
    by_cases hf : s.fu = 0
    · rw [if_pos hf]
      rw [hf] at p
      refine (flush_out w 0 b N s.D s.W s.dn gd cd mb T ⟨h4.1, by omega⟩ h1.1 p).mono ?_
      rintro e w' ⟨rfl, hg, p'⟩
      refine ⟨rfl, F, Dk.more ⟨gd, cd, mb, T, ?_, hF, h1, h2, h3, h4, h5⟩ (Nat.le_succ N), Step.of hg H0.b⟩
      show DkP w' 0 b N s.D s.W false s.dn s.fu gd cd mb T
      rw [hf]
      exact p'
    · rw [if_neg hf]
      refine (flush_is w 0 b N s.D s.W s.dn s.fu gd cd mb T h5 hf ⟨h4.1, by omega⟩ h1 p (fun i => by have := h2 i; omega) h3).mono ?_
      rintro e w' ⟨rfl, ho, p'⟩
      refine ⟨rfl, Fp b gd mb (fun _ => none), ⟨gd, cd, mb, _, ⟨p'.hb, p'.hm, p'.cell, p'.dur, p'.is64, p'.mp.mono (Nat.le_succ N), p'.nil, p'.row, p'.apart⟩, fun _ => Iff.rfl, by show 1 ≤ (flD s.D s.W).length ∧ (flD s.D s.W).length ≤ 4096; rw [flD_len]; exact h1, fun i => Nat.zero_le _, fun i hi => absurd rfl hi, ⟨by show 0 ≤ s.dn + 1; omega, by show s.dn + 1 ≤ ((N + 1 : Nat) : Int); omega⟩, lessF_le h5⟩, ⟨⟨ho.os, ho.tape, ho.output, ho.size, fun k hk hn => ho.block k hk (fun e => hn ((hF k).2 e))⟩, fun k hk => .inl ((hF k).2 ?_)⟩⟩
      rcases hk with e | e | e | ⟨j, x, hx, e⟩
      · exact .inl e
      · exact .inr (.inl e)
      · exact .inr (.inr (.inl e))
      · cases hx
theorem dk_crash (w : World) (F : Nat → Prop) (b N : Nat) (s : Ds) (H : Dk w F b N s) (hN : N ≤ 1000000) (ka : Option Addr) (kl kc : Nat) (keep : List Int) (hkl : keep.length = kl) (hin : InK w ka keep) (hkb : ∀ x, ka = some x → keep ≠ [] → ¬ F x.block) :
    Calls Tryz.prog 21 #[.pointer (some ⟨b, 0, none⟩), .slice ka kl kc] w fun e w' => e = .returned (.int .i64 0) ∧ ∃ F', Dk w' F' b N (s.cr keep) ∧ Step F F' w w' := by
  have H0 := H
  obtain ⟨gd, cd, mb, T, p, hF, h1, h2, h3, h4, h5⟩ := H
  refine (crash_is w 0 b N s.D s.W s.up s.dn s.fu gd cd mb T h1 p (by omega) (fun i => by have := h2 i; omega) h3 ka kl kc keep hkl hin (fun x hx hk hf => hkb x hx hk ((hF _).2 hf))).mono ?_
  rintro e w' ⟨rfl, ho, p'⟩
  refine ⟨rfl, Fp b gd mb (fun _ => none), ⟨gd, cd, mb, _, p', fun _ => Iff.rfl, by show 1 ≤ (crD keep s.D s.W).length ∧ (crD keep s.D s.W).length ≤ 4096; unfold crD; rw [crs_len]; exact h1, fun i => Nat.zero_le _, fun i hi => absurd rfl hi, h4, by show (-1 : Int) ≤ _; omega⟩, ⟨⟨ho.os, ho.tape, ho.output, ho.size, fun k hk hn => ho.block k hk (fun e => hn ((hF k).2 e))⟩, fun k hk => .inl ((hF k).2 ?_)⟩⟩
  rcases hk with e | e | e | ⟨j, x, hx, e⟩
  · exact .inl e
  · exact .inr (.inl e)
  · exact .inr (.inr (.inl e))
  · cases hx
theorem dk_fuse (w : World) (F : Nat → Prop) (b N : Nat) (s : Ds) (H : Dk w F b N s) (k : Int) (hk : k ≤ 9223372036854775807) :
    Calls Tryz.prog 19 #[.pointer (some ⟨b, 0, none⟩), .int .i64 k] w fun e w' => e = .returned (.int .i64 (s.fs k).1) ∧ Dk w' F b N (s.fs k).2 ∧ Step F F w w' := by
  have H0 := H
  obtain ⟨gd, cd, mb, T, p, hF, h1, h2, h3, h4, h5⟩ := H
  refine (fuse_is w 0 b N s.D s.W s.up s.dn s.fu k gd cd mb T h1.1 p).mono ?_
  rintro e w' ⟨rfl, hg, p'⟩
  exact ⟨rfl, ⟨gd, cd, mb, T, p', hF, h1, h2, h3, h4, by show (if s.up = true ∧ 0 ≤ k then k else s.fu) ≤ _; split <;> assumption⟩, Step.of hg H0.b⟩
theorem dk_up (w : World) (F : Nat → Prop) (b N : Nat) (s : Ds) (H : Dk w F b N s) : Calls Tryz.prog 34 #[.pointer (some ⟨b, 0, none⟩)] w fun e w' => e = .returned (.bool s.up) ∧ w' = w := by
  obtain ⟨gd, cd, mb, T, p, hF, h1, h2, h3, h4, h5⟩ := H
  exact up_is w b gd s.D.length cd mb s.up s.dn s.fu h1.1 (d5_of p.cell)
theorem dk_blocks (w : World) (F : Nat → Prop) (b N : Nat) (s : Ds) (H : Dk w F b N s) : Calls Tryz.prog 70 #[.pointer (some ⟨b, 0, none⟩)] w fun e w' => e = .returned (.int .i64 (s.D.length : Int)) ∧ w' = w := by
  obtain ⟨gd, cd, mb, T, p, hF, h1, h2, h3, h4, h5⟩ := H
  exact blocks_is w b gd s.D.length cd mb s.up s.dn s.fu h1.1 (d5_of p.cell)
theorem dk_done (w : World) (F : Nat → Prop) (b N : Nat) (s : Ds) (H : Dk w F b N s) : Calls Tryz.prog 57 #[.pointer (some ⟨b, 0, none⟩)] w fun e w' => e = .returned (.int .i64 s.dn) ∧ w' = w := by
  obtain ⟨gd, cd, mb, T, p, hF, h1, h2, h3, h4, h5⟩ := H
  exact done_is w b gd s.D.length cd mb s.up s.dn s.fu h1.1 (d5_of p.cell)
theorem dk_image (w : World) (F : Nat → Prop) (b N : Nat) (s : Ds) (H : Dk w F b N s) : Calls Tryz.prog 56 #[.pointer (some ⟨b, 0, none⟩)] w fun e w' => ∃ go V, e = .returned (.slice (some ⟨go, 0, none⟩) s.D.length s.D.length) ∧ V.length = s.D.length ∧ Img w' w.heap.size go s.D.length V s.D ∧ Below w.heap.size w w' := by
  obtain ⟨gd, cd, mb, T, p, hF, h1, h2, h3, h4, h5⟩ := H
  exact image_is w 0 b N s.D s.W s.up s.dn s.fu gd cd mb T h1 p
theorem dk_waiting (w : World) (F : Nat → Prop) (b N : Nat) (s : Ds) (H : Dk w F b N s) (hN : N ≤ 1000000) : Calls Tryz.prog 52 #[.pointer (some ⟨b, 0, none⟩)] w fun e w' => ∃ g c, e = .returned (.slice (some ⟨g, 0, none⟩) (wa s.D.length s.W).length c) ∧ InW w' (some ⟨g, 0, none⟩) (wa s.D.length s.W) ∧ w.heap.size ≤ g ∧ Below w.heap.size w w' := by
  obtain ⟨gd, cd, mb, T, p, hF, h1, h2, h3, h4, h5⟩ := H
  refine (waiting_is w 0 b N s.D s.W s.up s.dn s.fu gd cd mb T h1.1 p (by omega) h3).mono ?_
  rintro e w' ⟨g, c, rfl, hin, hg, hgr⟩
  exact ⟨g, c, rfl, hin, hg, grown_none_below hgr⟩
theorem dk_read (w : World) (F : Nat → Prop) (b N : Nat) (s : Ds) (H : Dk w F b N s) (hN : N ≤ 1000000) (i : Int) : Calls Tryz.prog 102 #[.pointer (some ⟨b, 0, none⟩), .int .i64 i] w fun e w' => ∃ a n c, e = .returned (.tuple #[.slice a n c, .int .i64 (s.rd i).2]) ∧ (s.rd i).1.length = n ∧ Owned w' w.heap.size (.slice a n c) (s.rd i).1 ∧ Below w.heap.size w w' := by
  obtain ⟨gd, cd, mb, T, p, hF, h1, h2, h3, h4, h5⟩ := H
  unfold Ds.rd
  by_cases hr : rdyAt s.up s.D.length i = 0
  · rw [if_neg (by simpa using hr)]
    have hup : s.up = true := by
      cases hu : s.up
      · rw [hu] at hr; simp [rdyAt] at hr
      · rfl
    have hi : 0 ≤ i ∧ i < s.D.length := by
      rw [hup] at hr
      simp only [rdyAt, if_true] at hr
      by_cases hc : 0 ≤ i ∧ i < s.D.length
      · exact hc
      · rw [if_neg hc] at hr; cases hr
    rw [hup] at p
    obtain ⟨k, rfl⟩ := Int.eq_ofNat_of_zero_le hi.1
    have hk : s.D[k]? = some (s.D[k]'(by omega)) := List.getElem?_eq_getElem (by omega)
    refine (dkread_is w 0 b N s.D s.W s.dn s.fu gd cd mb T h1 p k _ hk (by have := h2 (k : Int); omega)).mono ?_
    rintro e w' ⟨g', c', rfl, ho, hb⟩
    have e1 : (s.D[(k : Int).toNat]?).getD [] = s.D[k]'(by omega) := by rw [Int.toNat_natCast, hk]; rfl
    rw [e1]
    have e2 : (lastOf (s.W (k : Int)) (s.D[k]'(by omega))).length = 64 := by
      rcases lastOf_mem (s.W (k : Int)) (s.D[k]'(by omega)) with e | e
      · rw [e]; exact (p.is64 _ (List.getElem_mem _)).1
      · exact ((p.writes _).2 _ e).1
    exact ⟨_, _, _, rfl, e2, ho, hb⟩
  · rw [if_pos hr]
    refine (read_ref w b gd s.D.length cd mb s.up s.dn s.fu h1.1 (d5_of p.cell) i hr).mono ?_
    rintro e w' ⟨rfl, rfl⟩
    exact ⟨none, 0, 0, rfl, rfl, World.ownsRow_nil _ _ _ _, Below.refl _ _⟩
end Go.Proofs.YtcindeechmpalaaGreat
namespace Go.Proofs.YtcindeechmpalaaGreat
open Go.ChangeShapes Go.WideShapes Go.ChangeAt Go.RowKit Go.Deep Go.Maps
set_option linter.unusedVariables false
/-- a write (a block and its bytes), or a flush -/
def Ds.op (s : Ds) (o : Option (Nat × List Int)) : Int × Ds := match o with | some p => s.wr (p.1 : Int) p.2 | none => s.fl
/-- one behind the other, up to the first that is refused -/
def Ds.run : Ds → List (Option (Nat × List Int)) → Int × Ds
  | s, [] => (0, s)
  | s, o :: r => if (s.op o).1 ≠ 0 then s.op o else Ds.run (s.op o).2 r
theorem Ds.run_cons (s : Ds) (o : Option (Nat × List Int)) (r : List (Option (Nat × List Int))) : s.run (o :: r) = if (s.op o).1 ≠ 0 then s.op o else (s.op o).2.run r := rfl
theorem Ds.run_app (s : Ds) (A B : List (Option (Nat × List Int))) : s.run (A ++ B) = if (s.run A).1 ≠ 0 then s.run A else (s.run A).2.run B := by
  induction A generalizing s with
  | nil => simp [Ds.run]
  | cons o r ih =>
    rw [List.cons_append, Ds.run_cons, Ds.run_cons]
    by_cases h : (s.op o).1 ≠ 0
    · rw [if_pos h, if_pos h, if_pos h]
    · rw [if_neg h, if_neg h, ih]
def pad64 (C : List Int) : List Int := C ++ List.replicate (64 - C.length) 0
theorem pad64_len {C : List Int} (h : C.length ≤ 64) : (pad64 C).length = 64 := by simp [pad64]; omega
theorem pad64_bytes {C : List Int} (h : IsBytes C) : IsBytes (pad64 C) := bytes_app h (zeros_bytes _)
/-- the writes that lay bytes from a block on -/
def wopsF : Nat → Nat → List Int → List (Option (Nat × List Int))
  | 0, _, _ => []
  | f + 1, at_, B => if B = [] then [] else some (at_, pad64 (B.take 64)) :: wopsF f (at_ + 1) (B.drop 64)
def wops (at_ : Nat) (B : List Int) : List (Option (Nat × List Int)) := wopsF B.length at_ B
theorem wopsF_nil (f at_ : Nat) : wopsF f at_ [] = [] := by cases f <;> simp [wopsF]
theorem wopsF_cons (f at_ : Nat) (B : List Int) (h : B ≠ []) : wopsF (f + 1) at_ B = some (at_, pad64 (B.take 64)) :: wopsF f (at_ + 1) (B.drop 64) := by simp [wopsF, h]
theorem wopsF_fuel : ∀ (f g at_ : Nat) (B : List Int), B.length ≤ f → B.length ≤ g → wopsF f at_ B = wopsF g at_ B
  | 0, g, at_, B, hf, hg => by
    have : B = [] := List.length_eq_zero_iff.1 (by omega)
    subst this
    rw [wopsF_nil, wopsF_nil]
  | f + 1, 0, at_, B, hf, hg => by
    have : B = [] := List.length_eq_zero_iff.1 (by omega)
    subst this
    rw [wopsF_nil, wopsF_nil]
  | f + 1, g + 1, at_, B, hf, hg => by
    by_cases h : B = []
    · subst h
      rw [wopsF_nil, wopsF_nil]
    · rw [wopsF_cons _ _ _ h, wopsF_cons _ _ _ h, wopsF_fuel f g]
      · simp; omega
      · simp; omega
theorem wops_nil (at_ : Nat) : wops at_ [] = [] := rfl
theorem wops_cons (at_ : Nat) (B : List Int) (h : B ≠ []) : wops at_ B = some (at_, pad64 (B.take 64)) :: wops (at_ + 1) (B.drop 64) := by
  have hl : 0 < B.length := List.length_pos_iff.2 h
  unfold wops
  obtain ⟨n, hn⟩ : ∃ n, B.length = n + 1 := ⟨B.length - 1, by omega⟩
  rw [hn, wopsF_cons _ _ _ h]
  congr 1
  exact wopsF_fuel _ _ _ _ (by simp; omega) (by simp)
/-- what was written last of a block, or is durable -/
def Ds.cur (s : Ds) (i : Nat) : List Int := lastOf (s.W (i : Int)) (s.D[i]?.getD [])
/-- blocks one behind the other -/
def Ds.cat (s : Ds) : Nat → Nat → List Int
  | _, 0 => []
  | i, k + 1 => s.cur i ++ s.cat (i + 1) k
theorem Ds.cat_snoc (s : Ds) : ∀ (k i : Nat), s.cat i (k + 1) = s.cat i k ++ s.cur (i + k)
  | 0, i => by simp [Ds.cat]
  | k + 1, i => by
    rw [Ds.cat, Ds.cat_snoc s k (i + 1), Ds.cat, List.append_assoc]
    congr 3
    omega
theorem Ds.rd_up (s : Ds) (hu : s.up = true) (i : Nat) (hi : i < s.D.length) : s.rd (i : Int) = (s.cur i, 0) := by
  unfold Ds.rd
  rw [if_neg (by rw [hu]; simp [rdyAt]; omega)]
  rfl
theorem Ds.rd_down (s : Ds) (hu : s.up = false) (i : Int) : s.rd i = ([], 15) := by
  unfold Ds.rd
  rw [if_pos (by rw [hu]; simp [rdyAt])]
  simp [hu, rdyAt]
theorem cur_64 {w : World} {F : Nat → Prop} {b N : Nat} {s : Ds} (H : Dk w F b N s) (i : Nat) (hi : i < s.D.length) : (s.cur i).length = 64 ∧ IsBytes (s.cur i) := by
  obtain ⟨h1, h2, _⟩ := H.is64
  unfold Ds.cur
  rw [List.getElem?_eq_getElem hi, Option.getD_some]
  rcases lastOf_mem (s.W (i : Int)) s.D[i] with e | e
  · rw [e]; exact h1 _ (List.getElem_mem hi)
  · exact h2 _ _ e
theorem cat_64 {w : World} {F : Nat → Prop} {b N : Nat} {s : Ds} (H : Dk w F b N s) : ∀ (k i : Nat), i + k ≤ s.D.length → (s.cat i k).length = 64 * k ∧ IsBytes (s.cat i k)
  | 0, i, _ => ⟨rfl, bytes_nil⟩
  | k + 1, i, h => by
    have h1 := cur_64 H i (by omega)
    have h2 := cat_64 H k (i + 1) (by omega)
    rw [Ds.cat]
    exact ⟨by rw [List.length_append, h1.1, h2.1]; omega, bytes_app h1.2 h2.2⟩
theorem zeroCells8 (k : Nat) : Builtin.zeroCells (Value.int .u8 0).cells k = ((List.replicate k (0 : Int)).map (Value.int .u8)).toArray := by
  apply Array.ext_getElem?
  intro i
  by_cases h : i < k <;> simp [Builtin.zeroCells, Value.cells, Nat.mod_one, h]
/-- append(b, make([]byte, k)...) of a slice that is full, at the operation -/
theorem appZ {w : World} {o : Oper} {act : Act} {K : Act → World → Prop} {Q : Exit → Act → World → Prop} (s x : Operand)
    (ho : o.op = .call { callee := .builtin .append, args := #[s, x], argTypes := #[86, 3] })
    (ad : Addr) (n k : Nat) (L : List Int) (hs : act.eval s = .slice (some ad) n n) (hx : act.eval x = .int .i64 (k : Int)) (hL : L.length = n) (hh : Holds w (some ad) L) (hk : n + k = 64) (hn : 0 < n)
    (h : ∀ a' c' w', Holds w' (some a') (L ++ List.replicate k 0) → Below w.heap.size w w' → (a' = ad ∨ (w.heap.size ≤ a'.block ∧ a'.block < w'.heap.size)) → K (act.put o.dst (.slice (some a') 64 c')) w') : o.wp Tryz.prog act w K Q := by
  obtain ⟨i, hi, hz, h1, h2⟩ := info8p
  obtain ⟨b, off, had, hc⟩ : ∃ b off, some ad = some ⟨b, off, none⟩ ∧ ∀ i, i < L.length → w.cell? ⟨b, off + i, none⟩ = some (.int .u8 (L.getD i 0)) := by
    rcases hh with rfl | h
    · simp at hL; omega
    · exact h
  obtain rfl := Option.some.inj had
  by_cases h0 : k = 0
  · subst h0
    have hr : (Builtin.append_ #[86, 3] o.type #[.slice (some ⟨b, off, none⟩) n n, .int .i64 ((0 : Nat) : Int)]).run Tryz.prog w = .ok (.slice (some ⟨b, off, none⟩) n n) w := by
      have hw : IntKind.i64.wrap 0 = 0 := by decide
      simp [Builtin.append_, run_underlying Tryz.underlying86, run_underlying Tryz.underlying3, sizeOf, typeInfo, hi, asInt, asIntOf, storeCells, hw]
    refine Lib.wp_append_run w s x 86 3 ho _ _ hs hx _ _ hr ?_
    have hn64 : n = 64 := by omega
    subst hn64
    exact h _ _ _ (by simpa using hh) (Below.refl _ _) (.inl rfl)
  · have hold : (Builtin.firstCells i.size n (.slice (some ⟨b, off, none⟩) n n)).run Tryz.prog w.drew = .ok (L.map (Value.int .u8)).toArray w.drew := by
      rw [h1]
      exact run_firstCells_some (P := Tryz.prog) w.drew 1 n _ n n (L.map (Value.int .u8)) (by simp [hL]) (fun j u hj => by
        rw [List.getElem?_map] at hj
        cases hv : L[j]? with
        | none => rw [hv] at hj; cases hj
        | some y =>
          rw [hv] at hj
          obtain rfl := Option.some.inj hj
          have hlt := (List.getElem?_eq_some_iff.1 hv).1
          show w.cell? _ = _
          rw [add_plain, hc j hlt, List.getD_eq_getElem?_getD, hv]
          rfl)
    have hcap : Builtin.nextslicecap (n + k) n ≤ 128 := by
      unfold Builtin.nextslicecap
      split
      · omega
      · split <;> omega
    have hr := Lib.run_append_grow_zeros (P := Tryz.prog) w 86 3 o.type 5 i (.int .u8 0) .i64 .i64 Tryz.underlying86 Tryz.underlying3 hi hz (some ⟨b, off, none⟩) n n (L.map (Value.int .u8)) hold k (by omega) (by omega) (by omega) (by omega) (by rw [h2]; omega) (by rw [h2]; omega)
    refine Lib.wp_append_run w s x 86 3 ho _ _ hs hx _ _ hr ?_
    rw [hk]
    refine h _ _ _ ?_ ((below_drewN (Below.refl w.heap.size w) 1).alloc (Nat.le_refl _) _) (.inr ⟨Nat.le_refl _, by simp⟩)
    refine .inr ⟨w.heap.size, 0, rfl, fun j hj => ?_⟩
    have hl64 : (L ++ List.replicate k (0 : Int)).length = 64 := by simp; omega
    rw [Nat.zero_add, cell_of_row _ w.heap.size j _ _ (0, 0) (heap_alloc_new w.drew _), zeroCells8 k]
    have e : (L.map (Value.int .u8)).toArray ++ ((List.replicate k (0 : Int)).map (Value.int .u8)).toArray = ((L ++ List.replicate k (0 : Int)).map (Value.int .u8)).toArray := by simp
    rw [e, Array.getElem?_append_left (by simpa using hj), List.getElem?_toArray, List.getElem?_map, List.getElem?_eq_getElem hj, List.getD_eq_getElem?_getD, List.getElem?_eq_getElem hj]
    rfl
end Go.Proofs.YtcindeechmpalaaGreat
