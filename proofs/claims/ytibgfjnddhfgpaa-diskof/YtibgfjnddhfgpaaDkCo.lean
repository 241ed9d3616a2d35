/- slices.Clone of blocks; Copy. Written by gen_copy.py. -/
import Derived.Test.YtibgfjnddhfgpaaDkK
import Derived.Lib.BufferMore
import Derived.Deep.RegionHeld3
namespace Go.Proofs.Ytibgfjnddhfgpaa
open Go.ChangeShapes Go.WideShapes Go.ChangeAt Go.RowKit Go.Deep Go.Maps
set_option linter.unusedVariables false
theorem ownB_empty (w : World) (base : Nat) (hb : base ≤ w.heap.size) : OwnB (w.alloc (.cells #[] 75)) base (.slice (some ⟨w.heap.size, 0, none⟩) 0 0) [] :=
  World.ownsRow_made (e := 75) (size := 64) (base := base) w #[] 0 hb (by simp [maxLen]) rfl
/-- append(blocks, others...) -/
theorem append_blocks {w : World} {ops : Array Oper} {rest : List Oper} {o : Oper} {act : Act} {Q : Exit → Act → World → Prop} (hgd : o.guard = none) (s x : Operand)
    (ho : o.op = .call { callee := .builtin .append, args := #[s, x], argTypes := #[66, 66] })
    (base : Nat) (v : Value) (B : List (List Int)) (hs : act.eval s = v) (hown : OwnB w base v B)
    (g c n : Nat) (B2 : List (List Int)) (h64 : Is64 B2) (hn : B2.length = n) (hx : act.eval x = .slice (some ⟨g, 0, none⟩) n c) (base2 : Nat) (hc : OwnB w base2 (.slice (some ⟨g, 0, none⟩) n c) B2)
    (hN : B.length + n ≤ 1000000000) (hbase : base ≤ w.heap.size)
    (h : ∀ v' w', OwnB w' base v' (B ++ B2) → w.grownBy w' v.ownBlock → wpList Try.prog ops Q rest (act.put o.dst v') w') :
    wpList Try.prog ops Q (o :: rest) act w := by
  obtain ⟨i, hi, hz, h1, h2⟩ := infoB
  refine wpList_append_own w hgd s x 66 ho base 75 i _ 64 64 Try.underlying66 hi hz h1 h2 rfl (by decide) v B.length _ hs hown ⟨g, 0, none⟩ n c (bcs B2) hx (by unfold bcs; rw [List.length_map, flat_len h64, hn]) ?_ (by intro u hu; obtain ⟨z, _, rfl⟩ := List.mem_map.1 hu; rfl) (by simp only [maxLen]; omega) (by omega) hbase ?_
  · intro j u hu
    exact World.ownsRow.cells hc (g := g) rfl j u hu
  · intro v' w' hown' hg _
    refine h v' w' ?_ hg
    unfold OwnB
    rw [List.length_append, hn]
    have : bcs (B ++ B2) = bcs B ++ bcs B2 := by simp [bcs]
    rw [this]
    exact hown'
theorem lt_of_heap' {w : World} {k : Nat} {o : Obj} (h : w.heap[k]? = some o) : k < w.heap.size := (Array.getElem?_eq_some_iff.1 h).1
theorem clone_blocks (w : World) (h g n c : Nat) (B : List (List Int)) (hn : B.length = n) (h0 : 1 ≤ n) (hm : n ≤ 1000000000) (h64 : Is64 B) (ho : OwnB w h (.slice (some ⟨g, 0, none⟩) n c) B) :
    Calls Try.prog 32 #[.slice (some ⟨g, 0, none⟩) n c] w fun e w' => ∃ g' c', e = .returned (.slice (some ⟨g', 0, none⟩) n c') ∧ OwnB w' w.heap.size (.slice (some ⟨g', 0, none⟩) n c') B ∧ Below w.heap.size w w' := by
  have hnil : ∀ W, (binOp .eql 66 (.slice (some ⟨g, 0, none⟩) n c) (.slice none 0 0)).run Try.prog W = .ok (.bool false) W := fun W => Lib.run_eql_slice_some_nil W _ _ _ Try.underlying66
  have HO : Hid (OwnB w h (.slice (some ⟨g, 0, none⟩) n c) B) := ho
  have H6 : Hid (Is64 B) := h64
  have HN : Hid (B.length = n ∧ 1 ≤ n) := ⟨hn, h0⟩
  clear ho h64
  go_enter Try.func32, Try.ntmps32
  go_wp2_with (at_builtin; refine append_blocks rfl (.tmp 5) (.tmp 6) rfl w.heap.size (.slice (some ⟨w.heap.size, 0, none⟩) 0 0) [] rfl (ownB_empty w w.heap.size (Nat.le_refl _)) g c n B H6.out HN.out.1 rfl h (HO.out.keep (below1 _ _)) (by simpa using hm) (by simp) ?_; intro v1 w1 ho1 hg1; have O1 : Hid (OwnB w1 w.heap.size v1 ([] ++ B)) := ho1; have B1 : Hid (Below w.heap.size w w1) := (below1 w _).grown hg1 (by simp) (fun k e => by have : w.heap.size = k := (by simpa [Value.ownBlock] using e); omega); clear ho1 hg1)
  go_ret
  have o := O1.out
  rw [List.nil_append] at o
  rcases o.2 with ⟨e, h1⟩ | ⟨g', cap, cur, e, hb, hg, _⟩
  · exact absurd (HN.out.1.symm.trans h1) (by have := HN.out.2; omega)
  · have e2 : v1 = .slice (some ⟨g', 0, none⟩) n cap := by rw [e, HN.out.1]
    rw [e2] at o
    exact ⟨g', cap, by rw [e2]; rfl, o, B1.out⟩
/-- a block's writes are laid in -/
theorem DkP.laid {w w4 w5 : World} {h b N : Nat} {D : List (List Int)} {W : Int → List (List Int)} {up : Bool} {done fuse : Int} {gd cd mb : Nat} {T : Int → Option Hd} (H : DkP w h b N D W up done fuse gd cd mb T)
    (hb : Below w.heap.size w w4) (i : Int) (hI : InI i) (L : List (List Int)) (hL : L ≠ []) (h64 : Is64 L) (g' c' : Nat) (hh : h ≤ w.heap.size)
    (o4 : OwnB w4 w.heap.size (.slice (some ⟨g', 0, none⟩) L.length c') L)
    (S5 : Sc w5 mb (N + 1) (fun q => if q = i then some (g' + 1, L.length, c') else T q)) (hg5 : w4.grownBy w5 (some mb)) :
    DkP w5 h b (N + 1) D (fun j => if j = i then L else W j) up done fuse gd cd mb (fun q => if q = i then some (g' + 1, L.length, c') else T q) := by
  obtain ⟨n1, n2, l1, l2, l3⟩ := H.apart3
  have z := hb.size
  have hg' := o4.own g' rfl
  have keep : ∀ k, k < w.heap.size → k ≠ mb → w5.heap[k]? = w.heap[k]? := fun k hk hm => (hg5.block k (by omega) (by simpa using hm)).trans (hb.block k hk)
  refine ⟨H.hb, H.hm, (keep b l2 n1).trans H.cell, H.dur.block fun k hk => ?_, H.is64, S5, ?_, ?_, ?_⟩
  · have : gd = k := by simpa [Value.ownBlock] using hk
    subst this
    exact keep gd l1 n2
  · intro j
    by_cases hj : j = i
    · simp [hj, hL]
    · simp only [if_neg hj]; exact H.nil j
  · intro j x hx
    by_cases hj : j = i
    · subst hj
      simp only [if_true] at hx ⊢
      obtain rfl := Option.some.inj hx
      refine ⟨hI, ⟨g', c', rfl, by omega⟩, ?_, h64⟩
      refine (o4.base hh).block fun k hk => ?_
      have e : g' = k := by simpa [hv, Value.ownBlock] using hk
      subst e
      exact hg5.block g' hg'.2 (by simp; omega)
    · simp only [if_neg hj] at hx ⊢
      obtain ⟨a1, a2, a3, a4⟩ := H.row j x hx
      refine ⟨a1, a2, a3.block fun k hk => ?_, a4⟩
      have hof := H.off j k (by rw [hx]; exact hk)
      exact keep k hof.1 hof.2.2.1
  · have old : ∀ j y, j ≠ i → T j = some y → y.1 ≠ g' + 1 := fun j y _ hy => by
      obtain ⟨_, ⟨g, c, rfl, _⟩, ho, _⟩ := H.row j y hy
      have := (ho.own g rfl).2
      show g + 1 ≠ g' + 1
      omega
    intro j k x y hjk hx hy
    by_cases hj : j = i
    · by_cases hk : k = i
      · omega
      · subst hj
        simp only [if_true] at hx
        simp only [if_neg hk] at hy
        obtain rfl := Option.some.inj hx
        exact fun e => old k y hk hy e.symm
    · by_cases hk : k = i
      · subst hk
        simp only [if_true] at hy
        simp only [if_neg hj] at hx
        obtain rfl := Option.some.inj hy
        exact old j x hj hx
      · simp only [if_neg hj] at hx
        simp only [if_neg hk] at hy
        exact H.apart j k x y hjk hx hy

set_option linter.unusedSimpArgs false in
set_option maxRecDepth 100000 in
set_option maxHeartbeats 8000000 in
theorem copy_is (w : World) (h b N : Nat) (D : List (List Int)) (W : Int → List (List Int)) (up : Bool) (done fuse : Int) (gd cd mb : Nat) (T : Int → Option Hd) (hn : 1 ≤ D.length ∧ D.length ≤ 4096) (H : DkP w h b N D W up done fuse gd cd mb T) (hN : N ≤ 1000000000) (hWl : ∀ i, (W i).length ≤ 1000000000) :
    Calls Try.prog 11 #[.pointer (some ⟨b, 0, none⟩)] w fun e w' => ∃ b2 gd2 cd2 mb2 T2, e = .returned (.pointer (some ⟨b2, 0, none⟩)) ∧ DkP w' w.heap.size b2 N D W up done fuse gd2 cd2 mb2 T2 ∧ Below w.heap.size w w' := by
  have h5 := d5_of H.cell
  have K : Hid (Calls Try.prog 31 #[.pointer (some ⟨b, 0, none⟩)] w fun e w' => e = .returned (.bool false) ∧ w' = w) := isNone_not w b gd D.length cd mb up done fuse hn.1 h5
  obtain ⟨q0, q1, q2, q3, q4⟩ := h5
  have HP : Hid (DkP w h b N D W up done fuse gd cd mb T) := H
  have HN : Hid (1 ≤ D.length ∧ D.length ≤ 4096) := hn
  have HWL : Hid (∀ i, (W i).length ≤ 1000000000) := hWl
  have lb := H.apart3.2.2.2.1
  clear H hn hWl
  obtain ⟨W1, hW1⟩ : ∃ W1, w.alloc (.cells #[.slice (some ⟨gd, 0, none⟩) D.length cd, .map (some mb), .bool up, .int .i64 done, .int .i64 fuse] 72) = W1 := ⟨_, rfl⟩
  have HW1 : Hid (w.alloc (.cells #[.slice (some ⟨gd, 0, none⟩) D.length cd, .map (some mb), .bool up, .int .i64 done, .int .i64 fuse] 72) = W1) := hW1
  have X1 : Hid (W1.heap[w.heap.size]? = some (.cells #[.slice (some ⟨gd, 0, none⟩) D.length cd, .map (some mb), .bool up, .int .i64 done, .int .i64 fuse] 72) ∧ Below w.heap.size w W1 ∧ W1.heap.size = w.heap.size + 1) := by
    rw [← hW1]
    exact ⟨heap_alloc_new w _, below1 _ _, by simp⟩
  clear hW1
  have KC : Hid (Calls Try.prog 32 #[.slice (some ⟨gd, 0, none⟩) D.length cd] W1 fun e w' => ∃ g' c', e = .returned (.slice (some ⟨g', 0, none⟩) D.length c') ∧ OwnB w' W1.heap.size (.slice (some ⟨g', 0, none⟩) D.length c') D ∧ Below W1.heap.size W1 w') := clone_blocks W1 h gd D.length cd D rfl HN.out.1 (by have := HN.out.2; omega) HP.out.is64 (HP.out.dur.keep X1.out.2.1)
  go_enter Try.func11, Try.ntmps11
  go_wp2_with fail
  refine K.out.mono ?_
  rintro e w0 ⟨rfl, hw⟩
  obtain rfl := hw.symm
  clear hw K
  go_wp2_with fail
  rw [show World.alloc _ _ = W1 from HW1.out]
  refine KC.out.mono ?_
  rintro e w2 ⟨g2, c2, rfl, o2, b2⟩
  have Z1 := X1.out.2.2
  have z2 := b2.size
  have x2 : w2.heap[w.heap.size]? = _ := (b2.block _ (by omega)).trans X1.out.1
  obtain ⟨p0, p1, p2, p3, p4⟩ := d5_of x2
  have f0 := frozen_not x2 0
  have f1 := frozen_not x2 1
  have B02 : Hid (Below w.heap.size w w2) := X1.out.2.1.trans (b2.mono (by omega))
  have q1' : w2.cell? ⟨b, 1, none⟩ = some (.map (some mb)) := (B02.out.cell (p := ⟨b, 1, none⟩) lb).trans q1
  have hne : b ≠ w.heap.size := by omega
  have O2 : Hid (OwnB w2 w.heap.size (.slice (some ⟨g2, 0, none⟩) D.length c2) D ∧ W1.heap.size ≤ g2 ∧ g2 < w2.heap.size) := ⟨o2.base (by omega), (o2.own g2 rfl).1, (o2.own g2 rfl).2⟩
  have X2 : Hid (w2.heap[w.heap.size]? = some (.cells #[.slice (some ⟨gd, 0, none⟩) D.length cd, .map (some mb), .bool up, .int .i64 done, .int .i64 fuse] 72)) := x2
  have hmk : ∀ (W : World) (n : Nat), (Instr.makeMap 70 (some (.int .i64 (n : Int)))).run Try.prog W = .ok (.map (some W.heap.size)) (W.alloc (.map #[] 0)) := fun W n => by kernel_rfl
  clear o2 b2 x2 KC HW1
  have SC : Hid (∀ Wd, Below w.heap.size w Wd → Sc Wd mb N T) := fun Wd hb => HP.out.mp.keep hb
  have B3 : Hid (Below w.heap.size w (w2.setCell ⟨w.heap.size, 0, none⟩ (.slice (some ⟨g2, 0, none⟩) D.length c2))) := B02.out.setCell (Nat.le_refl _) _
  have z3 : (w2.setCell ⟨w.heap.size, 0, none⟩ (.slice (some ⟨g2, 0, none⟩) D.length c2)).heap.size = w2.heap.size := by simp [World.setCell]
  obtain ⟨w4, hw4⟩ : ∃ w4, (w2.setCell ⟨w.heap.size, 0, none⟩ (.slice (some ⟨g2, 0, none⟩) D.length c2)).alloc (.map #[] 0) = w4 := ⟨_, rfl⟩
  have G24 : Hid (w2.grownBy w4 (some w.heap.size) ∧ w4.heap.size = w2.heap.size + 1) := by
    rw [← hw4]
    exact ⟨grown_andBelow (grown_set w2 w.heap.size 0 _) (below1 _ _), by simp [World.setCell]⟩
  have B4 : Hid (Below w.heap.size w w4) := by rw [← hw4]; exact B3.out.trans ((below1 _ _).mono (by omega))
  have X4 : Hid (w4.heap[w.heap.size]? = some (.cells #[.slice (some ⟨g2, 0, none⟩) D.length c2, .map (some mb), .bool up, .int .i64 done, .int .i64 fuse] 72)) := by
    rw [← hw4, Below.heap_alloc _ _ _ (by rw [z3]; exact lt_of_heap' X2.out)]
    exact set_own w2 w.heap.size 0 _ _ X2.out _
  have S4 : Hid (Sc w4 w2.heap.size 0 (fun _ => none)) := by
    have := Sc.empty (w2.setCell ⟨w.heap.size, 0, none⟩ (.slice (some ⟨g2, 0, none⟩) D.length c2))
    rw [hw4, z3] at this
    exact this
  obtain ⟨e0, e1, e2, e3, e4⟩ := d5_of X4.out
  have k1 := frozen_not X4.out 1
  have q4' : w4.cell? ⟨b, 1, none⟩ = some (.map (some mb)) := (B4.out.cell (p := ⟨b, 1, none⟩) lb).trans q1
  have hmk2 : ∀ n : Nat, (Instr.makeMap 70 (some (.int .i64 (n : Int)))).run Try.prog (w2.setCell ⟨w.heap.size, 0, none⟩ (.slice (some ⟨g2, 0, none⟩) D.length c2)) = .ok (.map (some w2.heap.size)) w4 := fun n => by rw [hmk (w2.setCell ⟨w.heap.size, 0, none⟩ (.slice (some ⟨g2, 0, none⟩) D.length c2)) n, hw4, z3]
  clear hmk hw4 z3
  have B5 : Hid (Below w.heap.size w (w4.setCell ⟨w.heap.size, 1, none⟩ (.map (some w2.heap.size)))) := B4.out.setCell (Nat.le_refl _) _
  go_wp2_with (first | (at_len; refine wpList_len_sc rfl (.tmp 20) rfl mb N T rfl (SC.out _ B3.out) ?_; intro N1 hN1) | (at_range; refine wpList_range_sc rfl (.tmp 27) rfl mb N T rfl (SC.out _ B5.out) ?_; intro w6 cnt0 hrg0 hg0 hs0; have R0 : Hid (Rg w6 mb (w4.setCell ⟨w.heap.size, 1, none⟩ (.map (some w2.heap.size))).heap.size N T (fun p => (T p).isSome) cnt0 ∧ (w4.setCell ⟨w.heap.size, 1, none⟩ (.map (some w2.heap.size))).grownBy w6 none) := ⟨hrg0, hg0⟩; clear hrg0 hg0 hs0))
  have z5 : (w4.setCell ⟨w.heap.size, 1, none⟩ (.map (some w2.heap.size))).heap.size = w4.heap.size := by simp [World.setCell]
  rw [z5] at R0 ⊢
  have P0 : Hid (DkP w6 w.heap.size w.heap.size 0 D (fun _ => []) up done fuse g2 c2 w2.heap.size (fun _ => none)) := by
    have hm : w2.heap.size ≠ w.heap.size := by have := lt_of_heap' X2.out; omega
    have g45 := grown_set w4 w.heap.size 1 (.map (some w2.heap.size))
    have hg2 : g2 ≠ w.heap.size := by have := O2.out.2.1; omega
    refine ⟨Nat.le_refl _, by have := B02.out.size; omega, ?_, ?_, HP.out.is64, ?_, fun i => by simp, fun i x hx => (by cases hx), fun i j x y _ hx => (by cases hx)⟩
    · exact (R0.out.2.block _ (by have := lt_of_heap' X4.out; omega) (by simp)).trans (set_own w4 w.heap.size 1 _ _ X4.out _)
    · refine O2.out.1.block fun k hk => ?_
      have e : g2 = k := by simpa [Value.ownBlock] using hk
      subst e
      have l4 : g2 < w4.heap.size := by have := G24.out.2; have := O2.out.2.2; omega
      exact (R0.out.2.block _ (by omega) (by simp)).trans ((g45.block _ l4 (by simpa using hg2)).trans (G24.out.1.block _ O2.out.2.2 (by simpa using hg2)))
    · exact (S4.out.kept g45 (by simpa using hm)).kept R0.out.2 (by simp)
  have B6 : Hid (Below w.heap.size w w6) := B5.out.grown R0.out.2 (by have := B4.out.size; omega) (fun k e => by cases e)
  have FR : Hid (∀ k, Fp w.heap.size g2 w2.heap.size (fun _ => none) k → k ≠ w4.heap.size) := fun k hk => by
    have := G24.out.2
    have := O2.out.2.2
    have := B02.out.size
    rcases hk with e | e | e | ⟨_, _, e, _⟩
    · omega
    · omega
    · omega
    · cases e
  have MR : Hid (mb ≠ w2.heap.size ∧ w4.heap.size ≠ w2.heap.size ∧ w.heap.size ≤ w4.heap.size) := by
    have := HP.out.apart3.2.2.2.2
    have := B02.out.size
    have := G24.out.2
    exact ⟨by omega, by omega, by omega⟩
  have RG0 : Hid (Rg w6 mb w4.heap.size N T (fun p => (T p).isSome) cnt0) := R0.out.1
  have hge2 : w.heap.size ≤ w2.heap.size := B02.out.size
  clear R0 z5 B5 B4 B3 X4 S4 G24 O2 X2 B02 hmk2 e0 e1 e2 e3 e4 k1 q4' p0 p1 p2 p3 p4 f0 f1 q1' X1 z2 Z1
  generalize w4.heap.size = r at *
  generalize w2.heap.size = mb2 at *
  go_frame
  go_loopw [] (fun wr => ∃ (left : Int → Bool) (cnt : Nat) (ks : List Int) (T2 : Int → Option Hd), Hid (Rg wr mb r N T left cnt) ∧ Hid (DkP wr w.heap.size w.heap.size ks.length D (fun q => if q ∈ ks then W q else []) up done fuse g2 c2 mb2 T2) ∧ Hid (Got T left ks) ∧ Hid (Below w.heap.size w wr) ∧ Hid (∀ k, Fp w.heap.size g2 mb2 T2 k → k ≠ r) ∧ ks.length + cnt ≤ N)
      (fun wr => wr.rangeLeft mb r)
  case atStart => exact ⟨_, cnt0, [], _, RG0, (by show DkP _ _ _ _ _ _ _ _ _ _ _ _ _; simpa using P0.out), Got.nil T, B6, FR, (by have := RG0.out.cnt_le; simpa using this)⟩
  case round =>
    obtain ⟨left, cnt, ks, T2, RG, P2, GT, BW, FW, hlc⟩ := hrel
    go_wp2_with (first | (at_next; refine wpList_next_sc rfl (.tmp 28) rfl mb r N T left cnt rfl RG.out ?_ ?_))
    · intro _ hl0
      have HL0 : Hid (∀ q, left q = false) := hl0
      clear hl0
      go_wp2_with fail
      go_ret
      have eW : (fun q => if q ∈ ks then W q else []) = W := by
        funext q
        by_cases hq : q ∈ ks
        · rw [if_pos hq]
        · rw [if_neg hq]
          have hT : T q = none := by
            cases hTq : T q with
            | none => rfl
            | some x => exact absurd ((GT.out.mem HL0.out q).2 (by rw [hTq]; rfl)) hq
          exact ((HP.out.nil q).1 hT).symm
      have p := P2.out
      rw [eW] at p
      refine ⟨w.heap.size, g2, c2, mb2, T2, rfl, ⟨p.hb, p.hm, p.cell, p.dur, p.is64, p.mp.mono (by omega), p.nil, p.row, p.apart⟩, BW.out⟩
    · intro q xg xn xc w3 cnt1 hql hlq hTq hrg1 hlt hg1 hs1 hen
      obtain ⟨_, ⟨g, c, ex, hgd⟩, hown, h64⟩ := HP.out.row q (xg, xn, xc) hTq
      simp only [Prod.mk.injEq] at ex
      obtain ⟨rfl, rfl, rfl⟩ := ex
      have hne : W q ≠ [] := fun e => by have := (HP.out.nil q).2 e; rw [this] at hTq; cases hTq
      have R1 : Hid (Rg w3 mb r N T (fun z => left z && !decide (z = q)) cnt1) := hrg1
      have T1 : Hid (Got T (fun z => left z && !decide (z = q)) (ks ++ [q])) := GT.out.more hlq hTq
      have QN : Hid (q ∉ ks) := fun hm => by have := GT.out.rest q; rw [hlq] at this; simp [hm] at this
      have BW3 : Hid (Below w.heap.size w w3) := BW.out.grown hg1 BW.out.size (fun k e => by have := Option.some.inj e; have := MR.out.2.2; omega)
      have P3 : Hid (DkP w3 w.heap.size w.heap.size ks.length D (fun q => if q ∈ ks then W q else []) up done fuse g2 c2 mb2 T2) := P2.out.kept hg1.size (fun k hk => hg1.block k (P2.out.fp_lt k hk).1 (by have := FW.out k hk; simpa using this)) hg1.os hg1.tape hg1.output
      have KC : Hid (∀ Wd, Below w3.heap.size w3 Wd → Calls Try.prog 32 #[.slice (some ⟨g, 0, none⟩) (W q).length xc] Wd fun e w' => ∃ g' c', e = .returned (.slice (some ⟨g', 0, none⟩) (W q).length c') ∧ OwnB w' Wd.heap.size (.slice (some ⟨g', 0, none⟩) (W q).length c') (W q) ∧ Below Wd.heap.size Wd w') := fun Wd hbd => clone_blocks Wd h g (W q).length xc (W q) rfl (by cases hw : W q with | nil => exact absurd hw hne | cons a l => simp) (HWL.out q) h64 ((hown.keep BW3.out).keep hbd)
      have HQ : Hid (InI q ∧ W q ≠ [] ∧ Is64 (W q)) := ⟨hql, hne, h64⟩
      have LT : Hid (cnt1 < cnt) := hlt
      have ZW : Hid (r < w3.heap.size) := R1.out.lt
      obtain ⟨d0, d1, d2, d3, d4⟩ := d5_of P3.out.cell
      simp only [hv] at hen ⊢
      have RGL : Hid (wr.rangeLeft mb r = cnt) := RG.out.left_eq
      clear hrg1 hTq hlq hg1 hs1 hgd h64 hlt hql hne hown RG P2 BW
      go_wp2_with fail
      refine wp_region_noPanic ?_
      refine wp_region_held_drew (S := (fun Wd : World => Wd.cell? ⟨w.heap.size, 1, none⟩ = some (.map (some mb2)))) (by kernel_rfl) ?hSa (fun hHeld => ?resta)
      case hSa => exact d1
      case resta =>
        refine wpAnyH_take (i := 0) (v := .pointer (some ⟨w.heap.size, 1, none⟩)) rfl (by kernel_rfl) (by kernel_rfl) (by kernel_rfl) (fun _ _ _ h => h) (Or.inl ⟨by rfl, ?hy0⟩) hHeld ?rest0
        case hy0 => (intro w hSw; (try dsimp only at hSw); clear hSw; go_simp; try with_reducible rfl)
        try simp only [Act.put, List.setIfInBounds_toArray, List.set_cons_zero, List.set_cons_succ, List.getElem_toArray, List.getElem_cons_zero]
        refine wpAnyH_take (i := 1) (v := .map (some mb2)) rfl (by kernel_rfl) (by kernel_rfl) (by kernel_rfl) (fun _ _ _ h => h) (Or.inl ⟨by rfl, ?hy1⟩) hHeld ?rest1
        case hy1 => (intro w hSw; have hS1 := hSw; clear hSw; go_simp; try with_reducible rfl)
        try simp only [Act.put, List.setIfInBounds_toArray, List.set_cons_zero, List.set_cons_succ, List.getElem_toArray, List.getElem_cons_zero, List.getElem_cons_succ]
        refine wpAnyH_take (i := 2) (v := .int .i64 q) rfl (by kernel_rfl) (by kernel_rfl) (by kernel_rfl) (fun _ _ _ h => h) (Or.inl ⟨by rfl, ?hy2⟩) hHeld ?rest2
        case hy2 => (intro w hSw; (try dsimp only at hSw); clear hSw; go_simp; try with_reducible rfl)
        try simp only [Act.put, List.setIfInBounds_toArray, List.set_cons_zero, List.set_cons_succ, List.getElem_toArray, List.getElem_cons_zero, List.getElem_cons_succ]
        refine wpAnyH_take (i := 3) (v := .slice (some ⟨g, 0, none⟩) (W q).length xc) rfl (by kernel_rfl) (by kernel_rfl) (by kernel_rfl) (fun _ _ _ h => h) (Or.inl ⟨by rfl, ?hy3⟩) hHeld ?rest3
        case hy3 => (intro w hSw; (try dsimp only at hSw); clear hSw; go_simp; try with_reducible rfl)
        try simp only [Act.put, List.setIfInBounds_toArray, List.set_cons_zero, List.set_cons_succ, List.getElem_toArray, List.getElem_cons_zero, List.getElem_cons_succ]
        refine wpAnyH_ready (rs := [4]) (by kernel_rfl) (by simp) ?_
        refine AllReadyH.cons rfl (fun K hK => ?_) AllReadyH.nil
        go_simp
        refine (KC.out _ (by exact ⟨rfl, rfl, rfl, Nat.le_refl _, fun _ _ => rfl⟩)).mono ?_
        rintro e w5 ⟨g', c', rfl, o5, b5⟩
        have B35 : Hid (Below w3.heap.size w3 w5) := ⟨b5.os, b5.tape, b5.output, b5.size, b5.block⟩
        have O5 : Hid (OwnB w5 w3.heap.size (.slice (some ⟨g', 0, none⟩) (W q).length c') (W q)) := o5
        have S5 : Hid (Sc w5 mb2 ks.length T2) := P3.out.mp.keep B35.out
        have D5' : Hid (w5.cell? ⟨w.heap.size, 1, none⟩ = some (.map (some mb2))) := (B35.out.cell (p := ⟨w.heap.size, 1, none⟩) (World.block_lt_of_cell? _ _ d1)).trans d1
        clear o5 b5
        refine hK.out _ _ ?hS4 (fun hHeld => ?rest4)
        case hS4 => exact D5'.out
        clear hK K
        try simp only [Act.put, List.setIfInBounds_toArray, List.set_cons_zero, List.set_cons_succ, List.getElem_toArray, List.getElem_cons_zero, List.getElem_cons_succ]
        refine wpAnyH_ready (rs := [5]) (by kernel_rfl) (by simp) ?_
        refine AllReadyH.cons rfl (fun K hK => ?_) AllReadyH.nil
        refine wp_put_sc (.tmp 35) (.tmp 36) (.tmp 38) rfl mb2 ks.length T2 rfl S5.out (by omega) q HQ.out.1 (g' + 1, (W q).length, c') rfl rfl ?_
        intro w6 s6 hg6
        have E6 : Hid (DkP w6 w.heap.size w.heap.size (ks.length + 1) D (fun j => if j = q then W q else (if j ∈ ks then W j else [])) up done fuse g2 c2 mb2 (fun z => if z = q then some (g' + 1, (W q).length, c') else T2 z)) := P3.out.laid B35.out q HQ.out.1 (W q) HQ.out.2.1 HQ.out.2.2 g' c' BW3.out.size O5.out s6 hg6
        have R6 : Hid (Rg w6 mb r N T (fun z => left z && !decide (z = q)) cnt1) := (R1.out.keep B35.out).kept hg6 (by have := MR.out.1; simpa using this) (by have := MR.out.2.1; simpa using this)
        have F6 : Hid (Below w.heap.size w w6) := (BW3.out.trans (B35.out.mono BW3.out.size)).grown hg6 (Nat.le_trans BW3.out.size B35.out.size) (fun k e => by have := Option.some.inj e; omega)
        have C6 : Hid (w6.cell? ⟨w.heap.size, 1, none⟩ = some (.map (some mb2))) := (World.cell?_of_block (a := ⟨w.heap.size, 1, none⟩) (hg6.block _ (World.block_lt_of_cell? _ _ D5'.out) (by have := P3.out.apart3.1; simpa using this))).trans D5'.out
        have FR6 : Hid (∀ k, Fp w.heap.size g2 mb2 (fun z => if z = q then some (g' + 1, (W q).length, c') else T2 z) k → k ≠ r) := fun k hk => by
          rcases hk with e | e | e | ⟨z, y, hy, e⟩
          · exact FW.out k (.inl e)
          · exact FW.out k (.inr (.inl e))
          · exact FW.out k (.inr (.inr (.inl e)))
          · by_cases hz : z = q
            · simp only [if_pos hz] at hy
              obtain rfl := Option.some.inj hy
              have e2 : g' = k := by simpa using e
              have := (O5.out.own g' rfl).1
              have := ZW.out
              omega
            · simp only [if_neg hz] at hy
              exact FW.out k (.inr (.inr (.inr ⟨z, y, hy, e⟩)))
        clear s6 hg6
        refine hK.out _ _ ?hS5 (fun hHeld => ?rest5)
        case hS5 => exact C6.out
        clear hK K
        try simp only [Act.put, List.setIfInBounds_toArray, List.set_cons_zero, List.set_cons_succ, List.getElem_toArray, List.getElem_cons_zero, List.getElem_cons_succ]
        refine wpAnyH_done (by kernel_rfl) ?_ _
        refine NoPanic.normal ?_
        have eW : (fun j => if j = q then W q else (if j ∈ ks then W j else [])) = (fun z => if z ∈ ks ++ [q] then W z else []) := by
          funext z
          by_cases hz : z = q
          · simp [hz]
          · by_cases hk : z ∈ ks <;> simp [hz, hk]
        have E7 : Hid (DkP w6 w.heap.size w.heap.size (ks ++ [q]).length D (fun z => if z ∈ ks ++ [q] then W z else []) up done fuse g2 c2 mb2 (fun z => if z = q then some (g' + 1, (W q).length, c') else T2 z)) := by
          have := E6.out
          rw [eW] at this
          rw [List.length_append]
          exact this
        clear E6 eW D5' O5 S5 B35
        go_wp2_with fail
        go_roundw
        case rel => exact ⟨_, cnt1, ks ++ [q], _, R6, E7, T1, F6, FR6, (by have := LT.out; simp; omega)⟩
        case measure => rw [R6.out.left_eq, RGL.out]; exact LT.out
end Go.Proofs.Ytibgfjnddhfgpaa
