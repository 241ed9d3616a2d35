/- DiskTwins' walk. Written by gen_twins.py. -/
import Derived.Test.YtibgfjnddhfgpaaDkOn
import Derived.Test.YtibgfjnddhfgpaaDkWa
namespace Go.Proofs.Ytibgfjnddhfgpaa
open Go.ChangeShapes Go.WideShapes Go.ChangeAt Go.RowKit Go.Deep Go.Maps
set_option linter.unusedVariables false
theorem two_copy {w wr : World} {P : Nat → Prop} {b N : Nat} {s : Ds} (T : One w wr P b N s) (hN : N ≤ 1000000) :
    Calls Try.prog 11 #[.pointer (some ⟨b, 0, none⟩)] wr fun e w' => ∃ b2, e = .returned (.pointer (some ⟨b2, 0, none⟩)) ∧ Two w w' (fun _ => False) b2 b N s s := by
  obtain ⟨F, hx, h2, h4, h5⟩ := T
  refine (dk_copy wr F b N s hx hN).mono ?_
  rintro e w' ⟨b2, F2, rfl, hd, hb, hF2⟩
  exact ⟨b2, rfl, F2, F, hd, hx.keep hb, fun k hk hF => by have := hF2 k hk; have := hx.lt k hF; omega, fun k hk => Nat.le_trans h4.size (hF2 k hk), h2, h4.trans (hb.mono h4.size), fun k hk => hk.elim⟩
theorem two_writeZ {w wr : World} {P : Nat → Prop} {bx bY N : Nat} {xs ys : Ds} (T : Two w wr P bx bY N xs ys) (hN : N < 1000000) (i : Int) (g c : Nat) (C : List Int) (base : Nat) (ho : Owned wr base (.slice (some ⟨g, 0, none⟩) 64 c) C) (hC : C.length = 64) (hB : IsBytes C) (hg : P g) :
    Calls Try.prog 12 #[.pointer (some ⟨bx, 0, none⟩), .int .i64 i, .slice (some ⟨g, 0, none⟩) 64 c] wr fun e w' => e = .returned (.int .i64 (xs.wr i C).1) ∧ Two w w' P bx bY (N + 1) (xs.wr i C).2 ys ∧ (∀ k, P k → w'.heap[k]? = wr.heap[k]?) ∧ wr.heap.size ≤ w'.heap.size := by
  obtain ⟨Fx, Fy, hx, hy, h1, h2, h3, h4, h5⟩ := T
  refine (dk_write wr Fx bx N xs hx hN i _ 64 c C hC hB ho.holds.1 (fun x e _ => by cases e; exact fun e => (h5 g hg).2.1 (by have e2 : g = bx := e; rw [e2]; exact hx.b))).mono ?_
  rintro e w' ⟨rfl, F', hx', hs⟩
  obtain ⟨q1, q2⟩ := Two.step hy h1 h2 h3 h4 h5 hx' hs (Nat.le_succ N)
  exact ⟨rfl, q1, q2, hs.off.size⟩
theorem two_flushZ {w wr : World} {P : Nat → Prop} {bx bY N : Nat} {xs ys : Ds} (T : Two w wr P bx bY N xs ys) (hN : N < 1000000) :
    Calls Try.prog 13 #[.pointer (some ⟨bx, 0, none⟩)] wr fun e w' => e = .returned (.int .i64 (xs.fl).1) ∧ Two w w' P bx bY (N + 1) (xs.fl).2 ys ∧ (∀ k, P k → w'.heap[k]? = wr.heap[k]?) ∧ wr.heap.size ≤ w'.heap.size := by
  obtain ⟨Fx, Fy, hx, hy, h1, h2, h3, h4, h5⟩ := T
  refine (dk_flush wr Fx bx N xs hx hN).mono ?_
  rintro e w' ⟨rfl, F', hx', hs⟩
  obtain ⟨q1, q2⟩ := Two.step hy h1 h2 h3 h4 h5 hx' hs (Nat.le_succ N)
  exact ⟨rfl, q1, q2, hs.off.size⟩
theorem two_crashZ {w wr : World} {P : Nat → Prop} {bx bY N : Nat} {xs ys : Ds} (T : Two w wr P bx bY N xs ys) (hN : N ≤ 1000000) (ka : Option Addr) (kl kc : Nat) (keep : List Int) (hkl : keep.length = kl) (hin : InK w ka keep) :
    Calls Try.prog 20 #[.pointer (some ⟨bx, 0, none⟩), .slice ka kl kc] wr fun e w' => e = .returned (.int .i64 0) ∧ Two w w' P bx bY N (xs.cr keep) ys ∧ (∀ k, P k → w'.heap[k]? = wr.heap[k]?) ∧ wr.heap.size ≤ w'.heap.size := by
  obtain ⟨Fx, Fy, hx, hy, h1, h2, h3, h4, h5⟩ := T
  refine (dk_crash wr Fx bx N xs hx hN ka kl kc keep hkl (hin.kept fun x hx hK => h4.block _ (hin.lt x hx hK)) (fun x hx hK hF => by have := hin.lt x hx hK; have := h2 _ hF; omega)).mono ?_
  rintro e w' ⟨rfl, F', hx', hs⟩
  obtain ⟨q1, q2⟩ := Two.step hy h1 h2 h3 h4 h5 hx' hs (Nat.le_refl N)
  exact ⟨rfl, q1, q2, hs.off.size⟩
theorem two_waiting {w wr : World} {P : Nat → Prop} {bx bY N : Nat} {xs ys : Ds} (T : Two w wr P bx bY N xs ys) (hN : N ≤ 1000000) : Calls Try.prog 23 #[.pointer (some ⟨bx, 0, none⟩)] wr fun e w' => ∃ g c, e = .returned (.slice (some ⟨g, 0, none⟩) (wa xs.D.length xs.W).length c) ∧ InW w' (some ⟨g, 0, none⟩) (wa xs.D.length xs.W) ∧ wr.heap.size ≤ g ∧ Below wr.heap.size wr w' := by
  obtain ⟨Fx, Fy, hx, _⟩ := T
  exact dk_waiting wr Fx bx N xs hx hN
set_option linter.unusedSimpArgs false in
set_option maxRecDepth 100000 in
set_option maxHeartbeats 16000000 in
theorem diskTwins_walk (a : Option Addr) (len cap : Nat) (A : Nat → Av) (a2 : Option Addr) (len2 cap2 : Nat) (A2 : Nat → Av) (w : World) (hA : InA w a len A) (hA2 : InA w a2 len2 A2) :
    Calls Try.prog 8 #[.slice a len cap, .slice a2 len2 cap2] w fun e w' => e = .returned (.bool true) ∧ Below w.heap.size w w' := by
  have HA : Hid (InA w a len A) := hA
  have HA2 : Hid (InA w a2 len2 A2) := hA2
  clear hA hA2
  go_enter Try.func8, Try.ntmps8
  go_wp2_with fail
  refine (begun_is _ len cap A w HA.out).mono ?_
  rintro e w1 ⟨F, b, N, Bn, s, sl, rfl, BG0, hN60⟩
  have BG : Hid (Bg w w1 F b N Bn s sl) := BG0
  have Z8 : Hid ((strs s.D).size = 8 ∧ sl.toArray.size = 8) := ⟨by rw [strs_size]; exact BG0.l8, by have := BG0.svl; simpa using this⟩
  have A8 : Hid ((strs s.D).all (·.oneCell') = true ∧ sl.toArray.all (·.oneCell') = true) := by
    refine ⟨strs_one _, ?_⟩
    rw [Array.all_eq_true_iff_forall_mem]
    intro v hv
    obtain ⟨k, hk⟩ := List.mem_iff_getElem?.1 (show v ∈ sl by simpa using hv)
    rcases (BG0.row k v hk).2 with ⟨e, _⟩ | ⟨g, c, cur, e, _⟩ <;> (rw [e]; rfl)
  have H8 : Hid (((w1.alloc (.cells #[Value.string ⟨#[]⟩, Value.string ⟨#[]⟩, Value.string ⟨#[]⟩, Value.string ⟨#[]⟩, Value.string ⟨#[]⟩, Value.string ⟨#[]⟩, Value.string ⟨#[]⟩, Value.string ⟨#[]⟩] 45)).alloc (.cells #[Value.slice none 0 0, Value.slice none 0 0, Value.slice none 0 0, Value.slice none 0 0, Value.slice none 0 0, Value.slice none 0 0, Value.slice none 0 0, Value.slice none 0 0] 47)).heap[w1.heap.size]? = some (.cells #[Value.string ⟨#[]⟩, Value.string ⟨#[]⟩, Value.string ⟨#[]⟩, Value.string ⟨#[]⟩, Value.string ⟨#[]⟩, Value.string ⟨#[]⟩, Value.string ⟨#[]⟩, Value.string ⟨#[]⟩] 45)) := (Below.heap_alloc _ _ _ (by simp)).trans (heap_alloc_new w1 _)
  have H9 : Hid (((w1.alloc (.cells #[Value.string ⟨#[]⟩, Value.string ⟨#[]⟩, Value.string ⟨#[]⟩, Value.string ⟨#[]⟩, Value.string ⟨#[]⟩, Value.string ⟨#[]⟩, Value.string ⟨#[]⟩, Value.string ⟨#[]⟩] 45)).alloc (.cells #[Value.slice none 0 0, Value.slice none 0 0, Value.slice none 0 0, Value.slice none 0 0, Value.slice none 0 0, Value.slice none 0 0, Value.slice none 0 0, Value.slice none 0 0] 47)).heap[w1.heap.size + 1]? = some (.cells #[Value.slice none 0 0, Value.slice none 0 0, Value.slice none 0 0, Value.slice none 0 0, Value.slice none 0 0, Value.slice none 0 0, Value.slice none 0 0, Value.slice none 0 0] 47)) := by
    have := heap_alloc_new (w1.alloc (.cells #[Value.string ⟨#[]⟩, Value.string ⟨#[]⟩, Value.string ⟨#[]⟩, Value.string ⟨#[]⟩, Value.string ⟨#[]⟩, Value.string ⟨#[]⟩, Value.string ⟨#[]⟩, Value.string ⟨#[]⟩] 45)) (.cells #[Value.slice none 0 0, Value.slice none 0 0, Value.slice none 0 0, Value.slice none 0 0, Value.slice none 0 0, Value.slice none 0 0, Value.slice none 0 0, Value.slice none 0 0] 47)
    rw [show (w1.alloc (.cells #[Value.string ⟨#[]⟩, Value.string ⟨#[]⟩, Value.string ⟨#[]⟩, Value.string ⟨#[]⟩, Value.string ⟨#[]⟩, Value.string ⟨#[]⟩, Value.string ⟨#[]⟩, Value.string ⟨#[]⟩] 45)).heap.size = w1.heap.size + 1 by simp] at this
    exact this
  have B9 : Hid (Below w1.heap.size w1 ((w1.alloc (.cells #[Value.string ⟨#[]⟩, Value.string ⟨#[]⟩, Value.string ⟨#[]⟩, Value.string ⟨#[]⟩, Value.string ⟨#[]⟩, Value.string ⟨#[]⟩, Value.string ⟨#[]⟩, Value.string ⟨#[]⟩] 45)).alloc (.cells #[Value.slice none 0 0, Value.slice none 0 0, Value.slice none 0 0, Value.slice none 0 0, Value.slice none 0 0, Value.slice none 0 0, Value.slice none 0 0, Value.slice none 0 0] 47))) := (below1 w1 _).trans ((below1 _ _).mono (by simp))
  clear BG0
  generalize hst : strs s.D = st at *
  generalize hsa : sl.toArray = sa at *
  have HST : Hid (strs s.D = st ∧ sl.toArray = sa) := ⟨hst, hsa⟩
  clear hst hsa
  go_wp2_with (first | (refine wpList_store_row rfl 45 (.tmp 6) (.tmp 20) rfl w1.heap.size st rfl rfl 45 _ H8.out (by rw [Z8.out.1]; exact size45) (by rw [Z8.out.1]; rfl) A8.out.1 ?_) | (refine wpList_store_row rfl 47 (.tmp 7) (.tmp 21) rfl (w1.heap.size + 1) sa rfl rfl 47 _ ((setRow_other _ _ _ _ (by omega)).trans H9.out) (by rw [Z8.out.2]; exact size47) (by rw [Z8.out.2]; rfl) A8.out.2 ?_; generalize hW2 : World.setRow _ _ _ = w2; have S2 : Hid (w2.heap[w1.heap.size]? = some (.cells st 45) ∧ w2.heap[w1.heap.size + 1]? = some (.cells sa 47) ∧ Below w1.heap.size w1 w2) := (by rw [← hW2]; exact ⟨(setRow_other _ _ _ _ (by omega)).trans (setRow_heap _ _ _ _ _ _ H8.out), setRow_heap _ _ _ _ _ _ ((setRow_other _ _ _ _ (by omega)).trans H9.out), below_setRow (below_setRow B9.out (Nat.le_refl _) _) (by omega) _⟩); clear hW2))
  have T2 : Hid (One w w2 (fun _ => False) b N s) := (BG.out.one.keep S2.out.2.2).less (fun _ hk => hk.elim)
  have E2 : Hid (s.up = true ∧ s.D.length = 8) := ⟨BG.out.up, BG.out.l8⟩
  clear BG S2 H8 H9 B9 Z8 A8 HST
  refine (two_copy T2.out (by omega)).mono ?_
  rintro e w3 ⟨bc, rfl, t3⟩
  have T3 : Hid (Two w w3 (fun _ => False) bc b N s s) := t3
  clear t3 T2
  go_wp2_with fail
  refine (two_image T3.out.swap).mono ?_
  rintro e w4 ⟨g1, V1, rfl, hV1, im1, b4⟩
  rw [E2.out.2] at hV1 im1 ⊢
  have T4 : Hid (Two w w4 (fun k => False ∨ (w3.heap.size ≤ k ∧ k < w4.heap.size)) bc b N s s) := T3.out.keep b4
  have I4 : Hid (Img w4 w3.heap.size g1 8 V1 s.D) := im1
  have z34 := b4.size
  clear im1 b4 T3
  go_wp2_with fail
  refine (two_waiting T4.out.swap (by omega)).mono ?_
  rintro e w5 ⟨gw, cw, rfl, inw, hgw, b5⟩
  rw [E2.out.2] at inw ⊢
  obtain ⟨lw, hlw⟩ : ∃ lw, wa 8 s.W = lw := ⟨_, rfl⟩
  rw [hlw] at inw ⊢
  have HLW : Hid (wa 8 s.W = lw) := hlw
  have z45 := b5.size
  have T5 : Hid (Two w w5 (fun k => w3.heap.size ≤ k ∧ k < w5.heap.size) bc b N s s) := (T4.out.keep b5).less (fun k hk => by
    rcases Nat.lt_or_ge k w4.heap.size with h | h
    · exact .inl (.inr ⟨hk.1, h⟩)
    · exact .inr ⟨h, hk.2⟩)
  have I5 : Hid (Img w5 w3.heap.size g1 8 V1 s.D ∧ InW w5 (some ⟨gw, 0, none⟩) lw ∧ (lw = [] ∨ gw < w5.heap.size) ∧ w4.heap.size ≤ gw) := by
    refine ⟨I4.out.keep b5, inw, ?_, hgw⟩
    rcases inw with h0 | ⟨g', o', e, hg', _⟩
    · exact .inl h0
    · cases e; exact .inr hg'
  have IMK : Hid (∀ W W' : World, Img W w3.heap.size g1 8 V1 s.D → InW W (some ⟨gw, 0, none⟩) lw → W.heap.size ≤ W'.heap.size → (∀ k, (w3.heap.size ≤ k ∧ k < w5.heap.size) → W'.heap[k]? = W.heap[k]?) → Img W' w3.heap.size g1 8 V1 s.D ∧ InW W' (some ⟨gw, 0, none⟩) lw) := by
    intro W W' h hw hs hp
    refine ⟨h.kept fun k hk => hp k ?_, ?_⟩
    · have l4 := I5.out.1.lt
      rcases hk with rfl | ⟨p, hp, rfl⟩
      · exact ⟨l4.1, l4.2.1⟩
      · exact l4.2.2 p hp
    · rcases I5.out.2.2.1 with h0 | h0
      · exact .inl h0
      · exact hw.kept (hp gw ⟨by have := I5.out.2.2.2; omega, h0⟩) hs
  have LW : Hid (lw.length ≤ 8) := by
    rw [← hlw]
    show (wa 8 s.W).length ≤ 8
    rw [wa_len]
    have := List.length_filter_le (fun i : Nat => !(s.W (i : Int)).isEmpty) (List.range 8)
    rw [List.length_range] at this
    exact this
  clear inw hgw b5 T4 I4 hlw
  go_wp2_with fail
  go_loopg [12] 20 (fun gg iv wr => ∃ (i : Nat) (x : Ds), i ≤ 20 ∧ gg = 20 - i ∧ iv = .int .i64 (i : Int) ∧ Hid (Two w wr (fun k => w3.heap.size ≤ k ∧ k < w5.heap.size) bc b (N + 2 * i) x s) ∧ Hid (Img wr w3.heap.size g1 8 V1 s.D ∧ InW wr (some ⟨gw, 0, none⟩) lw))
  case atStart => exact ⟨0, s, by omega, rfl, rfl, T5, I5.out.1, I5.out.2.1⟩
  case round =>
    obtain ⟨i, x, hi60, rfl, rfl, TW, IW⟩ := hrel
    clear T5 I5
    by_cases hil : i < len2 ∧ i < 20
    · have e1 : decide ((i : Int) < (len2 : Int)) = true := by rw [decide_eq_true_eq]; omega
      have e2 : decide ((i : Int) < 20) = true := by rw [decide_eq_true_eq]; omega
      have ri : IntKind.i64.wrap ((i : Int) + 1) = (i : Int) + 1 := by rw [IntKind.wrap_i64]; omega
      have hkk := (HA2.out.2 i hil.1).2.2.2.2
      have HKK : Hid ((A2 i).z.length = (A2 i).kl ∧ InK w (A2 i).ka (A2 i).z) := hkk
      clear hkk
      have hia := HA2.out.below TW.out.below
      obtain ⟨ab, off, rfl, hab, hcells⟩ := hia.1 (by omega)
      obtain ⟨c0, c1, c2, c3, c4⟩ := hcells i hil.1
      obtain ⟨b0, b1, b2, b3, b4, b5⟩ := hia.2 i hil.1
      generalize A2 i = v at *
      obtain ⟨vk, va, vn, vl, vka, vkl, vkc, vz⟩ := v
      simp only at c0 c1 c2 c3 c4 b0 b1 b2 b3 HKK
      clear hia hcells b4 b5
      obtain ⟨k, hk, hk8, hk1, hk2⟩ := mod_in8 va
      have s1 : IntKind.i64.wrap (Int.tmod va 8) = Int.tmod va 8 := by rw [IntKind.wrap_i64]; omega
      have s2 : IntKind.i64.wrap (Int.tmod va 8 + 8) = Int.tmod va 8 + 8 := by rw [IntKind.wrap_i64]; omega
      have s3 : IntKind.i64.wrap (k : Int) = (k : Int) := by rw [IntKind.wrap_i64]; omega
      have KB : Hid (∀ W, Calls Try.prog 25 #[.agg #[.int .i64 vk, .int .i64 va, .int .i64 vn, .int .i64 0, .slice vka vkl vkc]] W fun e w' => ∃ g, e = .returned (.slice (some ⟨g, 0, none⟩) 64 64) ∧ Owned w' W.heap.size (.slice (some ⟨g, 0, none⟩) 64 64) (bL vn 0) ∧ Below W.heap.size W w') := fun W => bytesOf_is vk va vn 0 (.slice vka vkl vkc) b2 (by omega) rfl W
      obtain ⟨C, hCe⟩ : ∃ C, bL vn 0 = C := ⟨_, rfl⟩
      have C64 : Hid (C.length = 64 ∧ IsBytes C) := by rw [← hCe]; exact ⟨by simp [bL, bN_zero], bL_bytes vn 0⟩
      rw [hCe] at KB
      clear hCe
      go_wp2_with fail
      obtain ⟨W1, hW1⟩ : ∃ W1, wr.alloc (.cells #[.int .i64 vk, .int .i64 va, .int .i64 vn, .int .i64 0, .slice vka vkl vkc] 32) = W1 := ⟨_, rfl⟩
      rw [show World.alloc _ _ = W1 from hW1]
      have BX1 : Hid (W1.heap[wr.heap.size]? = some (bx5 vk va vn (.slice vka vkl vkc)) ∧ Below wr.heap.size wr W1 ∧ W1.heap.size = wr.heap.size + 1) := by
        rw [← hW1]
        exact ⟨heap_alloc_new wr _, below1 _ _, by simp⟩
      clear hW1
      refine wp_region_noPanic ?_
      refine wp_region_held_drew (S := (fun Wd : World => Wd.heap[wr.heap.size]? = some (bx5 vk va vn (.slice vka vkl vkc)))) (by kernel_rfl) ?hSa (fun hHeld => ?resta)
      case hSa => exact BX1.out.1
      case resta =>
        refine wpAnyH_take (i := 0) (v := .pointer (some ⟨bc, 0, none⟩)) rfl (by kernel_rfl) (by kernel_rfl) (by kernel_rfl) (fun _ _ _ h => h) (Or.inl ⟨by rfl, ?hy0⟩) hHeld ?rest0
        case hy0 => (intro w hSw; (try dsimp only at hSw); clear hSw; go_simp; try with_reducible rfl)
        try simp only [Act.put, List.setIfInBounds_toArray, List.set_cons_zero, List.set_cons_succ, List.getElem_toArray, List.getElem_cons_zero]
        refine wpAnyH_take (i := 1) (v := .pointer (some ⟨wr.heap.size, 1, none⟩)) rfl (by kernel_rfl) (by kernel_rfl) (by kernel_rfl) (fun _ _ _ h => h) (Or.inl ⟨by rfl, ?hy1⟩) hHeld ?rest1
        case hy1 => (intro w hSw; (try dsimp only at hSw); clear hSw; go_simp; try with_reducible rfl)
        try simp only [Act.put, List.setIfInBounds_toArray, List.set_cons_zero, List.set_cons_succ, List.getElem_toArray, List.getElem_cons_zero, List.getElem_cons_succ]
        refine wpAnyH_take (i := 2) (v := .int .i64 va) rfl (by kernel_rfl) (by kernel_rfl) (by kernel_rfl) (fun _ _ _ h => h) (Or.inl ⟨by rfl, ?hy2⟩) hHeld ?rest2
        case hy2 => (intro w hSw; obtain ⟨q0, q1, q2, q3, q4⟩ := bx5_cells hSw; clear hSw; go_simp; try with_reducible rfl)
        try simp only [Act.put, List.setIfInBounds_toArray, List.set_cons_zero, List.set_cons_succ, List.getElem_toArray, List.getElem_cons_zero, List.getElem_cons_succ]
        refine wpAnyH_take (i := 3) (v := .int .i64 (Int.tmod va 8)) rfl (by kernel_rfl) (by kernel_rfl) (by kernel_rfl) (fun _ _ _ h => h) (Or.inl ⟨by rfl, ?hy3⟩) hHeld ?rest3
        case hy3 => (intro w hSw; (try dsimp only at hSw); clear hSw; go_simp; try with_reducible rfl)
        try simp only [Act.put, List.setIfInBounds_toArray, List.set_cons_zero, List.set_cons_succ, List.getElem_toArray, List.getElem_cons_zero, List.getElem_cons_succ]
        refine wpAnyH_take (i := 4) (v := .int .i64 (Int.tmod va 8 + 8)) rfl (by kernel_rfl) (by kernel_rfl) (by kernel_rfl) (fun _ _ _ h => h) (Or.inl ⟨by rfl, ?hy4⟩) hHeld ?rest4
        case hy4 => (intro w hSw; (try dsimp only at hSw); clear hSw; go_simp; try with_reducible rfl)
        try simp only [Act.put, List.setIfInBounds_toArray, List.set_cons_zero, List.set_cons_succ, List.getElem_toArray, List.getElem_cons_zero, List.getElem_cons_succ]
        refine wpAnyH_take (i := 5) (v := .int .i64 (k : Int)) rfl (by kernel_rfl) (by kernel_rfl) (by kernel_rfl) (fun _ _ _ h => h) (Or.inl ⟨by rfl, ?hy5⟩) hHeld ?rest5
        case hy5 => (intro w hSw; (try dsimp only at hSw); clear hSw; go_simp; try with_reducible rfl)
        try simp only [Act.put, List.setIfInBounds_toArray, List.set_cons_zero, List.set_cons_succ, List.getElem_toArray, List.getElem_cons_zero, List.getElem_cons_succ]
        refine wpAnyH_take (i := 6) (v := .agg #[.int .i64 vk, .int .i64 va, .int .i64 vn, .int .i64 0, .slice vka vkl vkc]) rfl (by kernel_rfl) (by kernel_rfl) (by kernel_rfl) (fun _ _ _ h => h) (Or.inl ⟨by rfl, ?hy6⟩) hHeld ?rest6
        case hy6 => (intro w hSw; obtain ⟨q0, q1, q2, q3, q4⟩ := bx5_cells hSw; clear hSw; go_simp; try with_reducible rfl)
        try simp only [Act.put, List.setIfInBounds_toArray, List.set_cons_zero, List.set_cons_succ, List.getElem_toArray, List.getElem_cons_zero, List.getElem_cons_succ]
        refine wpAnyH_ready (rs := [7]) (by kernel_rfl) (by simp) ?_
        refine AllReadyH.cons rfl (fun K hK => ?_) AllReadyH.nil
        go_simp
        refine (KB.out _).mono ?_
        rintro e wb ⟨g5, rfl, o5, b5⟩
        have hb5 : Below W1.heap.size W1 wb := ⟨b5.os, b5.tape, b5.output, b5.size, b5.block⟩
        have T6 : Hid (Two w wb (fun k => ((w3.heap.size ≤ k ∧ k < w5.heap.size) ∨ (wr.heap.size ≤ k ∧ k < W1.heap.size)) ∨ (W1.heap.size ≤ k ∧ k < wb.heap.size)) bc b (N + 2 * i) x s) := (TW.out.keep BX1.out.2.1).keep hb5
        have BX5 : Hid (wb.heap[wr.heap.size]? = some (bx5 vk va vn (.slice vka vkl vkc))) := (hb5.block _ (by have := BX1.out.2.2; omega)).trans BX1.out.1
        have I6 : Hid (Img wb w3.heap.size g1 8 V1 s.D ∧ InW wb (some ⟨gw, 0, none⟩) lw) := by
          have hb := BX1.out.2.1.trans (hb5.mono BX1.out.2.1.size)
          refine ⟨IW.out.1.keep hb, ?_⟩
          rcases IW.out.2 with h0 | ⟨g', o', e, hg', hc⟩
          · exact .inl h0
          · have e2 := e
            cases e
            exact InW.kept (.inr ⟨gw, 0, e2, hg', hc⟩) (hb.block gw hg') hb.size
        have O5 : Hid (Owned wb W1.heap.size (.slice (some ⟨g5, 0, none⟩) 64 64) C) := o5
        clear o5 b5 hb5
        refine hK.out _ _ ?hS7 (fun hHeld => ?rest7)
        case hS7 => exact BX5.out
        clear hK K
        try simp only [Act.put, List.setIfInBounds_toArray, List.set_cons_zero, List.set_cons_succ, List.getElem_toArray, List.getElem_cons_zero, List.getElem_cons_succ]
        refine wpAnyH_ready (rs := [8]) (by kernel_rfl) (by simp) ?_
        refine AllReadyH.cons rfl (fun K hK => ?_) AllReadyH.nil
        go_simp
        refine (two_writeZ T6.out (by omega) (k : Int) g5 64 C _ O5.out C64.out.1 C64.out.2 (.inr (World.ownsRow.lt O5.out g5 rfl))).mono ?_
        rintro e w6 ⟨rfl, t6, hp6, HZ6⟩
        have BX6 : Hid (w6.heap[wr.heap.size]? = some (bx5 vk va vn (.slice vka vkl vkc))) := (hp6 _ (.inl (.inr ⟨Nat.le_refl _, by have := BX1.out.2.2; omega⟩))).trans BX5.out
        have zz : wb.heap.size ≤ w6.heap.size := HZ6
        have I7 : Hid (Img w6 w3.heap.size g1 8 V1 s.D ∧ InW w6 (some ⟨gw, 0, none⟩) lw) := IMK.out wb w6 I6.out.1 I6.out.2 zz (fun k hk => hp6 k (.inl (.inl hk)))
        obtain ⟨x2, hx2⟩ : ∃ x2, (x.wr (k : Int) C).2 = x2 := ⟨_, rfl⟩
        have T7 : Hid (Two w w6 (fun k => (w3.heap.size ≤ k ∧ k < w5.heap.size) ∨ k = wr.heap.size) bc b (N + 2 * i + 1) x2 s) := hx2 ▸ t6.less (fun k hk => by
          rcases hk with h | h
          · exact .inl (.inl h)
          · exact .inl (.inr ⟨by omega, by have := BX1.out.2.2; omega⟩))
        clear t6 hp6 zz hx2 HZ6
        refine hK.out _ _ ?hS8 (fun hHeld => ?rest8)
        case hS8 => exact BX6.out
        clear hK K
        try simp only [Act.put, List.setIfInBounds_toArray, List.set_cons_zero, List.set_cons_succ, List.getElem_toArray, List.getElem_cons_zero, List.getElem_cons_succ]
        refine wpAnyH_done (by kernel_rfl) ?_ _
        refine NoPanic.normal ?_
        clear BX5 T6 I6 O5
        generalize Int.tmod va 8 = vm at *
        obtain ⟨d0, d1, d2, d3, d4⟩ := bx5_cells BX6.out
        have z6 : wr.heap.size < w6.heap.size := (Array.getElem?_eq_some_iff.1 BX6.out).1
        by_cases hk1' : vk = 1
        · subst hk1'
          go_wp2_with fail
          refine (two_flushZ T7.out (by omega)).mono ?_
          rintro e w8 ⟨rfl, t8, hp8, HZ8⟩
          have c8 : w8.cell? ⟨wr.heap.size, 0, none⟩ = some (.int .i64 1) := (World.cell?_of_block (a := ⟨wr.heap.size, 0, none⟩) (hp8 _ (.inr rfl))).trans d0
          have zz : w6.heap.size ≤ w8.heap.size := HZ8
          have I8 : Hid (Img w8 w3.heap.size g1 8 V1 s.D ∧ InW w8 (some ⟨gw, 0, none⟩) lw) := IMK.out w6 w8 I7.out.1 I7.out.2 zz (fun k hk => hp8 k (.inl hk))
          have T8 : Hid (Two w w8 (fun k => w3.heap.size ≤ k ∧ k < w5.heap.size) bc b (N + 2 * (i + 1)) (x2.fl).2 s) := (t8.less (fun k hk => .inl hk)).more (by omega)
          clear t8 hp8 zz HZ8 T7 I7 d0 d1 d2 d3 d4
          go_wp2_with fail
          go_roundg (20 - (i + 1))
          case measure => omega
          case rel => exact ⟨i + 1, _, by omega, rfl, by simp, T8, I8⟩
        · by_cases hk4 : vk = 4
          · subst hk4
            have CRK : Hid (InK w vka vz ∧ vz.length = vkl) := ⟨HKK.out.2, HKK.out.1⟩
            go_wp2_with fail
            refine (two_crashZ T7.out (by omega) vka vkl vkc vz CRK.out.2 CRK.out.1).mono ?_
            rintro e w8 ⟨rfl, t8, hp8, HZ8⟩
            have zz : w6.heap.size ≤ w8.heap.size := HZ8
            have I8 : Hid (Img w8 w3.heap.size g1 8 V1 s.D ∧ InW w8 (some ⟨gw, 0, none⟩) lw) := IMK.out w6 w8 I7.out.1 I7.out.2 zz (fun k hk => hp8 k (.inl hk))
            have T8 : Hid (Two w w8 (fun k => w3.heap.size ≤ k ∧ k < w5.heap.size) bc b (N + 2 * (i + 1)) (x2.cr vz) s) := (t8.less (fun k hk => .inl hk)).more (by omega)
            clear t8 hp8 zz HZ8 T7 I7 d0 d1 d2 d3 d4
            go_wp2_with fail
            go_roundg (20 - (i + 1))
            case measure => omega
            case rel => exact ⟨i + 1, _, by omega, rfl, by simp, T8, I8⟩
          · have e3 : (vk == 1) = false := by simp [hk1']
            have e4 : (vk == 4) = false := by simp [hk4]
            have T8 : Hid (Two w w6 (fun k => w3.heap.size ≤ k ∧ k < w5.heap.size) bc b (N + 2 * (i + 1)) x2 s) := (T7.out.less (fun k hk => .inl hk)).more (by omega)
            clear T7
            go_wp2_with fail
            go_roundg (20 - (i + 1))
            case measure => omega
            case rel => exact ⟨i + 1, _, by omega, rfl, by simp, T8, I7⟩
    · rcases (by omega : ¬ i < len2 ∨ (i < len2 ∧ ¬ i < 20)) with h0 | ⟨h0, h1⟩
      · have e1 : decide ((i : Int) < (len2 : Int)) = false := by rw [decide_eq_false_iff_not]; omega
        clear hil
        go_wp2_with fail
        refine (two_image TW.out.swap).mono ?_
        rintro e w7 ⟨g2, V2, rfl, hV2, im2, b7⟩
        rw [E2.out.2] at hV2 im2 ⊢
        have I7 : Hid (Img w7 w3.heap.size g1 8 V1 s.D ∧ Img w7 wr.heap.size g2 8 V2 s.D) := ⟨IW.out.1.keep b7, im2⟩
        have N7 : Hid (InW w7 (some ⟨gw, 0, none⟩) lw) := by
          rcases IW.out.2 with h0 | ⟨g', o', e, hg', hc⟩
          · exact .inl h0
          · have e2 := e
            cases e
            exact InW.kept (.inr ⟨gw, 0, e2, hg', hc⟩) (b7.block gw hg') b7.size
        have T7 : Hid (Two w w7 (fun _ => False) bc b (N + 2 * i) x s) := (TW.out.keep b7).less (fun _ hk => hk.elim)
        clear im2 b7 TW IW
        go_wp2_with fail
        go_loopg [73] 8 (fun gg jv wq => ∃ (j : Nat), j ≤ 8 ∧ gg = 8 - j ∧ jv = .int .i64 (j : Int) ∧ Hid (∃ q, wq = w7.drewN q))
        case atStart => exact ⟨0, by omega, rfl, rfl, 0, rfl⟩
        case round =>
          obtain ⟨j, hj8, rfl, rfl, HQ⟩ := hrel
          obtain ⟨q, rfl⟩ := HQ.out
          by_cases hj : j < 8
          · have f1 : decide ((j : Int) < 8) = true := by rw [decide_eq_true_eq]; omega
            obtain ⟨p1, hp1⟩ : ∃ p, V1[j]? = some p := ⟨_, List.getElem?_eq_getElem (by omega)⟩
            obtain ⟨p2, hp2⟩ : ∃ p, V2[j]? = some p := ⟨_, List.getElem?_eq_getElem (by omega)⟩
            obtain ⟨z1, hz1, ho1⟩ := I7.out.1.own j p1 hp1
            obtain ⟨z2, hz2, ho2⟩ := I7.out.2.own j p2 hp2
            obtain rfl : z1 = z2 := Option.some.inj (hz1.symm.trans hz2)
            have s64 : z1.length = 64 := by
              have := ho1.holds.2.1
              simpa [sv] using this
            have k1 : w7.cell? ⟨g1, j, none⟩ = some (.slice (some ⟨p1.1, 0, none⟩) 64 p1.2) := (I7.out.1.row.cellAt j (by omega)).trans (vlS_at V1 8 j p1 hp1)
            have k2 : w7.cell? ⟨g2, j, none⟩ = some (.slice (some ⟨p2.1, 0, none⟩) 64 p2.2) := (I7.out.2.row.cellAt j (by omega)).trans (vlS_at V2 8 j p2 hp2)
            have cv1 : ∀ q, (convert 35 9 (.slice (some ⟨p1.1, 0, none⟩) 64 p1.2)).run Try.prog (w7.drewN q) = .ok (.string (strOfNums z1)) (w7.drewN q) := fun q => conv_str (w := w7.drewN q) ho1.holds.1 _ _ s64
            have cv2 : ∀ q, (convert 35 9 (.slice (some ⟨p2.1, 0, none⟩) 64 p2.2)).run Try.prog (w7.drewN q) = .ok (.string (strOfNums z1)) (w7.drewN q) := fun q => conv_str (w := w7.drewN q) ho2.holds.1 _ _ s64
            have rj : IntKind.i64.wrap ((j : Int) + 1) = (j : Int) + 1 := by rw [IntKind.wrap_i64]; omega
            clear hp1 hp2 hz1 hz2 ho1 ho2 s64
            generalize strOfNums z1 = st at *
            obtain ⟨p1a, p1b⟩ := p1
            obtain ⟨p2a, p2b⟩ := p2
            simp only at k1 k2 cv1 cv2
            go_wp2_with fail
            go_quiet (fail)
            go_wp2_with fail
            go_roundg (8 - (j + 1))
            case measure => omega
            case rel => exact ⟨j + 1, by omega, rfl, by simp, _, rfl⟩
          · have f1 : decide ((j : Int) < 8) = false := by rw [decide_eq_false_iff_not]; omega
            obtain ⟨w8, hw8⟩ : ∃ w8, w7.drewN q = w8 := ⟨_, rfl⟩
            have BW8 : Hid (Below w7.heap.size w7 w8) := by rw [← hw8]; exact ⟨rfl, rfl, rfl, Nat.le_refl _, fun _ _ => rfl⟩
            rw [hw8]
            clear hw8 HQ
            have T8 : Hid (Two w w8 (fun _ => False) bc b (N + 2 * i) x s) := (T7.out.keep BW8.out).less (fun _ hk => hk.elim)
            have N8 : Hid (InW w8 (some ⟨gw, 0, none⟩) lw) := by
              rcases N7.out with h0 | ⟨g', o', e, hg', hc⟩
              · exact .inl h0
              · have e2 := e
                cases e
                exact InW.kept (.inr ⟨gw, 0, e2, hg', hc⟩) (BW8.out.block gw hg') BW8.out.size
            go_wp2_with fail
            refine (two_waiting T8.out.swap (by omega)).mono ?_
            rintro e w9 ⟨gv, cv, rfl, inv, hgv, b9⟩
            rw [E2.out.2] at inv ⊢
            rw [HLW.out] at inv ⊢
            have T9 : Hid (Two w w9 (fun _ => False) bc b (N + 2 * i) x s) := (T8.out.keep b9).less (fun _ hk => hk.elim)
            have N9 : Hid (InW w9 (some ⟨gv, 0, none⟩) lw ∧ InW w9 (some ⟨gw, 0, none⟩) lw) := by
              refine ⟨inv, ?_⟩
              rcases N8.out with h0 | ⟨g', o', e, hg', hc⟩
              · exact .inl h0
              · have e2 := e
                cases e
                exact InW.kept (.inr ⟨gw, 0, e2, hg', hc⟩) (b9.block gw hg') b9.size
            clear inv hgv b9 N8 T8
            go_wp2_with fail
            refine (waits_is lw lw.length _ _ _ _ w9 rfl (by have := LW.out; omega) N9.out.1 N9.out.2).mono ?_
            rintro e w10 ⟨rfl, q10, hq10⟩
            have T10 : Hid (Two w w10 (fun _ => False) bc b (N + 2 * i) x s) := by
              rw [hq10]
              exact (T9.out.keep (w' := w9.drewN q10) ⟨rfl, rfl, rfl, Nat.le_refl _, fun _ _ => rfl⟩).less (fun _ hk => hk.elim)
            clear hq10 T9 N9
            go_wp2_with fail
            refine (two_up T10.out.swap).mono ?_
            rintro e w11 ⟨rfl, hw⟩
            obtain rfl := hw.symm
            clear hw
            rw [E2.out.1]
            go_wp2_with fail
            go_ret
            exact ⟨rfl, T10.out.below⟩
      · have e1 : decide ((i : Int) < (len2 : Int)) = true := by rw [decide_eq_true_eq]; omega
        have e2 : decide ((i : Int) < 20) = false := by rw [decide_eq_false_iff_not]; omega
        clear hil
        go_wp2_with fail
        refine (two_image TW.out.swap).mono ?_
        rintro e w7 ⟨g2, V2, rfl, hV2, im2, b7⟩
        rw [E2.out.2] at hV2 im2 ⊢
        have I7 : Hid (Img w7 w3.heap.size g1 8 V1 s.D ∧ Img w7 wr.heap.size g2 8 V2 s.D) := ⟨IW.out.1.keep b7, im2⟩
        have N7 : Hid (InW w7 (some ⟨gw, 0, none⟩) lw) := by
          rcases IW.out.2 with h0 | ⟨g', o', e, hg', hc⟩
          · exact .inl h0
          · have e2 := e
            cases e
            exact InW.kept (.inr ⟨gw, 0, e2, hg', hc⟩) (b7.block gw hg') b7.size
        have T7 : Hid (Two w w7 (fun _ => False) bc b (N + 2 * i) x s) := (TW.out.keep b7).less (fun _ hk => hk.elim)
        clear im2 b7 TW IW
        go_wp2_with fail
        go_loopg [73] 8 (fun gg jv wq => ∃ (j : Nat), j ≤ 8 ∧ gg = 8 - j ∧ jv = .int .i64 (j : Int) ∧ Hid (∃ q, wq = w7.drewN q))
        case atStart => exact ⟨0, by omega, rfl, rfl, 0, rfl⟩
        case round =>
          obtain ⟨j, hj8, rfl, rfl, HQ⟩ := hrel
          obtain ⟨q, rfl⟩ := HQ.out
          by_cases hj : j < 8
          · have f1 : decide ((j : Int) < 8) = true := by rw [decide_eq_true_eq]; omega
            obtain ⟨p1, hp1⟩ : ∃ p, V1[j]? = some p := ⟨_, List.getElem?_eq_getElem (by omega)⟩
            obtain ⟨p2, hp2⟩ : ∃ p, V2[j]? = some p := ⟨_, List.getElem?_eq_getElem (by omega)⟩
            obtain ⟨z1, hz1, ho1⟩ := I7.out.1.own j p1 hp1
            obtain ⟨z2, hz2, ho2⟩ := I7.out.2.own j p2 hp2
            obtain rfl : z1 = z2 := Option.some.inj (hz1.symm.trans hz2)
            have s64 : z1.length = 64 := by
              have := ho1.holds.2.1
              simpa [sv] using this
            have k1 : w7.cell? ⟨g1, j, none⟩ = some (.slice (some ⟨p1.1, 0, none⟩) 64 p1.2) := (I7.out.1.row.cellAt j (by omega)).trans (vlS_at V1 8 j p1 hp1)
            have k2 : w7.cell? ⟨g2, j, none⟩ = some (.slice (some ⟨p2.1, 0, none⟩) 64 p2.2) := (I7.out.2.row.cellAt j (by omega)).trans (vlS_at V2 8 j p2 hp2)
            have cv1 : ∀ q, (convert 35 9 (.slice (some ⟨p1.1, 0, none⟩) 64 p1.2)).run Try.prog (w7.drewN q) = .ok (.string (strOfNums z1)) (w7.drewN q) := fun q => conv_str (w := w7.drewN q) ho1.holds.1 _ _ s64
            have cv2 : ∀ q, (convert 35 9 (.slice (some ⟨p2.1, 0, none⟩) 64 p2.2)).run Try.prog (w7.drewN q) = .ok (.string (strOfNums z1)) (w7.drewN q) := fun q => conv_str (w := w7.drewN q) ho2.holds.1 _ _ s64
            have rj : IntKind.i64.wrap ((j : Int) + 1) = (j : Int) + 1 := by rw [IntKind.wrap_i64]; omega
            clear hp1 hp2 hz1 hz2 ho1 ho2 s64
            generalize strOfNums z1 = st at *
            obtain ⟨p1a, p1b⟩ := p1
            obtain ⟨p2a, p2b⟩ := p2
            simp only at k1 k2 cv1 cv2
            go_wp2_with fail
            go_quiet (fail)
            go_wp2_with fail
            go_roundg (8 - (j + 1))
            case measure => omega
            case rel => exact ⟨j + 1, by omega, rfl, by simp, _, rfl⟩
          · have f1 : decide ((j : Int) < 8) = false := by rw [decide_eq_false_iff_not]; omega
            obtain ⟨w8, hw8⟩ : ∃ w8, w7.drewN q = w8 := ⟨_, rfl⟩
            have BW8 : Hid (Below w7.heap.size w7 w8) := by rw [← hw8]; exact ⟨rfl, rfl, rfl, Nat.le_refl _, fun _ _ => rfl⟩
            rw [hw8]
            clear hw8 HQ
            have T8 : Hid (Two w w8 (fun _ => False) bc b (N + 2 * i) x s) := (T7.out.keep BW8.out).less (fun _ hk => hk.elim)
            have N8 : Hid (InW w8 (some ⟨gw, 0, none⟩) lw) := by
              rcases N7.out with h0 | ⟨g', o', e, hg', hc⟩
              · exact .inl h0
              · have e2 := e
                cases e
                exact InW.kept (.inr ⟨gw, 0, e2, hg', hc⟩) (BW8.out.block gw hg') BW8.out.size
            go_wp2_with fail
            refine (two_waiting T8.out.swap (by omega)).mono ?_
            rintro e w9 ⟨gv, cv, rfl, inv, hgv, b9⟩
            rw [E2.out.2] at inv ⊢
            rw [HLW.out] at inv ⊢
            have T9 : Hid (Two w w9 (fun _ => False) bc b (N + 2 * i) x s) := (T8.out.keep b9).less (fun _ hk => hk.elim)
            have N9 : Hid (InW w9 (some ⟨gv, 0, none⟩) lw ∧ InW w9 (some ⟨gw, 0, none⟩) lw) := by
              refine ⟨inv, ?_⟩
              rcases N8.out with h0 | ⟨g', o', e, hg', hc⟩
              · exact .inl h0
              · have e2 := e
                cases e
                exact InW.kept (.inr ⟨gw, 0, e2, hg', hc⟩) (b9.block gw hg') b9.size
            clear inv hgv b9 N8 T8
            go_wp2_with fail
            refine (waits_is lw lw.length _ _ _ _ w9 rfl (by have := LW.out; omega) N9.out.1 N9.out.2).mono ?_
            rintro e w10 ⟨rfl, q10, hq10⟩
            have T10 : Hid (Two w w10 (fun _ => False) bc b (N + 2 * i) x s) := by
              rw [hq10]
              exact (T9.out.keep (w' := w9.drewN q10) ⟨rfl, rfl, rfl, Nat.le_refl _, fun _ _ => rfl⟩).less (fun _ hk => hk.elim)
            clear hq10 T9 N9
            go_wp2_with fail
            refine (two_up T10.out.swap).mono ?_
            rintro e w11 ⟨rfl, hw⟩
            obtain rfl := hw.symm
            clear hw
            rw [E2.out.1]
            go_wp2_with fail
            go_ret
            exact ⟨rfl, T10.out.below⟩
end Go.Proofs.Ytibgfjnddhfgpaa
