/- DiskFlushed's walk. Written by gen_flushed.py. -/
import Derived.Test.YtibgfjnddhfgpaaDkOn
namespace Go.Proofs.Ytibgfjnddhfgpaa
open Go.ChangeShapes Go.WideShapes Go.ChangeAt Go.RowKit Go.Deep Go.Maps
set_option linter.unusedVariables false
set_option linter.unusedSimpArgs false in
set_option maxRecDepth 100000 in
set_option maxHeartbeats 16000000 in
theorem diskFlushed_walk (a : Option Addr) (len cap : Nat) (A : Nat → Av) (a2 : Option Addr) (len2 cap2 : Nat) (A2 : Nat → Av) (ka : Option Addr) (kl kc : Nat) (zs : List Int) (w : World) (hA : InA w a len A) (hA2 : InA w a2 len2 A2) (hz : IsRow .i64 w ka kl kc zs) :
    Calls Try.prog 6 #[.slice a len cap, .slice a2 len2 cap2, .slice ka kl kc] w fun e w' => e = .returned (.bool true) ∧ Below w.heap.size w w' := by
  obtain ⟨hin, hkl⟩ := inK_of (row_keepR hz)
  have HIN : Hid (InK w ka (zs.take kl) ∧ (zs.take kl).length = kl) := ⟨hin, hkl⟩
  have HA : Hid (InA w a len A) := hA
  have HA2 : Hid (InA w a2 len2 A2) := hA2
  clear hin hkl hz hA hA2
  go_enter Try.func6, Try.ntmps6
  go_wp2_with fail
  refine (begun_is _ len cap A w HA.out).mono ?_
  rintro e w1 ⟨F, b, N, Bn, s, sl, rfl, BG0, hN60⟩
  have BG : Hid (Bg w w1 F b N Bn s sl) := BG0
  have Z8 : Hid ((strs s.D).size = 8 ∧ sl.toArray.size = 8) := ⟨by rw [strs_size]; exact BG0.l8, by have := BG0.svl; simpa using this⟩
  have A8 : Hid ((strs s.D).all (·.oneCell') = true ∧ sl.toArray.all (·.oneCell') = true) := by
    refine ⟨strs_one _, ?_⟩
    rw [Array.all_eq_true_iff_forall_mem]
    intro v hv
    obtain ⟨k, hk⟩ := List.mem_iff_getElem?.1 (show v ∈ sl by simpa using hv)
    rcases (BG0.row k v hk).2 with ⟨e, _⟩ | ⟨g, c, cur, e, _⟩ <;> (rw [e]; rfl)
  have H8 : Hid (((w1.alloc (.cells #[Value.string ⟨#[]⟩, Value.string ⟨#[]⟩, Value.string ⟨#[]⟩, Value.string ⟨#[]⟩, Value.string ⟨#[]⟩, Value.string ⟨#[]⟩, Value.string ⟨#[]⟩, Value.string ⟨#[]⟩] 45)).alloc (.cells #[Value.slice none 0 0, Value.slice none 0 0, Value.slice none 0 0, Value.slice none 0 0, Value.slice none 0 0, Value.slice none 0 0, Value.slice none 0 0, Value.slice none 0 0] 47)).heap[w1.heap.size]? = some (.cells #[Value.string ⟨#[]⟩, Value.string ⟨#[]⟩, Value.string ⟨#[]⟩, Value.string ⟨#[]⟩, Value.string ⟨#[]⟩, Value.string ⟨#[]⟩, Value.string ⟨#[]⟩, Value.string ⟨#[]⟩] 45)) := (Below.heap_alloc _ _ _ (by simp)).trans (heap_alloc_new w1 _)
  have H9 : Hid (((w1.alloc (.cells #[Value.string ⟨#[]⟩, Value.string ⟨#[]⟩, Value.string ⟨#[]⟩, Value.string ⟨#[]⟩, Value.string ⟨#[]⟩, Value.string ⟨#[]⟩, Value.string ⟨#[]⟩, Value.string ⟨#[]⟩] 45)).alloc (.cells #[Value.slice none 0 0, Value.slice none 0 0, Value.slice none 0 0, Value.slice none 0 0, Value.slice none 0 0, Value.slice none 0 0, Value.slice none 0 0, Value.slice none 0 0] 47)).heap[w1.heap.size + 1]? = some (.cells #[Value.slice none 0 0, Value.slice none 0 0, Value.slice none 0 0, Value.slice none 0 0, Value.slice none 0 0, Value.slice none 0 0, Value.slice none 0 0, Value.slice none 0 0] 47)) := by
    have := heap_alloc_new (w1.alloc (.cells #[Value.string ⟨#[]⟩, Value.string ⟨#[]⟩, Value.string ⟨#[]⟩, Value.string ⟨#[]⟩, Value.string ⟨#[]⟩, Value.string ⟨#[]⟩, Value.string ⟨#[]⟩, Value.string ⟨#[]⟩] 45)) (.cells #[Value.slice none 0 0, Value.slice none 0 0, Value.slice none 0 0, Value.slice none 0 0, Value.slice none 0 0, Value.slice none 0 0, Value.slice none 0 0, Value.slice none 0 0] 47)
    rw [show (w1.alloc (.cells #[Value.string ⟨#[]⟩, Value.string ⟨#[]⟩, Value.string ⟨#[]⟩, Value.string ⟨#[]⟩, Value.string ⟨#[]⟩, Value.string ⟨#[]⟩, Value.string ⟨#[]⟩, Value.string ⟨#[]⟩] 45)).heap.size = w1.heap.size + 1 by simp] at this
    exact this
  have B9 : Hid (Below w1.heap.size w1 ((w1.alloc (.cells #[Value.string ⟨#[]⟩, Value.string ⟨#[]⟩, Value.string ⟨#[]⟩, Value.string ⟨#[]⟩, Value.string ⟨#[]⟩, Value.string ⟨#[]⟩, Value.string ⟨#[]⟩, Value.string ⟨#[]⟩] 45)).alloc (.cells #[Value.slice none 0 0, Value.slice none 0 0, Value.slice none 0 0, Value.slice none 0 0, Value.slice none 0 0, Value.slice none 0 0, Value.slice none 0 0, Value.slice none 0 0] 47))) := (below1 w1 _).trans ((below1 _ _).mono (by simp))
  clear BG0
  generalize hst : strs s.D = st at *
  generalize hsa : sl.toArray = sa at *
  have HST : Hid (strs s.D = st ∧ sl.toArray = sa) := ⟨hst, hsa⟩
  clear hst hsa
  go_wp2_with (first | (refine wpList_store_row rfl 45 (.tmp 8) (.tmp 20) rfl w1.heap.size st rfl rfl 45 _ H8.out (by rw [Z8.out.1]; exact size45) (by rw [Z8.out.1]; rfl) A8.out.1 ?_) | (refine wpList_store_row rfl 47 (.tmp 9) (.tmp 21) rfl (w1.heap.size + 1) sa rfl rfl 47 _ ((setRow_other _ _ _ _ (by omega)).trans H9.out) (by rw [Z8.out.2]; exact size47) (by rw [Z8.out.2]; rfl) A8.out.2 ?_; generalize hW2 : World.setRow _ _ _ = w2; have S2 : Hid (w2.heap[w1.heap.size]? = some (.cells st 45) ∧ w2.heap[w1.heap.size + 1]? = some (.cells sa 47) ∧ Below w1.heap.size w1 w2) := (by rw [← hW2]; exact ⟨(setRow_other _ _ _ _ (by omega)).trans (setRow_heap _ _ _ _ _ _ H8.out), setRow_heap _ _ _ _ _ _ ((setRow_other _ _ _ _ (by omega)).trans H9.out), below_setRow (below_setRow B9.out (Nat.le_refl _) _) (by omega) _⟩); clear hW2))
  have T2 : Hid (One w w2 (fun _ => False) b N s) := (BG.out.one.keep S2.out.2.2).less (fun _ hk => hk.elim)
  have E2 : Hid (s.up = true ∧ s.fu = -1 ∧ s.D.length = 8) := ⟨BG.out.up, BG.out.fu, BG.out.l8⟩
  clear BG S2 H8 H9 B9 Z8 A8 HST
  refine (one_flush T2.out (by omega)).mono ?_
  rintro e w3 ⟨rfl, t3, _⟩
  have fl := Ds.fl_ok E2.out.1 (show s.fu ≠ 0 by rw [E2.out.2.1]; omega)
  rw [show (s.fl).1 = 0 by rw [fl]]
  obtain ⟨s1, hs1⟩ : ∃ s1, (s.fl).2 = s1 := ⟨_, rfl⟩
  have T3 : Hid (One w w3 (fun _ => False) b (N + 1) s1) := hs1 ▸ t3
  have E3 : Hid (s1.up = true ∧ s1.fu = -1 ∧ s1.D.length = 8 ∧ s1.W = fun _ => []) := by
    rw [← hs1, fl]
    refine ⟨rfl, ?_, ?_, rfl⟩
    · show lessF s.fu = -1
      rw [E2.out.2.1]; rfl
    · show (flD s.D s.W).length = 8
      rw [flD_len]; exact E2.out.2.2
  clear t3 fl hs1 T2 E2
  go_wp2_with fail
  refine (one_image T3.out).mono ?_
  rintro e w4 ⟨g1, V1, rfl, hV1, im1, b4⟩
  rw [E3.out.2.2.1] at hV1 im1 ⊢
  obtain ⟨D0, hD0⟩ : ∃ D0, s1.D = D0 := ⟨_, rfl⟩
  rw [hD0] at im1
  have T4 : Hid (One w w4 (fun k => w3.heap.size ≤ k ∧ k < w4.heap.size) b (N + 1) s1) := (T3.out.keep b4).less (fun k hk => .inr hk)
  have I4 : Hid (Img w4 w3.heap.size g1 8 V1 D0) := im1
  clear im1 b4 T3
  go_wp2_with fail
  refine (one_crash T4.out (by omega) ka kl kc (zs.take kl) HIN.out.2 (HIN.out.1.below T4.out.below) (fun x hx hK => .inr (HIN.out.1.lt x hx hK))).mono ?_
  rintro e w5 ⟨rfl, t5, hp5⟩
  obtain ⟨s2, hs2⟩ : ∃ s2, s1.cr (zs.take kl) = s2 := ⟨_, rfl⟩
  have T5 : Hid (One w w5 (fun k => w3.heap.size ≤ k ∧ k < w4.heap.size) b (N + 1) s2) := hs2 ▸ t5
  have IMK : Hid (∀ W W' : World, Img W w3.heap.size g1 8 V1 D0 → (∀ k, (w3.heap.size ≤ k ∧ k < w4.heap.size) → W'.heap[k]? = W.heap[k]?) → Img W' w3.heap.size g1 8 V1 D0) := by
    intro W W' h hp
    refine h.kept fun k hk => hp k ?_
    have l4 := I4.out.lt
    rcases hk with rfl | ⟨p, hp, rfl⟩
    · exact ⟨l4.1, l4.2.1⟩
    · exact l4.2.2 p hp
  have I5 : Hid (Img w5 w3.heap.size g1 8 V1 D0) := IMK.out w4 w5 I4.out hp5
  have E5 : Hid (s2.up = true ∧ s2.fu = -1 ∧ s2.D = D0 ∧ D0.length = 8) := by
    rw [← hs2]
    refine ⟨rfl, rfl, ?_, by rw [← hD0]; exact E3.out.2.2.1⟩
    show crD _ s1.D s1.W = D0
    rw [crD_nil _ _ _ (fun i => by rw [E3.out.2.2.2]), hD0]
  clear t5 hp5 hs2 hD0 T4 I4 E3
  go_wp2_with fail
  go_loopg [12] 30 (fun gg iv wr => ∃ (i : Nat) (x : Ds), i ≤ 30 ∧ gg = 30 - i ∧ iv = .int .i64 (i : Int) ∧ Hid (One w wr (fun k => w3.heap.size ≤ k ∧ k < w4.heap.size) b (N + 1 + i) x) ∧ Hid (Img wr w3.heap.size g1 8 V1 D0) ∧ Hid (x.up = true ∧ x.fu = -1 ∧ x.D = D0))
  case atStart => exact ⟨0, s2, by omega, rfl, rfl, T5, I5, E5.out.1, E5.out.2.1, E5.out.2.2.1⟩
  case round =>
    obtain ⟨i, x, hi60, rfl, rfl, TW, IW, EW⟩ := hrel
    have L8 : Hid (D0.length = 8) := E5.out.2.2.2
    clear T5 I5 E5 s2
    by_cases hil : i < len2 ∧ i < 30
    · have e1 : decide ((i : Int) < (len2 : Int)) = true := by rw [decide_eq_true_eq]; omega
      have e2 : decide ((i : Int) < 30) = true := by rw [decide_eq_true_eq]; omega
      have ri : IntKind.i64.wrap ((i : Int) + 1) = (i : Int) + 1 := by rw [IntKind.wrap_i64]; omega
      have hia := HA2.out.below TW.out.below
      obtain ⟨ab, off, rfl, hab, hcells⟩ := hia.1 (by omega)
      obtain ⟨c0, c1, c2, c3, c4⟩ := hcells i hil.1
      obtain ⟨b0, b1, b2, b3, b4, b5⟩ := hia.2 i hil.1
      generalize A2 i = v at *
      obtain ⟨vk, va, vn, vl, vka, vkl, vkc, vz⟩ := v
      simp only at c0 c1 c2 c3 c4 b0 b1 b2 b3
      clear hia hcells b4 b5
      obtain ⟨k, hk, hk8, hk1, hk2⟩ := mod_in8 va
      have s1 : IntKind.i64.wrap (Int.tmod va 8) = Int.tmod va 8 := by rw [IntKind.wrap_i64]; omega
      have s2 : IntKind.i64.wrap (Int.tmod va 8 + 8) = Int.tmod va 8 + 8 := by rw [IntKind.wrap_i64]; omega
      have s3 : IntKind.i64.wrap (k : Int) = (k : Int) := by rw [IntKind.wrap_i64]; omega
      have KB : Hid (∀ W, Calls Try.prog 25 #[.agg #[.int .i64 vk, .int .i64 va, .int .i64 vn, .int .i64 0, .slice vka vkl vkc]] W fun e w' => ∃ g, e = .returned (.slice (some ⟨g, 0, none⟩) 64 64) ∧ Owned w' W.heap.size (.slice (some ⟨g, 0, none⟩) 64 64) (bL vn 0) ∧ Below W.heap.size W w') := fun W => bytesOf_is vk va vn 0 (.slice vka vkl vkc) b2 (by omega) rfl W
      obtain ⟨C, hCe⟩ : ∃ C, bL vn 0 = C := ⟨_, rfl⟩
      have C64 : Hid (C.length = 64 ∧ IsBytes C) := by rw [← hCe]; exact ⟨by simp [bL, bN_zero], bL_bytes vn 0⟩
      rw [hCe] at KB
      clear hCe
      go_wp2_with fail
      obtain ⟨W1, hW1⟩ : ∃ W1, wr.alloc (.cells #[.int .i64 vk, .int .i64 va, .int .i64 vn, .int .i64 0, .slice vka vkl vkc] 32) = W1 := ⟨_, rfl⟩
      rw [show World.alloc _ _ = W1 from hW1]
      have BX1 : Hid (W1.heap[wr.heap.size]? = some (bx5 vk va vn (.slice vka vkl vkc)) ∧ Below wr.heap.size wr W1 ∧ W1.heap.size = wr.heap.size + 1) := by
        rw [← hW1]
        exact ⟨heap_alloc_new wr _, below1 _ _, by simp⟩
      clear hW1
      refine wp_region_noPanic ?_
      refine wp_region_held_drew (S := (fun Wd : World => Wd.heap[wr.heap.size]? = some (bx5 vk va vn (.slice vka vkl vkc)))) (by kernel_rfl) ?hSa (fun hHeld => ?resta)
      case hSa => exact BX1.out.1
      case resta =>
        refine wpAnyH_take (i := 0) (v := .pointer (some ⟨b, 0, none⟩)) rfl (by kernel_rfl) (by kernel_rfl) (by kernel_rfl) (fun _ _ _ h => h) (Or.inl ⟨by rfl, ?hy0⟩) hHeld ?rest0
        case hy0 => (intro w hSw; (try dsimp only at hSw); clear hSw; go_simp; try with_reducible rfl)
        try simp only [Act.put, List.setIfInBounds_toArray, List.set_cons_zero, List.set_cons_succ, List.getElem_toArray, List.getElem_cons_zero]
        refine wpAnyH_take (i := 1) (v := .pointer (some ⟨wr.heap.size, 1, none⟩)) rfl (by kernel_rfl) (by kernel_rfl) (by kernel_rfl) (fun _ _ _ h => h) (Or.inl ⟨by rfl, ?hy1⟩) hHeld ?rest1
        case hy1 => (intro w hSw; (try dsimp only at hSw); clear hSw; go_simp; try with_reducible rfl)
        try simp only [Act.put, List.setIfInBounds_toArray, List.set_cons_zero, List.set_cons_succ, List.getElem_toArray, List.getElem_cons_zero, List.getElem_cons_succ]
        refine wpAnyH_take (i := 2) (v := .int .i64 va) rfl (by kernel_rfl) (by kernel_rfl) (by kernel_rfl) (fun _ _ _ h => h) (Or.inl ⟨by rfl, ?hy2⟩) hHeld ?rest2
        case hy2 => (intro w hSw; obtain ⟨q0, q1, q2, q3, q4⟩ := bx5_cells hSw; clear hSw; go_simp; try with_reducible rfl)
        try simp only [Act.put, List.setIfInBounds_toArray, List.set_cons_zero, List.set_cons_succ, List.getElem_toArray, List.getElem_cons_zero, List.getElem_cons_succ]
        refine wpAnyH_take (i := 3) (v := .int .i64 (Int.tmod va 8)) rfl (by kernel_rfl) (by kernel_rfl) (by kernel_rfl) (fun _ _ _ h => h) (Or.inl ⟨by rfl, ?hy3⟩) hHeld ?rest3
        case hy3 => (intro w hSw; (try dsimp only at hSw); clear hSw; go_simp; try with_reducible rfl)
        try simp only [Act.put, List.setIfInBounds_toArray, List.set_cons_zero, List.set_cons_succ, List.getElem_toArray, List.getElem_cons_zero, List.getElem_cons_succ]
        refine wpAnyH_take (i := 4) (v := .int .i64 (Int.tmod va 8 + 8)) rfl (by kernel_rfl) (by kernel_rfl) (by kernel_rfl) (fun _ _ _ h => h) (Or.inl ⟨by rfl, ?hy4⟩) hHeld ?rest4
        case hy4 => (intro w hSw; (try dsimp only at hSw); clear hSw; go_simp; try with_reducible rfl)
        try simp only [Act.put, List.setIfInBounds_toArray, List.set_cons_zero, List.set_cons_succ, List.getElem_toArray, List.getElem_cons_zero, List.getElem_cons_succ]
        refine wpAnyH_take (i := 5) (v := .int .i64 (k : Int)) rfl (by kernel_rfl) (by kernel_rfl) (by kernel_rfl) (fun _ _ _ h => h) (Or.inl ⟨by rfl, ?hy5⟩) hHeld ?rest5
        case hy5 => (intro w hSw; (try dsimp only at hSw); clear hSw; go_simp; try with_reducible rfl)
        try simp only [Act.put, List.setIfInBounds_toArray, List.set_cons_zero, List.set_cons_succ, List.getElem_toArray, List.getElem_cons_zero, List.getElem_cons_succ]
        refine wpAnyH_take (i := 6) (v := .agg #[.int .i64 vk, .int .i64 va, .int .i64 vn, .int .i64 0, .slice vka vkl vkc]) rfl (by kernel_rfl) (by kernel_rfl) (by kernel_rfl) (fun _ _ _ h => h) (Or.inl ⟨by rfl, ?hy6⟩) hHeld ?rest6
        case hy6 => (intro w hSw; obtain ⟨q0, q1, q2, q3, q4⟩ := bx5_cells hSw; clear hSw; go_simp; try with_reducible rfl)
        try simp only [Act.put, List.setIfInBounds_toArray, List.set_cons_zero, List.set_cons_succ, List.getElem_toArray, List.getElem_cons_zero, List.getElem_cons_succ]
        refine wpAnyH_ready (rs := [7]) (by kernel_rfl) (by simp) ?_
        refine AllReadyH.cons rfl (fun K hK => ?_) AllReadyH.nil
        go_simp
        refine (KB.out _).mono ?_
        rintro e w5 ⟨g5, rfl, o5, b5⟩
        have hb5 : Below W1.heap.size W1 w5 := ⟨b5.os, b5.tape, b5.output, b5.size, b5.block⟩
        have T1 : Hid (One w W1 (fun k => (w3.heap.size ≤ k ∧ k < w4.heap.size) ∨ (wr.heap.size ≤ k ∧ k < W1.heap.size)) b (N + 1 + i) x) := TW.out.keep BX1.out.2.1
        have T6 : Hid (One w w5 (fun k => ((w3.heap.size ≤ k ∧ k < w4.heap.size) ∨ (wr.heap.size ≤ k ∧ k < W1.heap.size)) ∨ (W1.heap.size ≤ k ∧ k < w5.heap.size)) b (N + 1 + i) x) := T1.out.keep hb5
        have BX5 : Hid (w5.heap[wr.heap.size]? = some (bx5 vk va vn (.slice vka vkl vkc))) := (hb5.block _ (by have := BX1.out.2.2; omega)).trans BX1.out.1
        have I6 : Hid (Img w5 w3.heap.size g1 8 V1 D0) := IW.out.keep (BX1.out.2.1.trans (hb5.mono BX1.out.2.1.size))
        have O5 : Hid (Owned w5 W1.heap.size (.slice (some ⟨g5, 0, none⟩) 64 64) C) := o5
        clear o5 b5 hb5 T1
        refine hK.out _ _ ?hS7 (fun hHeld => ?rest7)
        case hS7 => exact BX5.out
        clear hK K
        try simp only [Act.put, List.setIfInBounds_toArray, List.set_cons_zero, List.set_cons_succ, List.getElem_toArray, List.getElem_cons_zero, List.getElem_cons_succ]
        refine wpAnyH_ready (rs := [8]) (by kernel_rfl) (by simp) ?_
        refine AllReadyH.cons rfl (fun K hK => ?_) AllReadyH.nil
        go_simp
        refine (one_write T6.out (by omega) (k : Int) g5 64 64 C _ O5.out C64.out.1 C64.out.2 (.inr (World.ownsRow.lt O5.out g5 rfl))).mono ?_
        rintro e w6 ⟨rfl, t6, hp6⟩
        have wok := Ds.wr_ok (i := (k : Int)) (C := C) EW.out.1 (by rw [EW.out.2.2, L8.out]; omega) C64.out.1 (by rw [EW.out.2.1]; omega)
        rw [show (x.wr (k : Int) C).1 = 0 by rw [wok]]
        have T7 : Hid (One w w6 (fun k => w3.heap.size ≤ k ∧ k < w4.heap.size) b (N + 1 + (i + 1)) (x.wr (k : Int) C).2) := t6.less (fun k hk => .inl (.inl hk))
        have I7 : Hid (Img w6 w3.heap.size g1 8 V1 D0) := IMK.out w5 w6 I6.out (fun k hk => hp6 k (.inl (.inl hk)))
        have BX6 : Hid (w6.heap[wr.heap.size]? = some (bx5 vk va vn (.slice vka vkl vkc))) := (hp6 _ (.inl (.inr ⟨Nat.le_refl _, by have := BX1.out.2.2; omega⟩))).trans BX5.out
        have E7 : Hid ((x.wr (k : Int) C).2.up = true ∧ (x.wr (k : Int) C).2.fu = -1 ∧ (x.wr (k : Int) C).2.D = D0) := by
          rw [wok]
          exact ⟨rfl, by show lessF x.fu = -1; rw [EW.out.2.1]; rfl, EW.out.2.2⟩
        clear t6 hp6 wok
        refine hK.out _ _ ?hS8 (fun hHeld => ?rest8)
        case hS8 => exact BX6.out
        clear hK K
        try simp only [Act.put, List.setIfInBounds_toArray, List.set_cons_zero, List.set_cons_succ, List.getElem_toArray, List.getElem_cons_zero, List.getElem_cons_succ]
        refine wpAnyH_take (i := 9) (v := .bool false) rfl (by kernel_rfl) (by kernel_rfl) (by kernel_rfl) (fun _ _ _ h => h) (Or.inl ⟨by rfl, ?hy9⟩) hHeld ?rest9
        case hy9 => (intro w hSw; (try dsimp only at hSw); clear hSw; go_simp; try with_reducible rfl)
        try simp only [Act.put, List.setIfInBounds_toArray, List.set_cons_zero, List.set_cons_succ, List.getElem_toArray, List.getElem_cons_zero, List.getElem_cons_succ]
        refine wpAnyH_done (by kernel_rfl) ?_ _
        refine NoPanic.normal ?_
        clear BX6 BX5 T6 I6 O5
        go_wp2_with fail
        go_roundg (30 - (i + 1))
        case measure => omega
        case rel => exact ⟨i + 1, _, by omega, rfl, by simp, T7, I7, E7⟩
    · rcases (by omega : ¬ i < len2 ∨ (i < len2 ∧ ¬ i < 30)) with h0 | ⟨h0, h1⟩
      · have e1 : decide ((i : Int) < (len2 : Int)) = false := by rw [decide_eq_false_iff_not]; omega
        clear hil
        go_wp2_with fail
        refine (one_crash TW.out (by omega) none 0 0 [] rfl (.inl rfl) (fun x hx => by cases hx)).mono ?_
        rintro e w5 ⟨rfl, t5, hp5⟩
        obtain ⟨y, hy⟩ : ∃ y, x.cr [] = y := ⟨_, rfl⟩
        have T5 : Hid (One w w5 (fun k => w3.heap.size ≤ k ∧ k < w4.heap.size) b (N + 1 + i) y) := hy ▸ t5
        have I5 : Hid (Img w5 w3.heap.size g1 8 V1 D0) := IMK.out wr w5 IW.out hp5
        have E5 : Hid (y.D = D0) := by
          rw [← hy]
          show crD [] x.D x.W = D0
          rw [crD_none, EW.out.2.2]
        clear t5 hp5 hy TW IW EW
        go_wp2_with fail
        refine (one_image T5.out).mono ?_
        rintro e w7 ⟨g2, V2, rfl, hV2, im2, b7⟩
        rw [E5.out] at hV2 im2 ⊢
        rw [L8.out] at hV2 im2 ⊢
        have I7 : Hid (Img w7 w3.heap.size g1 8 V1 D0 ∧ Img w7 w5.heap.size g2 8 V2 D0) := ⟨I5.out.keep b7, im2⟩
        have B7 : Hid (Below w.heap.size w w7) := T5.out.below.trans (b7.mono T5.out.below.size)
        clear im2 b7 T5 I5
        go_wp2_with fail
        go_loopg [68] 8 (fun gg jv wq => ∃ (j : Nat), j ≤ 8 ∧ gg = 8 - j ∧ jv = .int .i64 (j : Int) ∧ Hid (∃ q, wq = w7.drewN q))
        case atStart => exact ⟨0, by omega, rfl, rfl, 0, rfl⟩
        case round =>
          obtain ⟨j, hj8, rfl, rfl, HQ⟩ := hrel
          obtain ⟨q, rfl⟩ := HQ.out
          by_cases hj : j < 8
          · have f1 : decide ((j : Int) < 8) = true := by rw [decide_eq_true_eq]; omega
            obtain ⟨p1, hp1⟩ : ∃ p, V1[j]? = some p := ⟨_, List.getElem?_eq_getElem (by omega)⟩
            obtain ⟨p2, hp2⟩ : ∃ p, V2[j]? = some p := ⟨_, List.getElem?_eq_getElem (by omega)⟩
            obtain ⟨z1, hz1, ho1⟩ := I7.out.1.own j p1 hp1
            obtain ⟨z2, hz2, ho2⟩ := I7.out.2.own j p2 hp2
            obtain rfl : z1 = z2 := Option.some.inj (hz1.symm.trans hz2)
            have s64 : z1.length = 64 := by
              have := ho1.holds.2.1
              simpa [sv] using this
            have k1 : w7.cell? ⟨g1, j, none⟩ = some (.slice (some ⟨p1.1, 0, none⟩) 64 p1.2) := (I7.out.1.row.cellAt j (by omega)).trans (vlS_at V1 8 j p1 hp1)
            have k2 : w7.cell? ⟨g2, j, none⟩ = some (.slice (some ⟨p2.1, 0, none⟩) 64 p2.2) := (I7.out.2.row.cellAt j (by omega)).trans (vlS_at V2 8 j p2 hp2)
            have cv1 : ∀ q, (convert 35 9 (.slice (some ⟨p1.1, 0, none⟩) 64 p1.2)).run Try.prog (w7.drewN q) = .ok (.string (strOfNums z1)) (w7.drewN q) := fun q => conv_str (w := w7.drewN q) ho1.holds.1 _ _ s64
            have cv2 : ∀ q, (convert 35 9 (.slice (some ⟨p2.1, 0, none⟩) 64 p2.2)).run Try.prog (w7.drewN q) = .ok (.string (strOfNums z1)) (w7.drewN q) := fun q => conv_str (w := w7.drewN q) ho2.holds.1 _ _ s64
            have rj : IntKind.i64.wrap ((j : Int) + 1) = (j : Int) + 1 := by rw [IntKind.wrap_i64]; omega
            clear hp1 hp2 hz1 hz2 ho1 ho2 s64
            generalize strOfNums z1 = st at *
            obtain ⟨p1a, p1b⟩ := p1
            obtain ⟨p2a, p2b⟩ := p2
            simp only at k1 k2 cv1 cv2
            go_wp2_with fail
            go_quiet (fail)
            go_wp2_with fail
            go_roundg (8 - (j + 1))
            case measure => omega
            case rel => exact ⟨j + 1, by omega, rfl, by simp, _, rfl⟩
          · have f1 : decide ((j : Int) < 8) = false := by rw [decide_eq_false_iff_not]; omega
            obtain ⟨w8, hw8⟩ : ∃ w8, w7.drewN q = w8 := ⟨_, rfl⟩
            have BW8 : Hid (Below w7.heap.size w7 w8) := by rw [← hw8]; exact ⟨rfl, rfl, rfl, Nat.le_refl _, fun _ _ => rfl⟩
            rw [hw8]
            clear hw8 HQ
            go_wp2_with fail
            go_ret
            exact ⟨rfl, B7.out.trans (BW8.out.mono B7.out.size)⟩
      · have e1 : decide ((i : Int) < (len2 : Int)) = true := by rw [decide_eq_true_eq]; omega
        have e2 : decide ((i : Int) < 30) = false := by rw [decide_eq_false_iff_not]; omega
        clear hil
        go_wp2_with fail
        refine (one_crash TW.out (by omega) none 0 0 [] rfl (.inl rfl) (fun x hx => by cases hx)).mono ?_
        rintro e w5 ⟨rfl, t5, hp5⟩
        obtain ⟨y, hy⟩ : ∃ y, x.cr [] = y := ⟨_, rfl⟩
        have T5 : Hid (One w w5 (fun k => w3.heap.size ≤ k ∧ k < w4.heap.size) b (N + 1 + i) y) := hy ▸ t5
        have I5 : Hid (Img w5 w3.heap.size g1 8 V1 D0) := IMK.out wr w5 IW.out hp5
        have E5 : Hid (y.D = D0) := by
          rw [← hy]
          show crD [] x.D x.W = D0
          rw [crD_none, EW.out.2.2]
        clear t5 hp5 hy TW IW EW
        go_wp2_with fail
        refine (one_image T5.out).mono ?_
        rintro e w7 ⟨g2, V2, rfl, hV2, im2, b7⟩
        rw [E5.out] at hV2 im2 ⊢
        rw [L8.out] at hV2 im2 ⊢
        have I7 : Hid (Img w7 w3.heap.size g1 8 V1 D0 ∧ Img w7 w5.heap.size g2 8 V2 D0) := ⟨I5.out.keep b7, im2⟩
        have B7 : Hid (Below w.heap.size w w7) := T5.out.below.trans (b7.mono T5.out.below.size)
        clear im2 b7 T5 I5
        go_wp2_with fail
        go_loopg [68] 8 (fun gg jv wq => ∃ (j : Nat), j ≤ 8 ∧ gg = 8 - j ∧ jv = .int .i64 (j : Int) ∧ Hid (∃ q, wq = w7.drewN q))
        case atStart => exact ⟨0, by omega, rfl, rfl, 0, rfl⟩
        case round =>
          obtain ⟨j, hj8, rfl, rfl, HQ⟩ := hrel
          obtain ⟨q, rfl⟩ := HQ.out
          by_cases hj : j < 8
          · have f1 : decide ((j : Int) < 8) = true := by rw [decide_eq_true_eq]; omega
            obtain ⟨p1, hp1⟩ : ∃ p, V1[j]? = some p := ⟨_, List.getElem?_eq_getElem (by omega)⟩
            obtain ⟨p2, hp2⟩ : ∃ p, V2[j]? = some p := ⟨_, List.getElem?_eq_getElem (by omega)⟩
            obtain ⟨z1, hz1, ho1⟩ := I7.out.1.own j p1 hp1
            obtain ⟨z2, hz2, ho2⟩ := I7.out.2.own j p2 hp2
            obtain rfl : z1 = z2 := Option.some.inj (hz1.symm.trans hz2)
            have s64 : z1.length = 64 := by
              have := ho1.holds.2.1
              simpa [sv] using this
            have k1 : w7.cell? ⟨g1, j, none⟩ = some (.slice (some ⟨p1.1, 0, none⟩) 64 p1.2) := (I7.out.1.row.cellAt j (by omega)).trans (vlS_at V1 8 j p1 hp1)
            have k2 : w7.cell? ⟨g2, j, none⟩ = some (.slice (some ⟨p2.1, 0, none⟩) 64 p2.2) := (I7.out.2.row.cellAt j (by omega)).trans (vlS_at V2 8 j p2 hp2)
            have cv1 : ∀ q, (convert 35 9 (.slice (some ⟨p1.1, 0, none⟩) 64 p1.2)).run Try.prog (w7.drewN q) = .ok (.string (strOfNums z1)) (w7.drewN q) := fun q => conv_str (w := w7.drewN q) ho1.holds.1 _ _ s64
            have cv2 : ∀ q, (convert 35 9 (.slice (some ⟨p2.1, 0, none⟩) 64 p2.2)).run Try.prog (w7.drewN q) = .ok (.string (strOfNums z1)) (w7.drewN q) := fun q => conv_str (w := w7.drewN q) ho2.holds.1 _ _ s64
            have rj : IntKind.i64.wrap ((j : Int) + 1) = (j : Int) + 1 := by rw [IntKind.wrap_i64]; omega
            clear hp1 hp2 hz1 hz2 ho1 ho2 s64
            generalize strOfNums z1 = st at *
            obtain ⟨p1a, p1b⟩ := p1
            obtain ⟨p2a, p2b⟩ := p2
            simp only at k1 k2 cv1 cv2
            go_wp2_with fail
            go_quiet (fail)
            go_wp2_with fail
            go_roundg (8 - (j + 1))
            case measure => omega
            case rel => exact ⟨j + 1, by omega, rfl, by simp, _, rfl⟩
          · have f1 : decide ((j : Int) < 8) = false := by rw [decide_eq_false_iff_not]; omega
            obtain ⟨w8, hw8⟩ : ∃ w8, w7.drewN q = w8 := ⟨_, rfl⟩
            have BW8 : Hid (Below w7.heap.size w7 w8) := by rw [← hw8]; exact ⟨rfl, rfl, rfl, Nat.le_refl _, fun _ _ => rfl⟩
            rw [hw8]
            clear hw8 HQ
            go_wp2_with fail
            go_ret
            exact ⟨rfl, B7.out.trans (BW8.out.mono B7.out.size)⟩
end Go.Proofs.Ytibgfjnddhfgpaa
