/- The document's All (gen_ppb.py). -/
import Derived.Test.YthghoekkdpchnaaDoorMgPqxPpA
import Derived.Test.YthghoekkdpchnaaDoorMgPq24
namespace Go.Proofs.YthghoekkdpchnaaDoor
open Go.ChangeShapes Go.WideShapes Go.ChangeAt Go.RowKit Go.Deep Go.Maps
set_option linter.unusedVariables false
set_option linter.unusedSimpArgs false
theorem infoBl : ∃ i, Tryd.prog.info? 4 = some i ∧ i.zero = some (.bool false) ∧ i.size = 1 ∧ i.bytes = 1 := info_parts (show (Tryd.prog.info? 4).map (fun i => (i.zero, i.size, i.bytes)) = some (some (.bool false), 1, 1) by kernel_rfl)
theorem flc_nil : (flc []).toArray = madeCells #[.bool false] 7 := by
  apply Array.ext'
  simp [madeCells, flc, flg, Array.toList_range, List.range_succ]
/-- the named ones of the first k roots -/
def rtk (ops : List Op5) (k : Nat) : List Int := ((List.range k).map fun i => ((i : Nat) : Int) + 1).filter (fun r => ops.any (fun o => decide (o.r = r)))
theorem rtk_six (ops : List Op5) : rtk ops 6 = rts ops := rfl
theorem flg_any (ops : List Op5) (k : Nat) : flg ops k = ops.any (fun o => decide (o.r = (k : Int))) := by
  unfold flg
  rw [Bool.eq_iff_iff, decide_eq_true_eq, List.any_eq_true, List.mem_map]
  constructor
  · rintro ⟨o, h1, h2⟩
    exact ⟨o, h1, by simpa using h2⟩
  · rintro ⟨o, h1, h2⟩
    exact ⟨o, h1, by simpa using h2⟩
theorem rtk_succ (ops : List Op5) (k : Nat) : rtk ops (k + 1) = rtk ops k ++ if flg ops (k + 1) = true then [(k : Int) + 1] else [] := by
  unfold rtk
  rw [List.range_succ, List.map_append, List.filter_append, flg_any]
  congr 1
  simp only [List.map_cons, List.map_nil, List.filter_cons, List.filter_nil]
  push_cast
  rfl
theorem rts_le (ops : List Op5) : (rts ops).length ≤ 6 := by
  unfold rts
  exact Nat.le_trans (List.length_filter_le _ _) (by simp)
set_option maxRecDepth 100000 in
set_option maxHeartbeats 16000000 in
theorem rall_is (w : World) (a : Option Addr) (n c : Nat) (S : List Sk) (hS : InSk w a S) (hn : S.length = n) (hok : ∀ x ∈ S, SkOk w x) (hN : n ≤ 1000) (ow : Int) (oa : Option Addr) (on oc : Nat) (L : List Ov) (hL : InOv w oa L) (hLn : L.length = on) (hoN : on ≤ 1000) (st : Int → List Pc) (hst : st = fun r => (stk S r).co) (RES : (Nat × Int) × (Int → List Pc)) (hR : allR ow st (L.map Ov.o) = RES) :
    Calls Tryd.prog 10 #[.slice a n c, .int .i64 ow, .slice oa on oc] w fun e w' => ∃ V, e = .returned (.tuple #[V, .int .i64 (RES.1.1 : Int), .int .i64 RES.1.2]) ∧ Tol w' V (L.map Ov.o) RES ∧ Below w.heap.size w w' := by
  obtain ⟨Os, hOs⟩ : ∃ Os, Os = L.map Ov.o := ⟨_, rfl⟩
  rw [← hOs] at hR ⊢
  have HOS : Hid (Os = L.map Ov.o ∧ Os.length = on) := ⟨hOs, by rw [hOs, List.length_map, hLn]⟩
  have HRES : Hid (allR ow st Os = RES) := hR
  have HI : Hid (InOv w oa L ∧ L.length = on) := ⟨hL, hLn⟩
  have KP0 : Hid (Calls Tryd.prog 17 #[.slice a n c, .slice none 0 0] w fun e w' => ∃ a' c' T, e = .returned (.slice a' 6 c') ∧ R6 w' a' T st ∧ Below w.heap.size w w') := by
    refine (rput_is w a n c S hS hn hok hN none 0 0 [] (.inl rfl) (fun x hx => by cases hx) rfl (by omega)).mono ?_
    rintro e w' ⟨a', c', rfl, _, _, h1, h2⟩
    refine ⟨a', c', _, rfl, ⟨h1, by simp [sixR], fun x hx => ?_, ?_, ?_⟩, h2⟩
    · obtain ⟨i, _, rfl⟩ := List.mem_map.1 hx
      exact (stk_ok hok _).keep h2
    · rw [sixR_co, hst]; rfl
    · rw [hst]; exact stk_off S
  clear hOs hR hS hn hok hL hLn hst
  go_enter Tryd.func10, Tryd.ntmps10
  by_cases h0 : on = 0
  · have e0 : ((on : Int) == 0) = true := by simp [h0]
    have HF : Hid (RES = ((0, 9), st)) := by rw [← HRES.out]; exact if_pos (List.length_eq_zero_iff.1 (HOS.out.2.trans h0))
    clear h0
    go_wp2_with fail
    go_ret3
    rw [HF.out]
    exact ⟨_, rfl, ⟨fun _ => rfl, (fun h => by cases h)⟩, Below.refl _ _⟩
  have e0 : ((on : Int) == 0) = false := by rw [beq_eq_false_iff_ne]; omega
  have hO0 : Os ≠ [] := fun e => h0 (by rw [← HOS.out.2, e]; rfl)
  clear h0
  by_cases h8 : 8 < on
  · have e8 : decide ((8 : Int) < (on : Int)) = true := by rw [decide_eq_true_eq]; omega
    have HF : Hid (RES = ((0, 3), st)) := by show _ = _; rw [← HRES.out]; unfold allR; rw [if_neg hO0, if_pos (by rw [HOS.out.2]; exact h8)]
    clear h8 hO0
    go_wp2_with fail
    go_ret3
    rw [HF.out]
    exact ⟨_, rfl, ⟨fun _ => rfl, (fun h => by cases h)⟩, Below.refl _ _⟩
  have e8 : decide ((8 : Int) < (on : Int)) = false := by rw [decide_eq_false_iff_not]; omega
  have HG : Hid (goA ow st Os 0 = RES) := by have := HRES.out; unfold allR at this; rwa [if_neg hO0, if_neg (by rw [HOS.out.2]; exact h8)] at this
  have H8 : Hid (on ≤ 8) := by show _ ≤ _; omega
  clear h8 hO0
  go_wp2_with fail
  refine KP0.out.mono ?_
  rintro e w1 ⟨a1, c1, T1, rfl, r1, b1⟩
  have HT1 : Hid (R6 w1 a1 T1 st ∧ Below w.heap.size w w1) := ⟨r1, b1⟩
  have hmk : (Instr.makeSlice 57 (.int .i64 7) (.int .i64 7)).run Tryd.prog w1 = .ok (.slice (some ⟨w1.heap.size, 0, none⟩) 7 7) (w1.alloc (.cells (flc []).toArray 4)) := by
    obtain ⟨i, hi, hz, hs, hb⟩ := infoBl
    have h := run_make (P := Tryd.prog) w1 57 4 i _ Tryd.underlying57 hi hz .i64 .i64 7 7 (by omega) (Int.le_refl _) (by rw [hb]; omega) (by omega)
    rw [hs] at h
    rw [flc_nil]
    simpa [Value.cells] using h
  obtain ⟨gN, hgN⟩ : ∃ g, g = w1.heap.size := ⟨_, rfl⟩
  obtain ⟨w2, hw2⟩ : ∃ w2, w2 = w1.alloc (.cells (flc []).toArray 4) := ⟨_, rfl⟩
  have H2 : Hid (w2.heap[gN]? = some (.cells (flc []).toArray 4) ∧ R6 w2 a1 T1 st ∧ Below w.heap.size w w2 ∧ w.heap.size ≤ gN) := by
    rw [hw2, hgN]
    exact ⟨heap_alloc_new w1 _, r1.keep (below1 w1 _), b1.alloc b1.size _, b1.size⟩
  rw [← hw2, ← hgN] at hmk
  clear r1 b1 KP0 e0 e8 HT1 hw2 hgN
  go_wp2_with fail
  go_loopg [9, 11] on (fun gg now i wr => ∃ (j : Nat) (T : List Sk) (a2 : Option Addr) (c2 : Nat) (stj : Int → List Pc), j ≤ on ∧ gg = on - j ∧ now = .slice a2 6 c2 ∧ i = .int .i64 (j : Int) ∧ Hid (wr.heap[gN]? = some (.cells (flc (Os.take j)).toArray 4) ∧ R6 wr a2 T stj ∧ goA ow stj (Os.drop j) j = RES ∧ Below w.heap.size w wr))
  case atStart => exact ⟨0, T1, a1, c1, st, Nat.zero_le _, rfl, rfl, rfl, H2.out.1, H2.out.2.1, HG.out, H2.out.2.2.1⟩
  case round =>
    obtain ⟨j, T, a2, c2, stj, hj, rfl, rfl, rfl, RW⟩ := hrel
    by_cases hlt : j < on
    · have j1 : decide ((j : Int) < (on : Int)) = true := by rw [decide_eq_true_eq]; omega
      have j3 : decide (j < on) = true := by rw [decide_eq_true_eq]; omega
      have j4 : (j : Int) < (on : Int) := by omega
      have ri : IntKind.i64.wrap ((j : Int) + 1) = (j : Int) + 1 := by rw [IntKind.wrap_i64]; have := H8.out; omega
      obtain ⟨x, hx⟩ : ∃ x, L[j]? = some x := ⟨L[j]'(by rw [HI.out.2]; exact hlt), List.getElem?_eq_getElem _⟩
      have hxo : Os[j]? = some x.o := by rw [HOS.out.1, List.getElem?_map, hx]; rfl
      obtain ⟨b, off, rfl, hbw, hpc, hok⟩ := HI.out.1.at hx
      obtain ⟨⟨ok, r, nm, v, l⟩, la, ln, lc⟩ := x
      have HXO : Hid (Os[j]? = some ⟨ok, r, nm, v, l⟩ ∧ Os.take (j + 1) = Os.take j ++ [⟨ok, r, nm, v, l⟩]) := ⟨hxo, by rw [List.take_add_one, hxo]; rfl⟩
      have HC : Hid (∀ W, Below wr.heap.size wr W → W.cell? ⟨b, off + j * 5, none⟩ = some (.int .i64 ok) ∧ W.cell? ⟨b, off + j * 5 + 1, none⟩ = some (.int .i64 r) ∧ W.cell? ⟨b, off + j * 5 + 2, none⟩ = some (.string (tx nm)) ∧ W.cell? ⟨b, off + j * 5 + 3, none⟩ = some (.string (tx v)) ∧ W.cell? ⟨b, off + j * 5 + 4, none⟩ = some (.slice la ln lc)) := fun W hW => by
        have hb := RW.out.2.2.2.trans (hW.mono RW.out.2.2.2.size)
        exact ⟨by simpa using hpc W hb 0 _ rfl, by simpa using hpc W hb 1 _ rfl, by simpa using hpc W hb 2 _ rfl, by simpa using hpc W hb 3 _ rfl, by simpa using hpc W hb 4 _ rfl⟩
      have KA : Hid (∀ W, Below wr.heap.size wr W → Calls Tryd.prog 28 #[.slice a2 6 c2, .int .i64 r] W fun e w' => e = .returned (.slice (stk T r).a (stk T r).n (stk T r).c) ∧ w' = W) := fun W hW => rat6_is W a2 c2 T (RW.out.2.1.inp.keep hW) RW.out.2.1.len r
      obtain ⟨D, hD⟩ : ∃ D, D = doE (stj r) ow ⟨ok, r, nm, v, l⟩ := ⟨_, rfl⟩
      have HD : Hid (D = doE (stj r) ow ⟨ok, r, nm, v, l⟩) := hD
      have hsj : (stk T r).M.map co = stj r := (congrFun RW.out.2.1.stk r).symm
      have KD : Hid (∀ W, Below wr.heap.size wr W → Calls Tryd.prog 27 #[.slice (stk T r).a (stk T r).n (stk T r).c, .int .i64 ow, .agg #[.int .i64 ok, .int .i64 r, .string (tx nm), .string (tx v), .slice la ln lc]] W fun e w' => ∃ V, e = .returned (.tuple #[V, .int .i64 D]) ∧ RDoSaid W w' (stj r) ow ⟨ok, r, nm, v, l⟩ V) := fun W hW => by
        have h := rdo_is W (stk T r).a (stk T r).n (stk T r).c (stk T r).M ((stk_ok RW.out.2.1.ok r).keep hW) ow ⟨ok, r, nm, v, l⟩ la ln lc (hok.keep (RW.out.2.2.2.trans (hW.mono RW.out.2.2.2.size)))
        rw [hsj, ← hD] at h
        exact h
      clear hx hxo hpc hok hD hsj hlt
      go_upto_region 10 with fail
      go_cut [12, 13] from 31 to 46 (fun v12 v13 wx => v13 = .int .i64 D ∧ Hid (((D ≠ 0 → v12 = .slice none 0 0) ∧ (D = 0 → ∃ a n c M, v12 = .slice a n c ∧ StAt wx a n c M ∧ M.map co = nxt (stj r) ow ⟨ok, r, nm, v, l⟩)) ∧ Below wr.heap.size wr wx))
      case first =>
        refine wp_region_noPanic ?_
        refine wp_region_held_drew (S := (fun W : World => Below wr.heap.size wr W)) (by kernel_rfl) ?hSad (fun hHeld => ?restad)
        case hSad => exact (Below.refl _ wr).drew
        case restad =>
          refine wpAnyH_take (i := 0) (v := .slice a2 6 c2) rfl (by kernel_rfl) (by kernel_rfl) (by kernel_rfl) (fun _ _ _ h => h) (Or.inl ⟨by kernel_rfl, ?hy0d⟩) hHeld ?rest0d
          case hy0d => (intro w' hSw; (try dsimp only at hSw); go_simp; try with_reducible rfl)
          try simp only [Act.put, List.setIfInBounds_toArray, List.set_cons_zero, List.set_cons_succ, List.getElem_toArray, List.getElem_cons_zero, List.getElem_cons_succ]
          refine wpAnyH_take (i := 1) (v := .slice (some ⟨b, off, none⟩) on oc) rfl (by kernel_rfl) (by kernel_rfl) (by kernel_rfl) (fun _ _ _ h => h) (Or.inl ⟨by kernel_rfl, ?hy1d⟩) hHeld ?rest1d
          case hy1d => (intro w' hSw; (try dsimp only at hSw); go_simp; try with_reducible rfl)
          try simp only [Act.put, List.setIfInBounds_toArray, List.set_cons_zero, List.set_cons_succ, List.getElem_toArray, List.getElem_cons_zero, List.getElem_cons_succ]
          refine wpAnyH_take (i := 2) (v := .int .i64 (j : Int)) rfl (by kernel_rfl) (by kernel_rfl) (by kernel_rfl) (fun _ _ _ h => h) (Or.inl ⟨by kernel_rfl, ?hy2d⟩) hHeld ?rest2d
          case hy2d => (intro w' hSw; (try dsimp only at hSw); go_simp; try with_reducible rfl)
          try simp only [Act.put, List.setIfInBounds_toArray, List.set_cons_zero, List.set_cons_succ, List.getElem_toArray, List.getElem_cons_zero, List.getElem_cons_succ]
          refine wpAnyH_take (i := 3) (v := .pointer (some ⟨b, off + j * 5, none⟩)) rfl (by kernel_rfl) (by kernel_rfl) (by kernel_rfl) (fun _ _ _ h => h) (Or.inl ⟨by kernel_rfl, ?hy3d⟩) hHeld ?rest3d
          case hy3d => (intro w' hSw; (try dsimp only at hSw); go_simp; try with_reducible rfl)
          try simp only [Act.put, List.setIfInBounds_toArray, List.set_cons_zero, List.set_cons_succ, List.getElem_toArray, List.getElem_cons_zero, List.getElem_cons_succ]
          refine wpAnyH_take (i := 4) (v := .pointer (some ⟨b, off + j * 5 + 1, none⟩)) rfl (by kernel_rfl) (by kernel_rfl) (by kernel_rfl) (fun _ _ _ h => h) (Or.inl ⟨by kernel_rfl, ?hy4d⟩) hHeld ?rest4d
          case hy4d => (intro w' hSw; (try dsimp only at hSw); go_simp; try with_reducible rfl)
          try simp only [Act.put, List.setIfInBounds_toArray, List.set_cons_zero, List.set_cons_succ, List.getElem_toArray, List.getElem_cons_zero, List.getElem_cons_succ]
          refine wpAnyH_take (i := 5) (v := .int .i64 r) rfl (by kernel_rfl) (by kernel_rfl) (by kernel_rfl) (fun _ _ _ h => h) (Or.inl ⟨by kernel_rfl, ?hy5d⟩) hHeld ?rest5d
          case hy5d => (intro w' hSw; (try dsimp only at hSw); obtain ⟨p0, p1, p2, p3, p4⟩ := HC.out _ hSw; go_simp; try with_reducible rfl)
          try simp only [Act.put, List.setIfInBounds_toArray, List.set_cons_zero, List.set_cons_succ, List.getElem_toArray, List.getElem_cons_zero, List.getElem_cons_succ]
          refine wpAnyH_take (i := 7) (v := .int .i64 ow) rfl (by kernel_rfl) (by kernel_rfl) (by kernel_rfl) (fun _ _ _ h => h) (Or.inl ⟨by kernel_rfl, ?hy7d⟩) hHeld ?rest7d
          case hy7d => (intro w' hSw; (try dsimp only at hSw); go_simp; try with_reducible rfl)
          try simp only [Act.put, List.setIfInBounds_toArray, List.set_cons_zero, List.set_cons_succ, List.getElem_toArray, List.getElem_cons_zero, List.getElem_cons_succ]
          refine wpAnyH_take (i := 8) (v := .slice (some ⟨b, off, none⟩) on oc) rfl (by kernel_rfl) (by kernel_rfl) (by kernel_rfl) (fun _ _ _ h => h) (Or.inl ⟨by kernel_rfl, ?hy8d⟩) hHeld ?rest8d
          case hy8d => (intro w' hSw; (try dsimp only at hSw); go_simp; try with_reducible rfl)
          try simp only [Act.put, List.setIfInBounds_toArray, List.set_cons_zero, List.set_cons_succ, List.getElem_toArray, List.getElem_cons_zero, List.getElem_cons_succ]
          refine wpAnyH_take (i := 9) (v := .int .i64 (j : Int)) rfl (by kernel_rfl) (by kernel_rfl) (by kernel_rfl) (fun _ _ _ h => h) (Or.inl ⟨by kernel_rfl, ?hy9d⟩) hHeld ?rest9d
          case hy9d => (intro w' hSw; (try dsimp only at hSw); go_simp; try with_reducible rfl)
          try simp only [Act.put, List.setIfInBounds_toArray, List.set_cons_zero, List.set_cons_succ, List.getElem_toArray, List.getElem_cons_zero, List.getElem_cons_succ]
          refine wpAnyH_take (i := 10) (v := .pointer (some ⟨b, off + j * 5, none⟩)) rfl (by kernel_rfl) (by kernel_rfl) (by kernel_rfl) (fun _ _ _ h => h) (Or.inl ⟨by kernel_rfl, ?hy10d⟩) hHeld ?rest10d
          case hy10d => (intro w' hSw; (try dsimp only at hSw); go_simp; try with_reducible rfl)
          try simp only [Act.put, List.setIfInBounds_toArray, List.set_cons_zero, List.set_cons_succ, List.getElem_toArray, List.getElem_cons_zero, List.getElem_cons_succ]
          refine wpAnyH_take (i := 11) (v := .agg #[.int .i64 ok, .int .i64 r, .string (tx nm), .string (tx v), .slice la ln lc]) rfl (by kernel_rfl) (by kernel_rfl) (by kernel_rfl) (fun _ _ _ h => h) (Or.inl ⟨by kernel_rfl, ?hy11d⟩) hHeld ?rest11d
          case hy11d => (intro w' hSw; (try dsimp only at hSw); obtain ⟨p0, p1, p2, p3, p4⟩ := HC.out _ hSw; go_simp; try with_reducible rfl)
          try simp only [Act.put, List.setIfInBounds_toArray, List.set_cons_zero, List.set_cons_succ, List.getElem_toArray, List.getElem_cons_zero, List.getElem_cons_succ]
          refine wpAnyH_ready (rs := [6]) (by kernel_rfl) (by simp) ?_
          refine AllReadyH.cons rfl (fun K hK => ?_) AllReadyH.nil
          go_simp
          refine (KA.out _ (Below.refl _ wr).drew).mono ?_
          rintro e5 w5 ⟨rfl, h5⟩
          have B5 : Hid (Below wr.heap.size wr w5) := by rw [h5]; exact (Below.refl _ wr).drew
          clear h5
          go_wp2_with fail
          refine hK.out _ _ ?hS6d (fun hHeld => ?rest6d)
          case hS6d => exact B5.out
          clear hK K
          try simp only [Act.put, List.setIfInBounds_toArray, List.set_cons_zero, List.set_cons_succ, List.getElem_toArray, List.getElem_cons_zero, List.getElem_cons_succ]
          refine wpAnyH_ready (rs := [12]) (by kernel_rfl) (by simp) ?_
          refine AllReadyH.cons rfl (fun K hK => ?_) AllReadyH.nil
          go_simp
          refine (KD.out _ B5.out).mono ?_
          rintro e6 w6 ⟨VD, rfl, d6⟩
          have D6 : Hid (RDoSaid w5 w6 (stj r) ow ⟨ok, r, nm, v, l⟩ VD) := d6
          have B6 : Hid (Below wr.heap.size wr w6) := B5.out.trans (d6.2.2.mono B5.out.size)
          clear d6
          go_wp2_with fail
          refine hK.out _ _ ?hS12d (fun hHeld => ?rest12d)
          case hS12d => exact B6.out
          clear hK K
          try simp only [Act.put, List.setIfInBounds_toArray, List.set_cons_zero, List.set_cons_succ, List.getElem_toArray, List.getElem_cons_zero, List.getElem_cons_succ]
          refine wpAnyH_take (i := 13) (v := .tuple #[VD, .int .i64 D]) rfl (by kernel_rfl) (by kernel_rfl) (by kernel_rfl) (fun _ _ _ h => h) (Or.inl ⟨by kernel_rfl, ?hy13d⟩) hHeld ?rest13d
          case hy13d => (intro w' hSw; (try dsimp only at hSw); go_simp; try with_reducible rfl)
          try simp only [Act.put, List.setIfInBounds_toArray, List.set_cons_zero, List.set_cons_succ, List.getElem_toArray, List.getElem_cons_zero, List.getElem_cons_succ]
          refine wpAnyH_take (i := 14) (v := VD) rfl (by kernel_rfl) (by kernel_rfl) (by kernel_rfl) (fun _ _ _ h => h) (Or.inl ⟨by kernel_rfl, ?hy14d⟩) hHeld ?rest14d
          case hy14d => (intro w' hSw; (try dsimp only at hSw); go_simp; try with_reducible rfl)
          try simp only [Act.put, List.setIfInBounds_toArray, List.set_cons_zero, List.set_cons_succ, List.getElem_toArray, List.getElem_cons_zero, List.getElem_cons_succ]
          refine wpAnyH_take (i := 15) (v := .int .i64 D) rfl (by kernel_rfl) (by kernel_rfl) (by kernel_rfl) (fun _ _ _ h => h) (Or.inl ⟨by kernel_rfl, ?hy15d⟩) hHeld ?rest15d
          case hy15d => (intro w' hSw; (try dsimp only at hSw); go_simp; try with_reducible rfl)
          try simp only [Act.put, List.setIfInBounds_toArray, List.set_cons_zero, List.set_cons_succ, List.getElem_toArray, List.getElem_cons_zero, List.getElem_cons_succ]
          refine wpAnyH_take (i := 16) (v := VD) rfl (by kernel_rfl) (by kernel_rfl) (by kernel_rfl) (fun _ _ _ h => h) (Or.inl ⟨by kernel_rfl, ?hy16d⟩) hHeld ?rest16d
          case hy16d => (intro w' hSw; (try dsimp only at hSw); go_simp; try with_reducible rfl)
          try simp only [Act.put, List.setIfInBounds_toArray, List.set_cons_zero, List.set_cons_succ, List.getElem_toArray, List.getElem_cons_zero, List.getElem_cons_succ]
          refine wpAnyH_take (i := 17) (v := .int .i64 D) rfl (by kernel_rfl) (by kernel_rfl) (by kernel_rfl) (fun _ _ _ h => h) (Or.inl ⟨by kernel_rfl, ?hy17d⟩) hHeld ?rest17d
          case hy17d => (intro w' hSw; (try dsimp only at hSw); go_simp; try with_reducible rfl)
          try simp only [Act.put, List.setIfInBounds_toArray, List.set_cons_zero, List.set_cons_succ, List.getElem_toArray, List.getElem_cons_zero, List.getElem_cons_succ]
          refine wpAnyH_done (by kernel_rfl) ?_ _
          refine NoPanic.normal ?_
          try go_wp2_with fail
          go_meet
          case rel => exact ⟨rfl, by obtain ⟨h1, h2, h3⟩ := D6.out; rw [HD.out]; exact ⟨h1, h2⟩, B6.out⟩
      obtain ⟨w6, rfl⟩ : ∃ w6, w6 = wc := ⟨_, rfl⟩
      obtain ⟨rfl, Y6⟩ := hcut
      obtain ⟨VD, hVD⟩ : ∃ V, V = u12 := ⟨_, rfl⟩
      rw [← hVD] at Y6
      have Y6 : Hid _ := Y6
      subst hVD
      by_cases hE : D = 0
      · obtain ⟨na, nn, nc, M, hv, hst, hco⟩ := Y6.out.1.2 hE
        subst hv
        have hrr : 1 ≤ r ∧ r ≤ 6 := doE_root (o := ⟨ok, r, nm, v, l⟩) (by rw [← HD.out]; exact hE)
        obtain ⟨q, hq⟩ : ∃ q : Nat, r = (q : Int) := ⟨r.toNat, by omega⟩
        subst hq
        have HQ : Hid (1 ≤ q ∧ q ≤ 6) := by show _ ∧ _; omega
        have HN : Hid (StAt w6 na nn nc M ∧ M.map co = nxt (stj (q : Int)) ow ⟨ok, q, nm, v, l⟩) := ⟨hst, hco⟩
        have HGN : Hid (goA ow (upd stj (q : Int) (nxt (stj (q : Int)) ow ⟨ok, q, nm, v, l⟩)) (Os.drop (j + 1)) (j + 1) = RES) := by
          have := RW.out.2.2.1
          rw [goA_at HXO.out.1, ← HD.out, if_neg (fun h => h hE)] at this
          exact this
        have e0 : (D != 0) = false := by rw [hE]; decide
        clear hst hco hrr hE KA KD
        obtain ⟨_, p1, _⟩ := HC.out w6 Y6.out.2
        have KP : Hid (∀ W gb, Below w6.heap.size w6 W → W.heap[gb]? = some (.cells #[.int .i64 (q : Int), .slice na nn nc] 36) → Calls Tryd.prog 17 #[.slice a2 6 c2, .slice (some ⟨gb, 0, none⟩) 1 1] W fun e w' => ∃ a' c' T', e = .returned (.slice a' 6 c') ∧ R6 w' a' T' (upd stj (q : Int) (nxt (stj (q : Int)) ow ⟨ok, q, nm, v, l⟩)) ∧ Below W.heap.size W w') := fun W gb hW hgb => by
          have hT := RW.out.2.1.keep (Y6.out.2.trans (hW.mono Y6.out.2.size))
          have hPv : ∀ x ∈ [(⟨(q : Int), na, nn, nc, M⟩ : Pv)], PvOk W x := fun x hx => by rw [List.mem_singleton.1 hx]; exact HN.out.1.keep hW
          refine (rput_is W a2 6 c2 T hT.inp hT.len hT.ok (by omega) (some ⟨gb, 0, none⟩) 1 1 [⟨(q : Int), na, nn, nc, M⟩] (inPv1 (x := ⟨(q : Int), na, nn, nc, M⟩) hgb (hPv _ (by simp))) hPv rfl (by omega)).mono ?_
          rintro e w' ⟨a', c', rfl, _, _, h1, h2⟩
          refine ⟨a', c', _, rfl, ⟨h1, by simp [sixR], fun x hx => ?_, ?_, upd_off hT.off (by have := HQ.out; omega) _⟩, h2⟩
          · obtain ⟨i, _, rfl⟩ := List.mem_map.1 hx
            exact (pkR_ok hT.ok hPv _).keep h2
          · rw [sixR_co, ← hT.stk]
            have e : ([(⟨(q : Int), na, nn, nc, M⟩ : Pv)].map fun x => (x.r, x.co)) = [((q : Int), nxt (stj (q : Int)) ow ⟨ok, q, nm, v, l⟩)] := by
              show [((q : Int), M.map co)] = _
              rw [HN.out.2]
            rw [e, putC_one _ (by have := HQ.out; omega)]
        go_wp2_with fail
        refine (KP.out _ w6.heap.size (below1 w6 _) (heap_alloc_new w6 _)).mono ?_
        rintro e w7 ⟨a3, c3, T3, rfl, r7, b7⟩
        have B7 : Hid (Below wr.heap.size wr w7) := Y6.out.2.trans (((below1 w6 _).trans (b7.mono (below1 w6 _).size)).mono Y6.out.2.size)
        have R7 : Hid (R6 w7 a3 T3 (upd stj (q : Int) (nxt (stj (q : Int)) ow ⟨ok, q, nm, v, l⟩))) := r7
        clear r7 b7 KP p1
        have G7 : Hid (w7.heap[gN]? = some (.cells (flc (Os.take j)).toArray 4)) := (B7.out.block gN (lt_of_heapK RW.out.1)).trans RW.out.1
        obtain ⟨_, p1, _⟩ := HC.out w7 B7.out
        have g0 : w7.cell? ⟨gN, q, none⟩ = some (.bool (flg (Os.take j) q)) := by
          have := flc_at (Os.take j) q (by have := HQ.out; omega)
          simp [World.cell?, G7.out, this]
        have fz := frozen_blk G7.out q
        have q1 : (0 : Int) ≤ (q : Int) ∧ (q : Int) < 7 := by have := HQ.out; omega
        have q2 : q < 7 := by omega
        go_wp2_with fail
        go_roundg (on - (j + 1))
        case measure => omega
        case rel =>
          have hset := setCell_blk (i := q) (.bool true) G7.out
          have hfl : (flc (Os.take j)).toArray.setIfInBounds q (.bool true) = (flc (Os.take (j + 1))).toArray := by
            rw [HXO.out.2, ← flc_set _ _ (by show 1 ≤ (q : Int) ∧ (q : Int) ≤ 6; have := HQ.out; omega)]
            simp
          rw [hfl] at hset
          have hB := RW.out.2.2.2.trans (B7.out.mono RW.out.2.2.2.size)
          exact ⟨j + 1, T3, a3, c3, _, by omega, rfl, rfl, by push_cast; rfl, hset, R7.out.offB (flc_blb G7.out) (offG_set w7 gN q _), HGN.out, below_setG hB H2.out.2.2.2 (by have := RW.out.2.2.2.size; have := B7.out.size; omega)⟩
      · have hv := Y6.out.1.1 hE
        subst hv
        have HF : Hid (RES = ((j, D), stj)) := by
          have := RW.out.2.2.1
          rw [goA_at HXO.out.1, ← HD.out, if_pos hE] at this
          exact this.symm
        have e0 : (D != 0) = true := by simpa using hE
        have HDE : Hid (D ≠ 0) := hE
        have BF : Hid (Below w.heap.size w w6) := RW.out.2.2.2.trans (Y6.out.2.mono RW.out.2.2.2.size)
        clear hE KA KD
        go_wp2_with fail
        go_ret3
        rw [HF.out]
        exact ⟨_, rfl, ⟨fun _ => rfl, (fun h => absurd h HDE.out)⟩, BF.out⟩
    · obtain rfl : j = on := by omega
      have j1 : decide ((j : Int) < (j : Int)) = false := by rw [decide_eq_false_iff_not]; omega
      have j3 : decide (j < j) = false := by rw [decide_eq_false_iff_not]; omega
      obtain ⟨wo, hwo⟩ : ∃ wo, wo = wr := ⟨_, rfl⟩
      rw [← hwo] at RW ⊢
      clear hwo
      have HF : Hid (RES = ((0, 0), stj)) := by
        have := RW.out.2.2.1
        rw [goA_end (by rw [HOS.out.2]; exact Nat.le_refl _)] at this
        exact this.symm
      have G0 : Hid (wo.heap[gN]? = some (.cells (flc Os).toArray 4)) := by
        have := RW.out.1
        rwa [List.take_of_length_le (by rw [HOS.out.2]; exact Nat.le_refl _)] at this
      go_wp2_with fail
      go_loopg [14, 15] 6 (fun gg V i wr => ∃ (k : Nat) (Q : List Pv), k ≤ 6 ∧ gg = 6 - k ∧ i = .int .i64 ((k : Int) + 1) ∧ Hid (OwnPv wr wo.heap.size V Q ∧ (∀ p ∈ Q, PvOk wo p) ∧ Q.map (fun x => (x.r, x.co)) = (rtk Os k).map (fun r => (r, stj r)) ∧ Below wo.heap.size wo wr))
      case atStart => exact ⟨0, [], by omega, rfl, rfl, OwnPv.nil _ _, (fun p hp => by cases hp), rfl, Below.refl _ _⟩
      case round =>
        obtain ⟨k, Q, hk, rfl, rfl, RQ⟩ := hrel
        by_cases hlt : k < 6
        · have k1 : decide ((k : Int) + 1 ≤ 6) = true := by rw [decide_eq_true_eq]; omega
          have ri : IntKind.i64.wrap ((k : Int) + 1 + 1) = (k : Int) + 1 + 1 := by rw [IntKind.wrap_i64]; omega
          have q1 : (0 : Int) ≤ (k : Int) + 1 ∧ (k : Int) + 1 < 7 := by omega
          have g0 : wr.cell? ⟨gN, k + 1, none⟩ = some (.bool (flg Os (k + 1))) := by
            have h1 := flc_at Os (k + 1) (by omega)
            have h2 := (RQ.out.2.2.2.block gN (lt_of_heapK G0.out)).trans G0.out
            simp [World.cell?, h2, h1]
          cases hfl : flg Os (k + 1) with
          | false =>
            rw [hfl] at g0
            have HRT : Hid (rtk Os (k + 1) = rtk Os k) := by show _ = _; rw [rtk_succ, hfl]; simp
            clear hfl
            go_wp2_with fail
            go_roundg (6 - (k + 1))
            case measure => omega
            case rel => exact ⟨k + 1, Q, by omega, rfl, by push_cast; rfl, RQ.out.1, RQ.out.2.1, by rw [HRT.out]; exact RQ.out.2.2.1, RQ.out.2.2.2⟩
          | true =>
            rw [hfl] at g0
            have HRT : Hid (rtk Os (k + 1) = rtk Os k ++ [(k : Int) + 1]) := by show _ = _; rw [rtk_succ, hfl]; simp
            obtain ⟨y, hy⟩ : ∃ y, T[k]? = some y := ⟨T[k]'(by rw [RW.out.2.1.len]; exact hlt), List.getElem?_eq_getElem _⟩
            obtain ⟨b2, off2, rfl, _, hpc, hok⟩ := RW.out.2.1.inp.at hy
            have y0 : wr.cell? ⟨b2, off2 + k, none⟩ = some (.slice y.a y.n y.c) := by simpa using hpc wr RQ.out.2.2.2 0 _ rfl
            have HY : Hid (PvOk wo ⟨(k : Int) + 1, y.a, y.n, y.c, y.M⟩ ∧ y.co = stj ((k : Int) + 1)) := by
              refine ⟨hok, ?_⟩
              have h1 := six_at stj k hlt
              rw [← RW.out.2.1.co, List.getElem?_map, hy] at h1
              simpa using h1
            obtain ⟨ya, yn, yc, yM⟩ := y
            simp only at y0
            have k4 : (0 : Int) ≤ (k : Int) ∧ (k : Int) < 6 := by omega
            clear hfl hy hpc hok
            have O3 : Hid (OwnPv (wr.alloc (.cells #[.int .i64 ((k : Int) + 1), .slice ya yn yc] 36)) wo.heap.size u14 Q) := RQ.out.1.keep (below1 wr _)
            have LN : Hid (Q.length ≤ 100000000 ∧ wo.heap.size ≤ (wr.alloc (.cells #[.int .i64 ((k : Int) + 1), .slice ya yn yc] 36)).heap.size) := by
              refine ⟨?_, by have := RQ.out.2.2.2.size; simp; omega⟩
              have := congrArg List.length RQ.out.2.2.1
              rw [List.length_map, List.length_map] at this
              have h2 : (rtk Os k).length ≤ k := Nat.le_trans (List.length_filter_le _ _) (by simp)
              omega
            go_wp2_with (at_builtin; refine append_pv rfl (.tmp 76) (.tmp 84) rfl wo.heap.size _ _ rfl O3.out wr.heap.size 1 ⟨(k : Int) + 1, ya, yn, yc, yM⟩ rfl (heap_alloc_new wr _) LN.out.1 LN.out.2 ?_; intro v8 u8 o8 g8; have F8 : Hid (OwnPv u8 wo.heap.size v8 (Q ++ [⟨(k : Int) + 1, ya, yn, yc, yM⟩]) ∧ (wr.alloc (.cells #[.int .i64 ((k : Int) + 1), .slice ya yn yc] 36)).grownBy u8 u14.ownBlock) := ⟨o8, g8⟩; clear o8 g8)
            go_roundg (6 - (k + 1))
            case measure => omega
            case rel =>
              refine ⟨k + 1, Q ++ [⟨(k : Int) + 1, ya, yn, yc, yM⟩], by omega, rfl, by push_cast; rfl, F8.out.1, fun p hp => ?_, ?_, (RQ.out.2.2.2.alloc RQ.out.2.2.2.size _).grown F8.out.2 LN.out.2 (fun q hq => (O3.out.own q hq).1)⟩
              · rcases List.mem_append.1 hp with hp | hp
                · exact RQ.out.2.1 p hp
                · rw [List.mem_singleton.1 hp]; exact HY.out.1
              · rw [List.map_append, HRT.out, List.map_append, RQ.out.2.2.1]
                congr 1
                show [((k : Int) + 1, yM.map co)] = [((k : Int) + 1, stj ((k : Int) + 1))]
                rw [← HY.out.2]
                rfl
        · obtain rfl : k = 6 := by omega
          have k1 : decide (((6 : Nat) : Int) + 1 ≤ 6) = false := by decide
          have HL : Hid (∃ a' c', u14 = .slice a' Q.length c' ∧ InPv wr a' Q) := by
            obtain ⟨a', c', hv, h1, _⟩ := RQ.out.1.slice (fun x hx => (RQ.out.2.1 x hx).keep RQ.out.2.2.2)
            exact ⟨a', c', hv, h1⟩
          go_wp2_with fail
          go_ret3
          rw [HF.out]
          obtain ⟨a', c', hv, h1⟩ := HL.out
          refine ⟨_, rfl, ⟨fun h => absurd rfl h, fun _ => ⟨a', _, c', Q, hv, h1, rfl, ?_, ?_⟩⟩, RW.out.2.2.2.trans (RQ.out.2.2.2.mono RW.out.2.2.2.size)⟩
          · have := congrArg List.length RQ.out.2.2.1
            rw [List.length_map, List.length_map, rtk_six] at this
            rw [this]
            exact rts_le Os
          · rw [RQ.out.2.2.1, rtk_six]
end Go.Proofs.YthghoekkdpchnaaDoor
