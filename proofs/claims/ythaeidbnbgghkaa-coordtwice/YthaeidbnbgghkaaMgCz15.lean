/- coord: Take, what is answered with nothing (gen_cozb.py). -/
import Derived.Test.YthaeidbnbgghkaaMgCz14
namespace Go.Proofs.Ythaeidbnbgghkaa
open Go.ChangeShapes Go.WideShapes Go.ChangeAt Go.RowKit Go.Deep Go.Maps
set_option linter.unusedVariables false
set_option linter.unusedSimpArgs false
set_option maxRecDepth 100000 in
set_option maxHeartbeats 8000000 in
theorem take_still_ours6 (w : World) (F : Nat → Prop) (b : Nat) (lim : Int) (n0 m : Nat) (B : Int → Option (Nat × Option Nat)) (X : Int → Option Tr) (h : Cd w F b lim n0 m B X) (f q : Int) (x : Tr) (hx : X q = some x) (hf : f ∈ x.rts) (hN : x.rts.length ≤ 1000) (hs3 : x.st ≠ 3) (a : Option Addr) (n c : Nat) (L : List Pk) (hn : L.length = n) (hL : InPk w a L) (hc : n ≤ c) (hc9 : c ≤ 9223372036854775807) (hN1 : n ≤ 1000000) (yb : Bool) (hchk : wchk 6 f 0 q yb L = 0) :
    Calls Try.prog 16 #[.pointer (some ⟨b, 0, none⟩), .agg #[.int .i64 6, .int .i64 f, .int .i64 0, .int .i64 q, .bool yb, .slice a n c]] w fun e w' => e = .returned (sd (.slice none 0 0) 0 0 0) ∧ Below w.heap.size w w' := by
  obtain ⟨W0, hW0⟩ : ∃ W0, W0 = (w.alloc (.cells #[.int .i64 6, .int .i64 f, .int .i64 0, .int .i64 q, .bool yb, .slice a n c] 25)).alloc (.cells #[.slice none 0 0, .int .i64 0, .int .i64 0, .int .i64 0] 46) := ⟨_, rfl⟩
  have HW0 : Hid ((w.alloc (.cells #[.int .i64 6, .int .i64 f, .int .i64 0, .int .i64 q, .bool yb, .slice a n c] 25)).alloc (.cells #[.slice none 0 0, .int .i64 0, .int .i64 0, .int .i64 0] 46) = W0) := hW0.symm
  have b1 := below1 w (.cells #[.int .i64 6, .int .i64 f, .int .i64 0, .int .i64 q, .bool yb, .slice a n c] 25)
  have b0 : Below w.heap.size w W0 := by rw [hW0]; exact b1.trans ((below1 _ _).mono b1.size)
  have r1 : W0.heap[w.heap.size + 1]? = some (.cells #[.slice none 0 0, .int .i64 0, .int .i64 0, .int .i64 0] 46) := by
    have := heap_alloc_new (w.alloc (.cells #[.int .i64 6, .int .i64 f, .int .i64 0, .int .i64 q, .bool yb, .slice a n c] 25)) (.cells #[.slice none 0 0, .int .i64 0, .int .i64 0, .int .i64 0] 46)
    rw [hW0]
    rwa [show (w.alloc (.cells #[.int .i64 6, .int .i64 f, .int .i64 0, .int .i64 q, .bool yb, .slice a n c] 25)).heap.size = w.heap.size + 1 by simp] at this
  have m1 : W0.heap[w.heap.size]? = some (.cells #[.int .i64 6, .int .i64 f, .int .i64 0, .int .i64 q, .bool yb, .slice a n c] 25) := by
    have := (below1 (w.alloc (.cells #[.int .i64 6, .int .i64 f, .int .i64 0, .int .i64 q, .bool yb, .slice a n c] 25)) (.cells #[.slice none 0 0, .int .i64 0, .int .i64 0, .int .i64 0] 46)).block w.heap.size (by simp)
    rw [hW0]
    exact this.trans (heap_alloc_new w _)
  have h0 := h.keep b0
  have KW := isNone_co W0 b lim m h0.box
  have KC := wcheck_is W0 6 f 0 q yb a n c L hn (hL.keep b0) hc hc9 hN1
  rw [hchk] at KC
  obtain ⟨y, hy, ht, hlk⟩ := h0.find hx
  obtain ⟨g0, g1, g2, g3, g4, g5⟩ := cells6 m1
  obtain ⟨y1, y2⟩ := y
  have HH : Hid (Cd W0 F b lim n0 m B X ∧ W0.heap[w.heap.size]? = some (.cells #[.int .i64 6, .int .i64 f, .int .i64 0, .int .i64 q, .bool yb, .slice a n c] 25) ∧ W0.heap[w.heap.size + 1]? = some (.cells #[.slice none 0 0, .int .i64 0, .int .i64 0, .int .i64 0] 46) ∧ Below w.heap.size w W0) := ⟨h0, m1, r1, b0⟩
  have HY : Hid (B q = some (y1, y2)) := hy
  have HT : Hid (x.rts.length ≤ 1000 ∧ decide (f ∈ x.rts) = true) := ⟨hN, by simpa using hf⟩
  have HX : Hid (X q = some x) := hx
  unfold sd
  clear h hW0 b1 b0 h0 r1 m1 hx hf hN hn hL hc hc9 hN1 hchk ht hlk hy
  go_enter Try.func16, Try.ntmps16
  go_wp2_with fail
  rw [HW0.out]
  refine KW.mono ?_
  rintro e w2 ⟨rfl, h2⟩
  obtain rfl := h2.symm
  clear h2
  go_wp2_with fail
  refine KC.mono ?_
  rintro e w2 ⟨rfl, b2⟩
  have d2 := HH.out.1.keep b2
  obtain ⟨c0, c1⟩ := d2.box.cells
  obtain ⟨yy, hy2, ht2, hlk⟩ := d2.find HX.out
  rw [HY.out] at hy2
  cases hy2
  obtain ⟨ra, rc, la, lc, P, hb, hz, _⟩ := ht2.open
  obtain ⟨t0, t1, t2, t3, t4⟩ := tr_cells hb
  simp only at t0 t1 t2 t3 t4 hlk
  obtain ⟨k0, k1, k2, k3, k4, k5⟩ := cells6 ((b2.block w.heap.size (lt_of_heapK HH.out.2.1)).trans HH.out.2.1)
  have r2 := (b2.block (w.heap.size + 1) (lt_of_heapK HH.out.2.2.1)).trans HH.out.2.2.1
  have H2 : Hid (Below w.heap.size w w2 ∧ w2.heap[w.heap.size + 1]? = some (.cells #[.slice none 0 0, .int .i64 0, .int .i64 0, .int .i64 0] 46)) := ⟨HH.out.2.2.2.trans (b2.mono HH.out.2.2.2.size), r2⟩
  have HF : Hid (∀ W, Below w2.heap.size w2 W → W.cell? ⟨b, 1, none⟩ = some (.map (some m)) ∧ W.cell? ⟨w.heap.size, 3, none⟩ = some (.int .i64 q) ∧ (Instr.lookup 29 (.map (some m)) (Value.int .i64 q) false).run Try.prog W = .ok (.pointer (some ⟨y1, 0, none⟩)) W) := fun W hW => by
    have d3 := d2.keep hW
    obtain ⟨yy, hy3, _, hl3⟩ := d3.find HX.out
    rw [HY.out] at hy3
    cases hy3
    exact ⟨d3.box.cells.2, (hW.cell (p := ⟨w.heap.size, 3, none⟩) (Nat.lt_of_lt_of_le (lt_of_heapK HH.out.2.1) b2.size)).trans k3, hl3⟩
  have QI : Hid (∀ q', Calls Try.prog 35 #[.slice ra x.rts.length rc, .int .i64 f] (w2.drew.drewN q') fun e w' => e = .returned (.bool true) ∧ w' = w2.drew.drewN q') := fun q' => by
    have := contains_is (w2.drew.drewN q') ra x.rts.length rc x.rts rfl (hz.keep (below_drewN (Below.refl _ w2).drew q')) (by have := HT.out.1; omega) f
    rwa [HT.out.2] at this
  generalize x.rts.length = nr at t3 QI
  generalize x.st = st at *
  have LY2 : Hid (y1 < w2.heap.size) := lt_of_heapK hb
  clear b2 d2 ht2 hb hz g0 g1 g2 g3 g4 g5 KC KW hlk r2
  have e3 : (st == (3 : Int)) = false := by simpa using hs3
  clear hs3
  go_wp2_with fail
  refine wp_region_noPanic ?_
  refine wp_region_held_drew (S := (fun W : World => Below w2.heap.size w2 W)) (by kernel_rfl) ?hSak (fun hHeld => ?restak)
  case hSak => exact (Below.refl _ w2).drew
  case restak =>
    refine wpAnyH_take (i := 0) (v := .pointer (some ⟨b, 0, none⟩)) rfl (by kernel_rfl) (by kernel_rfl) (by kernel_rfl) (fun _ _ _ h => h) (Or.inl ⟨by kernel_rfl, ?hy0k⟩) hHeld ?rest0k
    case hy0k => (intro w' hSw; (try dsimp only at hSw); go_simp; try with_reducible rfl)
    try simp only [Act.put, List.setIfInBounds_toArray, List.set_cons_zero, List.set_cons_succ, List.getElem_toArray, List.getElem_cons_zero, List.getElem_cons_succ]
    refine wpAnyH_take (i := 1) (v := .pointer (some ⟨b, 0, none⟩)) rfl (by kernel_rfl) (by kernel_rfl) (by kernel_rfl) (fun _ _ _ h => h) (Or.inl ⟨by kernel_rfl, ?hy1k⟩) hHeld ?rest1k
    case hy1k => (intro w' hSw; (try dsimp only at hSw); go_simp; try with_reducible rfl)
    try simp only [Act.put, List.setIfInBounds_toArray, List.set_cons_zero, List.set_cons_succ, List.getElem_toArray, List.getElem_cons_zero, List.getElem_cons_succ]
    refine wpAnyH_take (i := 2) (v := .pointer (some ⟨b, 1, none⟩)) rfl (by kernel_rfl) (by kernel_rfl) (by kernel_rfl) (fun _ _ _ h => h) (Or.inl ⟨by kernel_rfl, ?hy2k⟩) hHeld ?rest2k
    case hy2k => (intro w' hSw; (try dsimp only at hSw); go_simp; try with_reducible rfl)
    try simp only [Act.put, List.setIfInBounds_toArray, List.set_cons_zero, List.set_cons_succ, List.getElem_toArray, List.getElem_cons_zero, List.getElem_cons_succ]
    refine wpAnyH_take (i := 3) (v := .map (some m)) rfl (by kernel_rfl) (by kernel_rfl) (by kernel_rfl) (fun _ _ _ h => h) (Or.inl ⟨by kernel_rfl, ?hy3k⟩) hHeld ?rest3k
    case hy3k => (intro w' hSw; (try dsimp only at hSw); obtain ⟨p0, p1, p2⟩ := HF.out _ hSw; go_simp; try with_reducible rfl)
    try simp only [Act.put, List.setIfInBounds_toArray, List.set_cons_zero, List.set_cons_succ, List.getElem_toArray, List.getElem_cons_zero, List.getElem_cons_succ]
    refine wpAnyH_take (i := 4) (v := .pointer (some ⟨w.heap.size, 3, none⟩)) rfl (by kernel_rfl) (by kernel_rfl) (by kernel_rfl) (fun _ _ _ h => h) (Or.inl ⟨by kernel_rfl, ?hy4k⟩) hHeld ?rest4k
    case hy4k => (intro w' hSw; (try dsimp only at hSw); go_simp; try with_reducible rfl)
    try simp only [Act.put, List.setIfInBounds_toArray, List.set_cons_zero, List.set_cons_succ, List.getElem_toArray, List.getElem_cons_zero, List.getElem_cons_succ]
    refine wpAnyH_take (i := 5) (v := .int .i64 q) rfl (by kernel_rfl) (by kernel_rfl) (by kernel_rfl) (fun _ _ _ h => h) (Or.inl ⟨by kernel_rfl, ?hy5k⟩) hHeld ?rest5k
    case hy5k => (intro w' hSw; (try dsimp only at hSw); obtain ⟨p0, p1, p2⟩ := HF.out _ hSw; go_simp; try with_reducible rfl)
    try simp only [Act.put, List.setIfInBounds_toArray, List.set_cons_zero, List.set_cons_succ, List.getElem_toArray, List.getElem_cons_zero, List.getElem_cons_succ]
    refine wpAnyH_take (i := 6) (v := .pointer (some ⟨y1, 0, none⟩)) rfl (by kernel_rfl) (by kernel_rfl) (by kernel_rfl) (fun _ _ _ h => h) (Or.inl ⟨by kernel_rfl, ?hy6k⟩) hHeld ?rest6k
    case hy6k => (intro w' hSw; (try dsimp only at hSw); obtain ⟨p0, p1, p2⟩ := HF.out _ hSw; go_simp; try with_reducible rfl)
    try simp only [Act.put, List.setIfInBounds_toArray, List.set_cons_zero, List.set_cons_succ, List.getElem_toArray, List.getElem_cons_zero, List.getElem_cons_succ]
    refine wpAnyH_take (i := 7) (v := .pointer (some ⟨y1, 0, none⟩)) rfl (by kernel_rfl) (by kernel_rfl) (by kernel_rfl) (fun _ _ _ h => h) (Or.inl ⟨by kernel_rfl, ?hy7k⟩) hHeld ?rest7k
    case hy7k => (intro w' hSw; (try dsimp only at hSw); go_simp; try with_reducible rfl)
    try simp only [Act.put, List.setIfInBounds_toArray, List.set_cons_zero, List.set_cons_succ, List.getElem_toArray, List.getElem_cons_zero, List.getElem_cons_succ]
    refine wpAnyH_done (by kernel_rfl) ?_ _
    refine NoPanic.normal ?_
    try go_wp2_with fail
    have B3 : Hid (Below w2.heap.size w2 w2.drew) := (Below.refl _ w2).drew
    have u0 : w2.drew.cell? ⟨y1, 0, none⟩ = some (.int .i64 q) := t0
    have u1 : w2.drew.cell? ⟨y1, 1, none⟩ = some (.int .i64 st) := t1
    have u3 : w2.drew.cell? ⟨y1, 3, none⟩ = some (.slice ra nr rc) := t3
    clear t0 t1 t2 t3 t4
    have v0 : w2.drew.cell? ⟨w.heap.size, 0, none⟩ = some (.int .i64 6) := k0
    have v1 : w2.drew.cell? ⟨w.heap.size, 1, none⟩ = some (.int .i64 f) := k1
    have v3 : w2.drew.cell? ⟨w.heap.size, 3, none⟩ = some (.int .i64 q) := k3
    have v4 : w2.drew.cell? ⟨w.heap.size, 4, none⟩ = some (.bool yb) := k4
    clear k0 k1 k2 k3 k4 k5 c0 c1
    have LY : y1 < w2.drew.heap.size := LY2.out
    generalize w2.drew = w3 at *
    go_quiet ((go_at_call 35; refine (QI.out _).mono ?_; exact fun _ _ h => ⟨h.1, _, h.2⟩))
    have B4 : Hid (Below w.heap.size w (w3.drewN nq) ∧ (w3.drewN nq).heap[w.heap.size + 1]? = some (.cells #[.slice none 0 0, .int .i64 0, .int .i64 0, .int .i64 0] 46)) := by
      have b := below_drewN B3.out nq
      exact ⟨H2.out.1.trans (b.mono H2.out.1.size), (b.block _ (lt_of_heapK H2.out.2)).trans H2.out.2⟩
    have LT : w.heap.size + 1 < w3.heap.size := lt_of_heapK (show w3.heap[w.heap.size + 1]? = _ from B4.out.2)
    have bA := below1 (w3.drewN nq) (.cells #[.int .i64 0, .slice none 0 0] 61)
    have hA : ((w3.drewN nq).alloc (.cells #[.int .i64 0, .slice none 0 0] 61)).heap[w3.heap.size]? = _ := heap_alloc_new (w3.drewN nq) (.cells #[.int .i64 0, .slice none 0 0] 61)
    obtain ⟨a0, a1⟩ := pl_cells hA
    have fa0 := frozen_blk hA 0
    have fa1 := frozen_blk hA 1
    have va1 := (bA.cell (p := ⟨w.heap.size, 1, none⟩) (Nat.lt_trans (Nat.lt_succ_self _) LT)).trans (show (w3.drewN nq).cell? ⟨w.heap.size, 1, none⟩ = _ from v1)
    have hU : ∀ k, k < w3.heap.size → ((((w3.drewN nq).alloc (.cells #[.int .i64 0, .slice none 0 0] 61)).setCell ⟨w3.heap.size, 0, none⟩ (.int .i64 f)).setCell ⟨w3.heap.size, 1, none⟩ (.slice none 0 0)).heap[k]? = w3.heap[k]? := fun k hk => (set_off _ _ 1 k _ (Nat.ne_of_lt hk)).trans ((set_off _ _ 0 k _ (Nat.ne_of_lt hk)).trans (bA.block k hk))
    have uu1 := (World.cell?_of_block (a := ⟨y1, 1, none⟩) (hU y1 LY)).trans u1
    have rU := (hU (w.heap.size + 1) LT).trans (show w3.heap[w.heap.size + 1]? = _ from B4.out.2)
    have BU : Hid (Below w.heap.size w ((((w3.drewN nq).alloc (.cells #[.int .i64 0, .slice none 0 0] 61)).setCell ⟨w3.heap.size, 0, none⟩ (.int .i64 f)).setCell ⟨w3.heap.size, 1, none⟩ (.slice none 0 0)) ∧ ((((w3.drewN nq).alloc (.cells #[.int .i64 0, .slice none 0 0] 61)).setCell ⟨w3.heap.size, 0, none⟩ (.int .i64 f)).setCell ⟨w3.heap.size, 1, none⟩ (.slice none 0 0)).heap[w.heap.size + 1]? = some (.cells #[.slice none 0 0, .int .i64 0, .int .i64 0, .int .i64 0] 46)) := by
      refine ⟨⟨B4.out.1.os, B4.out.1.tape, B4.out.1.output, ?_, fun k hk => ?_⟩, rU⟩
      · have := B4.out.1.size
        simp [World.setCell] at this ⊢
        omega
      · exact (hU k (Nat.lt_trans hk (Nat.lt_trans (Nat.lt_succ_self _) LT))).trans (show w3.heap[k]? = _ from B4.out.1.block k hk)
    clear bA hA hU LT LY
    obtain ⟨q0, q1, q2, q3⟩ := cells4 rU
    have f0 := frozen_blk rU 0
    have f1 := frozen_blk rU 1
    have f2 := frozen_blk rU 2
    have f3 := frozen_blk rU 3
    clear rU
    go_wp2_with fail
    obtain ⟨e1, e2⟩ := chain4 (a' := .slice none 0 0) (b' := .int .i64 0) (c' := .int .i64 0) (d' := .int .i64 0) BU.out.2
    exact bodyPost_ret (results_cell_row Try.results16 _ _ (w.heap.size + 1) 46 _ (0, 0) _ rfl e1 Try.underlying46 rfl sizeSd) rfl ⟨rfl, BU.out.1.grown e2 BU.out.1.size (fun k hk => by cases hk; exact Nat.le_succ _)⟩
set_option maxRecDepth 100000 in
set_option maxHeartbeats 8000000 in
theorem take_still_ours2 (w : World) (F : Nat → Prop) (b : Nat) (lim : Int) (n0 m : Nat) (B : Int → Option (Nat × Option Nat)) (X : Int → Option Tr) (h : Cd w F b lim n0 m B X) (f q : Int) (x : Tr) (hx : X q = some x) (hf : f ∈ x.rts) (hN : x.rts.length ≤ 1000) (hs3 : x.st ≠ 3) (hs1 : x.st ≠ 1) (a : Option Addr) (n c : Nat) (L : List Pk) (hn : L.length = n) (hL : InPk w a L) (hc : n ≤ c) (hc9 : c ≤ 9223372036854775807) (hN1 : n ≤ 1000000) (yb : Bool) (hchk : wchk 2 f 0 q yb L = 0) :
    Calls Try.prog 16 #[.pointer (some ⟨b, 0, none⟩), .agg #[.int .i64 2, .int .i64 f, .int .i64 0, .int .i64 q, .bool yb, .slice a n c]] w fun e w' => e = .returned (sd (.slice none 0 0) 0 0 0) ∧ Below w.heap.size w w' := by
  obtain ⟨W0, hW0⟩ : ∃ W0, W0 = (w.alloc (.cells #[.int .i64 2, .int .i64 f, .int .i64 0, .int .i64 q, .bool yb, .slice a n c] 25)).alloc (.cells #[.slice none 0 0, .int .i64 0, .int .i64 0, .int .i64 0] 46) := ⟨_, rfl⟩
  have HW0 : Hid ((w.alloc (.cells #[.int .i64 2, .int .i64 f, .int .i64 0, .int .i64 q, .bool yb, .slice a n c] 25)).alloc (.cells #[.slice none 0 0, .int .i64 0, .int .i64 0, .int .i64 0] 46) = W0) := hW0.symm
  have b1 := below1 w (.cells #[.int .i64 2, .int .i64 f, .int .i64 0, .int .i64 q, .bool yb, .slice a n c] 25)
  have b0 : Below w.heap.size w W0 := by rw [hW0]; exact b1.trans ((below1 _ _).mono b1.size)
  have r1 : W0.heap[w.heap.size + 1]? = some (.cells #[.slice none 0 0, .int .i64 0, .int .i64 0, .int .i64 0] 46) := by
    have := heap_alloc_new (w.alloc (.cells #[.int .i64 2, .int .i64 f, .int .i64 0, .int .i64 q, .bool yb, .slice a n c] 25)) (.cells #[.slice none 0 0, .int .i64 0, .int .i64 0, .int .i64 0] 46)
    rw [hW0]
    rwa [show (w.alloc (.cells #[.int .i64 2, .int .i64 f, .int .i64 0, .int .i64 q, .bool yb, .slice a n c] 25)).heap.size = w.heap.size + 1 by simp] at this
  have m1 : W0.heap[w.heap.size]? = some (.cells #[.int .i64 2, .int .i64 f, .int .i64 0, .int .i64 q, .bool yb, .slice a n c] 25) := by
    have := (below1 (w.alloc (.cells #[.int .i64 2, .int .i64 f, .int .i64 0, .int .i64 q, .bool yb, .slice a n c] 25)) (.cells #[.slice none 0 0, .int .i64 0, .int .i64 0, .int .i64 0] 46)).block w.heap.size (by simp)
    rw [hW0]
    exact this.trans (heap_alloc_new w _)
  have h0 := h.keep b0
  have KW := isNone_co W0 b lim m h0.box
  have KC := wcheck_is W0 2 f 0 q yb a n c L hn (hL.keep b0) hc hc9 hN1
  rw [hchk] at KC
  obtain ⟨y, hy, ht, hlk⟩ := h0.find hx
  obtain ⟨g0, g1, g2, g3, g4, g5⟩ := cells6 m1
  obtain ⟨y1, y2⟩ := y
  have HH : Hid (Cd W0 F b lim n0 m B X ∧ W0.heap[w.heap.size]? = some (.cells #[.int .i64 2, .int .i64 f, .int .i64 0, .int .i64 q, .bool yb, .slice a n c] 25) ∧ W0.heap[w.heap.size + 1]? = some (.cells #[.slice none 0 0, .int .i64 0, .int .i64 0, .int .i64 0] 46) ∧ Below w.heap.size w W0) := ⟨h0, m1, r1, b0⟩
  have HY : Hid (B q = some (y1, y2)) := hy
  have HT : Hid (x.rts.length ≤ 1000 ∧ decide (f ∈ x.rts) = true) := ⟨hN, by simpa using hf⟩
  have HX : Hid (X q = some x) := hx
  unfold sd
  clear h hW0 b1 b0 h0 r1 m1 hx hf hN hn hL hc hc9 hN1 hchk ht hlk hy
  go_enter Try.func16, Try.ntmps16
  go_wp2_with fail
  rw [HW0.out]
  refine KW.mono ?_
  rintro e w2 ⟨rfl, h2⟩
  obtain rfl := h2.symm
  clear h2
  go_wp2_with fail
  refine KC.mono ?_
  rintro e w2 ⟨rfl, b2⟩
  have d2 := HH.out.1.keep b2
  obtain ⟨c0, c1⟩ := d2.box.cells
  obtain ⟨yy, hy2, ht2, hlk⟩ := d2.find HX.out
  rw [HY.out] at hy2
  cases hy2
  obtain ⟨ra, rc, la, lc, P, hb, hz, _⟩ := ht2.open
  obtain ⟨t0, t1, t2, t3, t4⟩ := tr_cells hb
  simp only at t0 t1 t2 t3 t4 hlk
  obtain ⟨k0, k1, k2, k3, k4, k5⟩ := cells6 ((b2.block w.heap.size (lt_of_heapK HH.out.2.1)).trans HH.out.2.1)
  have r2 := (b2.block (w.heap.size + 1) (lt_of_heapK HH.out.2.2.1)).trans HH.out.2.2.1
  have H2 : Hid (Below w.heap.size w w2 ∧ w2.heap[w.heap.size + 1]? = some (.cells #[.slice none 0 0, .int .i64 0, .int .i64 0, .int .i64 0] 46)) := ⟨HH.out.2.2.2.trans (b2.mono HH.out.2.2.2.size), r2⟩
  have HF : Hid (∀ W, Below w2.heap.size w2 W → W.cell? ⟨b, 1, none⟩ = some (.map (some m)) ∧ W.cell? ⟨w.heap.size, 3, none⟩ = some (.int .i64 q) ∧ (Instr.lookup 29 (.map (some m)) (Value.int .i64 q) false).run Try.prog W = .ok (.pointer (some ⟨y1, 0, none⟩)) W) := fun W hW => by
    have d3 := d2.keep hW
    obtain ⟨yy, hy3, _, hl3⟩ := d3.find HX.out
    rw [HY.out] at hy3
    cases hy3
    exact ⟨d3.box.cells.2, (hW.cell (p := ⟨w.heap.size, 3, none⟩) (Nat.lt_of_lt_of_le (lt_of_heapK HH.out.2.1) b2.size)).trans k3, hl3⟩
  have QI : Hid (∀ q', Calls Try.prog 35 #[.slice ra x.rts.length rc, .int .i64 f] (w2.drew.drewN q') fun e w' => e = .returned (.bool true) ∧ w' = w2.drew.drewN q') := fun q' => by
    have := contains_is (w2.drew.drewN q') ra x.rts.length rc x.rts rfl (hz.keep (below_drewN (Below.refl _ w2).drew q')) (by have := HT.out.1; omega) f
    rwa [HT.out.2] at this
  generalize x.rts.length = nr at t3 QI
  generalize x.st = st at *
  have LY2 : Hid (y1 < w2.heap.size) := lt_of_heapK hb
  clear b2 d2 ht2 hb hz g0 g1 g2 g3 g4 g5 KC KW hlk r2
  have e3 : (st == (3 : Int)) = false := by simpa using hs3
  clear hs3
  have e1 : (st == (1 : Int)) = false := by simpa using hs1
  clear hs1
  go_wp2_with fail
  refine wp_region_noPanic ?_
  refine wp_region_held_drew (S := (fun W : World => Below w2.heap.size w2 W)) (by kernel_rfl) ?hSak (fun hHeld => ?restak)
  case hSak => exact (Below.refl _ w2).drew
  case restak =>
    refine wpAnyH_take (i := 0) (v := .pointer (some ⟨b, 0, none⟩)) rfl (by kernel_rfl) (by kernel_rfl) (by kernel_rfl) (fun _ _ _ h => h) (Or.inl ⟨by kernel_rfl, ?hy0k⟩) hHeld ?rest0k
    case hy0k => (intro w' hSw; (try dsimp only at hSw); go_simp; try with_reducible rfl)
    try simp only [Act.put, List.setIfInBounds_toArray, List.set_cons_zero, List.set_cons_succ, List.getElem_toArray, List.getElem_cons_zero, List.getElem_cons_succ]
    refine wpAnyH_take (i := 1) (v := .pointer (some ⟨b, 0, none⟩)) rfl (by kernel_rfl) (by kernel_rfl) (by kernel_rfl) (fun _ _ _ h => h) (Or.inl ⟨by kernel_rfl, ?hy1k⟩) hHeld ?rest1k
    case hy1k => (intro w' hSw; (try dsimp only at hSw); go_simp; try with_reducible rfl)
    try simp only [Act.put, List.setIfInBounds_toArray, List.set_cons_zero, List.set_cons_succ, List.getElem_toArray, List.getElem_cons_zero, List.getElem_cons_succ]
    refine wpAnyH_take (i := 2) (v := .pointer (some ⟨b, 1, none⟩)) rfl (by kernel_rfl) (by kernel_rfl) (by kernel_rfl) (fun _ _ _ h => h) (Or.inl ⟨by kernel_rfl, ?hy2k⟩) hHeld ?rest2k
    case hy2k => (intro w' hSw; (try dsimp only at hSw); go_simp; try with_reducible rfl)
    try simp only [Act.put, List.setIfInBounds_toArray, List.set_cons_zero, List.set_cons_succ, List.getElem_toArray, List.getElem_cons_zero, List.getElem_cons_succ]
    refine wpAnyH_take (i := 3) (v := .map (some m)) rfl (by kernel_rfl) (by kernel_rfl) (by kernel_rfl) (fun _ _ _ h => h) (Or.inl ⟨by kernel_rfl, ?hy3k⟩) hHeld ?rest3k
    case hy3k => (intro w' hSw; (try dsimp only at hSw); obtain ⟨p0, p1, p2⟩ := HF.out _ hSw; go_simp; try with_reducible rfl)
    try simp only [Act.put, List.setIfInBounds_toArray, List.set_cons_zero, List.set_cons_succ, List.getElem_toArray, List.getElem_cons_zero, List.getElem_cons_succ]
    refine wpAnyH_take (i := 4) (v := .pointer (some ⟨w.heap.size, 3, none⟩)) rfl (by kernel_rfl) (by kernel_rfl) (by kernel_rfl) (fun _ _ _ h => h) (Or.inl ⟨by kernel_rfl, ?hy4k⟩) hHeld ?rest4k
    case hy4k => (intro w' hSw; (try dsimp only at hSw); go_simp; try with_reducible rfl)
    try simp only [Act.put, List.setIfInBounds_toArray, List.set_cons_zero, List.set_cons_succ, List.getElem_toArray, List.getElem_cons_zero, List.getElem_cons_succ]
    refine wpAnyH_take (i := 5) (v := .int .i64 q) rfl (by kernel_rfl) (by kernel_rfl) (by kernel_rfl) (fun _ _ _ h => h) (Or.inl ⟨by kernel_rfl, ?hy5k⟩) hHeld ?rest5k
    case hy5k => (intro w' hSw; (try dsimp only at hSw); obtain ⟨p0, p1, p2⟩ := HF.out _ hSw; go_simp; try with_reducible rfl)
    try simp only [Act.put, List.setIfInBounds_toArray, List.set_cons_zero, List.set_cons_succ, List.getElem_toArray, List.getElem_cons_zero, List.getElem_cons_succ]
    refine wpAnyH_take (i := 6) (v := .pointer (some ⟨y1, 0, none⟩)) rfl (by kernel_rfl) (by kernel_rfl) (by kernel_rfl) (fun _ _ _ h => h) (Or.inl ⟨by kernel_rfl, ?hy6k⟩) hHeld ?rest6k
    case hy6k => (intro w' hSw; (try dsimp only at hSw); obtain ⟨p0, p1, p2⟩ := HF.out _ hSw; go_simp; try with_reducible rfl)
    try simp only [Act.put, List.setIfInBounds_toArray, List.set_cons_zero, List.set_cons_succ, List.getElem_toArray, List.getElem_cons_zero, List.getElem_cons_succ]
    refine wpAnyH_take (i := 7) (v := .pointer (some ⟨y1, 0, none⟩)) rfl (by kernel_rfl) (by kernel_rfl) (by kernel_rfl) (fun _ _ _ h => h) (Or.inl ⟨by kernel_rfl, ?hy7k⟩) hHeld ?rest7k
    case hy7k => (intro w' hSw; (try dsimp only at hSw); go_simp; try with_reducible rfl)
    try simp only [Act.put, List.setIfInBounds_toArray, List.set_cons_zero, List.set_cons_succ, List.getElem_toArray, List.getElem_cons_zero, List.getElem_cons_succ]
    refine wpAnyH_done (by kernel_rfl) ?_ _
    refine NoPanic.normal ?_
    try go_wp2_with fail
    have B3 : Hid (Below w2.heap.size w2 w2.drew) := (Below.refl _ w2).drew
    have u0 : w2.drew.cell? ⟨y1, 0, none⟩ = some (.int .i64 q) := t0
    have u1 : w2.drew.cell? ⟨y1, 1, none⟩ = some (.int .i64 st) := t1
    have u3 : w2.drew.cell? ⟨y1, 3, none⟩ = some (.slice ra nr rc) := t3
    clear t0 t1 t2 t3 t4
    have v0 : w2.drew.cell? ⟨w.heap.size, 0, none⟩ = some (.int .i64 2) := k0
    have v1 : w2.drew.cell? ⟨w.heap.size, 1, none⟩ = some (.int .i64 f) := k1
    have v3 : w2.drew.cell? ⟨w.heap.size, 3, none⟩ = some (.int .i64 q) := k3
    have v4 : w2.drew.cell? ⟨w.heap.size, 4, none⟩ = some (.bool yb) := k4
    clear k0 k1 k2 k3 k4 k5 c0 c1
    have LY : y1 < w2.drew.heap.size := LY2.out
    generalize w2.drew = w3 at *
    go_quiet ((go_at_call 35; refine (QI.out _).mono ?_; exact fun _ _ h => ⟨h.1, _, h.2⟩))
    have B4 : Hid (Below w.heap.size w (w3.drewN nq) ∧ (w3.drewN nq).heap[w.heap.size + 1]? = some (.cells #[.slice none 0 0, .int .i64 0, .int .i64 0, .int .i64 0] 46)) := by
      have b := below_drewN B3.out nq
      exact ⟨H2.out.1.trans (b.mono H2.out.1.size), (b.block _ (lt_of_heapK H2.out.2)).trans H2.out.2⟩
    have LT : w.heap.size + 1 < w3.heap.size := lt_of_heapK (show w3.heap[w.heap.size + 1]? = _ from B4.out.2)
    have bA := below1 (w3.drewN nq) (.cells #[.int .i64 0, .slice none 0 0] 61)
    have hA : ((w3.drewN nq).alloc (.cells #[.int .i64 0, .slice none 0 0] 61)).heap[w3.heap.size]? = _ := heap_alloc_new (w3.drewN nq) (.cells #[.int .i64 0, .slice none 0 0] 61)
    obtain ⟨a0, a1⟩ := pl_cells hA
    have fa0 := frozen_blk hA 0
    have fa1 := frozen_blk hA 1
    have va1 := (bA.cell (p := ⟨w.heap.size, 1, none⟩) (Nat.lt_trans (Nat.lt_succ_self _) LT)).trans (show (w3.drewN nq).cell? ⟨w.heap.size, 1, none⟩ = _ from v1)
    have hU : ∀ k, k < w3.heap.size → ((((w3.drewN nq).alloc (.cells #[.int .i64 0, .slice none 0 0] 61)).setCell ⟨w3.heap.size, 0, none⟩ (.int .i64 f)).setCell ⟨w3.heap.size, 1, none⟩ (.slice none 0 0)).heap[k]? = w3.heap[k]? := fun k hk => (set_off _ _ 1 k _ (Nat.ne_of_lt hk)).trans ((set_off _ _ 0 k _ (Nat.ne_of_lt hk)).trans (bA.block k hk))
    have uu1 := (World.cell?_of_block (a := ⟨y1, 1, none⟩) (hU y1 LY)).trans u1
    have rU := (hU (w.heap.size + 1) LT).trans (show w3.heap[w.heap.size + 1]? = _ from B4.out.2)
    have BU : Hid (Below w.heap.size w ((((w3.drewN nq).alloc (.cells #[.int .i64 0, .slice none 0 0] 61)).setCell ⟨w3.heap.size, 0, none⟩ (.int .i64 f)).setCell ⟨w3.heap.size, 1, none⟩ (.slice none 0 0)) ∧ ((((w3.drewN nq).alloc (.cells #[.int .i64 0, .slice none 0 0] 61)).setCell ⟨w3.heap.size, 0, none⟩ (.int .i64 f)).setCell ⟨w3.heap.size, 1, none⟩ (.slice none 0 0)).heap[w.heap.size + 1]? = some (.cells #[.slice none 0 0, .int .i64 0, .int .i64 0, .int .i64 0] 46)) := by
      refine ⟨⟨B4.out.1.os, B4.out.1.tape, B4.out.1.output, ?_, fun k hk => ?_⟩, rU⟩
      · have := B4.out.1.size
        simp [World.setCell] at this ⊢
        omega
      · exact (hU k (Nat.lt_trans hk (Nat.lt_trans (Nat.lt_succ_self _) LT))).trans (show w3.heap[k]? = _ from B4.out.1.block k hk)
    clear bA hA hU LT LY
    obtain ⟨q0, q1, q2, q3⟩ := cells4 rU
    have f0 := frozen_blk rU 0
    have f1 := frozen_blk rU 1
    have f2 := frozen_blk rU 2
    have f3 := frozen_blk rU 3
    clear rU
    go_wp2_with fail
    obtain ⟨e1, e2⟩ := chain4 (a' := .slice none 0 0) (b' := .int .i64 0) (c' := .int .i64 0) (d' := .int .i64 0) BU.out.2
    exact bodyPost_ret (results_cell_row Try.results16 _ _ (w.heap.size + 1) 46 _ (0, 0) _ rfl e1 Try.underlying46 rfl sizeSd) rfl ⟨rfl, BU.out.1.grown e2 BU.out.1.size (fun k hk => by cases hk; exact Nat.le_succ _)⟩
end Go.Proofs.Ythaeidbnbgghkaa
