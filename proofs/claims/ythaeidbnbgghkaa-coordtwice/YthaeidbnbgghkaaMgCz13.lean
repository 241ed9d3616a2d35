/- coord: Take (gen_coz.py). -/
import Derived.Test.YthaeidbnbgghkaaMgCz11
import Derived.Test.YthaeidbnbgghkaaMgCz12
namespace Go.Proofs.Ythaeidbnbgghkaa
open Go.ChangeShapes Go.WideShapes Go.ChangeAt Go.RowKit Go.Deep Go.Maps
set_option linter.unusedVariables false
set_option linter.unusedSimpArgs false
theorem cells6 {w : World} {g : Nat} {a b c d e f : Value} {t : TypeId} (h : w.heap[g]? = some (.cells #[a, b, c, d, e, f] t)) : w.cell? ⟨g, 0, none⟩ = some a ∧ w.cell? ⟨g, 1, none⟩ = some b ∧ w.cell? ⟨g, 2, none⟩ = some c ∧ w.cell? ⟨g, 3, none⟩ = some d ∧ w.cell? ⟨g, 4, none⟩ = some e ∧ w.cell? ⟨g, 5, none⟩ = some f := by
  refine ⟨?_, ?_, ?_, ?_, ?_, ?_⟩ <;> simp [World.cell?, h]
set_option maxRecDepth 100000 in
theorem index_is (w : World) (a : Option Addr) (n c : Nat) (D : List Int) (hn : D.length = n) (hD : InZ w a D) (hN : n ≤ 1000000) (x : Int) :
    Calls Try.prog 49 #[.slice a n c, .int .i64 x] w fun e w' => (∃ i : Int, e = .returned (.int .i64 i) ∧ ((0 ≤ i ∧ x ∈ D) ∨ (i = -1 ∧ ¬ x ∈ D))) ∧ w' = w := by
  have HL : Hid (InZ w a D ∧ D.length = n) := ⟨hD, hn⟩
  clear hn hD
  go_enter Try.func49, Try.ntmps49
  go_wp2_with fail
  go_loopg [8] n (fun g i wr => ∃ j : Nat, j ≤ n ∧ g = n - j ∧ i = .int .i64 (j : Int) ∧ Hid ((∀ q, q < j → D[q]? ≠ some x) ∧ wr = w))
  case atStart => exact ⟨0, Nat.zero_le _, rfl, rfl, (fun q hq => by omega), rfl⟩
  obtain ⟨j, hj, rfl, rfl, RW⟩ := hrel
  by_cases hlt : j < n
  · have j1 : decide ((j : Int) < (n : Int)) = true := by rw [decide_eq_true_eq]; omega
    obtain ⟨y, hy⟩ : ∃ y, D[j]? = some y := ⟨D[j]'(by rw [HL.out.2]; exact hlt), by simp [HL.out.2, hlt]⟩
    obtain ⟨b, off, rfl, hbw, cy⟩ := HL.out.1.at hy
    rw [← RW.out.2] at cy
    have ri : IntKind.i64.wrap ((j : Int) + 1) = (j : Int) + 1 := by rw [IntKind.wrap_i64]; omega
    have HY : Hid (D[j]? = some y) := hy
    clear hy hbw
    by_cases he : x = y
    · have HM : Hid (x ∈ D) := by show x ∈ D; rw [he]; exact List.mem_of_getElem? HY.out
      subst he
      have t1 : (x == x) = true := by simp
      go_wp2_with fail
      go_ret
      exact ⟨⟨_, rfl, .inl ⟨by omega, HM.out⟩⟩, RW.out.2⟩
    · have t1 : (x == y) = false := by simp [he]
      have t2 : decide (x = y) = false := by simp [he]
      have HN : Hid (∀ q, q < j + 1 → D[q]? ≠ some x) := fun q hq => (by
        by_cases hq2 : q < j
        · exact RW.out.1 q hq2
        · have hqj : q = j := by omega
          rw [hqj, HY.out]
          intro e
          exact he (Option.some.inj e).symm)
      clear he
      go_wp2_with fail
      go_roundg (n - (j + 1))
      case measure => omega
      case rel => exact ⟨j + 1, by omega, rfl, rfl, HN.out, RW.out.2⟩
  · have j1 : decide ((j : Int) < (n : Int)) = false := by rw [decide_eq_false_iff_not]; omega
    have HM : Hid (¬ x ∈ D) := fun hm => (by
      obtain ⟨q, hq, e⟩ := List.mem_iff_getElem.1 hm
      exact RW.out.1 q (by rw [HL.out.2] at hq; omega) (by rw [List.getElem?_eq_getElem hq, e]))
    go_wp2_with fail
    go_ret
    exact ⟨⟨_, rfl, .inr ⟨rfl, HM.out⟩⟩, RW.out.2⟩
set_option maxRecDepth 100000 in
theorem contains_is (w : World) (a : Option Addr) (n c : Nat) (D : List Int) (hn : D.length = n) (hD : InZ w a D) (hN : n ≤ 1000000) (x : Int) :
    Calls Try.prog 35 #[.slice a n c, .int .i64 x] w fun e w' => e = .returned (.bool (decide (x ∈ D))) ∧ w' = w := by
  have K : Hid (Calls Try.prog 49 #[.slice a n c, .int .i64 x] w fun e w' => (∃ i : Int, e = .returned (.int .i64 i) ∧ ((0 ≤ i ∧ x ∈ D) ∨ (i = -1 ∧ ¬ x ∈ D))) ∧ w' = w) := index_is w a n c D hn hD hN x
  clear hn hD hN
  go_enter Try.func35, Try.ntmps35
  go_wp2_with fail
  refine K.out.mono ?_
  rintro e w1 ⟨⟨i, rfl, h⟩, rfl⟩
  rcases h with ⟨h0, hm⟩ | ⟨rfl, hm⟩
  · have t1 : decide (0 ≤ i) = true := decide_eq_true h0
    have HM : Hid (decide (x ∈ D) = true) := decide_eq_true hm
    clear hm h0
    go_wp2_with fail
    go_ret
    rw [HM.out]
    exact ⟨rfl, rfl⟩
  · have HM : Hid (decide (x ∈ D) = false) := decide_eq_false hm
    clear hm
    go_wp2_with fail
    go_ret
    rw [HM.out]
    exact ⟨rfl, rfl⟩
set_option maxRecDepth 100000 in
set_option maxHeartbeats 8000000 in
theorem take_vote (w : World) (F : Nat → Prop) (b : Nat) (lim : Int) (n0 m : Nat) (B : Int → Option (Nat × Option Nat)) (X : Int → Option Tr) (h : Cd w F b lim n0 m B X) (q : Int) (x : Tr) (hx : X q = some x) (hst : x.st = 1) (f : Int) (hf : f ∈ x.rts) (hN : x.rts.length ≤ 1000) (a : Option Addr) (n c : Nat) (L : List Pk) (hn : L.length = n) (hL : InPk w a L) (hc : n ≤ c) (hc9 : c ≤ 9223372036854775807) (hN1 : n ≤ 1000000) (yb : Bool) (hchk : wchk 2 f 0 q yb L = 0) (R : Value → World → Prop)
    (KV : ∀ W y, Below w.heap.size w W → W.heap[w.heap.size + 1]? = some (.cells #[.slice none 0 0, .int .i64 0, .int .i64 0, .int .i64 0] 46) → B q = some y → Calls Try.prog 37 #[.pointer (some ⟨b, 0, none⟩), .pointer (some ⟨y.1, 0, none⟩), .int .i64 f, .bool yb] W fun e w' => ∃ v p c1 c2 c3 c4, e = .returned (.agg #[.slice v p c1, .int .i64 c2, .int .i64 c3, .int .i64 c4]) ∧ w'.heap[w.heap.size + 1]? = some (.cells #[.slice none 0 0, .int .i64 0, .int .i64 0, .int .i64 0] 46) ∧ R (.agg #[.slice v p c1, .int .i64 c2, .int .i64 c3, .int .i64 c4]) w') :
    Calls Try.prog 16 #[.pointer (some ⟨b, 0, none⟩), .agg #[.int .i64 2, .int .i64 f, .int .i64 0, .int .i64 q, .bool yb, .slice a n c]] w fun e w' => ∃ V w5, e = .returned V ∧ R V w5 ∧ w5.grownBy w' (some (w.heap.size + 1)) := by
  obtain ⟨W0, hW0⟩ : ∃ W0, W0 = (w.alloc (.cells #[.int .i64 2, .int .i64 f, .int .i64 0, .int .i64 q, .bool yb, .slice a n c] 25)).alloc (.cells #[.slice none 0 0, .int .i64 0, .int .i64 0, .int .i64 0] 46) := ⟨_, rfl⟩
  have HW0 : Hid ((w.alloc (.cells #[.int .i64 2, .int .i64 f, .int .i64 0, .int .i64 q, .bool yb, .slice a n c] 25)).alloc (.cells #[.slice none 0 0, .int .i64 0, .int .i64 0, .int .i64 0] 46) = W0) := hW0.symm
  have b1 := below1 w (.cells #[.int .i64 2, .int .i64 f, .int .i64 0, .int .i64 q, .bool yb, .slice a n c] 25)
  have b0 : Below w.heap.size w W0 := by rw [hW0]; exact b1.trans ((below1 _ _).mono b1.size)
  have r1 : W0.heap[w.heap.size + 1]? = some (.cells #[.slice none 0 0, .int .i64 0, .int .i64 0, .int .i64 0] 46) := by
    have := heap_alloc_new (w.alloc (.cells #[.int .i64 2, .int .i64 f, .int .i64 0, .int .i64 q, .bool yb, .slice a n c] 25)) (.cells #[.slice none 0 0, .int .i64 0, .int .i64 0, .int .i64 0] 46)
    rw [hW0]
    rwa [show (w.alloc (.cells #[.int .i64 2, .int .i64 f, .int .i64 0, .int .i64 q, .bool yb, .slice a n c] 25)).heap.size = w.heap.size + 1 by simp] at this
  have m1 : W0.heap[w.heap.size]? = some (.cells #[.int .i64 2, .int .i64 f, .int .i64 0, .int .i64 q, .bool yb, .slice a n c] 25) := by
    have := (below1 (w.alloc (.cells #[.int .i64 2, .int .i64 f, .int .i64 0, .int .i64 q, .bool yb, .slice a n c] 25)) (.cells #[.slice none 0 0, .int .i64 0, .int .i64 0, .int .i64 0] 46)).block w.heap.size (by simp)
    rw [hW0]
    exact this.trans (heap_alloc_new w _)
  have h0 := h.keep b0
  have KW := isNone_co W0 b lim m h0.box
  have KC := wcheck_is W0 2 f 0 q yb a n c L hn (hL.keep b0) hc hc9 hN1
  rw [hchk] at KC
  obtain ⟨y, hy, ht, hlk⟩ := h0.find hx
  go_enter Try.func16, Try.ntmps16
  go_wp2_with fail
  rw [HW0.out]
  refine KW.mono ?_
  rintro e w2 ⟨rfl, h2⟩
  obtain rfl := h2.symm
  clear h2
  obtain ⟨g0, g1, g2, g3, g4, g5⟩ := cells6 m1
  obtain ⟨y1, y2⟩ := y
  have HH : Hid (Cd W0 F b lim n0 m B X ∧ B q = some (y1, y2) ∧ W0.heap[w.heap.size]? = some (.cells #[.int .i64 2, .int .i64 f, .int .i64 0, .int .i64 q, .bool yb, .slice a n c] 25) ∧ W0.heap[w.heap.size + 1]? = some (.cells #[.slice none 0 0, .int .i64 0, .int .i64 0, .int .i64 0] 46) ∧ Below w.heap.size w W0 ∧ f ∈ x.rts) := ⟨h0, hy, m1, r1, b0, hf⟩
  have HT : Hid (TrAt W0 F (y1, y2) q x ∧ x.st = 1 ∧ x.rts.length ≤ 1000 ∧ InI q) := ⟨ht, hst, hN, (h0.each q x hx).1⟩
  have HX : Hid (X q = some x) := hx
  clear h hW0 b1 b0 h0 r1 m1 hx hf hN hn hL hc hc9 hN1 hchk ht hlk hy hst
  go_wp2_with fail
  refine KC.mono ?_
  rintro e w2 ⟨rfl, b2⟩
  have d2 := HH.out.1.keep b2
  obtain ⟨yy, hy2, ht2, hlk⟩ := d2.find HX.out
  rw [HH.out.2.1] at hy2
  cases hy2
  obtain ⟨c0, c1⟩ := d2.box.cells
  obtain ⟨ra, rc, la, lc, P, hb, hz, _⟩ := ht2.open
  obtain ⟨t0, t1, t2, t3, t4⟩ := tr_cells hb
  obtain ⟨k0, k1, k2, k3, k4, k5⟩ := cells6 ((b2.block w.heap.size (lt_of_heapK HH.out.2.2.1)).trans HH.out.2.2.1)
  rw [HT.out.2.1] at t1
  simp only at t0 t1 t2 t3 t4 hlk
  have H2 : Hid (Below W0.heap.size W0 w2) := b2
  have HF : Hid (∀ W, Below w2.heap.size w2 W → W.cell? ⟨b, 1, none⟩ = some (.map (some m)) ∧ W.cell? ⟨w.heap.size, 3, none⟩ = some (.int .i64 q) ∧ (Instr.lookup 29 (.map (some m)) (Value.int .i64 q) false).run Try.prog W = .ok (.pointer (some ⟨y1, 0, none⟩)) W) := fun W hW => by
    have d3 := d2.keep hW
    obtain ⟨yy, hy3, _, hl3⟩ := d3.find HX.out
    rw [HH.out.2.1] at hy3
    cases hy3
    exact ⟨d3.box.cells.2, (hW.cell (p := ⟨w.heap.size, 3, none⟩) (Nat.lt_of_lt_of_le (lt_of_heapK HH.out.2.2.1) b2.size)).trans k3, hl3⟩
  have QI : Hid (∀ q', Calls Try.prog 35 #[.slice ra x.rts.length rc, .int .i64 f] (w2.drew.drewN q') fun e w' => e = .returned (.bool true) ∧ w' = w2.drew.drewN q') := fun q' => by
    have := contains_is (w2.drew.drewN q') ra x.rts.length rc x.rts rfl (hz.keep (below_drewN (Below.refl _ w2).drew q')) (by have := HT.out.2.2.1; omega) f
    rwa [decide_eq_true HH.out.2.2.2.2.2] at this
  generalize x.rts.length = nr at t3 QI
  clear b2 d2 ht2 hb hz g0 g1 g2 g3 g4 g5 KC KW hlk
  go_wp2_with fail
  refine wp_region_noPanic ?_
  refine wp_region_held_drew (S := (fun W : World => Below w2.heap.size w2 W)) (by kernel_rfl) ?hSak (fun hHeld => ?restak)
  case hSak => exact (Below.refl _ w2).drew
  case restak =>
    refine wpAnyH_take (i := 0) (v := .pointer (some ⟨b, 0, none⟩)) rfl (by kernel_rfl) (by kernel_rfl) (by kernel_rfl) (fun _ _ _ h => h) (Or.inl ⟨by kernel_rfl, ?hy0k⟩) hHeld ?rest0k
    case hy0k => (intro w' hSw; (try dsimp only at hSw); go_simp; try with_reducible rfl)
    try simp only [Act.put, List.setIfInBounds_toArray, List.set_cons_zero, List.set_cons_succ, List.getElem_toArray, List.getElem_cons_zero, List.getElem_cons_succ]
    refine wpAnyH_take (i := 1) (v := .pointer (some ⟨b, 0, none⟩)) rfl (by kernel_rfl) (by kernel_rfl) (by kernel_rfl) (fun _ _ _ h => h) (Or.inl ⟨by kernel_rfl, ?hy1k⟩) hHeld ?rest1k
    case hy1k => (intro w' hSw; (try dsimp only at hSw); go_simp; try with_reducible rfl)
    try simp only [Act.put, List.setIfInBounds_toArray, List.set_cons_zero, List.set_cons_succ, List.getElem_toArray, List.getElem_cons_zero, List.getElem_cons_succ]
    refine wpAnyH_take (i := 2) (v := .pointer (some ⟨b, 1, none⟩)) rfl (by kernel_rfl) (by kernel_rfl) (by kernel_rfl) (fun _ _ _ h => h) (Or.inl ⟨by kernel_rfl, ?hy2k⟩) hHeld ?rest2k
    case hy2k => (intro w' hSw; (try dsimp only at hSw); go_simp; try with_reducible rfl)
    try simp only [Act.put, List.setIfInBounds_toArray, List.set_cons_zero, List.set_cons_succ, List.getElem_toArray, List.getElem_cons_zero, List.getElem_cons_succ]
    refine wpAnyH_take (i := 3) (v := .map (some m)) rfl (by kernel_rfl) (by kernel_rfl) (by kernel_rfl) (fun _ _ _ h => h) (Or.inl ⟨by kernel_rfl, ?hy3k⟩) hHeld ?rest3k
    case hy3k => (intro w' hSw; (try dsimp only at hSw); obtain ⟨p0, p1, p2⟩ := HF.out _ hSw; go_simp; try with_reducible rfl)
    try simp only [Act.put, List.setIfInBounds_toArray, List.set_cons_zero, List.set_cons_succ, List.getElem_toArray, List.getElem_cons_zero, List.getElem_cons_succ]
    refine wpAnyH_take (i := 4) (v := .pointer (some ⟨w.heap.size, 3, none⟩)) rfl (by kernel_rfl) (by kernel_rfl) (by kernel_rfl) (fun _ _ _ h => h) (Or.inl ⟨by kernel_rfl, ?hy4k⟩) hHeld ?rest4k
    case hy4k => (intro w' hSw; (try dsimp only at hSw); go_simp; try with_reducible rfl)
    try simp only [Act.put, List.setIfInBounds_toArray, List.set_cons_zero, List.set_cons_succ, List.getElem_toArray, List.getElem_cons_zero, List.getElem_cons_succ]
    refine wpAnyH_take (i := 5) (v := .int .i64 q) rfl (by kernel_rfl) (by kernel_rfl) (by kernel_rfl) (fun _ _ _ h => h) (Or.inl ⟨by kernel_rfl, ?hy5k⟩) hHeld ?rest5k
    case hy5k => (intro w' hSw; (try dsimp only at hSw); obtain ⟨p0, p1, p2⟩ := HF.out _ hSw; go_simp; try with_reducible rfl)
    try simp only [Act.put, List.setIfInBounds_toArray, List.set_cons_zero, List.set_cons_succ, List.getElem_toArray, List.getElem_cons_zero, List.getElem_cons_succ]
    refine wpAnyH_take (i := 6) (v := .pointer (some ⟨y1, 0, none⟩)) rfl (by kernel_rfl) (by kernel_rfl) (by kernel_rfl) (fun _ _ _ h => h) (Or.inl ⟨by kernel_rfl, ?hy6k⟩) hHeld ?rest6k
    case hy6k => (intro w' hSw; (try dsimp only at hSw); obtain ⟨p0, p1, p2⟩ := HF.out _ hSw; go_simp; try with_reducible rfl)
    try simp only [Act.put, List.setIfInBounds_toArray, List.set_cons_zero, List.set_cons_succ, List.getElem_toArray, List.getElem_cons_zero, List.getElem_cons_succ]
    refine wpAnyH_take (i := 7) (v := .pointer (some ⟨y1, 0, none⟩)) rfl (by kernel_rfl) (by kernel_rfl) (by kernel_rfl) (fun _ _ _ h => h) (Or.inl ⟨by kernel_rfl, ?hy7k⟩) hHeld ?rest7k
    case hy7k => (intro w' hSw; (try dsimp only at hSw); go_simp; try with_reducible rfl)
    try simp only [Act.put, List.setIfInBounds_toArray, List.set_cons_zero, List.set_cons_succ, List.getElem_toArray, List.getElem_cons_zero, List.getElem_cons_succ]
    refine wpAnyH_done (by kernel_rfl) ?_ _
    refine NoPanic.normal ?_
    try go_wp2_with fail
    have B3 : Hid (Below w2.heap.size w2 w2.drew) := (Below.refl _ w2).drew
    have u0 : w2.drew.cell? ⟨y1, 0, none⟩ = some (.int .i64 q) := t0
    have u1 : w2.drew.cell? ⟨y1, 1, none⟩ = some (.int .i64 1) := t1
    have u3 : w2.drew.cell? ⟨y1, 3, none⟩ = some (.slice ra nr rc) := t3
    have v0 : w2.drew.cell? ⟨w.heap.size, 0, none⟩ = some (.int .i64 2) := k0
    have v1 : w2.drew.cell? ⟨w.heap.size, 1, none⟩ = some (.int .i64 f) := k1
    have v3 : w2.drew.cell? ⟨w.heap.size, 3, none⟩ = some (.int .i64 q) := k3
    have v4 : w2.drew.cell? ⟨w.heap.size, 4, none⟩ = some (.bool yb) := k4
    clear t0 t1 t2 t3 t4 k0 k1 k2 k3 k4 k5 c0 c1
    generalize w2.drew = w3 at *
    go_quiet ((go_at_call 35; refine (QI.out _).mono ?_; exact fun _ _ h => ⟨h.1, _, h.2⟩))
    go_wp2_with fail
    refine (KV (w3.drewN nq) (y1, y2) ?b5 ?r5 HH.out.2.1).mono ?_
    case b5 => exact HH.out.2.2.2.2.1.trans (below_drewN ((H2.out.trans (B3.out.mono H2.out.size)).mono HH.out.2.2.2.2.1.size) nq)
    case r5 =>
      have b := below_drewN (H2.out.trans (B3.out.mono H2.out.size)) nq
      exact (b.block _ (lt_of_heapK HH.out.2.2.2.1)).trans HH.out.2.2.2.1
    rintro e w5 ⟨v, p, c1, c2, c3, c4, rfl, r5, hR⟩
    have HR : Hid (w5.heap[w.heap.size + 1]? = some (.cells #[.slice none 0 0, .int .i64 0, .int .i64 0, .int .i64 0] 46) ∧ R (.agg #[.slice v p c1, .int .i64 c2, .int .i64 c3, .int .i64 c4]) w5) := ⟨r5, hR⟩
    obtain ⟨q0, q1, q2, q3⟩ := cells4 r5
    have f0 := frozen_blk r5 0
    have f1 := frozen_blk r5 1
    have f2 := frozen_blk r5 2
    have f3 := frozen_blk r5 3
    clear r5 hR u0 u1 u3 v0 v1 v3 v4 KV QI
    go_wp2_with fail
    obtain ⟨e1, e2⟩ := chain4 (a' := .slice v p c1) (b' := .int .i64 c2) (c' := .int .i64 c3) (d' := .int .i64 c4) HR.out.1
    exact bodyPost_ret (results_cell_row Try.results16 _ _ (w.heap.size + 1) 46 _ (0, 0) _ rfl e1 Try.underlying46 rfl sizeSd) rfl ⟨_, w5, rfl, HR.out.2, e2⟩
set_option maxRecDepth 100000 in
set_option maxHeartbeats 8000000 in
theorem take_ack (w : World) (F : Nat → Prop) (b : Nat) (lim : Int) (n0 m : Nat) (B : Int → Option (Nat × Option Nat)) (X : Int → Option Tr) (h : Cd w F b lim n0 m B X) (q : Int) (x : Tr) (hx : X q = some x) (hst : x.st = 3) (f : Int) (hf : f ∈ x.rts) (hN : x.rts.length ≤ 1000) (a : Option Addr) (n c : Nat) (L : List Pk) (hn : L.length = n) (hL : InPk w a L) (hc : n ≤ c) (hc9 : c ≤ 9223372036854775807) (hN1 : n ≤ 1000000) (yb : Bool) (hchk : wchk 5 f 0 q yb L = 0) (R : Value → World → Prop)
    (KV : ∀ W y, Below w.heap.size w W → W.heap[w.heap.size + 1]? = some (.cells #[.slice none 0 0, .int .i64 0, .int .i64 0, .int .i64 0] 46) → B q = some y → Calls Try.prog 36 #[.pointer (some ⟨b, 0, none⟩), .pointer (some ⟨y.1, 0, none⟩), .int .i64 f] W fun e w' => ∃ v p c1 c2 c3 c4, e = .returned (.agg #[.slice v p c1, .int .i64 c2, .int .i64 c3, .int .i64 c4]) ∧ w'.heap[w.heap.size + 1]? = some (.cells #[.slice none 0 0, .int .i64 0, .int .i64 0, .int .i64 0] 46) ∧ R (.agg #[.slice v p c1, .int .i64 c2, .int .i64 c3, .int .i64 c4]) w') :
    Calls Try.prog 16 #[.pointer (some ⟨b, 0, none⟩), .agg #[.int .i64 5, .int .i64 f, .int .i64 0, .int .i64 q, .bool yb, .slice a n c]] w fun e w' => ∃ V w5, e = .returned V ∧ R V w5 ∧ w5.grownBy w' (some (w.heap.size + 1)) := by
  obtain ⟨W0, hW0⟩ : ∃ W0, W0 = (w.alloc (.cells #[.int .i64 5, .int .i64 f, .int .i64 0, .int .i64 q, .bool yb, .slice a n c] 25)).alloc (.cells #[.slice none 0 0, .int .i64 0, .int .i64 0, .int .i64 0] 46) := ⟨_, rfl⟩
  have HW0 : Hid ((w.alloc (.cells #[.int .i64 5, .int .i64 f, .int .i64 0, .int .i64 q, .bool yb, .slice a n c] 25)).alloc (.cells #[.slice none 0 0, .int .i64 0, .int .i64 0, .int .i64 0] 46) = W0) := hW0.symm
  have b1 := below1 w (.cells #[.int .i64 5, .int .i64 f, .int .i64 0, .int .i64 q, .bool yb, .slice a n c] 25)
  have b0 : Below w.heap.size w W0 := by rw [hW0]; exact b1.trans ((below1 _ _).mono b1.size)
  have r1 : W0.heap[w.heap.size + 1]? = some (.cells #[.slice none 0 0, .int .i64 0, .int .i64 0, .int .i64 0] 46) := by
    have := heap_alloc_new (w.alloc (.cells #[.int .i64 5, .int .i64 f, .int .i64 0, .int .i64 q, .bool yb, .slice a n c] 25)) (.cells #[.slice none 0 0, .int .i64 0, .int .i64 0, .int .i64 0] 46)
    rw [hW0]
    rwa [show (w.alloc (.cells #[.int .i64 5, .int .i64 f, .int .i64 0, .int .i64 q, .bool yb, .slice a n c] 25)).heap.size = w.heap.size + 1 by simp] at this
  have m1 : W0.heap[w.heap.size]? = some (.cells #[.int .i64 5, .int .i64 f, .int .i64 0, .int .i64 q, .bool yb, .slice a n c] 25) := by
    have := (below1 (w.alloc (.cells #[.int .i64 5, .int .i64 f, .int .i64 0, .int .i64 q, .bool yb, .slice a n c] 25)) (.cells #[.slice none 0 0, .int .i64 0, .int .i64 0, .int .i64 0] 46)).block w.heap.size (by simp)
    rw [hW0]
    exact this.trans (heap_alloc_new w _)
  have h0 := h.keep b0
  have KW := isNone_co W0 b lim m h0.box
  have KC := wcheck_is W0 5 f 0 q yb a n c L hn (hL.keep b0) hc hc9 hN1
  rw [hchk] at KC
  obtain ⟨y, hy, ht, hlk⟩ := h0.find hx
  go_enter Try.func16, Try.ntmps16
  go_wp2_with fail
  rw [HW0.out]
  refine KW.mono ?_
  rintro e w2 ⟨rfl, h2⟩
  obtain rfl := h2.symm
  clear h2
  obtain ⟨g0, g1, g2, g3, g4, g5⟩ := cells6 m1
  obtain ⟨y1, y2⟩ := y
  have HH : Hid (Cd W0 F b lim n0 m B X ∧ B q = some (y1, y2) ∧ W0.heap[w.heap.size]? = some (.cells #[.int .i64 5, .int .i64 f, .int .i64 0, .int .i64 q, .bool yb, .slice a n c] 25) ∧ W0.heap[w.heap.size + 1]? = some (.cells #[.slice none 0 0, .int .i64 0, .int .i64 0, .int .i64 0] 46) ∧ Below w.heap.size w W0 ∧ f ∈ x.rts) := ⟨h0, hy, m1, r1, b0, hf⟩
  have HT : Hid (TrAt W0 F (y1, y2) q x ∧ x.st = 3 ∧ x.rts.length ≤ 1000 ∧ InI q) := ⟨ht, hst, hN, (h0.each q x hx).1⟩
  have HX : Hid (X q = some x) := hx
  clear h hW0 b1 b0 h0 r1 m1 hx hf hN hn hL hc hc9 hN1 hchk ht hlk hy hst
  go_wp2_with fail
  refine KC.mono ?_
  rintro e w2 ⟨rfl, b2⟩
  have d2 := HH.out.1.keep b2
  obtain ⟨yy, hy2, ht2, hlk⟩ := d2.find HX.out
  rw [HH.out.2.1] at hy2
  cases hy2
  obtain ⟨c0, c1⟩ := d2.box.cells
  obtain ⟨ra, rc, la, lc, P, hb, hz, _⟩ := ht2.open
  obtain ⟨t0, t1, t2, t3, t4⟩ := tr_cells hb
  obtain ⟨k0, k1, k2, k3, k4, k5⟩ := cells6 ((b2.block w.heap.size (lt_of_heapK HH.out.2.2.1)).trans HH.out.2.2.1)
  rw [HT.out.2.1] at t1
  simp only at t0 t1 t2 t3 t4 hlk
  have H2 : Hid (Below W0.heap.size W0 w2) := b2
  have HF : Hid (∀ W, Below w2.heap.size w2 W → W.cell? ⟨b, 1, none⟩ = some (.map (some m)) ∧ W.cell? ⟨w.heap.size, 3, none⟩ = some (.int .i64 q) ∧ (Instr.lookup 29 (.map (some m)) (Value.int .i64 q) false).run Try.prog W = .ok (.pointer (some ⟨y1, 0, none⟩)) W) := fun W hW => by
    have d3 := d2.keep hW
    obtain ⟨yy, hy3, _, hl3⟩ := d3.find HX.out
    rw [HH.out.2.1] at hy3
    cases hy3
    exact ⟨d3.box.cells.2, (hW.cell (p := ⟨w.heap.size, 3, none⟩) (Nat.lt_of_lt_of_le (lt_of_heapK HH.out.2.2.1) b2.size)).trans k3, hl3⟩
  have QI : Hid (∀ q', Calls Try.prog 35 #[.slice ra x.rts.length rc, .int .i64 f] (w2.drew.drewN q') fun e w' => e = .returned (.bool true) ∧ w' = w2.drew.drewN q') := fun q' => by
    have := contains_is (w2.drew.drewN q') ra x.rts.length rc x.rts rfl (hz.keep (below_drewN (Below.refl _ w2).drew q')) (by have := HT.out.2.2.1; omega) f
    rwa [decide_eq_true HH.out.2.2.2.2.2] at this
  generalize x.rts.length = nr at t3 QI
  clear b2 d2 ht2 hb hz g0 g1 g2 g3 g4 g5 KC KW hlk
  go_wp2_with fail
  refine wp_region_noPanic ?_
  refine wp_region_held_drew (S := (fun W : World => Below w2.heap.size w2 W)) (by kernel_rfl) ?hSak (fun hHeld => ?restak)
  case hSak => exact (Below.refl _ w2).drew
  case restak =>
    refine wpAnyH_take (i := 0) (v := .pointer (some ⟨b, 0, none⟩)) rfl (by kernel_rfl) (by kernel_rfl) (by kernel_rfl) (fun _ _ _ h => h) (Or.inl ⟨by kernel_rfl, ?hy0k⟩) hHeld ?rest0k
    case hy0k => (intro w' hSw; (try dsimp only at hSw); go_simp; try with_reducible rfl)
    try simp only [Act.put, List.setIfInBounds_toArray, List.set_cons_zero, List.set_cons_succ, List.getElem_toArray, List.getElem_cons_zero, List.getElem_cons_succ]
    refine wpAnyH_take (i := 1) (v := .pointer (some ⟨b, 0, none⟩)) rfl (by kernel_rfl) (by kernel_rfl) (by kernel_rfl) (fun _ _ _ h => h) (Or.inl ⟨by kernel_rfl, ?hy1k⟩) hHeld ?rest1k
    case hy1k => (intro w' hSw; (try dsimp only at hSw); go_simp; try with_reducible rfl)
    try simp only [Act.put, List.setIfInBounds_toArray, List.set_cons_zero, List.set_cons_succ, List.getElem_toArray, List.getElem_cons_zero, List.getElem_cons_succ]
    refine wpAnyH_take (i := 2) (v := .pointer (some ⟨b, 1, none⟩)) rfl (by kernel_rfl) (by kernel_rfl) (by kernel_rfl) (fun _ _ _ h => h) (Or.inl ⟨by kernel_rfl, ?hy2k⟩) hHeld ?rest2k
    case hy2k => (intro w' hSw; (try dsimp only at hSw); go_simp; try with_reducible rfl)
    try simp only [Act.put, List.setIfInBounds_toArray, List.set_cons_zero, List.set_cons_succ, List.getElem_toArray, List.getElem_cons_zero, List.getElem_cons_succ]
    refine wpAnyH_take (i := 3) (v := .map (some m)) rfl (by kernel_rfl) (by kernel_rfl) (by kernel_rfl) (fun _ _ _ h => h) (Or.inl ⟨by kernel_rfl, ?hy3k⟩) hHeld ?rest3k
    case hy3k => (intro w' hSw; (try dsimp only at hSw); obtain ⟨p0, p1, p2⟩ := HF.out _ hSw; go_simp; try with_reducible rfl)
    try simp only [Act.put, List.setIfInBounds_toArray, List.set_cons_zero, List.set_cons_succ, List.getElem_toArray, List.getElem_cons_zero, List.getElem_cons_succ]
    refine wpAnyH_take (i := 4) (v := .pointer (some ⟨w.heap.size, 3, none⟩)) rfl (by kernel_rfl) (by kernel_rfl) (by kernel_rfl) (fun _ _ _ h => h) (Or.inl ⟨by kernel_rfl, ?hy4k⟩) hHeld ?rest4k
    case hy4k => (intro w' hSw; (try dsimp only at hSw); go_simp; try with_reducible rfl)
    try simp only [Act.put, List.setIfInBounds_toArray, List.set_cons_zero, List.set_cons_succ, List.getElem_toArray, List.getElem_cons_zero, List.getElem_cons_succ]
    refine wpAnyH_take (i := 5) (v := .int .i64 q) rfl (by kernel_rfl) (by kernel_rfl) (by kernel_rfl) (fun _ _ _ h => h) (Or.inl ⟨by kernel_rfl, ?hy5k⟩) hHeld ?rest5k
    case hy5k => (intro w' hSw; (try dsimp only at hSw); obtain ⟨p0, p1, p2⟩ := HF.out _ hSw; go_simp; try with_reducible rfl)
    try simp only [Act.put, List.setIfInBounds_toArray, List.set_cons_zero, List.set_cons_succ, List.getElem_toArray, List.getElem_cons_zero, List.getElem_cons_succ]
    refine wpAnyH_take (i := 6) (v := .pointer (some ⟨y1, 0, none⟩)) rfl (by kernel_rfl) (by kernel_rfl) (by kernel_rfl) (fun _ _ _ h => h) (Or.inl ⟨by kernel_rfl, ?hy6k⟩) hHeld ?rest6k
    case hy6k => (intro w' hSw; (try dsimp only at hSw); obtain ⟨p0, p1, p2⟩ := HF.out _ hSw; go_simp; try with_reducible rfl)
    try simp only [Act.put, List.setIfInBounds_toArray, List.set_cons_zero, List.set_cons_succ, List.getElem_toArray, List.getElem_cons_zero, List.getElem_cons_succ]
    refine wpAnyH_take (i := 7) (v := .pointer (some ⟨y1, 0, none⟩)) rfl (by kernel_rfl) (by kernel_rfl) (by kernel_rfl) (fun _ _ _ h => h) (Or.inl ⟨by kernel_rfl, ?hy7k⟩) hHeld ?rest7k
    case hy7k => (intro w' hSw; (try dsimp only at hSw); go_simp; try with_reducible rfl)
    try simp only [Act.put, List.setIfInBounds_toArray, List.set_cons_zero, List.set_cons_succ, List.getElem_toArray, List.getElem_cons_zero, List.getElem_cons_succ]
    refine wpAnyH_done (by kernel_rfl) ?_ _
    refine NoPanic.normal ?_
    try go_wp2_with fail
    have B3 : Hid (Below w2.heap.size w2 w2.drew) := (Below.refl _ w2).drew
    have u0 : w2.drew.cell? ⟨y1, 0, none⟩ = some (.int .i64 q) := t0
    have u1 : w2.drew.cell? ⟨y1, 1, none⟩ = some (.int .i64 3) := t1
    have u3 : w2.drew.cell? ⟨y1, 3, none⟩ = some (.slice ra nr rc) := t3
    have v0 : w2.drew.cell? ⟨w.heap.size, 0, none⟩ = some (.int .i64 5) := k0
    have v1 : w2.drew.cell? ⟨w.heap.size, 1, none⟩ = some (.int .i64 f) := k1
    have v3 : w2.drew.cell? ⟨w.heap.size, 3, none⟩ = some (.int .i64 q) := k3
    have v4 : w2.drew.cell? ⟨w.heap.size, 4, none⟩ = some (.bool yb) := k4
    clear t0 t1 t2 t3 t4 k0 k1 k2 k3 k4 k5 c0 c1
    generalize w2.drew = w3 at *
    go_quiet ((go_at_call 35; refine (QI.out _).mono ?_; exact fun _ _ h => ⟨h.1, _, h.2⟩))
    go_wp2_with fail
    refine (KV (w3.drewN nq) (y1, y2) ?b5 ?r5 HH.out.2.1).mono ?_
    case b5 => exact HH.out.2.2.2.2.1.trans (below_drewN ((H2.out.trans (B3.out.mono H2.out.size)).mono HH.out.2.2.2.2.1.size) nq)
    case r5 =>
      have b := below_drewN (H2.out.trans (B3.out.mono H2.out.size)) nq
      exact (b.block _ (lt_of_heapK HH.out.2.2.2.1)).trans HH.out.2.2.2.1
    rintro e w5 ⟨v, p, c1, c2, c3, c4, rfl, r5, hR⟩
    have HR : Hid (w5.heap[w.heap.size + 1]? = some (.cells #[.slice none 0 0, .int .i64 0, .int .i64 0, .int .i64 0] 46) ∧ R (.agg #[.slice v p c1, .int .i64 c2, .int .i64 c3, .int .i64 c4]) w5) := ⟨r5, hR⟩
    obtain ⟨q0, q1, q2, q3⟩ := cells4 r5
    have f0 := frozen_blk r5 0
    have f1 := frozen_blk r5 1
    have f2 := frozen_blk r5 2
    have f3 := frozen_blk r5 3
    clear r5 hR u0 u1 u3 v0 v1 v3 v4 KV QI
    go_wp2_with fail
    obtain ⟨e1, e2⟩ := chain4 (a' := .slice v p c1) (b' := .int .i64 c2) (c' := .int .i64 c3) (d' := .int .i64 c4) HR.out.1
    exact bodyPost_ret (results_cell_row Try.results16 _ _ (w.heap.size + 1) 46 _ (0, 0) _ rfl e1 Try.underlying46 rfl sizeSd) rfl ⟨_, w5, rfl, HR.out.2, e2⟩
set_option maxRecDepth 100000 in
set_option maxHeartbeats 8000000 in
theorem take_pass (w : World) (F : Nat → Prop) (b : Nat) (lim : Int) (n0 m : Nat) (B : Int → Option (Nat × Option Nat)) (X : Int → Option Tr) (h : Cd w F b lim n0 m B X) (k f t q : Int) (a : Option Addr) (n c : Nat) (L : List Pk) (hn : L.length = n) (hL : InPk w a L) (hc : n ≤ c) (hc9 : c ≤ 9223372036854775807) (hN1 : n ≤ 1000000) (yb : Bool) (hchk : wchk k f t q yb L ≠ 0 ∨ t ≠ 0) :
    Calls Try.prog 16 #[.pointer (some ⟨b, 0, none⟩), .agg #[.int .i64 k, .int .i64 f, .int .i64 t, .int .i64 q, .bool yb, .slice a n c]] w fun e w' => e = .returned (sd (.slice none 0 0) 0 0 0) ∧ Below w.heap.size w w' := by
  obtain ⟨W0, hW0⟩ : ∃ W0, W0 = (w.alloc (.cells #[.int .i64 k, .int .i64 f, .int .i64 t, .int .i64 q, .bool yb, .slice a n c] 25)).alloc (.cells #[.slice none 0 0, .int .i64 0, .int .i64 0, .int .i64 0] 46) := ⟨_, rfl⟩
  have HW0 : Hid ((w.alloc (.cells #[.int .i64 k, .int .i64 f, .int .i64 t, .int .i64 q, .bool yb, .slice a n c] 25)).alloc (.cells #[.slice none 0 0, .int .i64 0, .int .i64 0, .int .i64 0] 46) = W0) := hW0.symm
  have b1 := below1 w (.cells #[.int .i64 k, .int .i64 f, .int .i64 t, .int .i64 q, .bool yb, .slice a n c] 25)
  have b0 : Below w.heap.size w W0 := by rw [hW0]; exact b1.trans ((below1 _ _).mono b1.size)
  have r1 : W0.heap[w.heap.size + 1]? = some (.cells #[.slice none 0 0, .int .i64 0, .int .i64 0, .int .i64 0] 46) := by
    have := heap_alloc_new (w.alloc (.cells #[.int .i64 k, .int .i64 f, .int .i64 t, .int .i64 q, .bool yb, .slice a n c] 25)) (.cells #[.slice none 0 0, .int .i64 0, .int .i64 0, .int .i64 0] 46)
    rw [hW0]
    rwa [show (w.alloc (.cells #[.int .i64 k, .int .i64 f, .int .i64 t, .int .i64 q, .bool yb, .slice a n c] 25)).heap.size = w.heap.size + 1 by simp] at this
  have m1 : W0.heap[w.heap.size]? = some (.cells #[.int .i64 k, .int .i64 f, .int .i64 t, .int .i64 q, .bool yb, .slice a n c] 25) := by
    have := (below1 (w.alloc (.cells #[.int .i64 k, .int .i64 f, .int .i64 t, .int .i64 q, .bool yb, .slice a n c] 25)) (.cells #[.slice none 0 0, .int .i64 0, .int .i64 0, .int .i64 0] 46)).block w.heap.size (by simp)
    rw [hW0]
    exact this.trans (heap_alloc_new w _)
  have h0 := h.keep b0
  have KW := isNone_co W0 b lim m h0.box
  have KC := wcheck_is W0 k f t q yb a n c L hn (hL.keep b0) hc hc9 hN1
  obtain ⟨g0, g1, g2, g3, g4, g5⟩ := cells6 m1
  have HH : Hid (W0.heap[w.heap.size]? = some (.cells #[.int .i64 k, .int .i64 f, .int .i64 t, .int .i64 q, .bool yb, .slice a n c] 25) ∧ W0.heap[w.heap.size + 1]? = some (.cells #[.slice none 0 0, .int .i64 0, .int .i64 0, .int .i64 0] 46) ∧ Below w.heap.size w W0) := ⟨m1, r1, b0⟩
  obtain ⟨E, hE⟩ : ∃ E, E = wchk k f t q yb L := ⟨_, rfl⟩
  rw [← hE] at KC hchk
  unfold sd
  have HE : Hid (E ≠ 0 ∨ t ≠ 0) := hchk
  clear h hW0 b1 b0 h0 r1 m1 hn hL hc hc9 hN1 hchk hE
  go_enter Try.func16, Try.ntmps16
  go_wp2_with fail
  rw [HW0.out]
  refine KW.mono ?_
  rintro e w2 ⟨rfl, h2⟩
  obtain rfl := h2.symm
  clear h2
  go_wp2_with fail
  refine KC.mono ?_
  rintro e w2 ⟨rfl, b2⟩
  obtain ⟨k0, k1, k2, k3, k4, k5⟩ := cells6 ((b2.block w.heap.size (lt_of_heapK HH.out.1)).trans HH.out.1)
  have r2 := (b2.block (w.heap.size + 1) (lt_of_heapK HH.out.2.1)).trans HH.out.2.1
  have HR : Hid (Below w.heap.size w w2 ∧ w2.heap[w.heap.size + 1]? = some (.cells #[.slice none 0 0, .int .i64 0, .int .i64 0, .int .i64 0] 46)) := ⟨HH.out.2.2.trans (b2.mono HH.out.2.2.size), r2⟩
  obtain ⟨q0, q1, q2, q3⟩ := cells4 r2
  have f0 := frozen_blk r2 0
  have f1 := frozen_blk r2 1
  have f2 := frozen_blk r2 2
  have f3 := frozen_blk r2 3
  have HD : E ≠ 0 ∨ (E = 0 ∧ t ≠ 0) := by have := HE.out; omega
  clear r2 b2 g0 g1 g2 g3 g4 g5 KC KW
  rcases HD with hd | ⟨hd, ht⟩
  · have e1 : (E == (0 : Int)) = false := by simpa using hd
    clear hd
    go_wp2_with fail
    obtain ⟨e1, e2⟩ := chain4 (a' := .slice none 0 0) (b' := .int .i64 0) (c' := .int .i64 0) (d' := .int .i64 0) HR.out.2
    exact bodyPost_ret (results_cell_row Try.results16 _ _ (w.heap.size + 1) 46 _ (0, 0) _ rfl e1 Try.underlying46 rfl sizeSd) rfl ⟨rfl, HR.out.1.grown e2 HR.out.1.size (fun k hk => by cases hk; exact Nat.le_succ _)⟩
  · subst hd
    have e2 : (t == (0 : Int)) = false := by simpa using ht
    clear ht
    go_wp2_with fail
    obtain ⟨e1, e2⟩ := chain4 (a' := .slice none 0 0) (b' := .int .i64 0) (c' := .int .i64 0) (d' := .int .i64 0) HR.out.2
    exact bodyPost_ret (results_cell_row Try.results16 _ _ (w.heap.size + 1) 46 _ (0, 0) _ rfl e1 Try.underlying46 rfl sizeSd) rfl ⟨rfl, HR.out.1.grown e2 HR.out.1.size (fun k hk => by cases hk; exact Nat.le_succ _)⟩
end Go.Proofs.Ythaeidbnbgghkaa
