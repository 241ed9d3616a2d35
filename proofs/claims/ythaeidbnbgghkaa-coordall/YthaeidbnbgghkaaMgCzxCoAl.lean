/- coord: a play that is listened to (gen_coal.py). -/
import Derived.Test.YthaeidbnbgghkaaMgCzxCoTk
import Derived.Test.YthaeidbnbgghkaaMgCz21
namespace Go.Proofs.Ythaeidbnbgghkaa
open Go.ChangeShapes Go.WideShapes Go.ChangeAt Go.RowKit Go.Deep Go.Maps
set_option linter.unusedVariables false
set_option linter.unusedSimpArgs false
def sX (o : Option Tr) : Int → Option Tr := setX (fun _ => none) 1 o
theorem sX_at (o : Option Tr) : sX o 1 = o := setX_at _ _ _
theorem sX_set (o o' : Option Tr) : setX (sX o) 1 o' = sX o' := setX_set _ _ _ _
theorem sX_gl {lim : Int} {x : Tr} (h : TrOk x ∧ 0 ≤ x.age ∧ x.age < lim) : GL lim (sX (some x)) := by
  have key : ∀ q t, sX (some x) q = some t → t = x := fun q t ht => by
    by_cases e : q = 1
    · subst e; rw [sX_at] at ht; injection ht with ht; exact ht.symm
    · unfold sX at ht; rw [setX_ne _ _ e] at ht; cases ht
  exact ⟨fun q t ht => by rw [key q t ht]; exact h.1, fun q t ht => by rw [key q t ht]; exact h.2⟩
def hC (su : Bool) (yv : Value) (cm ab : Int) : Array Value := #[.bool su, .bool false, yv, .int .i64 cm, .int .i64 ab, .int .i64 0]
/-- what stands: the coordinator, what was heard (in hb), and n (in nb) -/
structure AlR (w wr : World) (F : Nat → Prop) (b m hb nb rb n : Nat) (lim : Int) (o : Option Tr) (su : Bool) (Y : List Int) (yv : Value) (cm ab : Int) : Prop where
  bel : Below w.heap.size w wr
  cd : Co wr F b lim 1 m (sX o)
  ge : ∀ k, F k → w.heap.size ≤ k
  hh : wr.heap[hb]? = some (.cells (hC su yv cm ab) 55)
  nn : wr.heap[nb]? = some (.cells #[.int .i64 (n : Int)] 3)
  fh : ¬ F hb
  fn : ¬ F nb
  gh : w.heap.size ≤ hb
  yo : OwnZ wr w.heap.size yv Y
  yf : ∀ k, yv.ownBlock = some k → ¬ F k ∧ k ≠ nb
  rr : wr.heap[rb]? = some (.cells (hC false (.slice none 0 0) 0 0) 55)
  fr : ¬ F rb
  rh : rb ≠ hb
  gr : w.heap.size ≤ rb
theorem AlR.yh {w wr : World} {F : Nat → Prop} {b m hb nb rb n : Nat} {lim : Int} {o : Option Tr} {su : Bool} {Y : List Int} {yv : Value} {cm ab : Int} (h : AlR w wr F b m hb nb rb n lim o su Y yv cm ab) : ∀ k, yv.ownBlock = some k → k ≠ hb := fun k hk e => by
  obtain ⟨cs, h1⟩ := ownZ_typ h.yo hk
  rw [e, h.hh] at h1
  injection h1 with h1
  injection h1 with h2 h3
  exact absurd h3 (by decide)
theorem AlR.hn {w wr : World} {F : Nat → Prop} {b m hb nb rb n : Nat} {lim : Int} {o : Option Tr} {su : Bool} {Y : List Int} {yv : Value} {cm ab : Int} (h : AlR w wr F b m hb nb rb n lim o su Y yv cm ab) : nb ≠ hb := fun e => by
  have h1 := h.nn
  rw [e, h.hh] at h1
  injection h1 with h1
  injection h1 with h2 h3
  exact absurd h3 (by decide)
theorem AlR.keep {w wr u : World} {F : Nat → Prop} {b m hb nb rb n : Nat} {lim : Int} {o : Option Tr} {su : Bool} {Y : List Int} {yv : Value} {cm ab : Int} (h : AlR w wr F b m hb nb rb n lim o su Y yv cm ab) (hb' : Below wr.heap.size wr u) : AlR w u F b m hb nb rb n lim o su Y yv cm ab :=
  ⟨h.bel.trans (hb'.mono h.bel.size), h.cd.keep hb', h.ge, (hb'.block _ (lt_of_heapK h.hh)).trans h.hh, (hb'.block _ (lt_of_heapK h.nn)).trans h.nn, h.fh, h.fn, h.gh, h.yo.keep hb', h.yf, (hb'.block _ (lt_of_heapK h.rr)).trans h.rr, h.fr, h.rh, h.gr⟩
/-- a call of the coordinator -/
theorem AlR.step {w wr u : World} {F F' : Nat → Prop} {b m hb nb rb n : Nat} {lim : Int} {o o' : Option Tr} {su : Bool} {Y : List Int} {yv : Value} {cm ab : Int} (h : AlR w wr F b m hb nb rb n lim o su Y yv cm ab) (s : Stp F F' wr u) (c : Co u F' b lim 1 m (sX o')) : AlR w u F' b m hb nb rb n lim o' su Y yv cm ab := by
  obtain ⟨s1, s2⟩ := s.bel h.ge h.bel.size
  have lh := lt_of_heapK h.hh
  have ln := lt_of_heapK h.nn
  refine ⟨h.bel.trans s1, c, s2, (s.off.block _ lh h.fh).trans h.hh, (s.off.block _ ln h.fn).trans h.nn, fun e => ?_, fun e => ?_, h.gh, h.yo.kept fun k hk => s.off.block k (h.yo.own k hk).2 (h.yf k hk).1, fun k hk => ⟨fun e => ?_, (h.yf k hk).2⟩, (s.off.block _ (lt_of_heapK h.rr) h.fr).trans h.rr, fun e => ?_, h.rh, h.gr⟩
  · rcases s.sub _ e with e | e
    · exact h.fh e
    · omega
  · rcases s.sub _ e with e | e
    · exact h.fn e
    · omega
  · rcases s.sub _ e with e | e
    · exact (h.yf k hk).1 e
    · have := (h.yo.own k hk).2; omega
  · rcases s.sub _ e with e | e
    · exact h.fr e
    · have := lt_of_heapK h.rr; omega
/-- what was heard changes -/
theorem AlR.hear {w wr u : World} {F : Nat → Prop} {b m hb nb rb n : Nat} {lim : Int} {o : Option Tr} {su su' : Bool} {Y : List Int} {yv : Value} {cm ab cm' ab' : Int} (h : AlR w wr F b m hb nb rb n lim o su Y yv cm ab) (g : wr.grownBy u (some hb)) (hu : u.heap[hb]? = some (.cells (hC su' yv cm' ab') 55)) : AlR w u F b m hb nb rb n lim o su' Y yv cm' ab' :=
  ⟨h.bel.grown g h.bel.size (fun k hk => by cases hk; exact h.gh), h.cd.beside g h.fh, h.ge, hu, (g.block _ (lt_of_heapK h.nn) (fun e => by injection e with e; exact h.hn e)).trans h.nn, h.fh, h.fn, h.gh, h.yo.kept fun k hk => g.block k (h.yo.own k hk).2 (fun e => by injection e with e; exact h.yh k hk e), h.yf, (g.block _ (lt_of_heapK h.rr) (fun e => by injection e with e; exact h.rh e)).trans h.rr, h.fr, h.rh, h.gr⟩
theorem hC_cells {w : World} {g : Nat} {su : Bool} {yv : Value} {cm ab : Int} {t : TypeId} (h : w.heap[g]? = some (.cells (hC su yv cm ab) t)) : w.cell? ⟨g, 0, none⟩ = some (.bool su) ∧ w.cell? ⟨g, 1, none⟩ = some (.bool false) ∧ w.cell? ⟨g, 2, none⟩ = some yv ∧ w.cell? ⟨g, 3, none⟩ = some (.int .i64 cm) ∧ w.cell? ⟨g, 4, none⟩ = some (.int .i64 ab) ∧ w.cell? ⟨g, 5, none⟩ = some (.int .i64 0) := cells6 h
/-- how far it went -/
structure Hrd (n : Nat) (D : List Mv) (j : Nat) (cm ab cm' ab' : Int) : Prop where
  c1 : cm ≤ cm'
  c2 : cm' ≤ cm + j
  a1 : ab ≤ ab'
  a2 : ab' ≤ ab + j
  no : (∀ y ∈ D.take j, y.k = 4 → (n : Int) < y.t) → ab' = ab
theorem hear3 {w : World} {g : Nat} {su : Bool} {yv : Value} {cm ab cx : Int} {x : Value} {t : TypeId} (h : w.heap[g]? = some (.cells (hC su yv cm ab) t)) (hx : x = .int .i64 cx := by rfl) : (w.setCell ⟨g, 3, none⟩ x).heap[g]? = some (.cells (hC su yv cx ab) t) ∧ w.grownBy (w.setCell ⟨g, 3, none⟩ x) (some g) := by
  subst hx
  have h1 := setCell_blk (i := 3) (.int .i64 cx) h
  exact ⟨by rw [h1]; simp [hC], grown_setCell _ _ _ _⟩
theorem hear4 {w : World} {g : Nat} {su : Bool} {yv : Value} {cm ab cx : Int} {x : Value} {t : TypeId} (h : w.heap[g]? = some (.cells (hC su yv cm ab) t)) (hx : x = .int .i64 cx := by rfl) : (w.setCell ⟨g, 4, none⟩ x).heap[g]? = some (.cells (hC su yv cm cx) t) ∧ w.grownBy (w.setCell ⟨g, 4, none⟩ x) (some g) := by
  subst hx
  have h1 := setCell_blk (i := 4) (.int .i64 cx) h
  exact ⟨by rw [h1]; simp [hC], grown_setCell _ _ _ _⟩
set_option maxRecDepth 100000 in
set_option maxHeartbeats 16000000 in
theorem listen_is (w W : World) (F : Nat → Prop) (b m hb nb rb n : Nat) (lim : Int) (o : Option Tr) (su : Bool) (Y : List Int) (yv : Value) (cm ab : Int) (h : AlR w W F b m hb nb rb n lim o su Y yv cm ab) (a : Option Addr) (nD c : Nat) (D : List Mv) (hD : InM W a D) (hn : D.length = nD) (hN : nD ≤ 100) (hc : 0 ≤ cm ∧ cm ≤ 100000) (ha : 0 ≤ ab ∧ ab ≤ 100000) (hap : ∀ q, a = some q → D ≠ [] → q.block ≠ hb) (hk : su = true ∨ ∀ y ∈ D, y.k ≠ 3) :
    Calls Try.prog 41 #[.slice a nD c, .pointer (some ⟨hb, 0, none⟩), .pointer (some ⟨nb, 0, none⟩)] W fun e w' => e = .returned (.tuple #[]) ∧ ∃ cm' ab', AlR w w' F b m hb nb rb n lim o su Y yv cm' ab' ∧ Hrd n D nD cm ab cm' ab' := by
  have H0 : Hid (AlR w W F b m hb nb rb n lim o su Y yv cm ab ∧ InM W a D ∧ D.length = nD ∧ (0 ≤ cm ∧ cm ≤ 100000) ∧ (0 ≤ ab ∧ ab ≤ 100000) ∧ (∀ q, a = some q → D ≠ [] → q.block ≠ hb) ∧ (su = true ∨ ∀ y ∈ D, y.k ≠ 3) ∧ nD ≤ 100) := ⟨h, hD, hn, hc, ha, hap, hk, hN⟩
  clear h hD hn hc ha hap hk
  go_enter Try.func41, Try.ntmps41
  go_wp2_with fail
  go_loopg [8] nD (fun g i wr => ∃ (j : Nat) (cm' ab' : Int), j ≤ nD ∧ g = nD - j ∧ i = .int .i64 (j : Int) ∧ Hid (AlR w wr F b m hb nb rb n lim o su Y yv cm' ab' ∧ Hrd n D j cm ab cm' ab' ∧ W.heap.size ≤ wr.heap.size ∧ ∀ k, k < W.heap.size → k ≠ hb → wr.heap[k]? = W.heap[k]?))
  case atStart => exact ⟨0, cm, ab, Nat.zero_le _, rfl, rfl, H0.out.1, ⟨by omega, by omega, by omega, by omega, fun _ => rfl⟩, Nat.le_refl _, fun _ _ _ => rfl⟩
  case round =>
    obtain ⟨j, cm', ab', hj, rfl, rfl, RW⟩ := hrel
    by_cases hlt : j < nD
    · have j3 : decide ((j : Int) < (nD : Int)) = true := by rw [decide_eq_true_eq]; omega
      have j4 : (j : Int) < (nD : Int) := by omega
      have j5 : decide (j < nD) = true := by rw [decide_eq_true_eq]; omega
      have rj : IntKind.i64.wrap ((j : Int) + 1) = (j : Int) + 1 := by rw [IntKind.wrap_i64]; omega
      have HJ : Hid (j < nD ∧ j + 1 ≤ nD) := ⟨hlt, hlt⟩
      have hb1 := RW.out.2.1.c1
      have hb2 := RW.out.2.1.c2
      have hb3 := RW.out.2.1.a1
      have hb4 := RW.out.2.1.a2
      have rc : IntKind.i64.wrap (cm' + 1) = cm' + 1 := by rw [IntKind.wrap_i64]; have := H0.out.2.2.2.1; omega
      have ra : IntKind.i64.wrap (ab' + 1) = ab' + 1 := by rw [IntKind.wrap_i64]; have := H0.out.2.2.2.2.1; omega
      obtain ⟨y, hy⟩ : ∃ y, D[j]? = some y := ⟨D[j]'(by rw [H0.out.2.2.1]; exact hlt), List.getElem?_eq_getElem _⟩
      have hmem := List.mem_of_getElem? hy
      have HT : Hid (D.take (j + 1) = D.take j ++ [y]) := by
        show _ = _
        rw [List.take_add_one, hy]; rfl
      have HK : Hid (su = true ∨ y.k ≠ 3) := by
        rcases H0.out.2.2.2.2.2.2.1 with h | h
        · exact .inl h
        · exact .inr (h y hmem)
      obtain ⟨bm, om, hbq, hbm, mc⟩ := H0.out.2.1.at hy
      have hne : bm ≠ hb := H0.out.2.2.2.2.2.1 _ hbq (fun e => by rw [e] at hmem; cases hmem)
      subst hbq
      obtain ⟨c0, c1, c2, c3, c4, c5⟩ := mc.kept (RW.out.2.2.2 bm hbm hne)
      obtain ⟨yk, yf, yt, yx, yy, ya, yn, yc⟩ := y
      simp only at c0 c1 c2 c3 c4 c5 HK
      have bA := below1 wr (.cells #[.int .i64 yk, .int .i64 yf, .int .i64 yt, .int .i64 yx, .bool yy, .slice ya yn yc] 25)
      have RA : Hid (AlR w (wr.alloc (.cells #[.int .i64 yk, .int .i64 yf, .int .i64 yt, .int .i64 yx, .bool yy, .slice ya yn yc] 25)) F b m hb nb rb n lim o su Y yv cm' ab' ∧ W.heap.size ≤ (wr.alloc (.cells #[.int .i64 yk, .int .i64 yf, .int .i64 yt, .int .i64 yx, .bool yy, .slice ya yn yc] 25)).heap.size ∧ ∀ k, k < W.heap.size → k ≠ hb → (wr.alloc (.cells #[.int .i64 yk, .int .i64 yf, .int .i64 yt, .int .i64 yx, .bool yy, .slice ya yn yc] 25)).heap[k]? = W.heap[k]?) := ⟨RW.out.1.keep bA, Nat.le_trans RW.out.2.2.1 bA.size, fun k h1 h2 => (bA.block k (Nat.lt_of_lt_of_le h1 RW.out.2.2.1)).trans (RW.out.2.2.2 k h1 h2)⟩
      obtain ⟨g0, g1, g2, g3, g4, g5⟩ := hC_cells RA.out.1.hh
      have gf3 := frozen_blk RA.out.1.hh 3
      have gf4 := frozen_blk RA.out.1.hh 4
      have gn : (wr.alloc (.cells #[.int .i64 yk, .int .i64 yf, .int .i64 yt, .int .i64 yx, .bool yy, .slice ya yn yc] 25)).cell? ⟨nb, 0, none⟩ = some (.int .i64 (n : Int)) := one_cellK RA.out.1.nn
      have HR : Hid (Hrd n D j cm ab cm' ab') := RW.out.2.1
      clear hy hmem mc hbm hne bA hlt RW hb1 hb2 hb3 hb4
      by_cases h3 : yk = 3
      · have hsu : su = true := by
          rcases HK.out with h | h
          · exact h
          · exact absurd h3 h
        subst hsu h3
        have e3 : ((3 : Int) == (3 : Int)) = true := rfl
        have e4 : ((3 : Int) == (4 : Int)) = false := by decide
        obtain ⟨k1, k2⟩ := hear3 (x := .int .i64 (cm' + 1)) RA.out.1.hh
        have RB : Hid (AlR w ((wr.alloc (.cells #[.int .i64 3, .int .i64 yf, .int .i64 yt, .int .i64 yx, .bool yy, .slice ya yn yc] 25)).setCell ⟨hb, 3, none⟩ (.int .i64 (cm' + 1))) F b m hb nb rb n lim o true Y yv (cm' + 1) ab' ∧ W.heap.size ≤ ((wr.alloc (.cells #[.int .i64 3, .int .i64 yf, .int .i64 yt, .int .i64 yx, .bool yy, .slice ya yn yc] 25)).setCell ⟨hb, 3, none⟩ (.int .i64 (cm' + 1))).heap.size ∧ ∀ k, k < W.heap.size → k ≠ hb → ((wr.alloc (.cells #[.int .i64 3, .int .i64 yf, .int .i64 yt, .int .i64 yx, .bool yy, .slice ya yn yc] 25)).setCell ⟨hb, 3, none⟩ (.int .i64 (cm' + 1))).heap[k]? = W.heap[k]?) := ⟨RA.out.1.hear k2 k1, Nat.le_trans RA.out.2.1 k2.size, fun k h1 h2 => (k2.block k (Nat.lt_of_lt_of_le h1 RA.out.2.1) (fun e => by injection e with e; exact h2 e)).trans (RA.out.2.2 k h1 h2)⟩
        obtain ⟨m0, m1, m2, m3, m4, m5⟩ := hC_cells RB.out.1.hh
        clear k1 k2
        go_wp2_with fail
        go_roundg (nD - (j + 1))
        case measure => have := HJ.out.1; omega
        case rel => exact ⟨j + 1, cm' + 1, ab', HJ.out.2, rfl, by push_cast; rfl, RB.out.1, ⟨by have := HR.out.c1; omega, by have := HR.out.c2; push_cast; omega, HR.out.a1, by have := HR.out.a2; push_cast; omega, fun hh => HR.out.no fun z hz => hh z (by rw [HT.out]; exact List.mem_append_left _ hz)⟩, RB.out.2.1, RB.out.2.2⟩
      · have e3 : (yk == (3 : Int)) = false := by simp [h3]
        by_cases h4 : yk = 4
        · have e4 : (yk == (4 : Int)) = true := by simp [h4]
          by_cases ht : yt ≤ (n : Int)
          · have et : decide (yt ≤ (n : Int)) = true := by rw [decide_eq_true_eq]; exact ht
            have HX : Hid (yk = 4 ∧ yt ≤ (n : Int)) := ⟨h4, ht⟩
            obtain ⟨k1, k2⟩ := hear4 (x := .int .i64 (ab' + 1)) RA.out.1.hh
            have RB : Hid (AlR w ((wr.alloc (.cells #[.int .i64 yk, .int .i64 yf, .int .i64 yt, .int .i64 yx, .bool yy, .slice ya yn yc] 25)).setCell ⟨hb, 4, none⟩ (.int .i64 (ab' + 1))) F b m hb nb rb n lim o su Y yv cm' (ab' + 1) ∧ W.heap.size ≤ ((wr.alloc (.cells #[.int .i64 yk, .int .i64 yf, .int .i64 yt, .int .i64 yx, .bool yy, .slice ya yn yc] 25)).setCell ⟨hb, 4, none⟩ (.int .i64 (ab' + 1))).heap.size ∧ ∀ k, k < W.heap.size → k ≠ hb → ((wr.alloc (.cells #[.int .i64 yk, .int .i64 yf, .int .i64 yt, .int .i64 yx, .bool yy, .slice ya yn yc] 25)).setCell ⟨hb, 4, none⟩ (.int .i64 (ab' + 1))).heap[k]? = W.heap[k]?) := ⟨RA.out.1.hear k2 k1, Nat.le_trans RA.out.2.1 k2.size, fun k h1 h2 => (k2.block k (Nat.lt_of_lt_of_le h1 RA.out.2.1) (fun e => by injection e with e; exact h2 e)).trans (RA.out.2.2 k h1 h2)⟩
            clear k1 k2 h3 h4 ht
            go_wp2_with fail
            go_roundg (nD - (j + 1))
            case measure => have := HJ.out.1; omega
            case rel => exact ⟨j + 1, cm', ab' + 1, HJ.out.2, rfl, by push_cast; rfl, RB.out.1, ⟨HR.out.c1, by have := HR.out.c2; push_cast; omega, by have := HR.out.a1; omega, by have := HR.out.a2; push_cast; omega, fun hh => absurd (hh _ (by rw [HT.out]; exact List.mem_append_right _ (List.mem_singleton.2 rfl)) HX.out.1) (by have := HX.out.2; simp only; omega)⟩, RB.out.2.1, RB.out.2.2⟩
          · have et : decide (yt ≤ (n : Int)) = false := by rw [decide_eq_false_iff_not]; exact ht
            clear h3 h4 ht
            go_wp2_with fail
            go_roundg (nD - (j + 1))
            case measure => have := HJ.out.1; omega
            case rel => exact ⟨j + 1, cm', ab', HJ.out.2, rfl, by push_cast; rfl, RA.out.1, ⟨HR.out.c1, by have := HR.out.c2; push_cast; omega, HR.out.a1, by have := HR.out.a2; push_cast; omega, fun hh => HR.out.no fun z hz => hh z (by rw [HT.out]; exact List.mem_append_left _ hz)⟩, RA.out.2.1, RA.out.2.2⟩
        · have e4 : (yk == (4 : Int)) = false := by simp [h4]
          clear h3 h4
          go_wp2_with fail
          go_roundg (nD - (j + 1))
          case measure => have := HJ.out.1; omega
          case rel => exact ⟨j + 1, cm', ab', HJ.out.2, rfl, by push_cast; rfl, RA.out.1, ⟨HR.out.c1, by have := HR.out.c2; push_cast; omega, HR.out.a1, by have := HR.out.a2; push_cast; omega, fun hh => HR.out.no fun z hz => hh z (by rw [HT.out]; exact List.mem_append_left _ hz)⟩, RA.out.2.1, RA.out.2.2⟩
    · have j3 : decide ((j : Int) < (nD : Int)) = false := by rw [decide_eq_false_iff_not]; omega
      have j5 : decide (j < nD) = false := by rw [decide_eq_false_iff_not]; omega
      have HF : Hid (Hrd n D nD cm ab cm' ab') := by
        have hjn : j = nD := by omega
        have := RW.out.2.1
        rwa [hjn] at this
      clear hlt
      go_wp2_with fail
      first | refine bodyPost_end (results_none rfl _ _ _) rfl ?_ | refine bodyPost_ret (results_none rfl _ _ _) rfl ?_
      exact ⟨rfl, cm', ab', RW.out.1, HF.out⟩
end Go.Proofs.Ythaeidbnbgghkaa
