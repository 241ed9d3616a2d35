/- coord: the document's Same of what is alike (gen_cozj.py). Packages, and a message, that came in, opened. coord: an Act, and a slice of such, that came in (gen_coac.py). -/
import Derived.Test.YthaeidbnbgghkaaMgCz18
import Derived.Test.YthaeidbnbgghkaaMgCz17
import Derived.Test.YthaeidbnbgghkaaMgCz19
import Derived.Deep.RegionHeld3
import Derived.Test.YthaeidbnbgghkaaMgCz4
import Derived.Deep.Slices
import Derived.Deep.Strs
import Derived.OpenShut
import Derived.ChangeSame
import Derived.SizedLaws
import Derived.Test.YthaeidbnbgghkaaMgCz5
import Derived.Lib.SmallJoins
namespace Go.Proofs.Ythaeidbnbgghkaa
open Go.ChangeShapes Go.WideShapes Go.ChangeAt Go.RowKit Go.Deep Go.Maps
set_option linter.unusedVariables false
set_option linter.unusedSimpArgs false
/-- packages that say the same are alike -/
theorem alike_ofco {L1 L2 : List Pk} (h : L1.map co = L2.map co) : Alike L1 L2 := by
  refine ⟨by have := congrArg List.length h; rwa [List.length_map, List.length_map] at this, fun i x y hx hy => ?_⟩
  have := congrArg (·[i]?) h
  simp only [List.getElem?_map, hx, hy, Option.map_some, Option.some.injEq] at this
  unfold Go.Proofs.Ythaeidbnbgghkaa.co at this
  simpa using this
/-- two messages that say the same -/
structure SmM (w : World) (x y : Mv) : Prop where
  ek : x.k = y.k
  ef : x.f = y.f
  et : x.t = y.t
  ex : x.x = y.x
  ey : x.y = y.y
  en : x.pn = y.pn
  ep : ∃ L1 L2, InPk w x.pa L1 ∧ InPk w y.pa L2 ∧ L1.length = x.pn ∧ Alike L1 L2 ∧ x.pn ≤ 1000000
theorem SmM.keep {w w' : World} {x y : Mv} (h : SmM w x y) (hb : Below w.heap.size w w') : SmM w' x y := by
  obtain ⟨L1, L2, h1, h2, h3⟩ := h.ep
  exact ⟨h.ek, h.ef, h.et, h.ex, h.ey, h.en, L1, L2, h1.keep hb, h2.keep hb, h3⟩
set_option maxRecDepth 100000 in
set_option maxHeartbeats 8000000 in
theorem rmsg_same (w : World) (x y : Mv) (h : SmM w x y) : Calls Try.prog 47 #[.agg (mC x), .agg (mC y)] w fun e w' => e = .returned (.bool true) ∧ Below w.heap.size w w' := by
  obtain ⟨e1, e2, e3, e4, e5, e6, L1, L2, h1, h2, h3, h4, h5⟩ := h
  obtain ⟨k, f, t, q, yb, a1, n, c1⟩ := x
  obtain ⟨k2, f2, t2, q2, yb2, a2, n2, c2⟩ := y
  simp only at e1 e2 e3 e4 e5 e6 h1 h2 h3 h5
  subst e1 e2 e3 e4 e5 e6
  unfold mC
  have HB : Hid (∀ o p, Below w.heap.size w ((w.alloc o).alloc p)) := fun o p => ((Below.refl _ _).alloc (Nat.le_refl _) _).alloc (by simp) _
  have K : Hid (∀ W, Below w.heap.size w W → Calls Try.prog 59 #[.slice a1 n c1, .slice a2 n c2] W fun e w' => e = .returned (.bool true) ∧ Below W.heap.size W w') := fun W hW => rpsame_true W a1 a2 n c1 c2 L1 L2 h3 (h1.keep hW) (h2.keep hW) h4 h5
  have yy : (yb == yb) = true := by simp
  clear h1 h2 h3 h4 h5
  go_enter Try.func47, Try.ntmps47
  go_wp2_with (go_at_call 59; refine (K.out _ (HB.out _ _)).mono ?_; rintro e9 w9 ⟨rfl, b9⟩; have B9 : Hid (Below w.heap.size w w9) := (HB.out _ _).trans (b9.mono (HB.out _ _).size); clear b9)
  go_ret
  exact ⟨rfl, B9.out⟩
set_option maxRecDepth 100000 in
set_option maxHeartbeats 8000000 in
theorem rall15_same (w : World) (a b : Option Addr) (n c c2 : Nat) (D E : List Mv) (hn : D.length = n) (hn2 : E.length = n) (ha : InM w a D) (hb : InM w b E) (hs : ∀ (i : Nat) (x y : Mv), D[i]? = some x → E[i]? = some y → SmM w x y) (hN : n ≤ 1000000) :
    Calls Try.prog 33 #[.slice a n c, .slice b n c2] w fun e w' => e = .returned (.bool true) ∧ Below w.heap.size w w' := by
  have HL : Hid (InM w a D ∧ InM w b E ∧ D.length = n ∧ E.length = n ∧ ∀ (i : Nat) (x y : Mv), D[i]? = some x → E[i]? = some y → SmM w x y) := ⟨ha, hb, hn, hn2, hs⟩
  clear hn ha hb hn2 hs
  go_enter Try.func33, Try.ntmps33
  go_wp2_with fail
  go_loopg [5] n (fun g i wr => ∃ j : Nat, j ≤ n ∧ g = n - j ∧ i = .int .i64 (j : Int) ∧ Hid (Below w.heap.size w wr))
  case atStart => exact ⟨0, Nat.zero_le _, rfl, rfl, Below.refl _ _⟩
  obtain ⟨j, hj, rfl, rfl, RW⟩ := hrel
  by_cases hlt : j < n
  · have j1 : decide ((j : Int) < (n : Int)) = true := by rw [decide_eq_true_eq]; omega
    have j4 : (j : Int) < (n : Int) := by omega
    have j5 : j < n := hlt
    obtain ⟨x, hx⟩ : ∃ y, D[j]? = some y := ⟨D[j]'(by rw [HL.out.2.2.1]; exact hlt), by simp [HL.out.2.2.1, hlt]⟩
    obtain ⟨y, hy⟩ : ∃ y, E[j]? = some y := ⟨E[j]'(by rw [HL.out.2.2.2.1]; exact hlt), by simp [HL.out.2.2.2.1, hlt]⟩
    have KS : Hid (∀ W, Below w.heap.size w W → Calls Try.prog 47 #[.agg (mC x), .agg (mC y)] W fun e w' => e = .returned (.bool true) ∧ Below W.heap.size W w') := fun W hW => rmsg_same W x y ((HL.out.2.2.2.2 j x y hx hy).keep hW)
    obtain ⟨b1, o1, rfl, l1, c1⟩ := HL.out.1.at hx
    obtain ⟨b2, o2, rfl, l2, c2'⟩ := HL.out.2.1.at hy
    have HC0 : Hid (∀ W, Below w.heap.size w W → Mc W b1 (o1 + j * 6) x ∧ Mc W b2 (o2 + j * 6) y) := fun W hW => ⟨c1.kept (hW.block b1 l1), c2'.kept (hW.block b2 l2)⟩
    have ri : IntKind.i64.wrap ((j : Int) + 1) = (j : Int) + 1 := by rw [IntKind.wrap_i64]; omega
    clear hx hy c1 c2' l1 l2
    obtain ⟨xk, xf, xt, xx, xy, xa, xn, xc⟩ := x
    obtain ⟨yk, yf, yt, yx, yy, ya, yn, yc⟩ := y
    simp only [mC] at KS
    have HC : Hid (∀ W, Below w.heap.size w W → W.cell? ⟨b1, o1 + j * 6, none⟩ = some (.int .i64 xk) ∧ W.cell? ⟨b1, o1 + j * 6 + 1, none⟩ = some (.int .i64 xf) ∧ W.cell? ⟨b1, o1 + j * 6 + 2, none⟩ = some (.int .i64 xt) ∧ W.cell? ⟨b1, o1 + j * 6 + 3, none⟩ = some (.int .i64 xx) ∧ W.cell? ⟨b1, o1 + j * 6 + 4, none⟩ = some (.bool xy) ∧ W.cell? ⟨b1, o1 + j * 6 + 5, none⟩ = some (.slice xa xn xc) ∧ W.cell? ⟨b2, o2 + j * 6, none⟩ = some (.int .i64 yk) ∧ W.cell? ⟨b2, o2 + j * 6 + 1, none⟩ = some (.int .i64 yf) ∧ W.cell? ⟨b2, o2 + j * 6 + 2, none⟩ = some (.int .i64 yt) ∧ W.cell? ⟨b2, o2 + j * 6 + 3, none⟩ = some (.int .i64 yx) ∧ W.cell? ⟨b2, o2 + j * 6 + 4, none⟩ = some (.bool yy) ∧ W.cell? ⟨b2, o2 + j * 6 + 5, none⟩ = some (.slice ya yn yc)) := fun W hW => by
      obtain ⟨⟨p0, p1, p2, p3, p4, p5⟩, r0, r1, r2, r3, r4, r5⟩ := HC0.out W hW
      exact ⟨p0, p1, p2, p3, p4, p5, r0, r1, r2, r3, r4, r5⟩
    clear HC0
    go_wp2_with fail
    refine wp_region_noPanic ?_
    refine wp_region_held_drew (S := (fun W : World => Below w.heap.size w W)) (by kernel_rfl) ?hSasa (fun hHeld => ?restasa)
    case hSasa => exact below_drewM RW.out
    case restasa =>
      refine wpAnyH_take (i := 0) (v := .slice (some ⟨b1, o1, none⟩) n c) rfl (by kernel_rfl) (by kernel_rfl) (by kernel_rfl) (fun _ _ _ h => h) (Or.inl ⟨by kernel_rfl, ?hy0sa⟩) hHeld ?rest0sa
      case hy0sa => (intro w' hSw; (try dsimp only at hSw); go_simp; try with_reducible rfl)
      try simp only [Act.put, List.setIfInBounds_toArray, List.set_cons_zero, List.set_cons_succ, List.getElem_toArray, List.getElem_cons_zero, List.getElem_cons_succ]
      refine wpAnyH_take (i := 1) (v := .int .i64 (j : Int)) rfl (by kernel_rfl) (by kernel_rfl) (by kernel_rfl) (fun _ _ _ h => h) (Or.inl ⟨by kernel_rfl, ?hy1sa⟩) hHeld ?rest1sa
      case hy1sa => (intro w' hSw; (try dsimp only at hSw); go_simp; try with_reducible rfl)
      try simp only [Act.put, List.setIfInBounds_toArray, List.set_cons_zero, List.set_cons_succ, List.getElem_toArray, List.getElem_cons_zero, List.getElem_cons_succ]
      refine wpAnyH_take (i := 2) (v := .pointer (some ⟨b1, o1 + j * 6, none⟩)) rfl (by kernel_rfl) (by kernel_rfl) (by kernel_rfl) (fun _ _ _ h => h) (Or.inl ⟨by kernel_rfl, ?hy2sa⟩) hHeld ?rest2sa
      case hy2sa => (intro w' hSw; (try dsimp only at hSw); go_simp; try with_reducible rfl)
      try simp only [Act.put, List.setIfInBounds_toArray, List.set_cons_zero, List.set_cons_succ, List.getElem_toArray, List.getElem_cons_zero, List.getElem_cons_succ]
      refine wpAnyH_take (i := 3) (v := .agg #[.int .i64 xk, .int .i64 xf, .int .i64 xt, .int .i64 xx, .bool xy, .slice xa xn xc]) rfl (by kernel_rfl) (by kernel_rfl) (by kernel_rfl) (fun _ _ _ h => h) (Or.inl ⟨by kernel_rfl, ?hy3sa⟩) hHeld ?rest3sa
      case hy3sa => (intro w' hSw; (try dsimp only at hSw); obtain ⟨d0, d1, d2, d3, d4, d5, f0, f1, f2, f3, f4, f5⟩ := HC.out _ hSw; go_simp; try with_reducible rfl)
      try simp only [Act.put, List.setIfInBounds_toArray, List.set_cons_zero, List.set_cons_succ, List.getElem_toArray, List.getElem_cons_zero, List.getElem_cons_succ]
      refine wpAnyH_take (i := 4) (v := .slice (some ⟨b2, o2, none⟩) n c2) rfl (by kernel_rfl) (by kernel_rfl) (by kernel_rfl) (fun _ _ _ h => h) (Or.inl ⟨by kernel_rfl, ?hy4sa⟩) hHeld ?rest4sa
      case hy4sa => (intro w' hSw; (try dsimp only at hSw); go_simp; try with_reducible rfl)
      try simp only [Act.put, List.setIfInBounds_toArray, List.set_cons_zero, List.set_cons_succ, List.getElem_toArray, List.getElem_cons_zero, List.getElem_cons_succ]
      refine wpAnyH_take (i := 5) (v := .int .i64 (j : Int)) rfl (by kernel_rfl) (by kernel_rfl) (by kernel_rfl) (fun _ _ _ h => h) (Or.inl ⟨by kernel_rfl, ?hy5sa⟩) hHeld ?rest5sa
      case hy5sa => (intro w' hSw; (try dsimp only at hSw); go_simp; try with_reducible rfl)
      try simp only [Act.put, List.setIfInBounds_toArray, List.set_cons_zero, List.set_cons_succ, List.getElem_toArray, List.getElem_cons_zero, List.getElem_cons_succ]
      refine wpAnyH_take (i := 6) (v := .pointer (some ⟨b2, o2 + j * 6, none⟩)) rfl (by kernel_rfl) (by kernel_rfl) (by kernel_rfl) (fun _ _ _ h => h) (Or.inl ⟨by kernel_rfl, ?hy6sa⟩) hHeld ?rest6sa
      case hy6sa => (intro w' hSw; (try dsimp only at hSw); go_simp; try with_reducible rfl)
      try simp only [Act.put, List.setIfInBounds_toArray, List.set_cons_zero, List.set_cons_succ, List.getElem_toArray, List.getElem_cons_zero, List.getElem_cons_succ]
      refine wpAnyH_take (i := 7) (v := .agg #[.int .i64 yk, .int .i64 yf, .int .i64 yt, .int .i64 yx, .bool yy, .slice ya yn yc]) rfl (by kernel_rfl) (by kernel_rfl) (by kernel_rfl) (fun _ _ _ h => h) (Or.inl ⟨by kernel_rfl, ?hy7sa⟩) hHeld ?rest7sa
      case hy7sa => (intro w' hSw; (try dsimp only at hSw); obtain ⟨d0, d1, d2, d3, d4, d5, f0, f1, f2, f3, f4, f5⟩ := HC.out _ hSw; go_simp; try with_reducible rfl)
      try simp only [Act.put, List.setIfInBounds_toArray, List.set_cons_zero, List.set_cons_succ, List.getElem_toArray, List.getElem_cons_zero, List.getElem_cons_succ]
      refine wpAnyH_ready (rs := [8]) (by kernel_rfl) (by simp) ?_
      refine AllReadyH.cons rfl (fun K hK => ?_) AllReadyH.nil
      go_simp
      refine (KS.out _ (below_drewM RW.out)).mono ?_
      rintro e8 w8 ⟨rfl, b8⟩
      have B8 : Hid (Below w.heap.size w w8) := (below_drewM RW.out).trans (b8.mono RW.out.size)
      clear b8
      refine hK.out _ _ ?hS8sa (fun hHeld => ?rest8sa)
      case hS8sa => exact B8.out
      clear hK K
      try simp only [Act.put, List.setIfInBounds_toArray, List.set_cons_zero, List.set_cons_succ, List.getElem_toArray, List.getElem_cons_zero, List.getElem_cons_succ]
      refine wpAnyH_take (i := 9) (v := .bool false) rfl (by kernel_rfl) (by kernel_rfl) (by kernel_rfl) (fun _ _ _ h => h) (Or.inl ⟨by kernel_rfl, ?hy9sa⟩) hHeld ?rest9sa
      case hy9sa => (intro w' hSw; (try dsimp only at hSw); go_simp; try with_reducible rfl)
      try simp only [Act.put, List.setIfInBounds_toArray, List.set_cons_zero, List.set_cons_succ, List.getElem_toArray, List.getElem_cons_zero, List.getElem_cons_succ]
      refine wpAnyH_done (by kernel_rfl) ?_ _
      refine NoPanic.normal ?_
      go_wp2_with fail
      go_roundg (n - (j + 1))
      case measure => omega
      case rel => exact ⟨j + 1, by omega, rfl, by go_num, B8⟩
  · have j1 : decide ((j : Int) < (n : Int)) = false := by rw [decide_eq_false_iff_not]; omega
    go_wp2_with fail
    go_ret
    exact ⟨rfl, RW.out⟩
set_option maxRecDepth 100000 in
set_option maxHeartbeats 8000000 in
theorem rsame15_is (w : World) (V1 V2 : Value) (p q r : Int) (a b : Option Addr) (n c c2 : Nat) (hV1 : V1 = .slice a n c) (hV2 : V2 = .slice b n c2) (D E : List Mv) (hn : D.length = n) (hn2 : E.length = n) (ha : InM w a D) (hb : InM w b E) (hs : ∀ (i : Nat) (x y : Mv), D[i]? = some x → E[i]? = some y → SmM w x y) (hN : n ≤ 1000000) :
    Calls Try.prog 15 #[sd V1 p q r, sd V2 p q r] w fun e w' => e = .returned (.bool true) ∧ Below w.heap.size w w' := by
  subst hV1 hV2
  have K : Hid (∀ W, Below w.heap.size w W → Calls Try.prog 33 #[.slice a n c, .slice b n c2] W fun e w' => e = .returned (.bool true) ∧ Below W.heap.size W w') := fun W hW => rall15_same W a b n c c2 D E hn hn2 (ha.keep hW) (hb.keep hW) (fun i x y hx hy => (hs i x y hx hy).keep hW) hN
  have HB : Hid (∀ o p, Below w.heap.size w ((w.alloc o).alloc p)) := fun o p => ((Below.refl _ _).alloc (Nat.le_refl _) _).alloc (by simp) _
  clear hn hn2 ha hb hs
  unfold sd
  have ea : (p == p) = true := by simp
  have eb : (q == q) = true := by simp
  have ec : (r == r) = true := by simp
  go_enter Try.func15, Try.ntmps15
  go_wp2_with fail
  refine (K.out _ (HB.out _ _)).mono ?_
  rintro e w1 ⟨rfl, b1⟩
  have B1 : Hid (Below w.heap.size w w1) := (HB.out _ _).trans (b1.mono (HB.out _ _).size)
  clear b1
  go_wp2_with fail
  go_ret
  exact ⟨rfl, B1.out⟩
end Go.Proofs.Ythaeidbnbgghkaa
namespace Go.Proofs.Ythaeidbnbgghkaa
open Go.ChangeShapes Go.WideShapes Go.ChangeAt Go.RowKit Go.Deep Go.Maps
set_option linter.unusedVariables false
theorem wf_InI {x : Int} (h : (Lit.int .i64 x).wf = true) : InI x := by simpa [Lit.wf, InI, IntKind.has, IntKind.min, IntKind.max, IntKind.signed, IntKind.bits] using h
theorem cellsR : Try.prog.cellsOf 109 = 33 := by kernel_rfl
theorem cellsMfW : Try.prog.cellsOf 92 = 3 := by kernel_rfl
theorem cellsI64 : Try.prog.cellsOf 3 = 1 := by kernel_rfl
theorem cellsStr : Try.prog.cellsOf 9 = 1 := by kernel_rfl
theorem cellsRs : Try.prog.cellsOf 90 = 1 := by kernel_rfl
theorem bytesR : Try.prog.bytesOf 109 = 40 := by kernel_rfl
/-- the number in a cell -/
def nuv (v : Value) : Int := match v with | .int _ x => x | _ => 0
theorem open_ref {H : Type} {enc : TypeId × Value → H} {W : World} {sp : Nat → Bool} {fuel : Nat} {cs : List Value} {x : DataW H × List MemPlace} (h : DataW.trod enc Try.prog W 0 sp true fuel 109 cs = some x) :
    ∃ q : Rf, cs = rcl q ∧ q.1.length = 32 ∧ IsBytes q.1 ∧ InI q.2 := by
  obtain ⟨y0, y1, n, hxy, hlen, g0, g1⟩ := trod_struct2 Try.underlying109 h
  rw [cellsR] at hlen
  simp only [cellsDg, cellsI64, List.drop_zero] at g0 g1
  obtain ⟨xs, m, rfl, hx, hl2, hxl, hel⟩ := DataW.trod_array Try.underlying107 g0
  obtain ⟨z, e1, _, hzw⟩ := DataW.trod_int Try.underlying3 g1
  have hone : ∀ i, i < 32 → ∃ x : Int, cs[i]? = some (.int .u8 x) ∧ (Lit.int .u8 x).wf = true := by
    intro i hi
    have h1 := hel i hi
    rw [cellsU8, Nat.mul_one] at h1
    have hxi : xs[i]? = some xs[i] := List.getElem?_eq_getElem (by omega)
    rw [hxi] at h1
    obtain ⟨x, e1, _, e3⟩ := DataW.trod_int Try.underlying5 h1
    refine ⟨x, ?_, e3⟩
    have := congrArg (·[0]?) e1
    simpa [List.getElem?_take, List.getElem?_drop, hi] using this
  refine ⟨((cs.take 32).map nuv, z), ?_, by simp [hlen], ?_, wf_InI hzw⟩
  · unfold rcl
    apply List.ext_getElem?
    intro i
    by_cases hi : i < 32
    · obtain ⟨x, e, _⟩ := hone i hi
      rw [List.getElem?_append_left (by simp [hlen]; omega), e]
      simp [hi, e, nuv]
    · rw [List.getElem?_append_right (by simp [hlen]; omega)]
      have hl3 : ((cs.take 32).map nuv |>.map (Value.int .u8)).length = 32 := by simp [hlen]
      rw [hl3]
      by_cases h32 : i = 32
      · subst h32
        have := congrArg (·[0]?) e1
        simpa [List.getElem?_take, List.getElem?_drop] using this
      · rw [List.getElem?_eq_none (by omega), List.getElem?_eq_none (by simp; omega)]
  · intro i hi
    have hi' : i < 32 := by simp [hlen] at hi; omega
    obtain ⟨x, e, hw⟩ := hone i hi'
    have := wf_u8 hw
    simp only [List.getD, List.getElem?_map, List.getElem?_take, hi', if_true, e, Option.map_some, Option.getD_some, nuv]
    exact this
theorem open_refs {H : Type} {enc : TypeId × Value → H} {W : World} {fuel : Nat} {a : Option Addr} {len cap : Nat} {x : DataW H × List MemPlace} (h : DataW.trod enc Try.prog W 0 (fun _ => true) true fuel 90 [.slice a len cap] = some x) :
    ∃ l : List Rf, l.length = len ∧ len ≤ cap ∧ (a = none → cap = 0) ∧ cap ≤ 9223372036854775807 ∧ InR W a l ∧ Dgs l ∧ (∀ x ∈ l, InI x.2) ∧ (l = [] ∨ ∃ xs sp, x.1 = .slice xs sp ∧ xs.length = len) := by
  rcases open_slice Try.underlying90 h with ⟨hcs, hx⟩ | ⟨a', len', cap', m, n, D, Pl, hcs, _, hl, hm, hmm, hx, hel⟩
  · simp only [List.cons.injEq, and_true, Value.slice.injEq] at hcs
    obtain ⟨rfl, rfl, rfl⟩ := hcs
    exact ⟨[], rfl, Nat.le_refl _, fun _ => rfl, by omega, .inl rfl, (fun x hx => by simp at hx), (fun x hx => by simp at hx), .inl rfl⟩
  · simp only [List.cons.injEq, and_true, Value.slice.injEq] at hcs
    obtain ⟨rfl, rfl, rfl⟩ := hcs
    have hmc : m = cap := by simpa using hmm
    subst hmc hx
    have each : ∀ i, i < len → ∃ q : Rf, W.cells? 0 (a'.add (i * 33)) 33 = some (rcl q) ∧ q.1.length = 32 ∧ IsBytes q.1 ∧ InI q.2 := by
      intro i hi
      obtain ⟨cs', h1, h2⟩ := hel i (by omega)
      rw [cellsR] at h1
      obtain ⟨q, hq, h3, h4, h5⟩ := open_ref h2
      exact ⟨q, by rw [← hq]; exact h1, h3, h4, h5⟩
    obtain ⟨q, hq⟩ := choose_lt each
    simp only [maxLen] at hm
    refine ⟨(List.range len).map q, by simp, hl, (fun h => by simp at h), by omega, ?_, ?_, ?_, ?_⟩
    · by_cases h0 : len = 0
      · left; subst h0; rfl
      · right
        have hsp : ∀ i, i < len → ∀ k v, (rcl (q i))[k]? = some v → W.cell? (a'.add (i * 33 + k)) = some v := by
          intro i hi k v hv
          obtain ⟨h1, h2, _⟩ := hq i hi
          obtain ⟨_, hlen, hcell⟩ := World.cells?_some h1
          have hk : k < 33 := by
            have := (List.getElem?_eq_some_iff.1 hv).1
            rwa [rcl_len h2] at this
          have e := hcell k (by omega)
          rw [add_add] at e
          rw [e, hv]
        obtain ⟨b, off, spot⟩ := a'
        obtain ⟨v0, hv0⟩ : ∃ v0, (rcl (q 0))[0]? = some v0 := ⟨_, List.getElem?_eq_getElem (by rw [rcl_len (hq 0 (by omega)).2.1]; omega)⟩
        have hc : W.cell? ((⟨b, off, spot⟩ : Addr).add 0) = some v0 := hsp 0 (by omega) 0 _ hv0
        have hspot : spot = none := by simpa [Addr.add] using World.cell?_spot hc
        subst hspot
        rw [Addr.add_mid] at hc
        refine ⟨b, off, rfl, World.block_lt_of_cell? _ _ hc, fun i x hx => ?_⟩
        have hi : i < len := by
          have := (List.getElem?_eq_some_iff.1 hx).1
          simpa using this
        have hxq : x = q i := by simpa [hi] using hx.symm
        subst hxq
        intro k v hv
        have := hsp i hi k v hv
        rw [Addr.add_mid] at this
        rwa [show off + i * 33 + k = off + (i * 33 + k) by omega]
    · intro x hx
      simp only [List.mem_map, List.mem_range] at hx
      obtain ⟨i, hi, rfl⟩ := hx
      exact ⟨(hq i hi).2.1, (hq i hi).2.2.1⟩
    · intro x hx
      simp only [List.mem_map, List.mem_range] at hx
      obtain ⟨i, hi, rfl⟩ := hx
      exact (hq i hi).2.2.2
    · right
      exact ⟨_, _, rfl, by simp⟩
theorem cellsPk : Try.prog.cellsOf 94 = 4 := by kernel_rfl
theorem cellsPks : Try.prog.cellsOf 23 = 1 := by kernel_rfl
theorem list4W {α : Type} {l : List α} (h : l.length = 4) : ∃ v0 v1 v2 v3, l = [v0, v1, v2, v3] := by
  match l, h with
  | [v0, v1, v2, v3], _ => exact ⟨v0, v1, v2, v3, rfl⟩
theorem mem_weightsAllW {H : Type} {P : Program} {t : TypeId} : ∀ {ds : List (DataW H)} {d : DataW H} {q : Nat}, d ∈ ds → q ∈ d.weights P t → q ∈ DataW.weightsAll P t ds
  | d0 :: ds, d, q, hd, hq => by
    simp only [DataW.weightsAll, List.mem_append]
    rcases List.mem_cons.1 hd with rfl | h
    · exact .inl hq
    · exact .inr (mem_weightsAllW h hq)
/-- what is known of a package that came in -/
def PkIn (W : World) (p : Pk) : Prop := PkOk W p ∧ (p.la = none → p.ln = 0 ∧ p.lc = 0) ∧ InI p.o ∧ (∀ x ∈ p.l, InI x.2) ∧ p.ln * 40 ≤ 140737488351232
set_option maxRecDepth 100000 in
theorem open_pack {H : Type} {enc : TypeId × Value → H} {W : World} {fuel : Nat} {cs : List Value} {x : DataW H × List MemPlace} (h : DataW.trod enc Try.prog W 0 (fun _ => true) true fuel 94 cs = some x) (hw : ∀ q ∈ x.1.weights Try.prog 94, q ≤ 140737488351232) :
    ∃ p : Pk, cs = pkl p ∧ PkIn W p := by
  have hu := Try.underlying94
  have hu2 := Try.underlying92
  have hu3 := Try.underlying90
  obtain ⟨y0, y1, n, hxy, hlen, g0, g1⟩ := trod_struct2 Try.underlying94 h
  rw [cellsPk] at hlen
  obtain ⟨c0, c1, c2, c3, rfl⟩ := list4W hlen
  simp [cellsI64, cellsMfW] at g0 g1
  obtain ⟨z0, z1, z2, m, hxz, hlen2, k0, k1, k2⟩ := trod_struct3 Try.underlying92 g1
  simp [cellsStr, cellsRs] at k0 k1 k2
  obtain ⟨po, e0, hy0, b0⟩ := DataW.trod_int Try.underlying3 g0
  obtain ⟨s1, e1, hz0, _⟩ := DataW.trod_string Try.underlying9 k0
  obtain ⟨s2, e2, hz1, _⟩ := DataW.trod_string Try.underlying9 k1
  simp only [List.cons.injEq, and_true] at e0 e1 e2
  subst e0 e1 e2
  obtain ⟨a, len, cap, rfl⟩ : ∃ a len cap, c3 = .slice a len cap := by
    rcases open_slice Try.underlying90 k2 with ⟨h1, _⟩ | ⟨a', len', cap', _, _, _, _, h1, _⟩
    · simp only [List.cons.injEq, and_true] at h1; exact ⟨_, _, _, h1⟩
    · simp only [List.cons.injEq, and_true] at h1; exact ⟨_, _, _, h1⟩
  obtain ⟨l, l1, l2, l3, l4, l5, l6, l7, l8⟩ := open_refs k2
  subst hxy hxz
  have w1 : s1.size ≤ 140737488351232 := hw _ (by simp [DataW.weights, DataW.weightsEach, hu, hu2, hz0])
  have w2 : s2.size ≤ 140737488351232 := hw _ (by simp [DataW.weights, DataW.weightsEach, hu, hu2, hz1])
  have w3 : len * 40 ≤ 140737488351232 := by
    rcases l8 with l8 | ⟨xs, sp, hz2, hxl⟩
    · rw [l8] at l1; simp at l1; omega
    · have := hw ((xs.length + sp.length) * Try.prog.bytesOf 109) (by simp [DataW.weights, DataW.weightsEach, hu, hu2, hu3, hz2])
      rw [bytesR] at this
      omega
  have q1 : tx s1.data.toList = s1 := (tx_mk s1).symm
  have q2 : tx s2.data.toList = s2 := (tx_mk s2).symm
  have r1 : s1.data.toList.length = s1.size := by rw [Array.length_toList]; rfl
  have r2 : s2.data.toList.length = s2.size := by rw [Array.length_toList]; rfl
  refine ⟨⟨po, s1.data.toList, s2.data.toList, l, a, len, cap⟩, by simp [pkl, q1, q2], ⟨l5, l1, l2, ?_, l6, ?_, ?_⟩, fun e => ?_, wf_InI b0, l7, w3⟩
  · simp only; omega
  · simp only; omega
  · simp only; omega
  · have := l3 e; simp only; omega
theorem bytesPk : Try.prog.bytesOf 94 = 64 := by kernel_rfl
theorem open_packs {H : Type} {enc : TypeId × Value → H} {W : World} {fuel : Nat} {v : Value} {x : DataW H × List MemPlace} (h : DataW.trod enc Try.prog W 0 (fun _ => true) true fuel 23 [v] = some x) (hw : ∀ q ∈ x.1.weights Try.prog 23, q ≤ 140737488351232) :
    ∃ a len cap, ∃ L : List Pk, v = .slice a len cap ∧ L.length = len ∧ len ≤ cap ∧ (a = none → len = 0 ∧ cap = 0) ∧ InPk W a L ∧ (∀ p ∈ L, PkIn W p) ∧ len ≤ 140737488351232 := by
  rcases open_slice Try.underlying23 h with ⟨hcs, hx⟩ | ⟨a', len, cap, m, n, D, Pl, hcs, _, hl, hm, hmm, hx, hel⟩
  · simp only [List.cons.injEq, and_true] at hcs
    exact ⟨none, 0, 0, [], hcs, rfl, Nat.le_refl _, fun _ => ⟨rfl, rfl⟩, .inl rfl, (fun p hp => by simp at hp), by omega⟩
  · simp only [List.cons.injEq, and_true] at hcs
    have hmc : m = cap := by simpa using hmm
    subst hmc hx
    have hwi : ∀ i, i < len → ∀ q ∈ (D i).weights Try.prog 94, q ≤ 140737488351232 := fun i hi q hq => hw q (by
      simp only [DataW.weights, Try.underlying23]
      refine List.mem_cons_of_mem _ (List.mem_append_left _ (mem_weightsAllW (d := D i) ?_ hq))
      exact List.mem_map.2 ⟨i, List.mem_range.2 hi, rfl⟩)
    have hlw : len ≤ 140737488351232 := by
      have := hw ((((List.range len).map D).length + ((List.range (m - len)).map fun j => D (len + j)).length) * Try.prog.bytesOf 94) (by simp only [DataW.weights, Try.underlying23, List.mem_cons]; exact Or.inl trivial)
      rw [bytesPk, List.length_map, List.length_range] at this
      omega
    have each : ∀ i, i < len → ∃ p : Pk, (W.cell? (a'.add (i * 4)) = some (.int .i64 p.o) ∧ W.cell? (a'.add (i * 4 + 1)) = some (.string (tx p.n)) ∧ W.cell? (a'.add (i * 4 + 2)) = some (.string (tx p.v)) ∧ W.cell? (a'.add (i * 4 + 3)) = some (.slice p.la p.ln p.lc)) ∧ PkIn W p := by
      intro i hi
      obtain ⟨cs', h1, h2⟩ := hel i (by omega)
      rw [cellsPk] at h1
      obtain ⟨v, rfl, hv⟩ := open_pack h2 (hwi i hi)
      obtain ⟨_, hlen, hcell⟩ := World.cells?_some h1
      have e0 := hcell 0 (by omega)
      have e1 := hcell 1 (by omega)
      have e2 := hcell 2 (by omega)
      have e3 := hcell 3 (by omega)
      rw [add_add] at e0 e1 e2 e3
      exact ⟨v, ⟨by simpa [pkl] using e0, by simpa [pkl] using e1, by simpa [pkl] using e2, by simpa [pkl] using e3⟩, hv⟩
    letI : Inhabited Pk := ⟨⟨0, [], [], [], none, 0, 0⟩⟩
    obtain ⟨q, hq⟩ := choose_lt each
    refine ⟨some a', len, m, (List.range len).map q, hcs, by simp, hl, (fun e => by cases e), ?_, ?_, hlw⟩
    · by_cases h0 : len = 0
      · left; subst h0; rfl
      · right
        obtain ⟨b, off, spot⟩ := a'
        have hc := (hq 0 (by omega)).1.1
        have hspot : spot = none := by simpa [Addr.add] using World.cell?_spot hc
        subst hspot
        rw [add_plain] at hc
        refine ⟨b, off, rfl, World.block_lt_of_cell? _ _ hc, fun i x hx => ?_⟩
        have hi : i < len := by
          have := (List.getElem?_eq_some_iff.1 hx).1
          simpa using this
        have hxq : x = q i := by simpa [hi] using hx.symm
        subst hxq
        have := (hq i hi).1
        rw [add_plain, add_plain, add_plain, add_plain] at this
        exact ⟨this, (hq i hi).2.1⟩
    · intro p hp
      simp only [List.mem_map, List.mem_range] at hp
      obtain ⟨i, hi, rfl⟩ := hp
      exact (hq i hi).2
end Go.Proofs.Ythaeidbnbgghkaa
namespace Go.Proofs.Ythaeidbnbgghkaa
open Go.ChangeShapes Go.WideShapes Go.ChangeAt Go.RowKit Go.Deep Go.Maps
set_option linter.unusedVariables false
set_option linter.unusedSimpArgs false
set_option maxRecDepth 100000 in
theorem cellsMsg : Try.prog.cellsOf 25 = 6 := by kernel_rfl
set_option maxRecDepth 100000 in
theorem cellsBl : Try.prog.cellsOf 4 = 1 := by kernel_rfl
set_option maxRecDepth 100000 in
theorem list6W {α : Type} {l : List α} (h : l.length = 6) : ∃ v0 v1 v2 v3 v4 v5, l = [v0, v1, v2, v3, v4, v5] := by
  match l, h with
  | [v0, v1, v2, v3, v4, v5], _ => exact ⟨v0, v1, v2, v3, v4, v5, rfl⟩
def MsIn (W : World) (m0 m1 m2 m3 : Int) (a : Option Addr) (n c : Nat) (L : List Pk) : Prop := (InI m0 ∧ InI m1 ∧ InI m2 ∧ InI m3) ∧ L.length = n ∧ n ≤ c ∧ (a = none → n = 0 ∧ c = 0) ∧ InPk W a L ∧ (∀ p ∈ L, PkIn W p) ∧ n ≤ 140737488351232
set_option maxRecDepth 100000 in
theorem open_msg {H : Type} {enc : TypeId × Value → H} {W : World} {fuel : Nat} {cs : List Value} {x : DataW H × List MemPlace} (h : DataW.trod enc Try.prog W 0 (fun _ => true) true fuel 25 cs = some x) (hw : ∀ q ∈ x.1.weights Try.prog 25, q ≤ 140737488351232) :
    ∃ m0 m1 m2 m3 m4 a n c L, cs = [.int .i64 m0, .int .i64 m1, .int .i64 m2, .int .i64 m3, .bool m4, .slice a n c] ∧ MsIn W m0 m1 m2 m3 a n c L := by
  obtain ⟨xs, m, hx1, rfl, hl, hlen, hf⟩ := DataW.trod_struct Try.underlying25 h
  rw [cellsMsg] at hl
  obtain ⟨v0, v1, v2, v3, v4, v5, rfl⟩ := list6W hl
  obtain ⟨y0, y1, y2, y3, y4, y5, rfl⟩ := list6W hlen
  have g0 := hf 0 _ rfl
  have g1 := hf 1 _ rfl
  have g2 := hf 2 _ rfl
  have g3 := hf 3 _ rfl
  have g4 := hf 4 _ rfl
  have g5 := hf 5 _ rfl
  simp [cellsI64, cellsBl, cellsPks] at g0 g1 g2 g3 g4 g5
  obtain ⟨m0, e0, _, b0⟩ := DataW.trod_int Try.underlying3 g0
  obtain ⟨m1, e1, _, b1⟩ := DataW.trod_int Try.underlying3 g1
  obtain ⟨m2, e2, _, b2⟩ := DataW.trod_int Try.underlying3 g2
  obtain ⟨m3, e3, _, b3⟩ := DataW.trod_int Try.underlying3 g3
  obtain ⟨m4, e4, _⟩ := DataW.trod_bool Try.underlying4 g4
  simp only [List.cons.injEq, and_true] at e0 e1 e2 e3 e4
  subst e0 e1 e2 e3 e4
  obtain ⟨a, n, c, L, rfl, h1, h2, h3, h4, h5, h6⟩ := open_packs g5 (fun q hq => hw q (by
    simp only [DataW.weights, Try.underlying25]
    exact DataW.weights_mem_each (j := 5) (t := 23) (d := y5.1) rfl rfl _ hq))
  exact ⟨m0, m1, m2, m3, m4, a, n, c, L, rfl, ⟨wf_InI b0, wf_InI b1, wf_InI b2, wf_InI b3⟩, h1, h2, h3, h4, h5, h6⟩
def PksIn (W : World) (a : Option Addr) (n c : Nat) (L : List Pk) : Prop := L.length = n ∧ n ≤ c ∧ InPk W a L ∧ ∀ p ∈ L, p.la = none → p.ln = 0 ∧ p.lc = 0
set_option maxRecDepth 100000 in
theorem PksIn.keep {W W' : World} {a : Option Addr} {n c : Nat} {L : List Pk} (h : PksIn W a n c L) (hb : Below W.heap.size W W') : PksIn W' a n c L := ⟨h.1, h.2.1, h.2.2.1.keep hb, h.2.2.2⟩
structure Vr where
  r : Int
  a : Option Addr
  n : Nat
  c : Nat
  M : List Pk
def VrOk (W : World) (x : Vr) : Prop := PksIn W x.a x.n x.c x.M
set_option maxRecDepth 100000 in
theorem VrOk.keep {W W' : World} {x : Vr} (h : VrOk W x) (hb : Below W.heap.size W W') : VrOk W' x := PksIn.keep h hb
def vrl (x : Vr) : List Value := [.int .i64 x.r, .slice x.a x.n x.c]
def InVr (w : World) (a : Option Addr) (l : List Vr) : Prop := l = [] ∨ ∃ b off, a = some ⟨b, off, none⟩ ∧ b < w.heap.size ∧ ∀ i x, l[i]? = some x → (∀ k v, (vrl x)[k]? = some v → w.cell? ⟨b, off + i * 2 + k, none⟩ = some v) ∧ VrOk w x
set_option maxRecDepth 100000 in
theorem InVr.keep {w w' : World} {a : Option Addr} {l : List Vr} (h : InVr w a l) (hb : Below w.heap.size w w') : InVr w' a l := by
  rcases h with h | ⟨b, off, h1, h2, h3⟩
  · exact .inl h
  · exact .inr ⟨b, off, h1, Nat.lt_of_lt_of_le h2 hb.size, fun i x hx => ⟨fun k v hv => (World.cell?_of_block (a := ⟨b, off + i * 2 + k, none⟩) (hb.block b h2)).trans ((h3 i x hx).1 k v hv), (h3 i x hx).2.keep hb⟩⟩
set_option maxRecDepth 100000 in
theorem InVr.at {w : World} {a : Option Addr} {l : List Vr} (h : InVr w a l) {i : Nat} {x : Vr} (hx : l[i]? = some x) : ∃ b off, a = some ⟨b, off, none⟩ ∧ b < w.heap.size ∧ (∀ W, Below w.heap.size w W → ∀ k v, (vrl x)[k]? = some v → W.cell? ⟨b, off + i * 2 + k, none⟩ = some v) ∧ VrOk w x := by
  rcases h with h | ⟨b, off, e, h1, h2⟩
  · rw [h] at hx; cases hx
  · exact ⟨b, off, e, h1, fun W hW k v hv => (World.cell?_of_block (a := ⟨b, off + i * 2 + k, none⟩) (hW.block b h1)).trans ((h2 i x hx).1 k v hv), (h2 i x hx).2⟩
set_option maxRecDepth 100000 in
theorem InVr.take {w : World} {a : Option Addr} {l : List Vr} (h : InVr w a l) (k : Nat) : InVr w a (l.take k) := by
  rcases h with h | ⟨b, off, e, h1, h2⟩
  · rw [h]; exact .inl (by simp)
  · exact .inr ⟨b, off, e, h1, fun i x hx => h2 i x (by rw [List.getElem?_take] at hx; split at hx <;> simp_all)⟩
def VrsIn (W : World) (a : Option Addr) (n c : Nat) (L : List Vr) : Prop := L.length = n ∧ n ≤ c ∧ InVr W a L
set_option maxRecDepth 100000 in
theorem open_packsR {H : Type} {enc : TypeId × Value → H} {W : World} {fuel : Nat} {a : Option Addr} {n c : Nat} {x : DataW H × List MemPlace} (h : DataW.trod enc Try.prog W 0 (fun _ => true) true fuel 23 [.slice a n c] = some x) (hw : ∀ q ∈ x.1.weights Try.prog 23, q ≤ 140737488351232) :
    ∃ a' n' c', ∃ L : List Pk, Value.slice a n c = .slice a' n' c' ∧ PksIn W a' n' c' L := by
  obtain ⟨a', n', c', L, h1, h2, h3, _, h5, h6, _⟩ := open_packs h hw
  exact ⟨a', n', c', L, h1, h2, h3, h5, fun p hp => (h6 p hp).2.1⟩
set_option maxRecDepth 100000 in
theorem cellsVr : Try.prog.cellsOf 61 = 2 := by kernel_rfl
set_option maxRecDepth 100000 in
theorem cellsPks2 : Try.prog.cellsOf 23 = 1 := by kernel_rfl
set_option maxRecDepth 100000 in
theorem open_plan {H : Type} {enc : TypeId × Value → H} {W : World} {fuel : Nat} {cs : List Value} {x : DataW H × List MemPlace} (h : DataW.trod enc Try.prog W 0 (fun _ => true) true fuel 61 cs = some x) (hw : ∀ q ∈ x.1.weights Try.prog 61, q ≤ 140737488351232) :
    ∃ p : Vr, cs = vrl p ∧ VrOk W p := by
  obtain ⟨xs, m, hx1, rfl, hl, hlen, hf⟩ := DataW.trod_struct Try.underlying61 h
  rw [cellsVr] at hl
  obtain ⟨v0, v1, rfl⟩ : ∃ v0 v1, cs = [v0, v1] := by
    match cs, hl with
    | [v0, v1], _ => exact ⟨v0, v1, rfl⟩
  obtain ⟨y0, y1, rfl⟩ : ∃ v0 v1, xs = [v0, v1] := by
    clear hf
    match xs, hlen with
    | [v0, v1], _ => exact ⟨v0, v1, rfl⟩
  have g0 := hf 0 _ rfl
  have g1 := hf 1 _ rfl
  simp [cellsI64, cellsPks2] at g0 g1
  obtain ⟨m0, e0, _, b0⟩ := DataW.trod_int Try.underlying3 g0
  simp only [List.cons.injEq, and_true] at e0
  subst e0
  obtain ⟨a', n', c', L, h1, h2, h3, _, h5, h6, _⟩ := open_packs g1 (fun q hq => hw q (by
    simp only [DataW.weights, Try.underlying61]
    exact DataW.weights_mem_each (j := 1) (t := 23) (d := y1.1) rfl rfl _ hq))
  subst h1
  exact ⟨⟨m0, a', n', c', L⟩, rfl, h2, h3, h5, fun p hp => (h6 p hp).2.1⟩
theorem bytesVr : Try.prog.bytesOf 61 = 32 := by kernel_rfl
set_option maxRecDepth 100000 in
theorem open_plans {H : Type} {enc : TypeId × Value → H} {W : World} {fuel : Nat} {a : Option Addr} {n c : Nat} {x : DataW H × List MemPlace} (h : DataW.trod enc Try.prog W 0 (fun _ => true) true fuel 22 [.slice a n c] = some x) (hw : ∀ q ∈ x.1.weights Try.prog 22, q ≤ 140737488351232) :
    ∃ a' n' c', ∃ L : List Vr, Value.slice a n c = .slice a' n' c' ∧ VrsIn W a' n' c' L ∧ n' ≤ 4398046511104 ∧ (a' = none → n' = 0 ∧ c' = 0) := by
  rcases open_slice Try.underlying22 h with ⟨hcs, hx⟩ | ⟨a', len, cap, m, n2, D, Pl, hcs, _, hl, hm, hmm, hx, hel⟩
  · simp only [List.cons.injEq, and_true] at hcs
    exact ⟨none, 0, 0, [], hcs, ⟨rfl, Nat.le_refl _, .inl rfl⟩, by omega, fun _ => ⟨rfl, rfl⟩⟩
  · simp only [List.cons.injEq, and_true] at hcs
    have hmc : m = cap := by simpa using hmm
    subst hmc hx
    have hwi : ∀ i, i < len → ∀ q ∈ (D i).weights Try.prog 61, q ≤ 140737488351232 := fun i hi q hq => hw q (by
      simp only [DataW.weights, Try.underlying22]
      refine List.mem_cons_of_mem _ (List.mem_append_left _ (mem_weightsAllW (d := D i) ?_ hq))
      exact List.mem_map.2 ⟨i, List.mem_range.2 hi, rfl⟩)
    have hlw : len ≤ 4398046511104 := by
      have := hw ((((List.range len).map D).length + ((List.range (m - len)).map fun j => D (len + j)).length) * Try.prog.bytesOf 61) (by simp only [DataW.weights, Try.underlying22, List.mem_cons]; exact Or.inl trivial)
      rw [bytesVr, List.length_map, List.length_range] at this
      omega
    have each : ∀ i, i < len → ∃ p : Vr, (∀ k v, (vrl p)[k]? = some v → W.cell? (a'.add (i * 2 + k)) = some v) ∧ VrOk W p := by
      intro i hi
      obtain ⟨cs', h1, h2⟩ := hel i (by omega)
      rw [cellsVr] at h1
      obtain ⟨_, hlen1, hcell⟩ := World.cells?_some h1
      obtain ⟨v, rfl, hv⟩ := open_plan h2 (hwi i hi)
      refine ⟨v, fun k u hu => ?_, hv⟩
      have hk : k < 2 := by
        have := (List.getElem?_eq_some_iff.1 hu).1
        simpa [vrl] using this
      have e := hcell k (by omega)
      rw [add_add] at e
      rw [e, hu]
    letI : Inhabited Vr := ⟨⟨0, none, 0, 0, []⟩⟩
    obtain ⟨q, hq⟩ := choose_lt each
    refine ⟨some a', len, m, (List.range len).map q, hcs, ⟨by simp, hl, ?_⟩, hlw, fun e => by cases e⟩
    by_cases h0 : len = 0
    · left; subst h0; rfl
    · right
      obtain ⟨b, off, spot⟩ := a'
      have hc := (hq 0 (by omega)).1 0 _ rfl
      have hspot : spot = none := by simpa [Addr.add] using World.cell?_spot hc
      subst hspot
      rw [add_plain] at hc
      refine ⟨b, off, rfl, World.block_lt_of_cell? _ _ hc, fun i x hx => ?_⟩
      have hi : i < len := by
        have := (List.getElem?_eq_some_iff.1 hx).1
        simpa using this
      have hxq : x = q i := by simpa [hi] using hx.symm
      subst hxq
      refine ⟨fun k v hv => ?_, (hq i hi).2⟩
      have := (hq i hi).1 k v hv
      rw [add_plain] at this
      rw [Nat.add_assoc]
      exact this
theorem cellsAc : Try.prog.cellsOf 27 = 9 := by kernel_rfl
theorem bytesAc : Try.prog.bytesOf 27 = 104 := by kernel_rfl
theorem cellsVrs : Try.prog.cellsOf 22 = 1 := by kernel_rfl
theorem list9A {α : Type} {l : List α} (h : l.length = 9) : ∃ v0 v1 v2 v3 v4 v5 v6 v7 v8, l = [v0, v1, v2, v3, v4, v5, v6, v7, v8] := by
  match l, h with
  | [v0, v1, v2, v3, v4, v5, v6, v7, v8], _ => exact ⟨v0, v1, v2, v3, v4, v5, v6, v7, v8, rfl⟩
theorem list4A {α : Type} {l : List α} (h : l.length = 4) : ∃ v0 v1 v2 v3, l = [v0, v1, v2, v3] := by
  match l, h with
  | [v0, v1, v2, v3], _ => exact ⟨v0, v1, v2, v3, rfl⟩
/-- a call -/
structure Ac where
  k : Int
  x : Int
  pa : Option Addr
  pn : Nat
  pc : Nat
  P : List Vr
  m0 : Int
  m1 : Int
  m2 : Int
  m3 : Int
  m4 : Bool
  a : Option Addr
  n : Nat
  c : Nat
  L : List Pk
def Ac.cells (v : Ac) : Array Value := #[.int .i64 v.k, .int .i64 v.x, .slice v.pa v.pn v.pc, .int .i64 v.m0, .int .i64 v.m1, .int .i64 v.m2, .int .i64 v.m3, .bool v.m4, .slice v.a v.n v.c]
structure Ac.ok (W : World) (v : Ac) : Prop where
  ik : InI v.k
  ix : InI v.x
  pl : VrsIn W v.pa v.pn v.pc v.P
  pb : v.pn ≤ 4398046511104
  pz : v.pa = none → v.pn = 0 ∧ v.pc = 0
  ms : MsIn W v.m0 v.m1 v.m2 v.m3 v.a v.n v.c v.L
  c9 : v.c ≤ 9223372036854775807
theorem PkIn.keep {W W' : World} {p : Pk} (h : PkIn W p) (hb : Below W.heap.size W W') : PkIn W' p := ⟨h.1.keep hb, h.2⟩
theorem MsIn.keep {W W' : World} {m0 m1 m2 m3 : Int} {a : Option Addr} {n c : Nat} {L : List Pk} (h : MsIn W m0 m1 m2 m3 a n c L) (hb : Below W.heap.size W W') : MsIn W' m0 m1 m2 m3 a n c L := by
  obtain ⟨h1, h2, h3, h4, h5, h6, h7⟩ := h
  exact ⟨h1, h2, h3, h4, h5.keep hb, fun p hp => (h6 p hp).keep hb, h7⟩
theorem VrsIn.keep {W W' : World} {a : Option Addr} {n c : Nat} {L : List Vr} (h : VrsIn W a n c L) (hb : Below W.heap.size W W') : VrsIn W' a n c L := ⟨h.1, h.2.1, h.2.2.keep hb⟩
theorem Ac.ok.keep {W W' : World} {v : Ac} (h : v.ok W) (hb : Below W.heap.size W W') : v.ok W' := ⟨h.ik, h.ix, h.pl.keep hb, h.pb, h.pz, h.ms.keep hb, h.c9⟩
def vrRl (x : Vr) : Rl := ⟨x.r, x.a, x.n, x.c⟩
theorem InVr.rl {W : World} {a : Option Addr} {l : List Vr} (h : InVr W a l) : InRl W a (l.map vrRl) := by
  rcases h with rfl | ⟨b, off, h1, h2, h3⟩
  · exact .inl rfl
  · refine .inr ⟨b, off, h1, h2, fun i x hx => ?_⟩
    rw [List.getElem?_map] at hx
    cases hy : l[i]? with
    | none => rw [hy] at hx; cases hx
    | some y =>
      rw [hy] at hx
      cases hx
      have h4 := (h3 i y hy).1
      exact ⟨h4 0 _ rfl, h4 1 _ rfl⟩
theorem cap_packs {H : Type} {enc : TypeId × Value → H} {W : World} {fuel : Nat} {a : Option Addr} {n c : Nat} {x : DataW H × List MemPlace} (h : DataW.trod enc Try.prog W 0 (fun _ => true) true fuel 23 [.slice a n c] = some x) : c ≤ 9223372036854775807 := by
  rcases open_slice Try.underlying23 h with ⟨hcs, hx⟩ | ⟨a', len', cap', m, n2, D, Pl, hcs, _, hl, hm, hmm, hx, hel⟩
  · simp only [List.cons.injEq, and_true, Value.slice.injEq] at hcs
    obtain ⟨rfl, rfl, rfl⟩ := hcs
    omega
  · simp only [List.cons.injEq, and_true, Value.slice.injEq] at hcs
    obtain ⟨rfl, rfl, rfl⟩ := hcs
    simp only [maxLen] at hm
    omega
set_option maxRecDepth 100000 in
theorem open_msg9 {H : Type} {enc : TypeId × Value → H} {W : World} {fuel : Nat} {cs : List Value} {x : DataW H × List MemPlace} (h : DataW.trod enc Try.prog W 0 (fun _ => true) true fuel 25 cs = some x) (hw : ∀ q ∈ x.1.weights Try.prog 25, q ≤ 140737488351232) :
    ∃ m0 m1 m2 m3 m4 a n c L, cs = [.int .i64 m0, .int .i64 m1, .int .i64 m2, .int .i64 m3, .bool m4, .slice a n c] ∧ MsIn W m0 m1 m2 m3 a n c L ∧ c ≤ 9223372036854775807 := by
  obtain ⟨m0, m1, m2, m3, m4, a, n, c, L, rfl, hm⟩ := open_msg h hw
  refine ⟨m0, m1, m2, m3, m4, a, n, c, L, rfl, hm, ?_⟩
  obtain ⟨xs, m, hx1, rfl, hl, hlen, hf⟩ := DataW.trod_struct Try.underlying25 h
  obtain ⟨y0, y1, y2, y3, y4, y5, rfl⟩ := list6W hlen
  have g5 := hf 5 _ rfl
  simp [cellsI64, cellsBl, cellsPks] at g5
  exact cap_packs g5
set_option maxRecDepth 100000 in
theorem open_ac {H : Type} {enc : TypeId × Value → H} {W : World} {fuel : Nat} {cs : List Value} {x : DataW H × List MemPlace} (h : DataW.trod enc Try.prog W 0 (fun _ => true) true fuel 27 cs = some x) (hw : ∀ q ∈ x.1.weights Try.prog 27, q ≤ 140737488351232) :
    ∃ v : Ac, cs = v.cells.toList ∧ v.ok W := by
  obtain ⟨xs, m, hx1, rfl, hl, hlen, hf⟩ := DataW.trod_struct Try.underlying27 h
  rw [cellsAc] at hl
  obtain ⟨v0, v1, v2, v3, v4, v5, v6, v7, v8, rfl⟩ := list9A hl
  obtain ⟨y0, y1, y2, y3, rfl⟩ := list4A hlen
  have g0 := hf 0 _ rfl
  have g1 := hf 1 _ rfl
  have g2 := hf 2 _ rfl
  have g3 := hf 3 _ rfl
  simp [cellsI64, cellsVrs, cellsMsg] at g0 g1 g2 g3
  obtain ⟨x0, e0, _, b0⟩ := DataW.trod_int Try.underlying3 g0
  obtain ⟨x1, e1, _, b1⟩ := DataW.trod_int Try.underlying3 g1
  simp only [List.cons.injEq, and_true] at e0 e1
  subst e0 e1
  obtain ⟨a, len, cap, rfl⟩ : ∃ a len cap, v2 = .slice a len cap := by
    rcases open_slice Try.underlying22 g2 with ⟨h1, _⟩ | ⟨a', len', cap', _, _, _, _, h1, _⟩
    · simp only [List.cons.injEq, and_true] at h1; exact ⟨_, _, _, h1⟩
    · simp only [List.cons.injEq, and_true] at h1; exact ⟨_, _, _, h1⟩
  obtain ⟨pa, pn, pc, P, e2, p1, p2, p3⟩ := open_plans g2 (fun q hq => hw q (by
    simp only [DataW.weights, Try.underlying27]
    exact DataW.weights_mem_each (j := 2) (t := 22) (d := y2.1) rfl rfl _ hq))
  obtain ⟨m0, m1, m2, m3, m4, a2, n2, c2, L, e3, hm⟩ := open_msg9 g3 (fun q hq => hw q (by
    simp only [DataW.weights, Try.underlying27]
    exact DataW.weights_mem_each (j := 3) (t := 25) (d := y3.1) rfl rfl _ hq))
  simp only [List.cons.injEq, and_true] at e3
  obtain ⟨rfl, rfl, rfl, rfl, rfl, rfl⟩ := e3
  rw [e2]
  exact ⟨⟨x0, x1, pa, pn, pc, P, m0, m1, m2, m3, m4, a2, n2, c2, L⟩, rfl, ⟨wf_InI b0, wf_InI b1, p1, p2, p3, hm.1, hm.2⟩⟩
/-- a slice of calls that came in -/
def InAc (w : World) (a : Option Addr) (len : Nat) (A : Nat → Ac) : Prop :=
  (0 < len → ∃ b off, a = some ⟨b, off, none⟩ ∧ b < w.heap.size ∧ ∀ i, i < len → ∀ k v, (A i).cells.toList[k]? = some v → w.cell? ⟨b, off + i * 9 + k, none⟩ = some v) ∧ (∀ i, i < len → (A i).ok w) ∧ len ≤ 1353245080301
theorem InAc.keep {w w' : World} {a : Option Addr} {len : Nat} {A : Nat → Ac} (h : InAc w a len A) (hb : Below w.heap.size w w') : InAc w' a len A := by
  refine ⟨fun h0 => ?_, fun i hi => (h.2.1 i hi).keep hb, h.2.2⟩
  obtain ⟨b, off, ha, hlt, hc⟩ := h.1 h0
  exact ⟨b, off, ha, Nat.lt_of_lt_of_le hlt hb.size, fun i hi k v hv => (hb.cell (p := ⟨b, off + i * 9 + k, none⟩) hlt).trans (hc i hi k v hv)⟩
theorem open_acs {H : Type} {enc : TypeId × Value → H} {W : World} {fuel : Nat} {a : Option Addr} {len cap : Nat} {x : DataW H × List MemPlace} (h : DataW.trod enc Try.prog W 0 (fun _ => true) true fuel 53 [.slice a len cap] = some x) (hw : ∀ q ∈ x.1.weights Try.prog 53, q ≤ 140737488351232) :
    ∃ A, InAc W a len A := by
  rcases open_slice Try.underlying53 h with ⟨hcs, hx⟩ | ⟨a', len', cap', m, n, D, Pl, hcs, _, hl, hm, hmm, hx, hel⟩
  · simp only [List.cons.injEq, and_true, Value.slice.injEq] at hcs
    obtain ⟨rfl, rfl, rfl⟩ := hcs
    exact ⟨fun _ => ⟨0, 0, none, 0, 0, [], 0, 0, 0, 0, false, none, 0, 0, []⟩, (fun h => by omega), (fun i hi => by omega), by omega⟩
  · simp only [List.cons.injEq, and_true, Value.slice.injEq] at hcs
    obtain ⟨rfl, rfl, rfl⟩ := hcs
    have hmc : m = cap := by simpa using hmm
    subst hmc hx
    have hwi : ∀ i, i < len → ∀ q ∈ (D i).weights Try.prog 27, q ≤ 140737488351232 := fun i hi q hq => hw q (by
      simp only [DataW.weights, Try.underlying53]
      refine List.mem_cons_of_mem _ (List.mem_append_left _ (mem_weightsAllW (d := D i) ?_ hq))
      exact List.mem_map.2 ⟨i, List.mem_range.2 hi, rfl⟩)
    have hlw : len ≤ 1353245080301 := by
      have := hw ((((List.range len).map D).length + ((List.range (m - len)).map fun j => D (len + j)).length) * Try.prog.bytesOf 27) (by simp only [DataW.weights, Try.underlying53, List.mem_cons]; exact Or.inl trivial)
      rw [bytesAc, List.length_map, List.length_range] at this
      omega
    have each : ∀ i, i < len → ∃ v : Ac, (∀ k u, v.cells.toList[k]? = some u → W.cell? (a'.add (i * 9 + k)) = some u) ∧ v.ok W := by
      intro i hi
      obtain ⟨cs', h1, h2⟩ := hel i (by omega)
      rw [cellsAc] at h1
      obtain ⟨v, rfl, hv⟩ := open_ac h2 (hwi i hi)
      obtain ⟨_, hlen, hcell⟩ := World.cells?_some h1
      refine ⟨v, fun k u hu => ?_, hv⟩
      have hk : k < 9 := by
        have := (List.getElem?_eq_some_iff.1 hu).1
        simpa [Ac.cells] using this
      have e := hcell k (by omega)
      rw [add_add] at e
      rw [e, hu]
    letI : Inhabited Ac := ⟨⟨0, 0, none, 0, 0, [], 0, 0, 0, 0, false, none, 0, 0, []⟩⟩
    obtain ⟨q, hq⟩ := choose_lt each
    refine ⟨q, fun h0 => ?_, fun i hi => (hq i hi).2, hlw⟩
    obtain ⟨b, off, spot⟩ := a'
    have hc := (hq 0 h0).1 0 _ rfl
    have hspot : spot = none := by simpa [Addr.add] using World.cell?_spot hc
    subst hspot
    rw [add_plain] at hc
    refine ⟨b, off, rfl, World.block_lt_of_cell? _ _ hc, fun i hi k v hv => ?_⟩
    have := (hq i hi).1 k v hv
    rw [add_plain] at this
    rw [Nat.add_assoc]
    exact this
end Go.Proofs.Ythaeidbnbgghkaa
