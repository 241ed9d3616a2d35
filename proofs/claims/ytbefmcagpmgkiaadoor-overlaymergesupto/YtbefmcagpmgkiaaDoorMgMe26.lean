/- OverlayMerges' walk. A slice of entries that came in, opened; how great its texts may be. A stack that came in, opened. A stack that came in, opened, with the bulk of its texts. -/
import Derived.Test.YtbefmcagpmgkiaaDoorMgMe12
import Derived.Test.YtbefmcagpmgkiaaDoorMgMe25
import Derived.Test.YtbefmcagpmgkiaaDoorMgMe6
import Derived.Deep.Slices
import Derived.Lib.SmallJoins
import Derived.ChangeSame
import Derived.SizedLaws
import Derived.Test.YtbefmcagpmgkiaaDoorMgMe9
namespace Go.Proofs.YtbefmcagpmgkiaaDoor
open Go.ChangeShapes Go.WideShapes Go.ChangeAt Go.RowKit Go.Deep Go.Maps
set_option linter.unusedVariables false
theorem InS.get {w : World} {a : Option Addr} {st : List (List En)} (h : InS w a st) {j : Nat} {l : List En} (hl : st[j]? = some l) : ∃ b off, a = some ⟨b, off, none⟩ ∧ b < w.heap.size ∧ ∃ a' c', w.cell? ⟨b, off + j, none⟩ = some (.slice a' l.length c') ∧ InE w a' l := by
  rcases h with e | ⟨b, off, h1, h2, h3⟩
  · rw [e] at hl; simp at hl
  · obtain ⟨a', c', e1, e2, _⟩ := h3 j l hl
    exact ⟨b, off, h1, h2, a', c', e1, e2⟩
set_option maxRecDepth 100000 in
set_option maxHeartbeats 8000000 in
theorem overlayMerges_walk (a : Option Addr) (n c : Nat) (st : List (List En)) (w : World) (hn : st.length = n) (hn62 : n ≤ 4611686018427387904) (hs : InS w a st) (hB : ∀ l ∈ st, ∀ x ∈ l, x.p.length ≤ 1048576 ∧ x.b.length ≤ 1048576) :
    Calls Tryd.prog 3 #[.slice a n c] w fun e w' => e = .returned (.bool true) ∧ Below w.heap.size w w' := by
  have KF : Hid (Calls Tryd.prog 9 #[.slice a n c] w fun e w' => e = .returned (.bool (fewB st)) ∧ Below w.heap.size w w') := few_is st n hn a c hn62 w hs
  have KW : Hid (∀ w, Calls Tryd.prog 10 #[] w fun e w' => e = .returned (.bool true) ∧ Below w.heap.size w w') := works_is
  cases hf : fewB st with
  | false =>
    rw [hf] at KF
    go_enter Tryd.func3, Tryd.ntmps3
    go_wp2_with fail
    refine KF.out.mono ?_
    rintro e w1 ⟨rfl, hb1⟩
    have B1 : Hid (Below w.heap.size w w1) := hb1
    clear hb1
    go_wp2_with fail
    refine (KW.out _).mono ?_
    rintro e wz ⟨rfl, hbz⟩
    have Bz : Hid (Below w.heap.size w wz) := B1.out.trans (hbz.mono B1.out.size)
    clear hbz
    go_wp2_with fail
    go_ret
    exact ⟨rfl, Bz.out⟩
  | true =>
    rw [hf] at KF
    have h20 := hf
    unfold fewB at h20
    rw [Bool.and_eq_true, decide_eq_true_iff, List.all_eq_true] at h20
    have H70 : Hid (∀ l ∈ st, l.length ≤ 70) := fun l hl => by simpa using h20.2 l hl
    have hn20 : n ≤ 20 := by have := h20.1; omega
    have HS : Hid (InS w a st) := hs
    have HN : Hid (st.length = n) := hn
    have KO : Hid (∀ W, Below w.heap.size w W → Calls Tryd.prog 11 #[.slice a n c] W fun e w' => ∃ v, e = .returned v ∧ Stk w' W.heap.size v st ∧ Below W.heap.size W w') := fun W hb => own_is st n hn a c hn20 H70.out W (hs.keep hb)
    have KR : Hid (∀ W, Below w.heap.size w W → Calls Tryd.prog 13 #[.slice a n c] W fun e w' => ∃ a' c' l, e = .returned (.tuple #[.slice a' l.length c', .int .i64 (mE st)]) ∧ InE w' a' l ∧ (mE st = 0 → Lst (mg st) l) ∧ (mE st ≠ 0 → l = []) ∧ l.length ≤ 1000000 ∧ Below W.heap.size W w') := fun W hb => rmerge_is st n hn a c (by omega) (fun l hl => Nat.le_trans (H70.out l hl) (by omega)) hB W (hs.keep hb)
    clear hf h20 hs hn hB hn62
    go_enter Tryd.func3, Tryd.ntmps3
    go_wp2_with fail
    refine KF.out.mono ?_
    rintro e w0 ⟨rfl, hb0⟩
    have B0 : Hid (Below w.heap.size w w0) := hb0
    clear hb0 KF
    go_wp2_with fail
    refine (KO.out w0 B0.out).mono ?_
    rintro e w1 ⟨v1, rfl, hs1, hb1⟩
    obtain ⟨ai, ci, hv1, hi1⟩ := hs1.slice
    rw [HN.out] at hv1
    subst hv1
    have S1 : Hid (InS w1 ai st) := hi1
    have B1 : Hid (Below w.heap.size w w1) := B0.out.trans (hb1.mono B0.out.size)
    clear hs1 hb1 hi1 KO B0
    go_wp2_with fail
    refine (merge_any st n HN.out ai ci (by omega) w1 S1.out).mono ?_
    rintro e w2 ⟨xa, xc, lx, rfl, hxi, hxl, hxe, hxn, hxb⟩
    have B2 : Hid (Below w.heap.size w w2) := B1.out.trans (hxb.mono B1.out.size)
    have D2 : Hid (Below w1.heap.size w1 w2) := hxb
    have X2 : Hid (InE w2 xa lx) := hxi
    have XL : Hid ((mE st = 0 → Lst (mg st) lx) ∧ (mE st ≠ 0 → lx = [])) := ⟨hxl, hxe⟩
    clear hxi hxl hxe hxb
    go_wp2_with fail
    refine (KR.out w2 B2.out).mono ?_
    rintro e w3 ⟨ya, yc, ly, rfl, hyi, hyl, hye, hyn, hyb⟩
    have B3 : Hid (Below w.heap.size w w3) := B2.out.trans (hyb.mono B2.out.size)
    have D3 : Hid (Below w1.heap.size w1 w3) := D2.out.trans (hyb.mono D2.out.size)
    have LE : lx = ly := by
      by_cases h : mE st = 0
      · exact lst_eq (XL.out.1 h) (hyl h)
      · rw [XL.out.2 h, hye h]
    have KS : Hid (Calls Tryd.prog 14 #[.slice xa lx.length xc, .slice ya ly.length yc] w3 fun e w' => e = .returned (.bool true) ∧ Below w3.heap.size w3 w') := by
      have := sameE_is lx ly lx.length ly.length xc yc xa ya w3 rfl rfl (by omega) (by omega) (X2.out.keep hyb) hyi
      rw [decide_eq_true LE] at this
      exact this
    generalize mE st = E at *
    clear hyi hyl hye hyb LE XL X2 KR D2 B2
    go_wp2_with fail
    refine KS.out.mono ?_
    rintro e w4 ⟨rfl, hb4⟩
    have B4 : Hid (Below w.heap.size w w4) := B3.out.trans (hb4.mono B3.out.size)
    obtain ⟨h1, hh1⟩ : ∃ h, h = w1.heap.size := ⟨_, rfl⟩
    have D4 : Hid (Below h1 w1 w4) := by rw [hh1]; exact D3.out.trans (hb4.mono D3.out.size)
    have HH1 : Hid (h1 = w1.heap.size) := hh1
    have hE : (E != E) = false := by simp
    clear hb4 KS B3 D3 hh1
    go_wp2_with fail
    go_loopg [36] n (fun g i wr => ∃ j : Nat, j ≤ n ∧ g = n - j ∧ i = .int .i64 j ∧ Hid (Below w.heap.size w wr) ∧ Hid (Below h1 w1 wr))
    case atStart => exact ⟨0, Nat.zero_le _, rfl, rfl, B4, D4⟩
    case round =>
      obtain ⟨j, hj, rfl, rfl, BW, CW⟩ := hrel
      have hszw := BW.out.size
      have hh1w : h1 ≤ wr.heap.size := by rw [HH1.out]; exact CW.out.size
      by_cases hlt : j < n
      · have j1 : (j : Int) < (n : Int) := by omega
        obtain ⟨l, hl⟩ : ∃ l, st[j]? = some l := ⟨st[j]'(by rw [HN.out]; exact hlt), by simp [HN.out, hlt]⟩
        obtain ⟨bi, oi, rfl, hbi, x1, c1, hc1, hin1⟩ := S1.out.get hl
        obtain ⟨bs, os, rfl, hbs, x2, c2, hc2, hin2⟩ := HS.out.get hl
        have h70 := H70.out l (List.mem_of_getElem? hl)
        have HD1 : Hid (∀ W, Below h1 w1 W → W.cell? ⟨bi, oi + j, none⟩ = some (.slice x1 l.length c1)) := fun W hb => (hb.cell (p := ⟨bi, oi + j, none⟩) (by rw [HH1.out]; exact hbi)).trans hc1
        have HD2 : Hid (∀ W, Below w.heap.size w W → W.cell? ⟨bs, os + j, none⟩ = some (.slice x2 l.length c2)) := fun W hb => (hb.cell (p := ⟨bs, os + j, none⟩) hbs).trans hc2
        have KS2 : Hid (∀ W, Below w.heap.size w W → Below h1 w1 W → Calls Tryd.prog 14 #[.slice x1 l.length c1, .slice x2 l.length c2] W fun e w' => e = .returned (.bool true) ∧ Below W.heap.size W w') := fun W hb hd => by
          have := sameE_is l l l.length l.length c1 c2 x1 x2 W rfl rfl (by omega) (by omega) (hin1.keep (by have := hd; rw [HH1.out] at this; exact this)) (hin2.keep hb)
          rw [decide_eq_true rfl] at this
          exact this
        generalize l.length = m at *
        have d1 := HD1.out wr CW.out
        have d2 := HD2.out wr BW.out
        clear hl hc1 hc2 hin1 hin2
        go_wp2_with fail
        refine wp_region_noPanic ?_
        refine wp_region_held_drew (S := (fun W : World => W.cell? ⟨bi, oi + j, none⟩ = some (.slice x1 m c1) ∧ W.cell? ⟨bs, os + j, none⟩ = some (.slice x2 m c2))) (by kernel_rfl) ?hSam (fun hHeld => ?restam)
        case hSam => exact ⟨d1, d2⟩
        case restam =>
          refine wpAnyH_take (i := 0) (v := ?v0m) rfl (by kernel_rfl) (by kernel_rfl) (by kernel_rfl) (fun _ _ _ h => h) (Or.inl ⟨by rfl, ?hy0m⟩) hHeld ?rest0m
          case hy0m => (intro w hSw; (try dsimp only at hSw); go_simp; try with_reducible rfl)
          try simp only [Act.put, List.setIfInBounds_toArray, List.set_cons_zero, List.set_cons_succ, List.getElem_toArray, List.getElem_cons_zero]
          refine wpAnyH_take (i := 1) (v := ?v1m) rfl (by kernel_rfl) (by kernel_rfl) (by kernel_rfl) (fun _ _ _ h => h) (Or.inl ⟨by rfl, ?hy1m⟩) hHeld ?rest1m
          case hy1m => (intro w hSw; (try dsimp only at hSw); go_simp; try with_reducible rfl)
          try simp only [Act.put, List.setIfInBounds_toArray, List.set_cons_zero, List.set_cons_succ, List.getElem_toArray, List.getElem_cons_zero, List.getElem_cons_succ]
          refine wpAnyH_take (i := 2) (v := ?v2m) rfl (by kernel_rfl) (by kernel_rfl) (by kernel_rfl) (fun _ _ _ h => h) (Or.inl ⟨by rfl, ?hy2m⟩) hHeld ?rest2m
          case hy2m => (intro w hSw; (try dsimp only at hSw); go_simp; first | (with_reducible rfl) | (rw [if_pos (by omega)]; done) | (rw [if_pos (by omega)]; with_reducible rfl))
          try simp only [Act.put, List.setIfInBounds_toArray, List.set_cons_zero, List.set_cons_succ, List.getElem_toArray, List.getElem_cons_zero, List.getElem_cons_succ]
          refine wpAnyH_take (i := 3) (v := ?v3m) rfl (by kernel_rfl) (by kernel_rfl) (by kernel_rfl) (fun _ _ _ h => h) (Or.inl ⟨by rfl, ?hy3m⟩) hHeld ?rest3m
          case hy3m => (intro w hSw; (try dsimp only at hSw); go_simp; try with_reducible rfl)
          try simp only [Act.put, List.setIfInBounds_toArray, List.set_cons_zero, List.set_cons_succ, List.getElem_toArray, List.getElem_cons_zero, List.getElem_cons_succ]
          refine wpAnyH_take (i := 4) (v := ?v4m) rfl (by kernel_rfl) (by kernel_rfl) (by kernel_rfl) (fun _ _ _ h => h) (Or.inl ⟨by rfl, ?hy4m⟩) hHeld ?rest4m
          case hy4m => (intro w hSw; (try dsimp only at hSw); go_simp; try with_reducible rfl)
          try simp only [Act.put, List.setIfInBounds_toArray, List.set_cons_zero, List.set_cons_succ, List.getElem_toArray, List.getElem_cons_zero, List.getElem_cons_succ]
          refine wpAnyH_take (i := 5) (v := ?v5m) rfl (by kernel_rfl) (by kernel_rfl) (by kernel_rfl) (fun _ _ _ h => h) (Or.inl ⟨by rfl, ?hy5m⟩) hHeld ?rest5m
          case hy5m => (intro w hSw; (try dsimp only at hSw); go_simp; try with_reducible rfl)
          try simp only [Act.put, List.setIfInBounds_toArray, List.set_cons_zero, List.set_cons_succ, List.getElem_toArray, List.getElem_cons_zero, List.getElem_cons_succ]
          refine wpAnyH_take (i := 6) (v := ?v6m) rfl (by kernel_rfl) (by kernel_rfl) (by kernel_rfl) (fun _ _ _ h => h) (Or.inl ⟨by rfl, ?hy6m⟩) hHeld ?rest6m
          case hy6m => (intro w hSw; (try dsimp only at hSw); go_simp; first | (with_reducible rfl) | (rw [if_pos (by omega)]; done) | (rw [if_pos (by omega)]; with_reducible rfl))
          try simp only [Act.put, List.setIfInBounds_toArray, List.set_cons_zero, List.set_cons_succ, List.getElem_toArray, List.getElem_cons_zero, List.getElem_cons_succ]
          refine wpAnyH_take (i := 7) (v := ?v7m) rfl (by kernel_rfl) (by kernel_rfl) (by kernel_rfl) (fun _ _ _ h => h) (Or.inl ⟨by rfl, ?hy7m⟩) hHeld ?rest7m
          case hy7m => (intro w hSw; (try dsimp only at hSw); go_simp; try with_reducible rfl)
          try simp only [Act.put, List.setIfInBounds_toArray, List.set_cons_zero, List.set_cons_succ, List.getElem_toArray, List.getElem_cons_zero, List.getElem_cons_succ]
          refine wpAnyH_ready (rs := [8]) (by kernel_rfl) (by simp) ?_
          refine AllReadyH.cons rfl (fun K hK => ?_) AllReadyH.nil
          go_simp; refine (KS2.out _ (below_drewN BW.out 1) (below_drewN CW.out 1)).mono ?_; rintro e w8 ⟨rfl, hb8⟩; have B8 : Hid (Below w.heap.size w w8) := (below_drewN BW.out 1).trans (hb8.mono BW.out.size); have C8 : Hid (Below h1 w1 w8) := (below_drewN CW.out 1).trans (hb8.mono hh1w); clear hb8; go_wp2_with fail
          refine hK.out _ _ ?hS8m (fun hHeld => ?rest8m)
          case hS8m => exact ⟨HD1.out _ C8.out, HD2.out _ B8.out⟩
          clear hK K
          try simp only [Act.put, List.setIfInBounds_toArray, List.set_cons_zero, List.set_cons_succ, List.getElem_toArray, List.getElem_cons_zero, List.getElem_cons_succ]
          refine wpAnyH_take (i := 9) (v := ?v9m) rfl (by kernel_rfl) (by kernel_rfl) (by kernel_rfl) (fun _ _ _ h => h) (Or.inl ⟨by rfl, ?hy9m⟩) hHeld ?rest9m
          case hy9m => (intro w hSw; (try dsimp only at hSw); go_simp; try with_reducible rfl)
          try simp only [Act.put, List.setIfInBounds_toArray, List.set_cons_zero, List.set_cons_succ, List.getElem_toArray, List.getElem_cons_zero, List.getElem_cons_succ]
          refine wpAnyH_done (by kernel_rfl) ?_ _
          refine NoPanic.normal ?_
          go_wp2_with fail
          go_roundg (n - (j + 1))
          case measure => omega
          case rel => exact ⟨j + 1, by omega, rfl, by go_num, B8, C8⟩
      · have ej : n = j := by omega
        subst ej
        have j1 : ¬ (n : Int) < (n : Int) := by omega
        go_wp2_with fail
        refine (KW.out _).mono ?_
        rintro e wz ⟨rfl, hbz⟩
        have Bz : Hid (Below w.heap.size w wz) := BW.out.trans (hbz.mono BW.out.size)
        clear hbz
        go_wp2_with fail
        go_ret
        exact ⟨rfl, Bz.out⟩
end Go.Proofs.YtbefmcagpmgkiaaDoor
namespace Go.Proofs.YtbefmcagpmgkiaaDoor
open Go.ChangeShapes Go.WideShapes Go.ChangeAt Go.RowKit Go.Deep
set_option linter.unusedVariables false
/-- an entry as data -/
def ed {H : Type} (q : En) : DataW H := .agg [.lit (.string q.p), .lit (.int .i64 q.k), .lit (.int .i64 q.m), .lit (.string q.b)]
theorem cellsE : Tryd.prog.cellsOf 34 = 4 := by kernel_rfl
theorem cellsT : Tryd.prog.cellsOf 9 = 1 := by kernel_rfl
theorem cellsI : Tryd.prog.cellsOf 3 = 1 := by kernel_rfl
theorem bytesE : Tryd.prog.bytesOf 34 = 48 := by kernel_rfl
theorem list4 {α : Type} {l : List α} (h : l.length = 4) : ∃ v0 v1 v2 v3, l = [v0, v1, v2, v3] := by
  match l, h with
  | [v0, v1, v2, v3], _ => exact ⟨v0, v1, v2, v3, rfl⟩
theorem open_entry {H : Type} {enc : TypeId × Value → H} {W : World} {fuel : Nat} {cs : List Value} {x : DataW H × List MemPlace} (h : DataW.trod enc Tryd.prog W 0 (fun _ => true) true fuel 34 cs = some x) :
    ∃ q : En, cs = [.string (tx q.p), .int .i64 q.k, .int .i64 q.m, .string (tx q.b)] ∧ x.1 = ed q := by
  obtain ⟨y0, y1, y2, y3, n, hxy, hlen, g0, g1, g2, g3⟩ := Go.Joins.trod_struct4 Tryd.underlying34 h
  rw [cellsE] at hlen
  obtain ⟨v0, v1, v2, v3, rfl⟩ := list4 hlen
  simp [cellsT, cellsI] at g0 g1 g2 g3
  obtain ⟨s0, e0, rfl, _⟩ := DataW.trod_string Tryd.underlying9 g0
  obtain ⟨n1, e1, rfl, _⟩ := DataW.trod_int Tryd.underlying3 g1
  obtain ⟨n2, e2, rfl, _⟩ := DataW.trod_int Tryd.underlying3 g2
  obtain ⟨s3, e3, rfl, _⟩ := DataW.trod_string Tryd.underlying9 g3
  simp only [List.cons.injEq, and_true] at e0 e1 e2 e3
  subst e0 e1 e2 e3 hxy
  refine ⟨(s0.data.toList, n1, n2, s3.data.toList), ?_, ?_⟩
  · simp only [En.p, En.k, En.m, En.b, ← tx_mk]
  · simp [ed, En.p, En.k, En.m, En.b]
theorem open_entries {H : Type} {enc : TypeId × Value → H} {W : World} {fuel : Nat} {a : Option Addr} {len cap : Nat} {x : DataW H × List MemPlace} (h : DataW.trod enc Tryd.prog W 0 (fun _ => true) true fuel 26 [.slice a len cap] = some x) :
    ∃ l : List En, l.length = len ∧ len ≤ cap ∧ (a = none → cap = 0) ∧ cap ≤ 9223372036854775807 ∧ InE W a l ∧ (l = [] ∨ ∃ sp, x.1 = .slice (l.map ed) sp) := by
  rcases open_slice Tryd.underlying26 h with ⟨hcs, hx⟩ | ⟨a', len', cap', m, n, D, Pl, hcs, _, hl, hm, hmm, hx, hel⟩
  · simp only [List.cons.injEq, and_true, Value.slice.injEq] at hcs
    obtain ⟨rfl, rfl, rfl⟩ := hcs
    exact ⟨[], rfl, Nat.le_refl _, fun _ => rfl, by omega, .inl rfl, .inl rfl⟩
  · simp only [List.cons.injEq, and_true, Value.slice.injEq] at hcs
    obtain ⟨rfl, rfl, rfl⟩ := hcs
    have hmc : m = cap := by simpa using hmm
    subst hmc hx
    have each : ∀ i, i < len → ∃ q : En, ∃ cs', W.cells? 0 (a'.add (i * 4)) 4 = some cs' ∧ cs' = [.string (tx q.p), .int .i64 q.k, .int .i64 q.m, .string (tx q.b)] ∧ D i = ed q := by
      intro i hi
      obtain ⟨cs', h1, h2⟩ := hel i (by omega)
      rw [cellsE] at h1
      obtain ⟨q, hq, hd⟩ := open_entry h2
      exact ⟨q, cs', h1, hq, hd⟩
    obtain ⟨q, hq⟩ := choose_lt each
    simp only [maxLen] at hm
    refine ⟨(List.range len).map q, by simp, hl, (fun h => by simp at h), by omega, ?_, ?_⟩
    · by_cases h0 : len = 0
      · left; subst h0; rfl
      · right
        have hsp : ∀ i, i < len → W.cell? (a'.add (i * 4)) = some (.string (tx (q i).p)) ∧ W.cell? (a'.add (i * 4 + 1)) = some (.int .i64 (q i).k) ∧ W.cell? (a'.add (i * 4 + 2)) = some (.int .i64 (q i).m) ∧ W.cell? (a'.add (i * 4 + 3)) = some (.string (tx (q i).b)) := by
          intro i hi
          obtain ⟨cs', h1, h2, _⟩ := hq i hi
          obtain ⟨_, hlen, hcell⟩ := World.cells?_some h1
          subst h2
          have e0 := hcell 0 (by omega)
          have e1 := hcell 1 (by omega)
          have e2 := hcell 2 (by omega)
          have e3 := hcell 3 (by omega)
          rw [add_add] at e0 e1 e2 e3
          exact ⟨by simpa using e0, by simpa using e1, by simpa using e2, by simpa using e3⟩
        obtain ⟨b, off, spot⟩ := a'
        have hc := (hsp 0 (by omega)).1
        have hspot : spot = none := by simpa [Addr.add] using World.cell?_spot hc
        subst hspot
        rw [add_plain] at hc
        refine ⟨b, off, rfl, World.block_lt_of_cell? _ _ hc, fun i x hx => ?_⟩
        have hi : i < len := by
          have := (List.getElem?_eq_some_iff.1 hx).1
          simpa using this
        have hxq : x = q i := by simpa [hi] using hx.symm
        subst hxq
        have := hsp i hi
        rw [add_plain, add_plain, add_plain, add_plain] at this
        exact this
    · right
      refine ⟨(List.range (m - len)).map fun j => D (len + j), ?_⟩
      show DataW.slice _ _ = DataW.slice _ _
      congr 1
      apply List.ext_getElem
      · simp
      · intro i h1 h2
        have hi : i < len := by simpa using h1
        obtain ⟨_, _, _, h3⟩ := hq i hi
        simp [h3]
theorem weightsAll_in {H : Type} {P : Program} {e : TypeId} : ∀ {l : List (DataW H)} {d : DataW H}, d ∈ l → ∀ n ∈ d.weights P e, n ∈ DataW.weightsAll P e l
  | d' :: r, d, hd, n, hn => by
    simp only [DataW.weightsAll, List.mem_append]
    rcases List.mem_cons.1 hd with rfl | h
    · exact Or.inl hn
    · exact Or.inr (weightsAll_in h n hn)
theorem weights_ed {H : Type} (q : En) : q.p.length ∈ (ed (H := H) q).weights Tryd.prog 34 ∧ q.b.length ∈ (ed (H := H) q).weights Tryd.prog 34 := by
  have hu := Tryd.underlying34
  constructor <;> simp [ed, DataW.weights, DataW.weightsEach, hu]
theorem fit_of {H : Type} {ts : List TypeId} {ds : List (DataW H)} (h : (DataW.weightsEach Tryd.prog ts ds).all (· ≤ reachBytes) = true) {j : Nat} {l : List En} {sp : List (DataW H)} {d : DataW H}
    (ht : ts[j]? = some 26) (hd : ds[j]? = some d) (hl : l = [] ∨ ∃ sp, d = .slice (l.map ed) sp) : Fit l ∧ l.length ≤ 140737488355328 := by
  have hr := reachBytes_lt
  rcases hl with rfl | ⟨sp, rfl⟩
  · exact ⟨fun x hx => by simp at hx, by simp⟩
  · have hu := Tryd.underlying26
    have key : ∀ x ∈ l, ∀ n ∈ (ed (H := H) x).weights Tryd.prog 34, n ≤ reachBytes := by
      intro x hx n hn
      refine of_decide_eq_true (List.all_eq_true.1 h _ (DataW.weights_mem_each ht hd _ ?_))
      simp only [DataW.weights, hu, List.mem_cons, List.mem_append]
      exact Or.inr (Or.inl (weightsAll_in (List.mem_map.2 ⟨x, hx, rfl⟩) _ hn))
    refine ⟨fun x hx => ?_, ?_⟩
    · obtain ⟨w1, w2⟩ := weights_ed (H := H) x
      have h1 := key x hx _ w1
      have h2 := key x hx _ w2
      omega
    · have := sized_slice h ht hd hu
      rw [bytesE, List.length_map] at this
      omega
theorem bulk_in {H : Type} : ∀ {l : List (DataW H)} {d : DataW H}, d ∈ l → Rows.uptoBulk d ≤ Rows.uptoBulkAll l
  | d' :: r, d, hd => by
    simp only [Rows.uptoBulkAll]
    rcases List.mem_cons.1 hd with rfl | h
    · omega
    · have := bulk_in h; omega
theorem bulk_len {H : Type} : ∀ (l : List En), l.length ≤ Rows.uptoBulkAll (l.map (ed (H := H)))
  | [] => by simp
  | x :: r => by
    have := bulk_len (H := H) r
    simp only [List.map_cons, Rows.uptoBulkAll, List.length_cons, ed, Rows.uptoBulk] at this ⊢
    omega
/-- each text, and their number, is within the bulk -/
theorem bulk_of {H : Type} {l : List En} {d : DataW H} (hl : l = [] ∨ ∃ sp, d = .slice (l.map ed) sp) (B : Nat) (hB : Rows.uptoBulk d ≤ B) : (∀ x ∈ l, x.p.length ≤ B ∧ x.b.length ≤ B) ∧ l.length ≤ B := by
  rcases hl with rfl | ⟨sp, rfl⟩
  · exact ⟨fun x hx => by simp at hx, by simp⟩
  · simp only [Rows.uptoBulk] at hB
    refine ⟨fun x hx => ?_, ?_⟩
    · have := bulk_in (List.mem_map.2 ⟨x, hx, rfl⟩ : ed (H := H) x ∈ l.map ed)
      simp only [ed, Rows.uptoBulk, Rows.uptoBulkAll] at this
      omega
    · have := bulk_len (H := H) l
      omega
end Go.Proofs.YtbefmcagpmgkiaaDoor
namespace Go.Proofs.YtbefmcagpmgkiaaDoor
open Go.ChangeShapes Go.WideShapes Go.ChangeAt Go.RowKit Go.Deep
set_option linter.unusedVariables false
theorem cellsL : Tryd.prog.cellsOf 26 = 1 := by kernel_rfl
theorem bytesL : Tryd.prog.bytesOf 26 = 24 := by kernel_rfl
theorem fit_in {H : Type} {l : List En} {d : DataW H} (key : ∀ n ∈ d.weights Tryd.prog 26, n ≤ reachBytes) (hl : l = [] ∨ ∃ sp, d = .slice (l.map ed) sp) : Fit l ∧ l.length ≤ 140737488355328 := by
  have hr := reachBytes_lt
  rcases hl with rfl | ⟨sp, rfl⟩
  · exact ⟨fun x hx => by simp at hx, by simp⟩
  · have hu := Tryd.underlying26
    refine ⟨fun x hx => ?_, ?_⟩
    · have k2 : ∀ n ∈ (ed (H := H) x).weights Tryd.prog 34, n ≤ reachBytes := by
        intro n hn
        refine key n ?_
        simp only [DataW.weights, hu, List.mem_cons, List.mem_append]
        exact Or.inr (Or.inl (weightsAll_in (List.mem_map.2 ⟨x, hx, rfl⟩) _ hn))
      obtain ⟨w1, w2⟩ := weights_ed (H := H) x
      have h1 := k2 _ w1
      have h2 := k2 _ w2
      omega
    · have := key (((l.map (ed (H := H))).length + sp.length) * Tryd.prog.bytesOf 34) (by simp only [DataW.weights, hu, List.mem_cons]; exact Or.inl trivial)
      rw [bytesE, List.length_map] at this
      omega
theorem open_layer {H : Type} {enc : TypeId × Value → H} {W : World} {fuel : Nat} {cs : List Value} {x : DataW H × List MemPlace} (h : DataW.trod enc Tryd.prog W 0 (fun _ => true) true fuel 26 cs = some x) (key : ∀ n ∈ x.1.weights Tryd.prog 26, n ≤ reachBytes) :
    ∃ (l : List En) (a : Option Addr) (c : Nat), cs = [.slice a l.length c] ∧ InE W a l ∧ Fit l ∧ (l.length ≤ 4611686018427387904 ∧ (a = none → c = 0)) := by
  obtain ⟨a, len, cap, rfl⟩ : ∃ a len cap, cs = [.slice a len cap] := by
    rcases open_slice Tryd.underlying26 h with ⟨hcs, _⟩ | ⟨a', len', cap', m, n, D, Pl, hcs, _⟩
    · exact ⟨_, _, _, hcs⟩
    · exact ⟨_, _, _, hcs⟩
  obtain ⟨l, e1, _, e3, _, e5, e6⟩ := open_entries h
  obtain ⟨f1, f2⟩ := fit_in key e6
  subst e1
  exact ⟨l, a, cap, rfl, e5, f1, by omega, e3⟩
theorem open_stack {H : Type} {enc : TypeId × Value → H} {W : World} {fuel : Nat} {a : Option Addr} {len cap : Nat} {x : DataW H × List MemPlace} (h : DataW.trod enc Tryd.prog W 0 (fun _ => true) true fuel 22 [.slice a len cap] = some x) (key : ∀ n ∈ x.1.weights Tryd.prog 22, n ≤ reachBytes) :
    ∃ st : List (List En), st.length = len ∧ len ≤ 4611686018427387904 ∧ InS W a st := by
  rcases open_slice Tryd.underlying22 h with ⟨hcs, hx⟩ | ⟨a', len', cap', m, n, D, Pl, hcs, _, hl, hm, hmm, hx, hel⟩
  · simp only [List.cons.injEq, and_true, Value.slice.injEq] at hcs
    obtain ⟨rfl, rfl, rfl⟩ := hcs
    exact ⟨[], rfl, by omega, .inl rfl⟩
  · simp only [List.cons.injEq, and_true, Value.slice.injEq] at hcs
    obtain ⟨rfl, rfl, rfl⟩ := hcs
    have hmc : m = cap := by simpa using hmm
    subst hmc hx
    have hu := Tryd.underlying22
    have hr := reachBytes_lt
    have hlen : len ≤ 4611686018427387904 := by
      have := key ((((List.range len).map D).length + ((List.range (m - len)).map fun j => D (len + j)).length) * Tryd.prog.bytesOf 26) (by simp only [DataW.weights, hu, List.mem_cons]; exact Or.inl trivial)
      rw [bytesL, List.length_map, List.length_range] at this
      omega
    have each : ∀ i, i < len → ∃ q : List En, ∃ (b : Option Addr) (c : Nat), W.cell? (a'.add i) = some (.slice b q.length c) ∧ InE W b q ∧ Fit q ∧ (q.length ≤ 4611686018427387904 ∧ (b = none → c = 0)) := by
      intro i hi
      obtain ⟨cs', h1, h2⟩ := hel i (by omega)
      rw [cellsL, Nat.mul_one] at h1
      obtain ⟨q, b, c, hq, e1, e2, e3⟩ := open_layer h2 (fun n hn => key n (by
        simp only [DataW.weights, hu, List.mem_cons, List.mem_append]
        exact Or.inr (Or.inl (weightsAll_in (List.mem_map.2 ⟨i, List.mem_range.2 hi, rfl⟩) _ hn))))
      obtain ⟨_, hlen2, hcell⟩ := World.cells?_some h1
      subst hq
      have e0 := hcell 0 (by omega)
      rw [add_add] at e0
      exact ⟨q, b, c, by simpa using e0, e1, e2, e3⟩
    obtain ⟨q, hq⟩ := choose_lt each
    refine ⟨(List.range len).map q, by simp, hlen, ?_⟩
    by_cases h0 : len = 0
    · left; subst h0; rfl
    · right
      obtain ⟨b, off, spot⟩ := a'
      obtain ⟨b0, c0, hc, _⟩ := hq 0 (by omega)
      have hspot : spot = none := by simpa [Addr.add] using World.cell?_spot hc
      subst hspot
      rw [add_plain] at hc
      refine ⟨b, off, rfl, World.block_lt_of_cell? _ _ hc, fun i l hl2 => ?_⟩
      have hi : i < len := by
        have := (List.getElem?_eq_some_iff.1 hl2).1
        simpa using this
      have hxq : l = q i := by simpa [hi] using hl2.symm
      subst hxq
      obtain ⟨b1, c1, g1, g2, g3, g4⟩ := hq i hi
      rw [add_plain] at g1
      exact ⟨b1, c1, g1, g2, g3, g4⟩
theorem stack_cap {H : Type} {enc : TypeId × Value → H} {W : World} {fuel : Nat} {a : Option Addr} {len cap : Nat} {x : DataW H × List MemPlace} (h : DataW.trod enc Tryd.prog W 0 (fun _ => true) true fuel 22 [.slice a len cap] = some x) : len ≤ cap := by
  rcases open_slice Tryd.underlying22 h with ⟨hcs, hx⟩ | ⟨a', len', cap', m, n, D, Pl, hcs, _, hl, hm, hmm, hx, hel⟩
  · simp only [List.cons.injEq, and_true, Value.slice.injEq] at hcs
    omega
  · simp only [List.cons.injEq, and_true, Value.slice.injEq] at hcs
    omega
end Go.Proofs.YtbefmcagpmgkiaaDoor
namespace Go.Proofs.YtbefmcagpmgkiaaDoor
open Go.ChangeShapes Go.WideShapes Go.ChangeAt Go.RowKit Go.Deep
set_option linter.unusedVariables false
theorem open_layerB {H : Type} {enc : TypeId × Value → H} {W : World} {fuel : Nat} {cs : List Value} {x : DataW H × List MemPlace} (h : DataW.trod enc Tryd.prog W 0 (fun _ => true) true fuel 26 cs = some x) (key : ∀ n ∈ x.1.weights Tryd.prog 26, n ≤ reachBytes) :
    ∃ (l : List En) (a : Option Addr) (c : Nat), cs = [.slice a l.length c] ∧ InE W a l ∧ Fit l ∧ (l.length ≤ 4611686018427387904 ∧ (a = none → c = 0)) ∧ (∀ B, Rows.uptoBulk x.1 ≤ B → ∀ y ∈ l, y.p.length ≤ B ∧ y.b.length ≤ B) := by
  obtain ⟨a, len, cap, rfl⟩ : ∃ a len cap, cs = [.slice a len cap] := by
    rcases open_slice Tryd.underlying26 h with ⟨hcs, _⟩ | ⟨a', len', cap', m, n, D, Pl, hcs, _⟩
    · exact ⟨_, _, _, hcs⟩
    · exact ⟨_, _, _, hcs⟩
  obtain ⟨l, e1, _, e3, _, e5, e6⟩ := open_entries h
  obtain ⟨f1, f2⟩ := fit_in key e6
  subst e1
  exact ⟨l, a, cap, rfl, e5, f1, ⟨by omega, e3⟩, fun B hB => (bulk_of e6 B hB).1⟩
theorem open_stackB {H : Type} {enc : TypeId × Value → H} {W : World} {fuel : Nat} {a : Option Addr} {len cap : Nat} {x : DataW H × List MemPlace} (h : DataW.trod enc Tryd.prog W 0 (fun _ => true) true fuel 22 [.slice a len cap] = some x) (key : ∀ n ∈ x.1.weights Tryd.prog 22, n ≤ reachBytes) :
    ∃ st : List (List En), st.length = len ∧ len ≤ 4611686018427387904 ∧ InS W a st ∧ (∀ B, Rows.uptoBulk x.1 ≤ B → ∀ l ∈ st, ∀ y ∈ l, y.p.length ≤ B ∧ y.b.length ≤ B) := by
  rcases open_slice Tryd.underlying22 h with ⟨hcs, hx⟩ | ⟨a', len', cap', m, n, D, Pl, hcs, _, hl, hm, hmm, hx, hel⟩
  · simp only [List.cons.injEq, and_true, Value.slice.injEq] at hcs
    obtain ⟨rfl, rfl, rfl⟩ := hcs
    exact ⟨[], rfl, by omega, .inl rfl, fun B _ l hl => by cases hl⟩
  · simp only [List.cons.injEq, and_true, Value.slice.injEq] at hcs
    obtain ⟨rfl, rfl, rfl⟩ := hcs
    have hmc : m = cap := by simpa using hmm
    subst hmc hx
    have hu := Tryd.underlying22
    have hr := reachBytes_lt
    have hlen : len ≤ 4611686018427387904 := by
      have := key ((((List.range len).map D).length + ((List.range (m - len)).map fun j => D (len + j)).length) * Tryd.prog.bytesOf 26) (by simp only [DataW.weights, hu, List.mem_cons]; exact Or.inl trivial)
      rw [bytesL, List.length_map, List.length_range] at this
      omega
    have each : ∀ i, i < len → ∃ q : List En, ∃ (b : Option Addr) (c : Nat), W.cell? (a'.add i) = some (.slice b q.length c) ∧ InE W b q ∧ Fit q ∧ (q.length ≤ 4611686018427387904 ∧ (b = none → c = 0)) ∧ (∀ B, Rows.uptoBulk (D i) ≤ B → ∀ y ∈ q, y.p.length ≤ B ∧ y.b.length ≤ B) := by
      intro i hi
      obtain ⟨cs', h1, h2⟩ := hel i (by omega)
      rw [cellsL, Nat.mul_one] at h1
      obtain ⟨q, b, c, hq, e1, e2, e3, e4⟩ := open_layerB h2 (fun n hn => key n (by
        simp only [DataW.weights, hu, List.mem_cons, List.mem_append]
        exact Or.inr (Or.inl (weightsAll_in (List.mem_map.2 ⟨i, List.mem_range.2 hi, rfl⟩) _ hn))))
      obtain ⟨_, hlen2, hcell⟩ := World.cells?_some h1
      subst hq
      have e0 := hcell 0 (by omega)
      rw [add_add] at e0
      exact ⟨q, b, c, by simpa using e0, e1, e2, e3, e4⟩
    obtain ⟨q, hq⟩ := choose_lt each
    refine ⟨(List.range len).map q, by simp, hlen, ?_, fun B hB l hl2 => ?_⟩
    rotate_left
    · obtain ⟨i, hi, rfl⟩ := List.mem_map.1 hl2
      obtain ⟨_, _, _, _, _, _, hb⟩ := hq i (List.mem_range.1 hi)
      refine hb B ?_
      have h1 := bulk_in (List.mem_map.2 ⟨i, hi, rfl⟩ : D i ∈ (List.range len).map D)
      simp only [Rows.uptoBulk] at hB
      omega
    by_cases h0 : len = 0
    · left; subst h0; rfl
    · right
      obtain ⟨b, off, spot⟩ := a'
      obtain ⟨b0, c0, hc, _⟩ := hq 0 (by omega)
      have hspot : spot = none := by simpa [Addr.add] using World.cell?_spot hc
      subst hspot
      rw [add_plain] at hc
      refine ⟨b, off, rfl, World.block_lt_of_cell? _ _ hc, fun i l hl2 => ?_⟩
      have hi : i < len := by
        have := (List.getElem?_eq_some_iff.1 hl2).1
        simpa using this
      have hxq : l = q i := by simpa [hi] using hl2.symm
      subst hxq
      obtain ⟨b1, c1, g1, g2, g3, g4, _⟩ := hq i hi
      rw [add_plain] at g1
      exact ⟨b1, c1, g1, g2, g3, g4⟩
end Go.Proofs.YtbefmcagpmgkiaaDoor
