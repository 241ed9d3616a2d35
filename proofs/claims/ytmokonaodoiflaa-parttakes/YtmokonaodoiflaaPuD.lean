/- The document's Take (gen_pu.py). -/
import Derived.Test.YtmokonaodoiflaaPuC
namespace Go.Proofs.Ytmokonaodoiflaa
open Go.ChangeShapes Go.WideShapes Go.ChangeAt Go.RowKit Go.Deep Go.Maps
set_option linter.unusedVariables false
set_option linter.unusedSimpArgs false
/-- what the document's Take tells; P: where the message's own packages lie -/
def RtSaid (w w' : World) (r s : Int) (D : List Int) (k f t x : Int) (y : Bool) (L : List Pk) (P : Option Addr × Nat × Nat) (V : Value) : Prop :=
  (tkOk r s D k f t x y L → OwnD w' w.heap.size V (tkD r s D k x P)) ∧ (¬ tkOk r s D k f t x y L → V = .slice none 0 0) ∧ Below w.heap.size w w'
theorem gd_not {r s : Int} {D : List Int} {x : Int} (h : gdP r s D = true) (hx : x ∈ D) (h0 : x ≠ 0) : s ≠ x := by
  intro e
  have := (gd_get h).2.2
  unfold allP at this
  rw [if_neg (by rw [e]; exact h0)] at this
  have h2 := (List.nodup_append.1 this).2.2 x hx s (by simp)
  exact h2 e.symm
theorem gd_last {r s : Int} {D : List Int} {x : Int} (h : gdP r s D = true) (hx : x ∈ D) : x ≠ 0 := by
  intro e
  have h1 : x ∈ allP s D := by unfold allP; split <;> simp [hx]
  have := (gd_get h).2.1 x h1
  rw [e] at this
  exact absurd this (by decide)
set_option maxRecDepth 100000 in
set_option maxHeartbeats 16000000 in
theorem rtake_is (w : World) (r s : Int) (a : Option Addr) (n c : Nat) (D : List Int) (hp : PrtAt w a n c D) (k f t x : Int) (y : Bool) (pa : Option Addr) (pn pc : Nat) (L : List Pk) (hm : MsgAt w pa pn pc L) :
    Calls Try.prog 12 #[.agg #[.int .i64 r, .int .i64 s, .slice a n c], .agg #[.int .i64 k, .int .i64 f, .int .i64 t, .int .i64 x, .bool y, .slice pa pn pc]] w fun e w' => ∃ V, e = .returned V ∧ RtSaid w w' r s D k f t x y L (pa, pn, pc) V := by
  obtain ⟨W0, hW0⟩ : ∃ W0, W0 = (w.alloc (.cells #[.int .i64 r, .int .i64 s, .slice a n c] 24)).alloc (.cells #[.int .i64 k, .int .i64 f, .int .i64 t, .int .i64 x, .bool y, .slice pa pn pc] 27) := ⟨_, rfl⟩
  have HE : Hid (W0 = (w.alloc (.cells #[.int .i64 r, .int .i64 s, .slice a n c] 24)).alloc (.cells #[.int .i64 k, .int .i64 f, .int .i64 t, .int .i64 x, .bool y, .slice pa pn pc] 27)) := hW0
  have hb0 : Below w.heap.size w W0 := by rw [hW0]; exact ((Below.refl _ _).alloc (Nat.le_refl _) _).alloc (by simp) _
  have z1 : (w.alloc (.cells #[.int .i64 r, .int .i64 s, .slice a n c] 24)).heap.size = w.heap.size + 1 := by simp
  have hq : Bx W0 w.heap.size r s a n c := by rw [hW0]; exact (Below.heap_alloc _ _ _ (by omega)).trans (heap_alloc_new w _)
  have hq2 : Bm W0 (w.heap.size + 1) k f t x y pa pn pc := by
    rw [hW0]
    have := heap_alloc_new (w.alloc (.cells #[.int .i64 r, .int .i64 s, .slice a n c] 24)) (.cells #[.int .i64 k, .int .i64 f, .int .i64 t, .int .i64 x, .bool y, .slice pa pn pc] 27)
    rw [z1] at this
    exact this
  have hz : W0.heap.size = w.heap.size + 1 + 1 := by rw [hW0]; simp
  have HX : Hid (Bx W0 w.heap.size r s a n c ∧ Bm W0 (w.heap.size + 1) k f t x y pa pn pc ∧ Below w.heap.size w W0 ∧ PrtAt W0 a n c D ∧ MsgAt W0 pa pn pc L ∧ W0.heap.size = w.heap.size + 1 + 1) := ⟨hq, hq2, hb0, hp.keep hb0, hm.keep hb0, hz⟩
  obtain ⟨G, hG⟩ : ∃ G, gdP r s D = G := ⟨_, rfl⟩
  have HG : Hid (gdP r s D = G) := hG
  obtain ⟨E, hE⟩ : ∃ E, wchk k f t x y L = E := ⟨_, rfl⟩
  have HEC : Hid (wchk k f t x y L = E) := hE
  have KG : Hid (Calls Try.prog 14 #[.agg #[.int .i64 r, .int .i64 s, .slice a n c]] W0 fun e w' => e = .returned (.bool G) ∧ Below W0.heap.size W0 w') := by rw [← hG]; exact rgood_is W0 r s a n c D HX.out.2.2.2.1
  have KC : Hid (∀ W, Below W0.heap.size W0 W → Calls Try.prog 31 #[.agg #[.int .i64 k, .int .i64 f, .int .i64 t, .int .i64 x, .bool y, .slice pa pn pc]] W fun e w' => e = .returned (.int .i64 E) ∧ Below W.heap.size W w') := fun W hW => by
    have h5 := HX.out.2.2.2.2.1.keep hW
    rw [← hE]
    exact rwcheck_is W k f t x y pa pn pc L h5.len h5.inp h5.cap h5.cap9 (by have := h5.big; omega)
  have hN := hp.big
  have KI : Hid (∀ W, Below W0.heap.size W0 W → Calls Try.prog 20 #[.slice a n c, .int .i64 x] W fun e w' => e = .returned (.bool (decide (x ∈ D))) ∧ w' = W) := fun W hW => rin_is W a n c D hp.len (HX.out.2.2.2.1.keep hW).inz (by omega) x
  have KE : Hid (∀ W (l9 : Int), Calls Try.prog 32 #[.int .i64 l9] W fun e w' => e = .returned (.agg #[.int .i64 1, .int .i64 l9, .slice none 0 0, .int .i64 0, .int .i64 0, .int .i64 0, .int .i64 0, .bool false, .slice none 0 0]) ∧ Below W.heap.size W w') := fun W l9 => rsettle_is W l9
  have KD : Hid (∀ W (q : Int) (b : Bool), Calls Try.prog 33 #[.agg #[.int .i64 r, .int .i64 s, .slice a n c], .int .i64 q, .int .i64 x, .bool b] W fun e w' => e = .returned (.agg #[.int .i64 5, .int .i64 0, .slice none 0 0, .int .i64 q, .int .i64 r, .int .i64 0, .int .i64 x, .bool b, .slice none 0 0]) ∧ Below W.heap.size W w') := fun W q b => rsend_is W r s a n c q x b
  have KB : Hid (∀ u, Below W0.heap.size W0 u → (u.cell? ⟨w.heap.size, 0, none⟩ = some (.int .i64 r) ∧ u.cell? ⟨w.heap.size, 1, none⟩ = some (.int .i64 s) ∧ u.cell? ⟨w.heap.size, 2, none⟩ = some (.slice a n c)) ∧ (u.cell? ⟨w.heap.size + 1, 0, none⟩ = some (.int .i64 k) ∧ u.cell? ⟨w.heap.size + 1, 1, none⟩ = some (.int .i64 f) ∧ u.cell? ⟨w.heap.size + 1, 2, none⟩ = some (.int .i64 t) ∧ u.cell? ⟨w.heap.size + 1, 3, none⟩ = some (.int .i64 x) ∧ u.cell? ⟨w.heap.size + 1, 4, none⟩ = some (.bool y) ∧ u.cell? ⟨w.heap.size + 1, 5, none⟩ = some (.slice pa pn pc))) := fun u hu => ⟨(HX.out.1.keep hu).cells, (HX.out.2.1.keep hu).cells⟩
  clear hW0 hb0 hq hq2 hp hm hG hE hz z1
  obtain ⟨⟨c0, c1, c2⟩, m0, m1, m2, m3, m4, m5⟩ := KB.out W0 (Below.refl _ _)
  go_enter Try.func12, Try.ntmps12
  go_wp2_with fail
  rw [← HE.out]
  clear HE
  refine KG.out.mono ?_
  rintro e w1 ⟨rfl, b1⟩
  have B1 : Hid (Below W0.heap.size W0 w1) := b1
  clear b1 c0 c1 c2 m0 m1 m2 m3 m4 m5
  obtain ⟨⟨c0, c1, c2⟩, m0, m1, m2, m3, m4, m5⟩ := KB.out w1 B1.out
  have UP : Hid (∀ u, Below W0.heap.size W0 u → Below w.heap.size w u) := fun u hu => HX.out.2.2.1.trans (hu.mono HX.out.2.2.1.size)
  cases G with
  | false =>
    go_wp2_with fail
    go_ret
    exact ⟨_, rfl, (fun h => by have := HG.out.symm.trans h.1; cases this), fun _ => rfl, UP.out _ B1.out⟩
  | true =>
  go_wp2_with fail
  refine (KC.out _ B1.out).mono ?_
  rintro e w2 ⟨rfl, b2⟩
  have B2 : Hid (Below W0.heap.size W0 w2) := B1.out.trans (b2.mono B1.out.size)
  clear b2 c0 c1 c2 m0 m1 m2 m3 m4 m5
  obtain ⟨⟨c0, c1, c2⟩, m0, m1, m2, m3, m4, m5⟩ := KB.out w2 B2.out
  by_cases hE0 : E = 0
  case neg =>
    have e0 : (E != 0) = true := by simpa using hE0
    have HNE : Hid (E ≠ 0) := hE0
    clear hE0
    go_wp2_with fail
    go_ret
    exact ⟨_, rfl, (fun h => absurd (HEC.out.symm.trans h.2.1) HNE.out), fun _ => rfl, UP.out _ B2.out⟩
  have e0 : (E != 0) = false := by simp [hE0]
  by_cases htr : t = r
  case neg =>
    have e1 : (t != r) = true := by simpa using htr
    have HNE : Hid (t ≠ r) := htr
    clear hE0 htr
    go_wp2_with fail
    go_ret
    exact ⟨_, rfl, (fun h => absurd h.2.2 HNE.out), fun _ => rfl, UP.out _ B2.out⟩
  have e1 : (t != r) = false := by simp [htr]
  have hx0 : x ≠ 0 := wchk_pos (HEC.out.trans hE0)
  have HOK : Hid (tkOk r s D k f t x y L) := ⟨HG.out, HEC.out.trans hE0, htr⟩
  have FIN : Hid (∀ V w', OwnD w' W0.heap.size V (tkD r s D k x (pa, pn, pc)) → Below W0.heap.size W0 w' → ∃ V', Ending.returned V = .returned V' ∧ RtSaid w w' r s D k f t x y L (pa, pn, pc) V') := fun V w' h1 h2 => ⟨V, rfl, fun _ => h1.base HX.out.2.2.1.size, (fun h => absurd HOK.out h), UP.out _ h2⟩
  have HL0 : Hid (w.heap.size + 1 + 1 = W0.heap.size) := HX.out.2.2.2.2.2.symm
  clear hE0 htr
  go_wp2_with fail
  refine (KI.out _ B2.out).mono ?_
  rintro e w3 ⟨rfl, hw⟩
  obtain rfl := hw.symm
  clear hw
  by_cases hn0 : n = 0
  · have n1 : decide ((0 : Int) < (n : Int)) = false := by rw [decide_eq_false_iff_not]; omega
    have n2 : decide (0 < n) = false := by rw [decide_eq_false_iff_not]; omega
    have hxD : ¬ x ∈ D := by
      have := List.length_eq_zero_iff.1 (HX.out.2.2.2.1.len.trans hn0)
      rw [this]
      simp
    have HLP : Hid (lastP D = 0) := lastP_nil (HX.out.2.2.2.1.len.trans hn0)
    rw [decide_eq_false hxD]
    clear hn0
    by_cases hk1 : k = 1
    · have a1 : (k == 1) = true := by simp [hk1]
      have a3 : (k == 3) = false := by simp [hk1]
      have a4 : (k == 4) = false := by simp [hk1]
      by_cases hs0 : s = 0
      · have s0 : (s == 0) = true := by simp [hs0]
        -- n0-1s
        have HT : Hid (tkD r s D k x (pa, pn, pc) = [dSt x (pa, pn, pc), dSn 2 r x true]) := by
          show _ = _
          unfold tkD
          rw [if_pos hk1, if_neg hxD, if_pos hs0, HLP.out]
          rfl
        have HIN : Hid (∀ W : World, InD (W.alloc (.cells #[.int .i64 2, .int .i64 x, .slice pa pn pc, .int .i64 0, .int .i64 0, .int .i64 0, .int .i64 0, .bool false, .slice none 0 0, .int .i64 5, .int .i64 0, .slice none 0 0, .int .i64 2, .int .i64 r, .int .i64 0, .int .i64 x, .bool true, .slice none 0 0] 37)) (some ⟨W.heap.size, 0, none⟩) [dSt x (pa, pn, pc), dSn 2 r x true]) := fun W => inDs (ys := [dSt x (pa, pn, pc), dSn 2 r x true]) (heap_alloc_new W _)
        try clear hk1
        try clear hk3
        try clear hk4
        try clear hs0
        try clear hsx
        try clear hxD
        try clear hx0
        try clear hi
        try clear hx
        try clear hn0
        go_wp2_with fail
        have OV : Hid (OwnD w2 W0.heap.size (.slice none 0 0) []) := OwnD.nil _ _
        have BV : Hid (Below W0.heap.size W0 w2) := B2.out
        refine wp_region_noPanic ?_
        refine wp_region_held_drew (S := (fun u : World => Below W0.heap.size W0 u)) (by kernel_rfl) ?hSan0s (fun hHeld => ?restan0s)
        case hSan0s => exact BV.out.drew
        case restan0s =>
        refine wpAnyH_take (i := 0) (v := (.slice none 0 0)) rfl (by kernel_rfl) (by kernel_rfl) (by kernel_rfl) (fun _ _ _ h => h) (Or.inl ⟨by kernel_rfl, ?hy0n0s⟩) hHeld ?rest0n0s
        case hy0n0s => (intro w' hSw; obtain ⟨⟨p0, p1, p2⟩, q0, q1, q2, q3, q4, q5⟩ := KB.out _ hSw; go_simp; try with_reducible rfl)
        try simp only [Act.put, List.setIfInBounds_toArray, List.set_cons_zero, List.set_cons_succ, List.getElem_toArray, List.getElem_cons_zero, List.getElem_cons_succ]
        refine wpAnyH_take (i := 1) (v := .int .i64 x) rfl (by kernel_rfl) (by kernel_rfl) (by kernel_rfl) (fun _ _ _ h => h) (Or.inl ⟨by kernel_rfl, ?hy1n0s⟩) hHeld ?rest1n0s
        case hy1n0s => (intro w' hSw; obtain ⟨⟨p0, p1, p2⟩, q0, q1, q2, q3, q4, q5⟩ := KB.out _ hSw; go_simp; try with_reducible rfl)
        try simp only [Act.put, List.setIfInBounds_toArray, List.set_cons_zero, List.set_cons_succ, List.getElem_toArray, List.getElem_cons_zero, List.getElem_cons_succ]
        refine wpAnyH_take (i := 2) (v := .pointer (some ⟨w.heap.size + 1, 5, none⟩)) rfl (by kernel_rfl) (by kernel_rfl) (by kernel_rfl) (fun _ _ _ h => h) (Or.inl ⟨by kernel_rfl, ?hy2n0s⟩) hHeld ?rest2n0s
        case hy2n0s => (intro w' hSw; obtain ⟨⟨p0, p1, p2⟩, q0, q1, q2, q3, q4, q5⟩ := KB.out _ hSw; go_simp; try with_reducible rfl)
        try simp only [Act.put, List.setIfInBounds_toArray, List.set_cons_zero, List.set_cons_succ, List.getElem_toArray, List.getElem_cons_zero, List.getElem_cons_succ]
        refine wpAnyH_take (i := 3) (v := .slice pa pn pc) rfl (by kernel_rfl) (by kernel_rfl) (by kernel_rfl) (fun _ _ _ h => h) (Or.inl ⟨by kernel_rfl, ?hy3n0s⟩) hHeld ?rest3n0s
        case hy3n0s => (intro w' hSw; obtain ⟨⟨p0, p1, p2⟩, q0, q1, q2, q3, q4, q5⟩ := KB.out _ hSw; go_simp; try with_reducible rfl)
        try simp only [Act.put, List.setIfInBounds_toArray, List.set_cons_zero, List.set_cons_succ, List.getElem_toArray, List.getElem_cons_zero, List.getElem_cons_succ]
        refine wpAnyH_take (i := 4) (v := .agg #[.int .i64 2, .int .i64 x, .slice pa pn pc, .int .i64 0, .int .i64 0, .int .i64 0, .int .i64 0, .bool false, .slice none 0 0]) rfl (by kernel_rfl) (by kernel_rfl) (by kernel_rfl) (fun _ _ _ h => h) (Or.inl ⟨by kernel_rfl, ?hy4n0s⟩) hHeld ?rest4n0s
        case hy4n0s => (intro w' hSw; obtain ⟨⟨p0, p1, p2⟩, q0, q1, q2, q3, q4, q5⟩ := KB.out _ hSw; go_simp; try with_reducible rfl)
        try simp only [Act.put, List.setIfInBounds_toArray, List.set_cons_zero, List.set_cons_succ, List.getElem_toArray, List.getElem_cons_zero, List.getElem_cons_succ]
        refine wpAnyH_take (i := 5) (v := .agg #[.int .i64 r, .int .i64 s, .slice a n c]) rfl (by kernel_rfl) (by kernel_rfl) (by kernel_rfl) (fun _ _ _ h => h) (Or.inl ⟨by kernel_rfl, ?hy5n0s⟩) hHeld ?rest5n0s
        case hy5n0s => (intro w' hSw; obtain ⟨⟨p0, p1, p2⟩, q0, q1, q2, q3, q4, q5⟩ := KB.out _ hSw; go_simp; try with_reducible rfl)
        try simp only [Act.put, List.setIfInBounds_toArray, List.set_cons_zero, List.set_cons_succ, List.getElem_toArray, List.getElem_cons_zero, List.getElem_cons_succ]
        refine wpAnyH_take (i := 6) (v := .int .i64 x) rfl (by kernel_rfl) (by kernel_rfl) (by kernel_rfl) (fun _ _ _ h => h) (Or.inl ⟨by kernel_rfl, ?hy6n0s⟩) hHeld ?rest6n0s
        case hy6n0s => (intro w' hSw; obtain ⟨⟨p0, p1, p2⟩, q0, q1, q2, q3, q4, q5⟩ := KB.out _ hSw; go_simp; try with_reducible rfl)
        try simp only [Act.put, List.setIfInBounds_toArray, List.set_cons_zero, List.set_cons_succ, List.getElem_toArray, List.getElem_cons_zero, List.getElem_cons_succ]
        refine wpAnyH_ready (rs := [7]) (by kernel_rfl) (by simp) ?_
        refine AllReadyH.cons rfl (fun K hK => ?_) AllReadyH.nil
        go_simp; refine (KD.out _ 2 true).mono ?_; rintro e6 w6 ⟨rfl, b6⟩; have B6 : Hid (Below W0.heap.size W0 w6 ∧ OwnD w6 W0.heap.size (.slice none 0 0) []) := ⟨BV.out.drew.trans (b6.mono BV.out.size), OV.out.keep ((Below.refl _ _).drew.trans b6)⟩; clear b6; go_wp2_with fail
        refine hK.out _ _ ?hS7n0s (fun hHeld => ?rest7n0s)
        case hS7n0s => exact B6.out.1
        clear hK K
        try simp only [Act.put, List.setIfInBounds_toArray, List.set_cons_zero, List.set_cons_succ, List.getElem_toArray, List.getElem_cons_zero, List.getElem_cons_succ]
        refine wpAnyH_ready (rs := [8]) (by kernel_rfl) (by simp) ?_
        refine AllReadyH.cons rfl (fun K hK => ?_) AllReadyH.nil
        go_wp2_with fail
        refine hK.out _ _ ?hS8n0s (fun hHeld => ?rest8n0s)
        case hS8n0s => exact B6.out.1.alloc B6.out.1.size _
        clear hK K
        try simp only [Act.put, List.setIfInBounds_toArray, List.set_cons_zero, List.set_cons_succ, List.getElem_toArray, List.getElem_cons_zero, List.getElem_cons_succ]
        refine wpAnyH_ready (rs := [9]) (by kernel_rfl) (by simp) ?_
        refine AllReadyH.cons rfl (fun K hK => ?_) AllReadyH.nil
        first | rw [if_pos (by kernel_rfl)] | skip
        refine wp_append_ds (.tmp 75) (.tmp 83) rfl W0.heap.size (.slice none 0 0) [] rfl (B6.out.2.keep (below1 w6 (.cells #[.int .i64 2, .int .i64 x, .slice pa pn pc, .int .i64 0, .int .i64 0, .int .i64 0, .int .i64 0, .bool false, .slice none 0 0, .int .i64 5, .int .i64 0, .slice none 0 0, .int .i64 2, .int .i64 r, .int .i64 0, .int .i64 x, .bool true, .slice none 0 0] 37))) w6.heap.size 2 2 [dSt x (pa, pn, pc), dSn 2 r x true] rfl rfl (HIN.out w6) (by simp) (by have := B6.out.1.size; simp; omega) ?_
        intro v9 u9 o9 g9
        have O9 : Hid (OwnD u9 W0.heap.size v9 ([] ++ [dSt x (pa, pn, pc), dSn 2 r x true]) ∧ Below W0.heap.size W0 u9) := ⟨o9, (B6.out.1.alloc B6.out.1.size _).grown g9 (by have := B6.out.1.size; simp; omega) (fun q hq => (B6.out.2.own q hq).1)⟩
        clear o9 g9
        refine hK.out _ _ ?hS9n0s (fun hHeld => ?rest9n0s)
        case hS9n0s => exact O9.out.2
        clear hK K
        try simp only [Act.put, List.setIfInBounds_toArray, List.set_cons_zero, List.set_cons_succ, List.getElem_toArray, List.getElem_cons_zero, List.getElem_cons_succ]
        refine wpAnyH_take (i := 10) (v := v9) rfl (by kernel_rfl) (by kernel_rfl) (by kernel_rfl) (fun _ _ _ h => h) (Or.inl ⟨by kernel_rfl, ?hy10n0s⟩) hHeld ?rest10n0s
        case hy10n0s => (intro w' hSw; obtain ⟨⟨p0, p1, p2⟩, q0, q1, q2, q3, q4, q5⟩ := KB.out _ hSw; go_simp; try with_reducible rfl)
        try simp only [Act.put, List.setIfInBounds_toArray, List.set_cons_zero, List.set_cons_succ, List.getElem_toArray, List.getElem_cons_zero, List.getElem_cons_succ]
        refine wpAnyH_done (by kernel_rfl) ?_ _
        refine NoPanic.normal ?_
        go_wp2_with fail
        go_ret
        exact FIN.out _ _ (by rw [HT.out]; exact O9.out.1) O9.out.2
      have s0 : (s == 0) = false := by simpa using hs0
      obtain ⟨sb, hsb⟩ : ∃ sb, sb = (s == x) := ⟨_, rfl⟩
      have s2 : (s == x) = sb := hsb.symm
      -- n0-1v
      have HT : Hid (tkD r s D k x (pa, pn, pc) = [dSn 2 r x sb]) := by
        show _ = _
        unfold tkD
        rw [if_pos hk1, if_neg hxD, if_neg hs0, hsb]
        by_cases h : s = x
        · rw [if_pos h, show (s == x) = true by simp [h]]
        · rw [if_neg h, show (s == x) = false by simpa using h]
      clear hsb
      try clear hk1
      try clear hk3
      try clear hk4
      try clear hs0
      try clear hsx
      try clear hxD
      try clear hx0
      try clear hi
      try clear hx
      try clear hn0
      go_wp2_with (first | (go_at_call 33; refine (KD.out _ 2 sb).mono ?_; rintro e4 w4 ⟨rfl, b4⟩; have B4 : Hid (Below W0.heap.size W0 w4) := B2.out.trans (b4.mono B2.out.size); clear b4) | (at_builtin; (refine append_ds rfl (.tmp 93) (.tmp 101) rfl W0.heap.size (.slice none 0 0) [] rfl (OwnD.nil _ _) w4.heap.size 1 1 [dSn 2 r x sb] rfl rfl (inD1 w4 (dSn 2 r x sb)) (by simp) (by have := B4.out.size; simp; omega) ?_; intro v5 u5 o5 g5; have O5 : Hid (OwnD u5 W0.heap.size v5 ([] ++ [dSn 2 r x sb]) ∧ Below W0.heap.size W0 u5) := ⟨o5, (B4.out.alloc B4.out.size _).grown g5 (by have := B4.out.size; simp; omega) (fun q hq => by cases hq)⟩; clear o5 g5)))
      go_ret
      exact FIN.out _ _ (by rw [HT.out]; exact O5.out.1) O5.out.2
    have a1 : (k == 1) = false := by simpa using hk1
    by_cases hk3 : k = 3
    · have a3 : (k == 3) = true := by simp [hk3]
      have a4 : (k == 4) = false := by simp [hk3]
      by_cases hsx : s = x
      · have s2 : (s == x) = true := by simp [hsx]
        -- n0-3m
        have HT : Hid (tkD r s D k x (pa, pn, pc) = [dP 3 x noM, dP 1 x noM, dSn 5 r x false]) := by
          show _ = _
          unfold tkD
          rw [if_neg hk1, if_pos hk3, if_pos hsx, show dSe x = dP 1 x noM from if_neg hx0]
          rfl
        have HIN : Hid (∀ W : World, InD (W.alloc (.cells #[.int .i64 3, .int .i64 x, .slice none 0 0, .int .i64 0, .int .i64 0, .int .i64 0, .int .i64 0, .bool false, .slice none 0 0, .int .i64 1, .int .i64 x, .slice none 0 0, .int .i64 0, .int .i64 0, .int .i64 0, .int .i64 0, .bool false, .slice none 0 0, .int .i64 5, .int .i64 0, .slice none 0 0, .int .i64 5, .int .i64 r, .int .i64 0, .int .i64 x, .bool false, .slice none 0 0] 37)) (some ⟨W.heap.size, 0, none⟩) [dP 3 x noM, dP 1 x noM, dSn 5 r x false]) := fun W => inDs (ys := [dP 3 x noM, dP 1 x noM, dSn 5 r x false]) (heap_alloc_new W _)
        try clear hk1
        try clear hk3
        try clear hk4
        try clear hs0
        try clear hsx
        try clear hxD
        try clear hx0
        try clear hi
        try clear hx
        try clear hn0
        go_wp2_with fail
        refine wp_region_noPanic ?_
        refine wp_region_held_drew (S := (fun u : World => Below W0.heap.size W0 u)) (by kernel_rfl) ?hSan0m (fun hHeld => ?restan0m)
        case hSan0m => exact B2.out.drew
        case restan0m =>
        refine wpAnyH_take (i := 0) (v := .slice none 0 0) rfl (by kernel_rfl) (by kernel_rfl) (by kernel_rfl) (fun _ _ _ h => h) (Or.inl ⟨by kernel_rfl, ?hy0n0m⟩) hHeld ?rest0n0m
        case hy0n0m => (intro w' hSw; obtain ⟨⟨p0, p1, p2⟩, q0, q1, q2, q3, q4, q5⟩ := KB.out _ hSw; go_simp; try with_reducible rfl)
        try simp only [Act.put, List.setIfInBounds_toArray, List.set_cons_zero, List.set_cons_succ, List.getElem_toArray, List.getElem_cons_zero, List.getElem_cons_succ]
        refine wpAnyH_take (i := 1) (v := .int .i64 x) rfl (by kernel_rfl) (by kernel_rfl) (by kernel_rfl) (fun _ _ _ h => h) (Or.inl ⟨by kernel_rfl, ?hy1n0m⟩) hHeld ?rest1n0m
        case hy1n0m => (intro w' hSw; obtain ⟨⟨p0, p1, p2⟩, q0, q1, q2, q3, q4, q5⟩ := KB.out _ hSw; go_simp; try with_reducible rfl)
        try simp only [Act.put, List.setIfInBounds_toArray, List.set_cons_zero, List.set_cons_succ, List.getElem_toArray, List.getElem_cons_zero, List.getElem_cons_succ]
        refine wpAnyH_take (i := 2) (v := .agg #[.int .i64 3, .int .i64 x, .slice none 0 0, .int .i64 0, .int .i64 0, .int .i64 0, .int .i64 0, .bool false, .slice none 0 0]) rfl (by kernel_rfl) (by kernel_rfl) (by kernel_rfl) (fun _ _ _ h => h) (Or.inl ⟨by kernel_rfl, ?hy2n0m⟩) hHeld ?rest2n0m
        case hy2n0m => (intro w' hSw; obtain ⟨⟨p0, p1, p2⟩, q0, q1, q2, q3, q4, q5⟩ := KB.out _ hSw; go_simp; try with_reducible rfl)
        try simp only [Act.put, List.setIfInBounds_toArray, List.set_cons_zero, List.set_cons_succ, List.getElem_toArray, List.getElem_cons_zero, List.getElem_cons_succ]
        refine wpAnyH_take (i := 3) (v := .int .i64 x) rfl (by kernel_rfl) (by kernel_rfl) (by kernel_rfl) (fun _ _ _ h => h) (Or.inl ⟨by kernel_rfl, ?hy3n0m⟩) hHeld ?rest3n0m
        case hy3n0m => (intro w' hSw; obtain ⟨⟨p0, p1, p2⟩, q0, q1, q2, q3, q4, q5⟩ := KB.out _ hSw; go_simp; try with_reducible rfl)
        try simp only [Act.put, List.setIfInBounds_toArray, List.set_cons_zero, List.set_cons_succ, List.getElem_toArray, List.getElem_cons_zero, List.getElem_cons_succ]
        refine wpAnyH_take (i := 5) (v := .agg #[.int .i64 r, .int .i64 s, .slice a n c]) rfl (by kernel_rfl) (by kernel_rfl) (by kernel_rfl) (fun _ _ _ h => h) (Or.inl ⟨by kernel_rfl, ?hy5n0m⟩) hHeld ?rest5n0m
        case hy5n0m => (intro w' hSw; obtain ⟨⟨p0, p1, p2⟩, q0, q1, q2, q3, q4, q5⟩ := KB.out _ hSw; go_simp; try with_reducible rfl)
        try simp only [Act.put, List.setIfInBounds_toArray, List.set_cons_zero, List.set_cons_succ, List.getElem_toArray, List.getElem_cons_zero, List.getElem_cons_succ]
        refine wpAnyH_take (i := 6) (v := .int .i64 x) rfl (by kernel_rfl) (by kernel_rfl) (by kernel_rfl) (fun _ _ _ h => h) (Or.inl ⟨by kernel_rfl, ?hy6n0m⟩) hHeld ?rest6n0m
        case hy6n0m => (intro w' hSw; obtain ⟨⟨p0, p1, p2⟩, q0, q1, q2, q3, q4, q5⟩ := KB.out _ hSw; go_simp; try with_reducible rfl)
        try simp only [Act.put, List.setIfInBounds_toArray, List.set_cons_zero, List.set_cons_succ, List.getElem_toArray, List.getElem_cons_zero, List.getElem_cons_succ]
        refine wpAnyH_ready (rs := [4]) (by kernel_rfl) (by simp) ?_
        refine AllReadyH.cons rfl (fun K hK => ?_) AllReadyH.nil
        go_simp; refine (KE.out _ x).mono ?_; rintro e5 w5 ⟨rfl, b5⟩; have B5 : Hid (Below W0.heap.size W0 w5) := B2.out.drew.trans (b5.mono B2.out.size); clear b5; go_wp2_with fail
        refine hK.out _ _ ?hS4n0m (fun hHeld => ?rest4n0m)
        case hS4n0m => exact B5.out
        clear hK K
        try simp only [Act.put, List.setIfInBounds_toArray, List.set_cons_zero, List.set_cons_succ, List.getElem_toArray, List.getElem_cons_zero, List.getElem_cons_succ]
        refine wpAnyH_ready (rs := [7]) (by kernel_rfl) (by simp) ?_
        refine AllReadyH.cons rfl (fun K hK => ?_) AllReadyH.nil
        go_simp; refine (KD.out _ 5 false).mono ?_; rintro e6 w6 ⟨rfl, b6⟩; have B6 : Hid (Below W0.heap.size W0 w6) := B5.out.trans (b6.mono B5.out.size); clear b6; go_wp2_with fail
        refine hK.out _ _ ?hS7n0m (fun hHeld => ?rest7n0m)
        case hS7n0m => exact B6.out
        clear hK K
        try simp only [Act.put, List.setIfInBounds_toArray, List.set_cons_zero, List.set_cons_succ, List.getElem_toArray, List.getElem_cons_zero, List.getElem_cons_succ]
        refine wpAnyH_ready (rs := [8]) (by kernel_rfl) (by simp) ?_
        refine AllReadyH.cons rfl (fun K hK => ?_) AllReadyH.nil
        go_wp2_with fail
        refine hK.out _ _ ?hS8n0m (fun hHeld => ?rest8n0m)
        case hS8n0m => exact B6.out.alloc B6.out.size _
        clear hK K
        try simp only [Act.put, List.setIfInBounds_toArray, List.set_cons_zero, List.set_cons_succ, List.getElem_toArray, List.getElem_cons_zero, List.getElem_cons_succ]
        refine wpAnyH_ready (rs := [9]) (by kernel_rfl) (by simp) ?_
        refine AllReadyH.cons rfl (fun K hK => ?_) AllReadyH.nil
        first | rw [if_pos (by kernel_rfl)] | skip
        refine wp_append_ds (.tmp 132) (.tmp 140) rfl W0.heap.size (.slice none 0 0) [] rfl (OwnD.nil _ _) w6.heap.size 3 3 [dP 3 x noM, dP 1 x noM, dSn 5 r x false] rfl rfl (HIN.out w6) (by simp) (by have := B6.out.size; simp; omega) ?_
        intro v9 u9 o9 g9
        have O9 : Hid (OwnD u9 W0.heap.size v9 ([] ++ [dP 3 x noM, dP 1 x noM, dSn 5 r x false]) ∧ Below W0.heap.size W0 u9) := ⟨o9, (B6.out.alloc B6.out.size _).grown g9 (by have := B6.out.size; simp; omega) (fun q hq => by cases hq)⟩
        clear o9 g9
        refine hK.out _ _ ?hS9n0m (fun hHeld => ?rest9n0m)
        case hS9n0m => exact O9.out.2
        clear hK K
        try simp only [Act.put, List.setIfInBounds_toArray, List.set_cons_zero, List.set_cons_succ, List.getElem_toArray, List.getElem_cons_zero, List.getElem_cons_succ]
        refine wpAnyH_take (i := 10) (v := v9) rfl (by kernel_rfl) (by kernel_rfl) (by kernel_rfl) (fun _ _ _ h => h) (Or.inl ⟨by kernel_rfl, ?hy10n0m⟩) hHeld ?rest10n0m
        case hy10n0m => (intro w' hSw; obtain ⟨⟨p0, p1, p2⟩, q0, q1, q2, q3, q4, q5⟩ := KB.out _ hSw; go_simp; try with_reducible rfl)
        try simp only [Act.put, List.setIfInBounds_toArray, List.set_cons_zero, List.set_cons_succ, List.getElem_toArray, List.getElem_cons_zero, List.getElem_cons_succ]
        refine wpAnyH_done (by kernel_rfl) ?_ _
        refine NoPanic.normal ?_
        go_wp2_with fail
        go_ret
        exact FIN.out _ _ (by rw [HT.out]; exact O9.out.1) O9.out.2
      have s2 : (s == x) = false := by simpa using hsx
      -- n0-3n
      have HT : Hid (tkD r s D k x (pa, pn, pc) = []) := by show _ = _; unfold tkD; rw [if_neg hk1, if_pos hk3, if_neg hsx, if_neg hxD]
      try clear hk1
      try clear hk3
      try clear hk4
      try clear hs0
      try clear hsx
      try clear hxD
      try clear hx0
      try clear hi
      try clear hx
      try clear hn0
      go_wp2_with fail
      go_ret
      exact FIN.out _ _ (by rw [HT.out]; exact OwnD.nil _ _) B2.out
    have a3 : (k == 3) = false := by simpa using hk3
    by_cases hk4 : k = 4
    · have a4 : (k == 4) = true := by simp [hk4]
      by_cases hsx : s = x
      · have s2 : (s == x) = true := by simp [hsx]
        -- n0-4a
        have HT : Hid (tkD r s D k x (pa, pn, pc) = [dP 4 x noM]) := by show _ = _; unfold tkD; rw [if_neg hk1, if_neg hk3, if_pos hk4, if_pos hsx]
        try clear hk1
        try clear hk3
        try clear hk4
        try clear hs0
        try clear hsx
        try clear hxD
        try clear hx0
        try clear hi
        try clear hx
        try clear hn0
        go_wp2_with ((at_builtin; (refine append_ds rfl (.tmp 152) (.tmp 155) rfl W0.heap.size (.slice none 0 0) [] rfl (OwnD.nil _ _) w2.heap.size 1 1 [dP 4 x noM] rfl rfl (inD1 w2 (dP 4 x noM)) (by simp) (by have := B2.out.size; simp; omega) ?_; intro v5 u5 o5 g5; have O5 : Hid (OwnD u5 W0.heap.size v5 ([] ++ [dP 4 x noM]) ∧ Below W0.heap.size W0 u5) := ⟨o5, (B2.out.alloc B2.out.size _).grown g5 (by have := B2.out.size; simp; omega) (fun q hq => by cases hq)⟩; clear o5 g5)))
        go_ret
        exact FIN.out _ _ (by rw [HT.out]; exact O5.out.1) O5.out.2
      have s2 : (s == x) = false := by simpa using hsx
      -- n0-4n
      have HT : Hid (tkD r s D k x (pa, pn, pc) = []) := by show _ = _; unfold tkD; rw [if_neg hk1, if_neg hk3, if_pos hk4, if_neg hsx]
      try clear hk1
      try clear hk3
      try clear hk4
      try clear hs0
      try clear hsx
      try clear hxD
      try clear hx0
      try clear hi
      try clear hx
      try clear hn0
      go_wp2_with fail
      go_ret
      exact FIN.out _ _ (by rw [HT.out]; exact OwnD.nil _ _) B2.out
    have a4 : (k == 4) = false := by simpa using hk4
    -- n0-o
    have HT : Hid (tkD r s D k x (pa, pn, pc) = []) := by show _ = _; unfold tkD; rw [if_neg hk1, if_neg hk3, if_neg hk4]
    try clear hk1
    try clear hk3
    try clear hk4
    try clear hs0
    try clear hsx
    try clear hxD
    try clear hx0
    try clear hi
    try clear hx
    try clear hn0
    go_wp2_with fail
    go_ret
    exact FIN.out _ _ (by rw [HT.out]; exact OwnD.nil _ _) B2.out
  have n1 : decide ((0 : Int) < (n : Int)) = true := by rw [decide_eq_true_eq]; omega
  have n2 : decide (0 < n) = true := by rw [decide_eq_true_eq]; omega
  obtain ⟨i, hi⟩ : ∃ i, n = i + 1 := ⟨n - 1, by omega⟩
  obtain ⟨l9, hx⟩ : ∃ x, D[i]? = some x := ⟨D[i]'(by rw [HX.out.2.2.2.1.len]; omega), List.getElem?_eq_getElem _⟩
  have HLP : Hid (lastP D = l9) := lastP_at (by rw [HX.out.2.2.2.1.len, hi]; exact hx)
  have HL9 : Hid (l9 ≠ 0) := gd_last HG.out (List.mem_of_getElem? hx)
  have HM9 : Hid (l9 ∈ D) := List.mem_of_getElem? hx
  obtain ⟨b, off, rfl, _, cx⟩ := (HX.out.2.2.2.1.inz.keep B2.out).at hx
  have ri : IntKind.i64.wrap ((n : Int) - 1) = (i : Int) := by rw [IntKind.wrap_i64]; omega
  have hil : (i : Int) < (n : Int) := by omega
  have hil2 : i < n := by omega
  have KX : Hid (∀ u, Below W0.heap.size W0 u → u.cell? ⟨b, off + i, none⟩ = some (.int .i64 l9)) := fun u hu => by
    obtain ⟨b', off', e, _, cx'⟩ := (HX.out.2.2.2.1.inz.keep hu).at hx
    cases e
    exact cx'
  clear hi hx hn0
  by_cases hlx : l9 = x
  · subst hlx
    have l1 : (l9 == l9) = true := by simp
    have hxD : l9 ∈ D := HM9.out
    have HSX : Hid (s ≠ l9) := gd_not HG.out hxD hx0
    rw [decide_eq_true hxD]
    by_cases hk1 : k = 1
    · have a1 : (k == 1) = true := by simp [hk1]
      have a3 : (k == 3) = false := by simp [hk1]
      have a4 : (k == 4) = false := by simp [hk1]
      -- eq-1c
      have HT : Hid (tkD r s D k l9 (pa, pn, pc) = []) := by show _ = _; unfold tkD; rw [if_pos hk1, if_pos hxD]
      try clear hk1
      try clear hk3
      try clear hk4
      try clear hs0
      try clear hsx
      try clear hxD
      try clear hx0
      try clear hi
      try clear hx
      try clear hn0
      go_wp2_with fail
      go_ret
      exact FIN.out _ _ (by rw [HT.out]; exact OwnD.nil _ _) B2.out
    have a1 : (k == 1) = false := by simpa using hk1
    by_cases hk3 : k = 3
    · have a3 : (k == 3) = true := by simp [hk3]
      have a4 : (k == 4) = false := by simp [hk3]
      -- eq-3c
      have HT : Hid (tkD r s D k l9 (pa, pn, pc) = [dP 1 l9 noM] ++ [dSn 5 r l9 false]) := by show _ = _; unfold tkD; rw [if_neg hk1, if_pos hk3, if_neg HSX.out, if_pos hxD, HLP.out, if_pos rfl, show dSe l9 = dP 1 l9 noM from if_neg hx0]; rfl
      try clear hk1
      try clear hk3
      try clear hk4
      try clear hs0
      try clear hsx
      try clear hxD
      try clear hx0
      try clear hi
      try clear hx
      try clear hn0
      go_wp2_with (first | (go_at_call 32; refine (KE.out _ l9).mono ?_; rintro e4 w4 ⟨rfl, b4⟩; have B4 : Hid (Below W0.heap.size W0 w4) := B2.out.trans (b4.mono B2.out.size); clear b4) | (at_builtin; (refine append_ds rfl (.tmp 111) (.tmp 114) rfl W0.heap.size (.slice none 0 0) [] rfl (OwnD.nil _ _) w4.heap.size 1 1 [dP 1 l9 noM] rfl rfl (inD1 w4 (dP 1 l9 noM)) (by simp) (by have := B4.out.size; simp; omega) ?_; intro v5 u5 o5 g5; have O5 : Hid (OwnD u5 W0.heap.size v5 ([] ++ [dP 1 l9 noM]) ∧ Below W0.heap.size W0 u5) := ⟨o5, (B4.out.alloc B4.out.size _).grown g5 (by have := B4.out.size; simp; omega) (fun q hq => by cases hq)⟩; obtain ⟨aV, cV, rfl, -⟩ := o5.slice; obtain ⟨nV, hnV⟩ : ∃ nV, nV = ([] ++ [dP 1 l9 noM] : List Dd).length := ⟨_, rfl⟩; rw [← hnV] at O5; rw [← hnV]; clear o5 g5 hnV; obtain ⟨⟨c0, c1, c2⟩, m0, m1, m2, m3, m4, m5⟩ := KB.out u5 O5.out.2)) | (go_at_call 33; refine (KD.out _ 5 false).mono ?_; rintro e6 w6 ⟨rfl, b6⟩; have B6 : Hid (Below W0.heap.size W0 w6 ∧ OwnD w6 W0.heap.size (.slice aV nV cV) ([] ++ [dP 1 l9 noM])) := ⟨O5.out.2.trans (b6.mono O5.out.2.size), O5.out.1.keep b6⟩; clear b6) | (at_builtin; refine append_ds rfl (.tmp 116) (.tmp 120) rfl W0.heap.size (.slice aV nV cV) ([] ++ [dP 1 l9 noM]) rfl (B6.out.2.keep (below1 _ _)) w6.heap.size 1 1 [dSn 5 r l9 false] rfl rfl (inD1 w6 (dSn 5 r l9 false)) (by simp) (by have := B6.out.1.size; simp; omega) ?_; intro v9 u9 o9 g9; have O9 : Hid (OwnD u9 W0.heap.size v9 (([] ++ [dP 1 l9 noM]) ++ [dSn 5 r l9 false]) ∧ Below W0.heap.size W0 u9) := ⟨o9, (B6.out.1.alloc B6.out.1.size _).grown g9 (by have := B6.out.1.size; simp; omega) (fun q hq => (B6.out.2.own q hq).1)⟩; clear o9 g9))
      go_ret
      exact FIN.out _ _ (by rw [HT.out]; exact O9.out.1) O9.out.2
    have a3 : (k == 3) = false := by simpa using hk3
    by_cases hk4 : k = 4
    · have a4 : (k == 4) = true := by simp [hk4]
      have s2 : (s == l9) = false := by simpa using HSX.out
      -- eq-4c
      have HT : Hid (tkD r s D k l9 (pa, pn, pc) = []) := by show _ = _; unfold tkD; rw [if_neg hk1, if_neg hk3, if_pos hk4, if_neg HSX.out]
      try clear hk1
      try clear hk3
      try clear hk4
      try clear hs0
      try clear hsx
      try clear hxD
      try clear hx0
      try clear hi
      try clear hx
      try clear hn0
      go_wp2_with fail
      go_ret
      exact FIN.out _ _ (by rw [HT.out]; exact OwnD.nil _ _) B2.out
    have a4 : (k == 4) = false := by simpa using hk4
    -- eq-o
    have HT : Hid (tkD r s D k l9 (pa, pn, pc) = []) := by show _ = _; unfold tkD; rw [if_neg hk1, if_neg hk3, if_neg hk4]
    try clear hk1
    try clear hk3
    try clear hk4
    try clear hs0
    try clear hsx
    try clear hxD
    try clear hx0
    try clear hi
    try clear hx
    try clear hn0
    go_wp2_with fail
    go_ret
    exact FIN.out _ _ (by rw [HT.out]; exact OwnD.nil _ _) B2.out
  have l1 : (l9 == x) = false := by simpa using hlx
  have HNL : Hid (¬ x = l9) := fun e => hlx e.symm
  clear hlx
  by_cases hxD : x ∈ D
  · have HSX : Hid (s ≠ x) := gd_not HG.out hxD hx0
    rw [decide_eq_true hxD]
    by_cases hk1 : k = 1
    · have a1 : (k == 1) = true := by simp [hk1]
      have a3 : (k == 3) = false := by simp [hk1]
      have a4 : (k == 4) = false := by simp [hk1]
      -- ne-1c
      have HT : Hid (tkD r s D k x (pa, pn, pc) = []) := by show _ = _; unfold tkD; rw [if_pos hk1, if_pos hxD]
      try clear hk1
      try clear hk3
      try clear hk4
      try clear hs0
      try clear hsx
      try clear hxD
      try clear hx0
      try clear hi
      try clear hx
      try clear hn0
      go_wp2_with fail
      go_ret
      exact FIN.out _ _ (by rw [HT.out]; exact OwnD.nil _ _) B2.out
    have a1 : (k == 1) = false := by simpa using hk1
    by_cases hk3 : k = 3
    · have a3 : (k == 3) = true := by simp [hk3]
      have a4 : (k == 4) = false := by simp [hk3]
      -- ne-3c
      have HT : Hid (tkD r s D k x (pa, pn, pc) = [dSn 5 r x false]) := by show _ = _; unfold tkD; rw [if_neg hk1, if_pos hk3, if_neg HSX.out, if_pos hxD, HLP.out, if_neg HNL.out]; rfl
      try clear hk1
      try clear hk3
      try clear hk4
      try clear hs0
      try clear hsx
      try clear hxD
      try clear hx0
      try clear hi
      try clear hx
      try clear hn0
      go_wp2_with (first | (go_at_call 33; refine (KD.out _ 5 false).mono ?_; rintro e4 w4 ⟨rfl, b4⟩; have B4 : Hid (Below W0.heap.size W0 w4) := B2.out.trans (b4.mono B2.out.size); clear b4) | (at_builtin; (refine append_ds rfl (.tmp 116) (.tmp 120) rfl W0.heap.size (.slice none 0 0) [] rfl (OwnD.nil _ _) w4.heap.size 1 1 [dSn 5 r x false] rfl rfl (inD1 w4 (dSn 5 r x false)) (by simp) (by have := B4.out.size; simp; omega) ?_; intro v5 u5 o5 g5; have O5 : Hid (OwnD u5 W0.heap.size v5 ([] ++ [dSn 5 r x false]) ∧ Below W0.heap.size W0 u5) := ⟨o5, (B4.out.alloc B4.out.size _).grown g5 (by have := B4.out.size; simp; omega) (fun q hq => by cases hq)⟩; clear o5 g5)))
      go_ret
      exact FIN.out _ _ (by rw [HT.out]; exact O5.out.1) O5.out.2
    have a3 : (k == 3) = false := by simpa using hk3
    by_cases hk4 : k = 4
    · have a4 : (k == 4) = true := by simp [hk4]
      have s2 : (s == x) = false := by simpa using HSX.out
      -- ne-4c
      have HT : Hid (tkD r s D k x (pa, pn, pc) = []) := by show _ = _; unfold tkD; rw [if_neg hk1, if_neg hk3, if_pos hk4, if_neg HSX.out]
      try clear hk1
      try clear hk3
      try clear hk4
      try clear hs0
      try clear hsx
      try clear hxD
      try clear hx0
      try clear hi
      try clear hx
      try clear hn0
      go_wp2_with fail
      go_ret
      exact FIN.out _ _ (by rw [HT.out]; exact OwnD.nil _ _) B2.out
    have a4 : (k == 4) = false := by simpa using hk4
    -- ne-o
    have HT : Hid (tkD r s D k x (pa, pn, pc) = []) := by show _ = _; unfold tkD; rw [if_neg hk1, if_neg hk3, if_neg hk4]
    try clear hk1
    try clear hk3
    try clear hk4
    try clear hs0
    try clear hsx
    try clear hxD
    try clear hx0
    try clear hi
    try clear hx
    try clear hn0
    go_wp2_with fail
    go_ret
    exact FIN.out _ _ (by rw [HT.out]; exact OwnD.nil _ _) B2.out
  · rw [decide_eq_false hxD]
    by_cases hk1 : k = 1
    · have a1 : (k == 1) = true := by simp [hk1]
      have a3 : (k == 3) = false := by simp [hk1]
      have a4 : (k == 4) = false := by simp [hk1]
      by_cases hs0 : s = 0
      · have s0 : (s == 0) = true := by simp [hs0]
        -- ne-1s
        have HT : Hid (tkD r s D k x (pa, pn, pc) = [dP 1 l9 noM] ++ [dSt x (pa, pn, pc), dSn 2 r x true]) := by
          show _ = _
          unfold tkD
          rw [if_pos hk1, if_neg hxD, if_pos hs0, HLP.out, show dSe l9 = dP 1 l9 noM from if_neg HL9.out]
          rfl
        have HIN : Hid (∀ W : World, InD (W.alloc (.cells #[.int .i64 2, .int .i64 x, .slice pa pn pc, .int .i64 0, .int .i64 0, .int .i64 0, .int .i64 0, .bool false, .slice none 0 0, .int .i64 5, .int .i64 0, .slice none 0 0, .int .i64 2, .int .i64 r, .int .i64 0, .int .i64 x, .bool true, .slice none 0 0] 37)) (some ⟨W.heap.size, 0, none⟩) [dSt x (pa, pn, pc), dSn 2 r x true]) := fun W => inDs (ys := [dSt x (pa, pn, pc), dSn 2 r x true]) (heap_alloc_new W _)
        try clear hk1
        try clear hk3
        try clear hk4
        try clear hs0
        try clear hsx
        try clear hxD
        try clear hx0
        try clear hi
        try clear hx
        try clear hn0
        go_wp2_with (first | (go_at_call 32; refine (KE.out _ l9).mono ?_; rintro e4 w4 ⟨rfl, b4⟩; have B4 : Hid (Below W0.heap.size W0 w4) := B2.out.trans (b4.mono B2.out.size); clear b4) | (at_builtin; (refine append_ds rfl (.tmp 63) (.tmp 73) rfl W0.heap.size (.slice none 0 0) [] rfl (OwnD.nil _ _) w4.heap.size 1 1 [dP 1 l9 noM] rfl rfl (inD1 w4 (dP 1 l9 noM)) (by simp) (by have := B4.out.size; simp; omega) ?_; intro v5 u5 o5 g5; have O5 : Hid (OwnD u5 W0.heap.size v5 ([] ++ [dP 1 l9 noM]) ∧ Below W0.heap.size W0 u5) := ⟨o5, (B4.out.alloc B4.out.size _).grown g5 (by have := B4.out.size; simp; omega) (fun q hq => by cases hq)⟩; clear o5 g5)))
        obtain ⟨aV, cV, rfl, -⟩ := O5.out.1.slice
        obtain ⟨nV, hnV⟩ : ∃ nV, nV = ([] ++ [dP 1 l9 noM] : List Dd).length := ⟨_, rfl⟩
        rw [← hnV] at O5 ⊢
        have OV : Hid (OwnD u5 W0.heap.size (.slice aV nV cV) [dP 1 l9 noM]) := O5.out.1
        have BV : Hid (Below W0.heap.size W0 u5) := O5.out.2
        clear hnV O5
        refine wp_region_noPanic ?_
        refine wp_region_held_drew (S := (fun u : World => Below W0.heap.size W0 u)) (by kernel_rfl) ?hSanes (fun hHeld => ?restanes)
        case hSanes => exact BV.out.drew
        case restanes =>
        refine wpAnyH_take (i := 0) (v := (.slice aV nV cV)) rfl (by kernel_rfl) (by kernel_rfl) (by kernel_rfl) (fun _ _ _ h => h) (Or.inl ⟨by kernel_rfl, ?hy0nes⟩) hHeld ?rest0nes
        case hy0nes => (intro w' hSw; obtain ⟨⟨p0, p1, p2⟩, q0, q1, q2, q3, q4, q5⟩ := KB.out _ hSw; go_simp; try with_reducible rfl)
        try simp only [Act.put, List.setIfInBounds_toArray, List.set_cons_zero, List.set_cons_succ, List.getElem_toArray, List.getElem_cons_zero, List.getElem_cons_succ]
        refine wpAnyH_take (i := 1) (v := .int .i64 x) rfl (by kernel_rfl) (by kernel_rfl) (by kernel_rfl) (fun _ _ _ h => h) (Or.inl ⟨by kernel_rfl, ?hy1nes⟩) hHeld ?rest1nes
        case hy1nes => (intro w' hSw; obtain ⟨⟨p0, p1, p2⟩, q0, q1, q2, q3, q4, q5⟩ := KB.out _ hSw; go_simp; try with_reducible rfl)
        try simp only [Act.put, List.setIfInBounds_toArray, List.set_cons_zero, List.set_cons_succ, List.getElem_toArray, List.getElem_cons_zero, List.getElem_cons_succ]
        refine wpAnyH_take (i := 2) (v := .pointer (some ⟨w.heap.size + 1, 5, none⟩)) rfl (by kernel_rfl) (by kernel_rfl) (by kernel_rfl) (fun _ _ _ h => h) (Or.inl ⟨by kernel_rfl, ?hy2nes⟩) hHeld ?rest2nes
        case hy2nes => (intro w' hSw; obtain ⟨⟨p0, p1, p2⟩, q0, q1, q2, q3, q4, q5⟩ := KB.out _ hSw; go_simp; try with_reducible rfl)
        try simp only [Act.put, List.setIfInBounds_toArray, List.set_cons_zero, List.set_cons_succ, List.getElem_toArray, List.getElem_cons_zero, List.getElem_cons_succ]
        refine wpAnyH_take (i := 3) (v := .slice pa pn pc) rfl (by kernel_rfl) (by kernel_rfl) (by kernel_rfl) (fun _ _ _ h => h) (Or.inl ⟨by kernel_rfl, ?hy3nes⟩) hHeld ?rest3nes
        case hy3nes => (intro w' hSw; obtain ⟨⟨p0, p1, p2⟩, q0, q1, q2, q3, q4, q5⟩ := KB.out _ hSw; go_simp; try with_reducible rfl)
        try simp only [Act.put, List.setIfInBounds_toArray, List.set_cons_zero, List.set_cons_succ, List.getElem_toArray, List.getElem_cons_zero, List.getElem_cons_succ]
        refine wpAnyH_take (i := 4) (v := .agg #[.int .i64 2, .int .i64 x, .slice pa pn pc, .int .i64 0, .int .i64 0, .int .i64 0, .int .i64 0, .bool false, .slice none 0 0]) rfl (by kernel_rfl) (by kernel_rfl) (by kernel_rfl) (fun _ _ _ h => h) (Or.inl ⟨by kernel_rfl, ?hy4nes⟩) hHeld ?rest4nes
        case hy4nes => (intro w' hSw; obtain ⟨⟨p0, p1, p2⟩, q0, q1, q2, q3, q4, q5⟩ := KB.out _ hSw; go_simp; try with_reducible rfl)
        try simp only [Act.put, List.setIfInBounds_toArray, List.set_cons_zero, List.set_cons_succ, List.getElem_toArray, List.getElem_cons_zero, List.getElem_cons_succ]
        refine wpAnyH_take (i := 5) (v := .agg #[.int .i64 r, .int .i64 s, .slice (some ⟨b, off, none⟩) n c]) rfl (by kernel_rfl) (by kernel_rfl) (by kernel_rfl) (fun _ _ _ h => h) (Or.inl ⟨by kernel_rfl, ?hy5nes⟩) hHeld ?rest5nes
        case hy5nes => (intro w' hSw; obtain ⟨⟨p0, p1, p2⟩, q0, q1, q2, q3, q4, q5⟩ := KB.out _ hSw; go_simp; try with_reducible rfl)
        try simp only [Act.put, List.setIfInBounds_toArray, List.set_cons_zero, List.set_cons_succ, List.getElem_toArray, List.getElem_cons_zero, List.getElem_cons_succ]
        refine wpAnyH_take (i := 6) (v := .int .i64 x) rfl (by kernel_rfl) (by kernel_rfl) (by kernel_rfl) (fun _ _ _ h => h) (Or.inl ⟨by kernel_rfl, ?hy6nes⟩) hHeld ?rest6nes
        case hy6nes => (intro w' hSw; obtain ⟨⟨p0, p1, p2⟩, q0, q1, q2, q3, q4, q5⟩ := KB.out _ hSw; go_simp; try with_reducible rfl)
        try simp only [Act.put, List.setIfInBounds_toArray, List.set_cons_zero, List.set_cons_succ, List.getElem_toArray, List.getElem_cons_zero, List.getElem_cons_succ]
        refine wpAnyH_ready (rs := [7]) (by kernel_rfl) (by simp) ?_
        refine AllReadyH.cons rfl (fun K hK => ?_) AllReadyH.nil
        go_simp; refine (KD.out _ 2 true).mono ?_; rintro e6 w6 ⟨rfl, b6⟩; have B6 : Hid (Below W0.heap.size W0 w6 ∧ OwnD w6 W0.heap.size (.slice aV nV cV) [dP 1 l9 noM]) := ⟨BV.out.drew.trans (b6.mono BV.out.size), OV.out.keep ((Below.refl _ _).drew.trans b6)⟩; clear b6; go_wp2_with fail
        refine hK.out _ _ ?hS7nes (fun hHeld => ?rest7nes)
        case hS7nes => exact B6.out.1
        clear hK K
        try simp only [Act.put, List.setIfInBounds_toArray, List.set_cons_zero, List.set_cons_succ, List.getElem_toArray, List.getElem_cons_zero, List.getElem_cons_succ]
        refine wpAnyH_ready (rs := [8]) (by kernel_rfl) (by simp) ?_
        refine AllReadyH.cons rfl (fun K hK => ?_) AllReadyH.nil
        go_wp2_with fail
        refine hK.out _ _ ?hS8nes (fun hHeld => ?rest8nes)
        case hS8nes => exact B6.out.1.alloc B6.out.1.size _
        clear hK K
        try simp only [Act.put, List.setIfInBounds_toArray, List.set_cons_zero, List.set_cons_succ, List.getElem_toArray, List.getElem_cons_zero, List.getElem_cons_succ]
        refine wpAnyH_ready (rs := [9]) (by kernel_rfl) (by simp) ?_
        refine AllReadyH.cons rfl (fun K hK => ?_) AllReadyH.nil
        first | rw [if_pos (by kernel_rfl)] | skip
        refine wp_append_ds (.tmp 75) (.tmp 83) rfl W0.heap.size (.slice aV nV cV) [dP 1 l9 noM] rfl (B6.out.2.keep (below1 w6 (.cells #[.int .i64 2, .int .i64 x, .slice pa pn pc, .int .i64 0, .int .i64 0, .int .i64 0, .int .i64 0, .bool false, .slice none 0 0, .int .i64 5, .int .i64 0, .slice none 0 0, .int .i64 2, .int .i64 r, .int .i64 0, .int .i64 x, .bool true, .slice none 0 0] 37))) w6.heap.size 2 2 [dSt x (pa, pn, pc), dSn 2 r x true] rfl rfl (HIN.out w6) (by simp) (by have := B6.out.1.size; simp; omega) ?_
        intro v9 u9 o9 g9
        have O9 : Hid (OwnD u9 W0.heap.size v9 ([dP 1 l9 noM] ++ [dSt x (pa, pn, pc), dSn 2 r x true]) ∧ Below W0.heap.size W0 u9) := ⟨o9, (B6.out.1.alloc B6.out.1.size _).grown g9 (by have := B6.out.1.size; simp; omega) (fun q hq => (B6.out.2.own q hq).1)⟩
        clear o9 g9
        refine hK.out _ _ ?hS9nes (fun hHeld => ?rest9nes)
        case hS9nes => exact O9.out.2
        clear hK K
        try simp only [Act.put, List.setIfInBounds_toArray, List.set_cons_zero, List.set_cons_succ, List.getElem_toArray, List.getElem_cons_zero, List.getElem_cons_succ]
        refine wpAnyH_take (i := 10) (v := v9) rfl (by kernel_rfl) (by kernel_rfl) (by kernel_rfl) (fun _ _ _ h => h) (Or.inl ⟨by kernel_rfl, ?hy10nes⟩) hHeld ?rest10nes
        case hy10nes => (intro w' hSw; obtain ⟨⟨p0, p1, p2⟩, q0, q1, q2, q3, q4, q5⟩ := KB.out _ hSw; go_simp; try with_reducible rfl)
        try simp only [Act.put, List.setIfInBounds_toArray, List.set_cons_zero, List.set_cons_succ, List.getElem_toArray, List.getElem_cons_zero, List.getElem_cons_succ]
        refine wpAnyH_done (by kernel_rfl) ?_ _
        refine NoPanic.normal ?_
        go_wp2_with fail
        go_ret
        exact FIN.out _ _ (by rw [HT.out]; exact O9.out.1) O9.out.2
      have s0 : (s == 0) = false := by simpa using hs0
      obtain ⟨sb, hsb⟩ : ∃ sb, sb = (s == x) := ⟨_, rfl⟩
      have s2 : (s == x) = sb := hsb.symm
      -- ne-1v
      have HT : Hid (tkD r s D k x (pa, pn, pc) = [dSn 2 r x sb]) := by
        show _ = _
        unfold tkD
        rw [if_pos hk1, if_neg hxD, if_neg hs0, hsb]
        by_cases h : s = x
        · rw [if_pos h, show (s == x) = true by simp [h]]
        · rw [if_neg h, show (s == x) = false by simpa using h]
      clear hsb
      try clear hk1
      try clear hk3
      try clear hk4
      try clear hs0
      try clear hsx
      try clear hxD
      try clear hx0
      try clear hi
      try clear hx
      try clear hn0
      go_wp2_with (first | (go_at_call 33; refine (KD.out _ 2 sb).mono ?_; rintro e4 w4 ⟨rfl, b4⟩; have B4 : Hid (Below W0.heap.size W0 w4) := B2.out.trans (b4.mono B2.out.size); clear b4) | (at_builtin; (refine append_ds rfl (.tmp 93) (.tmp 101) rfl W0.heap.size (.slice none 0 0) [] rfl (OwnD.nil _ _) w4.heap.size 1 1 [dSn 2 r x sb] rfl rfl (inD1 w4 (dSn 2 r x sb)) (by simp) (by have := B4.out.size; simp; omega) ?_; intro v5 u5 o5 g5; have O5 : Hid (OwnD u5 W0.heap.size v5 ([] ++ [dSn 2 r x sb]) ∧ Below W0.heap.size W0 u5) := ⟨o5, (B4.out.alloc B4.out.size _).grown g5 (by have := B4.out.size; simp; omega) (fun q hq => by cases hq)⟩; clear o5 g5)))
      go_ret
      exact FIN.out _ _ (by rw [HT.out]; exact O5.out.1) O5.out.2
    have a1 : (k == 1) = false := by simpa using hk1
    by_cases hk3 : k = 3
    · have a3 : (k == 3) = true := by simp [hk3]
      have a4 : (k == 4) = false := by simp [hk3]
      by_cases hsx : s = x
      · have s2 : (s == x) = true := by simp [hsx]
        -- ne-3m
        have HT : Hid (tkD r s D k x (pa, pn, pc) = [dP 3 x noM, dP 1 x noM, dSn 5 r x false]) := by
          show _ = _
          unfold tkD
          rw [if_neg hk1, if_pos hk3, if_pos hsx, show dSe x = dP 1 x noM from if_neg hx0]
          rfl
        have HIN : Hid (∀ W : World, InD (W.alloc (.cells #[.int .i64 3, .int .i64 x, .slice none 0 0, .int .i64 0, .int .i64 0, .int .i64 0, .int .i64 0, .bool false, .slice none 0 0, .int .i64 1, .int .i64 x, .slice none 0 0, .int .i64 0, .int .i64 0, .int .i64 0, .int .i64 0, .bool false, .slice none 0 0, .int .i64 5, .int .i64 0, .slice none 0 0, .int .i64 5, .int .i64 r, .int .i64 0, .int .i64 x, .bool false, .slice none 0 0] 37)) (some ⟨W.heap.size, 0, none⟩) [dP 3 x noM, dP 1 x noM, dSn 5 r x false]) := fun W => inDs (ys := [dP 3 x noM, dP 1 x noM, dSn 5 r x false]) (heap_alloc_new W _)
        try clear hk1
        try clear hk3
        try clear hk4
        try clear hs0
        try clear hsx
        try clear hxD
        try clear hx0
        try clear hi
        try clear hx
        try clear hn0
        go_wp2_with fail
        refine wp_region_noPanic ?_
        refine wp_region_held_drew (S := (fun u : World => Below W0.heap.size W0 u)) (by kernel_rfl) ?hSanem (fun hHeld => ?restanem)
        case hSanem => exact B2.out.drew
        case restanem =>
        refine wpAnyH_take (i := 0) (v := .slice none 0 0) rfl (by kernel_rfl) (by kernel_rfl) (by kernel_rfl) (fun _ _ _ h => h) (Or.inl ⟨by kernel_rfl, ?hy0nem⟩) hHeld ?rest0nem
        case hy0nem => (intro w' hSw; obtain ⟨⟨p0, p1, p2⟩, q0, q1, q2, q3, q4, q5⟩ := KB.out _ hSw; go_simp; try with_reducible rfl)
        try simp only [Act.put, List.setIfInBounds_toArray, List.set_cons_zero, List.set_cons_succ, List.getElem_toArray, List.getElem_cons_zero, List.getElem_cons_succ]
        refine wpAnyH_take (i := 1) (v := .int .i64 x) rfl (by kernel_rfl) (by kernel_rfl) (by kernel_rfl) (fun _ _ _ h => h) (Or.inl ⟨by kernel_rfl, ?hy1nem⟩) hHeld ?rest1nem
        case hy1nem => (intro w' hSw; obtain ⟨⟨p0, p1, p2⟩, q0, q1, q2, q3, q4, q5⟩ := KB.out _ hSw; go_simp; try with_reducible rfl)
        try simp only [Act.put, List.setIfInBounds_toArray, List.set_cons_zero, List.set_cons_succ, List.getElem_toArray, List.getElem_cons_zero, List.getElem_cons_succ]
        refine wpAnyH_take (i := 2) (v := .agg #[.int .i64 3, .int .i64 x, .slice none 0 0, .int .i64 0, .int .i64 0, .int .i64 0, .int .i64 0, .bool false, .slice none 0 0]) rfl (by kernel_rfl) (by kernel_rfl) (by kernel_rfl) (fun _ _ _ h => h) (Or.inl ⟨by kernel_rfl, ?hy2nem⟩) hHeld ?rest2nem
        case hy2nem => (intro w' hSw; obtain ⟨⟨p0, p1, p2⟩, q0, q1, q2, q3, q4, q5⟩ := KB.out _ hSw; go_simp; try with_reducible rfl)
        try simp only [Act.put, List.setIfInBounds_toArray, List.set_cons_zero, List.set_cons_succ, List.getElem_toArray, List.getElem_cons_zero, List.getElem_cons_succ]
        refine wpAnyH_take (i := 3) (v := .int .i64 x) rfl (by kernel_rfl) (by kernel_rfl) (by kernel_rfl) (fun _ _ _ h => h) (Or.inl ⟨by kernel_rfl, ?hy3nem⟩) hHeld ?rest3nem
        case hy3nem => (intro w' hSw; obtain ⟨⟨p0, p1, p2⟩, q0, q1, q2, q3, q4, q5⟩ := KB.out _ hSw; go_simp; try with_reducible rfl)
        try simp only [Act.put, List.setIfInBounds_toArray, List.set_cons_zero, List.set_cons_succ, List.getElem_toArray, List.getElem_cons_zero, List.getElem_cons_succ]
        refine wpAnyH_take (i := 5) (v := .agg #[.int .i64 r, .int .i64 s, .slice (some ⟨b, off, none⟩) n c]) rfl (by kernel_rfl) (by kernel_rfl) (by kernel_rfl) (fun _ _ _ h => h) (Or.inl ⟨by kernel_rfl, ?hy5nem⟩) hHeld ?rest5nem
        case hy5nem => (intro w' hSw; obtain ⟨⟨p0, p1, p2⟩, q0, q1, q2, q3, q4, q5⟩ := KB.out _ hSw; go_simp; try with_reducible rfl)
        try simp only [Act.put, List.setIfInBounds_toArray, List.set_cons_zero, List.set_cons_succ, List.getElem_toArray, List.getElem_cons_zero, List.getElem_cons_succ]
        refine wpAnyH_take (i := 6) (v := .int .i64 x) rfl (by kernel_rfl) (by kernel_rfl) (by kernel_rfl) (fun _ _ _ h => h) (Or.inl ⟨by kernel_rfl, ?hy6nem⟩) hHeld ?rest6nem
        case hy6nem => (intro w' hSw; obtain ⟨⟨p0, p1, p2⟩, q0, q1, q2, q3, q4, q5⟩ := KB.out _ hSw; go_simp; try with_reducible rfl)
        try simp only [Act.put, List.setIfInBounds_toArray, List.set_cons_zero, List.set_cons_succ, List.getElem_toArray, List.getElem_cons_zero, List.getElem_cons_succ]
        refine wpAnyH_ready (rs := [4]) (by kernel_rfl) (by simp) ?_
        refine AllReadyH.cons rfl (fun K hK => ?_) AllReadyH.nil
        go_simp; refine (KE.out _ x).mono ?_; rintro e5 w5 ⟨rfl, b5⟩; have B5 : Hid (Below W0.heap.size W0 w5) := B2.out.drew.trans (b5.mono B2.out.size); clear b5; go_wp2_with fail
        refine hK.out _ _ ?hS4nem (fun hHeld => ?rest4nem)
        case hS4nem => exact B5.out
        clear hK K
        try simp only [Act.put, List.setIfInBounds_toArray, List.set_cons_zero, List.set_cons_succ, List.getElem_toArray, List.getElem_cons_zero, List.getElem_cons_succ]
        refine wpAnyH_ready (rs := [7]) (by kernel_rfl) (by simp) ?_
        refine AllReadyH.cons rfl (fun K hK => ?_) AllReadyH.nil
        go_simp; refine (KD.out _ 5 false).mono ?_; rintro e6 w6 ⟨rfl, b6⟩; have B6 : Hid (Below W0.heap.size W0 w6) := B5.out.trans (b6.mono B5.out.size); clear b6; go_wp2_with fail
        refine hK.out _ _ ?hS7nem (fun hHeld => ?rest7nem)
        case hS7nem => exact B6.out
        clear hK K
        try simp only [Act.put, List.setIfInBounds_toArray, List.set_cons_zero, List.set_cons_succ, List.getElem_toArray, List.getElem_cons_zero, List.getElem_cons_succ]
        refine wpAnyH_ready (rs := [8]) (by kernel_rfl) (by simp) ?_
        refine AllReadyH.cons rfl (fun K hK => ?_) AllReadyH.nil
        go_wp2_with fail
        refine hK.out _ _ ?hS8nem (fun hHeld => ?rest8nem)
        case hS8nem => exact B6.out.alloc B6.out.size _
        clear hK K
        try simp only [Act.put, List.setIfInBounds_toArray, List.set_cons_zero, List.set_cons_succ, List.getElem_toArray, List.getElem_cons_zero, List.getElem_cons_succ]
        refine wpAnyH_ready (rs := [9]) (by kernel_rfl) (by simp) ?_
        refine AllReadyH.cons rfl (fun K hK => ?_) AllReadyH.nil
        first | rw [if_pos (by kernel_rfl)] | skip
        refine wp_append_ds (.tmp 132) (.tmp 140) rfl W0.heap.size (.slice none 0 0) [] rfl (OwnD.nil _ _) w6.heap.size 3 3 [dP 3 x noM, dP 1 x noM, dSn 5 r x false] rfl rfl (HIN.out w6) (by simp) (by have := B6.out.size; simp; omega) ?_
        intro v9 u9 o9 g9
        have O9 : Hid (OwnD u9 W0.heap.size v9 ([] ++ [dP 3 x noM, dP 1 x noM, dSn 5 r x false]) ∧ Below W0.heap.size W0 u9) := ⟨o9, (B6.out.alloc B6.out.size _).grown g9 (by have := B6.out.size; simp; omega) (fun q hq => by cases hq)⟩
        clear o9 g9
        refine hK.out _ _ ?hS9nem (fun hHeld => ?rest9nem)
        case hS9nem => exact O9.out.2
        clear hK K
        try simp only [Act.put, List.setIfInBounds_toArray, List.set_cons_zero, List.set_cons_succ, List.getElem_toArray, List.getElem_cons_zero, List.getElem_cons_succ]
        refine wpAnyH_take (i := 10) (v := v9) rfl (by kernel_rfl) (by kernel_rfl) (by kernel_rfl) (fun _ _ _ h => h) (Or.inl ⟨by kernel_rfl, ?hy10nem⟩) hHeld ?rest10nem
        case hy10nem => (intro w' hSw; obtain ⟨⟨p0, p1, p2⟩, q0, q1, q2, q3, q4, q5⟩ := KB.out _ hSw; go_simp; try with_reducible rfl)
        try simp only [Act.put, List.setIfInBounds_toArray, List.set_cons_zero, List.set_cons_succ, List.getElem_toArray, List.getElem_cons_zero, List.getElem_cons_succ]
        refine wpAnyH_done (by kernel_rfl) ?_ _
        refine NoPanic.normal ?_
        go_wp2_with fail
        go_ret
        exact FIN.out _ _ (by rw [HT.out]; exact O9.out.1) O9.out.2
      have s2 : (s == x) = false := by simpa using hsx
      -- ne-3n
      have HT : Hid (tkD r s D k x (pa, pn, pc) = []) := by show _ = _; unfold tkD; rw [if_neg hk1, if_pos hk3, if_neg hsx, if_neg hxD]
      try clear hk1
      try clear hk3
      try clear hk4
      try clear hs0
      try clear hsx
      try clear hxD
      try clear hx0
      try clear hi
      try clear hx
      try clear hn0
      go_wp2_with fail
      go_ret
      exact FIN.out _ _ (by rw [HT.out]; exact OwnD.nil _ _) B2.out
    have a3 : (k == 3) = false := by simpa using hk3
    by_cases hk4 : k = 4
    · have a4 : (k == 4) = true := by simp [hk4]
      by_cases hsx : s = x
      · have s2 : (s == x) = true := by simp [hsx]
        -- ne-4a
        have HT : Hid (tkD r s D k x (pa, pn, pc) = [dP 4 x noM]) := by show _ = _; unfold tkD; rw [if_neg hk1, if_neg hk3, if_pos hk4, if_pos hsx]
        try clear hk1
        try clear hk3
        try clear hk4
        try clear hs0
        try clear hsx
        try clear hxD
        try clear hx0
        try clear hi
        try clear hx
        try clear hn0
        go_wp2_with ((at_builtin; (refine append_ds rfl (.tmp 152) (.tmp 155) rfl W0.heap.size (.slice none 0 0) [] rfl (OwnD.nil _ _) w2.heap.size 1 1 [dP 4 x noM] rfl rfl (inD1 w2 (dP 4 x noM)) (by simp) (by have := B2.out.size; simp; omega) ?_; intro v5 u5 o5 g5; have O5 : Hid (OwnD u5 W0.heap.size v5 ([] ++ [dP 4 x noM]) ∧ Below W0.heap.size W0 u5) := ⟨o5, (B2.out.alloc B2.out.size _).grown g5 (by have := B2.out.size; simp; omega) (fun q hq => by cases hq)⟩; clear o5 g5)))
        go_ret
        exact FIN.out _ _ (by rw [HT.out]; exact O5.out.1) O5.out.2
      have s2 : (s == x) = false := by simpa using hsx
      -- ne-4n
      have HT : Hid (tkD r s D k x (pa, pn, pc) = []) := by show _ = _; unfold tkD; rw [if_neg hk1, if_neg hk3, if_pos hk4, if_neg hsx]
      try clear hk1
      try clear hk3
      try clear hk4
      try clear hs0
      try clear hsx
      try clear hxD
      try clear hx0
      try clear hi
      try clear hx
      try clear hn0
      go_wp2_with fail
      go_ret
      exact FIN.out _ _ (by rw [HT.out]; exact OwnD.nil _ _) B2.out
    have a4 : (k == 4) = false := by simpa using hk4
    -- ne-o
    have HT : Hid (tkD r s D k x (pa, pn, pc) = []) := by show _ = _; unfold tkD; rw [if_neg hk1, if_neg hk3, if_neg hk4]
    try clear hk1
    try clear hk3
    try clear hk4
    try clear hs0
    try clear hsx
    try clear hxD
    try clear hx0
    try clear hi
    try clear hx
    try clear hn0
    go_wp2_with fail
    go_ret
    exact FIN.out _ _ (by rw [HT.out]; exact OwnD.nil _ _) B2.out
end Go.Proofs.Ytmokonaodoiflaa
