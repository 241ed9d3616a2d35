/- WireChecks' walk (gen_wchecks.py). -/
import Derived.Test.YtgdglppendkmnaaWsI
import Derived.Test.YtgdglppendkmnaaWsH
import Derived.Test.YtgdglppendkmnaaWrY
import Derived.Test.YtgdglppendkmnaaWsE
namespace Go.Proofs.Ytgdglppendkmnaa
open Go.ChangeShapes Go.WideShapes Go.ChangeAt Go.RowKit Go.Deep Go.Maps
set_option linter.unusedVariables false
set_option linter.unusedSimpArgs false
set_option maxRecDepth 100000 in
set_option maxHeartbeats 8000000 in
theorem wireChecks_walk (k f t x : Int) (y : Bool) (a : Option Addr) (n c : Nat) (L : List Pk) (w : World) (hin : MsIn w k f t x a n c L) :
    Calls Try.prog 5 #[.agg #[.int .i64 k, .int .i64 f, .int .i64 t, .int .i64 x, .bool y, .slice a n c]] w fun e w' => e = .returned (.bool true) ∧ Below w.heap.size w w' := by
  obtain ⟨hI, hn, hc, ha, hL, hP, hN⟩ := hin
  obtain ⟨W0, hW0⟩ : ∃ W0, W0 = w.alloc (.cells #[.int .i64 k, .int .i64 f, .int .i64 t, .int .i64 x, .bool y, .slice a n c] 31) := ⟨_, rfl⟩
  have HE : Hid (W0 = w.alloc (.cells #[.int .i64 k, .int .i64 f, .int .i64 t, .int .i64 x, .bool y, .slice a n c] 31)) := hW0
  have hb0 : Below w.heap.size w W0 := by rw [hW0]; exact below1 w _
  have hq : W0.heap[w.heap.size]? = some (.cells #[.int .i64 k, .int .i64 f, .int .i64 t, .int .i64 x, .bool y, .slice a n c] 31) := by rw [hW0]; exact heap_alloc_new w _
  have hz : W0.heap.size = w.heap.size + 1 := by rw [hW0]; simp
  have KF : Hid (Calls Try.prog 16 #[.agg #[.int .i64 k, .int .i64 f, .int .i64 t, .int .i64 x, .bool y, .slice a n c]] W0 fun e w' => ∃ V M, e = .returned (.agg #[.int .i64 k, .int .i64 f, .int .i64 t, .int .i64 x, .bool y, V]) ∧ Few w' W0.heap.size V L M ∧ M.length = min n 20 ∧ Below W0.heap.size W0 w') := few_any W0 k f t x y a n c L hn (hL.keep hb0) hc (fun x hx => (hP x hx).2.1)
  have HB0 : Hid (Below w.heap.size w W0 ∧ W0.heap[w.heap.size]? = some (.cells #[.int .i64 k, .int .i64 f, .int .i64 t, .int .i64 x, .bool y, .slice a n c] 31) ∧ W0.heap.size = w.heap.size + 1) := ⟨hb0, hq, hz⟩
  have KW : Hid (∀ u, Calls Try.prog 15 #[] u fun e w' => e = .returned (.bool true) ∧ Below u.heap.size u w') := wworks_true
  clear hW0 hb0 hq hz hn hc ha hL hP hN hI
  go_enter Try.func5, Try.ntmps5
  go_wp2_with fail
  rw [← HE.out]
  clear HE
  refine KF.out.mono ?_
  rintro e w1 ⟨V, M, rfl, hF, hM, hb1⟩
  obtain ⟨a9, c9, rfl, hI9, hl9, hc9⟩ := hF.1.slice (fun x hx => (hF.2.2 x hx).1)
  obtain ⟨m9, hm9⟩ : ∃ m9, m9 = M.length := ⟨_, rfl⟩
  rw [← hm9] at hl9 ⊢
  have HM : Hid (M.length = m9 ∧ m9 ≤ c9 ∧ c9 ≤ 9223372036854775807 ∧ m9 ≤ 1000000) := ⟨hm9.symm, hl9, hc9, by omega⟩
  have h1 : w1.heap[w.heap.size]? = some (.cells #[.int .i64 k, .int .i64 f, .int .i64 t, .int .i64 x, .bool y, .slice a n c] 31) := (hb1.block _ (by have := HB0.out.2.2; omega)).trans HB0.out.2.1
  have H1 : Hid (w1.heap[w.heap.size]? = some (.cells #[.int .i64 k, .int .i64 f, .int .i64 t, .int .i64 x, .bool y, .slice a n c] 31)) := h1
  have hs2 : (w1.setRow w.heap.size #[.int .i64 k, .int .i64 f, .int .i64 t, .int .i64 x, .bool y, .slice a9 m9 c9]).heap.size = w1.heap.size := setRow_size _ _ _
  have hq2 : (w1.setRow w.heap.size #[.int .i64 k, .int .i64 f, .int .i64 t, .int .i64 x, .bool y, .slice a9 m9 c9]).heap[w.heap.size]? = some (.cells #[.int .i64 k, .int .i64 f, .int .i64 t, .int .i64 x, .bool y, .slice a9 m9 c9] 31) := setRow_heap _ _ _ _ _ _ h1
  have hF2 : Few (w1.setRow w.heap.size #[.int .i64 k, .int .i64 f, .int .i64 t, .int .i64 x, .bool y, .slice a9 m9 c9]) W0.heap.size (.slice a9 m9 c9) L M := by
    rw [hm9]
    rw [← hm9] at hF
    rw [← hm9]
    exact few_end hF (Nat.le_refl _) (by rw [hs2]; exact Nat.le_refl _) (fun q hq => setRow_other _ _ _ _ (by have := HB0.out.2.2; omega))
  have hb2 : Below w.heap.size w (w1.setRow w.heap.size #[.int .i64 k, .int .i64 f, .int .i64 t, .int .i64 x, .bool y, .slice a9 m9 c9]) := HB0.out.1.trans ⟨hb1.os, hb1.tape, hb1.output, by rw [hs2]; exact hb1.size, fun q hq => (setRow_other _ _ _ _ (by omega)).trans (hb1.block q (by have := HB0.out.2.2; omega))⟩
  have SF : Hid (InPk (w1.setRow w.heap.size #[.int .i64 k, .int .i64 f, .int .i64 t, .int .i64 x, .bool y, .slice a9 m9 c9]) a9 M) := by
    show InPk _ a9 M
    obtain ⟨a', c', e, h, _⟩ := hF2.1.slice (fun x hx => (hF2.2.2 x hx).1)
    injection e with e1 e2 e3
    subst e1
    exact h
  have E2 : Hid ((w1.setRow w.heap.size #[.int .i64 k, .int .i64 f, .int .i64 t, .int .i64 x, .bool y, .slice a9 m9 c9]).heap[w.heap.size]? = some (.cells #[.int .i64 k, .int .i64 f, .int .i64 t, .int .i64 x, .bool y, .slice a9 m9 c9] 31) ∧ Below w.heap.size w (w1.setRow w.heap.size #[.int .i64 k, .int .i64 f, .int .i64 t, .int .i64 x, .bool y, .slice a9 m9 c9])) := ⟨hq2, hb2⟩
  clear hm9 hM hF hb1 hI9 hl9 hc9 h1 hs2 hq2 hF2 hb2 KF
  go_wp2_with (refine wpList_store_row rfl 31 (.tmp 1) (.tmp 4) rfl w.heap.size #[.int .i64 k, .int .i64 f, .int .i64 t, .int .i64 x, .bool y, .slice a9 m9 c9] rfl rfl 31 _ H1.out size6M rfl (by simp [Value.oneCell']) ?_)
  generalize w1.setRow w.heap.size #[.int .i64 k, .int .i64 f, .int .i64 t, .int .i64 x, .bool y, .slice a9 m9 c9] = w2 at *
  have KC : Hid (∀ W, Below w2.heap.size w2 W → W.cell? ⟨w.heap.size, 0, none⟩ = some (.int .i64 k) ∧ W.cell? ⟨w.heap.size, 1, none⟩ = some (.int .i64 f) ∧ W.cell? ⟨w.heap.size, 2, none⟩ = some (.int .i64 t) ∧ W.cell? ⟨w.heap.size, 3, none⟩ = some (.int .i64 x) ∧ W.cell? ⟨w.heap.size, 4, none⟩ = some (.bool y) ∧ W.cell? ⟨w.heap.size, 5, none⟩ = some (.slice a9 m9 c9)) := fun W hW => by
    have p1 := (hW.block w.heap.size (lt_of_heapK E2.out.1)).trans E2.out.1
    refine ⟨?_, ?_, ?_, ?_, ?_, ?_⟩
    · rw [cell_of_row _ w.heap.size 0 _ _ (0, 0) p1]; rfl
    · rw [cell_of_row _ w.heap.size 1 _ _ (0, 0) p1]; rfl
    · rw [cell_of_row _ w.heap.size 2 _ _ (0, 0) p1]; rfl
    · rw [cell_of_row _ w.heap.size 3 _ _ (0, 0) p1]; rfl
    · rw [cell_of_row _ w.heap.size 4 _ _ (0, 0) p1]; rfl
    · rw [cell_of_row _ w.heap.size 5 _ _ (0, 0) p1]; rfl
  obtain ⟨z9, hz9⟩ : ∃ z, wchk k f t x y M = z := ⟨_, rfl⟩
  have K1 : Hid (∀ W, Below w2.heap.size w2 W → Calls Try.prog 23 #[.agg #[.int .i64 k, .int .i64 f, .int .i64 t, .int .i64 x, .bool y, .slice a9 m9 c9]] W fun e w' => e = .returned (.int .i64 z9) ∧ Below W.heap.size W w') := fun W hW => by rw [← hz9]; exact wcheck_is W k f t x y a9 m9 c9 M HM.out.1 (SF.out.keep hW) HM.out.2.1 HM.out.2.2.1 HM.out.2.2.2
  have K2 : Hid (∀ W, Below w2.heap.size w2 W → Calls Try.prog 24 #[.agg #[.int .i64 k, .int .i64 f, .int .i64 t, .int .i64 x, .bool y, .slice a9 m9 c9]] W fun e w' => e = .returned (.int .i64 z9) ∧ Below W.heap.size W w') := fun W hW => by rw [← hz9]; exact rwcheck_is W k f t x y a9 m9 c9 M HM.out.1 (SF.out.keep hW) HM.out.2.1 HM.out.2.2.1 HM.out.2.2.2
  clear hz9
  have hr : Below w2.heap.size w2 w2.drew := below_drewM (Below.refl _ _)
  have ed : decide (z9 = z9) = true := decide_eq_true rfl
  refine wp_region_noPanic ?_
  refine wp_region_held_drew (S := (fun W : World => Below w2.heap.size w2 W)) (by kernel_rfl) ?hSa (fun hHeld => ?resta)
  case hSa => exact hr
  case resta =>
    refine wpAnyH_take (i := 0) (v := .agg #[.int .i64 k, .int .i64 f, .int .i64 t, .int .i64 x, .bool y, .slice a9 m9 c9]) rfl (by kernel_rfl) (by kernel_rfl) (by kernel_rfl) (fun _ _ _ h => h) (Or.inl ⟨by kernel_rfl, ?hy0⟩) hHeld ?rest0
    case hy0 => (intro w' hSw; (try dsimp only at hSw); obtain ⟨q0, q1, q2, q3, q4, q5⟩ := KC.out _ hSw; go_simp; try with_reducible rfl)
    try simp only [Act.put, List.getElem_toArray]
    refine wpAnyH_take (i := 2) (v := .agg #[.int .i64 k, .int .i64 f, .int .i64 t, .int .i64 x, .bool y, .slice a9 m9 c9]) rfl (by kernel_rfl) (by kernel_rfl) (by kernel_rfl) (fun _ _ _ h => h) (Or.inl ⟨by kernel_rfl, ?hy2⟩) hHeld ?rest2
    case hy2 => (intro w' hSw; (try dsimp only at hSw); obtain ⟨q0, q1, q2, q3, q4, q5⟩ := KC.out _ hSw; go_simp; try with_reducible rfl)
    try simp only [Act.put, List.getElem_toArray]
    refine wpAnyH_ready (rs := [1]) (by kernel_rfl) (by simp) ?_
    refine AllReadyH.cons rfl (fun K hK => ?_) AllReadyH.nil
    go_simp; refine (K1.out _ hHeld).mono ?_; rintro e u1 ⟨rfl, hbu1⟩; have Hu1 : Hid (Below w2.heap.size w2 u1) := (hHeld : Below _ _ _).trans (hbu1.mono (hHeld : Below _ _ _).size); clear hbu1; go_wp2_with fail
    refine hK.out _ _ ?hS1 (fun hHeld => ?rest1)
    case hS1 => exact Hu1.out
    clear hK K
    try simp only [Act.put, List.setIfInBounds_toArray, List.set_cons_zero, List.set_cons_succ, List.getElem_toArray, List.getElem_cons_zero, List.getElem_cons_succ]
    refine wpAnyH_ready (rs := [3]) (by kernel_rfl) (by simp) ?_
    refine AllReadyH.cons rfl (fun K hK => ?_) AllReadyH.nil
    go_simp; refine (K2.out _ hHeld).mono ?_; rintro e u2 ⟨rfl, hbu2⟩; have Hu2 : Hid (Below w2.heap.size w2 u2) := (hHeld : Below _ _ _).trans (hbu2.mono (hHeld : Below _ _ _).size); clear hbu2; go_wp2_with fail
    refine hK.out _ _ ?hS3 (fun hHeld => ?rest3)
    case hS3 => exact Hu2.out
    clear hK K
    try simp only [Act.put, List.setIfInBounds_toArray, List.set_cons_zero, List.set_cons_succ, List.getElem_toArray, List.getElem_cons_zero, List.getElem_cons_succ]
    refine wpAnyH_take (i := 4) (v := ?v4) rfl (by kernel_rfl) (by kernel_rfl) (by kernel_rfl) (fun _ _ _ h => h) (Or.inl ⟨by rfl, ?hy4⟩) hHeld ?rest4
    case hy4 => (intro w hSw; (try dsimp only at hSw); go_simp; try with_reducible rfl)
    try simp only [Act.put, List.setIfInBounds_toArray, List.set_cons_zero, List.set_cons_succ, List.getElem_toArray, List.getElem_cons_zero, List.getElem_cons_succ]
    refine wpAnyH_take (i := 5) (v := ?v5) rfl (by kernel_rfl) (by kernel_rfl) (by kernel_rfl) (fun _ _ _ h => h) (Or.inl ⟨by rfl, ?hy5⟩) hHeld ?rest5
    case hy5 => (intro w hSw; (try dsimp only at hSw); go_simp; try with_reducible rfl)
    try simp only [Act.put, List.setIfInBounds_toArray, List.set_cons_zero, List.set_cons_succ, List.getElem_toArray, List.getElem_cons_zero, List.getElem_cons_succ]
    refine wpAnyH_ready (rs := [6]) (by kernel_rfl) (by simp) ?_
    refine AllReadyH.cons rfl (fun K hK => ?_) AllReadyH.nil
    go_simp; refine (KW.out _).mono ?_; rintro e u3 ⟨rfl, hbu3⟩; have Hu3 : Hid (Below w2.heap.size w2 u3) := (hHeld : Below _ _ _).trans (hbu3.mono (hHeld : Below _ _ _).size); clear hbu3; go_wp2_with fail
    refine hK.out _ _ ?hS6 (fun hHeld => ?rest6)
    case hS6 => exact Hu3.out
    clear hK K
    try simp only [Act.put, List.setIfInBounds_toArray, List.set_cons_zero, List.set_cons_succ, List.getElem_toArray, List.getElem_cons_zero, List.getElem_cons_succ]
    refine wpAnyH_take (i := 7) (v := ?v7) rfl (by kernel_rfl) (by kernel_rfl) (by kernel_rfl) (fun _ _ _ h => h) (Or.inl ⟨by rfl, ?hy7⟩) hHeld ?rest7
    case hy7 => (intro w hSw; (try dsimp only at hSw); go_simp; try with_reducible rfl)
    try simp only [Act.put, List.setIfInBounds_toArray, List.set_cons_zero, List.set_cons_succ, List.getElem_toArray, List.getElem_cons_zero, List.getElem_cons_succ]
    refine wpAnyH_take (i := 8) (v := ?v8) rfl (by kernel_rfl) (by kernel_rfl) (by kernel_rfl) (fun _ _ _ h => h) (Or.inl ⟨by rfl, ?hy8⟩) hHeld ?rest8
    case hy8 => (intro w hSw; (try dsimp only at hSw); go_simp; try with_reducible rfl)
    try simp only [Act.put, List.setIfInBounds_toArray, List.set_cons_zero, List.set_cons_succ, List.getElem_toArray, List.getElem_cons_zero, List.getElem_cons_succ]
    refine wpAnyH_done (by kernel_rfl) ?_ _
    refine NoPanic.normal ?_
    go_wp2_with fail
    go_ret
    exact ⟨rfl, E2.out.2.trans (Hu3.out.mono E2.out.2.size)⟩
end Go.Proofs.Ytgdglppendkmnaa
