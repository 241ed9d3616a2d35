/- ManifestChecks's walk. -/
import Derived.Test.YtldlcbkjhgdolaaDoorManO2
namespace Go.Proofs.YtldlcbkjhgdolaaDoor
open Go.ChangeShapes Go.WideShapes Go.ChangeAt Go.RowKit Go.Deep Go.Maps
set_option linter.unusedVariables false
set_option maxRecDepth 100000 in
set_option maxHeartbeats 8000000 in
theorem manifestChecks_walk (m : Mf) (a : Option Addr) (n c : Nat) (w : World) (hn : m.2.2.length = n) (hc : a = none → c = 0) (hl : InR w a m.2.2) (hd : Dgs m.2.2) (h1 : m.1.length ≤ 140737488351232) (h2 : m.2.1.length ≤ 140737488351232) (h40 : n * 40 ≤ 140737488351232) :
    Calls Tryd.prog 7 #[mv m a n c] w fun e w' => e = .returned (.bool true) ∧ Below w.heap.size w w' := by
  have hf : FitM m := ⟨by omega, by omega, hd⟩
  have KW : Hid (∀ w, Calls Tryd.prog 28 #[] w fun e w' => e = .returned (.bool true) ∧ Below w.heap.size w w') := worksM_is
  have HIN : Hid (∀ w2, Below w.heap.size w w2 → InR w2 a m.2.2) := fun w2 hb => hl.keep hb
  have KO : Hid (∀ w2, Below w.heap.size w w2 → Calls Tryd.prog 22 #[.agg #[.string (tx m.1), .string (tx m.2.1), .slice a n c]] w2 fun e w' => ∃ a' c', e = .returned (.agg #[.string (tx m.1), .string (tx m.2.1), .slice a' n c']) ∧ n ≤ c' ∧ InR w' a' m.2.2 ∧ Below w2.heap.size w2 w') := fun w2 hb => ownR_is m n hn h40 hd a c w2 (hl.keep hb) hc
  have KC : Hid (∀ a' c' w2, InR w2 a' m.2.2 → Calls Tryd.prog 23 #[.agg #[.string (tx m.1), .string (tx m.2.1), .slice a' n c']] w2 fun e w' => e = .returned (.int .i64 (mchk m)) ∧ Below w2.heap.size w2 w') := fun a' c' w2 hi => mcheck_is m n hn (by omega) hd hf.1 hf.2.1 a' c' w2 hi
  have KS : Hid (∀ a' c' w2, InR w2 a' m.2.2 → Calls Tryd.prog 25 #[.agg #[.string (tx m.1), .string (tx m.2.1), .slice a' n c']] w2 fun e w' => e = .returned (.int .i64 (msz m)) ∧ Below w2.heap.size w2 w') := fun a' c' w2 hi => msize_is m n hn (by omega) hf a' c' w2 hi
  have KRC : Hid (∀ a' c' w2, InR w2 a' m.2.2 → Calls Tryd.prog 24 #[.agg #[.string (tx m.1), .string (tx m.2.1), .slice a' n c']] w2 fun e w' => e = .returned (.int .i64 (mchk m)) ∧ Below w2.heap.size w2 w') := fun a' c' w2 hi => rmcheck_is m n hn (by omega) hd hf.1 hf.2.1 a' c' w2 hi
  have KRS : Hid (∀ a' c' w2, InR w2 a' m.2.2 → Calls Tryd.prog 26 #[.agg #[.string (tx m.1), .string (tx m.2.1), .slice a' n c']] w2 fun e w' => e = .returned (.int .i64 (msz m)) ∧ Below w2.heap.size w2 w') := fun a' c' w2 hi => rmsize_is m n hn (by omega) hf a' c' w2 hi
  have KSA : Hid (∀ a' c' w2, InR w2 a' m.2.2 → InR w2 a m.2.2 → Calls Tryd.prog 27 #[.agg #[.string (tx m.1), .string (tx m.2.1), .slice a' n c'], .agg #[.string (tx m.1), .string (tx m.2.1), .slice a n c]] w2 fun e w' => e = .returned (.bool true) ∧ Below w2.heap.size w2 w') := fun a' c' w2 hi hj => by
    have := rmsame_is m m n n c' c a' a w2 hn hn (by omega) (by omega) hd hd hi hj
    rw [decide_eq_true rfl] at this
    exact this
  unfold mv
  generalize m.2.2 = l at *
  generalize tx m.1 = SN at *
  generalize tx m.2.1 = SV at *
  generalize mchk m = r at *
  generalize msz m = z at *
  clear hf hl hd hn h1 h2 hc
  have BA : Hid (Below w.heap.size w (w.alloc (.cells #[.string SN, .string SV, .slice a n c] 54))) := (Below.refl _ _).alloc (Nat.le_refl _) _
  go_enter Tryd.func7, Tryd.ntmps7
  go_wp2_with fail
  refine (KO.out _ BA.out).mono ?_
  rintro e w2 ⟨a2, c3, rfl, hnc, hin2, hb2⟩
  obtain ⟨g1, hb3⟩ := one_blockM hb2
  have B2 : Hid (Below w.heap.size w w2) := hb3
  have hlt2 : w.heap.size < w2.heap.size := (Array.getElem?_eq_some_iff.1 g1).1
  have G1 : Hid (w2.heap[w.heap.size]? = some (.cells #[.string SN, .string SV, .slice a n c] 54)) := g1
  have IN2 : Hid (InR w2 a2 l) := hin2
  clear hb2 hb3 g1 hin2 KO BA
  go_wp2_with fail
  obtain ⟨W3, hW3⟩ : ∃ W3, W3 = w2.alloc (.cells #[.string SN, .string SV, .slice a2 n c3] 54) := ⟨_, rfl⟩
  rw [← hW3]
  have BA3 : Below w2.heap.size w2 W3 := by rw [hW3]; exact (Below.refl _ _).alloc (Nat.le_refl _) _
  have gY : W3.heap[w2.heap.size]? = some (.cells #[.string SN, .string SV, .slice a2 n c3] 54) := by rw [hW3]; exact heap_alloc_new w2 _
  have gX : W3.heap[w.heap.size]? = some (.cells #[.string SN, .string SV, .slice a n c] 54) := (BA3.block _ hlt2).trans G1.out
  have B3 : Hid (Below w.heap.size w W3) := B2.out.trans (BA3.mono B2.out.size)
  have hltX : w.heap.size < W3.heap.size := (Array.getElem?_eq_some_iff.1 gX).1
  have hltY : w2.heap.size < W3.heap.size := (Array.getElem?_eq_some_iff.1 gY).1
  have X0 : Hid (W3.cell? ⟨w.heap.size, 0, none⟩ = some (.string SN)) := by show _ = _; rw [cell_of_row W3 _ 0 _ _ _ gX]; rfl
  have X1 : Hid (W3.cell? ⟨w.heap.size, 1, none⟩ = some (.string SV)) := by show _ = _; rw [cell_of_row W3 _ 1 _ _ _ gX]; rfl
  have X2 : Hid (W3.cell? ⟨w.heap.size, 2, none⟩ = some (.slice a n c)) := by show _ = _; rw [cell_of_row W3 _ 2 _ _ _ gX]; rfl
  have Y0 : Hid (W3.cell? ⟨w2.heap.size, 0, none⟩ = some (.string SN)) := by show _ = _; rw [cell_of_row W3 _ 0 _ _ _ gY]; rfl
  have Y1 : Hid (W3.cell? ⟨w2.heap.size, 1, none⟩ = some (.string SV)) := by show _ = _; rw [cell_of_row W3 _ 1 _ _ _ gY]; rfl
  have Y2 : Hid (W3.cell? ⟨w2.heap.size, 2, none⟩ = some (.slice a2 n c3)) := by show _ = _; rw [cell_of_row W3 _ 2 _ _ _ gY]; rfl
  have IA : InR W3 a l := HIN.out _ B3.out
  have IB : InR W3 a2 l := IN2.out.keep BA3
  have KC' : Hid (∀ W, Below W3.heap.size W3 W → Calls Tryd.prog 23 #[.agg #[.string SN, .string SV, .slice a2 n c3]] W fun e w' => e = .returned (.int .i64 r) ∧ Below W.heap.size W w') := fun W hb => KC.out a2 c3 W (IB.keep hb)
  have KRC' : Hid (∀ W, Below W3.heap.size W3 W → Calls Tryd.prog 24 #[.agg #[.string SN, .string SV, .slice a n c]] W fun e w' => e = .returned (.int .i64 r) ∧ Below W.heap.size W w') := fun W hb => KRC.out a c W (IA.keep hb)
  have KS' : Hid (∀ W, Below W3.heap.size W3 W → Calls Tryd.prog 25 #[.agg #[.string SN, .string SV, .slice a2 n c3]] W fun e w' => e = .returned (.int .i64 z) ∧ Below W.heap.size W w') := fun W hb => KS.out a2 c3 W (IB.keep hb)
  have KRS' : Hid (∀ W, Below W3.heap.size W3 W → Calls Tryd.prog 26 #[.agg #[.string SN, .string SV, .slice a n c]] W fun e w' => e = .returned (.int .i64 z) ∧ Below W.heap.size W w') := fun W hb => KRS.out a c W (IA.keep hb)
  have KSA' : Hid (∀ W, Below W3.heap.size W3 W → Calls Tryd.prog 27 #[.agg #[.string SN, .string SV, .slice a2 n c3], .agg #[.string SN, .string SV, .slice a n c]] W fun e w' => e = .returned (.bool true) ∧ Below W.heap.size W w') := fun W hb => KSA.out a2 c3 W (IB.keep hb) (IA.keep hb)
  have KW' : Hid (∀ W, Below W3.heap.size W3 W → Calls Tryd.prog 28 #[] W fun e w' => e = .returned (.bool true) ∧ Below W.heap.size W w') := fun W hb => KW.out W
  clear KC KRC KS KRS KSA KW HIN IA IB gX gY BA3 hW3 G1 IN2
  obtain ⟨G, hG⟩ : ∃ G, G = w2.heap.size := ⟨_, rfl⟩
  rw [← hG] at Y0 Y1 Y2 hltY ⊢
  clear hG B2 hlt2
  refine wp_region_noPanic ?_
  refine wp_region_held_drew (S := (fun W : World => Below W3.heap.size W3 W)) (by kernel_rfl) ?hSa (fun hHeld => ?resta)
  case hSa => exact below_drewM (Below.refl _ _)
  case resta =>
  refine wpAnyH_take (i := 0) (v := .agg #[.string SN, .string SV, .slice a2 n c3]) rfl (by kernel_rfl) (by kernel_rfl) (by kernel_rfl) (fun _ _ _ h => h) (Or.inl ⟨by rfl, ?hy0⟩) hHeld ?rest0
  case hy0 => (intro u hSu; have k0 := (Below.cell (p := ⟨G, 0, none⟩) hSu hltY).trans Y0.out; have k1 := (Below.cell (p := ⟨G, 1, none⟩) hSu hltY).trans Y1.out; have k2 := (Below.cell (p := ⟨G, 2, none⟩) hSu hltY).trans Y2.out; clear hSu; go_simp; try with_reducible rfl)
  case rest0 =>
  try simp only [Act.put, List.setIfInBounds_toArray, List.set_cons_zero, List.set_cons_succ, List.getElem_toArray, List.getElem_cons_zero]
  refine wpAnyH_take (i := 2) (v := .agg #[.string SN, .string SV, .slice a n c]) rfl (by kernel_rfl) (by kernel_rfl) (by kernel_rfl) (fun _ _ _ h => h) (Or.inl ⟨by rfl, ?hy2⟩) hHeld ?rest2
  case hy2 => (intro u hSu; have k0 := (Below.cell (p := ⟨w.heap.size, 0, none⟩) hSu hltX).trans X0.out; have k1 := (Below.cell (p := ⟨w.heap.size, 1, none⟩) hSu hltX).trans X1.out; have k2 := (Below.cell (p := ⟨w.heap.size, 2, none⟩) hSu hltX).trans X2.out; clear hSu; go_simp; try with_reducible rfl)
  case rest2 =>
  try simp only [Act.put, List.setIfInBounds_toArray, List.set_cons_zero, List.set_cons_succ, List.getElem_toArray, List.getElem_cons_zero, List.getElem_cons_succ]
  refine wpAnyH_ready (rs := [1]) (by kernel_rfl) (by simp) ?_
  refine AllReadyH.cons rfl (fun K hK => ?_) AllReadyH.nil
  go_simp; refine (KC'.out _ hHeld).mono ?_; rintro e v1 ⟨rfl, hb1⟩; have D1 : Hid (Below W3.heap.size W3 v1) := Below.trans hHeld (Below.mono hb1 (Below.size hHeld)); clear hb1 hHeld; go_wp2_with fail
  refine hK.out _ _ ?hS1 (fun hHeld => ?rest1)
  case hS1 => exact D1.out
  clear hK K
  try simp only [Act.put, List.setIfInBounds_toArray, List.set_cons_zero, List.set_cons_succ, List.getElem_toArray, List.getElem_cons_zero, List.getElem_cons_succ]
  refine wpAnyH_ready (rs := [3]) (by kernel_rfl) (by simp) ?_
  refine AllReadyH.cons rfl (fun K hK => ?_) AllReadyH.nil
  go_simp; refine (KRC'.out _ hHeld).mono ?_; rintro e v2 ⟨rfl, hb2⟩; have D2 : Hid (Below W3.heap.size W3 v2) := Below.trans hHeld (Below.mono hb2 (Below.size hHeld)); clear hb2 hHeld; go_wp2_with fail
  refine hK.out _ _ ?hS3 (fun hHeld => ?rest3)
  case hS3 => exact D2.out
  clear hK K
  try simp only [Act.put, List.setIfInBounds_toArray, List.set_cons_zero, List.set_cons_succ, List.getElem_toArray, List.getElem_cons_zero, List.getElem_cons_succ]
  refine wpAnyH_take (i := 4) (v := ?v4) rfl (by kernel_rfl) (by kernel_rfl) (by kernel_rfl) (fun _ _ _ h => h) (Or.inl ⟨by rfl, ?hy4⟩) hHeld ?rest4
  case hy4 => (intro w hSw; (try dsimp only at hSw); go_simp; try with_reducible rfl)
  try simp only [Act.put, List.setIfInBounds_toArray, List.set_cons_zero, List.set_cons_succ, List.getElem_toArray, List.getElem_cons_zero, List.getElem_cons_succ]
  refine wpAnyH_take (i := 5) (v := ?v5) rfl (by kernel_rfl) (by kernel_rfl) (by kernel_rfl) (fun _ _ _ h => h) (Or.inl ⟨by rfl, ?hy5⟩) hHeld ?rest5
  case hy5 => (intro w hSw; (try dsimp only at hSw); go_simp; try with_reducible rfl)
  try simp only [Act.put, List.setIfInBounds_toArray, List.set_cons_zero, List.set_cons_succ, List.getElem_toArray, List.getElem_cons_zero, List.getElem_cons_succ]
  refine wpAnyH_take (i := 6) (v := .agg #[.string SN, .string SV, .slice a2 n c3]) rfl (by kernel_rfl) (by kernel_rfl) (by kernel_rfl) (fun _ _ _ h => h) (Or.inl ⟨by rfl, ?hy6⟩) hHeld ?rest6
  case hy6 => (intro u hSu; have k0 := (Below.cell (p := ⟨G, 0, none⟩) hSu hltY).trans Y0.out; have k1 := (Below.cell (p := ⟨G, 1, none⟩) hSu hltY).trans Y1.out; have k2 := (Below.cell (p := ⟨G, 2, none⟩) hSu hltY).trans Y2.out; clear hSu; go_simp; try with_reducible rfl)
  case rest6 =>
  try simp only [Act.put, List.setIfInBounds_toArray, List.set_cons_zero, List.set_cons_succ, List.getElem_toArray, List.getElem_cons_zero, List.getElem_cons_succ]
  refine wpAnyH_take (i := 8) (v := .agg #[.string SN, .string SV, .slice a n c]) rfl (by kernel_rfl) (by kernel_rfl) (by kernel_rfl) (fun _ _ _ h => h) (Or.inl ⟨by rfl, ?hy8⟩) hHeld ?rest8
  case hy8 => (intro u hSu; have k0 := (Below.cell (p := ⟨w.heap.size, 0, none⟩) hSu hltX).trans X0.out; have k1 := (Below.cell (p := ⟨w.heap.size, 1, none⟩) hSu hltX).trans X1.out; have k2 := (Below.cell (p := ⟨w.heap.size, 2, none⟩) hSu hltX).trans X2.out; clear hSu; go_simp; try with_reducible rfl)
  case rest8 =>
  try simp only [Act.put, List.setIfInBounds_toArray, List.set_cons_zero, List.set_cons_succ, List.getElem_toArray, List.getElem_cons_zero, List.getElem_cons_succ]
  refine wpAnyH_ready (rs := [7]) (by kernel_rfl) (by simp) ?_
  refine AllReadyH.cons rfl (fun K hK => ?_) AllReadyH.nil
  go_simp; refine (KS'.out _ hHeld).mono ?_; rintro e v3 ⟨rfl, hb3⟩; have D3 : Hid (Below W3.heap.size W3 v3) := Below.trans hHeld (Below.mono hb3 (Below.size hHeld)); clear hb3 hHeld; go_wp2_with fail
  refine hK.out _ _ ?hS7 (fun hHeld => ?rest7)
  case hS7 => exact D3.out
  clear hK K
  try simp only [Act.put, List.setIfInBounds_toArray, List.set_cons_zero, List.set_cons_succ, List.getElem_toArray, List.getElem_cons_zero, List.getElem_cons_succ]
  refine wpAnyH_ready (rs := [9]) (by kernel_rfl) (by simp) ?_
  refine AllReadyH.cons rfl (fun K hK => ?_) AllReadyH.nil
  go_simp; refine (KRS'.out _ hHeld).mono ?_; rintro e v4 ⟨rfl, hb4⟩; have D4 : Hid (Below W3.heap.size W3 v4) := Below.trans hHeld (Below.mono hb4 (Below.size hHeld)); clear hb4 hHeld; go_wp2_with fail
  refine hK.out _ _ ?hS9 (fun hHeld => ?rest9)
  case hS9 => exact D4.out
  clear hK K
  try simp only [Act.put, List.setIfInBounds_toArray, List.set_cons_zero, List.set_cons_succ, List.getElem_toArray, List.getElem_cons_zero, List.getElem_cons_succ]
  refine wpAnyH_take (i := 10) (v := ?v10) rfl (by kernel_rfl) (by kernel_rfl) (by kernel_rfl) (fun _ _ _ h => h) (Or.inl ⟨by rfl, ?hy10⟩) hHeld ?rest10
  case hy10 => (intro w hSw; (try dsimp only at hSw); go_simp; try with_reducible rfl)
  try simp only [Act.put, List.setIfInBounds_toArray, List.set_cons_zero, List.set_cons_succ, List.getElem_toArray, List.getElem_cons_zero, List.getElem_cons_succ]
  refine wpAnyH_take (i := 11) (v := ?v11) rfl (by kernel_rfl) (by kernel_rfl) (by kernel_rfl) (fun _ _ _ h => h) (Or.inl ⟨by rfl, ?hy11⟩) hHeld ?rest11
  case hy11 => (intro w hSw; (try dsimp only at hSw); go_simp; try with_reducible rfl)
  try simp only [Act.put, List.setIfInBounds_toArray, List.set_cons_zero, List.set_cons_succ, List.getElem_toArray, List.getElem_cons_zero, List.getElem_cons_succ]
  refine wpAnyH_take (i := 12) (v := ?v12) rfl (by kernel_rfl) (by kernel_rfl) (by kernel_rfl) (fun _ _ _ h => h) (Or.inl ⟨by rfl, ?hy12⟩) hHeld ?rest12
  case hy12 => (intro w hSw; (try dsimp only at hSw); go_simp; try with_reducible rfl)
  try simp only [Act.put, List.setIfInBounds_toArray, List.set_cons_zero, List.set_cons_succ, List.getElem_toArray, List.getElem_cons_zero, List.getElem_cons_succ]
  refine wpAnyH_take (i := 13) (v := .agg #[.string SN, .string SV, .slice a2 n c3]) rfl (by kernel_rfl) (by kernel_rfl) (by kernel_rfl) (fun _ _ _ h => h) (Or.inl ⟨by rfl, ?hy13⟩) hHeld ?rest13
  case hy13 => (intro u hSu; have k0 := (Below.cell (p := ⟨G, 0, none⟩) hSu hltY).trans Y0.out; have k1 := (Below.cell (p := ⟨G, 1, none⟩) hSu hltY).trans Y1.out; have k2 := (Below.cell (p := ⟨G, 2, none⟩) hSu hltY).trans Y2.out; clear hSu; go_simp; try with_reducible rfl)
  case rest13 =>
  try simp only [Act.put, List.setIfInBounds_toArray, List.set_cons_zero, List.set_cons_succ, List.getElem_toArray, List.getElem_cons_zero, List.getElem_cons_succ]
  refine wpAnyH_take (i := 14) (v := .agg #[.string SN, .string SV, .slice a n c]) rfl (by kernel_rfl) (by kernel_rfl) (by kernel_rfl) (fun _ _ _ h => h) (Or.inl ⟨by rfl, ?hy14⟩) hHeld ?rest14
  case hy14 => (intro u hSu; have k0 := (Below.cell (p := ⟨w.heap.size, 0, none⟩) hSu hltX).trans X0.out; have k1 := (Below.cell (p := ⟨w.heap.size, 1, none⟩) hSu hltX).trans X1.out; have k2 := (Below.cell (p := ⟨w.heap.size, 2, none⟩) hSu hltX).trans X2.out; clear hSu; go_simp; try with_reducible rfl)
  case rest14 =>
  try simp only [Act.put, List.setIfInBounds_toArray, List.set_cons_zero, List.set_cons_succ, List.getElem_toArray, List.getElem_cons_zero, List.getElem_cons_succ]
  refine wpAnyH_ready (rs := [15]) (by kernel_rfl) (by simp) ?_
  refine AllReadyH.cons rfl (fun K hK => ?_) AllReadyH.nil
  go_simp; refine (KSA'.out _ hHeld).mono ?_; rintro e v5 ⟨rfl, hb5⟩; have D5 : Hid (Below W3.heap.size W3 v5) := Below.trans hHeld (Below.mono hb5 (Below.size hHeld)); clear hb5 hHeld; go_wp2_with fail
  refine hK.out _ _ ?hS15 (fun hHeld => ?rest15)
  case hS15 => exact D5.out
  clear hK K
  try simp only [Act.put, List.setIfInBounds_toArray, List.set_cons_zero, List.set_cons_succ, List.getElem_toArray, List.getElem_cons_zero, List.getElem_cons_succ]
  refine wpAnyH_take (i := 16) (v := ?v16) rfl (by kernel_rfl) (by kernel_rfl) (by kernel_rfl) (fun _ _ _ h => h) (Or.inl ⟨by rfl, ?hy16⟩) hHeld ?rest16
  case hy16 => (intro w hSw; (try dsimp only at hSw); go_simp; try with_reducible rfl)
  try simp only [Act.put, List.setIfInBounds_toArray, List.set_cons_zero, List.set_cons_succ, List.getElem_toArray, List.getElem_cons_zero, List.getElem_cons_succ]
  refine wpAnyH_take (i := 17) (v := ?v17) rfl (by kernel_rfl) (by kernel_rfl) (by kernel_rfl) (fun _ _ _ h => h) (Or.inl ⟨by rfl, ?hy17⟩) hHeld ?rest17
  case hy17 => (intro w hSw; (try dsimp only at hSw); go_simp; try with_reducible rfl)
  try simp only [Act.put, List.setIfInBounds_toArray, List.set_cons_zero, List.set_cons_succ, List.getElem_toArray, List.getElem_cons_zero, List.getElem_cons_succ]
  refine wpAnyH_ready (rs := [18]) (by kernel_rfl) (by simp) ?_
  refine AllReadyH.cons rfl (fun K hK => ?_) AllReadyH.nil
  go_simp; refine (KW'.out _ hHeld).mono ?_; rintro e v6 ⟨rfl, hb6⟩; have D6 : Hid (Below W3.heap.size W3 v6) := Below.trans hHeld (Below.mono hb6 (Below.size hHeld)); clear hb6 hHeld; go_wp2_with fail
  refine hK.out _ _ ?hS18 (fun hHeld => ?rest18)
  case hS18 => exact D6.out
  clear hK K
  try simp only [Act.put, List.setIfInBounds_toArray, List.set_cons_zero, List.set_cons_succ, List.getElem_toArray, List.getElem_cons_zero, List.getElem_cons_succ]
  refine wpAnyH_take (i := 19) (v := ?v19) rfl (by kernel_rfl) (by kernel_rfl) (by kernel_rfl) (fun _ _ _ h => h) (Or.inl ⟨by rfl, ?hy19⟩) hHeld ?rest19
  case hy19 => (intro w hSw; (try dsimp only at hSw); go_simp; try with_reducible rfl)
  try simp only [Act.put, List.setIfInBounds_toArray, List.set_cons_zero, List.set_cons_succ, List.getElem_toArray, List.getElem_cons_zero, List.getElem_cons_succ]
  refine wpAnyH_take (i := 20) (v := ?v20) rfl (by kernel_rfl) (by kernel_rfl) (by kernel_rfl) (fun _ _ _ h => h) (Or.inl ⟨by rfl, ?hy20⟩) hHeld ?rest20
  case hy20 => (intro w hSw; (try dsimp only at hSw); go_simp; try with_reducible rfl)
  try simp only [Act.put, List.setIfInBounds_toArray, List.set_cons_zero, List.set_cons_succ, List.getElem_toArray, List.getElem_cons_zero, List.getElem_cons_succ]
  refine wpAnyH_done (by kernel_rfl) ?_ _
  refine NoPanic.normal ?_
  go_wp2_with fail
  go_ret
  exact ⟨rfl, B3.out.trans (D6.out.mono B3.out.size)⟩
end Go.Proofs.YtldlcbkjhgdolaaDoor
