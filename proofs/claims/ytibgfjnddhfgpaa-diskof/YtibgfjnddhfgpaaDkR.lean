/- settle while the map is gone over. Written by gen_dksettle.py. -/
import Derived.Test.YtibgfjnddhfgpaaDkQ
import Derived.Deep.RegionHeld3
import Derived.Great.Walk
namespace Go.Proofs.Ytibgfjnddhfgpaa
open Go.ChangeShapes Go.WideShapes Go.ChangeAt Go.RowKit Go.Deep Go.Maps
set_option linter.unusedVariables false
set_option linter.unusedSimpArgs false in
set_option maxRecDepth 100000 in
set_option maxHeartbeats 4000000 in
theorem settle_rg (w : World) (h b N : Nat) (D : List (List Int)) (W : Int → List (List Int)) (up : Bool) (done fuse : Int) (gd cd mb : Nat) (T : Int → Option Hd) (H : DkP w h b N D W up done fuse gd cd mb T) (hD : D.length ≤ 4096) (i : Nat) (hi : i < D.length) (k g c : Nat) (hT : T i = some (g + 1, (W i).length, c)) (hk : k < (W i).length) (hkl : (W i).length ≤ 1000000000) (y : List Int) (hy : (W i)[k]? = some y) (r cnt : Nat) (left : Int → Bool) (R : Rg w mb r N T left cnt) (hr : r ≠ gd) :
    Calls Try.prog 36 #[.pointer (some ⟨b, 0, none⟩), .int .i64 (i : Int), .int .i64 ((k : Int) + 1)] w fun e w' => e = .returned (.tuple #[]) ∧ Off (Fp b gd mb T) w w' ∧ DkP w' h b N (D.set i y) (fun j => if j = (i : Int) then [] else W j) up done fuse gd cd mb (fun q => if q = (i : Int) then none else T q) ∧ ∃ cnt', Rg w' mb r N (fun q => if q = (i : Int) then none else T q) (fun q => left q && !decide (q = (i : Int))) cnt' ∧ cnt' ≤ cnt := by
  have RG : Hid (Rg w mb r N T left cnt) := R
  have HR2 : Hid (r ≠ gd) := hr
  clear R hr
  obtain ⟨q0, q1, q2, q3, q4⟩ := d5_of H.cell
  have hy64 := (H.row i _ hT).2.2.2 y (List.mem_of_getElem? hy)
  have HR : Hid (w.rangeAt g (k * 64) (y.map (Value.int .u8))) := OwnB.range (H.row i _ hT).2.2.1 (H.row i _ hT).2.2.2 k y hy
  have HI : Hid (InI (i : Int)) := ⟨by omega, by omega⟩
  have HP : Hid (DkP w h b N D W up done fuse gd cd mb T) := H
  have LN : Hid ((y.map (Value.int .u8)).length = 64) := by show _ = _; simp [hy64.1]
  have e1 : decide (0 < (k : Int) + 1) = true := by rw [decide_eq_true_eq]; omega
  have ew : IntKind.i64.wrap ((k : Int) + 1 - 1) = (k : Int) := by rw [IntKind.wrap_i64]; omega
  have ew2 : IntKind.i64.wrap (k : Int) = (k : Int) := by rw [IntKind.wrap_i64]; omega
  have LK : Hid (∀ w', Sc w' mb N T → (Instr.lookup 70 (.map (some mb)) (.int .i64 (i : Int)) false).run Try.prog w' = .ok (.slice (some ⟨g, 0, none⟩) (W i).length c) w') := fun w' hs => by
    have := hs.look i HI.out
    rw [hT] at this
    exact this
  go_enter Try.func36, Try.ntmps36
  go_wp2_with fail
  refine wp_region_noPanic ?_
  refine wp_region_held_drew (S := (fun Wd : World => Wd.cell? ⟨b, 0, none⟩ = some (.slice (some ⟨gd, 0, none⟩) D.length cd) ∧ Wd.cell? ⟨b, 1, none⟩ = some (.map (some mb)) ∧ Wd.rangeAt g (k * 64) (y.map (Value.int .u8)) ∧ Sc Wd mb N T)) (by kernel_rfl) ?hSa (fun hHeld => ?resta)
  case hSa => exact ⟨q0, q1, HR.out, HP.out.mp⟩
  case resta =>
    refine wpAnyH_take (i := 0) (v := .pointer (some ⟨b, 0, none⟩)) rfl (by kernel_rfl) (by kernel_rfl) (by kernel_rfl) (fun _ _ _ h => h) (Or.inl ⟨by rfl, ?hy0⟩) hHeld ?rest0
    case hy0 => (intro w hSw; (try dsimp only at hSw); go_simp; try with_reducible rfl)
    try simp only [Act.put, List.setIfInBounds_toArray, List.set_cons_zero, List.set_cons_succ, List.getElem_toArray, List.getElem_cons_zero]
    refine wpAnyH_take (i := 1) (v := .pointer (some ⟨b, 0, none⟩)) rfl (by kernel_rfl) (by kernel_rfl) (by kernel_rfl) (fun _ _ _ h => h) (Or.inl ⟨by rfl, ?hy1⟩) hHeld ?rest1
    case hy1 => (intro w hSw; (try dsimp only at hSw); go_simp; try with_reducible rfl)
    try simp only [Act.put, List.setIfInBounds_toArray, List.set_cons_zero, List.set_cons_succ, List.getElem_toArray, List.getElem_cons_zero, List.getElem_cons_succ]
    refine wpAnyH_take (i := 2) (v := .pointer (some ⟨b, 0, none⟩)) rfl (by kernel_rfl) (by kernel_rfl) (by kernel_rfl) (fun _ _ _ h => h) (Or.inl ⟨by rfl, ?hy2⟩) hHeld ?rest2
    case hy2 => (intro w hSw; (try dsimp only at hSw); go_simp; try with_reducible rfl)
    try simp only [Act.put, List.setIfInBounds_toArray, List.set_cons_zero, List.set_cons_succ, List.getElem_toArray, List.getElem_cons_zero, List.getElem_cons_succ]
    refine wpAnyH_take (i := 3) (v := .slice (some ⟨gd, 0, none⟩) D.length cd) rfl (by kernel_rfl) (by kernel_rfl) (by kernel_rfl) (fun _ _ _ h => h) (Or.inl ⟨by rfl, ?hy3⟩) hHeld ?rest3
    case hy3 => (intro w hSw; have hS1 := hSw.1; clear hSw; go_simp; try with_reducible rfl)
    try simp only [Act.put, List.setIfInBounds_toArray, List.set_cons_zero, List.set_cons_succ, List.getElem_toArray, List.getElem_cons_zero, List.getElem_cons_succ]
    refine wpAnyH_take (i := 4) (v := .int .i64 (i : Int)) rfl (by kernel_rfl) (by kernel_rfl) (by kernel_rfl) (fun _ _ _ h => h) (Or.inl ⟨by rfl, ?hy4⟩) hHeld ?rest4
    case hy4 => (intro w hSw; (try dsimp only at hSw); go_simp; try with_reducible rfl)
    try simp only [Act.put, List.setIfInBounds_toArray, List.set_cons_zero, List.set_cons_succ, List.getElem_toArray, List.getElem_cons_zero, List.getElem_cons_succ]
    refine wpAnyH_take (i := 5) (v := .pointer (some ⟨b, 0, none⟩)) rfl (by kernel_rfl) (by kernel_rfl) (by kernel_rfl) (fun _ _ _ h => h) (Or.inl ⟨by rfl, ?hy5⟩) hHeld ?rest5
    case hy5 => (intro w hSw; (try dsimp only at hSw); go_simp; try with_reducible rfl)
    try simp only [Act.put, List.setIfInBounds_toArray, List.set_cons_zero, List.set_cons_succ, List.getElem_toArray, List.getElem_cons_zero, List.getElem_cons_succ]
    refine wpAnyH_take (i := 6) (v := .pointer (some ⟨b, 0, none⟩)) rfl (by kernel_rfl) (by kernel_rfl) (by kernel_rfl) (fun _ _ _ h => h) (Or.inl ⟨by rfl, ?hy6⟩) hHeld ?rest6
    case hy6 => (intro w hSw; (try dsimp only at hSw); go_simp; try with_reducible rfl)
    try simp only [Act.put, List.setIfInBounds_toArray, List.set_cons_zero, List.set_cons_succ, List.getElem_toArray, List.getElem_cons_zero, List.getElem_cons_succ]
    refine wpAnyH_take (i := 7) (v := .pointer (some ⟨b, 1, none⟩)) rfl (by kernel_rfl) (by kernel_rfl) (by kernel_rfl) (fun _ _ _ h => h) (Or.inl ⟨by rfl, ?hy7⟩) hHeld ?rest7
    case hy7 => (intro w hSw; (try dsimp only at hSw); go_simp; try with_reducible rfl)
    try simp only [Act.put, List.setIfInBounds_toArray, List.set_cons_zero, List.set_cons_succ, List.getElem_toArray, List.getElem_cons_zero, List.getElem_cons_succ]
    refine wpAnyH_take (i := 8) (v := .map (some mb)) rfl (by kernel_rfl) (by kernel_rfl) (by kernel_rfl) (fun _ _ _ h => h) (Or.inl ⟨by rfl, ?hy8⟩) hHeld ?rest8
    case hy8 => (intro w hSw; have hS1 := hSw.2.1; clear hSw; go_simp; try with_reducible rfl)
    try simp only [Act.put, List.setIfInBounds_toArray, List.set_cons_zero, List.set_cons_succ, List.getElem_toArray, List.getElem_cons_zero, List.getElem_cons_succ]
    refine wpAnyH_take (i := 9) (v := .int .i64 (i : Int)) rfl (by kernel_rfl) (by kernel_rfl) (by kernel_rfl) (fun _ _ _ h => h) (Or.inl ⟨by rfl, ?hy9⟩) hHeld ?rest9
    case hy9 => (intro w hSw; (try dsimp only at hSw); go_simp; try with_reducible rfl)
    try simp only [Act.put, List.setIfInBounds_toArray, List.set_cons_zero, List.set_cons_succ, List.getElem_toArray, List.getElem_cons_zero, List.getElem_cons_succ]
    refine wpAnyH_take (i := 10) (v := .slice (some ⟨g, 0, none⟩) (W i).length c) rfl (by kernel_rfl) (by kernel_rfl) (by kernel_rfl) (fun _ _ _ h => h) (Or.inl ⟨by rfl, ?hy10⟩) hHeld ?rest10
    case hy10 => (intro w hSw; have hS1 := LK.out w hSw.2.2.2; clear hSw; go_simp; try with_reducible rfl)
    try simp only [Act.put, List.setIfInBounds_toArray, List.set_cons_zero, List.set_cons_succ, List.getElem_toArray, List.getElem_cons_zero, List.getElem_cons_succ]
    refine wpAnyH_take (i := 11) (v := .int .i64 ((k : Int) + 1)) rfl (by kernel_rfl) (by kernel_rfl) (by kernel_rfl) (fun _ _ _ h => h) (Or.inl ⟨by rfl, ?hy11⟩) hHeld ?rest11
    case hy11 => (intro w hSw; (try dsimp only at hSw); go_simp; try with_reducible rfl)
    try simp only [Act.put, List.setIfInBounds_toArray, List.set_cons_zero, List.set_cons_succ, List.getElem_toArray, List.getElem_cons_zero, List.getElem_cons_succ]
    refine wpAnyH_take (i := 12) (v := .int .i64 (k : Int)) rfl (by kernel_rfl) (by kernel_rfl) (by kernel_rfl) (fun _ _ _ h => h) (Or.inl ⟨by rfl, ?hy12⟩) hHeld ?rest12
    case hy12 => (intro w hSw; (try dsimp only at hSw); go_simp; try with_reducible rfl)
    try simp only [Act.put, List.setIfInBounds_toArray, List.set_cons_zero, List.set_cons_succ, List.getElem_toArray, List.getElem_cons_zero, List.getElem_cons_succ]
    refine wpAnyH_take (i := 13) (v := .pointer (some ⟨g, k * 64, none⟩)) rfl (by kernel_rfl) (by kernel_rfl) (by kernel_rfl) (fun _ _ _ h => h) (Or.inl ⟨by rfl, ?hy13⟩) hHeld ?rest13
    case hy13 => (intro w hSw; (try dsimp only at hSw); go_simp; try with_reducible rfl)
    try simp only [Act.put, List.setIfInBounds_toArray, List.set_cons_zero, List.set_cons_succ, List.getElem_toArray, List.getElem_cons_zero, List.getElem_cons_succ]
    refine wpAnyH_take (i := 14) (v := .agg (y.map (Value.int .u8)).toArray) rfl (by kernel_rfl) (by kernel_rfl) (by kernel_rfl) (fun _ _ _ h => h) (yieldsIf_load_mid (by rfl) 75 (.tmp 21) rfl g (k * 64) rfl (y.map (Value.int .u8)) _ (fun w hSw => hSw.2.2.1) Try.underlying75 rfl (by rw [LN.out]; kernel_rfl)) hHeld ?rest14
    case rest14 =>
    try simp only [Act.put, List.setIfInBounds_toArray, List.set_cons_zero, List.set_cons_succ, List.getElem_toArray, List.getElem_cons_zero, List.getElem_cons_succ]
    refine wpAnyH_take (i := 15) (v := .pointer (some ⟨gd, i * 64, none⟩)) rfl (by kernel_rfl) (by kernel_rfl) (by kernel_rfl) (fun _ _ _ h => h) (Or.inl ⟨by rfl, ?hy15⟩) hHeld ?rest15
    case hy15 => (intro w hSw; (try dsimp only at hSw); go_simp; try with_reducible rfl)
    try simp only [Act.put, List.setIfInBounds_toArray, List.set_cons_zero, List.set_cons_succ, List.getElem_toArray, List.getElem_cons_zero, List.getElem_cons_succ]
    refine wpAnyH_ready (rs := [16]) (by kernel_rfl) (by simp) ?_
    refine AllReadyH.cons rfl (fun K hK => ?_) AllReadyH.nil
    have G1 : Hid (w.drew.grownBy (w.drew.setCells gd (i * 64) (y.map (Value.int .u8)).toArray.toList) (some gd)) := grown_sets gd _ _ w.drew
    have SV : Hid ((w.drew.setCells gd (i * 64) (y.map (Value.int .u8)).toArray.toList).cell? ⟨b, 0, none⟩ = some (.slice (some ⟨gd, 0, none⟩) D.length cd) ∧ (w.drew.setCells gd (i * 64) (y.map (Value.int .u8)).toArray.toList).cell? ⟨b, 1, none⟩ = some (.map (some mb)) ∧ (w.drew.setCells gd (i * 64) (y.map (Value.int .u8)).toArray.toList).rangeAt g (k * 64) (y.map (Value.int .u8)) ∧ Sc (w.drew.setCells gd (i * 64) (y.map (Value.int .u8)).toArray.toList) mb N T) := by
      have hl := HP.out.apart3
      have h4 := HP.out.apart4
      have hgo := HP.out.off (i : Int) g (by rw [hT]; rfl)
      have hbb := G1.out.block b hl.2.2.2.1 (by simpa using h4)
      refine ⟨(World.cell?_of_block (a := ⟨b, 0, none⟩) hbb).trans q0, (World.cell?_of_block (a := ⟨b, 1, none⟩) hbb).trans q1, fun j v hv => (World.cell?_of_block (a := ⟨g, k * 64 + j, none⟩) (G1.out.block g hgo.1 (by have := hgo.2.2.2.1; simpa using this))).trans (HR.out j v hv), Sc.kept (w := w.drew) HP.out.mp G1.out (by have := hl.2.1; simp; omega)⟩
    have OV : Hid (OwnB (w.drew.setCells gd (i * 64) (y.map (Value.int .u8)).toArray.toList) h (.slice (some ⟨gd, 0, none⟩) D.length cd) (D.set i y)) := OwnB.put (w := w.drew) rfl HP.out.dur HP.out.is64 i hi y hy64
    have TH : Hid (w.drew.there gd (i * 64) 64) := OwnB.there (w := w.drew) HP.out.dur HP.out.is64 i (D[i]) (List.getElem?_eq_getElem hi)
    have AL : Hid ((y.map (Value.int .u8)).toArray.all (·.oneCell') = true) := by show _ = _; rw [Array.all_eq_true_iff_forall_mem]; intro v hv; simp at hv; obtain ⟨z, _, rfl⟩ := hv; rfl
    have AS : Hid ((y.map (Value.int .u8)).toArray.size = 64) := by show _ = _; simp [hy64.1]
    refine wp_store_mid 75 (.tmp 23) (.tmp 22) rfl gd (i * 64) (y.map (Value.int .u8)).toArray rfl rfl (by rw [AS.out]; exact TH.out) (by rw [AS.out]; kernel_rfl) AL.out ?_
    refine hK.out _ _ ?hS16 (fun hHeld => ?rest16)
    case hS16 => exact SV.out
    clear hK K
    try simp only [Act.put, List.setIfInBounds_toArray, List.set_cons_zero, List.set_cons_succ, List.getElem_toArray, List.getElem_cons_zero, List.getElem_cons_succ]
    refine wpAnyH_done (by kernel_rfl) ?_ _
    refine NoPanic.normal ?_
    have RV : Hid (Rg (w.drew.setCells gd (i * 64) (y.map (Value.int .u8)).toArray.toList) mb r N T left cnt) := Rg.kept (w := w.drew) RG.out G1.out (by have := HP.out.apart3.2.1; simp; omega) (by have := HR2.out; simpa using this)
    obtain ⟨VV, hVV⟩ : ∃ VV, (w.drew.setCells gd (i * 64) (y.map (Value.int .u8)).toArray.toList) = VV := ⟨_, rfl⟩
    rw [hVV] at G1 SV OV RV ⊢
    have v1 := SV.out.2.1
    go_wp2_with (refine wpList_del_rg rfl (.tmp 27) (.tmp 28) rfl mb r N T left cnt rfl RV.out (i : Int) HI.out rfl ?_)
    intro w6 cnt6 r6 hle6 hg6
    have s6 := r6.sc
    have R6 : Hid (∃ cnt', Rg w6 mb r N (fun q => if q = (i : Int) then none else T q) (fun q => left q && !decide (q = (i : Int))) cnt' ∧ cnt' ≤ cnt) := ⟨cnt6, r6, hle6⟩
    clear r6 hle6
    have E6 : Hid (DkP w6 h b N (D.set i y) (fun j => if j = (i : Int) then [] else W j) up done fuse gd cd mb (fun q => if q = (i : Int) then none else T q)) := HP.out.settled (i : Int) OV.out (by simp) (is64_set HP.out.is64 i y hy64) (fun k hk hne => G1.out.block k hk (by simpa using hne)) G1.out.size s6 hg6
    have F6 : Hid (Off (Fp b gd mb T) w w6) := by
      have c1 : Off (Fp b gd mb T) w VV := Off.grown (w := w.drew) ⟨rfl, rfl, rfl, Nat.le_refl _, fun _ _ _ => rfl⟩ G1.out (fun k e => .inl (.inr (.inl (Option.some.inj e).symm)))
      exact c1.grown hg6 (fun k e => .inl (.inr (.inr (.inl (Option.some.inj e).symm))))
    clear s6 hg6
    go_wp2_with fail
    exact Great.bodyPost_end0 rfl rfl ⟨rfl, F6.out, E6.out, R6.out⟩
end Go.Proofs.Ytibgfjnddhfgpaa
