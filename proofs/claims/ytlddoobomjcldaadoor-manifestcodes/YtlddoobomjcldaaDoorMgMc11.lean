/- The document's text and Encode of a manifest. -/
import Derived.Test.YtlddoobomjcldaaDoorMgMc7
import Derived.Test.YtlddoobomjcldaaDoorMgMc10
import Derived.Deep.CutRange
namespace Go.Proofs.YtlddoobomjcldaaDoor
open Go.ChangeShapes Go.WideShapes Go.ChangeAt Go.RowKit Go.Deep Go.Maps
set_option linter.unusedVariables false
theorem tx_nums (t : Tx) : tx t = strOfNums (nm t) := by rw [numsM_tx, bytes_nm]
/-- the document's sevens of a size -/
theorem rvz_is (v : Int) (h0 : 0 ≤ v) (h1 : v ≤ 2147483647) (w : World) : Calls Tryd.prog 31 #[.int .u64 v] w fun e w' => ∃ a c, e = .returned (.slice a (vz v).length c) ∧ Holds w' a (vz v) ∧ Below w.heap.size w w' := by
  refine (rvar_any v h0 (by omega) w).mono ?_
  rintro e w' ⟨n, a, c, hs, rfl, hh, hb, _⟩
  have e1 := vz_sev v n h0 h1 hs
  refine ⟨a, c, ?_, by rw [← e1]; exact hh, hb⟩
  rw [← e1, varL_length]
set_option maxRecDepth 100000 in
theorem rtextM_is (t : Tx) (ht : t.length ≤ 16383) (w : World) : Calls Tryd.prog 41 #[.string (tx t)] w fun e w' => e = .returned (.string (strOfNums (vr t.length ++ nm t))) ∧ Below w.heap.size w w' := by
  have hs : (tx t).size = t.length := by rw [tx_nums, strOfNums_size, nm_length]
  have KV : Hid (Calls Tryd.prog 31 #[.int .u64 (t.length : Int)] w fun e w' => ∃ a c, e = .returned (.slice a (vz (t.length : Int)).length c) ∧ Holds w' a (vz (t.length : Int)) ∧ Below w.heap.size w w') := rvz_is _ (by omega) (by omega) w
  have HE : Hid (strOfNums (vz (t.length : Int)) ++ tx t = strOfNums (vr t.length ++ nm t)) := by show _ = _; rw [tx_nums, str_app, vr_vz _ (by omega)]
  obtain ⟨R, hR⟩ : ∃ R, R = strOfNums (vr t.length ++ nm t) := ⟨_, rfl⟩
  rw [← hR] at HE ⊢
  generalize tx t = X at *
  clear hR
  generalize t.length = k at *
  go_enter Tryd.func41, Tryd.ntmps41
  go_wp2_with fail
  refine KV.out.mono ?_
  rintro e w1 ⟨a, c, rfl, hh, hb⟩
  have cs := conv_str hh (vz (k : Int)).length c rfl
  have B1 : Hid (Below w.heap.size w w1) := hb
  clear hh hb KV
  have hYs : (strOfNums (vz (k : Int))).size ≤ 5 := by rw [strOfNums_size]; exact (vz_len _).2
  generalize (vz (k : Int)).length = q at *
  generalize strOfNums (vz (k : Int)) = Y at *
  go_wp2_with fail
  go_ret
  refine ⟨?_, B1.out⟩
  rw [← HE.out]
  rfl
set_option maxRecDepth 100000 in
set_option maxHeartbeats 4000000 in
theorem rmencode_bad (m : Mf) (n : Nat) (hn : m.2.2.length = n) (hn62 : n ≤ 4611686018427387904) (hf : FitM m) (a : Option Addr) (c : Nat) (w : World) (hl : InR w a m.2.2) (hc : mchk m ≠ 0) :
    Calls Tryd.prog 18 #[mv m a n c] w fun e w' => e = .returned (.tuple #[.string ⟨#[]⟩, .int .i64 (mchk m)]) ∧ Below w.heap.size w w' := by
  have B0 : Below w.heap.size w (w.alloc (.cells #[.string (tx m.1), .string (tx m.2.1), .slice a n c] 44)) := (Below.refl _ _).alloc (Nat.le_refl _) _
  have K : Hid (Calls Tryd.prog 40 #[.agg #[.string (tx m.1), .string (tx m.2.1), .slice a n c]] (w.alloc (.cells #[.string (tx m.1), .string (tx m.2.1), .slice a n c] 44)) fun e w' => e = .returned (.int .i64 (mchk m)) ∧ Below (w.alloc (.cells #[.string (tx m.1), .string (tx m.2.1), .slice a n c] 44)).heap.size (w.alloc (.cells #[.string (tx m.1), .string (tx m.2.1), .slice a n c] 44)) w') := rmcheck_is m n hn hn62 hf.2.2 hf.1 hf.2.1 a c _ (hl.keep B0)
  unfold mv
  generalize mchk m = r at *
  generalize tx m.1 = SN at *
  generalize tx m.2.1 = SV at *
  clear hl hn hf B0
  go_enter Tryd.func18, Tryd.ntmps18
  go_wp2_with fail
  refine K.out.mono ?_
  rintro e w1 ⟨rfl, hb1⟩
  obtain ⟨g1, hb2⟩ := one_blockM hb1
  have B1 : Hid (Below w.heap.size w w1) := hb2
  clear hb1 hb2 g1 K
  go_wp2_with fail
  go_ret2
  exact ⟨rfl, B1.out⟩
set_option maxRecDepth 100000 in
set_option maxHeartbeats 8000000 in
theorem rmencode_ok (m : Mf) (n : Nat) (hn : m.2.2.length = n) (hf : FitM m) (a : Option Addr) (c : Nat) (w : World) (hl : InR w a m.2.2) (hc : mchk m = 0) :
    Calls Tryd.prog 18 #[mv m a n c] w fun e w' => e = .returned (.tuple #[.string (strOfNums (menc m)), .int .i64 0]) ∧ Below w.heap.size w w' := by
  have hok := mchk_ok hc
  have h8 : n ≤ 8 := by rw [← hn]; exact hok.2.2.1
  have l1 := nmOk_len hok.1.1
  have l2 := nmOk_len hok.1.2
  obtain ⟨h, hh0⟩ : ∃ h, h = w.heap.size := ⟨_, rfl⟩
  have HH : Hid (h = w.heap.size) := hh0
  obtain ⟨W0, hW0⟩ : ∃ W0, W0 = w.alloc (.cells #[.string (tx m.1), .string (tx m.2.1), .slice a n c] 44) := ⟨_, rfl⟩
  have HW0 : Hid (W0 = w.alloc (.cells #[.string (tx m.1), .string (tx m.2.1), .slice a n c] 44)) := hW0
  have A0 : Below h w W0 := by rw [hW0, hh0]; exact (Below.refl _ _).alloc (Nat.le_refl _) _
  have M0 : Hid (MBox W0 h (tx m.1) (tx m.2.1) (.slice a n c)) := by rw [hW0, hh0]; exact MBox.new _ _ _ _
  have hs0 : W0.heap.size = h + 1 := by rw [hW0, hh0]; simp
  have A0' : Hid (Below h w W0) := A0
  have HI : Hid (∀ w', Below h w w' → InR w' a m.2.2) := fun w' hb => hl.keep (by rw [← hh0]; exact hb)
  have K : Hid (Calls Tryd.prog 40 #[.agg #[.string (tx m.1), .string (tx m.2.1), .slice a n c]] W0 fun e w' => e = .returned (.int .i64 0) ∧ Below W0.heap.size W0 w') := by
    have := rmcheck_is m n hn (by omega) hf.2.2 hf.1 hf.2.1 a c W0 (HI.out _ A0)
    rw [hc] at this
    exact this
  have KT1 : Hid (∀ W, Calls Tryd.prog 41 #[.string (tx m.1)] W fun e w' => e = .returned (.string (strOfNums (vr m.1.length ++ nm m.1))) ∧ Below W.heap.size W w') := fun W => rtextM_is m.1 (by omega) W
  have KT2 : Hid (∀ W, Calls Tryd.prog 41 #[.string (tx m.2.1)] W fun e w' => e = .returned (.string (strOfNums (vr m.2.1.length ++ nm m.2.1))) ∧ Below W.heap.size W w') := fun W => rtextM_is m.2.1 (by omega) W
  obtain ⟨A1, hA1⟩ : ∃ A1, A1 = [86, 77, 1] ++ (vr m.1.length ++ nm m.1) ++ (vr m.2.1.length ++ nm m.2.1) ++ [(n : Int)] := ⟨_, rfl⟩
  have HJ : Hid (⟨#[86, 77, 1]⟩ ++ strOfNums (vr m.1.length ++ nm m.1) ++ strOfNums (vr m.2.1.length ++ nm m.2.1) ++ strOfNums [(n : Int)] = strOfNums A1) := by
    show _ = _
    have e0 : (⟨#[86, 77, 1]⟩ : ByteArray) = strOfNums [86, 77, 1] := by apply ByteArray.ext; simp [strOfNums]
    rw [e0, str_app, str_app, str_app, hA1]
  have HEN : Hid (menc m = A1 ++ mel m.2.2) := by show _ = _; rw [hA1, ← hn]; rfl
  have HN : Hid (m.2.2.length = n) := hn
  have HD : Hid (Dgs m.2.2) := hf.2.2
  have HZ : Hid (∀ x ∈ m.2.2, 0 ≤ x.2 ∧ x.2 ≤ 2147483647) := hok.2.2.2
  obtain ⟨R, hR⟩ : ∃ R, R = strOfNums (menc m) := ⟨_, rfl⟩
  rw [← hR]
  have HR : Hid (R = strOfNums (menc m)) := hR
  unfold mv
  generalize tx m.1 = SN at *
  generalize tx m.2.1 = SV at *
  have hsX1 : (strOfNums (vr m.1.length ++ nm m.1)).size ≤ 100 := by rw [strOfNums_size, List.length_append, nm_length]; have := (vr_len m.1.length).2; omega
  have hsX2 : (strOfNums (vr m.2.1.length ++ nm m.2.1)).size ≤ 100 := by rw [strOfNums_size, List.length_append, nm_length]; have := (vr_len m.2.1.length).2; omega
  generalize strOfNums (vr m.1.length ++ nm m.1) = X1 at *
  generalize strOfNums (vr m.2.1.length ++ nm m.2.1) = X2 at *
  have hn256 : ((n : Nat) : Int) % 256 = ((n : Nat) : Int) := by omega
  have hwn : Hid (IntKind.u8.wrap ((n : Nat) : Int) = ((n : Nat) : Int)) := by show _ = _; simp [IntKind.wrap, IntKind.signed, IntKind.bits]; omega
  obtain ⟨TN, hTN⟩ : ∃ TN, TN = strOfNums [(n : Int)] := ⟨_, rfl⟩
  rw [← hTN] at HJ
  have hsTN : TN.size = 1 := by rw [hTN, strOfNums_size]; rfl
  have HTN : Hid (TN = strOfNums [(n : Int)]) := hTN
  obtain ⟨Y, hY⟩ : ∃ Y, Y = strOfNums A1 := ⟨_, rfl⟩
  rw [← hY] at HJ
  have HY : Hid (Y = strOfNums A1) := hY
  clear hok l1 l2 A0 hW0 hh0 hl hc hn hf hA1 hR hTN hY
  go_enter Tryd.func18, Tryd.ntmps18
  go_wp2_with fail
  rw [← HW0.out, ← HH.out]
  clear HW0
  refine K.out.mono ?_
  rintro e w1 ⟨rfl, hb1⟩
  have M1 : Hid (MBox w1 h SN SV (.slice a n c)) := (hb1.block h (by omega)).trans M0.out
  have B1 : Hid (Below h w w1) := A0'.out.trans (hb1.mono (by omega))
  have hs1 : h < w1.heap.size := M1.out.lt
  obtain ⟨⟨x0, x1, x2⟩, _⟩ := M1.out.cells
  have X0 : Hid (w1.cell? ⟨h, 0, none⟩ = some (.string SN)) := x0
  have XX1 : Hid (w1.cell? ⟨h, 1, none⟩ = some (.string SV)) := x1
  have XX2 : Hid (w1.cell? ⟨h, 2, none⟩ = some (.slice a n c)) := x2
  clear hb1 K M0 A0' x0 x1 x2
  go_upto_region 4 with fail
  go_cut [5] from 13 to 27 (fun s wx => s = .string Y ∧ Hid (Below w1.heap.size w1 wx))
  case first =>
    refine wp_region_noPanic ?_
    refine wp_region_held_drew (S := (fun W : World => Below w1.heap.size w1 W)) (by kernel_rfl) ?hSa (fun hHeld => ?resta)
    case hSa => exact below_drewM (Below.refl _ _)
    case resta =>
    generalize World.drew w1 = u0 at hHeld ⊢
    refine wpAnyH_take (i := 0) (v := ?v0) rfl (by kernel_rfl) (by kernel_rfl) (by kernel_rfl) (fun _ _ _ h => h) (Or.inl ⟨by rfl, ?hy0⟩) hHeld ?rest0
    case hy0 => (intro w hSw; (try dsimp only at hSw); go_simp; try with_reducible rfl)
    try simp only [Act.put, List.setIfInBounds_toArray, List.set_cons_zero, List.set_cons_succ, List.getElem_toArray, List.getElem_cons_zero]
    refine wpAnyH_take (i := 1) (v := .string SN) rfl (by kernel_rfl) (by kernel_rfl) (by kernel_rfl) (fun _ _ _ h => h) (Or.inl ⟨by rfl, ?hy1⟩) hHeld ?rest1
    case hy1 => (intro u hSu; have k0 := (Below.cell (p := ⟨h, 0, none⟩) hSu hs1).trans X0.out; clear hSu; go_simp; try with_reducible rfl)
    case rest1 =>
    try simp only [Act.put, List.setIfInBounds_toArray, List.set_cons_zero, List.set_cons_succ, List.getElem_toArray, List.getElem_cons_zero, List.getElem_cons_succ]
    refine wpAnyH_take (i := 4) (v := ?v4) rfl (by kernel_rfl) (by kernel_rfl) (by kernel_rfl) (fun _ _ _ h => h) (Or.inl ⟨by rfl, ?hy4⟩) hHeld ?rest4
    case hy4 => (intro w hSw; (try dsimp only at hSw); go_simp; try with_reducible rfl)
    try simp only [Act.put, List.setIfInBounds_toArray, List.set_cons_zero, List.set_cons_succ, List.getElem_toArray, List.getElem_cons_zero, List.getElem_cons_succ]
    refine wpAnyH_take (i := 5) (v := .string SV) rfl (by kernel_rfl) (by kernel_rfl) (by kernel_rfl) (fun _ _ _ h => h) (Or.inl ⟨by rfl, ?hy5⟩) hHeld ?rest5
    case hy5 => (intro u hSu; have k0 := (Below.cell (p := ⟨h, 1, none⟩) hSu hs1).trans XX1.out; clear hSu; go_simp; try with_reducible rfl)
    case rest5 =>
    try simp only [Act.put, List.setIfInBounds_toArray, List.set_cons_zero, List.set_cons_succ, List.getElem_toArray, List.getElem_cons_zero, List.getElem_cons_succ]
    refine wpAnyH_take (i := 8) (v := ?v8) rfl (by kernel_rfl) (by kernel_rfl) (by kernel_rfl) (fun _ _ _ h => h) (Or.inl ⟨by rfl, ?hy8⟩) hHeld ?rest8
    case hy8 => (intro w hSw; (try dsimp only at hSw); go_simp; try with_reducible rfl)
    try simp only [Act.put, List.setIfInBounds_toArray, List.set_cons_zero, List.set_cons_succ, List.getElem_toArray, List.getElem_cons_zero, List.getElem_cons_succ]
    refine wpAnyH_take (i := 9) (v := .slice a n c) rfl (by kernel_rfl) (by kernel_rfl) (by kernel_rfl) (fun _ _ _ h => h) (Or.inl ⟨by rfl, ?hy9⟩) hHeld ?rest9
    case hy9 => (intro u hSu; have k0 := (Below.cell (p := ⟨h, 2, none⟩) hSu hs1).trans XX2.out; clear hSu; go_simp; try with_reducible rfl)
    case rest9 =>
    try simp only [Act.put, List.setIfInBounds_toArray, List.set_cons_zero, List.set_cons_succ, List.getElem_toArray, List.getElem_cons_zero, List.getElem_cons_succ]
    refine wpAnyH_take (i := 10) (v := ?v10) rfl (by kernel_rfl) (by kernel_rfl) (by kernel_rfl) (fun _ _ _ h => h) (Or.inl ⟨by rfl, ?hy10⟩) hHeld ?rest10
    case hy10 => (intro w hSw; (try dsimp only at hSw); go_simp; try with_reducible rfl)
    try simp only [Act.put, List.setIfInBounds_toArray, List.set_cons_zero, List.set_cons_succ, List.getElem_toArray, List.getElem_cons_zero, List.getElem_cons_succ]
    refine wpAnyH_take (i := 11) (v := .int .u8 (n : Int)) rfl (by kernel_rfl) (by kernel_rfl) (by kernel_rfl) (fun _ _ _ h => h) (Or.inl ⟨by rfl, ?hy11⟩) hHeld ?rest11
    case hy11 => (intro u hSu; clear hSu; go_simp; try rw [hwn.out]; try first | with_reducible rfl | omega)
    case rest11 =>
    try simp only [Act.put, List.setIfInBounds_toArray, List.set_cons_zero, List.set_cons_succ, List.getElem_toArray, List.getElem_cons_zero, List.getElem_cons_succ]
    refine wpAnyH_ready (rs := [2, 12]) (by kernel_rfl) (by simp) ?_
    refine AllReadyH.cons rfl (fun K hK => ?_) (AllReadyH.cons rfl (fun K hK => ?_) AllReadyH.nil)
    · go_simp; refine (KT1.out _).mono ?_; rintro e v1 ⟨rfl, hb1⟩; have D1 : Hid (Below w1.heap.size w1 v1) := Below.trans hHeld (Below.mono hb1 (Below.size hHeld)); clear hb1 hHeld; go_wp2_with fail
      refine hK.out _ _ ?hSg1 (fun hHeld => ?restg1)
      case hSg1 => exact D1.out
      case restg1 =>
      clear hK K
      try simp only [Act.put, List.setIfInBounds_toArray, List.set_cons_zero, List.set_cons_succ, List.getElem_toArray, List.getElem_cons_zero, List.getElem_cons_succ]
      refine wpAnyH_take (i := 3) (v := .string (⟨#[86, 77, 1]⟩ ++ X1)) rfl (by kernel_rfl) (by kernel_rfl) (by kernel_rfl) (fun _ _ _ h => h) (Or.inl ⟨by rfl, ?hy3t1⟩) hHeld ?rest3t1
      case hy3t1 => (intro u hSu; clear hSu; go_simp; try first | with_reducible rfl | omega)
      case rest3t1 =>
      try simp only [Act.put, List.setIfInBounds_toArray, List.set_cons_zero, List.set_cons_succ, List.getElem_toArray, List.getElem_cons_zero, List.getElem_cons_succ]
      refine wpAnyH_ready (rs := [6, 12]) (by kernel_rfl) (by simp) ?_
      refine AllReadyH.cons rfl (fun K hK => ?_) (AllReadyH.cons rfl (fun K hK => ?_) AllReadyH.nil)
      · go_simp; refine (KT2.out _).mono ?_; rintro e v2 ⟨rfl, hb2⟩; have D2 : Hid (Below w1.heap.size w1 v2) := Below.trans hHeld (Below.mono hb2 (Below.size hHeld)); clear hb2 hHeld; go_wp2_with fail
        refine hK.out _ _ ?hSg2 (fun hHeld => ?restg2)
        case hSg2 => exact D2.out
        case restg2 =>
        clear hK K
        try simp only [Act.put, List.setIfInBounds_toArray, List.set_cons_zero, List.set_cons_succ, List.getElem_toArray, List.getElem_cons_zero, List.getElem_cons_succ]
        refine wpAnyH_take (i := 7) (v := .string (⟨#[86, 77, 1]⟩ ++ X1 ++ X2)) rfl (by kernel_rfl) (by kernel_rfl) (by kernel_rfl) (fun _ _ _ h => h) (Or.inl ⟨by rfl, ?hy7t2⟩) hHeld ?rest7t2
        case hy7t2 => (intro u hSu; clear hSu; go_simp; try first | with_reducible rfl | omega)
        case rest7t2 =>
        try simp only [Act.put, List.setIfInBounds_toArray, List.set_cons_zero, List.set_cons_succ, List.getElem_toArray, List.getElem_cons_zero, List.getElem_cons_succ]
        refine wpAnyH_ready (rs := [12]) (by kernel_rfl) (by simp) ?_
        refine AllReadyH.cons rfl (fun K hK => ?_) AllReadyH.nil
        go_simp; have D3 : Hid (Below w1.heap.size w1 (v2.alloc (.cells #[.int .u8 (n : Int)] 5))) := Below.alloc hHeld (Below.size hHeld) _; have H12 : Hid (Holds (v2.alloc (.cells #[.int .u8 (n : Int)] 5)) (some ⟨v2.heap.size, 0, none⟩) [(n : Int)]) := holds_one v2 _; have L12 : v2.heap.size < (v2.alloc (.cells #[.int .u8 (n : Int)] 5)).heap.size := by simp
        generalize (v2.alloc (.cells #[.int .u8 (n : Int)] 5)) = v3 at *
        generalize v2.heap.size = g3b at *
        refine hK.out _ _ ?hSg3 (fun hHeld => ?restg3)
        case hSg3 => exact D3.out
        case restg3 =>
        clear hK K
        try simp only [Act.put, List.setIfInBounds_toArray, List.set_cons_zero, List.set_cons_succ, List.getElem_toArray, List.getElem_cons_zero, List.getElem_cons_succ]
        refine wpAnyH_ready (rs := [13]) (by kernel_rfl) (by simp) ?_
        refine AllReadyH.cons rfl (fun K hK => ?_) AllReadyH.nil
        have cs4 := conv_str H12.out 1 1 rfl
        rw [← HTN.out] at cs4
        go_simp
        refine hK.out _ _ ?hSg4 (fun hHeld => ?restg4)
        case hSg4 => exact hHeld
        case restg4 =>
        clear hK K
        try simp only [Act.put, List.setIfInBounds_toArray, List.set_cons_zero, List.set_cons_succ, List.getElem_toArray, List.getElem_cons_zero, List.getElem_cons_succ]
        refine wpAnyH_take (i := 14) (v := .string (⟨#[86, 77, 1]⟩ ++ X1 ++ X2 ++ TN)) rfl (by kernel_rfl) (by kernel_rfl) (by kernel_rfl) (fun _ _ _ h => h) (Or.inl ⟨by rfl, ?hy14q4⟩) hHeld ?rest14q4
        case hy14q4 => (intro u hSu; clear hSu; go_simp; try first | with_reducible rfl | omega)
        case rest14q4 =>
        try simp only [Act.put, List.setIfInBounds_toArray, List.set_cons_zero, List.set_cons_succ, List.getElem_toArray, List.getElem_cons_zero, List.getElem_cons_succ]
        refine wpAnyH_take (i := 15) (v := ?v15q4) rfl (by kernel_rfl) (by kernel_rfl) (by kernel_rfl) (fun _ _ _ h => h) (Or.inl ⟨by rfl, ?hy15q4⟩) hHeld ?rest15q4
        case hy15q4 => (intro w hSw; (try dsimp only at hSw); go_simp; try with_reducible rfl)
        try simp only [Act.put, List.setIfInBounds_toArray, List.set_cons_zero, List.set_cons_succ, List.getElem_toArray, List.getElem_cons_zero, List.getElem_cons_succ]
        refine wpAnyH_done (by kernel_rfl) ?_ _
        refine NoPanic.normal ?_
        try go_wp2_with fail
        go_meet
        case rel => exact ⟨by rw [← HJ.out], hHeld⟩
      · go_simp; have D6 : Hid (Below w1.heap.size w1 (v1.alloc (.cells #[.int .u8 (n : Int)] 5))) := Below.alloc hHeld (Below.size hHeld) _; have H12 : Hid (Holds (v1.alloc (.cells #[.int .u8 (n : Int)] 5)) (some ⟨v1.heap.size, 0, none⟩) [(n : Int)]) := holds_one v1 _; have L12 : v1.heap.size < (v1.alloc (.cells #[.int .u8 (n : Int)] 5)).heap.size := by simp
        generalize (v1.alloc (.cells #[.int .u8 (n : Int)] 5)) = v6 at *
        generalize v1.heap.size = g6b at *
        refine hK.out _ _ ?hSg6 (fun hHeld => ?restg6)
        case hSg6 => exact D6.out
        case restg6 =>
        clear hK K
        try simp only [Act.put, List.setIfInBounds_toArray, List.set_cons_zero, List.set_cons_succ, List.getElem_toArray, List.getElem_cons_zero, List.getElem_cons_succ]
        refine wpAnyH_ready (rs := [6, 13]) (by kernel_rfl) (by simp) ?_
        refine AllReadyH.cons rfl (fun K hK => ?_) (AllReadyH.cons rfl (fun K hK => ?_) AllReadyH.nil)
        · go_simp; refine (KT2.out _).mono ?_; rintro e v7 ⟨rfl, hb7⟩; have D7 : Hid (Below w1.heap.size w1 v7) := Below.trans hHeld (Below.mono hb7 (Below.size hHeld)); have H7 : Hid (Holds v7 (some ⟨g6b, 0, none⟩) [(n : Int)]) := H12.out.below hb7 (fun x hx _ => by cases hx; exact L12); have L12 : g6b < v7.heap.size := Nat.lt_of_lt_of_le L12 hb7.size; have H12 : Hid (Holds v7 (some ⟨g6b, 0, none⟩) [(n : Int)]) := H7; clear hb7 hHeld; go_wp2_with fail
          refine hK.out _ _ ?hSg7 (fun hHeld => ?restg7)
          case hSg7 => exact D7.out
          case restg7 =>
          clear hK K
          try simp only [Act.put, List.setIfInBounds_toArray, List.set_cons_zero, List.set_cons_succ, List.getElem_toArray, List.getElem_cons_zero, List.getElem_cons_succ]
          refine wpAnyH_take (i := 7) (v := .string (⟨#[86, 77, 1]⟩ ++ X1 ++ X2)) rfl (by kernel_rfl) (by kernel_rfl) (by kernel_rfl) (fun _ _ _ h => h) (Or.inl ⟨by rfl, ?hy7t7⟩) hHeld ?rest7t7
          case hy7t7 => (intro u hSu; clear hSu; go_simp; try first | with_reducible rfl | omega)
          case rest7t7 =>
          try simp only [Act.put, List.setIfInBounds_toArray, List.set_cons_zero, List.set_cons_succ, List.getElem_toArray, List.getElem_cons_zero, List.getElem_cons_succ]
          refine wpAnyH_ready (rs := [13]) (by kernel_rfl) (by simp) ?_
          refine AllReadyH.cons rfl (fun K hK => ?_) AllReadyH.nil
          have cs8 := conv_str H12.out 1 1 rfl
          rw [← HTN.out] at cs8
          go_simp
          refine hK.out _ _ ?hSg8 (fun hHeld => ?restg8)
          case hSg8 => exact hHeld
          case restg8 =>
          clear hK K
          try simp only [Act.put, List.setIfInBounds_toArray, List.set_cons_zero, List.set_cons_succ, List.getElem_toArray, List.getElem_cons_zero, List.getElem_cons_succ]
          refine wpAnyH_take (i := 14) (v := .string (⟨#[86, 77, 1]⟩ ++ X1 ++ X2 ++ TN)) rfl (by kernel_rfl) (by kernel_rfl) (by kernel_rfl) (fun _ _ _ h => h) (Or.inl ⟨by rfl, ?hy14q8⟩) hHeld ?rest14q8
          case hy14q8 => (intro u hSu; clear hSu; go_simp; try first | with_reducible rfl | omega)
          case rest14q8 =>
          try simp only [Act.put, List.setIfInBounds_toArray, List.set_cons_zero, List.set_cons_succ, List.getElem_toArray, List.getElem_cons_zero, List.getElem_cons_succ]
          refine wpAnyH_take (i := 15) (v := ?v15q8) rfl (by kernel_rfl) (by kernel_rfl) (by kernel_rfl) (fun _ _ _ h => h) (Or.inl ⟨by rfl, ?hy15q8⟩) hHeld ?rest15q8
          case hy15q8 => (intro w hSw; (try dsimp only at hSw); go_simp; try with_reducible rfl)
          try simp only [Act.put, List.setIfInBounds_toArray, List.set_cons_zero, List.set_cons_succ, List.getElem_toArray, List.getElem_cons_zero, List.getElem_cons_succ]
          refine wpAnyH_done (by kernel_rfl) ?_ _
          refine NoPanic.normal ?_
          try go_wp2_with fail
          go_meet
          case rel => exact ⟨by rw [← HJ.out], hHeld⟩
        · have cs10 := conv_str H12.out 1 1 rfl
          rw [← HTN.out] at cs10
          go_simp
          refine hK.out _ _ ?hSg10 (fun hHeld => ?restg10)
          case hSg10 => exact hHeld
          case restg10 =>
          clear hK K
          try simp only [Act.put, List.setIfInBounds_toArray, List.set_cons_zero, List.set_cons_succ, List.getElem_toArray, List.getElem_cons_zero, List.getElem_cons_succ]
          refine wpAnyH_ready (rs := [6]) (by kernel_rfl) (by simp) ?_
          refine AllReadyH.cons rfl (fun K hK => ?_) AllReadyH.nil
          go_simp; refine (KT2.out _).mono ?_; rintro e v11 ⟨rfl, hb11⟩; have D11 : Hid (Below w1.heap.size w1 v11) := Below.trans hHeld (Below.mono hb11 (Below.size hHeld)); clear hb11 hHeld; go_wp2_with fail
          refine hK.out _ _ ?hSg11 (fun hHeld => ?restg11)
          case hSg11 => exact D11.out
          case restg11 =>
          clear hK K
          try simp only [Act.put, List.setIfInBounds_toArray, List.set_cons_zero, List.set_cons_succ, List.getElem_toArray, List.getElem_cons_zero, List.getElem_cons_succ]
          refine wpAnyH_take (i := 7) (v := .string (⟨#[86, 77, 1]⟩ ++ X1 ++ X2)) rfl (by kernel_rfl) (by kernel_rfl) (by kernel_rfl) (fun _ _ _ h => h) (Or.inl ⟨by rfl, ?hy7t11⟩) hHeld ?rest7t11
          case hy7t11 => (intro u hSu; clear hSu; go_simp; try first | with_reducible rfl | omega)
          case rest7t11 =>
          try simp only [Act.put, List.setIfInBounds_toArray, List.set_cons_zero, List.set_cons_succ, List.getElem_toArray, List.getElem_cons_zero, List.getElem_cons_succ]
          refine wpAnyH_take (i := 14) (v := .string (⟨#[86, 77, 1]⟩ ++ X1 ++ X2 ++ TN)) rfl (by kernel_rfl) (by kernel_rfl) (by kernel_rfl) (fun _ _ _ h => h) (Or.inl ⟨by rfl, ?hy14q11⟩) hHeld ?rest14q11
          case hy14q11 => (intro u hSu; clear hSu; go_simp; try first | with_reducible rfl | omega)
          case rest14q11 =>
          try simp only [Act.put, List.setIfInBounds_toArray, List.set_cons_zero, List.set_cons_succ, List.getElem_toArray, List.getElem_cons_zero, List.getElem_cons_succ]
          refine wpAnyH_take (i := 15) (v := ?v15q11) rfl (by kernel_rfl) (by kernel_rfl) (by kernel_rfl) (fun _ _ _ h => h) (Or.inl ⟨by rfl, ?hy15q11⟩) hHeld ?rest15q11
          case hy15q11 => (intro w hSw; (try dsimp only at hSw); go_simp; try with_reducible rfl)
          try simp only [Act.put, List.setIfInBounds_toArray, List.set_cons_zero, List.set_cons_succ, List.getElem_toArray, List.getElem_cons_zero, List.getElem_cons_succ]
          refine wpAnyH_done (by kernel_rfl) ?_ _
          refine NoPanic.normal ?_
          try go_wp2_with fail
          go_meet
          case rel => exact ⟨by rw [← HJ.out], hHeld⟩
    · go_simp; have D13 : Hid (Below w1.heap.size w1 (u0.alloc (.cells #[.int .u8 (n : Int)] 5))) := Below.alloc hHeld (Below.size hHeld) _; have H12 : Hid (Holds (u0.alloc (.cells #[.int .u8 (n : Int)] 5)) (some ⟨u0.heap.size, 0, none⟩) [(n : Int)]) := holds_one u0 _; have L12 : u0.heap.size < (u0.alloc (.cells #[.int .u8 (n : Int)] 5)).heap.size := by simp
      generalize (u0.alloc (.cells #[.int .u8 (n : Int)] 5)) = v13 at *
      generalize u0.heap.size = g13b at *
      refine hK.out _ _ ?hSg13 (fun hHeld => ?restg13)
      case hSg13 => exact D13.out
      case restg13 =>
      clear hK K
      try simp only [Act.put, List.setIfInBounds_toArray, List.set_cons_zero, List.set_cons_succ, List.getElem_toArray, List.getElem_cons_zero, List.getElem_cons_succ]
      refine wpAnyH_ready (rs := [2, 13]) (by kernel_rfl) (by simp) ?_
      refine AllReadyH.cons rfl (fun K hK => ?_) (AllReadyH.cons rfl (fun K hK => ?_) AllReadyH.nil)
      · go_simp; refine (KT1.out _).mono ?_; rintro e v14 ⟨rfl, hb14⟩; have D14 : Hid (Below w1.heap.size w1 v14) := Below.trans hHeld (Below.mono hb14 (Below.size hHeld)); have H14 : Hid (Holds v14 (some ⟨g13b, 0, none⟩) [(n : Int)]) := H12.out.below hb14 (fun x hx _ => by cases hx; exact L12); have L12 : g13b < v14.heap.size := Nat.lt_of_lt_of_le L12 hb14.size; have H12 : Hid (Holds v14 (some ⟨g13b, 0, none⟩) [(n : Int)]) := H14; clear hb14 hHeld; go_wp2_with fail
        refine hK.out _ _ ?hSg14 (fun hHeld => ?restg14)
        case hSg14 => exact D14.out
        case restg14 =>
        clear hK K
        try simp only [Act.put, List.setIfInBounds_toArray, List.set_cons_zero, List.set_cons_succ, List.getElem_toArray, List.getElem_cons_zero, List.getElem_cons_succ]
        refine wpAnyH_take (i := 3) (v := .string (⟨#[86, 77, 1]⟩ ++ X1)) rfl (by kernel_rfl) (by kernel_rfl) (by kernel_rfl) (fun _ _ _ h => h) (Or.inl ⟨by rfl, ?hy3t14⟩) hHeld ?rest3t14
        case hy3t14 => (intro u hSu; clear hSu; go_simp; try first | with_reducible rfl | omega)
        case rest3t14 =>
        try simp only [Act.put, List.setIfInBounds_toArray, List.set_cons_zero, List.set_cons_succ, List.getElem_toArray, List.getElem_cons_zero, List.getElem_cons_succ]
        refine wpAnyH_ready (rs := [6, 13]) (by kernel_rfl) (by simp) ?_
        refine AllReadyH.cons rfl (fun K hK => ?_) (AllReadyH.cons rfl (fun K hK => ?_) AllReadyH.nil)
        · go_simp; refine (KT2.out _).mono ?_; rintro e v15 ⟨rfl, hb15⟩; have D15 : Hid (Below w1.heap.size w1 v15) := Below.trans hHeld (Below.mono hb15 (Below.size hHeld)); have H15 : Hid (Holds v15 (some ⟨g13b, 0, none⟩) [(n : Int)]) := H12.out.below hb15 (fun x hx _ => by cases hx; exact L12); have L12 : g13b < v15.heap.size := Nat.lt_of_lt_of_le L12 hb15.size; have H12 : Hid (Holds v15 (some ⟨g13b, 0, none⟩) [(n : Int)]) := H15; clear hb15 hHeld; go_wp2_with fail
          refine hK.out _ _ ?hSg15 (fun hHeld => ?restg15)
          case hSg15 => exact D15.out
          case restg15 =>
          clear hK K
          try simp only [Act.put, List.setIfInBounds_toArray, List.set_cons_zero, List.set_cons_succ, List.getElem_toArray, List.getElem_cons_zero, List.getElem_cons_succ]
          refine wpAnyH_take (i := 7) (v := .string (⟨#[86, 77, 1]⟩ ++ X1 ++ X2)) rfl (by kernel_rfl) (by kernel_rfl) (by kernel_rfl) (fun _ _ _ h => h) (Or.inl ⟨by rfl, ?hy7t15⟩) hHeld ?rest7t15
          case hy7t15 => (intro u hSu; clear hSu; go_simp; try first | with_reducible rfl | omega)
          case rest7t15 =>
          try simp only [Act.put, List.setIfInBounds_toArray, List.set_cons_zero, List.set_cons_succ, List.getElem_toArray, List.getElem_cons_zero, List.getElem_cons_succ]
          refine wpAnyH_ready (rs := [13]) (by kernel_rfl) (by simp) ?_
          refine AllReadyH.cons rfl (fun K hK => ?_) AllReadyH.nil
          have cs16 := conv_str H12.out 1 1 rfl
          rw [← HTN.out] at cs16
          go_simp
          refine hK.out _ _ ?hSg16 (fun hHeld => ?restg16)
          case hSg16 => exact hHeld
          case restg16 =>
          clear hK K
          try simp only [Act.put, List.setIfInBounds_toArray, List.set_cons_zero, List.set_cons_succ, List.getElem_toArray, List.getElem_cons_zero, List.getElem_cons_succ]
          refine wpAnyH_take (i := 14) (v := .string (⟨#[86, 77, 1]⟩ ++ X1 ++ X2 ++ TN)) rfl (by kernel_rfl) (by kernel_rfl) (by kernel_rfl) (fun _ _ _ h => h) (Or.inl ⟨by rfl, ?hy14q16⟩) hHeld ?rest14q16
          case hy14q16 => (intro u hSu; clear hSu; go_simp; try first | with_reducible rfl | omega)
          case rest14q16 =>
          try simp only [Act.put, List.setIfInBounds_toArray, List.set_cons_zero, List.set_cons_succ, List.getElem_toArray, List.getElem_cons_zero, List.getElem_cons_succ]
          refine wpAnyH_take (i := 15) (v := ?v15q16) rfl (by kernel_rfl) (by kernel_rfl) (by kernel_rfl) (fun _ _ _ h => h) (Or.inl ⟨by rfl, ?hy15q16⟩) hHeld ?rest15q16
          case hy15q16 => (intro w hSw; (try dsimp only at hSw); go_simp; try with_reducible rfl)
          try simp only [Act.put, List.setIfInBounds_toArray, List.set_cons_zero, List.set_cons_succ, List.getElem_toArray, List.getElem_cons_zero, List.getElem_cons_succ]
          refine wpAnyH_done (by kernel_rfl) ?_ _
          refine NoPanic.normal ?_
          try go_wp2_with fail
          go_meet
          case rel => exact ⟨by rw [← HJ.out], hHeld⟩
        · have cs18 := conv_str H12.out 1 1 rfl
          rw [← HTN.out] at cs18
          go_simp
          refine hK.out _ _ ?hSg18 (fun hHeld => ?restg18)
          case hSg18 => exact hHeld
          case restg18 =>
          clear hK K
          try simp only [Act.put, List.setIfInBounds_toArray, List.set_cons_zero, List.set_cons_succ, List.getElem_toArray, List.getElem_cons_zero, List.getElem_cons_succ]
          refine wpAnyH_ready (rs := [6]) (by kernel_rfl) (by simp) ?_
          refine AllReadyH.cons rfl (fun K hK => ?_) AllReadyH.nil
          go_simp; refine (KT2.out _).mono ?_; rintro e v19 ⟨rfl, hb19⟩; have D19 : Hid (Below w1.heap.size w1 v19) := Below.trans hHeld (Below.mono hb19 (Below.size hHeld)); clear hb19 hHeld; go_wp2_with fail
          refine hK.out _ _ ?hSg19 (fun hHeld => ?restg19)
          case hSg19 => exact D19.out
          case restg19 =>
          clear hK K
          try simp only [Act.put, List.setIfInBounds_toArray, List.set_cons_zero, List.set_cons_succ, List.getElem_toArray, List.getElem_cons_zero, List.getElem_cons_succ]
          refine wpAnyH_take (i := 7) (v := .string (⟨#[86, 77, 1]⟩ ++ X1 ++ X2)) rfl (by kernel_rfl) (by kernel_rfl) (by kernel_rfl) (fun _ _ _ h => h) (Or.inl ⟨by rfl, ?hy7t19⟩) hHeld ?rest7t19
          case hy7t19 => (intro u hSu; clear hSu; go_simp; try first | with_reducible rfl | omega)
          case rest7t19 =>
          try simp only [Act.put, List.setIfInBounds_toArray, List.set_cons_zero, List.set_cons_succ, List.getElem_toArray, List.getElem_cons_zero, List.getElem_cons_succ]
          refine wpAnyH_take (i := 14) (v := .string (⟨#[86, 77, 1]⟩ ++ X1 ++ X2 ++ TN)) rfl (by kernel_rfl) (by kernel_rfl) (by kernel_rfl) (fun _ _ _ h => h) (Or.inl ⟨by rfl, ?hy14q19⟩) hHeld ?rest14q19
          case hy14q19 => (intro u hSu; clear hSu; go_simp; try first | with_reducible rfl | omega)
          case rest14q19 =>
          try simp only [Act.put, List.setIfInBounds_toArray, List.set_cons_zero, List.set_cons_succ, List.getElem_toArray, List.getElem_cons_zero, List.getElem_cons_succ]
          refine wpAnyH_take (i := 15) (v := ?v15q19) rfl (by kernel_rfl) (by kernel_rfl) (by kernel_rfl) (fun _ _ _ h => h) (Or.inl ⟨by rfl, ?hy15q19⟩) hHeld ?rest15q19
          case hy15q19 => (intro w hSw; (try dsimp only at hSw); go_simp; try with_reducible rfl)
          try simp only [Act.put, List.setIfInBounds_toArray, List.set_cons_zero, List.set_cons_succ, List.getElem_toArray, List.getElem_cons_zero, List.getElem_cons_succ]
          refine wpAnyH_done (by kernel_rfl) ?_ _
          refine NoPanic.normal ?_
          try go_wp2_with fail
          go_meet
          case rel => exact ⟨by rw [← HJ.out], hHeld⟩
      · have cs21 := conv_str H12.out 1 1 rfl
        rw [← HTN.out] at cs21
        go_simp
        refine hK.out _ _ ?hSg21 (fun hHeld => ?restg21)
        case hSg21 => exact hHeld
        case restg21 =>
        clear hK K
        try simp only [Act.put, List.setIfInBounds_toArray, List.set_cons_zero, List.set_cons_succ, List.getElem_toArray, List.getElem_cons_zero, List.getElem_cons_succ]
        refine wpAnyH_ready (rs := [2]) (by kernel_rfl) (by simp) ?_
        refine AllReadyH.cons rfl (fun K hK => ?_) AllReadyH.nil
        go_simp; refine (KT1.out _).mono ?_; rintro e v22 ⟨rfl, hb22⟩; have D22 : Hid (Below w1.heap.size w1 v22) := Below.trans hHeld (Below.mono hb22 (Below.size hHeld)); clear hb22 hHeld; go_wp2_with fail
        refine hK.out _ _ ?hSg22 (fun hHeld => ?restg22)
        case hSg22 => exact D22.out
        case restg22 =>
        clear hK K
        try simp only [Act.put, List.setIfInBounds_toArray, List.set_cons_zero, List.set_cons_succ, List.getElem_toArray, List.getElem_cons_zero, List.getElem_cons_succ]
        refine wpAnyH_take (i := 3) (v := .string (⟨#[86, 77, 1]⟩ ++ X1)) rfl (by kernel_rfl) (by kernel_rfl) (by kernel_rfl) (fun _ _ _ h => h) (Or.inl ⟨by rfl, ?hy3t22⟩) hHeld ?rest3t22
        case hy3t22 => (intro u hSu; clear hSu; go_simp; try first | with_reducible rfl | omega)
        case rest3t22 =>
        try simp only [Act.put, List.setIfInBounds_toArray, List.set_cons_zero, List.set_cons_succ, List.getElem_toArray, List.getElem_cons_zero, List.getElem_cons_succ]
        refine wpAnyH_ready (rs := [6]) (by kernel_rfl) (by simp) ?_
        refine AllReadyH.cons rfl (fun K hK => ?_) AllReadyH.nil
        go_simp; refine (KT2.out _).mono ?_; rintro e v23 ⟨rfl, hb23⟩; have D23 : Hid (Below w1.heap.size w1 v23) := Below.trans hHeld (Below.mono hb23 (Below.size hHeld)); clear hb23 hHeld; go_wp2_with fail
        refine hK.out _ _ ?hSg23 (fun hHeld => ?restg23)
        case hSg23 => exact D23.out
        case restg23 =>
        clear hK K
        try simp only [Act.put, List.setIfInBounds_toArray, List.set_cons_zero, List.set_cons_succ, List.getElem_toArray, List.getElem_cons_zero, List.getElem_cons_succ]
        refine wpAnyH_take (i := 7) (v := .string (⟨#[86, 77, 1]⟩ ++ X1 ++ X2)) rfl (by kernel_rfl) (by kernel_rfl) (by kernel_rfl) (fun _ _ _ h => h) (Or.inl ⟨by rfl, ?hy7t23⟩) hHeld ?rest7t23
        case hy7t23 => (intro u hSu; clear hSu; go_simp; try first | with_reducible rfl | omega)
        case rest7t23 =>
        try simp only [Act.put, List.setIfInBounds_toArray, List.set_cons_zero, List.set_cons_succ, List.getElem_toArray, List.getElem_cons_zero, List.getElem_cons_succ]
        refine wpAnyH_take (i := 14) (v := .string (⟨#[86, 77, 1]⟩ ++ X1 ++ X2 ++ TN)) rfl (by kernel_rfl) (by kernel_rfl) (by kernel_rfl) (fun _ _ _ h => h) (Or.inl ⟨by rfl, ?hy14q23⟩) hHeld ?rest14q23
        case hy14q23 => (intro u hSu; clear hSu; go_simp; try first | with_reducible rfl | omega)
        case rest14q23 =>
        try simp only [Act.put, List.setIfInBounds_toArray, List.set_cons_zero, List.set_cons_succ, List.getElem_toArray, List.getElem_cons_zero, List.getElem_cons_succ]
        refine wpAnyH_take (i := 15) (v := ?v15q23) rfl (by kernel_rfl) (by kernel_rfl) (by kernel_rfl) (fun _ _ _ h => h) (Or.inl ⟨by rfl, ?hy15q23⟩) hHeld ?rest15q23
        case hy15q23 => (intro w hSw; (try dsimp only at hSw); go_simp; try with_reducible rfl)
        try simp only [Act.put, List.setIfInBounds_toArray, List.set_cons_zero, List.set_cons_succ, List.getElem_toArray, List.getElem_cons_zero, List.getElem_cons_succ]
        refine wpAnyH_done (by kernel_rfl) ?_ _
        refine NoPanic.normal ?_
        try go_wp2_with fail
        go_meet
        case rel => exact ⟨by rw [← HJ.out], hHeld⟩
  case rest =>
    obtain ⟨rfl, hB2⟩ := hcut
    have BC : Hid (Below h w wc) := B1.out.trans (hB2.out.mono (by omega))
    have MC : Hid (MBox wc h SN SV (.slice a n c)) := (hB2.out.block h hs1).trans M1.out
    have SC : Hid (h < wc.heap.size) := MC.out.lt
    have HA0 : Hid (Y = strOfNums (A1 ++ mel (m.2.2.take 0))) := by show _ = _; rw [HY.out]; simp [mel]
    have HAL : Hid (A1.length ≤ 300) := by
      show _ ≤ _
      have := congrArg ByteArray.size HY.out
      rw [strOfNums_size, ← HJ.out] at this
      simp only [ByteArray.size_append] at this
      have e3 : (⟨#[86, 77, 1]⟩ : ByteArray).size = 3 := rfl
      omega
    generalize m.2.2 = l at *
    clear hB2 HJ HTN hwn hn256 KT1 KT2 X0 XX1 XX2 M1 B1 hsX1 hsX2 hsTN HY
    go_wp2_with fail
    go_loopg [5, 6] n (fun g s i wr => ∃ (j : Nat), j ≤ n ∧ g = n - j ∧ i = .int .i64 j ∧ s = .string (strOfNums (A1 ++ mel (l.take j))) ∧ Hid (Below h w wr) ∧ Hid (MBox wr h SN SV (.slice a n c)))
    case atStart => exact ⟨0, Nat.zero_le _, rfl, rfl, by rw [HA0.out], BC, MC⟩
    case round =>
      obtain ⟨j, hj, rfl, rfl, rfl, BJ, MJ⟩ := hrel
      obtain ⟨⟨x0, x1, x2⟩, _⟩ := MJ.out.cells
      clear x0 x1
      by_cases hlt : j < n
      · have j1 : (j : Int) < (n : Int) := by omega
        obtain ⟨x, hx⟩ : ∃ x, l[j]? = some x := ⟨l[j]'(by rw [HN.out]; exact hlt), by simp [HN.out, hlt]⟩
        obtain ⟨b, off, rfl, hbw, hrg⟩ := (HI.out _ BC.out).at hx
        have hdg := HD.out x (List.mem_of_getElem? hx)
        have hzx := HZ.out x (List.mem_of_getElem? hx)
        have HRG : Hid (∀ w', Below h w w' → w'.rangeAt b (off + j * 33) (rcl x)) := by
          intro w' hb
          obtain ⟨b', off', e, _, hr⟩ := (HI.out _ hb).at hx
          cases e
          exact hr
        obtain ⟨P0, hP0⟩ : ∃ P0, P0 = A1 ++ mel (l.take j) := ⟨_, rfl⟩
        have hmel : mel (l.take (j + 1)) = mel (l.take j) ++ (x.1 ++ vz x.2) := by
          rw [← mel_snoc]
          congr 1
          rw [List.take_add_one, hx]
          rfl
        have HP1 : Hid (A1 ++ mel (l.take (j + 1)) = P0 ++ x.1 ++ vz x.2) := by show _ = _; rw [hmel, hP0]; simp
        have HPL : Hid (P0.length ≤ 700) := by
          show _ ≤ _
          have q1 := mel_len (l := l.take j) (fun y hy => HD.out y (List.mem_of_mem_take hy))
          rw [List.length_take] at q1
          have := HAL.out
          rw [hP0, List.length_append]
          omega
        rw [← hP0]
        have HPE : Hid (strOfNums P0 = strOfNums (P0 ++ x.1.take 0)) := by show _ = _; rw [List.take_zero, List.append_nil]
        obtain ⟨d, z⟩ := x
        simp only at *
        have HD32 : Hid (d.length = 32 ∧ IsBytes d) := hdg
        clear hx hrg hdg hmel hP0
        go_wp2_with fail
        go_loopg [5, 7] 32 (fun g s i wq => ∃ (k : Nat), k ≤ 32 ∧ g = 32 - k ∧ i = .int .i64 k ∧ s = .string (strOfNums (P0 ++ d.take k)) ∧ Hid (Below h w wq) ∧ Hid (MBox wq h SN SV (.slice (some ⟨b, off, none⟩) n c)))
        case atStart => exact ⟨0, Nat.zero_le _, rfl, rfl, by rw [HPE.out], BJ, MJ⟩
        case round =>
          obtain ⟨k, hk, rfl, rfl, rfl, BK, MK⟩ := hrel
          clear x2
          obtain ⟨⟨x0, x1, x2⟩, _⟩ := MK.out.cells
          clear x0 x1
          by_cases hkt : k < 32
          · have k1 : (k : Int) < 32 := by omega
            have hkl : k < d.length := by rw [HD32.out.1]; exact hkt
            have cx : wr.cell? ⟨b, off + j * 33 + k, none⟩ = some (.int .u8 (d.getD k 0)) := by
              have := HRG.out _ BK.out k (.int .u8 (d.getD k 0)) (by unfold rcl; rw [List.getElem?_append_left (by simpa using hkl)]; simp [List.getD, hkl])
              exact this
            have HS2 : Hid (strOfNums (P0 ++ d.take k) ++ strOfNums [d.getD k 0] = strOfNums (P0 ++ d.take (k + 1))) := by
              show _ = _
              rw [str_app, take_snoc d k hkl, List.append_assoc]
            have hTs : (strOfNums (P0 ++ d.take k)).size ≤ 1000 := by
              rw [strOfNums_size, List.length_append, List.length_take]
              have := HPL.out
              omega
            have hOs : (strOfNums [d.getD k 0]).size = 1 := by rw [strOfNums_size]; rfl
            have cs := conv_str (holds_one wr (d.getD k 0)) 1 1 rfl
            have B2 : Hid (Below h w (wr.alloc (.cells #[.int .u8 (d.getD k 0)] 5))) := BK.out.alloc (by have := MK.out.lt; omega) _
            have M2 : Hid (MBox (wr.alloc (.cells #[.int .u8 (d.getD k 0)] 5)) h SN SV (.slice (some ⟨b, off, none⟩) n c)) := (Below.heap_alloc _ _ _ MK.out.lt).trans MK.out
            generalize strOfNums [d.getD k 0] = O1 at *
            generalize strOfNums (P0 ++ d.take k) = T at *
            generalize d.getD k 0 = y at *
            go_wp2_with fail
            go_roundg (32 - (k + 1))
            case measure => omega
            case rel => exact ⟨k + 1, by omega, rfl, by go_num, by rw [HS2.out], B2, M2⟩
          · have e : k = 32 := by omega
            subst e
            have cz : wr.cell? ⟨b, off + j * 33 + 32, none⟩ = some (.int .i64 z) := rcl_size HD32.out.1 (HRG.out _ BK.out)
            have HT : Hid (P0 ++ d.take 32 = P0 ++ d) := by show _ = _; rw [List.take_of_length_le (by rw [HD32.out.1]; omega)]
            rw [HT.out]
            have hTs : (strOfNums (P0 ++ d)).size ≤ 1000 := by
              rw [strOfNums_size, List.length_append, HD32.out.1]
              have := HPL.out
              omega
            have KV : Hid (Calls Tryd.prog 31 #[.int .u64 z] wr fun e w' => ∃ a c, e = .returned (.slice a (vz z).length c) ∧ Holds w' a (vz z) ∧ Below wr.heap.size wr w') := rvz_is z hzx.1 hzx.2 wr
            have HS2 : Hid (strOfNums (P0 ++ d) ++ strOfNums (vz z) = strOfNums (A1 ++ mel (l.take (j + 1)))) := by show _ = _; rw [str_app, HP1.out]
            obtain ⟨hz0, hz1⟩ := hzx
            generalize strOfNums (P0 ++ d) = T at *
            go_wp2_with fail
            refine KV.out.mono ?_
            rintro e w5 ⟨a5, c5, rfl, hh5, hb5⟩
            have B5 : Hid (Below h w w5) := BK.out.trans (hb5.mono (by have := MK.out.lt; omega))
            have M5 : Hid (MBox w5 h SN SV (.slice (some ⟨b, off, none⟩) n c)) := (hb5.block h MK.out.lt).trans MK.out
            have cs := conv_str hh5 (vz z).length c5 rfl
            have hOs : (strOfNums (vz z)).size ≤ 5 := by rw [strOfNums_size]; exact (vz_len _).2
            clear hh5 hb5 KV cz x2
            generalize strOfNums (vz z) = O1 at *
            generalize (vz z).length = q at *
            go_wp2_with fail
            go_roundg (n - (j + 1))
            case measure => omega
            case rel => exact ⟨j + 1, by omega, rfl, by go_num, by rw [HS2.out], B5, M5⟩
      · have e : j = n := by omega
        subst e
        have j1 : ¬ (j : Int) < (j : Int) := by omega
        have HT2 : Hid (R = strOfNums (A1 ++ mel (l.take j))) := by show _ = _; rw [HR.out, HEN.out, List.take_of_length_le (by rw [HN.out]; omega)]
        rw [← HT2.out]
        go_wp2_with fail
        go_ret2
        exact ⟨rfl, by rw [← HH.out]; exact BJ.out⟩
end Go.Proofs.YtlddoobomjcldaaDoor
