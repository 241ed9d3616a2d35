/- The document's text and Encode of a layer. layer's reader: layer. -/
import Derived.Test.YtlddoobomjcldaaDoorMgLc0
import Derived.Test.YtlddoobomjcldaaDoorMgLc8
import Derived.Test.YtlddoobomjcldaaDoorMgLc4
import Derived.Deep.CutRange
import Derived.Test.YtlddoobomjcldaaDoorMgLc5
namespace Go.Proofs.YtlddoobomjcldaaDoor
open Go.ChangeShapes Go.WideShapes Go.ChangeAt Go.RowKit Go.Deep
set_option linter.unusedVariables false
theorem below_drewE {B : Nat} {a w : World} (h : Below B a w) : Below B a w.drew := h.trans ⟨rfl, rfl, rfl, Nat.le_refl _, fun _ _ => rfl⟩
theorem nums_txE (L : List Int) : strOfNums L = tx (Lib.bytesOf L) := by
  apply ByteArray.ext
  simp [tx, strOfNums, Lib.bytesOf]
theorem tx_numsE (t : Tx) : tx t = strOfNums (nm t) := by rw [nums_txE, bytes_nm]
theorem rvr_is (k : Nat) (h : k < 16384) (w : World) : Calls Tryd.prog 31 #[.int .u64 (k : Int)] w fun e w' => ∃ a c, e = .returned (.slice a (vr k).length c) ∧ Holds w' a (vr k) ∧ Below w.heap.size w w' := by
  refine (rvar_any (k : Int) (by omega) (by omega) w).mono ?_
  rintro e w' ⟨n, a, c, hs, rfl, hh, hb, _⟩
  have e1 := vr_sev k n h hs
  refine ⟨a, c, ?_, by rw [← e1]; exact hh, hb⟩
  rw [← e1, varL_length]
set_option maxRecDepth 100000 in
theorem rtextE_is (t : Tx) (ht : t.length ≤ 16383) (w : World) : Calls Tryd.prog 32 #[.string (tx t)] w fun e w' => e = .returned (.string (strOfNums (vr t.length ++ nm t))) ∧ Below w.heap.size w w' := by
  have hs : (tx t).size = t.length := by rw [tx_numsE, strOfNums_size, nm_length]
  have KV : Hid (Calls Tryd.prog 31 #[.int .u64 (t.length : Int)] w fun e w' => ∃ a c, e = .returned (.slice a (vr t.length).length c) ∧ Holds w' a (vr t.length) ∧ Below w.heap.size w w') := rvr_is _ (by omega) w
  have HE : Hid (strOfNums (vr t.length) ++ tx t = strOfNums (vr t.length ++ nm t)) := by show _ = _; rw [tx_numsE, str_app]
  obtain ⟨R, hR⟩ : ∃ R, R = strOfNums (vr t.length ++ nm t) := ⟨_, rfl⟩
  rw [← hR] at HE ⊢
  generalize tx t = X at *
  clear hR
  generalize t.length = k at *
  go_enter Tryd.func32, Tryd.ntmps32
  go_wp2_with fail
  refine KV.out.mono ?_
  rintro e w1 ⟨a, c, rfl, hh, hb⟩
  have cs := conv_str hh (vr k).length c rfl
  have B1 : Hid (Below w.heap.size w w1) := hb
  clear hh hb KV
  have hYs : (strOfNums (vr k)).size ≤ 2 := by rw [strOfNums_size]; exact (vr_len _).2
  generalize (vr k).length = q at *
  generalize strOfNums (vr k) = Y at *
  go_wp2_with fail
  go_ret
  refine ⟨?_, B1.out⟩
  rw [← HE.out]
  rfl
set_option maxRecDepth 100000 in
set_option maxHeartbeats 4000000 in
theorem rencode_bad (l : List En) (n : Nat) (hn : l.length = n) (hn2 : n ≤ 200) (hf : Brief l) (a : Option Addr) (c : Nat) (w : World) (hl : InE w a l) (hc : (chk l).2 ≠ 0) :
    Calls Tryd.prog 9 #[.slice a n c] w fun e w' => e = .returned (.tuple #[.string ⟨#[]⟩, .int .i64 (chk l).2]) ∧ Below w.heap.size w w' := by
  have K : Hid (Calls Tryd.prog 30 #[.slice a n c] w fun e w' => e = .returned (.tuple #[.int .i64 ((chk l).1 : Nat), .int .i64 (chk l).2]) ∧ Below w.heap.size w w') := rcheck_is l n hn hn2 hf a c w hl
  generalize (chk l).2 = r at *
  generalize (chk l).1 = r1 at *
  have er : (r != 0) = true := by simp [hc]
  clear hl hn hf
  go_enter Tryd.func9, Tryd.ntmps9
  go_wp2_with fail
  refine K.out.mono ?_
  rintro e w1 ⟨rfl, hb1⟩
  have B1 : Hid (Below w.heap.size w w1) := hb1
  clear hb1 K
  go_wp2_with fail
  go_ret2
  exact ⟨rfl, B1.out⟩
set_option maxRecDepth 100000 in
set_option maxHeartbeats 8000000 in
theorem rencode_ok (l : List En) (n : Nat) (hn : l.length = n) (hf : Brief l) (a : Option Addr) (c : Nat) (w : World) (hl : InE w a l) (hc : (chk l).2 = 0) :
    Calls Tryd.prog 9 #[.slice a n c] w fun e w' => e = .returned (.tuple #[.string (strOfNums (enc l)), .int .i64 0]) ∧ Below w.heap.size w w' := by
  obtain ⟨h64, hfo, _⟩ := (chk_iff l).1 hc
  rw [hn] at h64
  have K : Hid (Calls Tryd.prog 30 #[.slice a n c] w fun e w' => e = .returned (.tuple #[.int .i64 ((chk l).1 : Nat), .int .i64 0]) ∧ Below w.heap.size w w') := by
    have := rcheck_is l n hn (by omega) hf a c w hl
    rw [hc] at this
    exact this
  have HI : Hid (∀ w', Below w.heap.size w w' → InE w' a l) := fun w' hb => hl.keep hb
  have HFO : Hid (∀ x ∈ l, fo x = 0) := hfo
  have HN : Hid (l.length = n) := hn
  obtain ⟨R, hR⟩ : ∃ R, R = strOfNums (enc l) := ⟨_, rfl⟩
  rw [← hR]
  have HR : Hid (R = strOfNums ([86, 76, 1] ++ vr n ++ ees l)) := by show _ = _; rw [hR, ← hn]; rfl
  have KT : Hid (∀ (t : Tx) W, t.length ≤ 256 → Calls Tryd.prog 32 #[.string (tx t)] W fun e w' => e = .returned (.string (strOfNums (vr t.length ++ nm t))) ∧ Below W.heap.size W w') := fun t W h => rtextE_is t (by omega) W
  have H0 : Hid (⟨#[86, 76, 1]⟩ ++ strOfNums (vr n) = strOfNums ([86, 76, 1] ++ vr n ++ ees (l.take 0))) := by
    show _ = _
    have e0 : (⟨#[86, 76, 1]⟩ : ByteArray) = strOfNums [86, 76, 1] := by apply ByteArray.ext; simp [strOfNums]
    rw [e0, str_app, List.take_zero]
    simp [ees]
  have hvs : (strOfNums (vr n)).size ≤ 2 := by rw [strOfNums_size]; exact (vr_len _).2
  have HLN : Hid (∀ j, ([86, 76, 1] ++ vr n ++ ees (l.take j)).length ≤ 40000) := fun j => by
    have q1 := ees_len (l := l.take j) (fun y hy => hfo y (List.mem_of_mem_take hy))
    rw [List.length_take, hn] at q1
    have q2 := (vr_len n).2
    simp only [List.length_append, List.length_cons, List.length_nil]
    omega
  obtain ⟨VN, hVN⟩ : ∃ VN, VN = vr n := ⟨_, rfl⟩
  have KV : Hid (∀ w, Calls Tryd.prog 31 #[.int .u64 (n : Int)] w fun e w' => ∃ a c, e = .returned (.slice a VN.length c) ∧ Holds w' a VN ∧ Below w.heap.size w w') := fun w => by rw [hVN]; exact rvr_is n (by omega) w
  rw [← hVN] at HR H0 hvs HLN
  obtain ⟨h, hh0⟩ : ∃ h, h = w.heap.size := ⟨_, rfl⟩
  rw [← hh0] at HI
  have HH : Hid (h = w.heap.size) := hh0
  have HS : Hid (∀ W, Below h w W → h ≤ W.heap.size) := fun W hb => by rw [hh0]; exact hb.size
  generalize (chk l).1 = r1 at *
  clear hl hn hf hc hfo hR hVN hh0
  go_enter Tryd.func9, Tryd.ntmps9
  go_wp2_with fail
  refine K.out.mono ?_
  rintro e w1 ⟨rfl, hb1⟩
  rw [← HH.out] at hb1
  have B1 : Hid (Below h w w1) := hb1
  clear hb1 K
  go_wp2_with fail
  refine (KV.out _).mono ?_
  rintro e w2 ⟨a2, c2, rfl, hh2, hb2⟩
  have B2 : Hid (Below h w w2) := B1.out.trans (hb2.mono (HS.out _ B1.out))
  have cs := conv_str hh2 VN.length c2 rfl
  clear hb2 hh2 KV
  generalize hq : VN.length = q at *
  obtain ⟨SV, hSV⟩ : ∃ SV, SV = strOfNums VN := ⟨_, rfl⟩
  rw [← hSV] at cs H0 hvs
  clear hSV
  go_wp2_with fail
  clear cs
  go_loopg [6, 7] n (fun g s i wr => ∃ (j : Nat), j ≤ n ∧ g = n - j ∧ i = .int .i64 j ∧ s = .string (strOfNums ([86, 76, 1] ++ VN ++ ees (l.take j))) ∧ Hid (Below h w wr))
  case atStart => exact ⟨0, Nat.zero_le _, rfl, rfl, by rw [← H0.out], B2⟩
  case round =>
    obtain ⟨j, hj, rfl, rfl, rfl, BJ⟩ := hrel
    by_cases hlt : j < n
    · have j1 : (j : Int) < (n : Int) := by omega
      obtain ⟨x, hx⟩ : ∃ x, l[j]? = some x := ⟨l[j]'(by rw [HN.out]; exact hlt), by simp [HN.out, hlt]⟩
      obtain ⟨b, off, rfl, hbw, hr⟩ := (HI.out _ BJ.out).at hx
      obtain ⟨⟨_, hp⟩, ⟨k0, k1⟩, ⟨m0, m1⟩, hbe, hb256⟩ := fo_all (HFO.out x (List.mem_of_getElem? hx))
      have hp200 := isP_len hp
      obtain ⟨c0, c1, c2', c3⟩ := hr
      have hees : ees (l.take (j + 1)) = ees (l.take j) ++ ee x := by
        rw [← ees_snoc]
        congr 1
        rw [List.take_add_one, hx]
        rfl
      obtain ⟨P0, hP0⟩ : ∃ P0, P0 = [86, 76, 1] ++ VN ++ ees (l.take j) := ⟨_, rfl⟩
      have HP1 : Hid ([86, 76, 1] ++ VN ++ ees (l.take (j + 1)) = P0 ++ ee x) := by show _ = _; rw [hees, hP0]; simp
      have hPL : (strOfNums P0).size ≤ 40000 := by rw [strOfNums_size, hP0]; exact HLN.out j
      rw [← hP0]
      obtain ⟨xp, xk, xm, xb⟩ := x
      simp only [En.p, En.k, En.m, En.b] at *
      have HEE : Hid (ee (xp, xk, xm, xb) = [xk, xm / 256, xm % 256] ++ (vr xp.length ++ nm xp) ++ (if xk = 1 then vr xb.length ++ nm xb else [])) := rfl
      have KT1 : Hid (∀ W, Calls Tryd.prog 32 #[.string (tx xp)] W fun e w' => e = .returned (.string (strOfNums (vr xp.length ++ nm xp))) ∧ Below W.heap.size W w') := fun W => KT.out xp W (by omega)
      have KT2 : Hid (∀ W, Calls Tryd.prog 32 #[.string (tx xb)] W fun e w' => e = .returned (.string (strOfNums (vr xb.length ++ nm xb))) ∧ Below W.heap.size W w') := fun W => KT.out xb W hb256
      have hs1 : (strOfNums (vr xp.length ++ nm xp)).size ≤ 300 := by rw [strOfNums_size, List.length_append, nm_length]; have := (vr_len xp.length).2; omega
      have hs2 : (strOfNums (vr xb.length ++ nm xb)).size ≤ 300 := by rw [strOfNums_size, List.length_append, nm_length]; have := (vr_len xb.length).2; omega
      have HJ : Hid (strOfNums P0 ++ strOfNums [xk, xm / 256, xm % 256] ++ strOfNums (vr xp.length ++ nm xp) = strOfNums (P0 ++ ([xk, xm / 256, xm % 256] ++ (vr xp.length ++ nm xp)))) := by show _ = _; rw [str_app, str_app, List.append_assoc]
      have HF1 : Hid (xk = 1 → strOfNums (P0 ++ ([xk, xm / 256, xm % 256] ++ (vr xp.length ++ nm xp))) ++ strOfNums (vr xb.length ++ nm xb) = strOfNums ([86, 76, 1] ++ VN ++ ees (l.take (j + 1)))) := fun e => by rw [str_app, HP1.out, HEE.out, if_pos e]; simp
      have HF2 : Hid (xk ≠ 1 → strOfNums (P0 ++ ([xk, xm / 256, xm % 256] ++ (vr xp.length ++ nm xp))) = strOfNums ([86, 76, 1] ++ VN ++ ees (l.take (j + 1)))) := fun e => by rw [HP1.out, HEE.out, if_neg e]; simp
      have hs3 : (strOfNums (P0 ++ ([xk, xm / 256, xm % 256] ++ (vr xp.length ++ nm xp)))).size ≤ 41000 := by
        rw [← HJ.out]
        simp only [ByteArray.size_append]
        have : (strOfNums [xk, xm / 256, xm % 256]).size = 3 := by rw [strOfNums_size]; rfl
        omega
      obtain ⟨TN, hTN⟩ : ∃ TN, TN = strOfNums [xk, xm / 256, xm % 256] := ⟨_, rfl⟩
      have hsTN : TN.size = 3 := by rw [hTN, strOfNums_size]; rfl
      have HTN : Hid (TN = strOfNums [xk, xm / 256, xm % 256]) := hTN
      rw [← hTN] at HJ
      obtain ⟨Z, hZ⟩ : ∃ Z, Z = strOfNums (P0 ++ ([xk, xm / 256, xm % 256] ++ (vr xp.length ++ nm xp))) := ⟨_, rfl⟩
      rw [← hZ] at HJ HF1 HF2 hs3
      generalize strOfNums P0 = Y at *
      generalize strOfNums (vr xp.length ++ nm xp) = X1 at *
      generalize strOfNums (vr xb.length ++ nm xb) = X2 at *
      have hq3 : xm.tdiv 256 = xm / 256 := Int.tdiv_eq_ediv_of_nonneg m0
      have hr3 : xm.tmod 256 = xm % 256 := Int.tmod_eq_emod_of_nonneg m0
      have HW1' : Hid (IntKind.u8.wrap xk = xk ∧ IntKind.u8.wrap (xm / 256) = xm / 256 ∧ IntKind.u8.wrap (xm % 256) = xm % 256) := by
        refine ⟨?_, ?_, ?_⟩ <;> simp [IntKind.wrap, IntKind.signed, IntKind.bits] <;> omega
      have HW64 : Hid (IntKind.i64.wrap (xm / 256) = xm / 256) := by show _ = _; rw [IntKind.wrap_i64]; omega
      have HW64b : Hid (IntKind.i64.wrap (xm % 256) = xm % 256) := by show _ = _; rw [IntKind.wrap_i64]; omega
      clear hx hees hP0 hp hTN hZ
      generalize tx xp = TP at *
      generalize tx xb = TB at *
      obtain ⟨W1, hW1⟩ : ∃ W1, W1 = wr.alloc (.cells (ec TP xk xm TB) 64) := ⟨_, rfl⟩
      have A1 : Below wr.heap.size wr W1 := by rw [hW1]; exact (Below.refl _ _).alloc (Nat.le_refl _) _
      have G1 : W1.heap[wr.heap.size]? = some (.cells (ec TP xk xm TB) 64) := by rw [hW1]; exact heap_alloc_new wr _
      obtain ⟨e0, e1, e2, e3⟩ := ec_cells G1
      have E0 : Hid (W1.cell? ⟨wr.heap.size, 0, none⟩ = some (.string TP)) := e0
      have E1 : Hid (W1.cell? ⟨wr.heap.size, 1, none⟩ = some (.int .i64 xk)) := e1
      have E2 : Hid (W1.cell? ⟨wr.heap.size, 2, none⟩ = some (.int .i64 xm)) := e2
      have E3 : Hid (W1.cell? ⟨wr.heap.size, 3, none⟩ = some (.string TB)) := e3
      have hsX : wr.heap.size < W1.heap.size := (Array.getElem?_eq_some_iff.1 G1).1
      have B3 : Hid (Below h w W1) := BJ.out.trans (A1.mono (HS.out _ BJ.out))
      have HWW : Hid (wr.alloc (.cells (ec TP xk xm TB) 64) = W1) := hW1.symm
      clear e0 e1 e2 e3 hW1 A1 G1
      unfold ec at HWW
      go_upto_region 9 with fail
      rw [HWW.out]
      clear HWW c0 c1 c2' c3
      go_cut [6] from 23 to 59 (fun s wx => s = .string Z ∧ Hid (Below W1.heap.size W1 wx))
      case first =>
        refine wp_region_noPanic ?_
        refine wp_region_held_drew (S := (fun W : World => Below W1.heap.size W1 W)) (by kernel_rfl) ?hSa (fun hHeld => ?resta)
        case hSa => exact below_drewE (Below.refl _ _)
        case resta =>
        generalize World.drew W1 = u0 at hHeld ⊢
        refine wpAnyH_take (i := 0) (v := ?v0) rfl (by kernel_rfl) (by kernel_rfl) (by kernel_rfl) (fun _ _ _ h => h) (Or.inl ⟨by rfl, ?hy0⟩) hHeld ?rest0
        case hy0 => (intro w hSw; (try dsimp only at hSw); go_simp; try with_reducible rfl)
        try simp only [Act.put, List.setIfInBounds_toArray, List.set_cons_zero, List.set_cons_succ, List.getElem_toArray, List.getElem_cons_zero]
        refine wpAnyH_take (i := 1) (v := ?v1) rfl (by kernel_rfl) (by kernel_rfl) (by kernel_rfl) (fun _ _ _ h => h) (Or.inl ⟨by rfl, ?hy1⟩) hHeld ?rest1
        case hy1 => (intro w hSw; (try dsimp only at hSw); go_simp; try with_reducible rfl)
        try simp only [Act.put, List.setIfInBounds_toArray, List.set_cons_zero, List.set_cons_succ, List.getElem_toArray, List.getElem_cons_zero, List.getElem_cons_succ]
        refine wpAnyH_take (i := 2) (v := .int .i64 xk) rfl (by kernel_rfl) (by kernel_rfl) (by kernel_rfl) (fun _ _ _ h => h) (Or.inl ⟨by rfl, ?hy2⟩) hHeld ?rest2
        case hy2 => (intro u hSu; have k0 := (Below.cell (p := ⟨wr.heap.size, 1, none⟩) hSu hsX).trans E1.out; clear hSu; go_simp; try with_reducible rfl)
        case rest2 =>
        try simp only [Act.put, List.setIfInBounds_toArray, List.set_cons_zero, List.set_cons_succ, List.getElem_toArray, List.getElem_cons_zero, List.getElem_cons_succ]
        refine wpAnyH_take (i := 3) (v := .int .u8 xk) rfl (by kernel_rfl) (by kernel_rfl) (by kernel_rfl) (fun _ _ _ h => h) (Or.inl ⟨by rfl, ?hy3⟩) hHeld ?rest3
        case hy3 => (intro u hSu; clear hSu; go_simp; try rw [HW1'.out.1]; try first | with_reducible rfl | omega)
        case rest3 =>
        try simp only [Act.put, List.setIfInBounds_toArray, List.set_cons_zero, List.set_cons_succ, List.getElem_toArray, List.getElem_cons_zero, List.getElem_cons_succ]
        refine wpAnyH_take (i := 4) (v := ?v4) rfl (by kernel_rfl) (by kernel_rfl) (by kernel_rfl) (fun _ _ _ h => h) (Or.inl ⟨by rfl, ?hy4⟩) hHeld ?rest4
        case hy4 => (intro w hSw; (try dsimp only at hSw); go_simp; try with_reducible rfl)
        try simp only [Act.put, List.setIfInBounds_toArray, List.set_cons_zero, List.set_cons_succ, List.getElem_toArray, List.getElem_cons_zero, List.getElem_cons_succ]
        refine wpAnyH_take (i := 5) (v := .int .i64 xm) rfl (by kernel_rfl) (by kernel_rfl) (by kernel_rfl) (fun _ _ _ h => h) (Or.inl ⟨by rfl, ?hy5⟩) hHeld ?rest5
        case hy5 => (intro u hSu; have k0 := (Below.cell (p := ⟨wr.heap.size, 2, none⟩) hSu hsX).trans E2.out; clear hSu; go_simp; try with_reducible rfl)
        case rest5 =>
        try simp only [Act.put, List.setIfInBounds_toArray, List.set_cons_zero, List.set_cons_succ, List.getElem_toArray, List.getElem_cons_zero, List.getElem_cons_succ]
        refine wpAnyH_take (i := 6) (v := .int .i64 (xm / 256)) rfl (by kernel_rfl) (by kernel_rfl) (by kernel_rfl) (fun _ _ _ h => h) (Or.inl ⟨by rfl, ?hy6⟩) hHeld ?rest6
        case hy6 => (intro u hSu; clear hSu; go_simp; (try rw [hq3]); (try exact HW64.out); try first | with_reducible rfl | omega)
        case rest6 =>
        try simp only [Act.put, List.setIfInBounds_toArray, List.set_cons_zero, List.set_cons_succ, List.getElem_toArray, List.getElem_cons_zero, List.getElem_cons_succ]
        refine wpAnyH_take (i := 7) (v := .int .u8 (xm / 256)) rfl (by kernel_rfl) (by kernel_rfl) (by kernel_rfl) (fun _ _ _ h => h) (Or.inl ⟨by rfl, ?hy7⟩) hHeld ?rest7
        case hy7 => (intro u hSu; clear hSu; go_simp; try rw [HW1'.out.2.1]; try first | with_reducible rfl | omega)
        case rest7 =>
        try simp only [Act.put, List.setIfInBounds_toArray, List.set_cons_zero, List.set_cons_succ, List.getElem_toArray, List.getElem_cons_zero, List.getElem_cons_succ]
        refine wpAnyH_take (i := 8) (v := ?v8) rfl (by kernel_rfl) (by kernel_rfl) (by kernel_rfl) (fun _ _ _ h => h) (Or.inl ⟨by rfl, ?hy8⟩) hHeld ?rest8
        case hy8 => (intro w hSw; (try dsimp only at hSw); go_simp; try with_reducible rfl)
        try simp only [Act.put, List.setIfInBounds_toArray, List.set_cons_zero, List.set_cons_succ, List.getElem_toArray, List.getElem_cons_zero, List.getElem_cons_succ]
        refine wpAnyH_take (i := 9) (v := .int .i64 xm) rfl (by kernel_rfl) (by kernel_rfl) (by kernel_rfl) (fun _ _ _ h => h) (Or.inl ⟨by rfl, ?hy9⟩) hHeld ?rest9
        case hy9 => (intro u hSu; have k0 := (Below.cell (p := ⟨wr.heap.size, 2, none⟩) hSu hsX).trans E2.out; clear hSu; go_simp; try with_reducible rfl)
        case rest9 =>
        try simp only [Act.put, List.setIfInBounds_toArray, List.set_cons_zero, List.set_cons_succ, List.getElem_toArray, List.getElem_cons_zero, List.getElem_cons_succ]
        refine wpAnyH_take (i := 10) (v := .int .i64 (xm % 256)) rfl (by kernel_rfl) (by kernel_rfl) (by kernel_rfl) (fun _ _ _ h => h) (Or.inl ⟨by rfl, ?hy10⟩) hHeld ?rest10
        case hy10 => (intro u hSu; clear hSu; go_simp; (try rw [hr3]); (try exact HW64b.out); try first | with_reducible rfl | omega)
        case rest10 =>
        try simp only [Act.put, List.setIfInBounds_toArray, List.set_cons_zero, List.set_cons_succ, List.getElem_toArray, List.getElem_cons_zero, List.getElem_cons_succ]
        refine wpAnyH_take (i := 11) (v := .int .u8 (xm % 256)) rfl (by kernel_rfl) (by kernel_rfl) (by kernel_rfl) (fun _ _ _ h => h) (Or.inl ⟨by rfl, ?hy11⟩) hHeld ?rest11
        case hy11 => (intro u hSu; clear hSu; go_simp; try rw [HW1'.out.2.2]; try first | with_reducible rfl | omega)
        case rest11 =>
        try simp only [Act.put, List.setIfInBounds_toArray, List.set_cons_zero, List.set_cons_succ, List.getElem_toArray, List.getElem_cons_zero, List.getElem_cons_succ]
        refine wpAnyH_take (i := 15) (v := ?v15) rfl (by kernel_rfl) (by kernel_rfl) (by kernel_rfl) (fun _ _ _ h => h) (Or.inl ⟨by rfl, ?hy15⟩) hHeld ?rest15
        case hy15 => (intro w hSw; (try dsimp only at hSw); go_simp; try with_reducible rfl)
        try simp only [Act.put, List.setIfInBounds_toArray, List.set_cons_zero, List.set_cons_succ, List.getElem_toArray, List.getElem_cons_zero, List.getElem_cons_succ]
        refine wpAnyH_take (i := 16) (v := .string TP) rfl (by kernel_rfl) (by kernel_rfl) (by kernel_rfl) (fun _ _ _ h => h) (Or.inl ⟨by rfl, ?hy16⟩) hHeld ?rest16
        case hy16 => (intro u hSu; have k0 := (Below.cell (p := ⟨wr.heap.size, 0, none⟩) hSu hsX).trans E0.out; clear hSu; go_simp; try with_reducible rfl)
        case rest16 =>
        try simp only [Act.put, List.setIfInBounds_toArray, List.set_cons_zero, List.set_cons_succ, List.getElem_toArray, List.getElem_cons_zero, List.getElem_cons_succ]
        refine wpAnyH_ready (rs := [12, 17]) (by kernel_rfl) (by simp) ?_
        refine AllReadyH.cons rfl (fun K hK => ?_) (AllReadyH.cons rfl (fun K hK => ?_) AllReadyH.nil)
        · go_simp; have D1 : Hid (Below W1.heap.size W1 (u0.alloc (.cells #[.int .u8 xk, .int .u8 (xm / 256), .int .u8 (xm % 256)] 5))) := Below.alloc hHeld (Below.size hHeld) _; have H12 : Hid (Holds (u0.alloc (.cells #[.int .u8 xk, .int .u8 (xm / 256), .int .u8 (xm % 256)] 5)) (some ⟨u0.heap.size, 0, none⟩) [xk, xm / 256, xm % 256]) := holds_laid [xk, xm / 256, xm % 256] u0 _; have L12 : u0.heap.size < (u0.alloc (.cells #[.int .u8 xk, .int .u8 (xm / 256), .int .u8 (xm % 256)] 5)).heap.size := by simp
          generalize (u0.alloc (.cells #[.int .u8 xk, .int .u8 (xm / 256), .int .u8 (xm % 256)] 5)) = v1 at *
          generalize u0.heap.size = g1b at *
          refine hK.out _ _ ?hSg1 (fun hHeld => ?restg1)
          case hSg1 => exact D1.out
          case restg1 =>
          clear hK K
          try simp only [Act.put, List.setIfInBounds_toArray, List.set_cons_zero, List.set_cons_succ, List.getElem_toArray, List.getElem_cons_zero, List.getElem_cons_succ]
          refine wpAnyH_ready (rs := [13, 17]) (by kernel_rfl) (by simp) ?_
          refine AllReadyH.cons rfl (fun K hK => ?_) (AllReadyH.cons rfl (fun K hK => ?_) AllReadyH.nil)
          · have cs2 := conv_str H12.out 3 3 rfl
            rw [← HTN.out] at cs2
            go_simp
            refine hK.out _ _ ?hSg2 (fun hHeld => ?restg2)
            case hSg2 => exact hHeld
            case restg2 =>
            clear hK K
            try simp only [Act.put, List.setIfInBounds_toArray, List.set_cons_zero, List.set_cons_succ, List.getElem_toArray, List.getElem_cons_zero, List.getElem_cons_succ]
            refine wpAnyH_take (i := 14) (v := .string (Y ++ TN)) rfl (by kernel_rfl) (by kernel_rfl) (by kernel_rfl) (fun _ _ _ h => h) (Or.inl ⟨by rfl, ?hy14t2⟩) hHeld ?rest14t2
            case hy14t2 => (intro u hSu; clear hSu; go_simp; try first | with_reducible rfl | omega)
            case rest14t2 =>
            try simp only [Act.put, List.setIfInBounds_toArray, List.set_cons_zero, List.set_cons_succ, List.getElem_toArray, List.getElem_cons_zero, List.getElem_cons_succ]
            refine wpAnyH_ready (rs := [17]) (by kernel_rfl) (by simp) ?_
            refine AllReadyH.cons rfl (fun K hK => ?_) AllReadyH.nil
            go_simp; refine (KT1.out _).mono ?_; rintro e v3 ⟨rfl, hb3⟩; have D3 : Hid (Below W1.heap.size W1 v3) := Below.trans hHeld (Below.mono hb3 (Below.size hHeld)); clear hb3 hHeld; go_wp2_with fail
            refine hK.out _ _ ?hSg3 (fun hHeld => ?restg3)
            case hSg3 => exact D3.out
            case restg3 =>
            clear hK K
            try simp only [Act.put, List.setIfInBounds_toArray, List.set_cons_zero, List.set_cons_succ, List.getElem_toArray, List.getElem_cons_zero, List.getElem_cons_succ]
            refine wpAnyH_take (i := 18) (v := .string (Y ++ TN ++ X1)) rfl (by kernel_rfl) (by kernel_rfl) (by kernel_rfl) (fun _ _ _ h => h) (Or.inl ⟨by rfl, ?hy18q3⟩) hHeld ?rest18q3
            case hy18q3 => (intro u hSu; clear hSu; go_simp; try first | with_reducible rfl | omega)
            case rest18q3 =>
            try simp only [Act.put, List.setIfInBounds_toArray, List.set_cons_zero, List.set_cons_succ, List.getElem_toArray, List.getElem_cons_zero, List.getElem_cons_succ]
            refine wpAnyH_take (i := 19) (v := ?v19q3) rfl (by kernel_rfl) (by kernel_rfl) (by kernel_rfl) (fun _ _ _ h => h) (Or.inl ⟨by rfl, ?hy19q3⟩) hHeld ?rest19q3
            case hy19q3 => (intro w hSw; (try dsimp only at hSw); go_simp; try with_reducible rfl)
            try simp only [Act.put, List.setIfInBounds_toArray, List.set_cons_zero, List.set_cons_succ, List.getElem_toArray, List.getElem_cons_zero, List.getElem_cons_succ]
            refine wpAnyH_done (by kernel_rfl) ?_ _
            refine NoPanic.normal ?_
            try go_wp2_with fail
            go_meet
            case rel => exact ⟨by rw [← HJ.out], hHeld⟩
          · go_simp; refine (KT1.out _).mono ?_; rintro e v5 ⟨rfl, hb5⟩; have D5 : Hid (Below W1.heap.size W1 v5) := Below.trans hHeld (Below.mono hb5 (Below.size hHeld)); have H5 : Hid (Holds v5 (some ⟨g1b, 0, none⟩) [xk, xm / 256, xm % 256]) := H12.out.below hb5 (fun x hx _ => by cases hx; exact L12); have L12 : g1b < v5.heap.size := Nat.lt_of_lt_of_le L12 hb5.size; have H12 : Hid (Holds v5 (some ⟨g1b, 0, none⟩) [xk, xm / 256, xm % 256]) := H5; clear hb5 hHeld; go_wp2_with fail
            refine hK.out _ _ ?hSg5 (fun hHeld => ?restg5)
            case hSg5 => exact D5.out
            case restg5 =>
            clear hK K
            try simp only [Act.put, List.setIfInBounds_toArray, List.set_cons_zero, List.set_cons_succ, List.getElem_toArray, List.getElem_cons_zero, List.getElem_cons_succ]
            refine wpAnyH_ready (rs := [13]) (by kernel_rfl) (by simp) ?_
            refine AllReadyH.cons rfl (fun K hK => ?_) AllReadyH.nil
            have cs6 := conv_str H12.out 3 3 rfl
            rw [← HTN.out] at cs6
            go_simp
            refine hK.out _ _ ?hSg6 (fun hHeld => ?restg6)
            case hSg6 => exact hHeld
            case restg6 =>
            clear hK K
            try simp only [Act.put, List.setIfInBounds_toArray, List.set_cons_zero, List.set_cons_succ, List.getElem_toArray, List.getElem_cons_zero, List.getElem_cons_succ]
            refine wpAnyH_take (i := 14) (v := .string (Y ++ TN)) rfl (by kernel_rfl) (by kernel_rfl) (by kernel_rfl) (fun _ _ _ h => h) (Or.inl ⟨by rfl, ?hy14t6⟩) hHeld ?rest14t6
            case hy14t6 => (intro u hSu; clear hSu; go_simp; try first | with_reducible rfl | omega)
            case rest14t6 =>
            try simp only [Act.put, List.setIfInBounds_toArray, List.set_cons_zero, List.set_cons_succ, List.getElem_toArray, List.getElem_cons_zero, List.getElem_cons_succ]
            refine wpAnyH_take (i := 18) (v := .string (Y ++ TN ++ X1)) rfl (by kernel_rfl) (by kernel_rfl) (by kernel_rfl) (fun _ _ _ h => h) (Or.inl ⟨by rfl, ?hy18q6⟩) hHeld ?rest18q6
            case hy18q6 => (intro u hSu; clear hSu; go_simp; try first | with_reducible rfl | omega)
            case rest18q6 =>
            try simp only [Act.put, List.setIfInBounds_toArray, List.set_cons_zero, List.set_cons_succ, List.getElem_toArray, List.getElem_cons_zero, List.getElem_cons_succ]
            refine wpAnyH_take (i := 19) (v := ?v19q6) rfl (by kernel_rfl) (by kernel_rfl) (by kernel_rfl) (fun _ _ _ h => h) (Or.inl ⟨by rfl, ?hy19q6⟩) hHeld ?rest19q6
            case hy19q6 => (intro w hSw; (try dsimp only at hSw); go_simp; try with_reducible rfl)
            try simp only [Act.put, List.setIfInBounds_toArray, List.set_cons_zero, List.set_cons_succ, List.getElem_toArray, List.getElem_cons_zero, List.getElem_cons_succ]
            refine wpAnyH_done (by kernel_rfl) ?_ _
            refine NoPanic.normal ?_
            try go_wp2_with fail
            go_meet
            case rel => exact ⟨by rw [← HJ.out], hHeld⟩
        · go_simp; refine (KT1.out _).mono ?_; rintro e v8 ⟨rfl, hb8⟩; have D8 : Hid (Below W1.heap.size W1 v8) := Below.trans hHeld (Below.mono hb8 (Below.size hHeld)); clear hb8 hHeld; go_wp2_with fail
          refine hK.out _ _ ?hSg8 (fun hHeld => ?restg8)
          case hSg8 => exact D8.out
          case restg8 =>
          clear hK K
          try simp only [Act.put, List.setIfInBounds_toArray, List.set_cons_zero, List.set_cons_succ, List.getElem_toArray, List.getElem_cons_zero, List.getElem_cons_succ]
          refine wpAnyH_ready (rs := [12]) (by kernel_rfl) (by simp) ?_
          refine AllReadyH.cons rfl (fun K hK => ?_) AllReadyH.nil
          go_simp; have D9 : Hid (Below W1.heap.size W1 (v8.alloc (.cells #[.int .u8 xk, .int .u8 (xm / 256), .int .u8 (xm % 256)] 5))) := Below.alloc hHeld (Below.size hHeld) _; have H12 : Hid (Holds (v8.alloc (.cells #[.int .u8 xk, .int .u8 (xm / 256), .int .u8 (xm % 256)] 5)) (some ⟨v8.heap.size, 0, none⟩) [xk, xm / 256, xm % 256]) := holds_laid [xk, xm / 256, xm % 256] v8 _; have L12 : v8.heap.size < (v8.alloc (.cells #[.int .u8 xk, .int .u8 (xm / 256), .int .u8 (xm % 256)] 5)).heap.size := by simp
          generalize (v8.alloc (.cells #[.int .u8 xk, .int .u8 (xm / 256), .int .u8 (xm % 256)] 5)) = v9 at *
          generalize v8.heap.size = g9b at *
          refine hK.out _ _ ?hSg9 (fun hHeld => ?restg9)
          case hSg9 => exact D9.out
          case restg9 =>
          clear hK K
          try simp only [Act.put, List.setIfInBounds_toArray, List.set_cons_zero, List.set_cons_succ, List.getElem_toArray, List.getElem_cons_zero, List.getElem_cons_succ]
          refine wpAnyH_ready (rs := [13]) (by kernel_rfl) (by simp) ?_
          refine AllReadyH.cons rfl (fun K hK => ?_) AllReadyH.nil
          have cs10 := conv_str H12.out 3 3 rfl
          rw [← HTN.out] at cs10
          go_simp
          refine hK.out _ _ ?hSg10 (fun hHeld => ?restg10)
          case hSg10 => exact hHeld
          case restg10 =>
          clear hK K
          try simp only [Act.put, List.setIfInBounds_toArray, List.set_cons_zero, List.set_cons_succ, List.getElem_toArray, List.getElem_cons_zero, List.getElem_cons_succ]
          refine wpAnyH_take (i := 14) (v := .string (Y ++ TN)) rfl (by kernel_rfl) (by kernel_rfl) (by kernel_rfl) (fun _ _ _ h => h) (Or.inl ⟨by rfl, ?hy14t10⟩) hHeld ?rest14t10
          case hy14t10 => (intro u hSu; clear hSu; go_simp; try first | with_reducible rfl | omega)
          case rest14t10 =>
          try simp only [Act.put, List.setIfInBounds_toArray, List.set_cons_zero, List.set_cons_succ, List.getElem_toArray, List.getElem_cons_zero, List.getElem_cons_succ]
          refine wpAnyH_take (i := 18) (v := .string (Y ++ TN ++ X1)) rfl (by kernel_rfl) (by kernel_rfl) (by kernel_rfl) (fun _ _ _ h => h) (Or.inl ⟨by rfl, ?hy18q10⟩) hHeld ?rest18q10
          case hy18q10 => (intro u hSu; clear hSu; go_simp; try first | with_reducible rfl | omega)
          case rest18q10 =>
          try simp only [Act.put, List.setIfInBounds_toArray, List.set_cons_zero, List.set_cons_succ, List.getElem_toArray, List.getElem_cons_zero, List.getElem_cons_succ]
          refine wpAnyH_take (i := 19) (v := ?v19q10) rfl (by kernel_rfl) (by kernel_rfl) (by kernel_rfl) (fun _ _ _ h => h) (Or.inl ⟨by rfl, ?hy19q10⟩) hHeld ?rest19q10
          case hy19q10 => (intro w hSw; (try dsimp only at hSw); go_simp; try with_reducible rfl)
          try simp only [Act.put, List.setIfInBounds_toArray, List.set_cons_zero, List.set_cons_succ, List.getElem_toArray, List.getElem_cons_zero, List.getElem_cons_succ]
          refine wpAnyH_done (by kernel_rfl) ?_ _
          refine NoPanic.normal ?_
          try go_wp2_with fail
          go_meet
          case rel => exact ⟨by rw [← HJ.out], hHeld⟩
      case rest =>
        obtain ⟨rfl, hB4⟩ := hcut
        have B4 : Hid (Below h w wc) := B3.out.trans (hB4.out.mono (HS.out _ B3.out))
        have e1 : wc.cell? ⟨wr.heap.size, 1, none⟩ = some (.int .i64 xk) := (hB4.out.cell (p := ⟨wr.heap.size, 1, none⟩) hsX).trans E1.out
        have e3 : wc.cell? ⟨wr.heap.size, 3, none⟩ = some (.string TB) := (hB4.out.cell (p := ⟨wr.heap.size, 3, none⟩) hsX).trans E3.out
        clear hB4 KT1 HJ HTN HW1' hq3 hr3 E0 E1 E2 E3
        by_cases hk1 : xk = 1
        · have HF : Hid (Z ++ X2 = strOfNums ([86, 76, 1] ++ VN ++ ees (l.take (j + 1)))) := HF1.out hk1
          subst hk1
          go_wp2_with fail
          refine (KT2.out _).mono ?_
          rintro e w6 ⟨rfl, hb6⟩
          have B6 : Hid (Below h w w6) := B4.out.trans (hb6.mono (HS.out _ B4.out))
          clear hb6 e1 e3
          go_wp2_with fail
          go_roundg (n - (j + 1))
          case measure => omega
          case rel => exact ⟨j + 1, by omega, rfl, by go_num, by rw [HF.out], B6⟩
        · have HF : Hid (Z = strOfNums ([86, 76, 1] ++ VN ++ ees (l.take (j + 1)))) := HF2.out hk1
          have hkb : (xk == 1) = false := by simp [hk1]
          go_wp2_with fail
          go_roundg (n - (j + 1))
          case measure => omega
          case rel => exact ⟨j + 1, by omega, rfl, by go_num, by rw [HF.out], B4⟩
    · have e : j = n := by omega
      subst e
      have j1 : ¬ (j : Int) < (j : Int) := by omega
      have HT2 : Hid (R = strOfNums ([86, 76, 1] ++ VN ++ ees (l.take j))) := by show _ = _; rw [HR.out, List.take_of_length_le (by rw [HN.out]; omega)]
      rw [← HT2.out]
      go_wp2_with fail
      go_ret2
      exact ⟨rfl, by rw [← HH.out]; exact BJ.out⟩
end Go.Proofs.YtlddoobomjcldaaDoor
namespace Go.Proofs.YtlddoobomjcldaaDoor
open Go.ChangeShapes Go.WideShapes Go.ChangeAt Go.RowKit Go.Deep
set_option linter.unusedVariables false
/-- what layer reads: a head, a count, entries -/
def rh (L : List Int) : Option (List En × List Int) := if L.take 3 = [86, 76, 1] then rc (L.drop 3) else none
/-- what layer tells -/
def LSaid (w : World) (R : Nat) (L : List Int) (e : Ending) (w' : World) : Prop := Gr w w' (some R) (some R) ∧ match rh L with
  | none => Pan e
  | some (l, r) => ∃ v, e = .returned v ∧ OwnE w' w.heap.size v l ∧ RdB w' R r
theorem RdB.bytes {w : World} {R : Nat} {L : List Int} (h : RdB w R L) : IsBytes L := by obtain ⟨a, n, c, _, _, _, hb, _⟩ := h; exact hb
theorem Gr.grow {w w3 w4 : World} {r r' row : Option Nat} (h : Gr w w3 r r') (hg : w3.grownBy w4 row) (hr : ∀ k, row = some k → w.heap.size ≤ k) : Gr w w4 r r' :=
  ⟨⟨hg.os.trans h.1.os, hg.tape.trans h.1.tape, hg.output.trans h.1.output, Nat.le_trans h.1.size hg.size, fun k hk hne => (hg.block k (Nat.lt_of_lt_of_le hk h.1.size) (fun e => by have := hr k e.symm; omega)).trans (h.1.block k hk hne)⟩, h.2⟩
theorem head_tx : strOfNums [86, 76, 1] = ⟨#[86, 76, 1]⟩ := by
  apply ByteArray.ext
  simp [strOfNums]
set_option maxRecDepth 100000 in
set_option maxHeartbeats 8000000 in
theorem rlayer_is (w : World) (R : Nat) (L : List Int) (h : RdB w R L) : Calls Tryd.prog 34 #[.pointer (some ⟨R, 0, none⟩)] w (LSaid w R L) := by
  have HN : Hid (∀ e w', Pan e → Gr w w' (some R) (some R) → rh L = none → LSaid w R L e w') := by
    intro e w' h1 h2 h3
    refine ⟨h2, ?_⟩
    rw [h3]
    exact h1
  have HS : Hid (∀ e w' l r v, Gr w w' (some R) (some R) → rh L = some (l, r) → e = .returned v → OwnE w' w.heap.size v l → RdB w' R r → LSaid w R L e w') := by
    intro e w' l r v h1 h2 h3 h4 h5
    refine ⟨h1, ?_⟩
    rw [h2]
    exact ⟨v, h3, h4, h5⟩
  have HB := h.bytes
  have hR := h.lt
  have HR : Hid (RdB w R L) := h
  clear h
  by_cases h3 : L.length < 3
  · have hrh : rh L = none := by
      unfold rh
      rw [if_neg]
      intro e
      have := congrArg List.length e
      rw [List.length_take] at this
      simp at this
      omega
    have K : Hid (Calls Tryd.prog 52 #[.pointer (some ⟨R, 0, none⟩), .int .u64 3] w fun e w' => Pan e ∧ w' = w) := take_end w R 3 L HR.out (by omega) (by decide)
    clear HS
    generalize LSaid w R L = T at *
    go_enter Tryd.func34, Tryd.ntmps34
    go_wp2_with fail
    refine K.out.mono ?_
    rintro e w1 ⟨⟨k, rfl⟩, hw⟩
    obtain rfl := hw.symm
    clear hw K
    go_wp2_with fail
    exact ⟨rfl, HN.out _ _ ⟨_, rfl⟩ (Gr.ofBelow (Below.refl _ _) _) hrh⟩
  · have K : Hid (Calls Tryd.prog 52 #[.pointer (some ⟨R, 0, none⟩), .int .u64 3] w (Took w R 3 L)) := take_ok w R 3 L HR.out (by omega)
    by_cases hh : L.take 3 = [86, 76, 1]
    · have hrh : rh L = rc (L.drop 3) := by unfold rh; rw [if_pos hh]
      cases hn : rn (L.drop 3) with
      | none =>
        have hrc : rh L = none := by rw [hrh]; unfold rc; rw [hn]
        clear HS
        generalize LSaid w R L = T at *
        go_enter Tryd.func34, Tryd.ntmps34
        go_wp2_with fail
        refine K.out.mono ?_
        rintro e w1 ⟨a, c, rfl, hho, hr, hg, hc⟩
        have cs := conv_str hho 3 c (by rw [List.length_take]; omega)
        rw [hh, head_tx] at cs
        have G1 : Hid (Gr w w1 (some R) (some R)) := hg
        have KN : Hid (Calls Tryd.prog 53 #[.pointer (some ⟨R, 0, none⟩)] w1 fun e w' => Pan e ∧ w' = w1) := number_bad w1 R _ hr hn
        clear hho hr hg K
        go_wp2_with fail
        refine KN.out.mono ?_
        rintro e w2 ⟨⟨k, rfl⟩, hw⟩
        obtain rfl := hw.symm
        clear hw KN
        go_wp2_with fail
        exact ⟨rfl, HN.out _ _ ⟨_, rfl⟩ G1.out hrc⟩
      | some q =>
        obtain ⟨N, s⟩ := q
        obtain ⟨N0, N1, _⟩ := rn_some (bytes_drop HB 3) hn
        by_cases h64 : 64 < N
        · have hrc : rh L = none := by rw [hrh]; unfold rc; rw [hn]; simp only; rw [if_pos h64]
          clear HS
          generalize LSaid w R L = T at *
          go_enter Tryd.func34, Tryd.ntmps34
          go_wp2_with fail
          refine K.out.mono ?_
          rintro e w1 ⟨a, c, rfl, hho, hr, hg, hc⟩
          have cs := conv_str hho 3 c (by rw [List.length_take]; omega)
          rw [hh, head_tx] at cs
          have G1 : Hid (Gr w w1 (some R) (some R)) := hg
          have KN : Hid (Calls Tryd.prog 53 #[.pointer (some ⟨R, 0, none⟩)] w1 fun e w' => e = .returned (.int .u64 N) ∧ RdB w' R s ∧ Gr w1 w' (some R) (some R)) := number_ok w1 R _ hr N s hn
          clear hho hr hg K
          go_wp2_with fail
          refine KN.out.mono ?_
          rintro e w2 ⟨rfl, hr2, hg2⟩
          have G2 : Hid (Gr w w2 (some R) (some R)) := G1.out.trans hg2
          clear hr2 hg2 KN cs
          go_wp2_with fail
          exact ⟨rfl, HN.out _ _ ⟨_, rfl⟩ G2.out hrc⟩
        · obtain ⟨C, rfl⟩ : ∃ C : Nat, N = (C : Int) := ⟨N.toNat, by omega⟩
          have hrc : rh L = rl C [] s := by rw [hrh]; unfold rc; rw [hn]; simp only; rw [if_neg h64, Int.toNat_natCast]
          obtain ⟨res, hres⟩ : ∃ res, res = rl C [] s := ⟨_, rfl⟩
          rw [← hres] at hrc
          have HRS : Hid (rl C [] s = res) := hres.symm
          have hC : C ≤ 64 := by omega
          obtain ⟨h0, hh0⟩ : ∃ h0, h0 = w.heap.size := ⟨_, rfl⟩
          rw [← hh0] at HS hR
          have HH : Hid (h0 = w.heap.size) := hh0
          clear hres h64 hrh hh0 N0 N1
          generalize LSaid w R L = T at *
          go_enter Tryd.func34, Tryd.ntmps34
          go_wp2_with fail
          refine K.out.mono ?_
          rintro e w1 ⟨a, c, rfl, hho, hr, hg, hc⟩
          have cs := conv_str hho 3 c (by rw [List.length_take]; omega)
          rw [hh, head_tx] at cs
          have G1 : Hid (Gr w w1 (some R) (some R)) := hg
          have KN : Hid (Calls Tryd.prog 53 #[.pointer (some ⟨R, 0, none⟩)] w1 fun e w' => e = .returned (.int .u64 (C : Int)) ∧ RdB w' R s ∧ Gr w1 w' (some R) (some R)) := number_ok w1 R _ hr C s hn
          clear hho hr hg K
          go_wp2_with fail
          refine KN.out.mono ?_
          rintro e w2 ⟨rfl, hr2, hg2⟩
          have G2 : Hid (Gr w w2 (some R) (some R)) := G1.out.trans hg2
          have R2 : Hid (RdB w2 R s) := hr2
          have e64 : ¬ (64 : Int) < (C : Int) := by omega
          clear hr2 hg2 KN cs
          go_wp2_with fail
          go_loopg [4, 16] C (fun g v i wr => ∃ (j : Nat) (acc : List En) (sj : List Int), j ≤ C ∧ g = C - j ∧ i = .int .u64 (j : Int) ∧ acc.length = j ∧ Hid (rl (C - j) acc sj = res) ∧ Hid (OwnE wr h0 v acc) ∧ Hid (RdB wr R sj) ∧ Hid (Gr w wr (some R) (some R)))
          case atStart => exact ⟨0, [], s, Nat.zero_le _, rfl, rfl, rfl, HRS, OwnE.nil _ _, R2, G2⟩
          case round =>
            obtain ⟨j, acc, sj, hj, rfl, rfl, hacc, HL, OJ, RJ, GJ⟩ := hrel
            by_cases hlt : j < C
            · have j1 : (j : Int) < (C : Int) := by omega
              have HL2 : Hid (rl (C - j) acc sj = match re sj with | none => none | some (x, r) => rl (C - (j + 1)) (acc ++ [x]) r) := by
                show _ = _
                rw [show C - j = (C - (j + 1)) + 1 by omega]
                rfl
              have KE : Hid (Calls Tryd.prog 54 #[.pointer (some ⟨R, 0, none⟩)] wr (ESaid wr R sj)) := entry_is wr R sj RJ.out
              have hsz := GJ.out.1.size
              go_wp2_with fail
              refine KE.out.mono ?_
              intro e w3 hES
              obtain ⟨hg3, hm⟩ := hES
              have G3 : Hid (Gr w w3 (some R) (some R)) := GJ.out.trans hg3
              have O3 : Hid (OwnE w3 h0 u4 acc) := OJ.out.block (fun k hk => hg3.block k (OJ.out.own k hk).2 (fun e => by have := Option.some.inj e; have := (OJ.out.own k hk).1; omega))
              cases hre : re sj with
              | none =>
                rw [hre] at hm
                obtain ⟨k, rfl⟩ := hm
                have hno : rh L = none := by rw [hrc, ← HL.out, HL2.out, hre]
                clear KE hg3 HL HL2 HS
                go_wp2_with fail
                exact ⟨rfl, HN.out _ _ ⟨_, rfl⟩ G3.out hno⟩
              | some q =>
                obtain ⟨x, r⟩ := q
                rw [hre] at hm
                obtain ⟨rfl, hr3⟩ := hm
                have HL3 : Hid (rl (C - (j + 1)) (acc ++ [x]) r = res) := by show _ = _; rw [← HL.out, HL2.out, hre]
                have R3 : Hid (RdB w3 R r) := hr3
                have hR3 := hr3.lt
                have hh3 : h0 ≤ w3.heap.size := by rw [HH.out]; exact G3.out.1.size
                clear KE hg3 HL HL2 hr3
                unfold ag
                go_wp2_with (at_builtin; refine append_entry rfl (.tmp 18) (.tmp 21) rfl h0 _ acc rfl (O3.out.keep ((Below.refl _ _).alloc (Nat.le_refl _) _)) w3.heap.size 1 x rfl (heap_alloc_new w3 _) (by omega) (by simp; omega) ?_; intro v4 w4 ho4 hb4; have O4 : Hid (OwnE w4 h0 v4 (acc ++ [x])) := ho4; have B4 : Hid ((w3.alloc (.cells (ec (tx x.p) x.k x.m (tx x.b)) 64)).grownBy w4 u4.ownBlock) := hb4; clear ho4 hb4)
                go_roundg (C - (j + 1))
                case measure => omega
                case rel =>
                  have hown : ∀ k, u4.ownBlock = some k → h0 ≤ k := fun k hk => (O3.out.own k hk).1
                  refine ⟨j + 1, acc ++ [x], r, by omega, rfl, by go_num, by simp [hacc], HL3, O4, ?_, ?_⟩
                  · refine RdB.block (R3.out.keep ((Below.refl w3.heap.size w3).alloc (Nat.le_refl _) (.cells (ec (tx x.p) x.k x.m (tx x.b)) 64))) (fun g hg => B4.out.block g (by simp; omega) (fun e => by have := hown g e.symm; omega))
                  · exact Gr.grow (G3.out.trans (Gr.alloc w3 _ _)) B4.out (fun k hk => by rw [← HH.out]; exact hown k hk)
            · have e : j = C := by omega
              subst e
              have j1 : ¬ (j : Int) < (j : Int) := by omega
              have hsome : rh L = some (acc, sj) := by rw [hrc, ← HL.out, Nat.sub_self]; rfl
              go_wp2_with fail
              exact HS.out _ _ acc sj _ GJ.out hsome rfl OJ.out RJ.out
    · have hrh : rh L = none := by unfold rh; rw [if_neg hh]
      clear HS
      have hne : ((strOfNums (L.take 3)).toList == [86, 76, 1]) = false := by
        have := str_eq (L.take 3) [86, 76, 1] (bytes_mem (bytes_take HB 3)) (by simp)
        rw [head_tx] at this
        have e2 : (⟨#[86, 76, 1]⟩ : ByteArray).toList = [86, 76, 1] := by rw [ByteArray.toList_eq]
        rw [e2] at this
        rw [this]
        simp [hh]
      generalize LSaid w R L = T at *
      go_enter Tryd.func34, Tryd.ntmps34
      go_wp2_with fail
      refine K.out.mono ?_
      rintro e w1 ⟨a, c, rfl, hho, hr, hg, hc⟩
      have cs := conv_str hho 3 c (by rw [List.length_take]; omega)
      have G1 : Hid (Gr w w1 (some R) (some R)) := hg
      clear hho hr hg K
      generalize strOfNums (L.take 3) = S3 at *
      go_wp2_with fail
      exact ⟨rfl, HN.out _ _ ⟨_, rfl⟩ G1.out hrh⟩
end Go.Proofs.YtlddoobomjcldaaDoor
