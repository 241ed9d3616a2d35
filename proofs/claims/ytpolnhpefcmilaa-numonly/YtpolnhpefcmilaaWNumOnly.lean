/- The walk of NumOnly. -/
import Derived.Test.YtpolnhpefcmilaaNumX
import Derived.Test.YtpolnhpefcmilaaNumD
import Derived.Deep.RegionWith
import Derived.Deep.RegionHeld3
namespace Go.Proofs.Ytpolnhpefcmilaa
open Go.ChangeShapes Go.WideShapes Go.ChangeAt Go.RowKit Go.Deep
set_option linter.unusedVariables false
theorem only_no (r : Int) (hr : (r != 0) = true) (L : List Int) (a : Option Addr) (len cap : Nat) (w : World) (hlen : L.length = len) (hh : Holds w a L) (hb : IsBytes L) (hreach : len ≤ 140737488351232) (he : rv L 0 0 = (0, 0, r)) :
    Calls Try.prog 7 #[.slice a len cap] w fun e w' => e = .returned (.bool true) ∧ Below w.heap.size w w' := by
  have HL : Hid (Holds w a L) := hh
  have HB : Hid (IsBytes L) := hb
  have HE : Hid (rv L 0 0 = (0, 0, r)) := he
  clear hh hb he
  go_enter Try.func7, Try.ntmps7
  go_wp2_with fail
  refine (readVar_all L len a cap hlen (by omega) HB.out w HL.out).mono ?_
  rintro e w' ⟨rfl, hw⟩; obtain rfl := hw.symm; clear hw
  rw [HE.out, rvEnd]
  go_wp2_with (go_at_call 13; refine (works_true _).mono ?_; rintro e w' ⟨rfl, hwk⟩)
  go_ret
  exact ⟨rfl, by assumption⟩
set_option maxHeartbeats 1000000 in
theorem only_ok (u : Int) (n : Nat) (L : List Int) (a : Option Addr) (len cap : Nat) (w : World) (hlen : L.length = len) (hh : Holds w a L) (hb : IsBytes L) (hreach : len ≤ 140737488351232) (hlt : ∀ x, a = some x → L ≠ [] → x.block < w.heap.size) (hlc : len ≤ cap) (hcm : cap ≤ 140737488351232)
    (he : rv L 0 0 = (u, (n : Int) + 1, 0)) (hS : Sev u n) (u0 : 0 ≤ u) (u1 : u ≤ 18446744073709551615) (htk : L.take (n + 1) = varL n u) (hle : n + 1 ≤ len) :
    Calls Try.prog 7 #[.slice a len cap] w fun e w' => e = .returned (.bool true) ∧ Below w.heap.size w w' := by
  have HL : Hid (Holds w a L) := hh
  have HB : Hid (IsBytes L) := hb
  have HE : Hid (rv L 0 0 = (u, (n : Int) + 1, 0)) := he
  have HT : Hid (∀ x, a = some x → L ≠ [] → x.block < w.heap.size) := hlt
  have HS : Hid (Sev u n) := hS
  have HK : Hid (L.take (n + 1) = varL n u) := htk
  have hn9 := hS.1
  clear hh hb he hlt hS htk
  go_enter Try.func7, Try.ntmps7
  go_wp2_with fail
  refine (readVar_all L len a cap hlen (by omega) HB.out w HL.out).mono ?_
  rintro e w' ⟨rfl, hw⟩; obtain rfl := hw.symm; clear hw
  rw [HE.out, rvEnd]
  have i1 : (0 : Int) ≤ (n : Int) + 1 := by omega
  have i2 : (n : Int) + 1 ≤ (cap : Int) := by omega
  have i3 : n < len := by omega
  have i4 : (n : Int) < (len : Int) := by omega
  have i5 : (n : Int) + 1 ≤ (len : Int) := by omega
  have i6 : (1 : Int) ≤ (n : Int) + 1 := by omega
  have g1 : decide ((1 : Int) ≤ (n : Int) + 1) = true := by simp; omega
  have g2 : decide ((n : Int) + 1 ≤ (len : Int)) = true := by simp; omega
  obtain ⟨sv, hsv⟩ : ∃ s, s = strOfNums (varL n u) := ⟨_, rfl⟩
  have cL0 : (convert 23 9 (.slice a (n + 1) cap)).run Try.prog w.drew = .ok (.string sv) w.drew := by
    rw [hsv, ← HK.out]
    exact conv_str (w := w.drew) (HL.out.take (n + 1)) (n + 1) cap (by rw [List.length_take]; omega)
  have cL1 : (convert 23 9 (.slice a (n + 1) cap)).run Try.prog (w.alloc (.cells ((varL n u).map (Value.int .u8)).toArray 5)).drew = .ok (.string sv) (w.alloc (.cells ((varL n u).map (Value.int .u8)).toArray 5)).drew := by
    rw [hsv, ← HK.out]
    exact conv_str (w := (w.alloc (.cells ((List.take (n + 1) L).map (Value.int .u8)).toArray 5)).drew) ((HL.out.below ((Below.refl _ _).alloc (Nat.le_refl _) _) HT.out).take (n + 1)) (n + 1) cap (by rw [List.length_take]; omega)
  have cV1 : (convert 23 9 (.slice (some ⟨w.heap.size, 0, none⟩) (n + 1) (n + 1))).run Try.prog (w.alloc (.cells ((varL n u).map (Value.int .u8)).toArray 5)).drew = .ok (.string sv) (w.alloc (.cells ((varL n u).map (Value.int .u8)).toArray 5)).drew := by
    rw [hsv]
    exact conv_str (w := (w.alloc (.cells ((varL n u).map (Value.int .u8)).toArray 5)).drew) (holds_laid (varL n u) w 5) (n + 1) (n + 1) (varL_length n u)
  have cB : ∀ W, Below (w.alloc (.cells ((varL n u).map (Value.int .u8)).toArray 5)).drew.heap.size (w.alloc (.cells ((varL n u).map (Value.int .u8)).toArray 5)).drew W → (convert 23 9 (.slice a (n + 1) cap)).run Try.prog W = .ok (.string sv) W := by
    intro W hW
    rw [hsv, ← HK.out]
    exact conv_str ((HL.out.below (((Below.refl _ _).alloc (Nat.le_refl _) _).drew.trans (hW.mono (B' := w.heap.size) (by simp))) HT.out).take (n + 1)) (n + 1) cap (by rw [List.length_take]; omega)
  have CB : Hid (∀ W, Below (w.alloc (.cells ((varL n u).map (Value.int .u8)).toArray 5)).drew.heap.size (w.alloc (.cells ((varL n u).map (Value.int .u8)).toArray 5)).drew W → (convert 23 9 (.slice a (n + 1) cap)).run Try.prog W = .ok (.string sv) W) := cB
  clear hsv cB
  go_wp2_with fail
  refine wp_region_noPanic ?_
  refine wp_region_held_drew (S := (fun W => (convert 23 9 (.slice a (n + 1) cap)).run Try.prog W = .ok (.string sv) W)) (by kernel_rfl) ?hSa (fun hHeld => ?resta)
  case hSa => exact cL0
  case resta =>
    refine wpAnyH_take (i := 0) (v := ?v0) rfl (by kernel_rfl) (by kernel_rfl) (by kernel_rfl) (fun _ _ _ h => h) (Or.inl ⟨by rfl, ?hy0⟩) hHeld ?rest0
    case hy0 => (intro w hSw; (try dsimp only at hSw); go_simp; try with_reducible rfl)
    try simp only [Act.put, List.setIfInBounds_toArray, List.set_cons_zero, List.set_cons_succ, List.getElem_toArray, List.getElem_cons_zero]
    refine wpAnyH_take (i := 1) (v := ?v1) rfl (by kernel_rfl) (by kernel_rfl) (by kernel_rfl) (fun _ _ _ h => h) (Or.inl ⟨by rfl, ?hy1⟩) hHeld ?rest1
    case hy1 => (intro w hSw; (try dsimp only at hSw); go_simp; try with_reducible rfl)
    try simp only [Act.put, List.setIfInBounds_toArray, List.set_cons_zero, List.set_cons_succ, List.getElem_toArray, List.getElem_cons_zero, List.getElem_cons_succ]
    refine wpAnyH_take (i := 2) (v := ?v2) rfl (by kernel_rfl) (by kernel_rfl) (by kernel_rfl) (fun _ _ _ h => h) (Or.inl ⟨by rfl, ?hy2⟩) hHeld ?rest2
    case hy2 => (intro w hSw; (try dsimp only at hSw); go_simp; try with_reducible rfl)
    try simp only [Act.put, List.setIfInBounds_toArray, List.set_cons_zero, List.set_cons_succ, List.getElem_toArray, List.getElem_cons_zero, List.getElem_cons_succ]
    refine wpAnyH_take (i := 3) (v := ?v3) rfl (by kernel_rfl) (by kernel_rfl) (by kernel_rfl) (fun _ _ _ h => h) (Or.inl ⟨by rfl, ?hy3⟩) hHeld ?rest3
    case hy3 => (intro w hSw; (try dsimp only at hSw); go_simp; try with_reducible rfl)
    try simp only [Act.put, List.setIfInBounds_toArray, List.set_cons_zero, List.set_cons_succ, List.getElem_toArray, List.getElem_cons_zero, List.getElem_cons_succ]
    refine wpAnyH_take (i := 4) (v := ?v4) rfl (by kernel_rfl) (by kernel_rfl) (by kernel_rfl) (fun _ _ _ h => h) (Or.inl ⟨by rfl, ?hy4⟩) hHeld ?rest4
    case hy4 => (intro w hSw; (try dsimp only at hSw); go_simp; try with_reducible rfl)
    try simp only [Act.put, List.setIfInBounds_toArray, List.set_cons_zero, List.set_cons_succ, List.getElem_toArray, List.getElem_cons_zero, List.getElem_cons_succ]
    refine wpAnyH_take (i := 5) (v := ?v5) rfl (by kernel_rfl) (by kernel_rfl) (by kernel_rfl) (fun _ _ _ h => h) (Or.inl ⟨by rfl, ?hy5⟩) hHeld ?rest5
    case hy5 => (intro w hSw; (try dsimp only at hSw); go_simp; try with_reducible rfl)
    try simp only [Act.put, List.setIfInBounds_toArray, List.set_cons_zero, List.set_cons_succ, List.getElem_toArray, List.getElem_cons_zero, List.getElem_cons_succ]
    refine wpAnyH_take (i := 6) (v := ?v6) rfl (by kernel_rfl) (by kernel_rfl) (by kernel_rfl) (fun _ _ _ h => h) (Or.inl ⟨by rfl, ?hy6⟩) hHeld ?rest6
    case hy6 => (intro w hSw; (try dsimp only at hSw); go_simp; try with_reducible rfl)
    try simp only [Act.put, List.setIfInBounds_toArray, List.set_cons_zero, List.set_cons_succ, List.getElem_toArray, List.getElem_cons_zero, List.getElem_cons_succ]
    refine wpAnyH_take (i := 7) (v := ?v7) rfl (by kernel_rfl) (by kernel_rfl) (by kernel_rfl) (fun _ _ _ h => h) (Or.inl ⟨by rfl, ?hy7⟩) hHeld ?rest7
    case hy7 => (intro w hSw; (try dsimp only at hSw); go_simp; try with_reducible rfl)
    try simp only [Act.put, List.setIfInBounds_toArray, List.set_cons_zero, List.set_cons_succ, List.getElem_toArray, List.getElem_cons_zero, List.getElem_cons_succ]
    refine wpAnyH_take (i := 8) (v := ?v8) rfl (by kernel_rfl) (by kernel_rfl) (by kernel_rfl) (fun _ _ _ h => h) (Or.inl ⟨by rfl, ?hy8⟩) hHeld ?rest8
    case hy8 => (intro w hSw; (try dsimp only at hSw); go_simp; try with_reducible rfl)
    try simp only [Act.put, List.setIfInBounds_toArray, List.set_cons_zero, List.set_cons_succ, List.getElem_toArray, List.getElem_cons_zero, List.getElem_cons_succ]
    refine wpAnyH_take (i := 9) (v := ?v9) rfl (by kernel_rfl) (by kernel_rfl) (by kernel_rfl) (fun _ _ _ h => h) (Or.inl ⟨by rfl, ?hy9⟩) hHeld ?rest9
    case hy9 => (intro w hSw; (try dsimp only at hSw); go_simp; try with_reducible rfl)
    try simp only [Act.put, List.setIfInBounds_toArray, List.set_cons_zero, List.set_cons_succ, List.getElem_toArray, List.getElem_cons_zero, List.getElem_cons_succ]
    refine wpAnyH_take (i := 12) (v := ?v12) rfl (by kernel_rfl) (by kernel_rfl) (by kernel_rfl) (fun _ _ _ h => h) (Or.inl ⟨by rfl, ?hy12⟩) hHeld ?rest12
    case hy12 => (intro w hSw; (try dsimp only at hSw); go_simp; try with_reducible rfl)
    try simp only [Act.put, List.setIfInBounds_toArray, List.set_cons_zero, List.set_cons_succ, List.getElem_toArray, List.getElem_cons_zero, List.getElem_cons_succ]
    refine wpAnyH_take (i := 13) (v := ?v13) rfl (by kernel_rfl) (by kernel_rfl) (by kernel_rfl) (fun _ _ _ h => h) (Or.inl ⟨by rfl, ?hy13⟩) hHeld ?rest13
    case hy13 => (intro w hSw; (try dsimp only at hSw); go_simp; try with_reducible rfl)
    try simp only [Act.put, List.setIfInBounds_toArray, List.set_cons_zero, List.set_cons_succ, List.getElem_toArray, List.getElem_cons_zero, List.getElem_cons_succ]
    refine wpAnyH_take (i := 14) (v := ?v14) rfl (by kernel_rfl) (by kernel_rfl) (by kernel_rfl) (fun _ _ _ h => h) (Or.inl ⟨by rfl, ?hy14⟩) hHeld ?rest14
    case hy14 => (intro w hSw; (try dsimp only at hSw); go_simp; try with_reducible rfl)
    try simp only [Act.put, List.setIfInBounds_toArray, List.set_cons_zero, List.set_cons_succ, List.getElem_toArray, List.getElem_cons_zero, List.getElem_cons_succ]
    refine wpAnyH_take (i := 15) (v := ?v15) rfl (by kernel_rfl) (by kernel_rfl) (by kernel_rfl) (fun _ _ _ h => h) (Or.inl ⟨by rfl, ?hy15⟩) hHeld ?rest15
    case hy15 => (intro w hSw; (try dsimp only at hSw); go_simp; try with_reducible rfl)
    try simp only [Act.put, List.setIfInBounds_toArray, List.set_cons_zero, List.set_cons_succ, List.getElem_toArray, List.getElem_cons_zero, List.getElem_cons_succ]
    refine wpAnyH_ready (rs := [10]) (by kernel_rfl) (by simp) ?_
    refine AllReadyH.cons rfl (fun K hK => ?_) AllReadyH.nil
    go_simp; refine (var_any u u0 u1 _).mono ?_; rintro e w' ⟨n', hn', rfl, hw⟩; obtain rfl := sev_one u n n' HS.out hn'; obtain rfl := hw.symm; clear hw hn'; go_wp2_with fail
    refine hK.out _ _ ?hS10 (fun hHeld => ?rest10)
    case hS10 => exact cL1
    clear hK K
    try simp only [Act.put, List.setIfInBounds_toArray, List.set_cons_zero, List.set_cons_succ, List.getElem_toArray, List.getElem_cons_zero, List.getElem_cons_succ]
    refine wpAnyH_ready (rs := [11]) (by kernel_rfl) (by simp) ?_
    refine AllReadyH.cons rfl (fun K hK => ?_) AllReadyH.nil
    go_simp
    refine hK.out _ _ ?hS11 (fun hHeld => ?rest11)
    case hS11 => exact cL1
    clear hK K
    try simp only [Act.put, List.setIfInBounds_toArray, List.set_cons_zero, List.set_cons_succ, List.getElem_toArray, List.getElem_cons_zero, List.getElem_cons_succ]
    refine wpAnyH_take (i := 16) (v := ?v16) rfl (by kernel_rfl) (by kernel_rfl) (by kernel_rfl) (fun _ _ _ h => h) (Or.inl ⟨by rfl, ?hy16⟩) hHeld ?rest16
    case hy16 => (intro w hSw; (try dsimp only at hSw); go_simp; try with_reducible rfl)
    try simp only [Act.put, List.setIfInBounds_toArray, List.set_cons_zero, List.set_cons_succ, List.getElem_toArray, List.getElem_cons_zero, List.getElem_cons_succ]
    refine wpAnyH_take (i := 17) (v := ?v17) rfl (by kernel_rfl) (by kernel_rfl) (by kernel_rfl) (fun _ _ _ h => h) (Or.inl ⟨by rfl, ?hy17⟩) hHeld ?rest17
    case hy17 => (intro w hSw; (try dsimp only at hSw); go_simp; try with_reducible rfl)
    try simp only [Act.put, List.setIfInBounds_toArray, List.set_cons_zero, List.set_cons_succ, List.getElem_toArray, List.getElem_cons_zero, List.getElem_cons_succ]
    refine wpAnyH_take (i := 18) (v := ?v18) rfl (by kernel_rfl) (by kernel_rfl) (by kernel_rfl) (fun _ _ _ h => h) (Or.inl ⟨by rfl, ?hy18⟩) hHeld ?rest18
    case hy18 => (intro w hSw; (try dsimp only at hSw); go_simp; try with_reducible rfl)
    try simp only [Act.put, List.setIfInBounds_toArray, List.set_cons_zero, List.set_cons_succ, List.getElem_toArray, List.getElem_cons_zero, List.getElem_cons_succ]
    refine wpAnyH_ready (rs := [19]) (by kernel_rfl) (by simp) ?_
    refine AllReadyH.cons rfl (fun K hK => ?_) AllReadyH.nil
    go_simp; refine (works_true _).mono ?_; rintro e w' ⟨rfl, hwk⟩; have HW : Hid (Below _ _ w') := hwk; clear hwk; go_wp2_with fail
    refine hK.out _ _ ?hS19 (fun hHeld => ?rest19)
    case hS19 => exact CB.out w' HW.out
    clear hK K
    try simp only [Act.put, List.setIfInBounds_toArray, List.set_cons_zero, List.set_cons_succ, List.getElem_toArray, List.getElem_cons_zero, List.getElem_cons_succ]
    refine wpAnyH_take (i := 20) (v := ?v20) rfl (by kernel_rfl) (by kernel_rfl) (by kernel_rfl) (fun _ _ _ h => h) (Or.inl ⟨by rfl, ?hy20⟩) hHeld ?rest20
    case hy20 => (intro w hSw; (try dsimp only at hSw); go_simp; try with_reducible rfl)
    try simp only [Act.put, List.setIfInBounds_toArray, List.set_cons_zero, List.set_cons_succ, List.getElem_toArray, List.getElem_cons_zero, List.getElem_cons_succ]
    refine wpAnyH_take (i := 21) (v := ?v21) rfl (by kernel_rfl) (by kernel_rfl) (by kernel_rfl) (fun _ _ _ h => h) (Or.inl ⟨by rfl, ?hy21⟩) hHeld ?rest21
    case hy21 => (intro w hSw; (try dsimp only at hSw); go_simp; try with_reducible rfl)
    try simp only [Act.put, List.setIfInBounds_toArray, List.set_cons_zero, List.set_cons_succ, List.getElem_toArray, List.getElem_cons_zero, List.getElem_cons_succ]
    refine wpAnyH_done (by kernel_rfl) ?_ _
    refine NoPanic.normal ?_
    go_wp2
    go_ret
    exact ⟨rfl, ((Below.refl _ _).alloc (Nat.le_refl _) _).drew.trans (HW.out.mono (B' := w.heap.size) (by simp))⟩
theorem numOnly_walk (a : Option Addr) (len cap : Nat) (zs : List Int) (w : World) (w2 : IsRow .u8 w a len cap zs) :
    Calls Try.prog 7 #[.slice a len cap] w fun e w' => e = .returned (.bool true) ∧ Below w.heap.size w w' := by
  obtain ⟨L, hL, hlen, hh, hb, hcap, hreach, hlt, hlc, hcm⟩ := w2.holds
  rcases rv_only L 0 0 (bytes_mem hb) (by omega) with (h | h) | ⟨n, u, e1, e2, e3, e4, u0, u1, u2, u3⟩
  · exact only_no 4 rfl L a len cap w hlen hh hb hreach h
  · exact only_no 5 rfl L a len cap w hlen hh hb hreach h
  · obtain ⟨hS, hu⟩ := sev_of u n e4 u0 u1 u2 u3
    exact only_ok u n L a len cap w hlen hh hb hreach hlt hlc hcm (by rw [e1]; simp) hS u0 hu e2 (by omega)
end Go.Proofs.Ytpolnhpefcmilaa
