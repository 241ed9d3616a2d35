/- The document's Check of a manifest. Packages in memory; hasName. -/
import Derived.Test.YthghoekkdpchnaaDoorMgPq4
import Derived.Deep.RegionHeld3
namespace Go.Proofs.YthghoekkdpchnaaDoor
open Go.ChangeShapes Go.WideShapes Go.ChangeAt Go.RowKit Go.Deep Go.Maps
set_option linter.unusedVariables false
theorem below_drewM {B : Nat} {a w : World} (h : Below B a w) : Below B a w.drew := h.trans ⟨rfl, rfl, rfl, Nat.le_refl _, fun _ _ => rfl⟩
set_option maxRecDepth 100000 in
set_option maxHeartbeats 8000000 in
theorem rmcheck_is (m : Mf) (n : Nat) (hn : m.2.2.length = n) (hn62 : n ≤ 4611686018427387904) (hd : Dgs m.2.2) (h1 : m.1.length ≤ 140737488355328) (h2 : m.2.1.length ≤ 140737488355328) (a : Option Addr) (c : Nat) (w : World) (hl : InR w a m.2.2) :
    Calls Tryd.prog 70 #[mv m a n c] w fun e w' => e = .returned (.int .i64 (mchk m)) ∧ Below w.heap.size w w' := by
  obtain ⟨N, V, l⟩ := m
  simp only at *
  have K1 : Hid (∀ w, Calls Tryd.prog 69 #[.string (tx N)] w fun e w' => e = .returned (.bool (nmOk N)) ∧ w' = w) := rname_is N h1
  have K2 : Hid (∀ w, Calls Tryd.prog 69 #[.string (tx V)] w fun e w' => e = .returned (.bool (nmOk V)) ∧ w' = w) := rname_is V h2
  have HM : Hid (mchk (N, V, l) = if nmOk N = false ∨ nmOk V = false then 2 else if l = [] then 9 else if 8 < l.length then 3 else mck [] l) := rfl
  obtain ⟨r, hr⟩ : ∃ r, r = mchk (N, V, l) := ⟨_, rfl⟩
  rw [← hr] at HM ⊢
  unfold mv
  have HN : Hid (l.length = n) := hn
  have HD : Hid (Dgs l) := hd
  generalize nmOk N = p at *
  generalize nmOk V = q at *
  simp only
  generalize tx N = SN at *
  generalize tx V = SV at *
  obtain ⟨W0, hW0⟩ : ∃ W0, W0 = w.alloc (.cells #[.string SN, .string SV, .slice a n c] 62) := ⟨_, rfl⟩
  have B0 : Hid (Below w.heap.size w W0) := by rw [hW0]; exact (Below.refl _ _).alloc (Nat.le_refl _) _
  have I0 : Hid (InR W0 a l) := hl.keep B0.out
  have g0 : W0.heap[w.heap.size]? = some (.cells #[.string SN, .string SV, .slice a n c] 62) := by rw [hW0]; exact heap_alloc_new w _
  have hlt0 : w.heap.size < W0.heap.size := (Array.getElem?_eq_some_iff.1 g0).1
  have c1 : W0.cell? ⟨w.heap.size, 1, none⟩ = some (.string SV) := by rw [cell_of_row W0 _ 1 _ _ _ g0]; rfl
  have c2 : W0.cell? ⟨w.heap.size, 2, none⟩ = some (.slice a n c) := by rw [cell_of_row W0 _ 2 _ _ _ g0]; rfl
  have HW0 : Hid (w.alloc (.cells #[.string SN, .string SV, .slice a n c] 62) = W0) := hW0.symm
  clear hl hn hd hr h1 h2 hW0 g0
  go_enter Tryd.func70, Tryd.ntmps70
  go_wp2_with fail
  rw [HW0.out]
  refine (K1.out _).mono ?_
  rintro e w' ⟨rfl, hw⟩
  obtain rfl := hw.symm
  clear hw
  cases p with
  | false =>
    have HR : Hid (r = 2) := by show _ = _; rw [HM.out, if_pos (.inl rfl)]
    clear HM
    go_wp2_with fail
    go_ret
    refine ⟨?_, B0.out⟩
    rw [HR.out]
    rfl
  | true =>
    go_wp2_with fail
    refine (K2.out _).mono ?_
    rintro e w' ⟨rfl, hw⟩
    obtain rfl := hw.symm
    clear hw
    cases q with
    | false =>
      have HR : Hid (r = 2) := by show _ = _; rw [HM.out, if_pos (.inr rfl)]
      clear HM
      go_wp2_with fail
      go_ret
      refine ⟨?_, B0.out⟩
      rw [HR.out]
      rfl
    | true =>
      have nn : ¬ (true = false ∨ true = false) := by simp
      by_cases hn0 : n = 0
      · have e0 : ((n : Nat) : Int) = 0 := by omega
        have HR : Hid (r = 9) := by show _ = _; rw [HM.out, if_neg nn, if_pos (List.length_eq_zero_iff.1 (by rw [HN.out]; exact hn0))]
        clear HM hn0
        go_wp2_with fail
        go_ret
        refine ⟨?_, B0.out⟩
        rw [HR.out]
        rfl
      · have e0 : ¬ ((n : Nat) : Int) = 0 := by omega
        have hne : ¬ l = [] := fun e => hn0 (by rw [← HN.out, e]; rfl)
        by_cases h8 : 8 < n
        · have e8 : (8 : Int) < ((n : Nat) : Int) := by omega
          have HR : Hid (r = 3) := by show _ = _; rw [HM.out, if_neg nn, if_neg hne, if_pos (by rw [HN.out]; exact h8)]
          clear HM hn0
          go_wp2_with fail
          go_ret
          refine ⟨?_, B0.out⟩
          rw [HR.out]
          rfl
        · have e8 : ¬ (8 : Int) < ((n : Nat) : Int) := by omega
          have HR : Hid (r = mck [] l) := by show _ = _; rw [HM.out, if_neg nn, if_neg hne, if_neg (by rw [HN.out]; exact h8)]
          have eb0 : ((((n : Nat) : Int)) == 0) = false := by rw [beq_eq_false_iff_ne]; exact e0
          have eb8 : decide ((8 : Int) < ((n : Nat) : Int)) = false := by simp; omega
          clear HM hn0 hne nn K1 K2
          go_wp2_with fail
          have C2 : Hid (W0.cell? ⟨w.heap.size, 2, none⟩ = some (.slice a n c)) := c2
          clear c1 c2
          go_loopg [3] n (fun g i wr => ∃ (j : Nat), j ≤ n ∧ g = n - j ∧ i = .int .i64 j ∧ Hid (r = mck ((l.take j).map (·.1)) (l.drop j)) ∧ Hid (Below W0.heap.size W0 wr))
          case atStart => exact ⟨0, Nat.zero_le _, rfl, rfl, HR, Below.refl _ _⟩
          case round =>
            obtain ⟨j, hj, rfl, rfl, HRj, HW⟩ := hrel
            have d2 : wr.cell? ⟨w.heap.size, 2, none⟩ = some (.slice a n c) := (HW.out.cell (p := ⟨w.heap.size, 2, none⟩) hlt0).trans C2.out
            by_cases hlt : j < n
            · have j1 : (j : Int) < (n : Int) := by omega
              obtain ⟨x, hx⟩ : ∃ x, l[j]? = some x := ⟨l[j]'(by rw [HN.out]; exact hlt), by simp [HN.out, hlt]⟩
              obtain ⟨b, off, rfl, hbw, hrg⟩ := I0.out.at hx
              have hdg := HD.out x (List.mem_of_getElem? hx)
              have hcs : wr.cell? ⟨b, off + j * 33 + 32, none⟩ = some (.int .i64 x.2) := rcl_size hdg.1 (rangeAt_below hrg HW.out hbw)
              have HS : Hid (r = if x.2 < 0 ∨ 2147483647 < x.2 then 2 else if x.1 ∈ (l.take j).map (·.1) then 8 else mck ((l.take (j + 1)).map (·.1)) (l.drop (j + 1))) := by
                show _ = _
                rw [HRj.out, mck_step hx]
              have HXR : Hid (W0.rangeAt b (off + j * 33) (x.1.map (Value.int .u8))) := rcl_sum hrg
              have HX32 : Hid (x.1.length = 32) := hdg.1
              have HBB : Hid (Below w.heap.size w wr) := B0.out.trans (HW.out.mono B0.out.size)
              clear hx hrg hdg HRj
              obtain ⟨dx, z⟩ := x
              simp only at *
              by_cases hbad : z < 0 ∨ 2147483647 < z
              · have HR2 : Hid (r = 2) := by show _ = _; rw [HS.out, if_pos hbad]
                rcases (by omega : z < 0 ∨ (¬ z < 0 ∧ 2147483647 < z)) with hb1 | ⟨hb1, hb2⟩
                · have e1 : decide (z < 0) = true := by simp [hb1]
                  clear hbad HS
                  go_wp2_with fail
                  go_ret
                  refine ⟨?_, HBB.out⟩
                  rw [HR2.out]
                  rfl
                · have e1 : decide (z < 0) = false := by simp [hb1]; try omega
                  have e2 : decide (2147483647 < z) = true := by simp [hb2]
                  clear hbad HS
                  go_wp2_with fail
                  go_ret
                  refine ⟨?_, HBB.out⟩
                  rw [HR2.out]
                  rfl
              · have e1 : decide (z < 0) = false := by simp; omega
                have e2 : decide (2147483647 < z) = false := by simp; omega
                have HS2 : Hid (r = if dx ∈ (l.take j).map (·.1) then 8 else mck ((l.take (j + 1)).map (·.1)) (l.drop (j + 1))) := by show _ = _; rw [HS.out, if_neg hbad]
                clear HS hbad
                go_wp2_with fail
                clear hcs d2 e1 e2 HBB
                have HWo : Hid (Below W0.heap.size W0 wr) := HW
                clear HW
                go_loopg [4] j (fun g i wr => ∃ (k : Nat), k ≤ j ∧ g = j - k ∧ i = .int .i64 k ∧ Hid (dx ∉ (l.take k).map (·.1)) ∧ Hid (Below W0.heap.size W0 wr))
                case atStart => exact ⟨0, Nat.zero_le _, rfl, rfl, fun h => by simp at h, HWo⟩
                case round =>
                  obtain ⟨k, hk, rfl, rfl, HNI, HW⟩ := hrel
                  have HBB : Hid (Below w.heap.size w wr) := B0.out.trans (HW.out.mono B0.out.size)
                  by_cases hkj : k < j
                  · have k1 : (k : Int) < (j : Int) := by omega
                    have k2 : (k : Int) < (n : Int) := by omega
                    have d2 : wr.cell? ⟨w.heap.size, 2, none⟩ = some (.slice (some ⟨b, off, none⟩) n c) := (HW.out.cell (p := ⟨w.heap.size, 2, none⟩) hlt0).trans C2.out
                    obtain ⟨y, hy⟩ : ∃ y, l[k]? = some y := ⟨l[k]'(by rw [HN.out]; omega), by simp [HN.out, show k < n by omega]⟩
                    obtain ⟨b', off', he, _, hrg⟩ := I0.out.at hy
                    cases he
                    have hdg := HD.out y (List.mem_of_getElem? hy)
                    have RY : Hid (wr.rangeAt b (off + k * 33) (y.1.map (Value.int .u8))) := rangeAt_below (rcl_sum hrg) HW.out hbw
                    have RX : Hid (wr.rangeAt b (off + j * 33) (dx.map (Value.int .u8))) := rangeAt_below HXR.out HW.out hbw
                    have HLY : Hid ((y.1.map (Value.int .u8)).length = 32) := by show _ = _; rw [List.length_map]; exact hdg.1
                    have HLX : Hid ((dx.map (Value.int .u8)).length = 32) := by show _ = _; rw [List.length_map]; exact HX32.out
                    have hq : ∀ w, (Op.equalIn 10000 66 (.agg (y.1.map (Value.int .u8)).toArray) (.agg (dx.map (Value.int .u8)).toArray)).run Tryd.prog w = .ok (decide (y.1 = dx)) w := fun w => eq_digest y.1 dx hdg.1 HX32.out w
                    have hgd := guard_digest
                    have HTK : Hid ((l.take (k + 1)).map (·.1) = (l.take k).map (·.1) ++ [y.1]) := by
                      show _ = _
                      obtain ⟨hj', e⟩ := List.getElem?_eq_some_iff.1 hy
                      rw [List.take_succ_eq_append_getElem hj', e]
                      simp
                    have HIN : Hid (y.1 = dx → dx ∈ (l.take j).map (·.1)) := fun e => by
                      rw [← e]
                      refine List.mem_map.2 ⟨y, ?_, rfl⟩
                      exact List.mem_of_getElem? (by rw [List.getElem?_take_of_lt hkj]; exact hy)
                    clear hy hrg hdg
                    obtain ⟨dy, zy⟩ := y
                    simp only at *
                    generalize hEY : dy.map (Value.int .u8) = EY at *
                    generalize hEX : dx.map (Value.int .u8) = EX at *
                    clear hEY hEX
                    by_cases hxy : dy = dx
                    · have HR2 : Hid (r = 8) := by show _ = _; rw [HS2.out, if_pos (HIN.out hxy)]
                      rw [decide_eq_true hxy] at hq
                      clear hxy HIN HTK HS2 HNI
                      go_wp2_with fail
                      refine wp_region_noPanic ?_
                      refine wp_region_held_drew (S := (fun W : World => W.cell? ⟨w.heap.size, 2, none⟩ = some (.slice (some ⟨b, off, none⟩) n c) ∧ W.rangeAt b (off + k * 33) EY ∧ W.rangeAt b (off + j * 33) EX)) (by kernel_rfl) ?hSaa (fun hHeld => ?restaa)
                      case hSaa => exact ⟨d2, RY.out, RX.out⟩
                      case restaa =>
                      refine wpAnyH_take (i := 0) (v := ?v0a) rfl (by kernel_rfl) (by kernel_rfl) (by kernel_rfl) (fun _ _ _ h => h) (Or.inl ⟨by rfl, ?hy0a⟩) hHeld ?rest0a
                      case hy0a => (intro w hSw; (try dsimp only at hSw); go_simp; try with_reducible rfl)
                      try simp only [Act.put, List.setIfInBounds_toArray, List.set_cons_zero, List.set_cons_succ, List.getElem_toArray, List.getElem_cons_zero]
                      refine wpAnyH_take (i := 1) (v := ?v1a) rfl (by kernel_rfl) (by kernel_rfl) (by kernel_rfl) (fun _ _ _ h => h) (Or.inl ⟨by rfl, ?hy1a⟩) hHeld ?rest1a
                      case hy1a => (intro w hSw; (try dsimp only at hSw); go_simp; try with_reducible rfl)
                      try simp only [Act.put, List.setIfInBounds_toArray, List.set_cons_zero, List.set_cons_succ, List.getElem_toArray, List.getElem_cons_zero, List.getElem_cons_succ]
                      refine wpAnyH_take (i := 2) (v := ?v2a) rfl (by kernel_rfl) (by kernel_rfl) (by kernel_rfl) (fun _ _ _ h => h) (Or.inl ⟨by rfl, ?hy2a⟩) hHeld ?rest2a
                      case hy2a => (intro w hSw; (try dsimp only at hSw); go_simp; try with_reducible rfl)
                      try simp only [Act.put, List.setIfInBounds_toArray, List.set_cons_zero, List.set_cons_succ, List.getElem_toArray, List.getElem_cons_zero, List.getElem_cons_succ]
                      refine wpAnyH_take (i := 3) (v := ?v3a) rfl (by kernel_rfl) (by kernel_rfl) (by kernel_rfl) (fun _ _ _ h => h) (Or.inl ⟨by rfl, ?hy3a⟩) hHeld ?rest3a
                      case hy3a => (intro w hSw; (try dsimp only at hSw); go_simp; try with_reducible rfl)
                      try simp only [Act.put, List.setIfInBounds_toArray, List.set_cons_zero, List.set_cons_succ, List.getElem_toArray, List.getElem_cons_zero, List.getElem_cons_succ]
                      refine wpAnyH_take (i := 4) (v := ?v4a) rfl (by kernel_rfl) (by kernel_rfl) (by kernel_rfl) (fun _ _ _ h => h) (Or.inl ⟨by rfl, ?hy4a⟩) hHeld ?rest4a
                      case hy4a => (intro w hSw; (try dsimp only at hSw); go_simp; try with_reducible rfl)
                      try simp only [Act.put, List.setIfInBounds_toArray, List.set_cons_zero, List.set_cons_succ, List.getElem_toArray, List.getElem_cons_zero, List.getElem_cons_succ]
                      refine wpAnyH_take (i := 5) (v := .agg EY.toArray) rfl (by kernel_rfl) (by kernel_rfl) (by kernel_rfl) (fun _ _ _ h => h) (yieldsIf_load_mid (by rfl) 66 (.tmp 55) rfl b (off + k * 33) rfl EY _ (fun w h => h.2.1) Tryd.underlying66 rfl (by rw [HLY.out]; exact sizeDg)) hHeld ?rest5a
                      case rest5a =>
                      try simp only [Act.put, List.setIfInBounds_toArray, List.set_cons_zero, List.set_cons_succ, List.getElem_toArray, List.getElem_cons_zero, List.getElem_cons_succ]
                      refine wpAnyH_take (i := 6) (v := ?v6a) rfl (by kernel_rfl) (by kernel_rfl) (by kernel_rfl) (fun _ _ _ h => h) (Or.inl ⟨by rfl, ?hy6a⟩) hHeld ?rest6a
                      case hy6a => (intro w hSw; (try dsimp only at hSw); go_simp; try with_reducible rfl)
                      try simp only [Act.put, List.setIfInBounds_toArray, List.set_cons_zero, List.set_cons_succ, List.getElem_toArray, List.getElem_cons_zero, List.getElem_cons_succ]
                      refine wpAnyH_take (i := 7) (v := ?v7a) rfl (by kernel_rfl) (by kernel_rfl) (by kernel_rfl) (fun _ _ _ h => h) (Or.inl ⟨by rfl, ?hy7a⟩) hHeld ?rest7a
                      case hy7a => (intro w hSw; (try dsimp only at hSw); go_simp; try with_reducible rfl)
                      try simp only [Act.put, List.setIfInBounds_toArray, List.set_cons_zero, List.set_cons_succ, List.getElem_toArray, List.getElem_cons_zero, List.getElem_cons_succ]
                      refine wpAnyH_take (i := 8) (v := ?v8a) rfl (by kernel_rfl) (by kernel_rfl) (by kernel_rfl) (fun _ _ _ h => h) (Or.inl ⟨by rfl, ?hy8a⟩) hHeld ?rest8a
                      case hy8a => (intro w hSw; (try dsimp only at hSw); go_simp; try with_reducible rfl)
                      try simp only [Act.put, List.setIfInBounds_toArray, List.set_cons_zero, List.set_cons_succ, List.getElem_toArray, List.getElem_cons_zero, List.getElem_cons_succ]
                      refine wpAnyH_take (i := 9) (v := ?v9a) rfl (by kernel_rfl) (by kernel_rfl) (by kernel_rfl) (fun _ _ _ h => h) (Or.inl ⟨by rfl, ?hy9a⟩) hHeld ?rest9a
                      case hy9a => (intro w hSw; (try dsimp only at hSw); go_simp; try with_reducible rfl)
                      try simp only [Act.put, List.setIfInBounds_toArray, List.set_cons_zero, List.set_cons_succ, List.getElem_toArray, List.getElem_cons_zero, List.getElem_cons_succ]
                      refine wpAnyH_take (i := 10) (v := ?v10a) rfl (by kernel_rfl) (by kernel_rfl) (by kernel_rfl) (fun _ _ _ h => h) (Or.inl ⟨by rfl, ?hy10a⟩) hHeld ?rest10a
                      case hy10a => (intro w hSw; (try dsimp only at hSw); go_simp; try with_reducible rfl)
                      try simp only [Act.put, List.setIfInBounds_toArray, List.set_cons_zero, List.set_cons_succ, List.getElem_toArray, List.getElem_cons_zero, List.getElem_cons_succ]
                      refine wpAnyH_take (i := 11) (v := .agg EX.toArray) rfl (by kernel_rfl) (by kernel_rfl) (by kernel_rfl) (fun _ _ _ h => h) (yieldsIf_load_mid (by rfl) 66 (.tmp 61) rfl b (off + j * 33) rfl EX _ (fun w h => h.2.2) Tryd.underlying66 rfl (by rw [HLX.out]; exact sizeDg)) hHeld ?rest11a
                      case rest11a =>
                      try simp only [Act.put, List.setIfInBounds_toArray, List.set_cons_zero, List.set_cons_succ, List.getElem_toArray, List.getElem_cons_zero, List.getElem_cons_succ]
                      refine wpAnyH_take (i := 12) (v := ?v12a) rfl (by kernel_rfl) (by kernel_rfl) (by kernel_rfl) (fun _ _ _ h => h) (Or.inl ⟨by rfl, ?hy12a⟩) hHeld ?rest12a
                      case hy12a => (intro w hSw; (try dsimp only at hSw); go_simp; try with_reducible rfl)
                      try simp only [Act.put, List.setIfInBounds_toArray, List.set_cons_zero, List.set_cons_succ, List.getElem_toArray, List.getElem_cons_zero, List.getElem_cons_succ]
                      refine wpAnyH_done (by kernel_rfl) ?_ _
                      refine NoPanic.normal ?_
                      go_wp2_with fail
                      go_ret
                      refine ⟨?_, (by first | exact below_drewM HBB.out | exact HBB.out)⟩
                      rw [HR2.out]
                      rfl
                    · have HN2 : Hid (dx ∉ (l.take (k + 1)).map (·.1)) := by
                        show _ ∉ _
                        rw [HTK.out]
                        intro h
                        rcases List.mem_append.1 h with h | h
                        · exact HNI.out h
                        · simp at h; exact hxy h.symm
                      rw [decide_eq_false hxy] at hq
                      clear hxy HIN HTK HNI
                      go_wp2_with fail
                      refine wp_region_noPanic ?_
                      refine wp_region_held_drew (S := (fun W : World => W.cell? ⟨w.heap.size, 2, none⟩ = some (.slice (some ⟨b, off, none⟩) n c) ∧ W.rangeAt b (off + k * 33) EY ∧ W.rangeAt b (off + j * 33) EX)) (by kernel_rfl) ?hSab (fun hHeld => ?restab)
                      case hSab => exact ⟨d2, RY.out, RX.out⟩
                      case restab =>
                      refine wpAnyH_take (i := 0) (v := ?v0b) rfl (by kernel_rfl) (by kernel_rfl) (by kernel_rfl) (fun _ _ _ h => h) (Or.inl ⟨by rfl, ?hy0b⟩) hHeld ?rest0b
                      case hy0b => (intro w hSw; (try dsimp only at hSw); go_simp; try with_reducible rfl)
                      try simp only [Act.put, List.setIfInBounds_toArray, List.set_cons_zero, List.set_cons_succ, List.getElem_toArray, List.getElem_cons_zero]
                      refine wpAnyH_take (i := 1) (v := ?v1b) rfl (by kernel_rfl) (by kernel_rfl) (by kernel_rfl) (fun _ _ _ h => h) (Or.inl ⟨by rfl, ?hy1b⟩) hHeld ?rest1b
                      case hy1b => (intro w hSw; (try dsimp only at hSw); go_simp; try with_reducible rfl)
                      try simp only [Act.put, List.setIfInBounds_toArray, List.set_cons_zero, List.set_cons_succ, List.getElem_toArray, List.getElem_cons_zero, List.getElem_cons_succ]
                      refine wpAnyH_take (i := 2) (v := ?v2b) rfl (by kernel_rfl) (by kernel_rfl) (by kernel_rfl) (fun _ _ _ h => h) (Or.inl ⟨by rfl, ?hy2b⟩) hHeld ?rest2b
                      case hy2b => (intro w hSw; (try dsimp only at hSw); go_simp; try with_reducible rfl)
                      try simp only [Act.put, List.setIfInBounds_toArray, List.set_cons_zero, List.set_cons_succ, List.getElem_toArray, List.getElem_cons_zero, List.getElem_cons_succ]
                      refine wpAnyH_take (i := 3) (v := ?v3b) rfl (by kernel_rfl) (by kernel_rfl) (by kernel_rfl) (fun _ _ _ h => h) (Or.inl ⟨by rfl, ?hy3b⟩) hHeld ?rest3b
                      case hy3b => (intro w hSw; (try dsimp only at hSw); go_simp; try with_reducible rfl)
                      try simp only [Act.put, List.setIfInBounds_toArray, List.set_cons_zero, List.set_cons_succ, List.getElem_toArray, List.getElem_cons_zero, List.getElem_cons_succ]
                      refine wpAnyH_take (i := 4) (v := ?v4b) rfl (by kernel_rfl) (by kernel_rfl) (by kernel_rfl) (fun _ _ _ h => h) (Or.inl ⟨by rfl, ?hy4b⟩) hHeld ?rest4b
                      case hy4b => (intro w hSw; (try dsimp only at hSw); go_simp; try with_reducible rfl)
                      try simp only [Act.put, List.setIfInBounds_toArray, List.set_cons_zero, List.set_cons_succ, List.getElem_toArray, List.getElem_cons_zero, List.getElem_cons_succ]
                      refine wpAnyH_take (i := 5) (v := .agg EY.toArray) rfl (by kernel_rfl) (by kernel_rfl) (by kernel_rfl) (fun _ _ _ h => h) (yieldsIf_load_mid (by rfl) 66 (.tmp 55) rfl b (off + k * 33) rfl EY _ (fun w h => h.2.1) Tryd.underlying66 rfl (by rw [HLY.out]; exact sizeDg)) hHeld ?rest5b
                      case rest5b =>
                      try simp only [Act.put, List.setIfInBounds_toArray, List.set_cons_zero, List.set_cons_succ, List.getElem_toArray, List.getElem_cons_zero, List.getElem_cons_succ]
                      refine wpAnyH_take (i := 6) (v := ?v6b) rfl (by kernel_rfl) (by kernel_rfl) (by kernel_rfl) (fun _ _ _ h => h) (Or.inl ⟨by rfl, ?hy6b⟩) hHeld ?rest6b
                      case hy6b => (intro w hSw; (try dsimp only at hSw); go_simp; try with_reducible rfl)
                      try simp only [Act.put, List.setIfInBounds_toArray, List.set_cons_zero, List.set_cons_succ, List.getElem_toArray, List.getElem_cons_zero, List.getElem_cons_succ]
                      refine wpAnyH_take (i := 7) (v := ?v7b) rfl (by kernel_rfl) (by kernel_rfl) (by kernel_rfl) (fun _ _ _ h => h) (Or.inl ⟨by rfl, ?hy7b⟩) hHeld ?rest7b
                      case hy7b => (intro w hSw; (try dsimp only at hSw); go_simp; try with_reducible rfl)
                      try simp only [Act.put, List.setIfInBounds_toArray, List.set_cons_zero, List.set_cons_succ, List.getElem_toArray, List.getElem_cons_zero, List.getElem_cons_succ]
                      refine wpAnyH_take (i := 8) (v := ?v8b) rfl (by kernel_rfl) (by kernel_rfl) (by kernel_rfl) (fun _ _ _ h => h) (Or.inl ⟨by rfl, ?hy8b⟩) hHeld ?rest8b
                      case hy8b => (intro w hSw; (try dsimp only at hSw); go_simp; try with_reducible rfl)
                      try simp only [Act.put, List.setIfInBounds_toArray, List.set_cons_zero, List.set_cons_succ, List.getElem_toArray, List.getElem_cons_zero, List.getElem_cons_succ]
                      refine wpAnyH_take (i := 9) (v := ?v9b) rfl (by kernel_rfl) (by kernel_rfl) (by kernel_rfl) (fun _ _ _ h => h) (Or.inl ⟨by rfl, ?hy9b⟩) hHeld ?rest9b
                      case hy9b => (intro w hSw; (try dsimp only at hSw); go_simp; try with_reducible rfl)
                      try simp only [Act.put, List.setIfInBounds_toArray, List.set_cons_zero, List.set_cons_succ, List.getElem_toArray, List.getElem_cons_zero, List.getElem_cons_succ]
                      refine wpAnyH_take (i := 10) (v := ?v10b) rfl (by kernel_rfl) (by kernel_rfl) (by kernel_rfl) (fun _ _ _ h => h) (Or.inl ⟨by rfl, ?hy10b⟩) hHeld ?rest10b
                      case hy10b => (intro w hSw; (try dsimp only at hSw); go_simp; try with_reducible rfl)
                      try simp only [Act.put, List.setIfInBounds_toArray, List.set_cons_zero, List.set_cons_succ, List.getElem_toArray, List.getElem_cons_zero, List.getElem_cons_succ]
                      refine wpAnyH_take (i := 11) (v := .agg EX.toArray) rfl (by kernel_rfl) (by kernel_rfl) (by kernel_rfl) (fun _ _ _ h => h) (yieldsIf_load_mid (by rfl) 66 (.tmp 61) rfl b (off + j * 33) rfl EX _ (fun w h => h.2.2) Tryd.underlying66 rfl (by rw [HLX.out]; exact sizeDg)) hHeld ?rest11b
                      case rest11b =>
                      try simp only [Act.put, List.setIfInBounds_toArray, List.set_cons_zero, List.set_cons_succ, List.getElem_toArray, List.getElem_cons_zero, List.getElem_cons_succ]
                      refine wpAnyH_take (i := 12) (v := ?v12b) rfl (by kernel_rfl) (by kernel_rfl) (by kernel_rfl) (fun _ _ _ h => h) (Or.inl ⟨by rfl, ?hy12b⟩) hHeld ?rest12b
                      case hy12b => (intro w hSw; (try dsimp only at hSw); go_simp; try with_reducible rfl)
                      try simp only [Act.put, List.setIfInBounds_toArray, List.set_cons_zero, List.set_cons_succ, List.getElem_toArray, List.getElem_cons_zero, List.getElem_cons_succ]
                      refine wpAnyH_done (by kernel_rfl) ?_ _
                      refine NoPanic.normal ?_
                      go_wp2_with fail
                      go_roundg (j - (k + 1))
                      case measure => omega
                      case rel => exact ⟨k + 1, by omega, rfl, by go_num, HN2, below_drewM HW.out⟩
                  · have e : k = j := by omega
                    subst e
                    have k1 : ¬ (k : Int) < (k : Int) := by omega
                    have HR2 : Hid (r = mck ((l.take (k + 1)).map (·.1)) (l.drop (k + 1))) := by show _ = _; rw [HS2.out, if_neg HNI.out]
                    go_wp2_with fail
                    go_roundg (n - (k + 1))
                    case measure => omega
                    case rel => exact ⟨k + 1, by omega, rfl, by go_num, HR2, HW⟩
            · have e : j = n := by omega
              subst e
              have j1 : ¬ (j : Int) < (j : Int) := by omega
              have HR2 : Hid (r = 0) := by
                show _ = _
                rw [HRj.out, List.drop_of_length_le (by rw [HN.out]; omega)]
                rfl
              go_wp2_with fail
              go_ret
              refine ⟨?_, B0.out.trans (HW.out.mono B0.out.size)⟩
              rw [HR2.out]
              rfl
end Go.Proofs.YthghoekkdpchnaaDoor
namespace Go.Proofs.YthghoekkdpchnaaDoor
open Go.ChangeShapes Go.WideShapes Go.ChangeAt Go.RowKit Go.Deep Go.Maps
set_option linter.unusedVariables false
set_option linter.unusedSimpArgs false
/-- a package: whose it is, name, version, layers, and where they lie -/
structure Pk where
  o : Int
  n : Tx
  v : Tx
  l : List Rf
  la : Option Addr
  ln : Nat
  lc : Nat
def Pk.mf (x : Pk) : Mf := (x.n, x.v, x.l)
def Pkc (w : World) (b o : Nat) (x : Pk) : Prop := w.cell? ⟨b, o, none⟩ = some (.int .i64 x.o) ∧ w.cell? ⟨b, o + 1, none⟩ = some (.string (tx x.n)) ∧ w.cell? ⟨b, o + 2, none⟩ = some (.string (tx x.v)) ∧ w.cell? ⟨b, o + 3, none⟩ = some (.slice x.la x.ln x.lc)
theorem Pkc.kept {w w' : World} {b o : Nat} {x : Pk} (h : Pkc w b o x) (hb : w'.heap[b]? = w.heap[b]?) : Pkc w' b o x :=
  ⟨(World.cell?_of_block (a := ⟨b, o, none⟩) hb).trans h.1, (World.cell?_of_block (a := ⟨b, o + 1, none⟩) hb).trans h.2.1, (World.cell?_of_block (a := ⟨b, o + 2, none⟩) hb).trans h.2.2.1, (World.cell?_of_block (a := ⟨b, o + 3, none⟩) hb).trans h.2.2.2⟩
/-- its layers may be read -/
structure PkOk (w : World) (x : Pk) : Prop where
  inr : InR w x.la x.l
  len : x.l.length = x.ln
  le : x.ln ≤ x.lc
  big : x.ln ≤ 4611686018427387904
  dg : Dgs x.l
  sn : x.n.length ≤ 140737488355328
  sv : x.v.length ≤ 140737488355328
theorem PkOk.keep {w w' : World} {x : Pk} (h : PkOk w x) (hb : Below w.heap.size w w') : PkOk w' x := ⟨h.inr.keep hb, h.len, h.le, h.big, h.dg, h.sn, h.sv⟩
/-- a slice of packages may be read -/
def InPk (w : World) (a : Option Addr) (l : List Pk) : Prop := l = [] ∨ ∃ b off, a = some ⟨b, off, none⟩ ∧ b < w.heap.size ∧ ∀ i x, l[i]? = some x → Pkc w b (off + i * 4) x ∧ PkOk w x
theorem InPk.keep {w w' : World} {a : Option Addr} {l : List Pk} (h : InPk w a l) (hb : Below w.heap.size w w') : InPk w' a l := by
  rcases h with h | ⟨b, off, h1, h2, h3⟩
  · exact .inl h
  · exact .inr ⟨b, off, h1, Nat.lt_of_lt_of_le h2 hb.size, fun i x hx => ⟨(h3 i x hx).1.kept (hb.block b h2), (h3 i x hx).2.keep hb⟩⟩
theorem InPk.at {w : World} {a : Option Addr} {l : List Pk} (h : InPk w a l) {i : Nat} {x : Pk} (hx : l[i]? = some x) : ∃ b off, a = some ⟨b, off, none⟩ ∧ b < w.heap.size ∧ Pkc w b (off + i * 4) x ∧ PkOk w x := by
  rcases h with h | ⟨b, off, e, h1, h2⟩
  · rw [h] at hx; cases hx
  · exact ⟨b, off, e, h1, (h2 i x hx).1, (h2 i x hx).2⟩
theorem InPk.take {w : World} {a : Option Addr} {l : List Pk} (h : InPk w a l) (k : Nat) : InPk w a (l.take k) := by
  rcases h with h | ⟨b, off, e, h1, h2⟩
  · rw [h]; exact .inl (by simp)
  · exact .inr ⟨b, off, e, h1, fun i x hx => h2 i x (by rw [List.getElem?_take] at hx; split at hx <;> simp_all)⟩
def hasN (l : List Pk) (s : Tx) : Bool := l.any fun x => decide (x.n = s)
theorem hasN_next {l : List Pk} {s : Tx} {j : Nat} {x : Pk} (hx : l[j]? = some x) : hasN (l.take (j + 1)) s = (hasN (l.take j) s || decide (x.n = s)) := by
  unfold hasN
  rw [List.take_add_one, hx]
  simp
theorem hasN_yes {l : List Pk} {s : Tx} {j : Nat} {x : Pk} (hx : l[j]? = some x) (he : x.n = s) : hasN l s = true := List.any_eq_true.2 ⟨x, List.mem_of_getElem? hx, by simp [he]⟩
set_option maxRecDepth 100000 in
set_option maxHeartbeats 4000000 in
theorem hasName_is (w : World) (a : Option Addr) (n c : Nat) (l : List Pk) (hl : InPk w a l) (hn : l.length = n) (hc : n ≤ c) (hN : n ≤ 1000000) (s : Tx) :
    Calls Tryd.prog 58 #[.slice a n c, .string (tx s)] w fun e w' => e = .returned (.bool (hasN l s)) ∧ Below w.heap.size w w' := by
  have HL : Hid (InPk w a l) := hl
  have HLN : Hid (l.length = n) := hn
  obtain ⟨R, hR⟩ : ∃ R, hasN l s = R := ⟨_, rfl⟩
  have HR : Hid (hasN l s = R) := hR
  rw [hR]
  obtain ⟨SS, hSS⟩ : ∃ S, S = tx s := ⟨_, rfl⟩
  have HSS : Hid (SS = tx s) := hSS
  rw [← hSS]
  clear hl hn hR hSS
  go_enter Tryd.func58, Tryd.ntmps58
  go_wp2_with fail
  go_loopg [9] n (fun g i wr => ∃ j : Nat, j ≤ n ∧ g = n - j ∧ i = .int .i64 (j : Int) ∧ Hid (hasN (l.take j) s = false ∧ Below w.heap.size w wr))
  case atStart => exact ⟨0, Nat.zero_le _, rfl, rfl, rfl, Below.refl _ _⟩
  case round =>
    obtain ⟨j, hj, rfl, rfl, RW⟩ := hrel
    by_cases hlt : j < n
    · have j1 : decide ((j : Int) < (n : Int)) = true := by rw [decide_eq_true_eq]; omega
      obtain ⟨x, hx⟩ : ∃ x, l[j]? = some x := ⟨l[j]'(by rw [HLN.out]; exact hlt), by simp [HLN.out, hlt]⟩
      obtain ⟨b, off, rfl, hbw, hpc, _⟩ := HL.out.at hx
      obtain ⟨c0, c1, c2, c3⟩ := hpc.kept (RW.out.2.block b hbw)
      have HX : Hid (hasN (l.take (j + 1)) s = (hasN (l.take j) s || decide (x.n = s)) ∧ (x.n = s → hasN l s = true)) := ⟨hasN_next hx, hasN_yes hx⟩
      have te : ((tx x.n).toList == SS.toList) = decide (x.n = s) := by rw [HSS.out]; exact tx_eq x.n s
      have ri : IntKind.i64.wrap ((j : Int) + 1) = (j : Int) + 1 := by rw [IntKind.wrap_i64]; omega
      clear hx hpc
      obtain ⟨po, pN, pV, pl, pa, pn, pc⟩ := x
      simp only at c0 c1 c2 c3 HX te
      obtain ⟨SN, hSN⟩ : ∃ S, S = tx pN := ⟨_, rfl⟩
      obtain ⟨SV, hSV⟩ : ∃ S, S = tx pV := ⟨_, rfl⟩
      rw [← hSN] at c1 te
      rw [← hSV] at c2
      have B1 : Hid (Below w.heap.size w (wr.alloc (.cells #[.int .i64 po, .string SN, .string SV, .slice pa pn pc] 64))) := RW.out.2.alloc RW.out.2.size _
      clear hSN hSV
      by_cases he : pN = s
      · rw [decide_eq_true he] at te
        have HF : Hid (true = R) := (HX.out.2 he).symm.trans HR.out
        clear HX he
        go_wp2_with fail
        go_ret
        exact ⟨congrArg (fun z => Ending.returned (.bool z)) HF.out, B1.out⟩
      · rw [decide_eq_false he] at te
        have HF : Hid (hasN (l.take (j + 1)) s = false) := by show _ = _; rw [HX.out.1, RW.out.1, decide_eq_false he]; rfl
        clear HX he
        go_wp2_with fail
        go_roundg (n - (j + 1))
        case measure => omega
        case rel => exact ⟨j + 1, by omega, rfl, rfl, HF.out, B1.out⟩
    · have j1 : decide ((j : Int) < (n : Int)) = false := by rw [decide_eq_false_iff_not]; omega
      have HF : Hid (false = R) := by
        have := RW.out.1
        rw [List.take_of_length_le (by rw [HLN.out]; omega), HR.out] at this
        exact this.symm
      go_wp2_with fail
      go_ret
      exact ⟨congrArg (fun z => Ending.returned (.bool z)) HF.out, RW.out.2⟩
end Go.Proofs.YthghoekkdpchnaaDoor
