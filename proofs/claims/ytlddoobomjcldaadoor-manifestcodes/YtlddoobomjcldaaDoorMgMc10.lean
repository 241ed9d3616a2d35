/- The document's Check of a manifest. bytes.Equal; manifest.Decode. Contracts of the document's own answers (veneerref01) by sevens: ReadVar, Var. -/
import Derived.Test.YtlddoobomjcldaaDoorMgMc7
import Derived.Test.YtlddoobomjcldaaDoorMgMc9
import Derived.Deep.RegionHeld3
import Derived.Test.YtlddoobomjcldaaDoorMgMc6
import Derived.Test.YtlddoobomjcldaaDoorMgMc4
namespace Go.Proofs.YtlddoobomjcldaaDoor
open Go.ChangeShapes Go.WideShapes Go.ChangeAt Go.RowKit Go.Deep Go.Maps
set_option linter.unusedVariables false
theorem below_drewM {B : Nat} {a w : World} (h : Below B a w) : Below B a w.drew := h.trans ⟨rfl, rfl, rfl, Nat.le_refl _, fun _ _ => rfl⟩
set_option maxRecDepth 100000 in
set_option maxHeartbeats 8000000 in
theorem rmcheck_is (m : Mf) (n : Nat) (hn : m.2.2.length = n) (hn62 : n ≤ 4611686018427387904) (hd : Dgs m.2.2) (h1 : m.1.length ≤ 140737488355328) (h2 : m.2.1.length ≤ 140737488355328) (a : Option Addr) (c : Nat) (w : World) (hl : InR w a m.2.2) :
    Calls Tryd.prog 40 #[mv m a n c] w fun e w' => e = .returned (.int .i64 (mchk m)) ∧ Below w.heap.size w w' := by
  obtain ⟨N, V, l⟩ := m
  simp only at *
  have K1 : Hid (∀ w, Calls Tryd.prog 59 #[.string (tx N)] w fun e w' => e = .returned (.bool (nmOk N)) ∧ w' = w) := rname_is N h1
  have K2 : Hid (∀ w, Calls Tryd.prog 59 #[.string (tx V)] w fun e w' => e = .returned (.bool (nmOk V)) ∧ w' = w) := rname_is V h2
  have HM : Hid (mchk (N, V, l) = if nmOk N = false ∨ nmOk V = false then 2 else if l = [] then 9 else if 8 < l.length then 3 else mck [] l) := rfl
  obtain ⟨r, hr⟩ : ∃ r, r = mchk (N, V, l) := ⟨_, rfl⟩
  rw [← hr] at HM ⊢
  unfold mv
  have HN : Hid (l.length = n) := hn
  have HD : Hid (Dgs l) := hd
  generalize nmOk N = p at *
  generalize nmOk V = q at *
  simp only
  generalize tx N = SN at *
  generalize tx V = SV at *
  obtain ⟨W0, hW0⟩ : ∃ W0, W0 = w.alloc (.cells #[.string SN, .string SV, .slice a n c] 44) := ⟨_, rfl⟩
  have B0 : Hid (Below w.heap.size w W0) := by rw [hW0]; exact (Below.refl _ _).alloc (Nat.le_refl _) _
  have I0 : Hid (InR W0 a l) := hl.keep B0.out
  have g0 : W0.heap[w.heap.size]? = some (.cells #[.string SN, .string SV, .slice a n c] 44) := by rw [hW0]; exact heap_alloc_new w _
  have hlt0 : w.heap.size < W0.heap.size := (Array.getElem?_eq_some_iff.1 g0).1
  have c1 : W0.cell? ⟨w.heap.size, 1, none⟩ = some (.string SV) := by rw [cell_of_row W0 _ 1 _ _ _ g0]; rfl
  have c2 : W0.cell? ⟨w.heap.size, 2, none⟩ = some (.slice a n c) := by rw [cell_of_row W0 _ 2 _ _ _ g0]; rfl
  have HW0 : Hid (w.alloc (.cells #[.string SN, .string SV, .slice a n c] 44) = W0) := hW0.symm
  clear hl hn hd hr h1 h2 hW0 g0
  go_enter Tryd.func40, Tryd.ntmps40
  go_wp2_with fail
  rw [HW0.out]
  refine (K1.out _).mono ?_
  rintro e w' ⟨rfl, hw⟩
  obtain rfl := hw.symm
  clear hw
  cases p with
  | false =>
    have HR : Hid (r = 2) := by show _ = _; rw [HM.out, if_pos (.inl rfl)]
    clear HM
    go_wp2_with fail
    go_ret
    refine ⟨?_, B0.out⟩
    rw [HR.out]
    rfl
  | true =>
    go_wp2_with fail
    refine (K2.out _).mono ?_
    rintro e w' ⟨rfl, hw⟩
    obtain rfl := hw.symm
    clear hw
    cases q with
    | false =>
      have HR : Hid (r = 2) := by show _ = _; rw [HM.out, if_pos (.inr rfl)]
      clear HM
      go_wp2_with fail
      go_ret
      refine ⟨?_, B0.out⟩
      rw [HR.out]
      rfl
    | true =>
      have nn : ¬ (true = false ∨ true = false) := by simp
      by_cases hn0 : n = 0
      · have e0 : ((n : Nat) : Int) = 0 := by omega
        have HR : Hid (r = 9) := by show _ = _; rw [HM.out, if_neg nn, if_pos (List.length_eq_zero_iff.1 (by rw [HN.out]; exact hn0))]
        clear HM hn0
        go_wp2_with fail
        go_ret
        refine ⟨?_, B0.out⟩
        rw [HR.out]
        rfl
      · have e0 : ¬ ((n : Nat) : Int) = 0 := by omega
        have hne : ¬ l = [] := fun e => hn0 (by rw [← HN.out, e]; rfl)
        by_cases h8 : 8 < n
        · have e8 : (8 : Int) < ((n : Nat) : Int) := by omega
          have HR : Hid (r = 3) := by show _ = _; rw [HM.out, if_neg nn, if_neg hne, if_pos (by rw [HN.out]; exact h8)]
          clear HM hn0
          go_wp2_with fail
          go_ret
          refine ⟨?_, B0.out⟩
          rw [HR.out]
          rfl
        · have e8 : ¬ (8 : Int) < ((n : Nat) : Int) := by omega
          have HR : Hid (r = mck [] l) := by show _ = _; rw [HM.out, if_neg nn, if_neg hne, if_neg (by rw [HN.out]; exact h8)]
          have eb0 : ((((n : Nat) : Int)) == 0) = false := by rw [beq_eq_false_iff_ne]; exact e0
          have eb8 : decide ((8 : Int) < ((n : Nat) : Int)) = false := by simp; omega
          clear HM hn0 hne nn K1 K2
          go_wp2_with fail
          have C2 : Hid (W0.cell? ⟨w.heap.size, 2, none⟩ = some (.slice a n c)) := c2
          clear c1 c2
          go_loopg [3] n (fun g i wr => ∃ (j : Nat), j ≤ n ∧ g = n - j ∧ i = .int .i64 j ∧ Hid (r = mck ((l.take j).map (·.1)) (l.drop j)) ∧ Hid (Below W0.heap.size W0 wr))
          case atStart => exact ⟨0, Nat.zero_le _, rfl, rfl, HR, Below.refl _ _⟩
          case round =>
            obtain ⟨j, hj, rfl, rfl, HRj, HW⟩ := hrel
            have d2 : wr.cell? ⟨w.heap.size, 2, none⟩ = some (.slice a n c) := (HW.out.cell (p := ⟨w.heap.size, 2, none⟩) hlt0).trans C2.out
            by_cases hlt : j < n
            · have j1 : (j : Int) < (n : Int) := by omega
              obtain ⟨x, hx⟩ : ∃ x, l[j]? = some x := ⟨l[j]'(by rw [HN.out]; exact hlt), by simp [HN.out, hlt]⟩
              obtain ⟨b, off, rfl, hbw, hrg⟩ := I0.out.at hx
              have hdg := HD.out x (List.mem_of_getElem? hx)
              have hcs : wr.cell? ⟨b, off + j * 33 + 32, none⟩ = some (.int .i64 x.2) := rcl_size hdg.1 (rangeAt_below hrg HW.out hbw)
              have HS : Hid (r = if x.2 < 0 ∨ 2147483647 < x.2 then 2 else if x.1 ∈ (l.take j).map (·.1) then 8 else mck ((l.take (j + 1)).map (·.1)) (l.drop (j + 1))) := by
                show _ = _
                rw [HRj.out, mck_step hx]
              have HXR : Hid (W0.rangeAt b (off + j * 33) (x.1.map (Value.int .u8))) := rcl_sum hrg
              have HX32 : Hid (x.1.length = 32) := hdg.1
              have HBB : Hid (Below w.heap.size w wr) := B0.out.trans (HW.out.mono B0.out.size)
              clear hx hrg hdg HRj
              obtain ⟨dx, z⟩ := x
              simp only at *
              by_cases hbad : z < 0 ∨ 2147483647 < z
              · have HR2 : Hid (r = 2) := by show _ = _; rw [HS.out, if_pos hbad]
                rcases (by omega : z < 0 ∨ (¬ z < 0 ∧ 2147483647 < z)) with hb1 | ⟨hb1, hb2⟩
                · have e1 : decide (z < 0) = true := by simp [hb1]
                  clear hbad HS
                  go_wp2_with fail
                  go_ret
                  refine ⟨?_, HBB.out⟩
                  rw [HR2.out]
                  rfl
                · have e1 : decide (z < 0) = false := by simp [hb1]; try omega
                  have e2 : decide (2147483647 < z) = true := by simp [hb2]
                  clear hbad HS
                  go_wp2_with fail
                  go_ret
                  refine ⟨?_, HBB.out⟩
                  rw [HR2.out]
                  rfl
              · have e1 : decide (z < 0) = false := by simp; omega
                have e2 : decide (2147483647 < z) = false := by simp; omega
                have HS2 : Hid (r = if dx ∈ (l.take j).map (·.1) then 8 else mck ((l.take (j + 1)).map (·.1)) (l.drop (j + 1))) := by show _ = _; rw [HS.out, if_neg hbad]
                clear HS hbad
                go_wp2_with fail
                clear hcs d2 e1 e2 HBB
                have HWo : Hid (Below W0.heap.size W0 wr) := HW
                clear HW
                go_loopg [4] j (fun g i wr => ∃ (k : Nat), k ≤ j ∧ g = j - k ∧ i = .int .i64 k ∧ Hid (dx ∉ (l.take k).map (·.1)) ∧ Hid (Below W0.heap.size W0 wr))
                case atStart => exact ⟨0, Nat.zero_le _, rfl, rfl, fun h => by simp at h, HWo⟩
                case round =>
                  obtain ⟨k, hk, rfl, rfl, HNI, HW⟩ := hrel
                  have HBB : Hid (Below w.heap.size w wr) := B0.out.trans (HW.out.mono B0.out.size)
                  by_cases hkj : k < j
                  · have k1 : (k : Int) < (j : Int) := by omega
                    have k2 : (k : Int) < (n : Int) := by omega
                    have d2 : wr.cell? ⟨w.heap.size, 2, none⟩ = some (.slice (some ⟨b, off, none⟩) n c) := (HW.out.cell (p := ⟨w.heap.size, 2, none⟩) hlt0).trans C2.out
                    obtain ⟨y, hy⟩ : ∃ y, l[k]? = some y := ⟨l[k]'(by rw [HN.out]; omega), by simp [HN.out, show k < n by omega]⟩
                    obtain ⟨b', off', he, _, hrg⟩ := I0.out.at hy
                    cases he
                    have hdg := HD.out y (List.mem_of_getElem? hy)
                    have RY : Hid (wr.rangeAt b (off + k * 33) (y.1.map (Value.int .u8))) := rangeAt_below (rcl_sum hrg) HW.out hbw
                    have RX : Hid (wr.rangeAt b (off + j * 33) (dx.map (Value.int .u8))) := rangeAt_below HXR.out HW.out hbw
                    have HLY : Hid ((y.1.map (Value.int .u8)).length = 32) := by show _ = _; rw [List.length_map]; exact hdg.1
                    have HLX : Hid ((dx.map (Value.int .u8)).length = 32) := by show _ = _; rw [List.length_map]; exact HX32.out
                    have hq : ∀ w, (Op.equalIn 10000 35 (.agg (y.1.map (Value.int .u8)).toArray) (.agg (dx.map (Value.int .u8)).toArray)).run Tryd.prog w = .ok (decide (y.1 = dx)) w := fun w => eq_digest y.1 dx hdg.1 HX32.out w
                    have hgd := guard_digest
                    have HTK : Hid ((l.take (k + 1)).map (·.1) = (l.take k).map (·.1) ++ [y.1]) := by
                      show _ = _
                      obtain ⟨hj', e⟩ := List.getElem?_eq_some_iff.1 hy
                      rw [List.take_succ_eq_append_getElem hj', e]
                      simp
                    have HIN : Hid (y.1 = dx → dx ∈ (l.take j).map (·.1)) := fun e => by
                      rw [← e]
                      refine List.mem_map.2 ⟨y, ?_, rfl⟩
                      exact List.mem_of_getElem? (by rw [List.getElem?_take_of_lt hkj]; exact hy)
                    clear hy hrg hdg
                    obtain ⟨dy, zy⟩ := y
                    simp only at *
                    generalize hEY : dy.map (Value.int .u8) = EY at *
                    generalize hEX : dx.map (Value.int .u8) = EX at *
                    clear hEY hEX
                    by_cases hxy : dy = dx
                    · have HR2 : Hid (r = 8) := by show _ = _; rw [HS2.out, if_pos (HIN.out hxy)]
                      rw [decide_eq_true hxy] at hq
                      clear hxy HIN HTK HS2 HNI
                      go_wp2_with fail
                      refine wp_region_noPanic ?_
                      refine wp_region_held_drew (S := (fun W : World => W.cell? ⟨w.heap.size, 2, none⟩ = some (.slice (some ⟨b, off, none⟩) n c) ∧ W.rangeAt b (off + k * 33) EY ∧ W.rangeAt b (off + j * 33) EX)) (by kernel_rfl) ?hSaa (fun hHeld => ?restaa)
                      case hSaa => exact ⟨d2, RY.out, RX.out⟩
                      case restaa =>
                      refine wpAnyH_take (i := 0) (v := ?v0a) rfl (by kernel_rfl) (by kernel_rfl) (by kernel_rfl) (fun _ _ _ h => h) (Or.inl ⟨by rfl, ?hy0a⟩) hHeld ?rest0a
                      case hy0a => (intro w hSw; (try dsimp only at hSw); go_simp; try with_reducible rfl)
                      try simp only [Act.put, List.setIfInBounds_toArray, List.set_cons_zero, List.set_cons_succ, List.getElem_toArray, List.getElem_cons_zero]
                      refine wpAnyH_take (i := 1) (v := ?v1a) rfl (by kernel_rfl) (by kernel_rfl) (by kernel_rfl) (fun _ _ _ h => h) (Or.inl ⟨by rfl, ?hy1a⟩) hHeld ?rest1a
                      case hy1a => (intro w hSw; (try dsimp only at hSw); go_simp; try with_reducible rfl)
                      try simp only [Act.put, List.setIfInBounds_toArray, List.set_cons_zero, List.set_cons_succ, List.getElem_toArray, List.getElem_cons_zero, List.getElem_cons_succ]
                      refine wpAnyH_take (i := 2) (v := ?v2a) rfl (by kernel_rfl) (by kernel_rfl) (by kernel_rfl) (fun _ _ _ h => h) (Or.inl ⟨by rfl, ?hy2a⟩) hHeld ?rest2a
                      case hy2a => (intro w hSw; (try dsimp only at hSw); go_simp; try with_reducible rfl)
                      try simp only [Act.put, List.setIfInBounds_toArray, List.set_cons_zero, List.set_cons_succ, List.getElem_toArray, List.getElem_cons_zero, List.getElem_cons_succ]
                      refine wpAnyH_take (i := 3) (v := ?v3a) rfl (by kernel_rfl) (by kernel_rfl) (by kernel_rfl) (fun _ _ _ h => h) (Or.inl ⟨by rfl, ?hy3a⟩) hHeld ?rest3a
                      case hy3a => (intro w hSw; (try dsimp only at hSw); go_simp; try with_reducible rfl)
                      try simp only [Act.put, List.setIfInBounds_toArray, List.set_cons_zero, List.set_cons_succ, List.getElem_toArray, List.getElem_cons_zero, List.getElem_cons_succ]
                      refine wpAnyH_take (i := 4) (v := ?v4a) rfl (by kernel_rfl) (by kernel_rfl) (by kernel_rfl) (fun _ _ _ h => h) (Or.inl ⟨by rfl, ?hy4a⟩) hHeld ?rest4a
                      case hy4a => (intro w hSw; (try dsimp only at hSw); go_simp; try with_reducible rfl)
                      try simp only [Act.put, List.setIfInBounds_toArray, List.set_cons_zero, List.set_cons_succ, List.getElem_toArray, List.getElem_cons_zero, List.getElem_cons_succ]
                      refine wpAnyH_take (i := 5) (v := .agg EY.toArray) rfl (by kernel_rfl) (by kernel_rfl) (by kernel_rfl) (fun _ _ _ h => h) (yieldsIf_load_mid (by rfl) 35 (.tmp 55) rfl b (off + k * 33) rfl EY _ (fun w h => h.2.1) Tryd.underlying35 rfl (by rw [HLY.out]; exact sizeDg)) hHeld ?rest5a
                      case rest5a =>
                      try simp only [Act.put, List.setIfInBounds_toArray, List.set_cons_zero, List.set_cons_succ, List.getElem_toArray, List.getElem_cons_zero, List.getElem_cons_succ]
                      refine wpAnyH_take (i := 6) (v := ?v6a) rfl (by kernel_rfl) (by kernel_rfl) (by kernel_rfl) (fun _ _ _ h => h) (Or.inl ⟨by rfl, ?hy6a⟩) hHeld ?rest6a
                      case hy6a => (intro w hSw; (try dsimp only at hSw); go_simp; try with_reducible rfl)
                      try simp only [Act.put, List.setIfInBounds_toArray, List.set_cons_zero, List.set_cons_succ, List.getElem_toArray, List.getElem_cons_zero, List.getElem_cons_succ]
                      refine wpAnyH_take (i := 7) (v := ?v7a) rfl (by kernel_rfl) (by kernel_rfl) (by kernel_rfl) (fun _ _ _ h => h) (Or.inl ⟨by rfl, ?hy7a⟩) hHeld ?rest7a
                      case hy7a => (intro w hSw; (try dsimp only at hSw); go_simp; try with_reducible rfl)
                      try simp only [Act.put, List.setIfInBounds_toArray, List.set_cons_zero, List.set_cons_succ, List.getElem_toArray, List.getElem_cons_zero, List.getElem_cons_succ]
                      refine wpAnyH_take (i := 8) (v := ?v8a) rfl (by kernel_rfl) (by kernel_rfl) (by kernel_rfl) (fun _ _ _ h => h) (Or.inl ⟨by rfl, ?hy8a⟩) hHeld ?rest8a
                      case hy8a => (intro w hSw; (try dsimp only at hSw); go_simp; try with_reducible rfl)
                      try simp only [Act.put, List.setIfInBounds_toArray, List.set_cons_zero, List.set_cons_succ, List.getElem_toArray, List.getElem_cons_zero, List.getElem_cons_succ]
                      refine wpAnyH_take (i := 9) (v := ?v9a) rfl (by kernel_rfl) (by kernel_rfl) (by kernel_rfl) (fun _ _ _ h => h) (Or.inl ⟨by rfl, ?hy9a⟩) hHeld ?rest9a
                      case hy9a => (intro w hSw; (try dsimp only at hSw); go_simp; try with_reducible rfl)
                      try simp only [Act.put, List.setIfInBounds_toArray, List.set_cons_zero, List.set_cons_succ, List.getElem_toArray, List.getElem_cons_zero, List.getElem_cons_succ]
                      refine wpAnyH_take (i := 10) (v := ?v10a) rfl (by kernel_rfl) (by kernel_rfl) (by kernel_rfl) (fun _ _ _ h => h) (Or.inl ⟨by rfl, ?hy10a⟩) hHeld ?rest10a
                      case hy10a => (intro w hSw; (try dsimp only at hSw); go_simp; try with_reducible rfl)
                      try simp only [Act.put, List.setIfInBounds_toArray, List.set_cons_zero, List.set_cons_succ, List.getElem_toArray, List.getElem_cons_zero, List.getElem_cons_succ]
                      refine wpAnyH_take (i := 11) (v := .agg EX.toArray) rfl (by kernel_rfl) (by kernel_rfl) (by kernel_rfl) (fun _ _ _ h => h) (yieldsIf_load_mid (by rfl) 35 (.tmp 61) rfl b (off + j * 33) rfl EX _ (fun w h => h.2.2) Tryd.underlying35 rfl (by rw [HLX.out]; exact sizeDg)) hHeld ?rest11a
                      case rest11a =>
                      try simp only [Act.put, List.setIfInBounds_toArray, List.set_cons_zero, List.set_cons_succ, List.getElem_toArray, List.getElem_cons_zero, List.getElem_cons_succ]
                      refine wpAnyH_take (i := 12) (v := ?v12a) rfl (by kernel_rfl) (by kernel_rfl) (by kernel_rfl) (fun _ _ _ h => h) (Or.inl ⟨by rfl, ?hy12a⟩) hHeld ?rest12a
                      case hy12a => (intro w hSw; (try dsimp only at hSw); go_simp; try with_reducible rfl)
                      try simp only [Act.put, List.setIfInBounds_toArray, List.set_cons_zero, List.set_cons_succ, List.getElem_toArray, List.getElem_cons_zero, List.getElem_cons_succ]
                      refine wpAnyH_done (by kernel_rfl) ?_ _
                      refine NoPanic.normal ?_
                      go_wp2_with fail
                      go_ret
                      refine ⟨?_, (by first | exact below_drewM HBB.out | exact HBB.out)⟩
                      rw [HR2.out]
                      rfl
                    · have HN2 : Hid (dx ∉ (l.take (k + 1)).map (·.1)) := by
                        show _ ∉ _
                        rw [HTK.out]
                        intro h
                        rcases List.mem_append.1 h with h | h
                        · exact HNI.out h
                        · simp at h; exact hxy h.symm
                      rw [decide_eq_false hxy] at hq
                      clear hxy HIN HTK HNI
                      go_wp2_with fail
                      refine wp_region_noPanic ?_
                      refine wp_region_held_drew (S := (fun W : World => W.cell? ⟨w.heap.size, 2, none⟩ = some (.slice (some ⟨b, off, none⟩) n c) ∧ W.rangeAt b (off + k * 33) EY ∧ W.rangeAt b (off + j * 33) EX)) (by kernel_rfl) ?hSab (fun hHeld => ?restab)
                      case hSab => exact ⟨d2, RY.out, RX.out⟩
                      case restab =>
                      refine wpAnyH_take (i := 0) (v := ?v0b) rfl (by kernel_rfl) (by kernel_rfl) (by kernel_rfl) (fun _ _ _ h => h) (Or.inl ⟨by rfl, ?hy0b⟩) hHeld ?rest0b
                      case hy0b => (intro w hSw; (try dsimp only at hSw); go_simp; try with_reducible rfl)
                      try simp only [Act.put, List.setIfInBounds_toArray, List.set_cons_zero, List.set_cons_succ, List.getElem_toArray, List.getElem_cons_zero]
                      refine wpAnyH_take (i := 1) (v := ?v1b) rfl (by kernel_rfl) (by kernel_rfl) (by kernel_rfl) (fun _ _ _ h => h) (Or.inl ⟨by rfl, ?hy1b⟩) hHeld ?rest1b
                      case hy1b => (intro w hSw; (try dsimp only at hSw); go_simp; try with_reducible rfl)
                      try simp only [Act.put, List.setIfInBounds_toArray, List.set_cons_zero, List.set_cons_succ, List.getElem_toArray, List.getElem_cons_zero, List.getElem_cons_succ]
                      refine wpAnyH_take (i := 2) (v := ?v2b) rfl (by kernel_rfl) (by kernel_rfl) (by kernel_rfl) (fun _ _ _ h => h) (Or.inl ⟨by rfl, ?hy2b⟩) hHeld ?rest2b
                      case hy2b => (intro w hSw; (try dsimp only at hSw); go_simp; try with_reducible rfl)
                      try simp only [Act.put, List.setIfInBounds_toArray, List.set_cons_zero, List.set_cons_succ, List.getElem_toArray, List.getElem_cons_zero, List.getElem_cons_succ]
                      refine wpAnyH_take (i := 3) (v := ?v3b) rfl (by kernel_rfl) (by kernel_rfl) (by kernel_rfl) (fun _ _ _ h => h) (Or.inl ⟨by rfl, ?hy3b⟩) hHeld ?rest3b
                      case hy3b => (intro w hSw; (try dsimp only at hSw); go_simp; try with_reducible rfl)
                      try simp only [Act.put, List.setIfInBounds_toArray, List.set_cons_zero, List.set_cons_succ, List.getElem_toArray, List.getElem_cons_zero, List.getElem_cons_succ]
                      refine wpAnyH_take (i := 4) (v := ?v4b) rfl (by kernel_rfl) (by kernel_rfl) (by kernel_rfl) (fun _ _ _ h => h) (Or.inl ⟨by rfl, ?hy4b⟩) hHeld ?rest4b
                      case hy4b => (intro w hSw; (try dsimp only at hSw); go_simp; try with_reducible rfl)
                      try simp only [Act.put, List.setIfInBounds_toArray, List.set_cons_zero, List.set_cons_succ, List.getElem_toArray, List.getElem_cons_zero, List.getElem_cons_succ]
                      refine wpAnyH_take (i := 5) (v := .agg EY.toArray) rfl (by kernel_rfl) (by kernel_rfl) (by kernel_rfl) (fun _ _ _ h => h) (yieldsIf_load_mid (by rfl) 35 (.tmp 55) rfl b (off + k * 33) rfl EY _ (fun w h => h.2.1) Tryd.underlying35 rfl (by rw [HLY.out]; exact sizeDg)) hHeld ?rest5b
                      case rest5b =>
                      try simp only [Act.put, List.setIfInBounds_toArray, List.set_cons_zero, List.set_cons_succ, List.getElem_toArray, List.getElem_cons_zero, List.getElem_cons_succ]
                      refine wpAnyH_take (i := 6) (v := ?v6b) rfl (by kernel_rfl) (by kernel_rfl) (by kernel_rfl) (fun _ _ _ h => h) (Or.inl ⟨by rfl, ?hy6b⟩) hHeld ?rest6b
                      case hy6b => (intro w hSw; (try dsimp only at hSw); go_simp; try with_reducible rfl)
                      try simp only [Act.put, List.setIfInBounds_toArray, List.set_cons_zero, List.set_cons_succ, List.getElem_toArray, List.getElem_cons_zero, List.getElem_cons_succ]
                      refine wpAnyH_take (i := 7) (v := ?v7b) rfl (by kernel_rfl) (by kernel_rfl) (by kernel_rfl) (fun _ _ _ h => h) (Or.inl ⟨by rfl, ?hy7b⟩) hHeld ?rest7b
                      case hy7b => (intro w hSw; (try dsimp only at hSw); go_simp; try with_reducible rfl)
                      try simp only [Act.put, List.setIfInBounds_toArray, List.set_cons_zero, List.set_cons_succ, List.getElem_toArray, List.getElem_cons_zero, List.getElem_cons_succ]
                      refine wpAnyH_take (i := 8) (v := ?v8b) rfl (by kernel_rfl) (by kernel_rfl) (by kernel_rfl) (fun _ _ _ h => h) (Or.inl ⟨by rfl, ?hy8b⟩) hHeld ?rest8b
                      case hy8b => (intro w hSw; (try dsimp only at hSw); go_simp; try with_reducible rfl)
                      try simp only [Act.put, List.setIfInBounds_toArray, List.set_cons_zero, List.set_cons_succ, List.getElem_toArray, List.getElem_cons_zero, List.getElem_cons_succ]
                      refine wpAnyH_take (i := 9) (v := ?v9b) rfl (by kernel_rfl) (by kernel_rfl) (by kernel_rfl) (fun _ _ _ h => h) (Or.inl ⟨by rfl, ?hy9b⟩) hHeld ?rest9b
                      case hy9b => (intro w hSw; (try dsimp only at hSw); go_simp; try with_reducible rfl)
                      try simp only [Act.put, List.setIfInBounds_toArray, List.set_cons_zero, List.set_cons_succ, List.getElem_toArray, List.getElem_cons_zero, List.getElem_cons_succ]
                      refine wpAnyH_take (i := 10) (v := ?v10b) rfl (by kernel_rfl) (by kernel_rfl) (by kernel_rfl) (fun _ _ _ h => h) (Or.inl ⟨by rfl, ?hy10b⟩) hHeld ?rest10b
                      case hy10b => (intro w hSw; (try dsimp only at hSw); go_simp; try with_reducible rfl)
                      try simp only [Act.put, List.setIfInBounds_toArray, List.set_cons_zero, List.set_cons_succ, List.getElem_toArray, List.getElem_cons_zero, List.getElem_cons_succ]
                      refine wpAnyH_take (i := 11) (v := .agg EX.toArray) rfl (by kernel_rfl) (by kernel_rfl) (by kernel_rfl) (fun _ _ _ h => h) (yieldsIf_load_mid (by rfl) 35 (.tmp 61) rfl b (off + j * 33) rfl EX _ (fun w h => h.2.2) Tryd.underlying35 rfl (by rw [HLX.out]; exact sizeDg)) hHeld ?rest11b
                      case rest11b =>
                      try simp only [Act.put, List.setIfInBounds_toArray, List.set_cons_zero, List.set_cons_succ, List.getElem_toArray, List.getElem_cons_zero, List.getElem_cons_succ]
                      refine wpAnyH_take (i := 12) (v := ?v12b) rfl (by kernel_rfl) (by kernel_rfl) (by kernel_rfl) (fun _ _ _ h => h) (Or.inl ⟨by rfl, ?hy12b⟩) hHeld ?rest12b
                      case hy12b => (intro w hSw; (try dsimp only at hSw); go_simp; try with_reducible rfl)
                      try simp only [Act.put, List.setIfInBounds_toArray, List.set_cons_zero, List.set_cons_succ, List.getElem_toArray, List.getElem_cons_zero, List.getElem_cons_succ]
                      refine wpAnyH_done (by kernel_rfl) ?_ _
                      refine NoPanic.normal ?_
                      go_wp2_with fail
                      go_roundg (j - (k + 1))
                      case measure => omega
                      case rel => exact ⟨k + 1, by omega, rfl, by go_num, HN2, below_drewM HW.out⟩
                  · have e : k = j := by omega
                    subst e
                    have k1 : ¬ (k : Int) < (k : Int) := by omega
                    have HR2 : Hid (r = mck ((l.take (k + 1)).map (·.1)) (l.drop (k + 1))) := by show _ = _; rw [HS2.out, if_neg HNI.out]
                    go_wp2_with fail
                    go_roundg (n - (k + 1))
                    case measure => omega
                    case rel => exact ⟨k + 1, by omega, rfl, by go_num, HR2, HW⟩
            · have e : j = n := by omega
              subst e
              have j1 : ¬ (j : Int) < (j : Int) := by omega
              have HR2 : Hid (r = 0) := by
                show _ = _
                rw [HRj.out, List.drop_of_length_le (by rw [HN.out]; omega)]
                rfl
              go_wp2_with fail
              go_ret
              refine ⟨?_, B0.out.trans (HW.out.mono B0.out.size)⟩
              rw [HR2.out]
              rfl
end Go.Proofs.YtlddoobomjcldaaDoor
namespace Go.Proofs.YtlddoobomjcldaaDoor
open Go.ChangeShapes Go.WideShapes Go.ChangeAt Go.RowKit Go.Deep Go.Maps
set_option linter.unusedVariables false
set_option maxRecDepth 100000 in
theorem equalB_is (w : World) (n m c d : Nat) (a b : Option Addr) (L M : List Int) (hl : L.length = n) (hm : M.length = m) (hL : IsBytes L) (hM : IsBytes M) (ha : Holds w a L) (hb : Holds w b M) :
    Calls Tryd.prog 43 #[.slice a n c, .slice b m d] w fun e w' => e = .returned (.bool (decide (L = M))) ∧ w' = w := by
  have cs1 := conv_str ha n c hl
  have cs2 := conv_str hb m d hm
  have hs := str_eq L M (bytes_mem hL) (bytes_mem hM)
  generalize decide (L = M) = r at *
  generalize strOfNums L = S at *
  generalize strOfNums M = T at *
  clear ha hb hl hm
  go_enter Tryd.func43, Tryd.ntmps43
  go_wp2_with fail
  go_ret
  exact ⟨rfl, rfl⟩
theorem gt_len (L : List Int) : (gt L).1.length ≤ L.length ∧ (gt L).2.length ≤ L.length := by
  unfold gt gn
  constructor
  · simp only [Lib.bytesOf, List.length_map, List.length_take, List.length_drop]; omega
  · simp only [List.length_drop]; omega
theorem mread_fit {L : List Int} (hB : IsBytes L) (h : L.length ≤ 140737488355328) : FitM (mread L) := by
  refine ⟨?_, ?_, mread_dgs hB⟩
  · have := (gt_len (L.drop 3)).1
    rw [List.length_drop] at this
    show (gt (L.drop 3)).1.length ≤ _
    omega
  · have h1 := (gt_len (L.drop 3)).2
    have h2 := (gt_len (gt (L.drop 3)).2).1
    rw [List.length_drop] at h1
    show (gt (gt (L.drop 3)).2).1.length ≤ _
    omega
theorem gl_length : ∀ (n : Nat) (L : List Int), (gl n L).length = n
  | 0, _ => rfl
  | n + 1, L => by simp [gl, gl_length n]
theorem mread_few {L : List Int} (hB : IsBytes L) : (mread L).2.2.length ≤ 255 := by
  show (gl ((gt (gt (L.drop 3)).2).2.headD 0).toNat _).length ≤ 255
  rw [gl_length]
  have g : ∀ M, IsBytes M → IsBytes (gt M).2 := fun M hM => bytes_drop (bytes_drop hM _) _
  have hb := g _ (g _ (bytes_drop hB 3))
  generalize (gt (gt (L.drop 3)).2).2 = M at *
  cases M with
  | nil => simp
  | cons x r =>
    have := hb 0 (by simp)
    simp at this ⊢
    omega
theorem results_mf {fn : Func} {p q : Tmp} (h : fn.results = #[.cell p 44, .tmp q]) (tmps : Array Value) (w : World) (g : Nat) (N V : ByteArray) (x : Value)
    (hp : tmps.getD p undef = .pointer (some ⟨g, 0, none⟩)) (v : Value) (hq : tmps.getD q undef = v) (hg : MBox w g N V x) :
    (results fn tmps).run Tryd.prog w = .ok (.tuple #[.agg #[.string N, .string V, x], v]) w := by
  have hp' : tmps[p]?.getD undef = .pointer (some ⟨g, 0, none⟩) := by simpa using hp
  have hq' : tmps[q]?.getD undef = v := by simpa using hq
  simp [results, h, hp', hq', asAddr, run_loadVar_row w g 44 44 #[.string N, .string V, x] (0, 0) _ hg Tryd.underlying44 rfl size44]
/-- what Decode tells -/
def MDSaid (w : World) (L : List Int) (e : Ending) (w' : World) : Prop := Below w.heap.size w w' ∧ match mdec L with
  | none => e = .returned (.tuple #[.agg #[.string ⟨#[]⟩, .string ⟨#[]⟩, .slice none 0 0], .int .i64 5])
  | some m => ∃ v, e = .returned (.tuple #[.agg #[.string (tx m.1), .string (tx m.2.1), v], .int .i64 0]) ∧ OwnR w' w.heap.size v m.2.2
theorem menc_bytes {m : Mf} (h : mchk m = 0) (hd : Dgs m.2.2) : IsBytes (menc m) := by
  obtain ⟨⟨n1, n2⟩, h2, h3, h4⟩ := mchk_ok h
  have l1 := nmOk_len n1
  have l2 := nmOk_len n2
  have hv : ∀ k : Nat, k ≤ 16 → IsBytes (vr k) := fun k hk => by rw [vr_vz k (by omega)]; exact vz_bytes _ (by omega) (by omega)
  have hel : ∀ (l : List Rf), (∀ x ∈ l, 0 ≤ x.2 ∧ x.2 ≤ 2147483647) → Dgs l → IsBytes (mel l) := by
    intro l
    induction l with
    | nil => intro _ _; exact bytes_of_mem (by simp [mel])
    | cons x r ih =>
      intro h1 h2
      have hx := h1 x (by simp)
      exact bytes_app (bytes_app (h2 x (by simp)).2 (vz_bytes _ hx.1 hx.2)) (ih (fun y hy => h1 y (by simp [hy])) (fun y hy => h2 y (by simp [hy])))
  unfold menc
  refine bytes_app (bytes_app (bytes_app (bytes_app (bytes_of_mem (by simp)) (bytes_app (hv _ l1.2) (nm_bytes _))) (bytes_app (hv _ l2.2) (nm_bytes _))) (bytes_of_mem (by simp; omega))) (hel _ h4 hd)
set_option maxRecDepth 100000 in
set_option maxHeartbeats 8000000 in
theorem mdecode_is (w : World) (n c : Nat) (a : Option Addr) (L : List Int) (hl : L.length = n) (hB : IsBytes L) (hh : Holds w a L) (hlt : ∀ x, a = some x → L ≠ [] → x.block < w.heap.size) (hnc : n ≤ c) (hc : c ≤ 9223372036854775807) (hn47 : n ≤ 140737488355328) :
    Calls Tryd.prog 19 #[.slice a n c] w (MDSaid w L) := by
  obtain ⟨h, hh0⟩ : ∃ h, h = w.heap.size := ⟨_, rfl⟩
  have HH : Hid (h = w.heap.size) := hh0
  have HNo : Hid (∀ w', mdec L = none → Below h w w' → MDSaid w L (.returned (.tuple #[.agg #[.string ⟨#[]⟩, .string ⟨#[]⟩, .slice none 0 0], .int .i64 5])) w') := fun w' h1 h2 => ⟨by rw [← hh0]; exact h2, by rw [h1]⟩
  have HYes : Hid (∀ w' v, mdec L = some (mread L) → Below h w w' → OwnR w' h v (mread L).2.2 → MDSaid w L (.returned (.tuple #[.agg #[.string (tx (mread L).1), .string (tx (mread L).2.1), v], .int .i64 0])) w') := fun w' v h1 h2 h3 => ⟨by rw [← hh0]; exact h2, by rw [h1]; exact ⟨v, rfl, by rw [← hh0]; exact h3⟩⟩
  have hfit := mread_fit hB (by omega)
  have hfew := mread_few hB
  have HD : Hid (mdec L = if mchk (mread L) = 0 ∧ menc (mread L) = L then some (mread L) else none) := rfl
  obtain ⟨W0, hW0⟩ : ∃ W0, W0 = w.alloc (.cells #[.string ⟨#[]⟩, .string ⟨#[]⟩, .slice none 0 0] 44) := ⟨_, rfl⟩
  have HW0 : Hid (W0 = w.alloc (.cells #[.string ⟨#[]⟩, .string ⟨#[]⟩, .slice none 0 0] 44)) := hW0
  have B0 : Below h w W0 := by rw [hW0, hh0]; exact (Below.refl _ _).alloc (Nat.le_refl _) _
  have hs0 : W0.heap.size = h + 1 := by rw [hW0, hh0]; simp
  have Z0 : Hid (MBox W0 h ⟨#[]⟩ ⟨#[]⟩ (.slice none 0 0)) := by rw [hW0, hh0]; exact MBox.new _ _ _ _
  have KR : Hid (Calls Tryd.prog 42 #[.slice a n c] W0 fun e w' => ∃ v, e = .returned (.agg #[.string (tx (mread L).1), .string (tx (mread L).2.1), v]) ∧ OwnR w' W0.heap.size v (mread L).2.2 ∧ Below W0.heap.size W0 w') := mread_is W0 n c a L hl hB (hh.below B0 (by rw [hh0]; exact hlt)) (fun x hx hne => by have := hlt x hx hne; omega) hnc hc hn47
  have HLh : Hid (∀ w', Below h w w' → Holds w' a L) := fun w' hb => hh.below hb (by rw [hh0]; exact hlt)
  have B0' : Hid (Below h w W0) := B0
  obtain ⟨m, hm⟩ : ∃ m, m = mread L := ⟨_, rfl⟩
  rw [← hm] at HYes hfit hfew HD KR
  clear hW0 B0 hh hlt hh0 hm
  generalize MDSaid w L = T at *
  go_enter Tryd.func19, Tryd.ntmps19
  go_wp2_with fail
  rw [← HW0.out, ← HH.out]
  clear HW0
  refine KR.out.mono ?_
  rintro e w1 ⟨v1, rfl, ho1, hb1⟩
  obtain ⟨a1, c1, rfl, hin1, hlc1, hcc1, _⟩ := ho1.slice hfit.2.2
  have Z1 : MBox w1 h ⟨#[]⟩ ⟨#[]⟩ (.slice none 0 0) := (hb1.block h (by omega)).trans Z0.out
  have B1 : Below h w w1 := B0'.out.trans (hb1.mono (by omega))
  have hs1 := hb1.size
  obtain ⟨M, hM⟩ : ∃ M, M = w1.heap.size := ⟨_, rfl⟩
  obtain ⟨W2, hW2⟩ : ∃ W2, W2 = w1.alloc (.cells #[.string (tx m.1), .string (tx m.2.1), .slice a1 m.2.2.length c1] 44) := ⟨_, rfl⟩
  have A2 : Below w1.heap.size w1 W2 := by rw [hW2]; exact (Below.refl _ _).alloc (Nat.le_refl _) _
  have M2 : Hid (MBox W2 M (tx m.1) (tx m.2.1) (.slice a1 m.2.2.length c1)) := by rw [hW2, hM]; exact MBox.new _ _ _ _
  have Z2 : Hid (MBox W2 h ⟨#[]⟩ ⟨#[]⟩ (.slice none 0 0)) := (A2.block h (by omega)).trans Z1
  have B2 : Hid (Below h w W2) := B1.trans (A2.mono (by omega))
  have I2 : Hid (InR W2 a1 m.2.2) := hin1.keep A2
  have O2 : Hid (OwnR W2 (h + 1) (.slice a1 m.2.2.length c1) m.2.2) := by have := ho1.keep A2; rwa [hs0] at this
  have HW2 : Hid (W2 = w1.alloc (.cells #[.string (tx m.1), .string (tx m.2.1), .slice a1 m.2.2.length c1] 44)) := hW2
  have HM : Hid (M = w1.heap.size) := hM
  have hMh : h < M := by omega
  have hs2 : M < W2.heap.size := M2.out.lt
  have hKB : mchk m ≠ 0 → Calls Tryd.prog 16 #[.agg #[.string (tx m.1), .string (tx m.2.1), .slice a1 m.2.2.length c1]] W2 fun e w' => e = .returned (.tuple #[.slice none 0 0, .int .i64 (mchk m)]) ∧ Below W2.heap.size W2 w' := fun hc => mencode_bad m m.2.2.length rfl (by omega) hfit a1 c1 W2 I2.out hc
  have hKO : mchk m = 0 → Calls Tryd.prog 16 #[.agg #[.string (tx m.1), .string (tx m.2.1), .slice a1 m.2.2.length c1]] W2 fun e w' => ∃ v, e = .returned (.tuple #[v, .int .i64 0]) ∧ Owned w' W2.heap.size v (menc m) ∧ Below W2.heap.size W2 w' := fun hc => mencode_ok m m.2.2.length rfl hfit a1 c1 W2 I2.out hc
  have HEB : Hid (mchk m = 0 → IsBytes (menc m)) := fun hc => menc_bytes hc hfit.2.2
  obtain ⟨⟨x0, x1, x2⟩, _, _, _⟩ := M2.out.cells
  clear ho1 hb1 hin1 Z1 B1 A2 hW2 hM KR Z0 B0' hfit hlc1 hcc1 hs0
  by_cases hck : mchk m = 0
  · have KE : Hid (Calls Tryd.prog 16 #[.agg #[.string (tx m.1), .string (tx m.2.1), .slice a1 m.2.2.length c1]] W2 fun e w' => ∃ v, e = .returned (.tuple #[v, .int .i64 0]) ∧ Owned w' W2.heap.size v (menc m) ∧ Below W2.heap.size W2 w') := hKO hck
    have HEB2 : Hid (IsBytes (menc m)) := HEB.out hck
    clear hKB hKO HEB
    go_wp2_with fail
    rw [← HW2.out, ← HM.out]
    clear HW2 HM
    refine KE.out.mono ?_
    rintro e w3 ⟨v3, rfl, ho3, hb3⟩
    obtain ⟨a3, c3, rfl, _, hh3, _, _⟩ := ho3.slice
    have B3 : Hid (Below h w w3) := B2.out.trans (hb3.mono (by omega))
    have M3 : Hid (MBox w3 M (tx m.1) (tx m.2.1) (.slice a1 m.2.2.length c1)) := (hb3.block M (by omega)).trans M2.out
    have Z3 : Hid (MBox w3 h ⟨#[]⟩ ⟨#[]⟩ (.slice none 0 0)) := (hb3.block h (by omega)).trans Z2.out
    have O3 : Hid (OwnR w3 (h + 1) (.slice a1 m.2.2.length c1) m.2.2) := O2.out.keep hb3
    have KQ : Hid (Calls Tryd.prog 43 #[.slice a3 (menc m).length c3, .slice a n c] w3 fun e w' => e = .returned (.bool (decide (menc m = L))) ∧ w' = w3) := equalB_is w3 _ _ _ _ a3 a (menc m) L rfl hl HEB2.out hB hh3 (HLh.out _ B3.out)
    obtain ⟨⟨y0, y1, y2⟩, _, _, _⟩ := M3.out.cells
    obtain ⟨⟨z0, z1, z2⟩, g0, g1, g2⟩ := Z3.out.cells
    generalize (menc m).length = ne at *
    clear ho3 hb3 hh3 KE O2 M2 Z2 I2 B2 x0 x1 x2 HEB2
    by_cases he : menc m = L
    · have hyes : mdec L = some m := by rw [HD.out, if_pos ⟨hck, he⟩]
      rw [decide_eq_true he] at KQ
      clear HNo he HD
      go_wp2_with fail
      refine KQ.out.mono ?_
      rintro e w4 ⟨rfl, hw⟩
      obtain rfl := hw.symm
      clear hw KQ
      go_wp2_with fail
      have Q3 := ((Z3.out.set0 (tx m.1)).set1 (tx m.2.1)).set2 (.slice a1 m.2.2.length c1)
      refine bodyPost_ret (results_mf Tryd.results19 _ _ h _ _ _ rfl _ rfl Q3) rfl ?_
      refine HYes.out _ _ hyes ?_ ?_
      · exact ((B3.out.setCell (p := ⟨h, 0, none⟩) (Nat.le_refl _) _).setCell (p := ⟨h, 1, none⟩) (Nat.le_refl _) _).setCell (p := ⟨h, 2, none⟩) (Nat.le_refl _) _
      · refine OwnR.lower (O3.out.block fun k hk => ?_) (Nat.le_succ h)
        have hk2 : k ≠ h := by have := (O3.out.own k hk).1; omega
        exact ((Below.heap_setCell _ ⟨h, 2, none⟩ _ _ hk2).trans (Below.heap_setCell _ ⟨h, 1, none⟩ _ _ hk2)).trans (Below.heap_setCell _ ⟨h, 0, none⟩ _ _ hk2)
    · have hno : mdec L = none := by rw [HD.out, if_neg (by simp [he])]
      rw [decide_eq_false he] at KQ
      clear HYes he HD
      go_wp2_with fail
      refine KQ.out.mono ?_
      rintro e w4 ⟨rfl, hw⟩
      obtain rfl := hw.symm
      clear hw KQ
      go_wp2_with fail
      have Q3 := ((Z3.out.set0 ⟨#[]⟩).set1 ⟨#[]⟩).set2 (.slice none 0 0)
      refine bodyPost_ret (results_mf Tryd.results19 _ _ h _ _ _ rfl _ rfl Q3) rfl ?_
      refine HNo.out _ hno ?_
      exact ((B3.out.setCell (p := ⟨h, 0, none⟩) (Nat.le_refl _) _).setCell (p := ⟨h, 1, none⟩) (Nat.le_refl _) _).setCell (p := ⟨h, 2, none⟩) (Nat.le_refl _) _
  · have KE : Hid (Calls Tryd.prog 16 #[.agg #[.string (tx m.1), .string (tx m.2.1), .slice a1 m.2.2.length c1]] W2 fun e w' => e = .returned (.tuple #[.slice none 0 0, .int .i64 (mchk m)]) ∧ Below W2.heap.size W2 w') := hKB hck
    have hno : mdec L = none := by rw [HD.out, if_neg (by simp [hck])]
    clear hKB hKO HEB HYes HD
    generalize mchk m = r at *
    go_wp2_with fail
    rw [← HW2.out, ← HM.out]
    clear HW2 HM
    refine KE.out.mono ?_
    rintro e w3 ⟨rfl, hb3⟩
    have B3 : Hid (Below h w w3) := B2.out.trans (hb3.mono (by omega))
    have Z3 : Hid (MBox w3 h ⟨#[]⟩ ⟨#[]⟩ (.slice none 0 0)) := (hb3.block h (by omega)).trans Z2.out
    obtain ⟨⟨z0, z1, z2⟩, g0, g1, g2⟩ := Z3.out.cells
    clear hb3 KE O2 M2 Z2 I2 B2 x0 x1 x2
    go_wp2_with fail
    have Q3 := ((Z3.out.set0 ⟨#[]⟩).set1 ⟨#[]⟩).set2 (.slice none 0 0)
    refine bodyPost_ret (results_mf Tryd.results19 _ _ h _ _ _ rfl _ rfl Q3) rfl ?_
    refine HNo.out _ hno ?_
    exact ((B3.out.setCell (p := ⟨h, 0, none⟩) (Nat.le_refl _) _).setCell (p := ⟨h, 1, none⟩) (Nat.le_refl _) _).setCell (p := ⟨h, 2, none⟩) (Nat.le_refl _) _
end Go.Proofs.YtlddoobomjcldaaDoor
namespace Go.Proofs.YtlddoobomjcldaaDoor
open Go.ChangeShapes Go.WideShapes Go.ChangeAt Go.RowKit Go.Deep
set_option linter.unusedVariables false
theorem rreadVar_none (a : Option Addr) (cap : Nat) (w : World) :
    Calls Tryd.prog 44 #[.slice a 0 cap] w fun e w' => e = rvEnd (0, 0, 4) ∧ w' = w := by
  go_enter Tryd.func44, Tryd.ntmps44
  go_wp2
  go_loop [5, 6, 7] (fun v u i => v = .int .u64 0 ∧ u = .int .u64 1 ∧ i = .int .i64 0) (fun _ _ _ => 0)
  case atStart => exact ⟨rfl, rfl, rfl⟩
  case round =>
    obtain ⟨rfl, rfl, rfl⟩ := hrel
    go_wp2
    go_ret3
    exact ⟨rfl, rfl⟩
theorem wt_next (k : Nat) (h : k ≤ 9) : IntKind.u64.wrap (128 ^ k * 128) = if k = 9 then 0 else 128 ^ (k + 1) := by
  rcases (by omega : k = 0 ∨ k = 1 ∨ k = 2 ∨ k = 3 ∨ k = 4 ∨ k = 5 ∨ k = 6 ∨ k = 7 ∨ k = 8 ∨ k = 9) with rfl | rfl | rfl | rfl | rfl | rfl | rfl | rfl | rfl | rfl <;> decide
theorem rreadVar_any (L : List Int) (b off n cap : Nat) (hn : L.length = n) (hm : n ≤ 140737488355328) (hb : ∀ i, i < n → 0 ≤ L.getD i 0 ∧ L.getD i 0 ≤ 255) (w : World)
    (hcell : ∀ i, i < n → w.cell? ⟨b, off + i, none⟩ = some (.int .u8 (L.getD i 0))) :
    Calls Tryd.prog 44 #[.slice (some ⟨b, off, none⟩) n cap] w fun e w' => e = rvEnd (rv L 0 0) ∧ w' = w := by
  go_enter Tryd.func44, Tryd.ntmps44
  go_wp2
  go_loop [5, 6, 7] (fun v u i => ∃ (k : Nat) (x : Int), k ≤ 9 ∧ i = .int .i64 k ∧ u = .int .u64 (128 ^ k) ∧ v = .int .u64 x ∧ 0 ≤ x ∧ x < 128 ^ k ∧ rv L 0 0 = rv (L.drop k) k x) (fun _ _ i => 10 - (intOf i).toNat)
  case atStart => exact ⟨0, 0, by omega, rfl, rfl, rfl, by omega, by simp, by simp⟩
  case round =>
    obtain ⟨k, x, hk, rfl, rfl, rfl, hx0, hx1, hr⟩ := hrel
    by_cases hlt : k < n
    · have hc := hcell k hlt
      have hbk := hb k hlt
      have hd : L.drop k = L.getD k 0 :: L.drop (k + 1) := by
        rw [List.drop_eq_getElem_cons (by omega)]; simp [hn, hlt]
      rw [hd] at hr
      have HR : Hid (rv L 0 0 = rv (L.getD k 0 :: L.drop (k + 1)) k x) := hr
      clear hd hcell hb hr
      generalize L.getD k 0 = c at hc hbk HR
      obtain ⟨hb0, hb1⟩ := hbk
      by_cases h9 : k = 9
      · subst h9
        have px : x < 9223372036854775808 := hx1
        have e9 : (128 : Int) ^ 9 = 9223372036854775808 := by decide
        clear hx1
        rw [e9]
        by_cases c1 : 1 < c
        · go_wp2
          go_ret3
          exact ⟨by rw [HR.out, rv, if_pos ⟨rfl, c1⟩]; rfl, rfl⟩
        · have c01 : c = 0 ∨ c = 1 := by omega
          rcases c01 with rfl | rfl
          · go_wp2
            go_ret3
            exact ⟨by rw [HR.out, rv, if_neg (by omega), if_neg (by omega), if_pos (by omega)]; rfl, rfl⟩
          · go_wp2
            go_ret3
            refine ⟨?_, rfl⟩
            rw [HR.out, rv, if_neg (by omega), if_neg (by omega), if_neg (by omega)]
            exact end3 rfl rfl rfl
      · obtain ⟨n0, n1⟩ := rv_next k (by omega) x c hx0 hx1 hb0
        have p := pow_le9 (k + 1) (by omega)
        have p0 : (0 : Int) < 128 ^ k := Int.pow_pos (by decide)
        have pk : (128 : Int) ^ k ≤ 72057594037927936 := pow_lt9 k (by omega)
        have m0 : 0 ≤ c % 128 * 128 ^ k := Int.mul_nonneg (by omega) (by omega)
        have m1 : x + c % 128 * 128 ^ k ≤ 9223372036854775807 := by omega
        have PS : Hid ((128 : Int) ^ (k + 1) = 128 ^ k * 128) := Int.pow_succ 128 k
        have N1 : Hid (x + c % 128 * 128 ^ k < 128 ^ (k + 1)) := n1
        have HX1 : Hid (x < 128 ^ k) := hx1
        clear n1 p hx1
        by_cases c128 : 128 ≤ c
        · generalize hq : (128 : Int) ^ k = q at *
          have HQ : Hid ((128 : Int) ^ k = q) := hq
          clear hq
          generalize hy : c % 128 * q = y at *
          have HY : Hid (c % 128 * q = y) := hy
          go_wp2
          go_round
          case rel => exact ⟨k + 1, x + y, by omega, by go_num, by rw [PS.out], rfl, n0, N1.out, by rw [HR.out, rv, if_neg (by omega), if_pos c128, HQ.out, HY.out]⟩
          case measure => simp [intOf]; omega
        · by_cases c0 : c = 0
          · subst c0
            by_cases k0 : 0 < k
            · generalize (128 : Int) ^ k = q at *
              go_wp2
              go_ret3
              exact ⟨by rw [HR.out, rv, if_neg (by omega), if_neg (by omega), if_pos (by omega)]; rfl, rfl⟩
            · have : k = 0 := by omega
              subst this
              rw [Nat.add_zero] at hc
              have hx : x = 0 := by have h := HX1.out; simp at h; omega
              subst hx
              clear PS N1 HX1 m0 m1 p0 pk n0 h9 c128 k0 hb0 hb1 hk
              go_wp2
              go_ret3
              refine ⟨?_, rfl⟩
              rw [HR.out, rv, if_neg (by omega), if_neg (by omega), if_neg (by omega)]
              exact end3 rfl rfl rfl
          · have HRS : Hid (rv L 0 0 = (x + c % 128 * 128 ^ k, (k : Int) + 1, 0)) := by
              show rv L 0 0 = _
              rw [HR.out, rv, if_neg (by omega), if_neg (by omega), if_neg (by omega)]
            clear HR
            generalize (128 : Int) ^ k = q at *
            generalize hy : c % 128 * q = y at *
            go_wp2
            go_ret3
            refine ⟨?_, rfl⟩
            rw [HRS.out]
            exact end3 rfl rfl rfl
    · have HR : Hid (rv L 0 0 = rv (L.drop k) k x) := hr
      clear hr hx1
      go_wp2
      go_ret3
      have h : L.drop k = [] := List.drop_eq_nil_of_le (by omega)
      exact ⟨by rw [HR.out, h]; rfl, rfl⟩
theorem rreadVar_all (L : List Int) (n : Nat) (a : Option Addr) (cap : Nat) (hn : L.length = n) (hm : n ≤ 140737488355328) (hb : IsBytes L) (w : World) (hh : Holds w a L) :
    Calls Tryd.prog 44 #[.slice a n cap] w fun e w' => e = rvEnd (rv L 0 0) ∧ w' = w := by
  rcases hh with rfl | ⟨b, off, rfl, hc⟩
  · simp at hn
    subst hn
    exact rreadVar_none a cap w
  · subst hn
    exact rreadVar_any L b off _ cap rfl hm hb w hc
theorem varL_take (n : Nat) (v : Int) (h0 : 0 ≤ v) (c : Nat) (h : c < n) : (varL n v).take (c + 1) = (varL n v).take c ++ [v / 128 ^ c % 128 + 128] := by
  have hl : c < (varL n v).length := by rw [varL_length]; omega
  rw [take_snoc _ c hl, varL_getD n v h0 c (by omega), if_pos h]
theorem varL_end (n : Nat) (v : Int) (h0 : 0 ≤ v) : varL n v = (varL n v).take n ++ [v / 128 ^ n] := by
  have hl : n < (varL n v).length := by rw [varL_length]; omega
  have e := take_snoc (varL n v) n hl
  rw [varL_getD n v h0 n (Nat.le_refl _), if_neg (by omega), List.take_of_length_le (by rw [varL_length]; omega)] at e
  exact e
theorem sev_more (v : Int) (n c : Nat) (h0 : 0 ≤ v) (hS : Sev v n) (h : c < n) : 127 < v / 128 ^ c := by
  obtain ⟨_, _, h2⟩ := hS
  rcases h2 with rfl | h2
  · omega
  · have hp : (0 : Int) < 128 ^ c := Int.pow_pos (by decide)
    have e : (128 : Int) ^ n = 128 ^ (n - c - 1) * 128 * 128 ^ c := by
      rw [← Int.pow_succ, ← Int.pow_add]; congr 1; omega
    have q : (1 : Int) ≤ 128 ^ (n - c - 1) := by have : (0 : Int) < 128 ^ (n - c - 1) := Int.pow_pos (by decide); omega
    have g : 128 * 128 ^ c ≤ v := by
      have : (1 : Int) * 128 * 128 ^ c ≤ 128 ^ (n - c - 1) * 128 * 128 ^ c := Int.mul_le_mul_of_nonneg_right (by omega) (by omega)
      omega
    have := Int.ediv_le_ediv hp g
    rw [Int.mul_ediv_cancel _ (by omega)] at this
    omega
/-- what the document's Var leaves -/
def RVarEnd (w : World) (v : Int) (e : Ending) (w' : World) : Prop :=
  ∃ (n : Nat) (a : Option Addr) (c : Nat), Sev v n ∧ e = .returned (.slice a (n + 1) c) ∧ Holds w' a (varL n v) ∧ Below w.heap.size w w' ∧ (∀ x, a = some x → x.block < w'.heap.size)
theorem rvar_any (v : Int) (h0 : 0 ≤ v) (h1 : v ≤ 18446744073709551615) (w : World) : Calls Tryd.prog 31 #[.int .u64 v] w (RVarEnd w v) := by
  obtain ⟨n, hS, _⟩ := sev_len v h0 h1
  have h9 := hS.1
  go_enter Tryd.func31, Tryd.ntmps31
  go_wp2
  go_loopg [0, 3] (n + 1) (fun g x o wr => ∃ (c : Nat) (a : Option Addr) (k : Nat), c ≤ n ∧ g = n + 1 - c ∧ x = .int .u64 (v / 128 ^ c) ∧ o = .slice a c k ∧ Owned wr w.heap.size (.slice a c k) ((varL n v).take c) ∧ Below w.heap.size w wr)
  case atStart => exact ⟨0, none, 0, Nat.zero_le _, rfl, by simp, rfl, World.ownsRow_nil w w.heap.size 5 1, Below.refl _ _⟩
  case round =>
    obtain ⟨c, a, k, hc, rfl, rfl, rfl, hown, hbel⟩ := hrel
    have q0 : 0 ≤ v / 128 ^ c := Int.ediv_nonneg h0 (Int.le_of_lt (Int.pow_pos (by decide)))
    have q1 : v / 128 ^ c ≤ 18446744073709551615 := Int.le_trans (Int.ediv_le_self _ h0) h1
    have hsz := hbel.size
    have OWN : Hid (Owned wr w.heap.size (.slice a c k) ((varL n v).take c)) := hown
    have BEL : Hid (Below w.heap.size w wr) := hbel
    have hlen : ((varL n v).take c).length = c := by rw [List.length_take, varL_length]; omega
    have HLN : Hid (((varL n v).take c).length = c) := hlen
    clear hown hbel hlen
    by_cases hlt : c < n
    · have hm := sev_more v n c h0 hS hlt
      have HT : Hid ((varL n v).take (c + 1) = (varL n v).take c ++ [v / 128 ^ c % 128 + 128]) := varL_take n v h0 c hlt
      have HQ : Hid (v / 128 ^ (c + 1) = v / 128 ^ c / 128) := by
        show _ = _
        rw [Int.pow_succ, Int.ediv_ediv_of_nonneg (Int.le_of_lt (Int.pow_pos (by decide)))]
      generalize v / 128 ^ c = y at *
      go_wp2_with (at_builtin; refine append_bytes rfl (.tmp 6) (.tmp 11) rfl w.heap.size _ ((varL n v).take c) rfl (OWN.out.alloc _) _ _ _ [y % 128 + 128] rfl rfl (holds_one wr (y % 128 + 128)) (fun h => by simp at h) (c + 1) (by rw [HLN.out]) (by omega) (by simp; omega) ?_; intro a' k' w' hown' hbel')
      have hc2 := hown'.cap
      have hs2 := hbel'.size
      have OWN' : Hid (Owned w' w.heap.size (.slice a' (c + 1) k') ((varL n v).take c ++ [y % 128 + 128])) := hown'
      have BEL' : Hid (Below w.heap.size w w') := (BEL.out.alloc hsz _).trans hbel'
      clear hown' hbel' hc2 hs2
      go_wp2
      go_roundg (n + 1 - (c + 1))
      case measure => omega
      case rel => exact ⟨c + 1, a', k', by omega, rfl, by rw [HQ.out], rfl, by rw [HT.out]; exact OWN'.out, BEL'.out⟩
    · have e : c = n := by omega
      subst e
      obtain ⟨l0, l1⟩ := pow128_lt v c h0 hS.2.1
      have HE : Hid (varL c v = (varL c v).take c ++ [v / 128 ^ c]) := varL_end c v h0
      generalize v / 128 ^ c = y at *
      go_wp2_with (at_builtin; refine append_bytes rfl (.tmp 15) (.tmp 18) rfl w.heap.size _ ((varL c v).take c) rfl (OWN.out.alloc _) _ _ _ [y] rfl rfl (holds_one wr y) (fun h => by simp at h) (c + 1) (by rw [HLN.out]) (by omega) (by simp; omega) ?_; intro a' k' w' hown' hbel')
      have OWN' : Hid (Owned w' w.heap.size (.slice a' (c + 1) k') ((varL c v).take c ++ [y])) := hown'
      have BEL' : Hid (Below w.heap.size w w') := (BEL.out.alloc hsz _).trans hbel'
      clear hown' hbel'
      go_wp2
      go_ret
      refine ⟨c, a', k', hS, rfl, ?_, BEL'.out, OWN'.out.lt_size⟩
      rw [HE.out]
      exact OWN'.out.holds.1
end Go.Proofs.YtlddoobomjcldaaDoor
