/- The document's Size of a manifest at a Plan seat. -/
import Derived.Test.YthghoekkdpchnaaDoorMgPqxPmJ
namespace Go.Proofs.YthghoekkdpchnaaDoor
open Go.ChangeShapes Go.WideShapes Go.ChangeAt Go.RowKit Go.Deep Go.Maps
set_option linter.unusedVariables false
set_option maxRecDepth 100000 in
set_option maxHeartbeats 4000000 in
theorem rmsize_is (m : Mf) (n : Nat) (hn : m.2.2.length = n) (hn62 : n ≤ 4611686018427387904) (hf : FitM m) (a : Option Addr) (c : Nat) (w : World) (hl : InR w a m.2.2) :
    Calls Tryd.prog 53 #[mv m a n c] w fun e w' => e = .returned (.int .i64 (msz m)) ∧ Below w.heap.size w w' := by
  have K : Hid (∀ w', Below w.heap.size w w' → Calls Tryd.prog 70 #[.agg #[.string (tx m.1), .string (tx m.2.1), .slice a n c]] w' fun e w'' => e = .returned (.int .i64 (mchk m)) ∧ Below w'.heap.size w' w'') := fun w' hb => rmcheck_is m n hn hn62 hf.2.2 hf.1 hf.2.1 a c w' (hl.keep hb)
  have HM : Hid (msz m = if mchk m = 0 then ssz m.2.2 else 0) := rfl
  have HOK : Hid (mchk m = 0 → n ≤ 8 ∧ ∀ x ∈ m.2.2, 0 ≤ x.2 ∧ x.2 ≤ 2147483647) := fun hc => by
    have hok := mchk_ok hc
    exact ⟨by rw [← hn]; exact hok.2.2.1, hok.2.2.2⟩
  have HF : Hid (FitM m) := hf
  obtain ⟨T, hT⟩ : ∃ T, T = msz m := ⟨_, rfl⟩
  rw [← hT] at HM ⊢
  unfold mv
  obtain ⟨N, V, l⟩ := m
  simp only at *
  have HN : Hid (l.length = n) := hn
  have HD : Hid (Dgs l) := hf.2.2
  generalize mchk (N, V, l) = r at *
  generalize tx N = SN at *
  generalize tx V = SV at *
  obtain ⟨W0, hW0⟩ : ∃ W0, W0 = w.alloc (.cells #[.string SN, .string SV, .slice a n c] 62) := ⟨_, rfl⟩
  have B0 : Hid (Below w.heap.size w W0) := by rw [hW0]; exact (Below.refl _ _).alloc (Nat.le_refl _) _
  have I0 : Hid (InR W0 a l) := hl.keep B0.out
  have g0 : W0.heap[w.heap.size]? = some (.cells #[.string SN, .string SV, .slice a n c] 62) := by rw [hW0]; exact heap_alloc_new w _
  have hlt0 : w.heap.size < W0.heap.size := (Array.getElem?_eq_some_iff.1 g0).1
  have C0 : Hid (W0.cell? ⟨w.heap.size, 0, none⟩ = some (.string SN)) := by show _ = _; rw [cell_of_row W0 _ 0 _ _ _ g0]; rfl
  have C1 : Hid (W0.cell? ⟨w.heap.size, 1, none⟩ = some (.string SV)) := by show _ = _; rw [cell_of_row W0 _ 1 _ _ _ g0]; rfl
  have C2 : Hid (W0.cell? ⟨w.heap.size, 2, none⟩ = some (.slice a n c)) := by show _ = _; rw [cell_of_row W0 _ 2 _ _ _ g0]; rfl
  have HW0 : Hid (w.alloc (.cells #[.string SN, .string SV, .slice a n c] 62) = W0) := hW0.symm
  clear hl hn hf hT hW0 g0
  by_cases hc : r = 0
  · subst hc
    obtain ⟨h8, hz⟩ := HOK.out rfl
    have HZ : Hid (∀ x ∈ l, 0 ≤ x.2 ∧ x.2 ≤ 2147483647) := hz
    have HTT : Hid (T = ssz l) := by show _ = _; rw [HM.out, if_pos rfl]
    clear hz HOK HM
    go_enter Tryd.func53, Tryd.ntmps53
    go_wp2_with fail
    rw [HW0.out]
    go_loopg [3, 4] n (fun g v i wr => ∃ (j : Nat), j ≤ n ∧ g = n - j ∧ i = .int .i64 j ∧ v = .int .i64 (ssz (l.take j)) ∧ Hid (Below W0.heap.size W0 wr))
    case atStart => exact ⟨0, Nat.zero_le _, rfl, rfl, rfl, Below.refl _ _⟩
    case round =>
      obtain ⟨j, hj, rfl, rfl, rfl, HW⟩ := hrel
      have d0 : wr.cell? ⟨w.heap.size, 0, none⟩ = some (.string SN) := (HW.out.cell (p := ⟨w.heap.size, 0, none⟩) hlt0).trans C0.out
      have d1 : wr.cell? ⟨w.heap.size, 1, none⟩ = some (.string SV) := (HW.out.cell (p := ⟨w.heap.size, 1, none⟩) hlt0).trans C1.out
      have d2 : wr.cell? ⟨w.heap.size, 2, none⟩ = some (.slice a n c) := (HW.out.cell (p := ⟨w.heap.size, 2, none⟩) hlt0).trans C2.out
      have HBB : Hid (Below w.heap.size w wr) := B0.out.trans (HW.out.mono B0.out.size)
      by_cases hlt : j < n
      · have j1 : (j : Int) < (n : Int) := by omega
        obtain ⟨x, hx⟩ : ∃ x, l[j]? = some x := ⟨l[j]'(by rw [HN.out]; exact hlt), by simp [HN.out, hlt]⟩
        obtain ⟨b, off, rfl, hbw, hrg⟩ := I0.out.at hx
        have hdg := HD.out x (List.mem_of_getElem? hx)
        have hzx := HZ.out x (List.mem_of_getElem? hx)
        have hbd := ssz_bd HZ.out j (by rw [HN.out]; omega)
        have HST : Hid (ssz (l.take (j + 1)) = ssz (l.take j) + x.2) := ssz_take hx
        have HRG : Hid (W0.rangeAt b (off + j * 33) (rcl x)) := hrg
        have HX32 : Hid (x.1.length = 32) := hdg.1
        have hS : 0 ≤ ssz (l.take j) ∧ ssz (l.take j) ≤ 17179869176 := by omega
        clear hx hrg hdg hbd
        generalize ssz (l.take j) = S at *
        go_wp2_with fail
        refine (K.out _ HBB.out).mono ?_
        rintro e w1 ⟨rfl, hb1⟩
        have HW1 : Hid (Below W0.heap.size W0 w1) := HW.out.trans (hb1.mono HW.out.size)
        have f2 : w1.cell? ⟨w.heap.size, 2, none⟩ = some (.slice (some ⟨b, off, none⟩) n c) := (HW1.out.cell (p := ⟨w.heap.size, 2, none⟩) hlt0).trans C2.out
        have fz : w1.cell? ⟨b, off + j * 33 + 32, none⟩ = some (.int .i64 x.2) := rcl_size HX32.out (rangeAt_below HRG.out HW1.out hbw)
        clear hb1 d0 d1 d2
        obtain ⟨dg, z⟩ := x
        simp only at *
        go_wp2_with fail
        go_roundg (n - (j + 1))
        case measure => omega
        case rel => exact ⟨j + 1, by omega, rfl, by go_num, by rw [HST.out]; try go_num, HW1⟩
      · have e : j = n := by omega
        subst e
        have j1 : ¬ (j : Int) < (j : Int) := by omega
        have HT2 : Hid (T = ssz (l.take j)) := by show _ = _; rw [HTT.out, List.take_of_length_le (by rw [HN.out]; omega)]
        go_wp2_with fail
        go_ret
        refine ⟨?_, HBB.out⟩
        rw [HT2.out]
        rfl
  · have HTT : Hid (T = 0) := by show _ = _; rw [HM.out, if_neg hc]
    have hcb : (r == 0) = false := by rw [beq_eq_false_iff_ne]; exact hc
    clear HOK HM
    have c0 := C0.out
    have c1 := C1.out
    have c2 := C2.out
    go_enter Tryd.func53, Tryd.ntmps53
    go_wp2_with fail
    rw [HW0.out]
    go_loopg [3, 4] 0 (fun g v i wr => g = 0 ∧ v = .int .i64 0 ∧ i = .int .i64 0 ∧ wr = W0)
    case atStart => exact ⟨rfl, rfl, rfl, rfl⟩
    case round =>
      obtain ⟨rfl, rfl, rfl, rfl⟩ := hrel
      by_cases h0 : n = 0
      · have j1 : ¬ (0 : Int) < (n : Int) := by omega
        have j2 : decide ((0 : Int) < (n : Int)) = false := by simp; omega
        go_wp2_with fail
        go_ret
        refine ⟨?_, B0.out⟩
        rw [HTT.out]
        rfl
      · have j1 : (0 : Int) < (n : Int) := by omega
        go_wp2_with fail
        refine (K.out _ B0.out).mono ?_
        rintro e w1 ⟨rfl, hb1⟩
        have HB1 : Hid (Below w.heap.size w w1) := B0.out.trans (hb1.mono B0.out.size)
        clear hb1
        go_wp2_with fail
        go_ret
        refine ⟨?_, HB1.out⟩
        rw [HTT.out]
        rfl
end Go.Proofs.YthghoekkdpchnaaDoor
