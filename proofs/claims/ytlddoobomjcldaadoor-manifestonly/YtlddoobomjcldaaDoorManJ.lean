/- manifest.Size, Encode. -/
import Derived.Test.YtlddoobomjcldaaDoorManI
namespace Go.Proofs.YtlddoobomjcldaaDoor
open Go.ChangeShapes Go.WideShapes Go.ChangeAt Go.RowKit Go.Deep Go.Maps
set_option linter.unusedVariables false
/-- a manifest that came in: its texts are short enough for any machine, its digests have 32 bytes -/
def FitM (m : Mf) : Prop := m.1.length ≤ 140737488355328 ∧ m.2.1.length ≤ 140737488355328 ∧ Dgs m.2.2
set_option maxRecDepth 100000 in
set_option maxHeartbeats 4000000 in
theorem msize_is (m : Mf) (n : Nat) (hn : m.2.2.length = n) (hn62 : n ≤ 4611686018427387904) (hf : FitM m) (a : Option Addr) (c : Nat) (w : World) (hl : InR w a m.2.2) :
    Calls Tryd.prog 25 #[mv m a n c] w fun e w' => e = .returned (.int .i64 (msz m)) ∧ Below w.heap.size w w' := by
  have B0 : Below w.heap.size w (w.alloc (.cells #[.string (tx m.1), .string (tx m.2.1), .slice a n c] 44)) := (Below.refl _ _).alloc (Nat.le_refl _) _
  have K : Hid (Calls Tryd.prog 24 #[.agg #[.string (tx m.1), .string (tx m.2.1), .slice a n c]] (w.alloc (.cells #[.string (tx m.1), .string (tx m.2.1), .slice a n c] 44)) fun e w' => e = .returned (.int .i64 (mchk m)) ∧ Below (w.alloc (.cells #[.string (tx m.1), .string (tx m.2.1), .slice a n c] 44)).heap.size (w.alloc (.cells #[.string (tx m.1), .string (tx m.2.1), .slice a n c] 44)) w') := mcheck_is m n hn hn62 hf.2.2 hf.1 hf.2.1 a c _ (hl.keep B0)
  unfold mv
  by_cases hc : mchk m = 0
  · have HS : Hid (msz m = ssz m.2.2) := if_pos hc
    have hok := mchk_ok hc
    rw [hc] at K
    obtain ⟨N, V, l⟩ := m
    simp only at *
    rw [HS.out]
    have HL : Hid (InR w a l) := hl
    have HN : Hid (l.length = n) := hn
    have HD : Hid (Dgs l) := hf.2.2
    have h8 : n ≤ 8 := by rw [← hn]; exact hok.2.2.1
    have HZ : Hid (∀ x ∈ l, 0 ≤ x.2 ∧ x.2 ≤ 2147483647) := hok.2.2.2
    obtain ⟨T, hT⟩ : ∃ T, T = ssz l := ⟨_, rfl⟩
    rw [← hT]
    have HTT : Hid (T = ssz l) := hT
    generalize tx N = SN at *
    generalize tx V = SV at *
    clear hl hn hf hok hc hT HS
    have hz33 := (zero_of_info zero33_info).1
    go_enter Tryd.func25, Tryd.ntmps25
    go_wp2_with fail
    refine K.out.mono ?_
    rintro e w1 ⟨rfl, hb1⟩
    obtain ⟨g1, hb2⟩ := one_blockM hb1
    have B1 : Hid (Below w.heap.size w w1) := hb2
    have d2 : w1.cell? ⟨w.heap.size, 2, none⟩ = some (.slice a n c) := by rw [cell_of_row w1 _ 2 _ _ _ g1]; rfl
    clear hb1 hb2 g1 K B0
    go_wp2_with fail
    clear d2
    go_loopg [3, 12] n (fun g v i wr => ∃ (j : Nat), j ≤ n ∧ g = n - j ∧ i = .int .i64 j ∧ v = .int .i64 (ssz (l.take j)) ∧ Hid (Below w.heap.size w wr))
    case atStart => exact ⟨0, Nat.zero_le _, rfl, rfl, rfl, B1⟩
    case round =>
      obtain ⟨j, hj, rfl, rfl, rfl, HW⟩ := hrel
      by_cases hlt : j < n
      · have j1 : (j : Int) < (n : Int) := by omega
        obtain ⟨x, hx⟩ : ∃ x, l[j]? = some x := ⟨l[j]'(by rw [HN.out]; exact hlt), by simp [HN.out, hlt]⟩
        obtain ⟨b, off, rfl, hbw, hrg⟩ := HL.out.at hx
        have hdg := HD.out x (List.mem_of_getElem? hx)
        have hzx := HZ.out x (List.mem_of_getElem? hx)
        have hbd := ssz_bd HZ.out j (by rw [HN.out]; omega)
        have HST : Hid (ssz (l.take (j + 1)) = ssz (l.take j) + x.2) := ssz_take hx
        have HRG : Hid (wr.rangeAt b (off + j * 33) (rcl x)) := rangeAt_below hrg HW.out hbw
        have hsz := HW.out.size
        have HA : Hid ((wr.alloc (.cells z33 80)).heap[wr.heap.size]? = some (.cells z33 80)) := heap_alloc_new wr _
        obtain ⟨W3, hW3⟩ : ∃ W3, W3 = (wr.alloc (.cells z33 80)).setRow wr.heap.size (rcl x).toArray := ⟨_, rfl⟩
        have HR3 : W3.heap[wr.heap.size]? = some (.cells (rcl x).toArray 80) := by rw [hW3]; exact setRow_heap _ _ _ _ _ _ HA.out
        have B4 : Below wr.heap.size wr W3 := by rw [hW3]; exact below_setRow ((Below.refl _ _).alloc (Nat.le_refl _) _) (Nat.le_refl _) _
        have hcs : W3.cell? ⟨wr.heap.size, 32, none⟩ = some (.int .i64 x.2) := by have := rcl_size hdg.1 (row_range HR3); rwa [Nat.zero_add] at this
        have HB4 : Hid (Below w.heap.size w W3) := HW.out.trans (B4.mono hsz)
        have HL33 : Hid ((rcl x).length = 33) := rcl_len hdg.1
        have HOne : Hid ((rcl x).toArray.all (·.oneCell') = true) := rcl_one x
        have HZs : Hid (z33.size = 33) := z33_size
        have HW3 : Hid (W3 = (wr.alloc (.cells z33 80)).setRow wr.heap.size (rcl x).toArray) := hW3
        have HJ8 : Hid ((j : Int) ≤ 8) := by show _ ≤ _; omega
        have hS : 0 ≤ ssz (l.take j) ∧ ssz (l.take j) ≤ 17179869176 := by have := HJ8.out; omega
        clear hx hrg hdg B4 HR3 hW3 hbd
        obtain ⟨dg, z⟩ := x
        simp only at *
        generalize hC : rcl (dg, z) = C at *
        generalize z33 = Z at *
        generalize ssz (l.take j) = S at *
        clear hC
        go_wp2_with (first | (refine wpList_load_mid rfl 80 (.tmp 14) rfl b (off + j * 33) rfl C _ HRG.out Tryd.underlying80 rfl (by rw [HL33.out]; exact size33) ?_) | (refine wpList_store_row rfl 80 (.tmp 5) (.tmp 15) rfl wr.heap.size C.toArray rfl rfl 80 Z HA.out (by rw [List.size_toArray, HL33.out]; exact size33) (by rw [HZs.out, List.size_toArray, HL33.out]) HOne.out ?_; rw [← HW3.out]))
        go_roundg (n - (j + 1))
        case measure => omega
        case rel => exact ⟨j + 1, by omega, rfl, by go_num, by rw [HST.out]; try go_num, HB4⟩
      · have e : j = n := by omega
        subst e
        have j1 : ¬ (j : Int) < (j : Int) := by omega
        have HT2 : Hid (T = ssz (l.take j)) := by show _ = _; rw [HTT.out, List.take_of_length_le (by rw [HN.out]; omega)]
        go_wp2_with fail
        go_ret
        refine ⟨?_, HW.out⟩
        rw [HT2.out]
        rfl
  · have HS : Hid (msz m = 0) := if_neg hc
    rw [HS.out]
    generalize mchk m = r at *
    generalize tx m.1 = SN at *
    generalize tx m.2.1 = SV at *
    clear hl hn hf B0
    go_enter Tryd.func25, Tryd.ntmps25
    go_wp2_with fail
    refine K.out.mono ?_
    rintro e w1 ⟨rfl, hb1⟩
    obtain ⟨g1, hb2⟩ := one_blockM hb1
    have B1 : Hid (Below w.heap.size w w1) := hb2
    clear hb1 hb2 g1 K
    go_wp2_with fail
    go_ret
    exact ⟨rfl, B1.out⟩
theorem headM_holds (w : World) (fr : Nat × Nat) : Holds (w.alloc (.cells #[.int .u8 86, .int .u8 77, .int .u8 1] 5 fr)) (some ⟨w.heap.size, 0, none⟩) [86, 77, 1] :=
  .inr ⟨w.heap.size, 0, rfl, fun i hi => by
    have hi' : i < 3 := hi
    rw [Nat.zero_add, cell_of_row _ _ i _ _ fr (heap_alloc_new w _)]
    rcases (by omega : i = 0 ∨ i = 1 ∨ i = 2) with rfl | rfl | rfl <;> rfl⟩
theorem Holds.of_range {w : World} {g o : Nat} {d : List Int} (h : w.rangeAt g o (d.map (Value.int .u8))) : Holds w (some ⟨g, o, none⟩) d :=
  .inr ⟨g, o, rfl, fun i hi => h i _ (by simp [List.getD, hi])⟩
set_option maxRecDepth 100000 in
set_option maxHeartbeats 4000000 in
theorem mencode_bad (m : Mf) (n : Nat) (hn : m.2.2.length = n) (hn62 : n ≤ 4611686018427387904) (hf : FitM m) (a : Option Addr) (c : Nat) (w : World) (hl : InR w a m.2.2) (hc : mchk m ≠ 0) :
    Calls Tryd.prog 16 #[mv m a n c] w fun e w' => e = .returned (.tuple #[.slice none 0 0, .int .i64 (mchk m)]) ∧ Below w.heap.size w w' := by
  have B0 : Below w.heap.size w (w.alloc (.cells #[.string (tx m.1), .string (tx m.2.1), .slice a n c] 44)) := (Below.refl _ _).alloc (Nat.le_refl _) _
  have K : Hid (Calls Tryd.prog 24 #[.agg #[.string (tx m.1), .string (tx m.2.1), .slice a n c]] (w.alloc (.cells #[.string (tx m.1), .string (tx m.2.1), .slice a n c] 44)) fun e w' => e = .returned (.int .i64 (mchk m)) ∧ Below (w.alloc (.cells #[.string (tx m.1), .string (tx m.2.1), .slice a n c] 44)).heap.size (w.alloc (.cells #[.string (tx m.1), .string (tx m.2.1), .slice a n c] 44)) w') := mcheck_is m n hn hn62 hf.2.2 hf.1 hf.2.1 a c _ (hl.keep B0)
  unfold mv
  generalize mchk m = r at *
  generalize tx m.1 = SN at *
  generalize tx m.2.1 = SV at *
  clear hl hn hf B0
  go_enter Tryd.func16, Tryd.ntmps16
  go_wp2_with fail
  refine K.out.mono ?_
  rintro e w1 ⟨rfl, hb1⟩
  obtain ⟨g1, hb2⟩ := one_blockM hb1
  have B1 : Hid (Below w.heap.size w w1) := hb2
  clear hb1 hb2 g1 K
  go_wp2_with fail
  go_ret2
  exact ⟨rfl, B1.out⟩
set_option maxRecDepth 100000 in
set_option maxHeartbeats 8000000 in
theorem mencode_ok (m : Mf) (n : Nat) (hn : m.2.2.length = n) (hf : FitM m) (a : Option Addr) (c : Nat) (w : World) (hl : InR w a m.2.2) (hc : mchk m = 0) :
    Calls Tryd.prog 16 #[mv m a n c] w fun e w' => ∃ v, e = .returned (.tuple #[v, .int .i64 0]) ∧ Owned w' w.heap.size v (menc m) ∧ Below w.heap.size w w' := by
  have hok := mchk_ok hc
  have h8 : n ≤ 8 := by rw [← hn]; exact hok.2.2.1
  have B0 : Below w.heap.size w (w.alloc (.cells #[.string (tx m.1), .string (tx m.2.1), .slice a n c] 44)) := (Below.refl _ _).alloc (Nat.le_refl _) _
  have K : Hid (Calls Tryd.prog 24 #[.agg #[.string (tx m.1), .string (tx m.2.1), .slice a n c]] (w.alloc (.cells #[.string (tx m.1), .string (tx m.2.1), .slice a n c] 44)) fun e w' => e = .returned (.int .i64 (mchk m)) ∧ Below (w.alloc (.cells #[.string (tx m.1), .string (tx m.2.1), .slice a n c] 44)).heap.size (w.alloc (.cells #[.string (tx m.1), .string (tx m.2.1), .slice a n c] 44)) w') := mcheck_is m n hn (by omega) hf.2.2 hf.1 hf.2.1 a c _ (hl.keep B0)
  rw [hc] at K
  obtain ⟨N, V, l⟩ := m
  unfold mv
  simp only at *
  have hlN := nmOk_len hok.1.1
  have hlV := nmOk_len hok.1.2
  have HL : Hid (InR w a l) := hl
  have HN : Hid (l.length = n) := hn
  have HD : Hid (Dgs l) := hf.2.2
  have HZ : Hid (∀ x ∈ l, 0 ≤ x.2 ∧ x.2 ≤ 2147483647) := hok.2.2.2
  have hz33 := (zero_of_info zero33_info).1
  clear hl hn hf hok hc
  go_enter Tryd.func16, Tryd.ntmps16
  go_wp2_with fail
  refine K.out.mono ?_
  rintro e w1 ⟨rfl, hb1⟩
  obtain ⟨g1, hb2⟩ := one_blockM hb1
  have B1 : Hid (Below w.heap.size w w1) := hb2
  have G1 : Hid (w1.heap[w.heap.size]? = some (.cells #[.string (tx N), .string (tx V), .slice a n c] 44)) := g1
  have d0 : w1.cell? ⟨w.heap.size, 0, none⟩ = some (.string (tx N)) := by rw [cell_of_row w1 _ 0 _ _ _ g1]; rfl
  have hlt1 : w.heap.size < w1.heap.size := (Array.getElem?_eq_some_iff.1 g1).1
  have kc := Lib.run_convert_bytes_const (P := Tryd.prog) w1 23 5 #[.int .u8 86, .int .u8 77, .int .u8 1] 3 3 Tryd.underlying23 Tryd.underlying5
  have B2 : Hid (Below w1.heap.size w1 (w1.alloc (.cells #[.int .u8 86, .int .u8 77, .int .u8 1] 5 (3, 3 + 1)))) := (Below.refl _ _).alloc (Nat.le_refl _) _
  have d0' : (w1.alloc (.cells #[.int .u8 86, .int .u8 77, .int .u8 1] 5 (3, 3 + 1))).cell? ⟨w.heap.size, 0, none⟩ = some (.string (tx N)) := (B2.out.cell (p := ⟨w.heap.size, 0, none⟩) hlt1).trans d0
  have K2 : Hid (Calls Tryd.prog 39 #[.slice (some ⟨w1.heap.size, 0, none⟩) 3 3, .string (tx N)] (w1.alloc (.cells #[.int .u8 86, .int .u8 77, .int .u8 1] 5 (3, 3 + 1))) fun e w' => ∃ v', e = .returned v' ∧ Owned w' (w1.alloc (.cells #[.int .u8 86, .int .u8 77, .int .u8 1] 5 (3, 3 + 1))).heap.size v' ([86, 77, 1] ++ (vr N.length ++ nm N)) ∧ Below (w1.alloc (.cells #[.int .u8 86, .int .u8 77, .int .u8 1] 5 (3, 3 + 1))).heap.size (w1.alloc (.cells #[.int .u8 86, .int .u8 77, .int .u8 1] 5 (3, 3 + 1))) w') := appendTextM_head N (by omega) ⟨w1.heap.size, 0, none⟩ [86, 77, 1] 3 rfl _ (headM_holds w1 _) (by simp) (by omega)
  clear hb1 hb2 g1 K B0
  go_wp2_with fail
  refine K2.out.mono ?_
  rintro e w2 ⟨v2, rfl, ho2, hb2⟩
  have hsA : (w1.alloc (.cells #[.int .u8 86, .int .u8 77, .int .u8 1] 5 (3, 3 + 1))).heap.size = w1.heap.size + 1 := by simp
  have B3 : Hid (Below w1.heap.size w1 w2) := B2.out.trans (hb2.mono (by rw [hsA]; omega))
  have O2 : Hid (Owned w2 w1.heap.size v2 ([86, 77, 1] ++ (vr N.length ++ nm N))) := ho2.base (by rw [hsA]; omega)
  have G2 : Hid (w2.heap[w.heap.size]? = some (.cells #[.string (tx N), .string (tx V), .slice a n c] 44)) := (B3.out.block _ hlt1).trans G1.out
  have d1 : w2.cell? ⟨w.heap.size, 1, none⟩ = some (.string (tx V)) := by rw [cell_of_row w2 _ 1 _ _ _ G2.out]; rfl
  have hs2 := B3.out.size
  clear ho2 hb2 K2 B2 d0 d0' kc hsA
  go_wp2_with fail
  refine (appendTextM_is V (by omega) w1.heap.size v2 _ w2 O2.out (by have := (vr_len N.length).2; simp [nm_length]; omega) hs2).mono ?_
  rintro e w3 ⟨v3, rfl, ho3, hg3⟩
  have O3 : Hid (Owned w3 w1.heap.size v3 ([86, 77, 1] ++ (vr N.length ++ nm N) ++ (vr V.length ++ nm V))) := ho3
  have B4 : Hid (Below w1.heap.size w1 w3) := B3.out.trans (hg3.below w1.heap.size hs2 (fun k hk => (O2.out.own k hk).1))
  have G3 : Hid (w3.heap[w.heap.size]? = some (.cells #[.string (tx N), .string (tx V), .slice a n c] 44)) := (B4.out.block _ hlt1).trans G1.out
  have d2 : w3.cell? ⟨w.heap.size, 2, none⟩ = some (.slice a n c) := by rw [cell_of_row w3 _ 2 _ _ _ G3.out]; rfl
  have hs3 := B4.out.size
  have hn256 : ((n : Nat) : Int) % 256 = ((n : Nat) : Int) := by omega
  have HAL : Hid (([86, 77, 1] ++ (vr N.length ++ nm N) ++ (vr V.length ++ nm V)).length ≤ 100) := by
    show _ ≤ _
    have := (vr_len N.length).2
    have := (vr_len V.length).2
    simp [nm_length]
    omega
  clear ho3 hg3 d1 O2 G2 B3
  obtain ⟨A0, hA0⟩ : ∃ A0, A0 = [86, 77, 1] ++ (vr N.length ++ nm N) ++ (vr V.length ++ nm V) := ⟨_, rfl⟩
  have HA0 : Hid (A0 = [86, 77, 1] ++ (vr N.length ++ nm N) ++ (vr V.length ++ nm V)) := hA0
  rw [← hA0] at O3 HAL
  have hAL := HAL.out
  clear hA0
  have H1 : Hid (Holds (w3.alloc (.cells #[.int .u8 (n : Int)] 5)) (some ⟨w3.heap.size, 0, none⟩) [(n : Int)]) := holds_one w3 _
  go_wp2_with (at_builtin; refine appB rfl (.tmp 22) (.tmp 27) rfl w1.heap.size _ A0 rfl (O3.out.alloc _) (some ⟨w3.heap.size, 0, none⟩) 1 1 [(n : Int)] rfl rfl H1.out (by simp) (by omega) (by simp; omega) ?_; intro v4 w4 ho4 hg4; have O4 : Hid (Owned w4 w1.heap.size v4 (A0 ++ [(n : Int)])) := ho4; have B5 : Hid (Below w1.heap.size w1 w4) := B4.out.trans (((Gr.alloc w3 _ _).trans hg4).below w1.heap.size hs3 (fun k hk => (O3.out.own k hk).1)); have d4 : w4.cell? ⟨w.heap.size, 2, none⟩ = some (.slice a n c) := (B5.out.cell (p := ⟨w.heap.size, 2, none⟩) hlt1).trans (by rw [cell_of_row w1 _ 2 _ _ _ G1.out]; rfl); clear ho4 hg4)
  obtain ⟨h, hh⟩ : ∃ h, h = w1.heap.size := ⟨_, rfl⟩
  have HH : Hid (h = w1.heap.size) := hh
  have BW4 : Hid (Below w.heap.size w w4) := B1.out.trans (B5.out.mono B1.out.size)
  rw [← hh] at O4 hlt1
  obtain ⟨A1, hA1⟩ : ∃ A1, A1 = A0 ++ [(n : Int)] := ⟨_, rfl⟩
  have HA1 : Hid (A1 = A0 ++ [(n : Int)]) := hA1
  have hA1l : A1.length ≤ 101 := by rw [hA1]; simp; omega
  rw [← hA1] at O4
  have HH4 : Hid (h ≤ w4.heap.size) := by rw [HH.out]; exact B5.out.size
  have O4' : Hid (Owned w4 h v4 (A1 ++ mel (l.take 0))) := by simp [mel]; exact O4
  clear hh hA1 d2 d4 H1 O3 G3 hn256 B4 hs2 hs3 B5 hz33
  go_loopg [5, 32] n (fun g v i wr => ∃ (j : Nat), j ≤ n ∧ g = n - j ∧ i = .int .i64 j ∧ Hid (Owned wr h v (A1 ++ mel (l.take j))) ∧ Hid (Below w.heap.size w wr) ∧ Hid (h ≤ wr.heap.size))
  case atStart => exact ⟨0, Nat.zero_le _, rfl, rfl, O4', BW4, HH4⟩
  case round =>
    obtain ⟨j, hj, rfl, rfl, OA, HW, HHw⟩ := hrel
    by_cases hlt : j < n
    · have j1 : (j : Int) < (n : Int) := by omega
      obtain ⟨x, hx⟩ : ∃ x, l[j]? = some x := ⟨l[j]'(by rw [HN.out]; exact hlt), by simp [HN.out, hlt]⟩
      obtain ⟨b, off, rfl, hbw, hrg⟩ := HL.out.at hx
      have hdg := HD.out x (List.mem_of_getElem? hx)
      have hzx := HZ.out x (List.mem_of_getElem? hx)
      have HMT : Hid (A1 ++ mel (l.take (j + 1)) = A1 ++ mel (l.take j) ++ x.1 ++ vz x.2) := by show _ = _; rw [mel_take hx]; simp
      have hAj : (A1 ++ mel (l.take j)).length ≤ 500 := by
        have q1 := mel_len (l := l.take j) (fun y hy => HD.out y (List.mem_of_mem_take hy))
        have q3 : (l.take j).length ≤ j := by rw [List.length_take]; omega
        simp only [List.length_append]
        omega
      have HRG : Hid (wr.rangeAt b (off + j * 33) (rcl x)) := rangeAt_below hrg HW.out hbw
      have hsz := HW.out.size
      have HA : Hid ((wr.alloc (.cells z33 80)).heap[wr.heap.size]? = some (.cells z33 80)) := heap_alloc_new wr _
      obtain ⟨W3, hW3⟩ : ∃ W3, W3 = (wr.alloc (.cells z33 80)).setRow wr.heap.size (rcl x).toArray := ⟨_, rfl⟩
      have HR3 : W3.heap[wr.heap.size]? = some (.cells (rcl x).toArray 80) := by rw [hW3]; exact setRow_heap _ _ _ _ _ _ HA.out
      have HHR3 : Hid (W3.heap[wr.heap.size]? = some (.cells (rcl x).toArray 80)) := HR3
      have B6 : Below wr.heap.size wr W3 := by rw [hW3]; exact below_setRow ((Below.refl _ _).alloc (Nat.le_refl _) _) (Nat.le_refl _) _
      have HB6 : Hid (Below wr.heap.size wr W3) := B6
      have HS3 : Hid (Holds W3 (some ⟨wr.heap.size, 0, none⟩) x.1) := Holds.of_range (rcl_sum (row_range HR3))
      have OA3 : Hid (Owned W3 h u5 (A1 ++ mel (l.take j))) := OA.out.keep B6
      have HROW : Hid (∀ k, u5.ownBlock = some k → h ≤ k ∧ k < wr.heap.size) := OA.out.own
      have HL33 : Hid ((rcl x).length = 33) := rcl_len hdg.1
      have HOne : Hid ((rcl x).toArray.all (·.oneCell') = true) := rcl_one x
      have HZs : Hid (z33.size = 33) := z33_size
      have HW3 : Hid (W3 = (wr.alloc (.cells z33 80)).setRow wr.heap.size (rcl x).toArray) := hW3
      have HCell : Hid (∀ W : World, W.heap[wr.heap.size]? = some (.cells (rcl x).toArray 80) → W.cell? ⟨wr.heap.size, 32, none⟩ = some (.int .i64 x.2)) := fun W hW => by have := rcl_size hdg.1 (row_range hW); rwa [Nat.zero_add] at this
      have hd32 := hdg.1
      have hz33 := (zero_of_info zero33_info).1
      have hs3 := B6.size
      have hlt3 : wr.heap.size < W3.heap.size := (Array.getElem?_eq_some_iff.1 HR3).1
      have HLE : Hid (h ≤ W3.heap.size) := Nat.le_trans HHw.out hs3
      clear hx hrg hdg B6 HR3 hW3 OA
      obtain ⟨dg, z⟩ := x
      simp only at *
      generalize hC : rcl (dg, z) = C at *
      generalize z33 = Z at *
      generalize A1 ++ mel (l.take j) = AJ at *
      clear hC
      go_wp2_with (first | (refine wpList_load_mid rfl 80 (.tmp 34) rfl b (off + j * 33) rfl C _ HRG.out Tryd.underlying80 rfl (by rw [HL33.out]; exact size33) ?_) | (refine wpList_store_row rfl 80 (.tmp 7) (.tmp 35) rfl wr.heap.size C.toArray rfl rfl 80 Z HA.out (by rw [List.size_toArray, HL33.out]; exact size33) (by rw [HZs.out, List.size_toArray, HL33.out]) HOne.out ?_; rw [← HW3.out]) | (at_builtin; refine appB rfl (.tmp 36) (.tmp 38) rfl h _ AJ rfl OA3.out (some ⟨wr.heap.size, 0, none⟩) 32 32 dg rfl hd32 HS3.out (by simp) (by omega) HLE.out ?_; intro v5 w5 ho5 hg5; have O5 : Hid (Owned w5 h v5 (AJ ++ dg)) := ho5; have G5 : Hid (Gr W3 w5 u5.ownBlock v5.ownBlock) := hg5; have hcz := HCell.out w5 ((hg5.block _ hlt3 (fun e => by have := (HROW.out _ e).2; omega)).trans HHR3.out); have hs5 := hg5.1.size; clear ho5 hg5))
      refine (var_any z (by omega) (by omega) _).mono ?_
      rintro e w6 ⟨q, hsev, rfl, hw6⟩
      have HV : Hid (varL q z = vz z) := vz_sev z q (by omega) (by omega) hsev
      have h9 := hsev.1
      have H6 : Hid (Holds w6 (some ⟨w5.heap.size, 0, none⟩) (varL q z)) := by rw [hw6]; exact holds_laid _ _ _
      have O6 : Hid (Owned w6 h v5 (AJ ++ dg)) := by rw [hw6]; exact O5.out.alloc _
      have G6 : Hid (Gr W3 w6 u5.ownBlock v5.ownBlock) := by rw [hw6]; exact G5.out.trans (Gr.alloc _ _ _)
      have hlv := varL_length q z
      have HL6 : Hid (h ≤ w6.heap.size) := Nat.le_trans HLE.out G6.out.1.size
      have hAd : (AJ ++ dg).length ≤ 600 := by simp; omega
      clear hw6 hsev O5 G5
      generalize varL q z = L at *
      go_wp2_with (at_builtin; refine appB rfl (.tmp 40) (.tmp 44) rfl h _ (AJ ++ dg) rfl O6.out (some ⟨w5.heap.size, 0, none⟩) (q + 1) (q + 1) L rfl hlv H6.out (by simp) (by omega) HL6.out ?_; intro v7 w7 ho7 hg7; have O7 : Hid (Owned w7 h v7 (AJ ++ dg ++ L)) := ho7; have G7 : Hid (Gr W3 w7 u5.ownBlock v7.ownBlock) := G6.out.trans hg7; clear ho7 hg7)
      go_roundg (n - (j + 1))
      case measure => omega
      case rel =>
        have hhw : w.heap.size ≤ h := by omega
        refine ⟨j + 1, by omega, rfl, by go_num, by rw [HMT.out, ← HV.out]; exact O7, ?_, Nat.le_trans HLE.out G7.out.1.size⟩
        exact HW.out.trans ((HB6.out.mono hsz).trans (G7.out.below w.heap.size (Nat.le_trans hsz hs3) (fun k hk => by have := (HROW.out k hk).1; omega)))
    · have e : j = n := by omega
      subst e
      have j1 : ¬ (j : Int) < (j : Int) := by omega
      have HT : Hid (menc (N, V, l) = A1 ++ mel (l.take j)) := by
        show _ = _
        rw [List.take_of_length_le (by rw [HN.out]; omega), HA1.out, HA0.out]
        unfold menc
        simp only
        rw [HN.out]
      go_wp2_with fail
      go_ret2
      refine ⟨_, rfl, ?_, HW.out⟩
      rw [HT.out]
      exact OA.out.base (by rw [HH.out]; exact B1.out.size)
end Go.Proofs.YtlddoobomjcldaaDoor
