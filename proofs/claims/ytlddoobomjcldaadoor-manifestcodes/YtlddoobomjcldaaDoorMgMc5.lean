/- manifest.Size, Encode. The law's own works. References of one's own; append of references. manifest's reader: take, number, text. -/
import Derived.Test.YtlddoobomjcldaaDoorMgMc4
import Derived.OwnWalk
import Derived.Laws.AppendOwnNone
namespace Go.Proofs.YtlddoobomjcldaaDoor
open Go.ChangeShapes Go.WideShapes Go.ChangeAt Go.RowKit Go.Deep Go.Maps
set_option linter.unusedVariables false
/-- a manifest that came in: its texts are short enough for any machine, its digests have 32 bytes -/
def FitM (m : Mf) : Prop := m.1.length ≤ 140737488355328 ∧ m.2.1.length ≤ 140737488355328 ∧ Dgs m.2.2
set_option maxRecDepth 100000 in
set_option maxHeartbeats 4000000 in
theorem msize_is (m : Mf) (n : Nat) (hn : m.2.2.length = n) (hn62 : n ≤ 4611686018427387904) (hf : FitM m) (a : Option Addr) (c : Nat) (w : World) (hl : InR w a m.2.2) :
    Calls Tryd.prog 25 #[mv m a n c] w fun e w' => e = .returned (.int .i64 (msz m)) ∧ Below w.heap.size w w' := by
  have B0 : Below w.heap.size w (w.alloc (.cells #[.string (tx m.1), .string (tx m.2.1), .slice a n c] 44)) := (Below.refl _ _).alloc (Nat.le_refl _) _
  have K : Hid (Calls Tryd.prog 24 #[.agg #[.string (tx m.1), .string (tx m.2.1), .slice a n c]] (w.alloc (.cells #[.string (tx m.1), .string (tx m.2.1), .slice a n c] 44)) fun e w' => e = .returned (.int .i64 (mchk m)) ∧ Below (w.alloc (.cells #[.string (tx m.1), .string (tx m.2.1), .slice a n c] 44)).heap.size (w.alloc (.cells #[.string (tx m.1), .string (tx m.2.1), .slice a n c] 44)) w') := mcheck_is m n hn hn62 hf.2.2 hf.1 hf.2.1 a c _ (hl.keep B0)
  unfold mv
  by_cases hc : mchk m = 0
  · have HS : Hid (msz m = ssz m.2.2) := if_pos hc
    have hok := mchk_ok hc
    rw [hc] at K
    obtain ⟨N, V, l⟩ := m
    simp only at *
    rw [HS.out]
    have HL : Hid (InR w a l) := hl
    have HN : Hid (l.length = n) := hn
    have HD : Hid (Dgs l) := hf.2.2
    have h8 : n ≤ 8 := by rw [← hn]; exact hok.2.2.1
    have HZ : Hid (∀ x ∈ l, 0 ≤ x.2 ∧ x.2 ≤ 2147483647) := hok.2.2.2
    obtain ⟨T, hT⟩ : ∃ T, T = ssz l := ⟨_, rfl⟩
    rw [← hT]
    have HTT : Hid (T = ssz l) := hT
    generalize tx N = SN at *
    generalize tx V = SV at *
    clear hl hn hf hok hc hT HS
    have hz33 := (zero_of_info zero33_info).1
    go_enter Tryd.func25, Tryd.ntmps25
    go_wp2_with fail
    refine K.out.mono ?_
    rintro e w1 ⟨rfl, hb1⟩
    obtain ⟨g1, hb2⟩ := one_blockM hb1
    have B1 : Hid (Below w.heap.size w w1) := hb2
    have d2 : w1.cell? ⟨w.heap.size, 2, none⟩ = some (.slice a n c) := by rw [cell_of_row w1 _ 2 _ _ _ g1]; rfl
    clear hb1 hb2 g1 K B0
    go_wp2_with fail
    clear d2
    go_loopg [3, 12] n (fun g v i wr => ∃ (j : Nat), j ≤ n ∧ g = n - j ∧ i = .int .i64 j ∧ v = .int .i64 (ssz (l.take j)) ∧ Hid (Below w.heap.size w wr))
    case atStart => exact ⟨0, Nat.zero_le _, rfl, rfl, rfl, B1⟩
    case round =>
      obtain ⟨j, hj, rfl, rfl, rfl, HW⟩ := hrel
      by_cases hlt : j < n
      · have j1 : (j : Int) < (n : Int) := by omega
        obtain ⟨x, hx⟩ : ∃ x, l[j]? = some x := ⟨l[j]'(by rw [HN.out]; exact hlt), by simp [HN.out, hlt]⟩
        obtain ⟨b, off, rfl, hbw, hrg⟩ := HL.out.at hx
        have hdg := HD.out x (List.mem_of_getElem? hx)
        have hzx := HZ.out x (List.mem_of_getElem? hx)
        have hbd := ssz_bd HZ.out j (by rw [HN.out]; omega)
        have HST : Hid (ssz (l.take (j + 1)) = ssz (l.take j) + x.2) := ssz_take hx
        have HRG : Hid (wr.rangeAt b (off + j * 33) (rcl x)) := rangeAt_below hrg HW.out hbw
        have hsz := HW.out.size
        have HA : Hid ((wr.alloc (.cells z33 80)).heap[wr.heap.size]? = some (.cells z33 80)) := heap_alloc_new wr _
        obtain ⟨W3, hW3⟩ : ∃ W3, W3 = (wr.alloc (.cells z33 80)).setRow wr.heap.size (rcl x).toArray := ⟨_, rfl⟩
        have HR3 : W3.heap[wr.heap.size]? = some (.cells (rcl x).toArray 80) := by rw [hW3]; exact setRow_heap _ _ _ _ _ _ HA.out
        have B4 : Below wr.heap.size wr W3 := by rw [hW3]; exact below_setRow ((Below.refl _ _).alloc (Nat.le_refl _) _) (Nat.le_refl _) _
        have hcs : W3.cell? ⟨wr.heap.size, 32, none⟩ = some (.int .i64 x.2) := by have := rcl_size hdg.1 (row_range HR3); rwa [Nat.zero_add] at this
        have HB4 : Hid (Below w.heap.size w W3) := HW.out.trans (B4.mono hsz)
        have HL33 : Hid ((rcl x).length = 33) := rcl_len hdg.1
        have HOne : Hid ((rcl x).toArray.all (·.oneCell') = true) := rcl_one x
        have HZs : Hid (z33.size = 33) := z33_size
        have HW3 : Hid (W3 = (wr.alloc (.cells z33 80)).setRow wr.heap.size (rcl x).toArray) := hW3
        have HJ8 : Hid ((j : Int) ≤ 8) := by show _ ≤ _; omega
        have hS : 0 ≤ ssz (l.take j) ∧ ssz (l.take j) ≤ 17179869176 := by have := HJ8.out; omega
        clear hx hrg hdg B4 HR3 hW3 hbd
        obtain ⟨dg, z⟩ := x
        simp only at *
        generalize hC : rcl (dg, z) = C at *
        generalize z33 = Z at *
        generalize ssz (l.take j) = S at *
        clear hC
        go_wp2_with (first | (refine wpList_load_mid rfl 80 (.tmp 14) rfl b (off + j * 33) rfl C _ HRG.out Tryd.underlying80 rfl (by rw [HL33.out]; exact size33) ?_) | (refine wpList_store_row rfl 80 (.tmp 5) (.tmp 15) rfl wr.heap.size C.toArray rfl rfl 80 Z HA.out (by rw [List.size_toArray, HL33.out]; exact size33) (by rw [HZs.out, List.size_toArray, HL33.out]) HOne.out ?_; rw [← HW3.out]))
        go_roundg (n - (j + 1))
        case measure => omega
        case rel => exact ⟨j + 1, by omega, rfl, by go_num, by rw [HST.out]; try go_num, HB4⟩
      · have e : j = n := by omega
        subst e
        have j1 : ¬ (j : Int) < (j : Int) := by omega
        have HT2 : Hid (T = ssz (l.take j)) := by show _ = _; rw [HTT.out, List.take_of_length_le (by rw [HN.out]; omega)]
        go_wp2_with fail
        go_ret
        refine ⟨?_, HW.out⟩
        rw [HT2.out]
        rfl
  · have HS : Hid (msz m = 0) := if_neg hc
    rw [HS.out]
    generalize mchk m = r at *
    generalize tx m.1 = SN at *
    generalize tx m.2.1 = SV at *
    clear hl hn hf B0
    go_enter Tryd.func25, Tryd.ntmps25
    go_wp2_with fail
    refine K.out.mono ?_
    rintro e w1 ⟨rfl, hb1⟩
    obtain ⟨g1, hb2⟩ := one_blockM hb1
    have B1 : Hid (Below w.heap.size w w1) := hb2
    clear hb1 hb2 g1 K
    go_wp2_with fail
    go_ret
    exact ⟨rfl, B1.out⟩
theorem headM_holds (w : World) (fr : Nat × Nat) : Holds (w.alloc (.cells #[.int .u8 86, .int .u8 77, .int .u8 1] 5 fr)) (some ⟨w.heap.size, 0, none⟩) [86, 77, 1] :=
  .inr ⟨w.heap.size, 0, rfl, fun i hi => by
    have hi' : i < 3 := hi
    rw [Nat.zero_add, cell_of_row _ _ i _ _ fr (heap_alloc_new w _)]
    rcases (by omega : i = 0 ∨ i = 1 ∨ i = 2) with rfl | rfl | rfl <;> rfl⟩
theorem Holds.of_range {w : World} {g o : Nat} {d : List Int} (h : w.rangeAt g o (d.map (Value.int .u8))) : Holds w (some ⟨g, o, none⟩) d :=
  .inr ⟨g, o, rfl, fun i hi => h i _ (by simp [List.getD, hi])⟩
set_option maxRecDepth 100000 in
set_option maxHeartbeats 4000000 in
theorem mencode_bad (m : Mf) (n : Nat) (hn : m.2.2.length = n) (hn62 : n ≤ 4611686018427387904) (hf : FitM m) (a : Option Addr) (c : Nat) (w : World) (hl : InR w a m.2.2) (hc : mchk m ≠ 0) :
    Calls Tryd.prog 16 #[mv m a n c] w fun e w' => e = .returned (.tuple #[.slice none 0 0, .int .i64 (mchk m)]) ∧ Below w.heap.size w w' := by
  have B0 : Below w.heap.size w (w.alloc (.cells #[.string (tx m.1), .string (tx m.2.1), .slice a n c] 44)) := (Below.refl _ _).alloc (Nat.le_refl _) _
  have K : Hid (Calls Tryd.prog 24 #[.agg #[.string (tx m.1), .string (tx m.2.1), .slice a n c]] (w.alloc (.cells #[.string (tx m.1), .string (tx m.2.1), .slice a n c] 44)) fun e w' => e = .returned (.int .i64 (mchk m)) ∧ Below (w.alloc (.cells #[.string (tx m.1), .string (tx m.2.1), .slice a n c] 44)).heap.size (w.alloc (.cells #[.string (tx m.1), .string (tx m.2.1), .slice a n c] 44)) w') := mcheck_is m n hn hn62 hf.2.2 hf.1 hf.2.1 a c _ (hl.keep B0)
  unfold mv
  generalize mchk m = r at *
  generalize tx m.1 = SN at *
  generalize tx m.2.1 = SV at *
  clear hl hn hf B0
  go_enter Tryd.func16, Tryd.ntmps16
  go_wp2_with fail
  refine K.out.mono ?_
  rintro e w1 ⟨rfl, hb1⟩
  obtain ⟨g1, hb2⟩ := one_blockM hb1
  have B1 : Hid (Below w.heap.size w w1) := hb2
  clear hb1 hb2 g1 K
  go_wp2_with fail
  go_ret2
  exact ⟨rfl, B1.out⟩
set_option maxRecDepth 100000 in
set_option maxHeartbeats 8000000 in
theorem mencode_ok (m : Mf) (n : Nat) (hn : m.2.2.length = n) (hf : FitM m) (a : Option Addr) (c : Nat) (w : World) (hl : InR w a m.2.2) (hc : mchk m = 0) :
    Calls Tryd.prog 16 #[mv m a n c] w fun e w' => ∃ v, e = .returned (.tuple #[v, .int .i64 0]) ∧ Owned w' w.heap.size v (menc m) ∧ Below w.heap.size w w' := by
  have hok := mchk_ok hc
  have h8 : n ≤ 8 := by rw [← hn]; exact hok.2.2.1
  have B0 : Below w.heap.size w (w.alloc (.cells #[.string (tx m.1), .string (tx m.2.1), .slice a n c] 44)) := (Below.refl _ _).alloc (Nat.le_refl _) _
  have K : Hid (Calls Tryd.prog 24 #[.agg #[.string (tx m.1), .string (tx m.2.1), .slice a n c]] (w.alloc (.cells #[.string (tx m.1), .string (tx m.2.1), .slice a n c] 44)) fun e w' => e = .returned (.int .i64 (mchk m)) ∧ Below (w.alloc (.cells #[.string (tx m.1), .string (tx m.2.1), .slice a n c] 44)).heap.size (w.alloc (.cells #[.string (tx m.1), .string (tx m.2.1), .slice a n c] 44)) w') := mcheck_is m n hn (by omega) hf.2.2 hf.1 hf.2.1 a c _ (hl.keep B0)
  rw [hc] at K
  obtain ⟨N, V, l⟩ := m
  unfold mv
  simp only at *
  have hlN := nmOk_len hok.1.1
  have hlV := nmOk_len hok.1.2
  have HL : Hid (InR w a l) := hl
  have HN : Hid (l.length = n) := hn
  have HD : Hid (Dgs l) := hf.2.2
  have HZ : Hid (∀ x ∈ l, 0 ≤ x.2 ∧ x.2 ≤ 2147483647) := hok.2.2.2
  have hz33 := (zero_of_info zero33_info).1
  clear hl hn hf hok hc
  go_enter Tryd.func16, Tryd.ntmps16
  go_wp2_with fail
  refine K.out.mono ?_
  rintro e w1 ⟨rfl, hb1⟩
  obtain ⟨g1, hb2⟩ := one_blockM hb1
  have B1 : Hid (Below w.heap.size w w1) := hb2
  have G1 : Hid (w1.heap[w.heap.size]? = some (.cells #[.string (tx N), .string (tx V), .slice a n c] 44)) := g1
  have d0 : w1.cell? ⟨w.heap.size, 0, none⟩ = some (.string (tx N)) := by rw [cell_of_row w1 _ 0 _ _ _ g1]; rfl
  have hlt1 : w.heap.size < w1.heap.size := (Array.getElem?_eq_some_iff.1 g1).1
  have kc := Lib.run_convert_bytes_const (P := Tryd.prog) w1 23 5 #[.int .u8 86, .int .u8 77, .int .u8 1] 3 3 Tryd.underlying23 Tryd.underlying5
  have B2 : Hid (Below w1.heap.size w1 (w1.alloc (.cells #[.int .u8 86, .int .u8 77, .int .u8 1] 5 (3, 3 + 1)))) := (Below.refl _ _).alloc (Nat.le_refl _) _
  have d0' : (w1.alloc (.cells #[.int .u8 86, .int .u8 77, .int .u8 1] 5 (3, 3 + 1))).cell? ⟨w.heap.size, 0, none⟩ = some (.string (tx N)) := (B2.out.cell (p := ⟨w.heap.size, 0, none⟩) hlt1).trans d0
  have K2 : Hid (Calls Tryd.prog 39 #[.slice (some ⟨w1.heap.size, 0, none⟩) 3 3, .string (tx N)] (w1.alloc (.cells #[.int .u8 86, .int .u8 77, .int .u8 1] 5 (3, 3 + 1))) fun e w' => ∃ v', e = .returned v' ∧ Owned w' (w1.alloc (.cells #[.int .u8 86, .int .u8 77, .int .u8 1] 5 (3, 3 + 1))).heap.size v' ([86, 77, 1] ++ (vr N.length ++ nm N)) ∧ Below (w1.alloc (.cells #[.int .u8 86, .int .u8 77, .int .u8 1] 5 (3, 3 + 1))).heap.size (w1.alloc (.cells #[.int .u8 86, .int .u8 77, .int .u8 1] 5 (3, 3 + 1))) w') := appendTextM_head N (by omega) ⟨w1.heap.size, 0, none⟩ [86, 77, 1] 3 rfl _ (headM_holds w1 _) (by simp) (by omega)
  clear hb1 hb2 g1 K B0
  go_wp2_with fail
  refine K2.out.mono ?_
  rintro e w2 ⟨v2, rfl, ho2, hb2⟩
  have hsA : (w1.alloc (.cells #[.int .u8 86, .int .u8 77, .int .u8 1] 5 (3, 3 + 1))).heap.size = w1.heap.size + 1 := by simp
  have B3 : Hid (Below w1.heap.size w1 w2) := B2.out.trans (hb2.mono (by rw [hsA]; omega))
  have O2 : Hid (Owned w2 w1.heap.size v2 ([86, 77, 1] ++ (vr N.length ++ nm N))) := ho2.base (by rw [hsA]; omega)
  have G2 : Hid (w2.heap[w.heap.size]? = some (.cells #[.string (tx N), .string (tx V), .slice a n c] 44)) := (B3.out.block _ hlt1).trans G1.out
  have d1 : w2.cell? ⟨w.heap.size, 1, none⟩ = some (.string (tx V)) := by rw [cell_of_row w2 _ 1 _ _ _ G2.out]; rfl
  have hs2 := B3.out.size
  clear ho2 hb2 K2 B2 d0 d0' kc hsA
  go_wp2_with fail
  refine (appendTextM_is V (by omega) w1.heap.size v2 _ w2 O2.out (by have := (vr_len N.length).2; simp [nm_length]; omega) hs2).mono ?_
  rintro e w3 ⟨v3, rfl, ho3, hg3⟩
  have O3 : Hid (Owned w3 w1.heap.size v3 ([86, 77, 1] ++ (vr N.length ++ nm N) ++ (vr V.length ++ nm V))) := ho3
  have B4 : Hid (Below w1.heap.size w1 w3) := B3.out.trans (hg3.below w1.heap.size hs2 (fun k hk => (O2.out.own k hk).1))
  have G3 : Hid (w3.heap[w.heap.size]? = some (.cells #[.string (tx N), .string (tx V), .slice a n c] 44)) := (B4.out.block _ hlt1).trans G1.out
  have d2 : w3.cell? ⟨w.heap.size, 2, none⟩ = some (.slice a n c) := by rw [cell_of_row w3 _ 2 _ _ _ G3.out]; rfl
  have hs3 := B4.out.size
  have hn256 : ((n : Nat) : Int) % 256 = ((n : Nat) : Int) := by omega
  have HAL : Hid (([86, 77, 1] ++ (vr N.length ++ nm N) ++ (vr V.length ++ nm V)).length ≤ 100) := by
    show _ ≤ _
    have := (vr_len N.length).2
    have := (vr_len V.length).2
    simp [nm_length]
    omega
  clear ho3 hg3 d1 O2 G2 B3
  obtain ⟨A0, hA0⟩ : ∃ A0, A0 = [86, 77, 1] ++ (vr N.length ++ nm N) ++ (vr V.length ++ nm V) := ⟨_, rfl⟩
  have HA0 : Hid (A0 = [86, 77, 1] ++ (vr N.length ++ nm N) ++ (vr V.length ++ nm V)) := hA0
  rw [← hA0] at O3 HAL
  have hAL := HAL.out
  clear hA0
  have H1 : Hid (Holds (w3.alloc (.cells #[.int .u8 (n : Int)] 5)) (some ⟨w3.heap.size, 0, none⟩) [(n : Int)]) := holds_one w3 _
  go_wp2_with (at_builtin; refine appB rfl (.tmp 22) (.tmp 27) rfl w1.heap.size _ A0 rfl (O3.out.alloc _) (some ⟨w3.heap.size, 0, none⟩) 1 1 [(n : Int)] rfl rfl H1.out (by simp) (by omega) (by simp; omega) ?_; intro v4 w4 ho4 hg4; have O4 : Hid (Owned w4 w1.heap.size v4 (A0 ++ [(n : Int)])) := ho4; have B5 : Hid (Below w1.heap.size w1 w4) := B4.out.trans (((Gr.alloc w3 _ _).trans hg4).below w1.heap.size hs3 (fun k hk => (O3.out.own k hk).1)); have d4 : w4.cell? ⟨w.heap.size, 2, none⟩ = some (.slice a n c) := (B5.out.cell (p := ⟨w.heap.size, 2, none⟩) hlt1).trans (by rw [cell_of_row w1 _ 2 _ _ _ G1.out]; rfl); clear ho4 hg4)
  obtain ⟨h, hh⟩ : ∃ h, h = w1.heap.size := ⟨_, rfl⟩
  have HH : Hid (h = w1.heap.size) := hh
  have BW4 : Hid (Below w.heap.size w w4) := B1.out.trans (B5.out.mono B1.out.size)
  rw [← hh] at O4 hlt1
  obtain ⟨A1, hA1⟩ : ∃ A1, A1 = A0 ++ [(n : Int)] := ⟨_, rfl⟩
  have HA1 : Hid (A1 = A0 ++ [(n : Int)]) := hA1
  have hA1l : A1.length ≤ 101 := by rw [hA1]; simp; omega
  rw [← hA1] at O4
  have HH4 : Hid (h ≤ w4.heap.size) := by rw [HH.out]; exact B5.out.size
  have O4' : Hid (Owned w4 h v4 (A1 ++ mel (l.take 0))) := by simp [mel]; exact O4
  clear hh hA1 d2 d4 H1 O3 G3 hn256 B4 hs2 hs3 B5 hz33
  go_loopg [5, 32] n (fun g v i wr => ∃ (j : Nat), j ≤ n ∧ g = n - j ∧ i = .int .i64 j ∧ Hid (Owned wr h v (A1 ++ mel (l.take j))) ∧ Hid (Below w.heap.size w wr) ∧ Hid (h ≤ wr.heap.size))
  case atStart => exact ⟨0, Nat.zero_le _, rfl, rfl, O4', BW4, HH4⟩
  case round =>
    obtain ⟨j, hj, rfl, rfl, OA, HW, HHw⟩ := hrel
    by_cases hlt : j < n
    · have j1 : (j : Int) < (n : Int) := by omega
      obtain ⟨x, hx⟩ : ∃ x, l[j]? = some x := ⟨l[j]'(by rw [HN.out]; exact hlt), by simp [HN.out, hlt]⟩
      obtain ⟨b, off, rfl, hbw, hrg⟩ := HL.out.at hx
      have hdg := HD.out x (List.mem_of_getElem? hx)
      have hzx := HZ.out x (List.mem_of_getElem? hx)
      have HMT : Hid (A1 ++ mel (l.take (j + 1)) = A1 ++ mel (l.take j) ++ x.1 ++ vz x.2) := by show _ = _; rw [mel_take hx]; simp
      have hAj : (A1 ++ mel (l.take j)).length ≤ 500 := by
        have q1 := mel_len (l := l.take j) (fun y hy => HD.out y (List.mem_of_mem_take hy))
        have q3 : (l.take j).length ≤ j := by rw [List.length_take]; omega
        simp only [List.length_append]
        omega
      have HRG : Hid (wr.rangeAt b (off + j * 33) (rcl x)) := rangeAt_below hrg HW.out hbw
      have hsz := HW.out.size
      have HA : Hid ((wr.alloc (.cells z33 80)).heap[wr.heap.size]? = some (.cells z33 80)) := heap_alloc_new wr _
      obtain ⟨W3, hW3⟩ : ∃ W3, W3 = (wr.alloc (.cells z33 80)).setRow wr.heap.size (rcl x).toArray := ⟨_, rfl⟩
      have HR3 : W3.heap[wr.heap.size]? = some (.cells (rcl x).toArray 80) := by rw [hW3]; exact setRow_heap _ _ _ _ _ _ HA.out
      have HHR3 : Hid (W3.heap[wr.heap.size]? = some (.cells (rcl x).toArray 80)) := HR3
      have B6 : Below wr.heap.size wr W3 := by rw [hW3]; exact below_setRow ((Below.refl _ _).alloc (Nat.le_refl _) _) (Nat.le_refl _) _
      have HB6 : Hid (Below wr.heap.size wr W3) := B6
      have HS3 : Hid (Holds W3 (some ⟨wr.heap.size, 0, none⟩) x.1) := Holds.of_range (rcl_sum (row_range HR3))
      have OA3 : Hid (Owned W3 h u5 (A1 ++ mel (l.take j))) := OA.out.keep B6
      have HROW : Hid (∀ k, u5.ownBlock = some k → h ≤ k ∧ k < wr.heap.size) := OA.out.own
      have HL33 : Hid ((rcl x).length = 33) := rcl_len hdg.1
      have HOne : Hid ((rcl x).toArray.all (·.oneCell') = true) := rcl_one x
      have HZs : Hid (z33.size = 33) := z33_size
      have HW3 : Hid (W3 = (wr.alloc (.cells z33 80)).setRow wr.heap.size (rcl x).toArray) := hW3
      have HCell : Hid (∀ W : World, W.heap[wr.heap.size]? = some (.cells (rcl x).toArray 80) → W.cell? ⟨wr.heap.size, 32, none⟩ = some (.int .i64 x.2)) := fun W hW => by have := rcl_size hdg.1 (row_range hW); rwa [Nat.zero_add] at this
      have hd32 := hdg.1
      have hz33 := (zero_of_info zero33_info).1
      have hs3 := B6.size
      have hlt3 : wr.heap.size < W3.heap.size := (Array.getElem?_eq_some_iff.1 HR3).1
      have HLE : Hid (h ≤ W3.heap.size) := Nat.le_trans HHw.out hs3
      clear hx hrg hdg B6 HR3 hW3 OA
      obtain ⟨dg, z⟩ := x
      simp only at *
      generalize hC : rcl (dg, z) = C at *
      generalize z33 = Z at *
      generalize A1 ++ mel (l.take j) = AJ at *
      clear hC
      go_wp2_with (first | (refine wpList_load_mid rfl 80 (.tmp 34) rfl b (off + j * 33) rfl C _ HRG.out Tryd.underlying80 rfl (by rw [HL33.out]; exact size33) ?_) | (refine wpList_store_row rfl 80 (.tmp 7) (.tmp 35) rfl wr.heap.size C.toArray rfl rfl 80 Z HA.out (by rw [List.size_toArray, HL33.out]; exact size33) (by rw [HZs.out, List.size_toArray, HL33.out]) HOne.out ?_; rw [← HW3.out]) | (at_builtin; refine appB rfl (.tmp 36) (.tmp 38) rfl h _ AJ rfl OA3.out (some ⟨wr.heap.size, 0, none⟩) 32 32 dg rfl hd32 HS3.out (by simp) (by omega) HLE.out ?_; intro v5 w5 ho5 hg5; have O5 : Hid (Owned w5 h v5 (AJ ++ dg)) := ho5; have G5 : Hid (Gr W3 w5 u5.ownBlock v5.ownBlock) := hg5; have hcz := HCell.out w5 ((hg5.block _ hlt3 (fun e => by have := (HROW.out _ e).2; omega)).trans HHR3.out); have hs5 := hg5.1.size; clear ho5 hg5))
      refine (var_any z (by omega) (by omega) _).mono ?_
      rintro e w6 ⟨q, hsev, rfl, hw6⟩
      have HV : Hid (varL q z = vz z) := vz_sev z q (by omega) (by omega) hsev
      have h9 := hsev.1
      have H6 : Hid (Holds w6 (some ⟨w5.heap.size, 0, none⟩) (varL q z)) := by rw [hw6]; exact holds_laid _ _ _
      have O6 : Hid (Owned w6 h v5 (AJ ++ dg)) := by rw [hw6]; exact O5.out.alloc _
      have G6 : Hid (Gr W3 w6 u5.ownBlock v5.ownBlock) := by rw [hw6]; exact G5.out.trans (Gr.alloc _ _ _)
      have hlv := varL_length q z
      have HL6 : Hid (h ≤ w6.heap.size) := Nat.le_trans HLE.out G6.out.1.size
      have hAd : (AJ ++ dg).length ≤ 600 := by simp; omega
      clear hw6 hsev O5 G5
      generalize varL q z = L at *
      go_wp2_with (at_builtin; refine appB rfl (.tmp 40) (.tmp 44) rfl h _ (AJ ++ dg) rfl O6.out (some ⟨w5.heap.size, 0, none⟩) (q + 1) (q + 1) L rfl hlv H6.out (by simp) (by omega) HL6.out ?_; intro v7 w7 ho7 hg7; have O7 : Hid (Owned w7 h v7 (AJ ++ dg ++ L)) := ho7; have G7 : Hid (Gr W3 w7 u5.ownBlock v7.ownBlock) := G6.out.trans hg7; clear ho7 hg7)
      go_roundg (n - (j + 1))
      case measure => omega
      case rel =>
        have hhw : w.heap.size ≤ h := by omega
        refine ⟨j + 1, by omega, rfl, by go_num, by rw [HMT.out, ← HV.out]; exact O7, ?_, Nat.le_trans HLE.out G7.out.1.size⟩
        exact HW.out.trans ((HB6.out.mono hsz).trans (G7.out.below w.heap.size (Nat.le_trans hsz hs3) (fun k hk => by have := (HROW.out k hk).1; omega)))
    · have e : j = n := by omega
      subst e
      have j1 : ¬ (j : Int) < (j : Int) := by omega
      have HT : Hid (menc (N, V, l) = A1 ++ mel (l.take j)) := by
        show _ = _
        rw [List.take_of_length_le (by rw [HN.out]; omega), HA1.out, HA0.out]
        unfold menc
        simp only
        rw [HN.out]
      go_wp2_with fail
      go_ret2
      refine ⟨_, rfl, ?_, HW.out⟩
      rw [HT.out]
      exact OA.out.base (by rw [HH.out]; exact B1.out.size)
end Go.Proofs.YtlddoobomjcldaaDoor
namespace Go.Proofs.YtlddoobomjcldaaDoor
open Go.ChangeShapes Go.WideShapes Go.ChangeAt Go.RowKit Go.Deep Go.Maps
set_option linter.unusedVariables false
theorem wpList_build_isM {ops : Array Oper} {rest : List Oper} {o : Oper} {a : Act} {w : World} {Q : Exit → Act → World → Prop} (hg : o.guard = none) (t : TypeId) (parts : Array (Nat × Operand)) (ho : o.op = .build t parts) (C : Array Value)
    (hf : Tryd.prog.built t (parts.map fun (i, x) => (i, a.eval x)).toList = some C)
    (h : wpList Tryd.prog ops Q rest (a.put o.dst (.agg C)) w) : wpList Tryd.prog ops Q (o :: rest) a w := by
  refine wpList_build hg t parts ho (by rw [hf]; rfl) ?_
  rw [hf]; exact h

/-- the chapter's example -/
def exR : Rf := (List.replicate 32 0, 300)
def exM : Mf := ([97], [49], [exR])
def x300 : Array Value := (rcl exR).toArray
theorem exM_ok : mchk exM = 0 := by decide +kernel
theorem exM_enc : menc exM = [86, 77, 1, 1, 97, 1, 49, 1] ++ (List.replicate 32 0 ++ [172, 2]) := by decide +kernel
theorem exM_size : msz exM = 300 := by decide +kernel
theorem ex_ord : ord [49, 46, 57] [49, 46, 49, 48] = -1 := by decide +kernel
theorem exM_fit : FitM exM := ⟨by decide, by decide, fun x hx => by
  simp [exM] at hx
  subst hx
  exact ⟨by decide, bytes_of_mem fun y hy => by have := List.eq_of_mem_replicate hy; omega⟩⟩
theorem build300 (w : World) : (Instr.build 80 #[(1, .int .i64 300)]).run Tryd.prog w = .ok (.agg x300) w := by
  kernel_rfl
theorem x300_size : x300.size = 33 := by kernel_rfl
theorem x300_blk : (Array.foldl (fun (cs : Array Value) (x : Value × Nat) => cs.setIfInBounds x.snd x.fst) #[Value.int IntKind.u8 0, Value.int IntKind.u8 0, Value.int IntKind.u8 0, Value.int IntKind.u8 0, Value.int IntKind.u8 0, Value.int IntKind.u8 0, Value.int IntKind.u8 0, Value.int IntKind.u8 0, Value.int IntKind.u8 0, Value.int IntKind.u8 0, Value.int IntKind.u8 0, Value.int IntKind.u8 0, Value.int IntKind.u8 0, Value.int IntKind.u8 0, Value.int IntKind.u8 0, Value.int IntKind.u8 0, Value.int IntKind.u8 0, Value.int IntKind.u8 0, Value.int IntKind.u8 0, Value.int IntKind.u8 0, Value.int IntKind.u8 0, Value.int IntKind.u8 0, Value.int IntKind.u8 0, Value.int IntKind.u8 0, Value.int IntKind.u8 0, Value.int IntKind.u8 0, Value.int IntKind.u8 0, Value.int IntKind.u8 0, Value.int IntKind.u8 0, Value.int IntKind.u8 0, Value.int IntKind.u8 0, Value.int IntKind.u8 0, Value.int IntKind.i64 0] x300.zipIdx 0 33) = x300 := by kernel_rfl
theorem InR.one (w : World) : InR (w.alloc (.cells x300 80)) (some ⟨w.heap.size, 0, none⟩) [exR] := by
  refine .inr ⟨w.heap.size, 0, rfl, by simp, fun i y hy => ?_⟩
  have hi : i = 0 := by
    have := (List.getElem?_eq_some_iff.1 hy).1
    simpa using this
  subst hi
  simp at hy
  subst hy
  have := row_range (x := exR) (heap_alloc_new w (.cells x300 80))
  simpa using this
set_option maxRecDepth 100000 in
set_option maxHeartbeats 4000000 in
theorem worksM_is (w : World) : Calls Tryd.prog 23 #[] w fun e w' => e = .returned (.bool true) ∧ Below w.heap.size w w' := by
  have hxs := x300_size
  have hxb := x300_blk
  go_enter Tryd.func23, Tryd.ntmps23
  go_wp2_with (refine wpList_build_isM rfl 80 _ rfl x300 (by kernel_rfl) ?_)
  obtain ⟨W2, hW2⟩ : ∃ W2, W2 = ((w.alloc (.cells x300 80)).alloc (.cells #[.string ⟨#[97]⟩, .string ⟨#[49]⟩, .slice (some ⟨w.heap.size, 0, none⟩) 1 1] 44)) := ⟨_, rfl⟩
  have hs2 : W2.heap.size = w.heap.size + 2 := by rw [hW2]; simp
  have G2 : Hid (W2.heap[w.heap.size + 1]? = some (.cells #[.string ⟨#[97]⟩, .string ⟨#[49]⟩, .slice (some ⟨w.heap.size, 0, none⟩) 1 1] 44)) := by
    rw [hW2]
    have := heap_alloc_new (w.alloc (.cells x300 80)) (.cells #[.string ⟨#[97]⟩, .string ⟨#[49]⟩, .slice (some ⟨w.heap.size, 0, none⟩) 1 1] 44)
    rwa [World.size_alloc] at this
  have I2 : Hid (InR W2 (some ⟨w.heap.size, 0, none⟩) [exR]) := by
    rw [hW2]
    exact (InR.one w).keep ((Below.refl _ _).alloc (Nat.le_refl _) _)
  have B2 : Hid (Below w.heap.size w W2) := by
    rw [hW2]
    exact ((Below.refl _ w).alloc (Nat.le_refl _) _).alloc (by simp) _
  rw [← hW2]
  have KE : Hid (Calls Tryd.prog 16 #[(.agg #[.string ⟨#[97]⟩, .string ⟨#[49]⟩, .slice (some ⟨w.heap.size, 0, none⟩) 1 1])] W2 fun e w' => ∃ v, e = .returned (.tuple #[v, .int .i64 0]) ∧ Owned w' W2.heap.size v (menc exM) ∧ Below W2.heap.size W2 w') := mencode_ok exM 1 rfl exM_fit (some ⟨w.heap.size, 0, none⟩) 1 W2 I2.out exM_ok
  have KS : Hid (∀ W, Below W2.heap.size W2 W → Calls Tryd.prog 25 #[(.agg #[.string ⟨#[97]⟩, .string ⟨#[49]⟩, .slice (some ⟨w.heap.size, 0, none⟩) 1 1])] W fun e w' => e = .returned (.int .i64 (msz exM)) ∧ Below W.heap.size W w') := fun W hW => msize_is exM 1 rfl (by omega) exM_fit (some ⟨w.heap.size, 0, none⟩) 1 W (I2.out.keep hW)
  have KO : Hid (∀ W, Calls Tryd.prog 45 #[.string ⟨#[49, 46, 57]⟩, .string ⟨#[49, 46, 49, 48]⟩] W fun e w' => e = .returned (.int .i64 (ord [49, 46, 57] [49, 46, 49, 48])) ∧ Below W.heap.size W w') := order_is [49, 46, 57] [49, 46, 49, 48] (by decide) (by decide)
  rw [exM_size] at KS
  rw [ex_ord] at KO
  rw [exM_enc] at KE
  clear hW2 hxs hxb
  refine KE.out.mono ?_
  rintro e w3 ⟨v3, rfl, ho3, hb3⟩
  obtain ⟨a3, c3, rfl, _, hh3, hm3, hc3⟩ := ho3.slice
  have hl3 : ([86, 77, 1, 1, 97, 1, 49, 1] ++ (List.replicate 32 0 ++ [172, 2]) : List Int).length = 42 := by decide
  rw [hl3] at hc3 ⊢
  have B3 : Hid (Below W2.heap.size W2 w3) := hb3
  have cs := conv_str hh3.pre 8 c3 rfl
  have est : strOfNums [86, 77, 1, 1, 97, 1, 49, 1] = ⟨#[86, 77, 1, 1, 97, 1, 49, 1]⟩ := by
    apply ByteArray.ext
    simp [strOfNums]
  rw [est] at cs
  have i8 : (8 : Int) ≤ (c3 : Int) := by omega
  have g3 : w3.heap[w.heap.size + 1]? = _ := (hb3.block (w.heap.size + 1) (by omega)).trans G2.out
  have d0 : w3.cell? ⟨w.heap.size + 1, 0, none⟩ = some (.string ⟨#[97]⟩) := by rw [cell_of_row w3 _ 0 _ _ _ g3]; rfl
  have d1 : w3.cell? ⟨w.heap.size + 1, 1, none⟩ = some (.string ⟨#[49]⟩) := by rw [cell_of_row w3 _ 1 _ _ _ g3]; rfl
  have d2 : w3.cell? ⟨w.heap.size + 1, 2, none⟩ = some (.slice (some ⟨w.heap.size, 0, none⟩) 1 1) := by rw [cell_of_row w3 _ 2 _ _ _ g3]; rfl
  clear ho3 hb3 hh3 hm3 KE g3 est hl3
  go_wp2_with fail
  refine (KS.out _ B3.out).mono ?_
  rintro e w4 ⟨rfl, hb4⟩
  have B4 : Hid (Below w.heap.size w w4) := B2.out.trans ((B3.out.trans (hb4.mono B3.out.size)).mono B2.out.size)
  clear hb4 KS
  go_wp2_with fail
  refine (KO.out _).mono ?_
  rintro e w5 ⟨rfl, hb5⟩
  have B5 : Hid (Below w.heap.size w w5) := B4.out.trans (hb5.mono B4.out.size)
  clear hb5 KO
  go_wp2_with fail
  go_ret
  exact ⟨rfl, B5.out⟩
end Go.Proofs.YtlddoobomjcldaaDoor
namespace Go.Proofs.YtlddoobomjcldaaDoor
open Go.ChangeShapes Go.WideShapes Go.ChangeAt Go.RowKit Go.Deep Go.Maps
set_option linter.unusedVariables false
/-- the cells of references -/
def rcs (l : List Rf) : List Value := l.flatMap rcl
theorem rcs_app (l m : List Rf) : rcs (l ++ m) = rcs l ++ rcs m := by simp [rcs]
theorem rcs_len : ∀ (l : List Rf), Dgs l → (rcs l).length = l.length * 33
  | [], _ => rfl
  | x :: r, h => by
    have ih := rcs_len r (fun y hy => h y (by simp [hy]))
    have hx := rcl_len (h x (by simp)).1
    simp only [rcs, List.flatMap_cons, List.length_append, List.length_cons] at ih ⊢
    omega
theorem rcs_at : ∀ (l : List Rf), Dgs l → ∀ (i : Nat) (x : Rf), l[i]? = some x → ∀ k, k < 33 → (rcs l)[i * 33 + k]? = (rcl x)[k]?
  | [], _, i, x, h, _, _ => by simp at h
  | y :: r, hd, i, x, h, k, hk => by
    have hy := rcl_len (hd y (by simp)).1
    have e : rcs (y :: r) = rcl y ++ rcs r := by simp [rcs]
    rw [e]
    cases i with
    | zero =>
      simp at h
      subst h
      rw [Nat.zero_mul, Nat.zero_add, List.getElem?_append_left (by omega)]
    | succ i =>
      simp at h
      have ih := rcs_at r (fun z hz => hd z (by simp [hz])) i x h k hk
      rw [List.getElem?_append_right (by omega), hy, ← ih]
      congr 1
      omega
theorem rcs_one (l : List Rf) : ∀ v ∈ rcs l, v.oneCell' = true := by
  intro v hv
  simp only [rcs, List.mem_flatMap] at hv
  obtain ⟨x, _, hv⟩ := hv
  simp only [rcl, List.mem_append, List.mem_map, List.mem_singleton] at hv
  rcases hv with ⟨y, _, rfl⟩ | rfl <;> rfl
/-- a slice of references of one's own, from block 'base' on -/
def OwnR (w : World) (base : Nat) (v : Value) (l : List Rf) : Prop := w.ownsRow base 80 33 v l.length (rcs l)
theorem OwnR.nil (w : World) (base : Nat) : OwnR w base (.slice none 0 0) [] := World.ownsRow_nil _ _ _ _
theorem OwnR.own {w : World} {base : Nat} {v : Value} {l : List Rf} (h : OwnR w base v l) : ∀ k, v.ownBlock = some k → base ≤ k ∧ k < w.heap.size := fun k hk => World.ownsRow.lt h k hk
theorem OwnR.block {w w' : World} {base : Nat} {v : Value} {l : List Rf} (h : OwnR w base v l) (hb : ∀ k, v.ownBlock = some k → w'.heap[k]? = w.heap[k]?) : OwnR w' base v l := by
  refine ⟨h.1, ?_⟩
  rcases h.2 with h1 | ⟨g, cap, cur, rfl, hbg, hg, rest⟩
  · exact .inl h1
  · exact .inr ⟨g, cap, cur, rfl, hbg, (hb g rfl).trans hg, rest⟩
theorem OwnR.keep {w w' : World} {base : Nat} {v : Value} {l : List Rf} (h : OwnR w base v l) (hb : Below w.heap.size w w') : OwnR w' base v l := h.block fun k hk => hb.block k (h.own k hk).2
theorem OwnR.slice {w : World} {base : Nat} {v : Value} {l : List Rf} (h : OwnR w base v l) (hd : Dgs l) : ∃ a c, v = .slice a l.length c ∧ InR w a l ∧ l.length ≤ c ∧ c ≤ 9223372036854775807 ∧ (a = none → c = 0) := by
  rcases h.2 with ⟨rfl, hn⟩ | ⟨g, cap, cur, rfl, hb, hg, hl, hm, hs, ht⟩
  · have : l = [] := List.length_eq_zero_iff.1 hn
    subst this
    exact ⟨none, 0, rfl, .inl rfl, by simp, by omega, fun _ => rfl⟩
  · simp only [maxLen] at hm
    refine ⟨_, _, rfl, .inr ⟨g, 0, rfl, (h.own g rfl).2, fun i x hx => ?_⟩, hl, by omega, fun h => by simp at h⟩
    intro k v hv
    have hk : k < 33 := by
      have := (List.getElem?_eq_some_iff.1 hv).1
      rwa [rcl_len (hd x (List.mem_of_getElem? hx)).1] at this
    have := World.ownsRow.cells h (g := g) rfl (i * 33 + k) v (by rw [rcs_at l hd i x hx k hk]; exact hv)
    rw [Addr.add_mid] at this
    rw [show 0 + i * 33 + k = 0 + (i * 33 + k) by omega]
    exact this
theorem infoR : ∃ i, Tryd.prog.info? 80 = some i ∧ i.zero = some (.agg z33) ∧ i.size = 33 ∧ i.bytes = 40 := info_parts (show (Tryd.prog.info? 80).map (fun i => (i.zero, i.size, i.bytes)) = some (some (.agg z33), 33, 40) by kernel_rfl)
theorem InR.cells {w : World} {ad : Addr} {l : List Rf} (hd : Dgs l) (h : InR w (some ad) l) : ∀ j u, (rcs l)[j]? = some u → w.cell? (ad.add j) = some u := by
  intro j u hu
  have hj : j < l.length * 33 := by
    have := (List.getElem?_eq_some_iff.1 hu).1
    rwa [rcs_len l hd] at this
  obtain ⟨x, hx⟩ : ∃ x, l[j / 33]? = some x := ⟨_, List.getElem?_eq_getElem (by omega)⟩
  obtain ⟨b, off, e, _, hr⟩ := h.at hx
  cases e
  have e2 := rcs_at l hd (j / 33) x hx (j % 33) (by omega)
  rw [show j / 33 * 33 + j % 33 = j by omega, hu] at e2
  rw [Addr.add_mid]
  have := hr (j % 33) u e2.symm
  rwa [show off + j / 33 * 33 + j % 33 = off + j by omega] at this
/-- references more -/
theorem wp_append_refs {w : World} {o : Oper} {act : Act} {K : Act → World → Prop} {Q : Exit → Act → World → Prop} (s x : Operand)
    (ho : o.op = .call { callee := .builtin .append, args := #[s, x], argTypes := #[42, 42] })
    (base : Nat) (v : Value) (l : List Rf) (hs : act.eval s = v) (hown : OwnR w base v l)
    (ad : Addr) (n c : Nat) (m : List Rf) (hx : act.eval x = .slice (some ad) n c) (hm : m.length = n) (hin : InR w (some ad) m) (hd : Dgs m)
    (hN : l.length + n ≤ 3518437208883) (hbase : base ≤ w.heap.size)
    (h : ∀ v' w', OwnR w' base v' (l ++ m) → w.grownBy w' v.ownBlock → K (act.put o.dst v') w') :
    o.wp Tryd.prog act w K Q := by
  obtain ⟨i, hi, hz, h1, h2⟩ := infoR
  subst hm
  refine wp_append_own w s x 42 ho base 80 i _ 33 40 Tryd.underlying42 hi hz h1 h2 z33_size (by decide) v l.length _ hs hown ad m.length c (rcs m) hx (rcs_len m hd) (hin.cells hd) (rcs_one m) (by simp only [maxLen]; omega) (by omega) hbase ?_
  intro v' w' hown' hg _
  refine h v' w' ?_ hg
  unfold OwnR
  rw [List.length_append, rcs_app]
  exact hown'
theorem append_refs {w : World} {ops : Array Oper} {rest : List Oper} {o : Oper} {act : Act} {Q : Exit → Act → World → Prop} (hgd : o.guard = none) (s x : Operand)
    (ho : o.op = .call { callee := .builtin .append, args := #[s, x], argTypes := #[42, 42] })
    (base : Nat) (v : Value) (l : List Rf) (hs : act.eval s = v) (hown : OwnR w base v l)
    (ad : Addr) (n c : Nat) (m : List Rf) (hx : act.eval x = .slice (some ad) n c) (hm : m.length = n) (hin : InR w (some ad) m) (hd : Dgs m)
    (hN : l.length + n ≤ 3518437208883) (hbase : base ≤ w.heap.size)
    (h : ∀ v' w', OwnR w' base v' (l ++ m) → w.grownBy w' v.ownBlock → wpList Tryd.prog ops Q rest (act.put o.dst v') w') :
    wpList Tryd.prog ops Q (o :: rest) act w :=
  wpList_plain hgd fun _ hK => wp_append_refs s x ho base v l hs hown ad n c m hx hm hin hd hN hbase fun v' w' h1 h2 => hK _ _ (h v' w' h1 h2)
end Go.Proofs.YtlddoobomjcldaaDoor
namespace Go.Proofs.YtlddoobomjcldaaDoor
open Go.ChangeShapes Go.WideShapes Go.ChangeAt Go.RowKit Go.Deep Go.Maps
set_option linter.unusedVariables false
theorem heap_setCell_ownM (w : World) (b i : Nat) (cs : Array Value) (t : TypeId) (fr : Nat × Nat) (h : w.heap[b]? = some (.cells cs t fr)) (v : Value) : (w.setCell ⟨b, i, none⟩ v).heap[b]? = some (.cells (cs.setIfInBounds i v) t fr) := by
  simp [World.setCell, Array.getElem?_modify, h]
/-- block R is a reader: what it has not taken yet is this slice -/
def RdrM (w : World) (R : Nat) (v : Value) : Prop := w.heap[R]? = some (.cells #[v] 104 (0, 0))
theorem RdrM.cell {w : World} {R : Nat} {v : Value} (h : RdrM w R v) : w.cell? ⟨R, 0, none⟩ = some v ∧ w.frozen? ⟨R, 0, none⟩ = false := by
  refine ⟨?_, frozen_of_row w R 0 _ _ h⟩
  rw [cell_of_row w R 0 _ _ _ h]; rfl
theorem RdrM.lt {w : World} {R : Nat} {v : Value} (h : RdrM w R v) : R < w.heap.size := (Array.getElem?_eq_some_iff.1 h).1
theorem RdrM.set {w : World} {R : Nat} {v : Value} (h : RdrM w R v) (v' : Value) : RdrM (w.setCell ⟨R, 0, none⟩ v') R v' := heap_setCell_ownM w R 0 _ _ _ h v'
theorem grM_set (w : World) (R : Nat) (v : Value) : Gr w (w.setCell ⟨R, 0, none⟩ v) (some R) (some R) :=
  ⟨⟨rfl, rfl, rfl, by simp [World.setCell], fun g _ hg => Below.heap_setCell _ ⟨R, 0, none⟩ _ _ (fun e => hg (by rw [e]))⟩, .inl rfl⟩
/-- the reader in block R has these bytes left, which lie in blocks below it -/
def RdBM (w : World) (R : Nat) (L : List Int) : Prop := ∃ a n c, RdrM w R (.slice a n c) ∧ L.length = n ∧ Holds w a L ∧ IsBytes L ∧ n ≤ c ∧ c ≤ 9223372036854775807 ∧ n ≤ 140737488355328 ∧ (∀ x, a = some x → L ≠ [] → x.block < R)
theorem Holds.dropOM {w : World} {a : Option Addr} {L : List Int} (h : Holds w a L) (m : Nat) (hm : m ≤ L.length) : Holds w (a.map fun x => x.add m) (L.drop m) := by
  rcases h with e | ⟨b, off, rfl, hc⟩
  · subst e; left; simp
  · refine .inr ⟨b, off + m, by simp [add_plain], fun i hi => ?_⟩
    rw [List.length_drop] at hi
    rw [Nat.add_assoc, hc (m + i) (by omega)]
    simp [List.getD]
theorem Holds.setRM {w : World} {a : Option Addr} {L : List Int} (h : Holds w a L) (R : Nat) (v : Value) (hlt : ∀ x, a = some x → L ≠ [] → x.block < R) : Holds (w.setCell ⟨R, 0, none⟩ v) a L :=
  h.below ((Below.refl R w).setCell (p := ⟨R, 0, none⟩) (Nat.le_refl _) v) hlt
theorem takeM_lt {a : Option Addr} {L : List Int} {R m : Nat} (h : ∀ x, a = some x → L ≠ [] → x.block < R) : ∀ x, a = some x → L.take m ≠ [] → x.block < R :=
  fun x hx hne => h x hx (fun e => hne (by simp [e]))
theorem dropM_lt {a : Option Addr} {L : List Int} {R m : Nat} (h : ∀ x, a = some x → L ≠ [] → x.block < R) : ∀ x, (a.map fun x => x.add m) = some x → L.drop m ≠ [] → x.block < R := by
  intro x hx hne
  cases a with
  | none => simp at hx
  | some y =>
    simp at hx
    have := h y rfl (fun e => hne (by simp [e]))
    subst hx
    unfold Addr.add
    split <;> exact this
/-- what take tells: a slice of those bytes -/
def TookM (w : World) (R m : Nat) (L : List Int) (e : Ending) (w' : World) : Prop := ∃ a c, e = .returned (.slice a m c) ∧ Holds w' a (L.take m) ∧ RdBM w' R (L.drop m) ∧ Gr w w' (some R) (some R) ∧ m ≤ c
theorem tookM_of {w : World} {R n c m : Nat} {a a' : Option Addr} {L : List Int} {c' : Nat} (hl : L.length = n) (hh : Holds w a L) (hb : IsBytes L) (hn : n ≤ c) (hc : c ≤ 9223372036854775807) (hn47 : n ≤ 140737488355328) (hlt : ∀ x, a = some x → L ≠ [] → x.block < R)
    (hr : RdrM w R (.slice a n c)) (hm : m ≤ n) (ha' : (a' = a.map fun x => x.add m) ∨ n = m) (hc' : n - m ≤ c') (hc'' : c' ≤ 9223372036854775807) : TookM w R m L (.returned (.slice a m c)) (w.setCell ⟨R, 0, none⟩ (.slice a' (n - m) c')) := by
  subst hl
  refine ⟨a, c, rfl, (hh.take m).setRM R _ (takeM_lt hlt), ⟨a', L.length - m, c', hr.set _, by simp, ?_, bytes_drop hb m, hc', hc'', by omega, ?_⟩, grM_set w R _, by omega⟩
  · rcases ha' with rfl | e
    · exact (hh.dropOM m hm).setRM R _ (dropM_lt hlt)
    · left; exact List.drop_eq_nil_of_le (by omega)
  · rcases ha' with rfl | e
    · exact dropM_lt hlt
    · intro x _ hne; exact absurd (List.drop_eq_nil_of_le (by omega)) hne
set_option maxRecDepth 100000 in
theorem takeM_is (w : World) (R : Nat) (v : Int) (L : List Int) (h : RdBM w R L) (v0 : 0 ≤ v) (v1 : v ≤ 18446744073709551615) :
    Calls Tryd.prog 60 #[.pointer (some ⟨R, 0, none⟩), .int .u64 v] w (TookM w R (min v.toNat L.length) L) := by
  obtain ⟨a, n, c, hr, hl, hh, hb, hn, hc, hn47, hlt⟩ := h
  obtain ⟨c0, f0⟩ := hr.cell
  obtain ⟨m, hm⟩ : ∃ m, m = min v.toNat L.length := ⟨_, rfl⟩
  rw [← hm]
  have hmn : m ≤ n := by omega
  have HT : Hid (∀ a' c', ((a' = a.map fun x => x.add m) ∨ n = m) → n - m ≤ c' → c' ≤ 9223372036854775807 → TookM w R m L (.returned (.slice a m c)) (w.setCell ⟨R, 0, none⟩ (.slice a' (n - m) c'))) :=
    fun a' c' h1 h2 h3 => tookM_of hl hh hb hn hc hn47 hlt hr (by omega) h1 h2 h3
  rw [hl] at hm
  have hmin : min v (n : Int) = (m : Int) := by omega
  have hvm : v ≤ (n : Int) ∧ v = (m : Int) ∨ ((n : Int) < v ∧ n = m) := by omega
  clear hr hl hh hb hlt hm
  generalize TookM w R m L = T at *
  rcases hvm with ⟨h1, rfl⟩ | ⟨h1, rfl⟩
  · by_cases h : c = m
    · obtain rfl : n = m := by omega
      subst h
      have HT0 : Hid (T (.returned (.slice a c c)) (w.setCell ⟨R, 0, none⟩ (.slice a 0 0))) := by
        have := HT.out a 0 (.inr rfl) (by omega) (by omega)
        rwa [Nat.sub_self] at this
      clear HT hn h1
      go_enter Tryd.func60, Tryd.ntmps60
      go_wp2_with fail
      exact HT0.out
    · go_enter Tryd.func60, Tryd.ntmps60
      go_wp2_with fail
      exact HT.out _ _ (.inl rfl) (by omega) (by omega)
  · by_cases h : c = n
    · subst h
      have HT0 : Hid (T (.returned (.slice a c c)) (w.setCell ⟨R, 0, none⟩ (.slice a 0 0))) := by
        have := HT.out a 0 (.inr rfl) (by omega) (by omega)
        rwa [Nat.sub_self] at this
      clear HT hn
      go_enter Tryd.func60, Tryd.ntmps60
      go_wp2_with fail
      exact HT0.out
    · go_enter Tryd.func60, Tryd.ntmps60
      go_wp2_with fail
      have := HT.out (a.map fun x => x.add n) (c - n) (.inl rfl) (by omega) (by omega)
      rwa [Nat.sub_self] at this
theorem gn_is {L : List Int} (hb : IsBytes L) : ∃ (m : Nat) (v k : Int), rv L 0 0 = (v, (m : Int), k) ∧ gn L = (v, L.drop m) ∧ m ≤ L.length ∧ m ≤ 10 ∧ 0 ≤ v ∧ v ≤ 18446744073709551615 := by
  rcases rv_only L 0 0 (bytes_mem hb) (by omega) with (h1 | h1) | ⟨n, u, e1, e2, e3, e4, u0, u1, u2, u3⟩
  · exact ⟨0, 0, 4, h1, by simp [gn, h1], by omega, by omega, by omega, by omega⟩
  · exact ⟨0, 0, 5, h1, by simp [gn, h1], by omega, by omega, by omega, by omega⟩
  · obtain ⟨s1, s2⟩ := sev_of u n e4 u0 u1 u2 u3
    have e : rv L 0 0 = (u, ((n + 1 : Nat) : Int), 0) := by rw [e1]; simp
    exact ⟨n + 1, u, 0, e, by simp only [gn, e]; simp, by omega, by omega, u0, s2⟩
set_option maxRecDepth 100000 in
theorem numberM_is (w : World) (R : Nat) (L : List Int) (h : RdBM w R L) :
    Calls Tryd.prog 63 #[.pointer (some ⟨R, 0, none⟩)] w fun e w' => e = .returned (.int .u64 (gn L).1) ∧ RdBM w' R (gn L).2 ∧ Gr w w' (some R) (some R) := by
  obtain ⟨a, n, c, hr, hl, hh, hb, hn, hc, hn47, hlt⟩ := h
  obtain ⟨c0, f0⟩ := hr.cell
  obtain ⟨m, v, k, hrv, hgn, hm, hm10, v0, v1⟩ := gn_is hb
  rw [hgn]
  have HT : Hid (∀ a' c', ((a' = a.map fun x => x.add m) ∨ n = m) → n - m ≤ c' → c' ≤ 9223372036854775807 → TookM w R m L (.returned (.slice a m c)) (w.setCell ⟨R, 0, none⟩ (.slice a' (n - m) c'))) :=
    fun a' c' h1 h2 h3 => tookM_of hl hh hb hn hc hn47 hlt hr (by omega) h1 h2 h3
  have KV : Hid (Calls Tryd.prog 75 #[.slice a n c] w fun e w' => e = .returned (.tuple #[.int .u64 v, .int .i64 (m : Int), .int .i64 k]) ∧ w' = w) := by
    have := readVar_all L n a c hl hn47 hb w hh
    rw [hrv] at this
    exact this
  rw [hl] at hm
  clear hr hl hh hb hlt hgn hrv
  simp only
  by_cases h : c = m
  · obtain rfl : n = m := by omega
    subst h
    go_enter Tryd.func63, Tryd.ntmps63
    go_wp2_with fail
    refine KV.out.mono ?_
    rintro e w1 ⟨rfl, hw⟩
    obtain rfl := hw.symm
    clear hw KV
    go_wp2_with fail
    go_ret
    obtain ⟨_, _, _, _, h3, h4, _⟩ := HT.out a 0 (by simp) (by simp) (by simp)
    rw [Nat.sub_self] at h3 h4
    exact ⟨rfl, h3, h4⟩
  · go_enter Tryd.func63, Tryd.ntmps63
    go_wp2_with fail
    refine KV.out.mono ?_
    rintro e w1 ⟨rfl, hw⟩
    obtain rfl := hw.symm
    clear hw KV
    go_wp2_with fail
    go_ret
    obtain ⟨_, _, _, _, h3, h4, _⟩ := HT.out _ (c - m) (.inl rfl) (by omega) (by omega)
    exact ⟨rfl, h3, h4⟩
theorem numsM_tx (L : List Int) : strOfNums L = tx (Lib.bytesOf L) := by
  apply ByteArray.ext
  simp [tx, strOfNums, Lib.bytesOf]
theorem take_min {α : Type} (L : List α) (k : Nat) : L.take (min k L.length) = L.take k ∧ L.drop (min k L.length) = L.drop k := by
  rcases Nat.le_total k L.length with h | h
  · rw [Nat.min_eq_left h]; exact ⟨rfl, rfl⟩
  · rw [Nat.min_eq_right h, List.take_length, List.drop_length, List.take_of_length_le h, List.drop_of_length_le h]; exact ⟨rfl, rfl⟩
set_option maxRecDepth 100000 in
theorem textM_is (w : World) (R : Nat) (L : List Int) (h : RdBM w R L) :
    Calls Tryd.prog 61 #[.pointer (some ⟨R, 0, none⟩)] w fun e w' => e = .returned (.string (tx (gt L).1)) ∧ RdBM w' R (gt L).2 ∧ Gr w w' (some R) (some R) := by
  have hbL : IsBytes L := by obtain ⟨a, n, c, _, _, _, hb, _⟩ := h; exact hb
  obtain ⟨m, v, k, hrv, hgn, hm, hm10, v0, v1⟩ := gn_is hbL
  have KN : Hid (Calls Tryd.prog 63 #[.pointer (some ⟨R, 0, none⟩)] w fun e w' => e = .returned (.int .u64 (gn L).1) ∧ RdBM w' R (gn L).2 ∧ Gr w w' (some R) (some R)) := numberM_is w R L h
  have HG : Hid (gt L = (Lib.bytesOf ((gn L).2.take (gn L).1.toNat), (gn L).2.drop (gn L).1.toNat)) := rfl
  rw [hgn] at KN HG
  rw [HG.out]
  simp only at *
  generalize L.drop m = s at *
  clear h hbL hrv hgn hm hm10 HG
  go_enter Tryd.func61, Tryd.ntmps61
  go_wp2_with fail
  refine KN.out.mono ?_
  rintro e w1 ⟨rfl, hr1, hg1⟩
  have R1 : Hid (RdBM w1 R s) := hr1
  have G1 : Hid (Gr w w1 (some R) (some R)) := hg1
  clear hr1 hg1 KN
  go_wp2_with fail
  refine (takeM_is w1 R v s R1.out v0 v1).mono ?_
  rintro e w2 ⟨a, c, rfl, hh, hr2, hg2, hmc⟩
  have cs := conv_str hh (min v.toNat s.length) c (by rw [List.length_take]; omega)
  rw [numsM_tx, (take_min s v.toNat).1] at cs
  rw [(take_min s v.toNat).2] at hr2
  have R2 : Hid (RdBM w2 R (s.drop v.toNat)) := hr2
  have G2 : Hid (Gr w w2 (some R) (some R)) := G1.out.trans hg2
  clear hh hr2 hg2
  go_wp2_with fail
  go_ret
  exact ⟨rfl, R2.out, G2.out⟩
end Go.Proofs.YtlddoobomjcldaaDoor
