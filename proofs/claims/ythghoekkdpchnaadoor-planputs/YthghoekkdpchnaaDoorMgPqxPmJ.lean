/- manifest.Size at a Plan seat. -/
import Derived.Test.YthghoekkdpchnaaDoorMgPq3
import Derived.Test.YthghoekkdpchnaaDoorMgPq5
import Derived.Deep.MidRow
namespace Go.Proofs.YthghoekkdpchnaaDoor
open Go.ChangeShapes Go.WideShapes Go.ChangeAt Go.RowKit Go.Deep Go.Maps
set_option linter.unusedVariables false
theorem ssz_take {l : List Rf} {j : Nat} {x : Rf} (h : l[j]? = some x) : ssz (l.take (j + 1)) = ssz (l.take j) + x.2 := by
  have key : ∀ (l : List Rf) (x : Rf), ssz (l ++ [x]) = ssz l + x.2 := by
    intro l x
    induction l with
    | nil => simp [ssz]
    | cons y l ih => simp only [List.cons_append, ssz, ih]; omega
  obtain ⟨hj, e⟩ := List.getElem?_eq_some_iff.1 h
  rw [List.take_succ_eq_append_getElem hj, e, key]
theorem ssz_bd {l : List Rf} (h : ∀ x ∈ l, 0 ≤ x.2 ∧ x.2 ≤ 2147483647) : ∀ j, j ≤ l.length → 0 ≤ ssz (l.take j) ∧ ssz (l.take j) ≤ 2147483647 * (j : Int)
  | 0, _ => by simp [ssz]
  | j + 1, hj => by
    have h1 := ssz_bd h j (by omega)
    obtain ⟨x, hx⟩ : ∃ x, l[j]? = some x := ⟨_, List.getElem?_eq_getElem (by omega)⟩
    rw [ssz_take hx]
    have := h x (List.mem_of_getElem? hx)
    omega
/-- a manifest whose texts are short enough for any machine, whose digests have 32 bytes -/
def FitM (m : Mf) : Prop := m.1.length ≤ 140737488355328 ∧ m.2.1.length ≤ 140737488355328 ∧ Dgs m.2.2
set_option maxRecDepth 100000 in
set_option maxHeartbeats 4000000 in
theorem msize_is (m : Mf) (n : Nat) (hn : m.2.2.length = n) (hn62 : n ≤ 4611686018427387904) (hf : FitM m) (a : Option Addr) (c : Nat) (w : World) (hl : InR w a m.2.2) :
    Calls Tryd.prog 52 #[mv m a n c] w fun e w' => e = .returned (.int .i64 (msz m)) ∧ Below w.heap.size w w' := by
  have B0 : Below w.heap.size w (w.alloc (.cells #[.string (tx m.1), .string (tx m.2.1), .slice a n c] 62)) := (Below.refl _ _).alloc (Nat.le_refl _) _
  have K : Hid (Calls Tryd.prog 57 #[.agg #[.string (tx m.1), .string (tx m.2.1), .slice a n c]] (w.alloc (.cells #[.string (tx m.1), .string (tx m.2.1), .slice a n c] 62)) fun e w' => e = .returned (.int .i64 (mchk m)) ∧ Below (w.alloc (.cells #[.string (tx m.1), .string (tx m.2.1), .slice a n c] 62)).heap.size (w.alloc (.cells #[.string (tx m.1), .string (tx m.2.1), .slice a n c] 62)) w') := mcheck_is m n hn hn62 hf.2.2 hf.1 hf.2.1 a c _ (hl.keep B0)
  unfold mv
  by_cases hc : mchk m = 0
  · have HS : Hid (msz m = ssz m.2.2) := if_pos hc
    have hok := mchk_ok hc
    rw [hc] at K
    obtain ⟨N, V, l⟩ := m
    simp only at *
    rw [HS.out]
    have HL : Hid (InR w a l) := hl
    have HN : Hid (l.length = n) := hn
    have HD : Hid (Dgs l) := hf.2.2
    have h8 : n ≤ 8 := by rw [← hn]; exact hok.2.2.1
    have HZ : Hid (∀ x ∈ l, 0 ≤ x.2 ∧ x.2 ≤ 2147483647) := hok.2.2.2
    obtain ⟨T, hT⟩ : ∃ T, T = ssz l := ⟨_, rfl⟩
    rw [← hT]
    have HTT : Hid (T = ssz l) := hT
    generalize tx N = SN at *
    generalize tx V = SV at *
    clear hl hn hf hok hc hT HS
    have hz33 := (zero_of_info zero33_info).1
    go_enter Tryd.func52, Tryd.ntmps52
    go_wp2_with fail
    refine K.out.mono ?_
    rintro e w1 ⟨rfl, hb1⟩
    obtain ⟨g1, hb2⟩ := one_blockM hb1
    have B1 : Hid (Below w.heap.size w w1) := hb2
    have d2 : w1.cell? ⟨w.heap.size, 2, none⟩ = some (.slice a n c) := by rw [cell_of_row w1 _ 2 _ _ _ g1]; rfl
    clear hb1 hb2 g1 K B0
    go_wp2_with fail
    clear d2
    go_loopg [3, 12] n (fun g v i wr => ∃ (j : Nat), j ≤ n ∧ g = n - j ∧ i = .int .i64 j ∧ v = .int .i64 (ssz (l.take j)) ∧ Hid (Below w.heap.size w wr))
    case atStart => exact ⟨0, Nat.zero_le _, rfl, rfl, rfl, B1⟩
    case round =>
      obtain ⟨j, hj, rfl, rfl, rfl, HW⟩ := hrel
      by_cases hlt : j < n
      · have j1 : (j : Int) < (n : Int) := by omega
        obtain ⟨x, hx⟩ : ∃ x, l[j]? = some x := ⟨l[j]'(by rw [HN.out]; exact hlt), by simp [HN.out, hlt]⟩
        obtain ⟨b, off, rfl, hbw, hrg⟩ := HL.out.at hx
        have hdg := HD.out x (List.mem_of_getElem? hx)
        have hzx := HZ.out x (List.mem_of_getElem? hx)
        have hbd := ssz_bd HZ.out j (by rw [HN.out]; omega)
        have HST : Hid (ssz (l.take (j + 1)) = ssz (l.take j) + x.2) := ssz_take hx
        have HRG : Hid (wr.rangeAt b (off + j * 33) (rcl x)) := rangeAt_below hrg HW.out hbw
        have hsz := HW.out.size
        have HA : Hid ((wr.alloc (.cells z33 68)).heap[wr.heap.size]? = some (.cells z33 68)) := heap_alloc_new wr _
        obtain ⟨W3, hW3⟩ : ∃ W3, W3 = (wr.alloc (.cells z33 68)).setRow wr.heap.size (rcl x).toArray := ⟨_, rfl⟩
        have HR3 : W3.heap[wr.heap.size]? = some (.cells (rcl x).toArray 68) := by rw [hW3]; exact setRow_heap _ _ _ _ _ _ HA.out
        have B4 : Below wr.heap.size wr W3 := by rw [hW3]; exact below_setRow ((Below.refl _ _).alloc (Nat.le_refl _) _) (Nat.le_refl _) _
        have hcs : W3.cell? ⟨wr.heap.size, 32, none⟩ = some (.int .i64 x.2) := by have := rcl_size hdg.1 (row_range HR3); rwa [Nat.zero_add] at this
        have HB4 : Hid (Below w.heap.size w W3) := HW.out.trans (B4.mono hsz)
        have HL33 : Hid ((rcl x).length = 33) := rcl_len hdg.1
        have HOne : Hid ((rcl x).toArray.all (·.oneCell') = true) := rcl_one x
        have HZs : Hid (z33.size = 33) := z33_size
        have HW3 : Hid (W3 = (wr.alloc (.cells z33 68)).setRow wr.heap.size (rcl x).toArray) := hW3
        have HJ8 : Hid ((j : Int) ≤ 8) := by show _ ≤ _; omega
        have hS : 0 ≤ ssz (l.take j) ∧ ssz (l.take j) ≤ 17179869176 := by have := HJ8.out; omega
        clear hx hrg hdg B4 HR3 hW3 hbd
        obtain ⟨dg, z⟩ := x
        simp only at *
        generalize hC : rcl (dg, z) = C at *
        generalize z33 = Z at *
        generalize ssz (l.take j) = S at *
        clear hC
        go_wp2_with (first | (refine wpList_load_mid rfl 68 (.tmp 14) rfl b (off + j * 33) rfl C _ HRG.out Tryd.underlying68 rfl (by rw [HL33.out]; exact size33) ?_) | (refine wpList_store_row rfl 68 (.tmp 5) (.tmp 15) rfl wr.heap.size C.toArray rfl rfl 68 Z HA.out (by rw [List.size_toArray, HL33.out]; exact size33) (by rw [HZs.out, List.size_toArray, HL33.out]) HOne.out ?_; rw [← HW3.out]))
        go_roundg (n - (j + 1))
        case measure => omega
        case rel => exact ⟨j + 1, by omega, rfl, by go_num, by rw [HST.out]; try go_num, HB4⟩
      · have e : j = n := by omega
        subst e
        have j1 : ¬ (j : Int) < (j : Int) := by omega
        have HT2 : Hid (T = ssz (l.take j)) := by show _ = _; rw [HTT.out, List.take_of_length_le (by rw [HN.out]; omega)]
        go_wp2_with fail
        go_ret
        refine ⟨?_, HW.out⟩
        rw [HT2.out]
        rfl
  · have HS : Hid (msz m = 0) := if_neg hc
    rw [HS.out]
    generalize mchk m = r at *
    generalize tx m.1 = SN at *
    generalize tx m.2.1 = SV at *
    clear hl hn hf B0
    go_enter Tryd.func52, Tryd.ntmps52
    go_wp2_with fail
    refine K.out.mono ?_
    rintro e w1 ⟨rfl, hb1⟩
    obtain ⟨g1, hb2⟩ := one_blockM hb1
    have B1 : Hid (Below w.heap.size w w1) := hb2
    clear hb1 hb2 g1 K
    go_wp2_with fail
    go_ret
    exact ⟨rfl, B1.out⟩
end Go.Proofs.YthghoekkdpchnaaDoor
