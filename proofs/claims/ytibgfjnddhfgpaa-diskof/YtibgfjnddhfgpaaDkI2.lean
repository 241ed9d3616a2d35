/- Rows of bytes that may be read; disk.Of. -/
import Derived.Test.YtibgfjnddhfgpaaDkK
import Derived.Test.YtibgfjnddhfgpaaDkB
import Derived.Test.YtibgfjnddhfgpaaDkV
import Derived.Laws.IdiomCopy
namespace Go.Proofs.Ytibgfjnddhfgpaa
open Go.ChangeShapes Go.WideShapes Go.ChangeAt Go.RowKit Go.Deep Go.Maps
set_option linter.unusedVariables false
/-- a slice of rows of bytes that may be read -/
def In2 (w : World) (a : Option Addr) (len : Nat) (V : Nat → Option Addr × Nat × Nat) (M : Nat → List Int) : Prop :=
  (0 < len → ∃ b off, a = some ⟨b, off, none⟩ ∧ b < w.heap.size ∧ ∀ i, i < len → w.cell? ⟨b, off + i, none⟩ = some (.slice (V i).1 (V i).2.1 (V i).2.2)) ∧
  ∀ i, i < len → Holds w (V i).1 (M i) ∧ (M i).length = (V i).2.1 ∧ IsBytes (M i) ∧ ((V i).1 = none → (V i).2.2 = 0) ∧ (∀ x, (V i).1 = some x → M i ≠ [] → x.block < w.heap.size) ∧ (V i).2.1 ≤ (V i).2.2 ∧ (V i).2.2 ≤ 9223372036854775807
theorem holds_kept {w w' : World} {a : Option Addr} {L : List Int} (h : Holds w a L) (hb : ∀ x, a = some x → L ≠ [] → w'.heap[x.block]? = w.heap[x.block]?) : Holds w' a L := by
  rcases h with h | ⟨b, off, rfl, hc⟩
  · exact .inl h
  · by_cases hL : L = []
    · exact .inl hL
    · exact .inr ⟨b, off, rfl, fun i hi => (World.cell?_of_block (a := ⟨b, off + i, none⟩) (hb ⟨b, off, none⟩ rfl hL)).trans (hc i hi)⟩
theorem In2.below {w w' : World} {a : Option Addr} {len : Nat} {V : Nat → Option Addr × Nat × Nat} {M : Nat → List Int} (h : In2 w a len V M) (hb : Below w.heap.size w w') : In2 w' a len V M := by
  refine ⟨fun h0 => ?_, fun i hi => ?_⟩
  · obtain ⟨b, off, ha, hlt, hc⟩ := h.1 h0
    exact ⟨b, off, ha, Nat.lt_of_lt_of_le hlt hb.size, fun i hi => (hb.cell (p := ⟨b, off + i, none⟩) hlt).trans (hc i hi)⟩
  · obtain ⟨h1, h2, h3, h4, h5, h6, h7⟩ := h.2 i hi
    exact ⟨holds_kept h1 fun x hx hL => hb.block _ (h5 x hx hL), h2, h3, h4, fun x hx hL => Nat.lt_of_lt_of_le (h5 x hx hL) hb.size, h6, h7⟩
theorem In2.less {w : World} {a : Option Addr} {len m : Nat} {V : Nat → Option Addr × Nat × Nat} {M : Nat → List Int} (h : In2 w a len V M) (hm : m ≤ len) : In2 w a m V M := by
  refine ⟨fun h0 => ?_, fun i hi => h.2 i (by omega)⟩
  obtain ⟨b, off, ha, hlt, hc⟩ := h.1 (by omega)
  exact ⟨b, off, ha, hlt, fun i hi => hc i (by omega)⟩
def Ds.of (M : Nat → List Int) (n : Nat) : Ds := ⟨(List.range n).map M, fun _ => [], true, 0, -1⟩
theorem dk_of_at {w' : World} {h b : Nat} {D : List (List Int)} (hd : DkAt w' h b 0 D (fun _ => []) true 0 (-1)) (h1 : 1 ≤ D.length ∧ D.length ≤ 4096) : ∃ F, Dk w' F b 0 ⟨D, fun _ => [], true, 0, -1⟩ ∧ ∀ k, F k → h ≤ k := by
  obtain ⟨gd, cd, mb, T, p⟩ := DkP.of hd
  have p0 : DkP w' 0 b 0 D (fun _ => []) true 0 (-1) gd cd mb T := ⟨Nat.zero_le _, Nat.zero_le _, p.cell, p.dur.base (Nat.zero_le _), p.is64, p.mp, p.nil, fun i x hx => by
    obtain ⟨a1, a2, a3, a4⟩ := p.row i x hx
    exact ⟨a1, a2, a3.base (Nat.zero_le _), a4⟩, p.apart⟩
  exact ⟨Fp b gd mb T, ⟨gd, cd, mb, T, p0, fun _ => Iff.rfl, h1, fun i => Nat.le_refl _, fun i hi => absurd rfl hi, ⟨Int.le_refl _, Int.le_refl _⟩, by show (-1 : Int) ≤ _; omega⟩, fun k hk => (p.fp_lt k hk).2⟩
set_option maxHeartbeats 4000000 in
theorem of_bad (a : Option Addr) (len cap : Nat) (hn : ¬ (1 ≤ len ∧ len ≤ 4096)) (w : World) : Calls Try.prog 17 #[.slice a len cap] w fun e w' => e = .returned (.tuple #[.pointer none, .int .i64 2]) ∧ w' = w := by
  have K : Hid (Calls Try.prog 29 #[.int .i64 (len : Int)] w fun e w' => e = .returned (.bool false) ∧ w' = w) := by
    have := mayHave_is (len : Int) w
    rw [decide_eq_false (by omega)] at this
    exact this
  go_enter Try.func17, Try.ntmps17
  go_wp2_with fail
  refine K.out.mono ?_
  rintro e w1 ⟨rfl, hw⟩
  obtain rfl := hw.symm
  go_wp2_with fail
  go_ret2
  exact ⟨rfl, rfl⟩
theorem list_map {M : Nat → List Int} {B : List (List Int)} {n : Nat} (hl : B.length = n) (h : ∀ j, j < n → B[j]? = some (M j)) : B = (List.range n).map M := by
  apply List.ext_getElem?
  intro j
  by_cases hj : j < n
  · rw [h j hj, List.getElem?_map, List.getElem?_range hj]
    rfl
  · rw [List.getElem?_eq_none (by omega), List.getElem?_eq_none (by simp; omega)]
set_option maxRecDepth 100000 in
set_option maxHeartbeats 8000000 in
theorem of_is (a : Option Addr) (n cap : Nat) (V : Nat → Option Addr × Nat × Nat) (M : Nat → List Int) (w : World) (h1 : 1 ≤ n) (h2 : n ≤ 4096) (hI : In2 w a n V M) :
    Calls Try.prog 17 #[.slice a n cap] w fun e w' => Below w.heap.size w w' ∧ (((∃ i, i < n ∧ (M i).length ≠ 64) ∧ e = .returned (.tuple #[.pointer none, .int .i64 2])) ∨
      ((∀ i, i < n → (M i).length = 64) ∧ ∃ b F, e = .returned (.tuple #[.pointer (some ⟨b, 0, none⟩), .int .i64 0]) ∧ Dk w' F b 0 (Ds.of M n) ∧ ∀ k, F k → w.heap.size ≤ k)) := by
  have K : Hid (Calls Try.prog 29 #[.int .i64 (n : Int)] w fun e w' => e = .returned (.bool true) ∧ w' = w) := by
    have := mayHave_is n w
    rw [decide_eq_true (by omega)] at this
    exact this
  have hmk : (Instr.makeSlice 66 (.int .i64 (n : Int)) (.int .i64 (n : Int))).run Try.prog w = .ok (.slice (some ⟨w.heap.size, 0, none⟩) n n) (w.alloc (.cells (madeCells z64 (n * 64)) 75)) := by
    obtain ⟨i, hi, hz, hs, hb⟩ := infoB
    have := run_make (P := Try.prog) w 66 75 i _ Try.underlying66 hi hz .i64 .i64 (n : Int) (n : Int) (by omega) (Int.le_refl _) (by rw [hb]; omega) (by omega)
    rw [hs] at this
    simpa [show (Value.agg z64).cells = z64 from rfl] using this
  have O0 : Hid (OwnB (w.alloc (.cells (madeCells z64 (n * 64)) 75)) w.heap.size (.slice (some ⟨w.heap.size, 0, none⟩) n n) (noughts n)) := ownB_made w n h2
  have B0 : Hid (Below w.heap.size w (w.alloc (.cells (madeCells z64 (n * 64)) 75))) := (Below.refl _ _).alloc (Nat.le_refl _) _
  have HI : Hid (In2 w a n V M) := hI
  generalize madeCells z64 (n * 64) = mc at *
  clear hI
  go_enter Try.func17, Try.ntmps17
  go_wp2_with fail
  refine K.out.mono ?_
  rintro e w1 ⟨rfl, hw⟩
  obtain rfl := hw.symm
  clear hw K
  go_wp2_with fail
  go_loopg [16] n (fun gg iv wr => ∃ (i : Nat) (B : List (List Int)), i ≤ n ∧ gg = n - i ∧ iv = .int .i64 (i : Int) ∧ Hid (OwnB wr w.heap.size (.slice (some ⟨w.heap.size, 0, none⟩) n n) B ∧ Is64 B ∧ B.length = n ∧ (∀ j, j < i → B[j]? = some (M j) ∧ (M j).length = 64)) ∧ Hid (Below w.heap.size w wr))
  case atStart => exact ⟨0, noughts n, by omega, rfl, rfl, ⟨O0.out, noughts_64 n, by simp [noughts], fun j hj => by omega⟩, B0⟩
  case round =>
    obtain ⟨i, B, hin, rfl, rfl, PB, BW⟩ := hrel
    clear O0 B0 hmk
    by_cases hi : i < n
    · have g1 : decide ((i : Int) < (n : Int)) = true := by rw [decide_eq_true_eq]; omega
      have ri : IntKind.i64.wrap ((i : Int) + 1) = (i : Int) + 1 := by rw [IntKind.wrap_i64]; omega
      have hia := HI.out.below BW.out
      obtain ⟨ib, off, rfl, hib, hcells⟩ := hia.1 (by omega)
      have c0 := hcells i hi
      obtain ⟨r1, r2, r3, r4, r5, r6, r7⟩ := hia.2 i hi
      generalize hv : V i = v at *
      obtain ⟨va, vl, vc⟩ := v
      simp only at c0 r1 r2 r4 r5 r6 r7
      by_cases hl : vl = 64
      · subst hl
        obtain ⟨xb, xo, rfl, hsrc⟩ : ∃ xb xo, va = some ⟨xb, xo, none⟩ ∧ ∀ j, j < (M i).length → wr.cell? ⟨xb, xo + j, none⟩ = some (.int .u8 ((M i).getD j 0)) := by
          rcases r1 with h | h
          · rw [h] at r2; simp at r2
          · exact h
        have hth := PB.out.1.there PB.out.2.1 i (B[i]'(by have := PB.out.2.2.1; omega)) (List.getElem?_eq_getElem _)
        have hcp : ∀ ty, (Builtin.copy_ #[35, 35] ty #[.slice (some ⟨w.heap.size, i * 64, none⟩) 64 64, .slice (some ⟨xb, xo, none⟩) 64 vc]).run Try.prog wr = .ok (.int .i64 64) (wr.setCells w.heap.size (i * 64) ((M i).map (Value.int .u8))) := fun ty => by
          have := run_copy_cells (P := Try.prog) wr 35 35 ty 5 w.heap.size (i * 64) 64 64 ⟨xb, xo, none⟩ 64 vc ((M i).map (Value.int .u8)) Try.underlying35 (by kernel_rfl) (by rw [List.length_map, r2]; rfl) (fun j v hv => by
            rw [List.getElem?_map] at hv
            obtain ⟨y, hy, rfl⟩ := Option.map_eq_some_iff.1 hv
            have hj := (List.getElem?_eq_some_iff.1 hy).1
            rw [Addr.add_mid, hsrc j hj, List.getD_eq_getElem?_getD, hy]
            rfl) (fun j hj => (hth j (by rw [List.length_map] at hj; omega)).1) (fun j hj => (hth j (by rw [List.length_map] at hj; omega)).2) (ints_oneCell _ _)
          rw [this, List.length_map, r2]
          rfl
        have PN : Hid (OwnB (wr.setCells w.heap.size (i * 64) ((M i).map (Value.int .u8))) w.heap.size (.slice (some ⟨w.heap.size, 0, none⟩) n n) (B.set i (M i)) ∧ Is64 (B.set i (M i)) ∧ (B.set i (M i)).length = n ∧ (∀ j, j < i + 1 → (B.set i (M i))[j]? = some (M j) ∧ (M j).length = 64)) := by
          have hl := PB.out.2.2.1
          refine ⟨OwnB.put hl PB.out.1 PB.out.2.1 i (by omega) (M i) ⟨r2, r3⟩, is64_set PB.out.2.1 i (M i) ⟨r2, r3⟩, by rw [List.length_set]; exact hl, fun j hj => ?_⟩
          by_cases e : j = i
          · subst e
            exact ⟨List.getElem?_set_self (by omega), r2⟩
          · rw [List.getElem?_set_ne (fun e' => e e'.symm)]
            exact PB.out.2.2.2 j (by omega)
        have BN : Hid (Below w.heap.size w (wr.setCells w.heap.size (i * 64) ((M i).map (Value.int .u8)))) := BW.out.grown (grown_sets _ _ _ _) BW.out.size (fun k e => by have := Option.some.inj e; omega)
        generalize wr.setCells w.heap.size (i * 64) ((M i).map (Value.int .u8)) = w5 at *
        clear hth r1 r2 r3 r4 r5 r6 r7 hia hcells hsrc
        go_wp2_with fail
        go_roundg (n - (i + 1))
        case measure => omega
        case rel => exact ⟨i + 1, B.set i (M i), by omega, rfl, by simp, PN, BN⟩
      · have f1 : ((vl : Int) != 64) = true := by simp; omega
        go_wp2_with fail
        go_ret2
        exact ⟨BW.out, .inl ⟨⟨i, hi, by rw [r2]; exact hl⟩, rfl⟩⟩
    · have g1 : decide ((i : Int) < (n : Int)) = false := by rw [decide_eq_false_iff_not]; omega
      obtain rfl : i = n := by omega
      have KF : Hid (Calls Try.prog 30 #[.slice (some ⟨w.heap.size, 0, none⟩) i i] wr fun e w' => ∃ b, e = .returned (.pointer (some ⟨b, 0, none⟩)) ∧ DkAt w' w.heap.size b 0 B (fun _ => []) true 0 (-1) ∧ Below wr.heap.size wr w') := fresh_is w.heap.size i i B w.heap.size PB.out.2.2.1 wr PB.out.1 PB.out.2.1 BW.out.size
      go_wp2_with fail
      refine KF.out.mono ?_
      rintro e w2 ⟨b, rfl, hd, hb2⟩
      have HD : Hid (DkAt w2 w.heap.size b 0 B (fun _ => []) true 0 (-1)) := hd
      have B2 : Hid (Below w.heap.size w w2) := BW.out.trans (hb2.mono BW.out.size)
      clear hd hb2 KF
      go_wp2_with fail
      go_ret2
      obtain ⟨F, hF, hF2⟩ := dk_of_at HD.out (by rw [PB.out.2.2.1]; exact ⟨h1, h2⟩)
      rw [list_map PB.out.2.2.1 (fun j hj => (PB.out.2.2.2 j hj).1)] at hF
      exact ⟨B2.out, .inr ⟨fun j hj => (PB.out.2.2.2 j hj).2, b, F, rfl, hF, hF2⟩⟩
end Go.Proofs.Ytibgfjnddhfgpaa
