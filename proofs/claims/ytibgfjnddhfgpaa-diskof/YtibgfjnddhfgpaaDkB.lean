/- the law's own bytesOf. -/
import Derived.Test.YtibgfjnddhfgpaaMem
import Derived.Deep.OwnRows
namespace Go.Proofs.Ytibgfjnddhfgpaa
open Go.ChangeShapes Go.WideShapes Go.ChangeAt Go.RowKit Go.Deep
set_option linter.unusedVariables false
/-- how many bytes, and which -/
def bN (long : Int) : Nat := if long = 0 then 64 else (Int.tmod (Int.tmod long 100 + 100) 100).toNat
def bL (n long : Int) : List Int := List.replicate (bN long) (n % 256)
theorem tmod_in (x : Int) (n : Nat) (h : 0 < n) : -(n : Int) < x.tmod n ∧ x.tmod n < n := by
  rcases Int.le_total 0 x with g | g
  · rw [Int.tmod_eq_emod_of_nonneg g]
    have := Int.emod_nonneg x (show (n : Int) ≠ 0 by omega)
    have := Int.emod_lt_of_pos x (show (0 : Int) < n by omega)
    omega
  · have e : x.tmod n = -((-x).tmod n) := by rw [Int.neg_tmod, Int.neg_neg]
    rw [e, Int.tmod_eq_emod_of_nonneg (by omega)]
    have := Int.emod_nonneg (-x) (show (n : Int) ≠ 0 by omega)
    have := Int.emod_lt_of_pos (-x) (show (0 : Int) < n by omega)
    omega
theorem bN_is {x : Int} (h : x ≠ 0) : Int.tmod (Int.tmod x 100 + 100) 100 = (bN x : Int) ∧ bN x < 100 := by
  have g : -(100 : Int) < x.tmod 100 ∧ x.tmod 100 < 100 := tmod_in x 100 (by omega)
  have e := Int.tmod_eq_emod_of_nonneg (a := Int.tmod x 100 + 100) (b := 100) (by omega)
  have h0 := Int.emod_nonneg (Int.tmod x 100 + 100) (show (100 : Int) ≠ 0 by omega)
  have h1 := Int.emod_lt_of_pos (Int.tmod x 100 + 100) (show (0 : Int) < 100 by omega)
  unfold bN
  rw [if_neg h, e]
  omega
theorem bN_zero : bN 0 = 64 := rfl
theorem bL_bytes (n long : Int) : IsBytes (bL n long) := bytes_of_mem fun x hx => by
  rw [(List.mem_replicate.1 hx).2]
  omega
theorem madeO (w : World) (N : Nat) (hN : N ≤ 100) : Owned (w.alloc (.cells (madeCells #[.int .u8 0] N) 5)) w.heap.size (.slice (some ⟨w.heap.size, 0, none⟩) N N) (List.replicate N 0) := by
  unfold Owned
  have e : (madeCells #[Value.int .u8 0] N) = ((List.replicate N (0 : Int)).map (Value.int .u8)).toArray := by
    apply Array.ext'
    simp only [madeCells]
    rw [List.map_replicate, List.eq_replicate_iff]
    refine ⟨by simp, fun b hb => ?_⟩
    simp at hb
    obtain ⟨x, _, rfl⟩ := hb
    simp [Nat.mod_one]
  rw [e]
  refine ⟨by simp, .inr ⟨w.heap.size, N, _, by simp, Nat.le_refl _, heap_alloc_new w _, by simp, by simp [maxLen]; omega, by simp, ?_⟩⟩
  simp
theorem Owned.set {w : World} {base g n c : Nat} {A : List Int} (h : Owned w base (.slice (some ⟨g, 0, none⟩) n c) A) (hn : A.length = n) (j : Nat) (x : Int) : Owned (w.setCell ⟨g, j, none⟩ (.int .u8 x)) base (.slice (some ⟨g, 0, none⟩) n c) (A.set j x) := by
  have hst := World.ownsRow.stored (n := n) (show w.ownsRow base 5 1 (.slice (some ⟨g, 0, none⟩) n c) n (A.map (Value.int .u8)) by have := h; unfold Owned at this; rw [hn] at this; exact this) j (.int .u8 x)
  unfold Owned
  rw [List.length_set, hn, List.map_set]
  exact hst.1
theorem rep_set (N j : Nat) (b : Int) (hj : j < N) : (List.replicate j b ++ List.replicate (N - j) (0 : Int)).set j b = List.replicate (j + 1) b ++ List.replicate (N - (j + 1)) 0 := by
  obtain ⟨m, rfl⟩ : ∃ m, N = j + m + 1 := ⟨N - j - 1, by omega⟩
  rw [show j + m + 1 - j = m + 1 by omega, show j + m + 1 - (j + 1) = m by omega, List.replicate_succ, List.set_append_right _ _ (by simp)]
  simp [List.replicate_succ', List.append_assoc]
set_option maxRecDepth 100000 in
set_option maxHeartbeats 4000000 in
theorem bytesOf_is (k a n long : Int) (u : Value) (hn : -9223372036854775808 ≤ n ∧ n ≤ 9223372036854775807) (hl : -9223372036854775808 ≤ long ∧ long ≤ 9223372036854775807) (hu : u.oneCell' = true) (w : World) :
    Calls Try.prog 25 #[.agg #[.int .i64 k, .int .i64 a, .int .i64 n, .int .i64 long, u]] w fun e w' => ∃ g, e = .returned (.slice (some ⟨g, 0, none⟩) (bN long) (bN long)) ∧ Owned w' w.heap.size (.slice (some ⟨g, 0, none⟩) (bN long) (bN long)) (bL n long) ∧ Below w.heap.size w w' := by
  unfold bL
  have hN : bN long ≤ 99 := by
    by_cases h : long = 0
    · rw [h, bN_zero]; omega
    · have := (bN_is h).2; omega
  have HT : Hid (long ≠ 0 → Int.tmod (Int.tmod long 100 + 100) 100 = (bN long : Int)) := fun h => (bN_is h).1
  have H0 : Hid (long = 0 → bN long = 64) := fun h => by rw [h]; rfl
  have hw1 : -100 ≤ Int.tmod long 100 ∧ Int.tmod long 100 ≤ 100 := by
    have g : -(100 : Int) < long.tmod 100 ∧ long.tmod 100 < 100 := tmod_in long 100 (by omega)
    omega
  generalize bN long = N at *
  have hmk : ∀ W : World, (Instr.makeSlice 35 (.int .i64 (N : Int)) (.int .i64 (N : Int))).run Try.prog W = .ok (.slice (some ⟨W.heap.size, 0, none⟩) N N) (W.alloc (.cells (madeCells #[.int .u8 0] N) 5)) := fun W => run_make_row' 35 5 (.int .u8 0) 1 Try.underlying35 info8 rfl .i64 .i64 N (by omega) (by omega) W
  by_cases hz : long = 0
  · have hN64 : N = 64 := H0.out hz
    subst hN64
    subst hz
    have hmk2 : ∀ W : World, (Instr.makeSlice 35 (.int .i64 64) (.int .i64 64)).run Try.prog W = .ok (.slice (some ⟨W.heap.size, 0, none⟩) 64 64) (W.alloc (.cells (madeCells #[.int .u8 0] 64) 5)) := hmk
    clear HT H0 hmk
    go_enter Try.func25, Try.ntmps25
    go_wp2_with fail
    obtain ⟨h, hh⟩ : ∃ h, h = w.heap.size := ⟨_, rfl⟩
    have HH : Hid (h = w.heap.size) := hh
    have W2 : Hid (Owned ((w.alloc (.cells #[.int .i64 k, .int .i64 a, .int .i64 n, .int .i64 0, u] 32)).alloc (.cells (madeCells #[.int .u8 0] 64) 5)) (h + 1) (.slice (some ⟨w.heap.size + 1, 0, none⟩) 64 64) (List.replicate 64 0)) := by
      have := madeO (w.alloc (.cells #[.int .i64 k, .int .i64 a, .int .i64 n, .int .i64 0, u] 32)) 64 (by omega)
      have e : (w.alloc (.cells #[.int .i64 k, .int .i64 a, .int .i64 n, .int .i64 0, u] 32)).heap.size = w.heap.size + 1 := by simp
      rw [e] at this
      rw [hh]
      exact this
    have B2 : Hid (Below (h + 1) (w.alloc (.cells #[.int .i64 k, .int .i64 a, .int .i64 n, .int .i64 0, u] 32)) ((w.alloc (.cells #[.int .i64 k, .int .i64 a, .int .i64 n, .int .i64 0, u] 32)).alloc (.cells (madeCells #[.int .u8 0] 64) 5))) := (Below.refl _ _).alloc (by simp [hh]) _
    go_loopg [18] 64 (fun g i wr => ∃ j : Nat, j ≤ 64 ∧ g = 64 - j ∧ i = .int .i64 j ∧ Hid (Owned wr (h + 1) (.slice (some ⟨w.heap.size + 1, 0, none⟩) 64 64) (List.replicate j (n % 256) ++ List.replicate (64 - j) 0)) ∧ Hid (Below (h + 1) (w.alloc (.cells #[.int .i64 k, .int .i64 a, .int .i64 n, .int .i64 0, u] 32)) wr))
    case atStart => exact ⟨0, Nat.zero_le _, rfl, rfl, W2, B2⟩
    case round =>
      obtain ⟨j, hj, rfl, rfl, OW, BW⟩ := hrel
      by_cases hlt : j < 64
      · have j1 : (j : Int) < 64 := by omega
        have hcn : wr.cell? ⟨w.heap.size, 2, none⟩ = some (.int .i64 n) := by
          have := BW.out.cell (p := ⟨w.heap.size, 2, none⟩) (by rw [hh]; exact Nat.lt_succ_self _)
          rw [this, cell_of_row _ w.heap.size 2 _ _ (0, 0) (heap_alloc_new w _)]
          rfl
        have hlen : (List.replicate j (n % 256) ++ List.replicate (64 - j) (0 : Int)).length = 64 := by simp; omega
        have hcj : wr.cell? ⟨w.heap.size + 1, j, none⟩ = some (.int .u8 ((List.replicate j (n % 256) ++ List.replicate (64 - j) (0 : Int)).getD j 0)) := by
          rw [World.ownsRow.cellAt (n := 64) (by have := OW.out; unfold Owned at this; rw [hlen] at this; exact this) j (by omega)]
          rw [List.getElem?_map, List.getD_eq_getElem?_getD, List.getElem?_eq_getElem (show j < (List.replicate j (n % 256) ++ List.replicate (64 - j) (0 : Int)).length by omega)]
          rfl
        have hfz : wr.frozen? ⟨w.heap.size + 1, j, none⟩ = false := World.ownsRow.frozenAt (n := 64) (by have := OW.out; unfold Owned at this; rw [hlen] at this; exact this) j
        have O2 : Hid (Owned (wr.setCell ⟨w.heap.size + 1, j, none⟩ (.int .u8 (n % 256))) (h + 1) (.slice (some ⟨w.heap.size + 1, 0, none⟩) 64 64) (List.replicate (j + 1) (n % 256) ++ List.replicate (64 - (j + 1)) 0)) := by
          have := OW.out.set hlen j (n % 256)
          rw [rep_set 64 j _ hlt] at this
          exact this
        have B3 : Hid (Below (h + 1) (w.alloc (.cells #[.int .i64 k, .int .i64 a, .int .i64 n, .int .i64 0, u] 32)) (wr.setCell ⟨w.heap.size + 1, j, none⟩ (.int .u8 (n % 256)))) := BW.out.setCell (p := ⟨w.heap.size + 1, j, none⟩) (by rw [hh]; exact Nat.le_refl _) _
        generalize (List.replicate j (n % 256) ++ List.replicate (64 - j) (0 : Int)).getD j 0 = old at *
        clear hlen OW BW
        go_wp2_with fail
        go_roundg (64 - (j + 1))
        case measure => omega
        case rel => exact ⟨j + 1, by omega, rfl, by go_num, O2, B3⟩
      · obtain rfl : j = 64 := by omega
        have j1 : ¬ (64 : Int) < 64 := by omega
        have O9 : Owned wr (h + 1) (.slice (some ⟨w.heap.size + 1, 0, none⟩) 64 64) (List.replicate 64 (n % 256)) := by
          have := OW.out
          rw [Nat.sub_self, List.replicate_zero, List.append_nil] at this
          exact this
        have O8 : Hid (Owned wr w.heap.size (.slice (some ⟨w.heap.size + 1, 0, none⟩) 64 64) (List.replicate 64 (n % 256))) := by
          refine ⟨O9.1, ?_⟩
          rcases O9.2 with e | ⟨g1, cap, cur, e1, e2, e3⟩
          · exact .inl e
          · exact .inr ⟨g1, cap, cur, e1, by omega, e3⟩
        have B9 : Hid (Below w.heap.size w wr) := ((Below.refl _ _).alloc (Nat.le_refl _) _).trans (BW.out.mono (by omega))
        clear O9
        go_wp2_with fail
        go_ret
        exact ⟨_, rfl, O8.out, B9.out⟩
  · have hz2 : (long != 0) = true := by simpa using hz
    have ht := HT.out hz
    have ht2 : (wrap64 (long.tmod 100 + 100)).tmod 100 = (N : Int) := by rw [show wrap64 (long.tmod 100 + 100) = long.tmod 100 + 100 by unfold wrap64; omega]; exact ht
    clear HT H0
    go_enter Try.func25, Try.ntmps25
    go_wp2_with fail
    obtain ⟨h, hh⟩ : ∃ h, h = w.heap.size := ⟨_, rfl⟩
    have HH : Hid (h = w.heap.size) := hh
    have W2 : Hid (Owned ((w.alloc (.cells #[.int .i64 k, .int .i64 a, .int .i64 n, .int .i64 long, u] 32)).alloc (.cells (madeCells #[.int .u8 0] N) 5)) (h + 1) (.slice (some ⟨w.heap.size + 1, 0, none⟩) N N) (List.replicate N 0)) := by
      have := madeO (w.alloc (.cells #[.int .i64 k, .int .i64 a, .int .i64 n, .int .i64 long, u] 32)) N (by omega)
      have e : (w.alloc (.cells #[.int .i64 k, .int .i64 a, .int .i64 n, .int .i64 long, u] 32)).heap.size = w.heap.size + 1 := by simp
      rw [e] at this
      rw [hh]
      exact this
    have B2 : Hid (Below (h + 1) (w.alloc (.cells #[.int .i64 k, .int .i64 a, .int .i64 n, .int .i64 long, u] 32)) ((w.alloc (.cells #[.int .i64 k, .int .i64 a, .int .i64 n, .int .i64 long, u] 32)).alloc (.cells (madeCells #[.int .u8 0] N) 5))) := (Below.refl _ _).alloc (by simp [hh]) _
    go_loopg [18] N (fun g i wr => ∃ j : Nat, j ≤ N ∧ g = N - j ∧ i = .int .i64 j ∧ Hid (Owned wr (h + 1) (.slice (some ⟨w.heap.size + 1, 0, none⟩) N N) (List.replicate j (n % 256) ++ List.replicate (N - j) 0)) ∧ Hid (Below (h + 1) (w.alloc (.cells #[.int .i64 k, .int .i64 a, .int .i64 n, .int .i64 long, u] 32)) wr))
    case atStart => exact ⟨0, Nat.zero_le _, rfl, rfl, W2, B2⟩
    case round =>
      obtain ⟨j, hj, rfl, rfl, OW, BW⟩ := hrel
      by_cases hlt : j < N
      · have j1 : (j : Int) < (N : Int) := by omega
        have hcn : wr.cell? ⟨w.heap.size, 2, none⟩ = some (.int .i64 n) := by
          have := BW.out.cell (p := ⟨w.heap.size, 2, none⟩) (by rw [hh]; exact Nat.lt_succ_self _)
          rw [this, cell_of_row _ w.heap.size 2 _ _ (0, 0) (heap_alloc_new w _)]
          rfl
        have hlen : (List.replicate j (n % 256) ++ List.replicate (N - j) (0 : Int)).length = N := by simp; omega
        have hcj : wr.cell? ⟨w.heap.size + 1, j, none⟩ = some (.int .u8 ((List.replicate j (n % 256) ++ List.replicate (N - j) (0 : Int)).getD j 0)) := by
          rw [World.ownsRow.cellAt (n := N) (by have := OW.out; unfold Owned at this; rw [hlen] at this; exact this) j (by omega)]
          rw [List.getElem?_map, List.getD_eq_getElem?_getD, List.getElem?_eq_getElem (show j < (List.replicate j (n % 256) ++ List.replicate (N - j) (0 : Int)).length by omega)]
          rfl
        have hfz : wr.frozen? ⟨w.heap.size + 1, j, none⟩ = false := World.ownsRow.frozenAt (n := N) (by have := OW.out; unfold Owned at this; rw [hlen] at this; exact this) j
        have O2 : Hid (Owned (wr.setCell ⟨w.heap.size + 1, j, none⟩ (.int .u8 (n % 256))) (h + 1) (.slice (some ⟨w.heap.size + 1, 0, none⟩) N N) (List.replicate (j + 1) (n % 256) ++ List.replicate (N - (j + 1)) 0)) := by
          have := OW.out.set hlen j (n % 256)
          rw [rep_set N j _ hlt] at this
          exact this
        have B3 : Hid (Below (h + 1) (w.alloc (.cells #[.int .i64 k, .int .i64 a, .int .i64 n, .int .i64 long, u] 32)) (wr.setCell ⟨w.heap.size + 1, j, none⟩ (.int .u8 (n % 256)))) := BW.out.setCell (p := ⟨w.heap.size + 1, j, none⟩) (by rw [hh]; exact Nat.le_refl _) _
        generalize (List.replicate j (n % 256) ++ List.replicate (N - j) (0 : Int)).getD j 0 = old at *
        clear hlen OW BW
        go_wp2_with fail
        go_roundg (N - (j + 1))
        case measure => omega
        case rel => exact ⟨j + 1, by omega, rfl, by go_num, O2, B3⟩
      · have ej : j = N := by omega
        subst ej
        have j1 : ¬ (j : Int) < (j : Int) := by omega
        have O9 : Owned wr (h + 1) (.slice (some ⟨w.heap.size + 1, 0, none⟩) j j) (List.replicate j (n % 256)) := by
          have := OW.out
          rw [Nat.sub_self, List.replicate_zero, List.append_nil] at this
          exact this
        have O8 : Hid (Owned wr w.heap.size (.slice (some ⟨w.heap.size + 1, 0, none⟩) j j) (List.replicate j (n % 256))) := by
          refine ⟨O9.1, ?_⟩
          rcases O9.2 with e | ⟨g1, cap, cur, e1, e2, e3⟩
          · exact .inl e
          · exact .inr ⟨g1, cap, cur, e1, by omega, e3⟩
        have B9 : Hid (Below w.heap.size w wr) := ((Below.refl _ _).alloc (Nat.le_refl _) _).trans (BW.out.mono (by omega))
        clear O9
        go_wp2_with fail
        go_ret
        exact ⟨_, rfl, O8.out, B9.out⟩
end Go.Proofs.Ytibgfjnddhfgpaa
