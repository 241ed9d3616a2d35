/- Good. -/
import Derived.Test.YtmokonaodoiflaaPtB
namespace Go.Proofs.Ytmokonaodoiflaa
open Go.ChangeShapes Go.WideShapes Go.ChangeAt Go.RowKit Go.Deep Go.Maps
set_option linter.unusedVariables false
set_option linter.unusedSimpArgs false
/-- who is there: the committed ones, and who is staged -/
def allP (s : Int) (D : List Int) : List Int := if s = 0 then D else D ++ [s]
def inT (x : Int) : Bool := decide (1 ≤ x) && decide (x ≤ 1099511627776)
/-- may a participant be? -/
def gdP (r s : Int) (D : List Int) : Bool := (decide (1 ≤ r) && decide (r ≤ 6)) && decide ((∀ x ∈ allP s D, inT x = true) ∧ (allP s D).Nodup)
/-- as the code looks: each in its bounds, and unlike the one ahead of it -/
def stp (l : List Int) (j : Nat) : Prop := ∃ x, l[j]? = some x ∧ inT x = true ∧ (0 < j → l[j - 1]? ≠ some x)
theorem srt_perm (l : List Int) : (srt l).Perm l := List.mergeSort_perm l _
theorem srt_le (l : List Int) : (srt l).Pairwise (fun x y => x ≤ y) := by
  have := List.pairwise_mergeSort (le := fun x y : Int => decide (x ≤ y)) (fun a b c h1 h2 => by simp at *; omega) (fun a b => by simp; omega) l
  unfold srt
  rw [List.pairwise_iff_getElem] at this ⊢
  intro i j hi hj hij
  exact of_decide_eq_true (this i j hi hj hij)
theorem srt_len (l : List Int) : (srt l).length = l.length := (srt_perm l).length_eq
theorem adj_nodup {l : List Int} (h : l.Pairwise (fun x y => x ≤ y)) (hs : ∀ j, j < l.length → stp l j) : l.Nodup := by
  rw [List.Nodup, List.pairwise_iff_getElem]
  rw [List.pairwise_iff_getElem] at h
  intro i j hi hj hij
  obtain ⟨x, hx, _, hne⟩ := hs j hj
  have hne := hne (by omega)
  rw [List.getElem?_eq_getElem hj] at hx
  cases hx
  rw [List.getElem?_eq_getElem (by omega : j - 1 < l.length)] at hne
  have hne : l[j - 1] ≠ l[j] := fun e => hne (by rw [e])
  intro e
  have h1 := h (j - 1) j (by omega) hj (by omega)
  by_cases hc : i = j - 1
  · subst hc; exact hne e
  · have h2 := h i (j - 1) hi (by omega) (by omega)
    omega
theorem gd_yes {r s : Int} {D : List Int} (hr : 1 ≤ r ∧ r ≤ 6) (h : ∀ j, j < (srt (allP s D)).length → stp (srt (allP s D)) j) : gdP r s D = true := by
  unfold gdP
  rw [Bool.and_eq_true, Bool.and_eq_true, decide_eq_true_eq, decide_eq_true_eq, decide_eq_true_eq]
  refine ⟨hr, fun x hx => ?_, (srt_perm _).nodup_iff.1 (adj_nodup (srt_le _) h)⟩
  obtain ⟨j, hj, e⟩ := List.mem_iff_getElem.1 ((srt_perm _).mem_iff.2 hx)
  obtain ⟨y, hy, hi, _⟩ := h j hj
  rw [List.getElem?_eq_getElem hj, e] at hy
  cases hy
  exact hi
theorem gd_no {r s : Int} {D : List Int} {j : Nat} (hj : j < (srt (allP s D)).length) (h : ¬ stp (srt (allP s D)) j) : gdP r s D = false := by
  unfold gdP
  rw [Bool.and_eq_false_iff]
  right
  rw [decide_eq_false_iff_not]
  rintro ⟨h1, h2⟩
  refine h ⟨_, List.getElem?_eq_getElem hj, h1 _ ((srt_perm _).mem_iff.1 (List.getElem_mem hj)), fun h0 => ?_⟩
  rw [List.getElem?_eq_getElem (by omega : j - 1 < _)]
  intro e
  have h3 := (srt_perm (allP s D)).nodup_iff.2 h2
  rw [List.Nodup, List.pairwise_iff_getElem] at h3
  exact h3 (j - 1) j (by omega) hj (by omega) (Option.some.inj e)
theorem inT_eq (x : Int) : inT x = (!(decide (x < 1)) && !(decide (1099511627776 < x))) := by
  unfold inT
  rw [Bool.eq_iff_iff]
  simp
set_option maxRecDepth 100000 in
set_option maxHeartbeats 4000000 in
/-- the loop of Good, behind the sort -/
theorem pgood_is (w : World) (r s : Int) (a : Option Addr) (n c : Nat) (D : List Int) (hn : D.length = n) (hD : InZ w a D) (ha : a = none → n = 0 ∧ c = 0) (hN : n ≤ 1000000) :
    Calls Try.prog 13 #[.agg #[.int .i64 r, .int .i64 s, .slice a n c]] w fun e w' => e = .returned (.bool (gdP r s D)) ∧ Below w.heap.size w w' := by
  obtain ⟨W0, hW0⟩ : ∃ W0, W0 = w.alloc (.cells #[.int .i64 r, .int .i64 s, .slice a n c] 24) := ⟨_, rfl⟩
  have HE : Hid (W0 = w.alloc (.cells #[.int .i64 r, .int .i64 s, .slice a n c] 24)) := hW0
  have hb0 : Below w.heap.size w W0 := by rw [hW0]; exact below1 w _
  have hq : W0.heap[w.heap.size]? = some (.cells #[.int .i64 r, .int .i64 s, .slice a n c] 24) := by rw [hW0]; exact heap_alloc_new w _
  have hz : W0.heap.size = w.heap.size + 1 := by rw [hW0]; simp
  have KC : Hid (Calls Try.prog 34 #[.slice a n c] W0 fun e w' => ∃ v, e = .returned v ∧ OwnZ w' W0.heap.size v D ∧ Below W0.heap.size W0 w') := cloneZ_is W0 a n c D hn (hD.keep hb0) ha (by omega)
  have HB0 : Hid (Below w.heap.size w W0 ∧ W0.heap[w.heap.size]? = some (.cells #[.int .i64 r, .int .i64 s, .slice a n c] 24) ∧ W0.heap.size = w.heap.size + 1 ∧ D.length = n ∧ n ≤ 1000000) := ⟨hb0, hq, hz, hn, hN⟩
  obtain ⟨G, hG⟩ : ∃ G, gdP r s D = G := ⟨_, rfl⟩
  have HG : Hid (gdP r s D = G) := hG
  rw [hG]
  clear hG hb0 hq hz hn hD ha hN hW0
  by_cases h1 : r < 1
  · have d1 : decide (r < 1) = true := decide_eq_true h1
    have HR : Hid (false = G) := by show _ = _; rw [← HG.out]; unfold gdP; rw [decide_eq_false (by omega : ¬ 1 ≤ r)]; rfl
    go_enter Try.func13, Try.ntmps13
    go_wp2_with fail
    go_ret
    exact ⟨congrArg (fun z => Ending.returned (.bool z)) HR.out, by rw [← HE.out]; exact HB0.out.1⟩
  have d1 : decide (r < 1) = false := decide_eq_false h1
  by_cases h2 : 6 < r
  · have d2 : decide (6 < r) = true := decide_eq_true h2
    have HR : Hid (false = G) := by show _ = _; rw [← HG.out]; unfold gdP; rw [decide_eq_false (by omega : ¬ r ≤ 6), Bool.and_false]; rfl
    go_enter Try.func13, Try.ntmps13
    go_wp2_with fail
    go_ret
    exact ⟨congrArg (fun z => Ending.returned (.bool z)) HR.out, by rw [← HE.out]; exact HB0.out.1⟩
  have d2 : decide (6 < r) = false := decide_eq_false h2
  have HR6 : Hid (1 ≤ r ∧ r ≤ 6) := ⟨by omega, by omega⟩
  clear h1 h2
  go_enter Try.func13, Try.ntmps13
  go_wp2_with fail
  rw [← HE.out]
  clear HE
  refine KC.out.mono ?_
  rintro e w1 ⟨v1, rfl, o1, b1⟩
  obtain ⟨a1, c1, rfl, i1, l1, m1, _⟩ := o1.slice
  rw [HB0.out.2.2.2.1] at o1 l1 ⊢
  have O1 : Hid (OwnZ w1 W0.heap.size (.slice a1 n c1) D) := o1
  have B1 : Hid (Below W0.heap.size W0 w1) := b1
  have p1 := (b1.block w.heap.size (by have := HB0.out.2.2.1; omega)).trans HB0.out.2.1
  have q0 : w1.cell? ⟨w.heap.size, 0, none⟩ = some (.int .i64 r) := by rw [cell_of_row _ w.heap.size 0 _ _ (0, 0) p1]; rfl
  have q1 : w1.cell? ⟨w.heap.size, 1, none⟩ = some (.int .i64 s) := by rw [cell_of_row _ w.heap.size 1 _ _ (0, 0) p1]; rfl
  clear p1 o1 b1 i1 KC
  by_cases hs0 : s = 0
  · have e0 : (s != 0) = false := by simp [hs0]
    have HAL : Hid (D = allP s D) := by show _ = _; unfold allP; rw [if_pos hs0]
    have HA : Hid (D.length = n) := HB0.out.2.2.2.1
    have OA := O1
    have BA := B1
    clear hs0 O1 B1
    have hA : D.length = n := HA.out
    have KS : Hid (Calls Try.prog 35 #[.slice a1 n c1] w1 fun e w' => e = .returned (.tuple #[]) ∧ OwnZ w' W0.heap.size (.slice a1 n c1) (srt D) ∧ w1.grownBy w' (Value.slice a1 n c1).ownBlock) := sortZ_is w1 W0.heap.size _ _ OA.out (by have := HB0.out.2.2.2.2; rw [hA]; omega)
    clear hA
    go_wp2_with (go_at_call 35; refine KS.out.mono ?_; rintro e4 w4 ⟨rfl, o4, g4⟩; have O4 : Hid (OwnZ w4 W0.heap.size (.slice a1 n c1) (srt D)) := o4; have B4 : Hid (Below W0.heap.size W0 w4) := BA.out.grown g4 (by have := BA.out.size; omega) (fun k hk => (OA.out.own k hk).1); clear o4 g4)
    have HS : Hid ((srt D).length = n) := (srt_len _).trans HA.out
    obtain ⟨a5, c5, e5, i5, _⟩ := O4.out.slice
    rw [HS.out] at e5
    obtain ⟨rfl, rfl⟩ : a1 = a5 ∧ c1 = c5 := by injection e5 with h1 h2 h3; exact ⟨h1, h3⟩
    have I5 : Hid (InZ w4 a1 (srt D)) := i5
    obtain ⟨S, hS⟩ : ∃ S, S = srt D := ⟨_, rfl⟩
    have HSA : Hid (S = srt (allP s D)) := by show _ = _; rw [hS]; exact congrArg srt HAL.out
    rw [← hS] at I5 HS
    clear e5 i5 hS KS
    go_loopg [29] n (fun g i wr => ∃ j : Nat, j ≤ n ∧ g = n - j ∧ i = .int .i64 (j : Int) ∧ Hid ((∀ i, i < j → stp S i) ∧ wr = w4))
    case atStart => exact ⟨0, Nat.zero_le _, rfl, rfl, (fun i hi => by omega), rfl⟩
    obtain ⟨j, hj, rfl, rfl, RW⟩ := hrel
    by_cases hlt : j < n
    · have j1 : decide ((j : Int) < (((n : Nat)) : Int)) = true := by rw [decide_eq_true_eq]; omega
      obtain ⟨x, hx⟩ : ∃ x, S[j]? = some x := ⟨S[j]'(by rw [HS.out]; exact hlt), by simp [HS.out, hlt]⟩
      obtain ⟨b, off, rfl, hbw, cx⟩ := I5.out.at hx
      rw [← RW.out.2] at cx
      have ri : IntKind.i64.wrap ((j : Int) + 1) = (j : Int) + 1 := by rw [IntKind.wrap_i64]; have := HB0.out.2.2.2.2; omega
      have HNO : Hid (¬ stp S j → false = G) := fun h => by rw [← HG.out]; exact (gd_no (by rw [← HSA.out, HS.out]; exact hlt) (by rw [← HSA.out]; exact h)).symm
      have HX : Hid (S[j]? = some x) := hx
      have HBW : Hid (Below w.heap.size w wr) := by show Below _ _ _; rw [RW.out.2]; exact HB0.out.1.trans (B4.out.mono (by have := HB0.out.2.2.1; omega))
      clear hx hbw
      by_cases g1 : x < 1
      · have t1 : decide (x < 1) = true := decide_eq_true g1
        have HF : Hid (false = G) := HNO.out (fun ⟨y, hy, hi, _⟩ => by rw [HX.out] at hy; cases hy; rw [inT_eq, t1] at hi; simp at hi)
        clear HNO
        go_wp2_with fail
        go_ret
        exact ⟨congrArg (fun z => Ending.returned (.bool z)) HF.out, HBW.out⟩
      have t1 : decide (x < 1) = false := decide_eq_false g1
      by_cases g2 : 1099511627776 < x
      · have t2 : decide (1099511627776 < x) = true := decide_eq_true g2
        have HF : Hid (false = G) := HNO.out (fun ⟨y, hy, hi, _⟩ => by rw [HX.out] at hy; cases hy; rw [inT_eq, t1, t2] at hi; simp at hi)
        clear HNO
        go_wp2_with fail
        go_ret
        exact ⟨congrArg (fun z => Ending.returned (.bool z)) HF.out, HBW.out⟩
      have t2 : decide (1099511627776 < x) = false := decide_eq_false g2
      have HIT : Hid (inT x = true) := by show _ = _; rw [inT_eq, t1, t2]; rfl
      by_cases hj0 : j = 0
      · have HST : Hid (∀ i, i < j + 1 → stp S i) := fun i hi => (by
          have hij : i = j := by omega
          rw [hij]
          exact ⟨x, HX.out, HIT.out, fun h => by omega⟩)
        have t3 : decide ((0 : Int) < (j : Int)) = false := by rw [decide_eq_false_iff_not]; omega
        have t4 : decide (0 < j) = false := by rw [decide_eq_false_iff_not]; omega
        clear HNO hj0
        go_wp2_with fail
        go_roundg (n - (j + 1))
        case measure => omega
        case rel => exact ⟨j + 1, by omega, rfl, by go_num, HST.out, RW.out.2⟩
      · obtain ⟨i, hi⟩ : ∃ i, j = i + 1 := ⟨j - 1, by omega⟩
        have HIJ : Hid (j = i + 1) := hi
        have t3 : decide ((0 : Int) < (j : Int)) = true := by rw [decide_eq_true_eq]; omega
        have t5 : decide (0 < j) = true := by rw [decide_eq_true_eq]; omega
        have rj : IntKind.i64.wrap ((j : Int) - 1) = (i : Int) := by rw [IntKind.wrap_i64]; have := HB0.out.2.2.2.2; omega
        have hil : i < n := by omega
        clear hi hj0
        obtain ⟨y, hy⟩ : ∃ y, S[i]? = some y := ⟨S[i]'(by rw [HS.out]; exact hil), by simp [HS.out, hil]⟩
        obtain ⟨b2, off2, e2, _, cy⟩ := I5.out.at hy
        cases e2
        rw [← RW.out.2] at cy
        have HY : Hid (S[i]? = some y) := hy
        clear hy
        by_cases g3 : x = y
        · have HF : Hid (false = G) := HNO.out (fun ⟨z, hz, hi, hne⟩ => by rw [HX.out] at hz; cases hz; exact hne (by have := HIJ.out; omega) (by rw [show j - 1 = i by have := HIJ.out; omega, HY.out, g3]))
          subst g3
          clear HNO
          go_wp2_with fail
          go_ret
          exact ⟨congrArg (fun z => Ending.returned (.bool z)) HF.out, HBW.out⟩
        · have t4 : (x == y) = false := by simp [g3]
          have t6 : decide (x = y) = false := decide_eq_false g3
          have HST : Hid (∀ q, q < j + 1 → stp S q) := fun q hq => (by
            by_cases hq2 : q < j
            · exact RW.out.1 q hq2
            · have hqj : q = j := by omega
              rw [hqj]
              exact ⟨x, HX.out, HIT.out, fun _ => by rw [show j - 1 = i by have := HIJ.out; omega, HY.out]; intro e; exact g3 (Option.some.inj e).symm⟩)
          clear HNO g3
          go_wp2_with fail
          go_roundg (n - (j + 1))
          case measure => omega
          case rel => exact ⟨j + 1, by omega, rfl, by go_num, HST.out, RW.out.2⟩
    · have j1 : decide ((j : Int) < (((n : Nat)) : Int)) = false := by rw [decide_eq_false_iff_not]; omega
      have HF : Hid (true = G) := by show _ = _; rw [← HG.out]; exact (gd_yes HR6.out (by rw [← HSA.out, HS.out]; exact fun i hi => RW.out.1 i (by omega))).symm
      have HBW : Hid (Below w.heap.size w wr) := by show Below _ _ _; rw [RW.out.2]; exact HB0.out.1.trans (B4.out.mono (by have := HB0.out.2.2.1; omega))
      go_wp2_with fail
      go_ret
      exact ⟨congrArg (fun z => Ending.returned (.bool z)) HF.out, HBW.out⟩
  · have e0 : (s != 0) = true := by simp [hs0]
    have HAL : Hid (D ++ [s] = allP s D) := by show _ = _; unfold allP; rw [if_neg hs0]
    obtain ⟨m, hm⟩ : ∃ m, m = n + 1 := ⟨_, rfl⟩
    have HA : Hid ((D ++ [s]).length = m) := by show _ = _; rw [List.length_append, HB0.out.2.2.2.1, hm]; rfl
    have HM : Hid (m = n + 1) := hm
    have K2 : Hid (OwnZ (w1.alloc (.cells #[.int .i64 s] 3)) W0.heap.size (.slice a1 n c1) D ∧ InZ (w1.alloc (.cells #[.int .i64 s] 3)) (some ⟨w1.heap.size, 0, none⟩) [s] ∧ D.length + 1 ≤ 17592186044416 ∧ W0.heap.size ≤ (w1.alloc (.cells #[.int .i64 s] 3)).heap.size ∧ Below W0.heap.size W0 (w1.alloc (.cells #[.int .i64 s] 3))) := by
      refine ⟨O1.out.keep (below1 w1 _), .inr ⟨w1.heap.size, 0, rfl, by simp, fun i x hx => ?_⟩, by have := HB0.out; omega, by have := B1.out.size; simp; omega, B1.out.alloc B1.out.size _⟩
      have hi : i = 0 := by have := (List.getElem?_eq_some_iff.1 hx).1; simpa using this
      subst hi
      simp at hx
      subst hx
      rw [Nat.zero_add, cell_of_row _ w1.heap.size 0 _ _ (0, 0) (heap_alloc_new w1 _)]
      rfl
    clear hs0 hm
    go_upto_region 6 with (at_builtin; refine append_ints rfl (.tmp 20) (.tmp 23) rfl W0.heap.size _ D rfl K2.out.1 (some ⟨w1.heap.size, 0, none⟩) 1 1 [s] rfl rfl K2.out.2.1 (fun e => by cases e) K2.out.2.2.1 K2.out.2.2.2.1 ?_; intro v3 w3 o3 g3; have O3 : Hid (OwnZ w3 W0.heap.size v3 (D ++ [s])) := o3; have B3 : Hid (Below W0.heap.size W0 w3) := K2.out.2.2.2.2.grown g3 (by have := K2.out.2.2.2.1; omega) (fun k hk => (K2.out.1.own k hk).1); obtain ⟨a3, c3, rfl, _⟩ := O3.out.slice; rw [HA.out] at O3 ⊢; clear o3 g3)
    have OA := O3
    have BA := B3
    have HN : Hid (n + 1 ≤ 1000001) := by have := HB0.out.2.2.2.2; show _ ≤ _; omega
    clear O1 O3 B1 B3 K2
    have hA : (D ++ [s]).length = m := HA.out
    have KS : Hid (Calls Try.prog 35 #[.slice a3 m c3] w3 fun e w' => e = .returned (.tuple #[]) ∧ OwnZ w' W0.heap.size (.slice a3 m c3) (srt (D ++ [s])) ∧ w3.grownBy w' (Value.slice a3 m c3).ownBlock) := sortZ_is w3 W0.heap.size _ _ OA.out (by have := HB0.out.2.2.2.2; have := HM.out; rw [hA]; omega)
    clear hA
    go_wp2_with (go_at_call 35; refine KS.out.mono ?_; rintro e4 w4 ⟨rfl, o4, g4⟩; have O4 : Hid (OwnZ w4 W0.heap.size (.slice a3 m c3) (srt (D ++ [s]))) := o4; have B4 : Hid (Below W0.heap.size W0 w4) := BA.out.grown g4 (by have := BA.out.size; omega) (fun k hk => (OA.out.own k hk).1); clear o4 g4)
    have HS : Hid ((srt (D ++ [s])).length = m) := (srt_len _).trans HA.out
    obtain ⟨a5, c5, e5, i5, _⟩ := O4.out.slice
    rw [HS.out] at e5
    obtain ⟨rfl, rfl⟩ : a3 = a5 ∧ c3 = c5 := by injection e5 with h1 h2 h3; exact ⟨h1, h3⟩
    have I5 : Hid (InZ w4 a3 (srt (D ++ [s]))) := i5
    obtain ⟨S, hS⟩ : ∃ S, S = srt (D ++ [s]) := ⟨_, rfl⟩
    have HSA : Hid (S = srt (allP s D)) := by show _ = _; rw [hS]; exact congrArg srt HAL.out
    rw [← hS] at I5 HS
    clear e5 i5 hS KS
    go_loopg [29] m (fun g i wr => ∃ j : Nat, j ≤ m ∧ g = m - j ∧ i = .int .i64 (j : Int) ∧ Hid ((∀ i, i < j → stp S i) ∧ wr = w4))
    case atStart => exact ⟨0, Nat.zero_le _, rfl, rfl, (fun i hi => by omega), rfl⟩
    obtain ⟨j, hj, rfl, rfl, RW⟩ := hrel
    by_cases hlt : j < m
    · have j1 : decide ((j : Int) < (((m : Nat)) : Int)) = true := by rw [decide_eq_true_eq]; omega
      obtain ⟨x, hx⟩ : ∃ x, S[j]? = some x := ⟨S[j]'(by rw [HS.out]; exact hlt), by simp [HS.out, hlt]⟩
      obtain ⟨b, off, rfl, hbw, cx⟩ := I5.out.at hx
      rw [← RW.out.2] at cx
      have ri : IntKind.i64.wrap ((j : Int) + 1) = (j : Int) + 1 := by rw [IntKind.wrap_i64]; have := HB0.out.2.2.2.2; have := HM.out; omega
      have HNO : Hid (¬ stp S j → false = G) := fun h => by rw [← HG.out]; exact (gd_no (by rw [← HSA.out, HS.out]; exact hlt) (by rw [← HSA.out]; exact h)).symm
      have HX : Hid (S[j]? = some x) := hx
      have HBW : Hid (Below w.heap.size w wr) := by show Below _ _ _; rw [RW.out.2]; exact HB0.out.1.trans (B4.out.mono (by have := HB0.out.2.2.1; omega))
      clear hx hbw
      by_cases g1 : x < 1
      · have t1 : decide (x < 1) = true := decide_eq_true g1
        have HF : Hid (false = G) := HNO.out (fun ⟨y, hy, hi, _⟩ => by rw [HX.out] at hy; cases hy; rw [inT_eq, t1] at hi; simp at hi)
        clear HNO
        go_wp2_with fail
        go_ret
        exact ⟨congrArg (fun z => Ending.returned (.bool z)) HF.out, HBW.out⟩
      have t1 : decide (x < 1) = false := decide_eq_false g1
      by_cases g2 : 1099511627776 < x
      · have t2 : decide (1099511627776 < x) = true := decide_eq_true g2
        have HF : Hid (false = G) := HNO.out (fun ⟨y, hy, hi, _⟩ => by rw [HX.out] at hy; cases hy; rw [inT_eq, t1, t2] at hi; simp at hi)
        clear HNO
        go_wp2_with fail
        go_ret
        exact ⟨congrArg (fun z => Ending.returned (.bool z)) HF.out, HBW.out⟩
      have t2 : decide (1099511627776 < x) = false := decide_eq_false g2
      have HIT : Hid (inT x = true) := by show _ = _; rw [inT_eq, t1, t2]; rfl
      by_cases hj0 : j = 0
      · have HST : Hid (∀ i, i < j + 1 → stp S i) := fun i hi => (by
          have hij : i = j := by omega
          rw [hij]
          exact ⟨x, HX.out, HIT.out, fun h => by omega⟩)
        have t3 : decide ((0 : Int) < (j : Int)) = false := by rw [decide_eq_false_iff_not]; omega
        have t4 : decide (0 < j) = false := by rw [decide_eq_false_iff_not]; omega
        clear HNO hj0
        go_wp2_with fail
        go_roundg (m - (j + 1))
        case measure => omega
        case rel => exact ⟨j + 1, by omega, rfl, by go_num, HST.out, RW.out.2⟩
      · obtain ⟨i, hi⟩ : ∃ i, j = i + 1 := ⟨j - 1, by omega⟩
        have HIJ : Hid (j = i + 1) := hi
        have t3 : decide ((0 : Int) < (j : Int)) = true := by rw [decide_eq_true_eq]; omega
        have t5 : decide (0 < j) = true := by rw [decide_eq_true_eq]; omega
        have rj : IntKind.i64.wrap ((j : Int) - 1) = (i : Int) := by rw [IntKind.wrap_i64]; have := HB0.out.2.2.2.2; have := HM.out; omega
        have hil : i < m := by omega
        clear hi hj0
        obtain ⟨y, hy⟩ : ∃ y, S[i]? = some y := ⟨S[i]'(by rw [HS.out]; exact hil), by simp [HS.out, hil]⟩
        obtain ⟨b2, off2, e2, _, cy⟩ := I5.out.at hy
        cases e2
        rw [← RW.out.2] at cy
        have HY : Hid (S[i]? = some y) := hy
        clear hy
        by_cases g3 : x = y
        · have HF : Hid (false = G) := HNO.out (fun ⟨z, hz, hi, hne⟩ => by rw [HX.out] at hz; cases hz; exact hne (by have := HIJ.out; omega) (by rw [show j - 1 = i by have := HIJ.out; omega, HY.out, g3]))
          subst g3
          clear HNO
          go_wp2_with fail
          go_ret
          exact ⟨congrArg (fun z => Ending.returned (.bool z)) HF.out, HBW.out⟩
        · have t4 : (x == y) = false := by simp [g3]
          have t6 : decide (x = y) = false := decide_eq_false g3
          have HST : Hid (∀ q, q < j + 1 → stp S q) := fun q hq => (by
            by_cases hq2 : q < j
            · exact RW.out.1 q hq2
            · have hqj : q = j := by omega
              rw [hqj]
              exact ⟨x, HX.out, HIT.out, fun _ => by rw [show j - 1 = i by have := HIJ.out; omega, HY.out]; intro e; exact g3 (Option.some.inj e).symm⟩)
          clear HNO g3
          go_wp2_with fail
          go_roundg (m - (j + 1))
          case measure => omega
          case rel => exact ⟨j + 1, by omega, rfl, by go_num, HST.out, RW.out.2⟩
    · have j1 : decide ((j : Int) < (((m : Nat)) : Int)) = false := by rw [decide_eq_false_iff_not]; omega
      have HF : Hid (true = G) := by show _ = _; rw [← HG.out]; exact (gd_yes HR6.out (by rw [← HSA.out, HS.out]; exact fun i hi => RW.out.1 i (by omega))).symm
      have HBW : Hid (Below w.heap.size w wr) := by show Below _ _ _; rw [RW.out.2]; exact HB0.out.1.trans (B4.out.mono (by have := HB0.out.2.2.1; omega))
      go_wp2_with fail
      go_ret
      exact ⟨congrArg (fun z => Ending.returned (.bool z)) HF.out, HBW.out⟩
end Go.Proofs.Ytmokonaodoiflaa
