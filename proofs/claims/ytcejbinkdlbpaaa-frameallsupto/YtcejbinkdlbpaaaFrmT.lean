/- The document's own Read (veneerref04). -/
import Derived.Test.YtcejbinkdlbpaaaFrmS
import Derived.Test.YtcejbinkdlbpaaaFrmR
import Derived.Deep.RegionHeld3
namespace Go.Proofs.Ytcejbinkdlbpaaa
open Go.ChangeShapes Go.WideShapes Go.ChangeAt Go.RowKit Go.Deep
set_option linter.unusedVariables false
theorem getD_drop (L : List Int) (k i : Nat) : (L.drop k).getD i 0 = L.getD (k + i) 0 := by simp [List.getD]
theorem le4_at (L : List Int) (hb : IsBytes L) (k : Nat) (h : k + 4 ≤ L.length) : le4 (ge4 L k) = (L.drop k).take 4 := by
  have hT : ((L.drop k).take 4).length = 4 := by rw [List.length_take, List.length_drop]; omega
  have hTb : IsBytes ((L.drop k).take 4) := bytes_of_mem fun x hx => bytes_mem hb x (List.mem_of_mem_drop (List.mem_of_mem_take hx))
  have hA : (L.take k).length = k := by rw [List.length_take]; omega
  have := le4_ge4 (L.take k) ((L.drop k).take 4) hT hTb
  rw [hA] at this
  rw [← this]
  congr 1
  have g : ∀ i, i < 4 → (L.take k ++ (L.drop k).take 4).getD (k + i) 0 = L.getD (k + i) 0 := by
    intro i hi
    have e : (L.take k ++ (L.drop k).take 4).getD (k + i) 0 = ((L.drop k).take 4).getD i 0 := by
      simp [List.getD, List.getElem?_append_right, hA]
    rw [e, ← getD_take4 _ i hi, getD_drop]
  have g0 := g 0 (by decide)
  rw [Nat.add_zero] at g0
  unfold ge4
  rw [g0, g 1 (by decide), g 2 (by decide), g 3 (by decide)]
theorem le4_inj (a b : Nat) (ha : a < 4294967296) (hb : b < 4294967296) (h : le4 a = le4 b) : a = b := by
  have e1 := ge4_le4 [] [] a ha
  have e2 := ge4_le4 [] [] b hb
  rw [h] at e1
  rw [e1] at e2
  exact Int.ofNat.inj e2
/-- the frame of the body is what stands there just where the sum is the one that stands there -/
theorem whole_iff (L : List Int) (hb : IsBytes L) (K : Nat) (hK : ge4 L 0 = (K : Int)) (h : 8 + K ≤ L.length) : frameL ((L.drop 4).take K) = L.take (8 + K) ↔ (ge4 L (4 + K)).toNat = cmore 0 (L.take (4 + K)) := by
  have hbl : ((L.drop 4).take K).length = K := by rw [List.length_take, List.length_drop]; omega
  have h4 : le4 (K : Int) = L.take 4 := by
    have := le4_at L hb 0 (by omega)
    rwa [hK, List.drop_zero] at this
  have hh : headL ((L.drop 4).take K) = L.take (4 + K) := by
    rw [headL, hbl, h4, List.take_add]
  have ht : L.take (8 + K) = L.take (4 + K) ++ (L.drop (4 + K)).take 4 := by
    rw [show 8 + K = 4 + K + 4 by omega, List.take_add]
  have g := ge4_range L hb (4 + K) (by omega)
  have hc := cmore_lt 0 (L.take (4 + K))
  have ha := le4_at L hb (4 + K) (by omega)
  rw [frameL, hh, ht, List.append_cancel_left_eq, ← ha]
  obtain ⟨T, hT⟩ : ∃ T : Nat, ge4 L (4 + K) = T := ⟨_, (Int.toNat_of_nonneg g.1).symm⟩
  rw [hT, Int.toNat_natCast]
  constructor
  · intro e
    exact (le4_inj _ _ hc (by omega) e).symm
  · intro e
    rw [e]
theorem extract_nums (L : List Int) (i j : Nat) : (strOfNums L).extract i j = strOfNums ((L.take j).drop i) := by
  apply ByteArray.ext
  rw [ByteArray.data_extract]
  simp [strOfNums, List.drop_take]
theorem rread_short (L : List Int) (n : Nat) (hn : L.length = n) (h : n < 4) (w : World) :
    Calls Try.prog 12 #[.string (strOfNums L)] w fun e w' => e = .returned (.tuple #[.string ⟨#[]⟩, .int .i64 0, .int .i64 4]) ∧ w' = w := by
  have hs : (strOfNums L).size = n := by rw [strOfNums_size, hn]
  generalize strOfNums L = S at *
  have e1 : (n : Int) < 4 := by omega
  go_enter Try.func12, Try.ntmps12
  go_wp2
  go_ret3
  exact ⟨rfl, rfl⟩
set_option maxHeartbeats 1000000 in
theorem rread_long (L : List Int) (n : Nat) (hn : L.length = n) (h : 4 ≤ n) (hm : n ≤ 4611686018427387904) (hb : IsBytes L) (w : World) :
    Calls Try.prog 12 #[.string (strOfNums L)] w fun e w' => e = .returned (.tuple #[.string (strOfNums (rd L).1), .int .i64 (rd L).2.1, .int .i64 (rd L).2.2]) ∧ Below w.heap.size w w' := by
  have hs : (strOfNums L).size = n := by rw [strOfNums_size, hn]
  obtain ⟨K, hK⟩ : ∃ K : Nat, ge4 L 0 = (K : Int) := ⟨(ge4 L 0).toNat, (Int.toNat_of_nonneg (ge4_range L hb 0 (by omega)).1).symm⟩
  have HK : Hid (ge4 L 0 = (K : Int)) := hK
  have hK32 : K < 4294967296 := by have := (ge4_range L hb 0 (by omega)).2; omega
  have hKn : (ge4 L 0).toNat = K := by omega
  have hrd : rd L = if 4096 < K then ([], 0, 3) else if n < 8 + K then ([], 0, 4) else if (ge4 L (4 + K)).toNat ≠ cmore 0 (L.take (4 + K)) then ([], 0, 6) else ((L.drop 4).take K, 8 + K, 0) := by
    unfold rd
    rw [if_neg (by omega), hKn, hn]
  have HRD : Hid (rd L = if 4096 < K then ([], 0, 3) else if n < 8 + K then ([], 0, 4) else if (ge4 L (4 + K)).toNat ≠ cmore 0 (L.take (4 + K)) then ([], 0, 6) else ((L.drop 4).take K, 8 + K, 0)) := hrd
  have KN : Hid (Calls Try.prog 23 #[.string (strOfNums L), .int .i64 0] w fun e w' => e = .returned (.int .i64 (ge4 L 0)) ∧ w' = w.drew) := rnumber_is L hb (by omega) w
  have HB : Hid (IsBytes L) := hb
  have X1 : Hid (∀ i j, (strOfNums L).extract i j = strOfNums ((L.take j).drop i)) := extract_nums L
  have e0 : ¬ (n : Int) < 4 := by omega
  clear hK hKn hrd hb
  generalize hS : strOfNums L = S at *
  have HS : Hid (strOfNums L = S) := hS
  clear hS
  go_enter Try.func12, Try.ntmps12
  go_wp2_with fail
  refine KN.out.mono ?_
  rintro e w' ⟨rfl, hw⟩
  obtain rfl := hw
  rw [HK.out]
  by_cases k1 : 4096 < K
  · have e1 : (4096 : Int) < (K : Int) := by omega
    have HR : Hid (rd L = ([], 0, 3)) := by show rd L = _; rw [HRD.out, if_pos k1]
    go_wp2
    go_ret3
    exact ⟨by rw [HR.out]; rfl, (Below.refl _ _).drew⟩
  · have e1 : ¬ (4096 : Int) < (K : Int) := by omega
    by_cases k2 : n < 8 + K
    · have HR : Hid (rd L = ([], 0, 4)) := by show rd L = _; rw [HRD.out, if_neg k1, if_pos k2]
      have e2 : (n : Int) - 4 < (K : Int) + 4 := by omega
      go_wp2
      go_ret3
      exact ⟨by rw [HR.out]; rfl, (Below.refl _ _).drew⟩
    · have e2 : ¬ ((n : Int) - 4 < (K : Int) + 4) := by omega
      have hbl : ((L.drop 4).take K).length = K := by rw [List.length_take, List.length_drop]; omega
      have hbb : IsBytes ((L.drop 4).take K) := bytes_of_mem fun x hx => bytes_mem HB.out x (List.mem_of_mem_drop (List.mem_of_mem_take hx))
      have KO : Hid (Calls Try.prog 19 #[.string (strOfNums ((L.drop 4).take K))] w.drew.drew fun e w' => e = .returned (.string (strOfNums (frameL ((L.drop 4).take K)))) ∧ Below w.heap.size w.drew.drew w') := rof_is _ K hbl (by omega) hbb w.drew.drew
      have x1 : S.extract 4 (4 + K) = strOfNums ((L.drop 4).take K) := by
        rw [X1.out]
        congr 1
        rw [List.drop_take, Nat.add_sub_cancel_left]
      have x2 : S.extract 0 (K + 8) = strOfNums (L.take (8 + K)) := by
        rw [X1.out, List.drop_zero, Nat.add_comm]
      have WI := whole_iff L HB.out K HK.out (by omega)
      have EQ := str_eq (frameL ((L.drop 4).take K)) (L.take (8 + K)) (bytes_mem (frameL_bytes hbb)) (fun x hx => bytes_mem HB.out x (List.mem_of_mem_take hx))
      have s4 : (4 : Int) + (K : Int) ≤ n := by omega
      have s8 : (K : Int) + 8 ≤ n := by omega
      have t4 : ((4 : Int) + (K : Int)).toNat = 4 + K := by omega
      have t8 : ((K : Int) + 8).toNat = K + 8 := by omega
      have wr4 : IntKind.i64.wrap (4 + (K : Int)) = 4 + (K : Int) := by rw [IntKind.wrap_i64]; omega
      have wr8 : IntKind.i64.wrap ((K : Int) + 8) = (K : Int) + 8 := by rw [IntKind.wrap_i64]; omega
      have g4 : (0 : Int) ≤ 4 + (K : Int) := by omega
      have g44 : (4 : Int) ≤ 4 + (K : Int) := by omega
      have g8 : (0 : Int) ≤ (K : Int) + 8 := by omega
      have HLB : Hid (strOfNums ((L.drop 4).take K) = strOfNums ((L.drop 4).take K)) := rfl
      generalize hSF : strOfNums (frameL ((L.drop 4).take K)) = SF at *
      generalize hST : strOfNums (L.take (8 + K)) = ST at *
      clear hSF hST
      by_cases k3 : (ge4 L (4 + K)).toNat = cmore 0 (L.take (4 + K))
      · have HR : Hid (rd L = ((L.drop 4).take K, 8 + K, 0)) := by show rd L = _; rw [HRD.out, if_neg k1, if_neg k2, if_neg (by simpa using k3)]
        have q3 : (SF.toList == ST.toList) = true := by rw [EQ]; simpa using WI.2 k3
        clear EQ WI k3 hbl hbb HLB
        generalize hSB : strOfNums ((L.drop 4).take K) = SB at *
        have HSB : Hid (strOfNums ((L.drop 4).take K) = SB) := hSB
        clear hSB
        go_wp2_with fail
        refine wp_region_noPanic ?_
        refine wp_region_held_drew (S := (fun _ : World => True)) (by kernel_rfl) ?hSaa (fun hHeld => ?restaa)
        case hSaa => trivial
        case restaa =>
          refine wpAnyH_take (i := 0) (v := ?v0a) rfl (by kernel_rfl) (by kernel_rfl) (by kernel_rfl) (fun _ _ _ h => h) (Or.inl ⟨by rfl, ?hy0a⟩) hHeld ?rest0a
          case hy0a => (intro w hSw; (try dsimp only at hSw); go_simp; try with_reducible rfl)
          try simp only [Act.put, List.setIfInBounds_toArray, List.set_cons_zero, List.set_cons_succ, List.getElem_toArray, List.getElem_cons_zero]
          refine wpAnyH_take (i := 1) (v := ?v1a) rfl (by kernel_rfl) (by kernel_rfl) (by kernel_rfl) (fun _ _ _ h => h) (Or.inl ⟨by rfl, ?hy1a⟩) hHeld ?rest1a
          case hy1a => (intro w hSw; (try dsimp only at hSw); go_simp; try with_reducible rfl)
          try simp only [Act.put, List.setIfInBounds_toArray, List.set_cons_zero, List.set_cons_succ, List.getElem_toArray, List.getElem_cons_zero, List.getElem_cons_succ]
          refine wpAnyH_take (i := 2) (v := ?v2a) rfl (by kernel_rfl) (by kernel_rfl) (by kernel_rfl) (fun _ _ _ h => h) (Or.inl ⟨by rfl, ?hy2a⟩) hHeld ?rest2a
          case hy2a => (intro w hSw; (try dsimp only at hSw); go_simp; try with_reducible rfl)
          try simp only [Act.put, List.setIfInBounds_toArray, List.set_cons_zero, List.set_cons_succ, List.getElem_toArray, List.getElem_cons_zero, List.getElem_cons_succ]
          refine wpAnyH_take (i := 3) (v := ?v3a) rfl (by kernel_rfl) (by kernel_rfl) (by kernel_rfl) (fun _ _ _ h => h) (Or.inl ⟨by rfl, ?hy3a⟩) hHeld ?rest3a
          case hy3a => (intro w hSw; (try dsimp only at hSw); go_simp; try with_reducible rfl)
          try simp only [Act.put, List.setIfInBounds_toArray, List.set_cons_zero, List.set_cons_succ, List.getElem_toArray, List.getElem_cons_zero, List.getElem_cons_succ]
          refine wpAnyH_take (i := 5) (v := ?v5a) rfl (by kernel_rfl) (by kernel_rfl) (by kernel_rfl) (fun _ _ _ h => h) (Or.inl ⟨by rfl, ?hy5a⟩) hHeld ?rest5a
          case hy5a => (intro w hSw; (try dsimp only at hSw); go_simp; try with_reducible rfl)
          try simp only [Act.put, List.setIfInBounds_toArray, List.set_cons_zero, List.set_cons_succ, List.getElem_toArray, List.getElem_cons_zero, List.getElem_cons_succ]
          refine wpAnyH_take (i := 6) (v := ?v6a) rfl (by kernel_rfl) (by kernel_rfl) (by kernel_rfl) (fun _ _ _ h => h) (Or.inl ⟨by rfl, ?hy6a⟩) hHeld ?rest6a
          case hy6a => (intro w hSw; (try dsimp only at hSw); go_simp; try with_reducible rfl)
          try simp only [Act.put, List.setIfInBounds_toArray, List.set_cons_zero, List.set_cons_succ, List.getElem_toArray, List.getElem_cons_zero, List.getElem_cons_succ]
          refine wpAnyH_take (i := 7) (v := ?v7a) rfl (by kernel_rfl) (by kernel_rfl) (by kernel_rfl) (fun _ _ _ h => h) (Or.inl ⟨by rfl, ?hy7a⟩) hHeld ?rest7a
          case hy7a => (intro w hSw; (try dsimp only at hSw); go_simp; try with_reducible rfl)
          try simp only [Act.put, List.setIfInBounds_toArray, List.set_cons_zero, List.set_cons_succ, List.getElem_toArray, List.getElem_cons_zero, List.getElem_cons_succ]
          refine wpAnyH_take (i := 8) (v := ?v8a) rfl (by kernel_rfl) (by kernel_rfl) (by kernel_rfl) (fun _ _ _ h => h) (Or.inl ⟨by rfl, ?hy8a⟩) hHeld ?rest8a
          case hy8a => (intro w hSw; (try dsimp only at hSw); go_simp; try with_reducible rfl)
          try simp only [Act.put, List.setIfInBounds_toArray, List.set_cons_zero, List.set_cons_succ, List.getElem_toArray, List.getElem_cons_zero, List.getElem_cons_succ]
          refine wpAnyH_ready (rs := [4]) (by kernel_rfl) (by simp) ?_
          refine AllReadyH.cons rfl (fun K hK => ?_) AllReadyH.nil
          go_simp; refine KO.out.mono ?_; rintro e w9 ⟨rfl, hw9⟩; have B9 : Hid (Below w.heap.size w.drew.drew w9) := hw9; clear hw9; go_wp2_with fail
          refine hK.out _ _ ?hS4a (fun hHeld => ?rest4a)
          case hS4a => trivial
          clear hK K
          try simp only [Act.put, List.setIfInBounds_toArray, List.set_cons_zero, List.set_cons_succ, List.getElem_toArray, List.getElem_cons_zero, List.getElem_cons_succ]
          refine wpAnyH_take (i := 9) (v := ?v9a) rfl (by kernel_rfl) (by kernel_rfl) (by kernel_rfl) (fun _ _ _ h => h) (Or.inl ⟨by rfl, ?hy9a⟩) hHeld ?rest9a
          case hy9a => (intro w hSw; (try dsimp only at hSw); go_simp; try with_reducible rfl)
          try simp only [Act.put, List.setIfInBounds_toArray, List.set_cons_zero, List.set_cons_succ, List.getElem_toArray, List.getElem_cons_zero, List.getElem_cons_succ]
          refine wpAnyH_done (by kernel_rfl) ?_ _
          refine NoPanic.normal ?_
          go_wp2
          go_ret3
          exact ⟨by rw [HR.out]; show Ending.returned (.tuple #[.string SB, .int .i64 ((K : Int) + 8), .int .i64 0]) = Ending.returned (.tuple #[.string (strOfNums ((L.drop 4).take K)), .int .i64 ((8 + K : Nat) : Int), .int .i64 0]); rw [HSB.out, show ((8 + K : Nat) : Int) = (K : Int) + 8 by omega], ((Below.refl _ _).drew.drew.trans B9.out)⟩
      · have HR : Hid (rd L = ([], 0, 6)) := by show rd L = _; rw [HRD.out, if_neg k1, if_neg k2, if_pos k3]
        have q3 : (SF.toList == ST.toList) = false := by rw [EQ]; simpa using fun e => k3 (WI.1 e)
        clear EQ WI k3 hbl hbb HLB
        generalize hSB : strOfNums ((L.drop 4).take K) = SB at *
        have HSB : Hid (strOfNums ((L.drop 4).take K) = SB) := hSB
        clear hSB
        go_wp2_with fail
        refine wp_region_noPanic ?_
        refine wp_region_held_drew (S := (fun _ : World => True)) (by kernel_rfl) ?hSab (fun hHeld => ?restab)
        case hSab => trivial
        case restab =>
          refine wpAnyH_take (i := 0) (v := ?v0b) rfl (by kernel_rfl) (by kernel_rfl) (by kernel_rfl) (fun _ _ _ h => h) (Or.inl ⟨by rfl, ?hy0b⟩) hHeld ?rest0b
          case hy0b => (intro w hSw; (try dsimp only at hSw); go_simp; try with_reducible rfl)
          try simp only [Act.put, List.setIfInBounds_toArray, List.set_cons_zero, List.set_cons_succ, List.getElem_toArray, List.getElem_cons_zero]
          refine wpAnyH_take (i := 1) (v := ?v1b) rfl (by kernel_rfl) (by kernel_rfl) (by kernel_rfl) (fun _ _ _ h => h) (Or.inl ⟨by rfl, ?hy1b⟩) hHeld ?rest1b
          case hy1b => (intro w hSw; (try dsimp only at hSw); go_simp; try with_reducible rfl)
          try simp only [Act.put, List.setIfInBounds_toArray, List.set_cons_zero, List.set_cons_succ, List.getElem_toArray, List.getElem_cons_zero, List.getElem_cons_succ]
          refine wpAnyH_take (i := 2) (v := ?v2b) rfl (by kernel_rfl) (by kernel_rfl) (by kernel_rfl) (fun _ _ _ h => h) (Or.inl ⟨by rfl, ?hy2b⟩) hHeld ?rest2b
          case hy2b => (intro w hSw; (try dsimp only at hSw); go_simp; try with_reducible rfl)
          try simp only [Act.put, List.setIfInBounds_toArray, List.set_cons_zero, List.set_cons_succ, List.getElem_toArray, List.getElem_cons_zero, List.getElem_cons_succ]
          refine wpAnyH_take (i := 3) (v := ?v3b) rfl (by kernel_rfl) (by kernel_rfl) (by kernel_rfl) (fun _ _ _ h => h) (Or.inl ⟨by rfl, ?hy3b⟩) hHeld ?rest3b
          case hy3b => (intro w hSw; (try dsimp only at hSw); go_simp; try with_reducible rfl)
          try simp only [Act.put, List.setIfInBounds_toArray, List.set_cons_zero, List.set_cons_succ, List.getElem_toArray, List.getElem_cons_zero, List.getElem_cons_succ]
          refine wpAnyH_take (i := 5) (v := ?v5b) rfl (by kernel_rfl) (by kernel_rfl) (by kernel_rfl) (fun _ _ _ h => h) (Or.inl ⟨by rfl, ?hy5b⟩) hHeld ?rest5b
          case hy5b => (intro w hSw; (try dsimp only at hSw); go_simp; try with_reducible rfl)
          try simp only [Act.put, List.setIfInBounds_toArray, List.set_cons_zero, List.set_cons_succ, List.getElem_toArray, List.getElem_cons_zero, List.getElem_cons_succ]
          refine wpAnyH_take (i := 6) (v := ?v6b) rfl (by kernel_rfl) (by kernel_rfl) (by kernel_rfl) (fun _ _ _ h => h) (Or.inl ⟨by rfl, ?hy6b⟩) hHeld ?rest6b
          case hy6b => (intro w hSw; (try dsimp only at hSw); go_simp; try with_reducible rfl)
          try simp only [Act.put, List.setIfInBounds_toArray, List.set_cons_zero, List.set_cons_succ, List.getElem_toArray, List.getElem_cons_zero, List.getElem_cons_succ]
          refine wpAnyH_take (i := 7) (v := ?v7b) rfl (by kernel_rfl) (by kernel_rfl) (by kernel_rfl) (fun _ _ _ h => h) (Or.inl ⟨by rfl, ?hy7b⟩) hHeld ?rest7b
          case hy7b => (intro w hSw; (try dsimp only at hSw); go_simp; try with_reducible rfl)
          try simp only [Act.put, List.setIfInBounds_toArray, List.set_cons_zero, List.set_cons_succ, List.getElem_toArray, List.getElem_cons_zero, List.getElem_cons_succ]
          refine wpAnyH_take (i := 8) (v := ?v8b) rfl (by kernel_rfl) (by kernel_rfl) (by kernel_rfl) (fun _ _ _ h => h) (Or.inl ⟨by rfl, ?hy8b⟩) hHeld ?rest8b
          case hy8b => (intro w hSw; (try dsimp only at hSw); go_simp; try with_reducible rfl)
          try simp only [Act.put, List.setIfInBounds_toArray, List.set_cons_zero, List.set_cons_succ, List.getElem_toArray, List.getElem_cons_zero, List.getElem_cons_succ]
          refine wpAnyH_ready (rs := [4]) (by kernel_rfl) (by simp) ?_
          refine AllReadyH.cons rfl (fun K hK => ?_) AllReadyH.nil
          go_simp; refine KO.out.mono ?_; rintro e w9 ⟨rfl, hw9⟩; have B9 : Hid (Below w.heap.size w.drew.drew w9) := hw9; clear hw9; go_wp2_with fail
          refine hK.out _ _ ?hS4b (fun hHeld => ?rest4b)
          case hS4b => trivial
          clear hK K
          try simp only [Act.put, List.setIfInBounds_toArray, List.set_cons_zero, List.set_cons_succ, List.getElem_toArray, List.getElem_cons_zero, List.getElem_cons_succ]
          refine wpAnyH_take (i := 9) (v := ?v9b) rfl (by kernel_rfl) (by kernel_rfl) (by kernel_rfl) (fun _ _ _ h => h) (Or.inl ⟨by rfl, ?hy9b⟩) hHeld ?rest9b
          case hy9b => (intro w hSw; (try dsimp only at hSw); go_simp; try with_reducible rfl)
          try simp only [Act.put, List.setIfInBounds_toArray, List.set_cons_zero, List.set_cons_succ, List.getElem_toArray, List.getElem_cons_zero, List.getElem_cons_succ]
          refine wpAnyH_done (by kernel_rfl) ?_ _
          refine NoPanic.normal ?_
          go_wp2
          go_ret3
          exact ⟨by rw [HR.out]; rfl, ((Below.refl _ _).drew.drew.trans B9.out)⟩
theorem rread_is (L : List Int) (n : Nat) (hn : L.length = n) (hm : n ≤ 4611686018427387904) (hb : IsBytes L) (w : World) :
    Calls Try.prog 12 #[.string (strOfNums L)] w fun e w' => e = .returned (.tuple #[.string (strOfNums (rd L).1), .int .i64 (rd L).2.1, .int .i64 (rd L).2.2]) ∧ Below w.heap.size w w' := by
  by_cases h : n < 4
  · refine (rread_short L n hn h w).mono ?_
    rintro e w' ⟨rfl, rfl⟩
    rw [rd_short L (by omega)]
    exact ⟨rfl, Below.refl _ _⟩
  · exact rread_long L n hn (by omega) hm hb w
end Go.Proofs.Ytcejbinkdlbpaaa
