/- The walk of FrameMany. -/
import Derived.Test.YtcejbinkdlbpaaaFrmV
import Derived.Test.YtcejbinkdlbpaaaFrmY
import Derived.Deep.QuietTactic
import Derived.BigQuiet
namespace Go.Proofs.Ytcejbinkdlbpaaa
open Go.ChangeShapes Go.WideShapes Go.ChangeAt Go.RowKit Go.Deep
set_option linter.unusedVariables false
theorem rows_slice {w : World} {base e n : Nat} {v : Value} {vs : List Value} (h : w.ownsRow base e 1 v n vs) : ∃ a c, v = .slice a n c ∧ n ≤ c ∧ c ≤ 9223372036854775807 ∧ (0 < n → ∃ g, a = some ⟨g, 0, none⟩ ∧ ∀ i u, vs[i]? = some u → w.cell? ⟨g, i, none⟩ = some u) := by
  rcases h.2 with ⟨rfl, hn⟩ | ⟨g, cap, cur, rfl, hb, hg, hl, hm, hs, ht⟩
  · exact ⟨none, 0, by rw [hn], by omega, by omega, fun h => by omega⟩
  · refine ⟨_, cap, rfl, hl, by simp only [maxLen] at hm; omega, fun _ => ⟨g, rfl, fun i u hu => ?_⟩⟩
    have := World.ownsRow.cells h (g := g) rfl i u hu
    rwa [add_plain, Nat.zero_add] at this
/-- a number within a bound, as the statement reckons it -/
theorem inN1 (x : Int) (n : Nat) (hb : n ≤ 1000000) : ∃ k : Nat, k ≤ n ∧ (wrap64 (wrap64 (x.tmod ((n : Int) + 1) + n) + 1)).tmod ((n : Int) + 1) = k := by
  have g := tmodN x (n + 1) (by omega)
  rw [Int.natCast_add, Int.natCast_one] at g
  have e1 : wrap64 (x.tmod ((n : Int) + 1) + n) = x.tmod ((n : Int) + 1) + n := by unfold wrap64; omega
  have e2 : wrap64 (x.tmod ((n : Int) + 1) + n + 1) = x.tmod ((n : Int) + 1) + n + 1 := by unfold wrap64; omega
  rw [e1, e2, Int.tmod_eq_emod_of_nonneg (by omega)]
  have h0 := Int.emod_nonneg (x.tmod ((n : Int) + 1) + n + 1) (show ((n : Int) + 1) ≠ 0 by omega)
  have h1 := Int.emod_lt_of_pos (x.tmod ((n : Int) + 1) + n + 1) (show (0 : Int) < (n : Int) + 1 by omega)
  exact ⟨((x.tmod ((n : Int) + 1) + n + 1) % ((n : Int) + 1)).toNat, by omega, by omega⟩
theorem endsL_get (Bs : List (List Int)) (t : Nat) (h : t < Bs.length) : ((endsL Bs).map (Value.int .i64))[t]? = some (.int .i64 (upTo Bs (t + 1))) := by
  simp [endsL, h]
/-- what came in, at the places that were taken -/
theorem vals_get {w : World} {a : Option Addr} {len J : Nat} {V : Nat → Option Addr × Nat × Nat} {M : Nat → List Int} (hin : In2 w a len V M) (hJ : J ≤ len) (i : Nat) (h : i < (bods M J).length) :
    ∃ x n c, (valsOf V M J)[i]? = some (.slice x n c) ∧ Holds w x (bods M J)[i] ∧ ((bods M J)[i]).length = n ∧ ∀ y, x = some y → (bods M J)[i] ≠ [] → y.block < w.heap.size := by
  have hi : i < (ix M J).length := by rw [← bods_len]; exact h
  have hm := (ix_mem M J _ (List.getElem_mem hi)).1
  obtain ⟨h1, h2, h3, h4, h5, h6, h7⟩ := hin.2 ((ix M J)[i]) (by omega)
  have e : (bods M J)[i] = M ((ix M J)[i]) := by simp [bods]
  rw [e]
  exact ⟨(V ((ix M J)[i])).1, (V ((ix M J)[i])).2.1, (V ((ix M J)[i])).2.2, by simp [valsOf, hi, valS], h1, h2, h5⟩
set_option maxHeartbeats 2000000 in
theorem frameMany_walk (a : Option Addr) (len cap : Nat) (V : Nat → Option Addr × Nat × Nat) (M : Nat → List Int) (cut : Int) (w : World) (w0 : In2 w a len V M) (hl62 : len ≤ 4611686018427387904) (w1 : (Lit.int .i64 cut).wf = true) :
    Calls Try.prog 6 #[.slice a len cap, .int .i64 cut] w fun e w' => e = .returned (.bool true) ∧ Below w.heap.size w w' := by
  obtain ⟨J, hJ⟩ : ∃ J, J = min len 30 := ⟨_, rfl⟩
  have HI : Hid (In2 w a len V M) := w0
  have hJ30 : J ≤ 30 := by omega
  have hJl : J ≤ len := by omega
  have KJ : Hid (Calls Try.prog 16 #[.slice a len cap] w (JoinSaid w V M J)) := joined_is w a len cap V M w0 hl62 J hJ
  clear w0 w1 hJ
  go_enter Try.func6, Try.ntmps6
  go_wp2_with fail
  refine KJ.out.mono ?_
  rintro e w1 ⟨v5, v6, v7, rfl, o5, r6, r7, hb1⟩
  have B1 : Hid (Below w.heap.size w w1) := hb1
  have hs1 := hb1.size
  obtain ⟨n5, hn5⟩ : ∃ n, (joinL (bods M J)).length = n := ⟨_, rfl⟩
  have hn5' : n5 ≤ 123120 := by rw [← hn5]; exact join_le M J hJ30
  obtain ⟨a5, c5, hv5, hc5, hc5', hg5⟩ := rows_slice (owned_to hn5 o5)
  have hbl : (bods M J).length ≤ 30 := by rw [bods_len]; have := ix_len M J; omega
  have hvl : (valsOf V M J).length = (bods M J).length := by simp [valsOf, bods]
  have hel : (endsL (bods M J)).length = (bods M J).length := by simp [endsL]
  have r6' : w1.ownsRow w.heap.size 22 1 v6 (bods M J).length (valsOf V M J) := by have := r6; unfold Rows2 at this; rw [hvl] at this; exact this
  have r7' : w1.ownsRow w.heap.size 3 1 v7 (bods M J).length ((endsL (bods M J)).map (Value.int .i64)) := by have := r7; unfold RowsI at this; rw [hel] at this; exact this
  obtain ⟨a6, c6, hv6, hc6, hc6', hg6⟩ := rows_slice r6'
  obtain ⟨a7, c7, hv7, hc7, hc7', hg7⟩ := rows_slice r7'
  obtain ⟨K, hK⟩ : ∃ K, (bods M J).length = K := ⟨_, rfl⟩
  rw [hK] at hv6 hv7 hg6 hg7 hc6 hc7 hbl
  subst hv5 hv6 hv7
  have O5 : Hid (Owned w1 w.heap.size (.slice a5 n5 c5) (joinL (bods M J))) := o5
  have G6 : Hid (0 < K → ∃ g, a6 = some ⟨g, 0, none⟩ ∧ g < w1.heap.size ∧ ∀ i u, (valsOf V M J)[i]? = some u → w1.cell? ⟨g, i, none⟩ = some u) := fun h => by
    obtain ⟨g, e, hc⟩ := hg6 h
    exact ⟨g, e, (World.ownsRow.lt r6 g (by rw [e]; rfl)).2, hc⟩
  have G7 : Hid (0 < K → ∃ g, a7 = some ⟨g, 0, none⟩ ∧ ∀ i u, ((endsL (bods M J)).map (Value.int .i64))[i]? = some u → w1.cell? ⟨g, i, none⟩ = some u) := hg7
  have HK : Hid ((bods M J).length = K) := hK
  have HN5 : Hid ((joinL (bods M J)).length = n5) := hn5
  have VG : Hid (∀ i (h : i < (bods M J).length), ∃ x n c, (valsOf V M J)[i]? = some (.slice x n c) ∧ Holds w x (bods M J)[i] ∧ ((bods M J)[i]).length = n ∧ ∀ y, x = some y → (bods M J)[i] ≠ [] → y.block < w.heap.size) := fun i h => vals_get HI.out hJl i h
  have BL : Hid (∀ B ∈ bods M J, B.length ≤ 4096) := bods_le M J
  have BB : Hid (∀ B ∈ bods M J, IsBytes B) := fun B hB => by
    simp only [bods, List.mem_map] at hB
    obtain ⟨i, hi, rfl⟩ := hB
    exact (HI.out.2 i (by have := (ix_mem M J i hi).1; omega)).2.2.1
  clear o5 r6 r7 hb1 r6' r7' hg5 hg6 hg7 hvl hel hK hn5 KJ HI
  obtain ⟨vs6, hvs6⟩ : ∃ x, valsOf V M J = x := ⟨_, rfl⟩
  rw [hvs6] at G6 VG
  clear hvs6
  generalize bods M J = Bs at *
  obtain ⟨k, hk, hkk⟩ := inN1 cut n5 (by omega)
  have z5 : (((n5 : Int) + 1) == 0) = false := by rw [beq_eq_false_iff_ne]; omega
  go_wp2_with fail
  go_loopg [8, 9] K (fun gh wh at0 wr => ∃ t : Nat, t ≤ K ∧ gh = K - t ∧ wh = .int .i64 t ∧ at0 = .int .i64 (upTo Bs t : Nat) ∧ upTo Bs t ≤ k ∧ wr = w1)
  case atStart => exact ⟨0, Nat.zero_le _, rfl, rfl, by rw [upTo_zero]; rfl, by rw [upTo_zero]; exact Nat.zero_le _, rfl⟩
  case round =>
    obtain ⟨t, ht, rfl, rfl, rfl, hut, rfl⟩ := hrel
    have hle := upTo_le Bs t
    rw [HN5.out] at hle
    by_cases hgo : t < K ∧ upTo Bs (t + 1) ≤ k
    · obtain ⟨htk, htu⟩ := hgo
      obtain ⟨g7, rfl, hc7x⟩ := G7.out (by omega)
      have cE := hc7x t _ (endsL_get Bs t (by rw [HK.out]; exact htk))
      have g1 : decide ((t : Int) < (K : Int)) = true := by simp; omega
      have i1 : ((t : Int) < (K : Int)) := by omega
      have g2 : decide (((upTo Bs (t + 1) : Nat) : Int) ≤ (k : Int)) = true := by simp; omega
      clear hc7x
      go_wp2_with fail
      go_roundg (K - (t + 1))
      case measure => omega
      case rel => exact ⟨t + 1, by omega, rfl, by go_num, rfl, htu, rfl⟩
    · have HE : Hid (t < Bs.length → k < upTo Bs (t + 1)) := fun h => by
        have : t < K := by rw [← HK.out]; exact h
        omega
      have HAL : Hid (al k ((joinL Bs).take k) = (Bs.take t, upTo Bs t, if upTo Bs t = k then 0 else 4)) := al_cut Bs k k t BL.out (Nat.le_refl _) (by rw [HN5.out]; exact hk) (by rw [HK.out]; exact ht) hut HE.out
      have htl : ((joinL Bs).take k).length = k := by rw [List.length_take, HN5.out]; omega
      have KA : Hid (Calls Try.prog 14 #[.slice a5 k c5] wr (AllSaid wr k ((joinL Bs).take k))) :=
        all_is wr k c5 a5 ((joinL Bs).take k) htl (bytes_of_mem fun x hx => bytes_mem (joinL_bytes Bs BB.out) x (List.mem_of_mem_take hx)) (O5.out.holds.1.take k) (fun x hx _ => O5.out.lt_size x hx) (by omega) (by omega) (by omega)
      have k1 : ((k : Int) ≤ (c5 : Int)) := by omega
      have hgo' : ¬ (t < K ∧ upTo Bs (t + 1) ≤ k) := hgo
      clear HE htl hgo
      by_cases htk : t < K
      · obtain ⟨g7, rfl, hc7x⟩ := G7.out (by omega)
        have cE := hc7x t _ (endsL_get Bs t (by rw [HK.out]; exact htk))
        have g1 : decide ((t : Int) < (K : Int)) = true := by simp; omega
        have i1 : ((t : Int) < (K : Int)) := by omega
        have g2 : decide (((upTo Bs (t + 1) : Nat) : Int) ≤ (k : Int)) = false := by simp; omega
        clear hc7x
        by_cases hu : upTo Bs t = k
        ·
          go_wp2_with fail
          refine KA.out.mono ?_
          rintro e w2 ⟨v, vs, rfl, hr2, hd2, hb2⟩
          rw [HAL.out] at hd2 ⊢
          have hvl := hd2.len
          have hlt : (Bs.take t).length = t := by rw [List.length_take, HK.out]; omega
          obtain ⟨av, cv, hv, hcv, hcv', hgv⟩ := rows_slice (show w2.ownsRow wr.heap.size 22 1 v t vs by have := hr2; unfold Rows2 at this; rw [hvl, hlt] at this; exact this)
          subst hv
          have B2 : Hid (Below w.heap.size w w2) := B1.out.trans (hb2.mono hs1)
          have hs2 := B2.out.size
          have GV : Hid (0 < t → ∃ g, av = some ⟨g, 0, none⟩ ∧ ∀ i u, vs[i]? = some u → w2.cell? ⟨g, i, none⟩ = some u) := hgv
          have G6' : Hid (0 < K → ∃ g, a6 = some ⟨g, 0, none⟩ ∧ ∀ i u, vs6[i]? = some u → w2.cell? ⟨g, i, none⟩ = some u) := fun h => by
            obtain ⟨g, e, hlt6, hc⟩ := G6.out h
            exact ⟨g, e, fun i u hu => by rw [hb2.cell (show g < wr.heap.size from hlt6)]; exact hc i u hu⟩
          have D2 : Hid (Bods w2 wr.heap.size vs (Bs.take t) w2.heap.size) := hd2
          have eU : (if upTo Bs t = k then 0 else 4) = 0 := if_pos hu
          rw [eU]
          have e1 : (((upTo Bs t : Nat) : Int) == (k : Int)) = true := by rw [hu]; simp
          clear hr2 hd2 hb2 hgv hvl hlt HAL KA G6 eU hu
          generalize hU : upTo Bs t = U at *
          clear hU
          go_wp2_with fail
          go_loopg [86] t (fun gh i wx => ∃ j q : Nat, j ≤ t ∧ gh = t - j ∧ i = .int .i64 j ∧ wx = w2.drewN q)
          case atStart => exact ⟨0, 0, Nat.zero_le _, rfl, rfl, rfl⟩
          case round =>
            obtain ⟨j, q, hj, rfl, rfl, rfl⟩ := hrel
            by_cases hjk : j < t
            · obtain ⟨gv, rfl, hcell⟩ := GV.out (by omega)
              obtain ⟨g6, rfl, hcell6⟩ := G6'.out (by omega)
              have hjb : j < Bs.length := by rw [HK.out]; omega
              have hjt : j < (Bs.take t).length := by rw [List.length_take]; omega
              obtain ⟨ab, e1x, e2x, e3x⟩ := D2.out.get j hjt
              obtain ⟨x6, n6, c6x, f1, f2, f3, f4⟩ := VG.out j hjb
              have eB : (Bs.take t)[j] = Bs[j] := by simp
              rw [eB] at e1x e2x
              have c1 := hcell j _ e1x
              have c2 := hcell6 j _ f1
              have cv1 : ∀ q, (convert 22 9 (.slice ab (Bs[j]).length (Bs[j]).length)).run Try.prog (w2.drewN q) = .ok (.string (strOfNums Bs[j])) (w2.drewN q) := fun q => conv_str (w := w2.drewN q) e2x.holds.1 _ _ rfl
              have cv2 : ∀ q, (convert 22 9 (.slice x6 n6 c6x)).run Try.prog (w2.drewN q) = .ok (.string (strOfNums Bs[j])) (w2.drewN q) := fun q => conv_str (w := w2.drewN q) (f2.below (below_drewN B2.out q) f4) _ _ f3
              clear hcell hcell6 e1x e2x e3x f1 f2 f3 f4 eB
              generalize (Bs[j]).length = m at *
              generalize strOfNums Bs[j] = sB at *
              have i1 : ((j : Int) < (t : Int)) := by omega
              have i2 : ((j : Int) < (K : Int)) := by omega
              go_wp2
              go_quiet (fail)
              go_wp2
              go_roundg (t - (j + 1))
              case measure => omega
              case rel => exact ⟨j + 1, _, by omega, rfl, by go_num, rfl⟩
            · have i1 : ¬ ((j : Int) < (t : Int)) := by omega
              have hsq : w.heap.size ≤ (w2.drewN q).heap.size := hs2
              have BQ : Hid (Below w.heap.size w (w2.drewN q)) := below_drewN B2.out q
              clear GV G6' D2 VG
              go_wp2_with (go_at_call 13; refine (works_true _).mono ?_; rintro e w' ⟨rfl, hwk⟩)
              go_ret
              exact ⟨rfl, BQ.out.trans (Below.mono (by assumption) hsq)⟩
        ·
          go_wp2_with fail
          refine KA.out.mono ?_
          rintro e w2 ⟨v, vs, rfl, hr2, hd2, hb2⟩
          rw [HAL.out] at hd2 ⊢
          have hvl := hd2.len
          have hlt : (Bs.take t).length = t := by rw [List.length_take, HK.out]; omega
          obtain ⟨av, cv, hv, hcv, hcv', hgv⟩ := rows_slice (show w2.ownsRow wr.heap.size 22 1 v t vs by have := hr2; unfold Rows2 at this; rw [hvl, hlt] at this; exact this)
          subst hv
          have B2 : Hid (Below w.heap.size w w2) := B1.out.trans (hb2.mono hs1)
          have hs2 := B2.out.size
          have GV : Hid (0 < t → ∃ g, av = some ⟨g, 0, none⟩ ∧ ∀ i u, vs[i]? = some u → w2.cell? ⟨g, i, none⟩ = some u) := hgv
          have G6' : Hid (0 < K → ∃ g, a6 = some ⟨g, 0, none⟩ ∧ ∀ i u, vs6[i]? = some u → w2.cell? ⟨g, i, none⟩ = some u) := fun h => by
            obtain ⟨g, e, hlt6, hc⟩ := G6.out h
            exact ⟨g, e, fun i u hu => by rw [hb2.cell (show g < wr.heap.size from hlt6)]; exact hc i u hu⟩
          have D2 : Hid (Bods w2 wr.heap.size vs (Bs.take t) w2.heap.size) := hd2
          have eU : (if upTo Bs t = k then 0 else 4) = 4 := if_neg hu
          rw [eU]
          have e1 : (((upTo Bs t : Nat) : Int) == (k : Int)) = false := by rw [beq_eq_false_iff_ne]; omega
          clear hr2 hd2 hb2 hgv hvl hlt HAL KA G6 eU hu
          generalize hU : upTo Bs t = U at *
          clear hU
          go_wp2_with fail
          go_loopg [86] t (fun gh i wx => ∃ j q : Nat, j ≤ t ∧ gh = t - j ∧ i = .int .i64 j ∧ wx = w2.drewN q)
          case atStart => exact ⟨0, 0, Nat.zero_le _, rfl, rfl, rfl⟩
          case round =>
            obtain ⟨j, q, hj, rfl, rfl, rfl⟩ := hrel
            by_cases hjk : j < t
            · obtain ⟨gv, rfl, hcell⟩ := GV.out (by omega)
              obtain ⟨g6, rfl, hcell6⟩ := G6'.out (by omega)
              have hjb : j < Bs.length := by rw [HK.out]; omega
              have hjt : j < (Bs.take t).length := by rw [List.length_take]; omega
              obtain ⟨ab, e1x, e2x, e3x⟩ := D2.out.get j hjt
              obtain ⟨x6, n6, c6x, f1, f2, f3, f4⟩ := VG.out j hjb
              have eB : (Bs.take t)[j] = Bs[j] := by simp
              rw [eB] at e1x e2x
              have c1 := hcell j _ e1x
              have c2 := hcell6 j _ f1
              have cv1 : ∀ q, (convert 22 9 (.slice ab (Bs[j]).length (Bs[j]).length)).run Try.prog (w2.drewN q) = .ok (.string (strOfNums Bs[j])) (w2.drewN q) := fun q => conv_str (w := w2.drewN q) e2x.holds.1 _ _ rfl
              have cv2 : ∀ q, (convert 22 9 (.slice x6 n6 c6x)).run Try.prog (w2.drewN q) = .ok (.string (strOfNums Bs[j])) (w2.drewN q) := fun q => conv_str (w := w2.drewN q) (f2.below (below_drewN B2.out q) f4) _ _ f3
              clear hcell hcell6 e1x e2x e3x f1 f2 f3 f4 eB
              generalize (Bs[j]).length = m at *
              generalize strOfNums Bs[j] = sB at *
              have i1 : ((j : Int) < (t : Int)) := by omega
              have i2 : ((j : Int) < (K : Int)) := by omega
              go_wp2
              go_quiet (fail)
              go_wp2
              go_roundg (t - (j + 1))
              case measure => omega
              case rel => exact ⟨j + 1, _, by omega, rfl, by go_num, rfl⟩
            · have i1 : ¬ ((j : Int) < (t : Int)) := by omega
              have hsq : w.heap.size ≤ (w2.drewN q).heap.size := hs2
              have BQ : Hid (Below w.heap.size w (w2.drewN q)) := below_drewN B2.out q
              clear GV G6' D2 VG
              go_wp2_with (go_at_call 13; refine (works_true _).mono ?_; rintro e w' ⟨rfl, hwk⟩)
              go_ret
              exact ⟨rfl, BQ.out.trans (Below.mono (by assumption) hsq)⟩
      · have g1 : decide ((t : Int) < (K : Int)) = false := by simp; omega
        by_cases hu : upTo Bs t = k
        ·
          go_wp2_with fail
          refine KA.out.mono ?_
          rintro e w2 ⟨v, vs, rfl, hr2, hd2, hb2⟩
          rw [HAL.out] at hd2 ⊢
          have hvl := hd2.len
          have hlt : (Bs.take t).length = t := by rw [List.length_take, HK.out]; omega
          obtain ⟨av, cv, hv, hcv, hcv', hgv⟩ := rows_slice (show w2.ownsRow wr.heap.size 22 1 v t vs by have := hr2; unfold Rows2 at this; rw [hvl, hlt] at this; exact this)
          subst hv
          have B2 : Hid (Below w.heap.size w w2) := B1.out.trans (hb2.mono hs1)
          have hs2 := B2.out.size
          have GV : Hid (0 < t → ∃ g, av = some ⟨g, 0, none⟩ ∧ ∀ i u, vs[i]? = some u → w2.cell? ⟨g, i, none⟩ = some u) := hgv
          have G6' : Hid (0 < K → ∃ g, a6 = some ⟨g, 0, none⟩ ∧ ∀ i u, vs6[i]? = some u → w2.cell? ⟨g, i, none⟩ = some u) := fun h => by
            obtain ⟨g, e, hlt6, hc⟩ := G6.out h
            exact ⟨g, e, fun i u hu => by rw [hb2.cell (show g < wr.heap.size from hlt6)]; exact hc i u hu⟩
          have D2 : Hid (Bods w2 wr.heap.size vs (Bs.take t) w2.heap.size) := hd2
          have eU : (if upTo Bs t = k then 0 else 4) = 0 := if_pos hu
          rw [eU]
          have e1 : (((upTo Bs t : Nat) : Int) == (k : Int)) = true := by rw [hu]; simp
          clear hr2 hd2 hb2 hgv hvl hlt HAL KA G6 eU hu
          generalize hU : upTo Bs t = U at *
          clear hU
          go_wp2_with fail
          go_loopg [86] t (fun gh i wx => ∃ j q : Nat, j ≤ t ∧ gh = t - j ∧ i = .int .i64 j ∧ wx = w2.drewN q)
          case atStart => exact ⟨0, 0, Nat.zero_le _, rfl, rfl, rfl⟩
          case round =>
            obtain ⟨j, q, hj, rfl, rfl, rfl⟩ := hrel
            by_cases hjk : j < t
            · obtain ⟨gv, rfl, hcell⟩ := GV.out (by omega)
              obtain ⟨g6, rfl, hcell6⟩ := G6'.out (by omega)
              have hjb : j < Bs.length := by rw [HK.out]; omega
              have hjt : j < (Bs.take t).length := by rw [List.length_take]; omega
              obtain ⟨ab, e1x, e2x, e3x⟩ := D2.out.get j hjt
              obtain ⟨x6, n6, c6x, f1, f2, f3, f4⟩ := VG.out j hjb
              have eB : (Bs.take t)[j] = Bs[j] := by simp
              rw [eB] at e1x e2x
              have c1 := hcell j _ e1x
              have c2 := hcell6 j _ f1
              have cv1 : ∀ q, (convert 22 9 (.slice ab (Bs[j]).length (Bs[j]).length)).run Try.prog (w2.drewN q) = .ok (.string (strOfNums Bs[j])) (w2.drewN q) := fun q => conv_str (w := w2.drewN q) e2x.holds.1 _ _ rfl
              have cv2 : ∀ q, (convert 22 9 (.slice x6 n6 c6x)).run Try.prog (w2.drewN q) = .ok (.string (strOfNums Bs[j])) (w2.drewN q) := fun q => conv_str (w := w2.drewN q) (f2.below (below_drewN B2.out q) f4) _ _ f3
              clear hcell hcell6 e1x e2x e3x f1 f2 f3 f4 eB
              generalize (Bs[j]).length = m at *
              generalize strOfNums Bs[j] = sB at *
              have i1 : ((j : Int) < (t : Int)) := by omega
              have i2 : ((j : Int) < (K : Int)) := by omega
              go_wp2
              go_quiet (fail)
              go_wp2
              go_roundg (t - (j + 1))
              case measure => omega
              case rel => exact ⟨j + 1, _, by omega, rfl, by go_num, rfl⟩
            · have i1 : ¬ ((j : Int) < (t : Int)) := by omega
              have hsq : w.heap.size ≤ (w2.drewN q).heap.size := hs2
              have BQ : Hid (Below w.heap.size w (w2.drewN q)) := below_drewN B2.out q
              clear GV G6' D2 VG
              go_wp2_with (go_at_call 13; refine (works_true _).mono ?_; rintro e w' ⟨rfl, hwk⟩)
              go_ret
              exact ⟨rfl, BQ.out.trans (Below.mono (by assumption) hsq)⟩
        ·
          go_wp2_with fail
          refine KA.out.mono ?_
          rintro e w2 ⟨v, vs, rfl, hr2, hd2, hb2⟩
          rw [HAL.out] at hd2 ⊢
          have hvl := hd2.len
          have hlt : (Bs.take t).length = t := by rw [List.length_take, HK.out]; omega
          obtain ⟨av, cv, hv, hcv, hcv', hgv⟩ := rows_slice (show w2.ownsRow wr.heap.size 22 1 v t vs by have := hr2; unfold Rows2 at this; rw [hvl, hlt] at this; exact this)
          subst hv
          have B2 : Hid (Below w.heap.size w w2) := B1.out.trans (hb2.mono hs1)
          have hs2 := B2.out.size
          have GV : Hid (0 < t → ∃ g, av = some ⟨g, 0, none⟩ ∧ ∀ i u, vs[i]? = some u → w2.cell? ⟨g, i, none⟩ = some u) := hgv
          have G6' : Hid (0 < K → ∃ g, a6 = some ⟨g, 0, none⟩ ∧ ∀ i u, vs6[i]? = some u → w2.cell? ⟨g, i, none⟩ = some u) := fun h => by
            obtain ⟨g, e, hlt6, hc⟩ := G6.out h
            exact ⟨g, e, fun i u hu => by rw [hb2.cell (show g < wr.heap.size from hlt6)]; exact hc i u hu⟩
          have D2 : Hid (Bods w2 wr.heap.size vs (Bs.take t) w2.heap.size) := hd2
          have eU : (if upTo Bs t = k then 0 else 4) = 4 := if_neg hu
          rw [eU]
          have e1 : (((upTo Bs t : Nat) : Int) == (k : Int)) = false := by rw [beq_eq_false_iff_ne]; omega
          clear hr2 hd2 hb2 hgv hvl hlt HAL KA G6 eU hu
          generalize hU : upTo Bs t = U at *
          clear hU
          go_wp2_with fail
          go_loopg [86] t (fun gh i wx => ∃ j q : Nat, j ≤ t ∧ gh = t - j ∧ i = .int .i64 j ∧ wx = w2.drewN q)
          case atStart => exact ⟨0, 0, Nat.zero_le _, rfl, rfl, rfl⟩
          case round =>
            obtain ⟨j, q, hj, rfl, rfl, rfl⟩ := hrel
            by_cases hjk : j < t
            · obtain ⟨gv, rfl, hcell⟩ := GV.out (by omega)
              obtain ⟨g6, rfl, hcell6⟩ := G6'.out (by omega)
              have hjb : j < Bs.length := by rw [HK.out]; omega
              have hjt : j < (Bs.take t).length := by rw [List.length_take]; omega
              obtain ⟨ab, e1x, e2x, e3x⟩ := D2.out.get j hjt
              obtain ⟨x6, n6, c6x, f1, f2, f3, f4⟩ := VG.out j hjb
              have eB : (Bs.take t)[j] = Bs[j] := by simp
              rw [eB] at e1x e2x
              have c1 := hcell j _ e1x
              have c2 := hcell6 j _ f1
              have cv1 : ∀ q, (convert 22 9 (.slice ab (Bs[j]).length (Bs[j]).length)).run Try.prog (w2.drewN q) = .ok (.string (strOfNums Bs[j])) (w2.drewN q) := fun q => conv_str (w := w2.drewN q) e2x.holds.1 _ _ rfl
              have cv2 : ∀ q, (convert 22 9 (.slice x6 n6 c6x)).run Try.prog (w2.drewN q) = .ok (.string (strOfNums Bs[j])) (w2.drewN q) := fun q => conv_str (w := w2.drewN q) (f2.below (below_drewN B2.out q) f4) _ _ f3
              clear hcell hcell6 e1x e2x e3x f1 f2 f3 f4 eB
              generalize (Bs[j]).length = m at *
              generalize strOfNums Bs[j] = sB at *
              have i1 : ((j : Int) < (t : Int)) := by omega
              have i2 : ((j : Int) < (K : Int)) := by omega
              go_wp2
              go_quiet (fail)
              go_wp2
              go_roundg (t - (j + 1))
              case measure => omega
              case rel => exact ⟨j + 1, _, by omega, rfl, by go_num, rfl⟩
            · have i1 : ¬ ((j : Int) < (t : Int)) := by omega
              have hsq : w.heap.size ≤ (w2.drewN q).heap.size := hs2
              have BQ : Hid (Below w.heap.size w (w2.drewN q)) := below_drewN B2.out q
              clear GV G6' D2 VG
              go_wp2_with (go_at_call 13; refine (works_true _).mono ?_; rintro e w' ⟨rfl, hwk⟩)
              go_ret
              exact ⟨rfl, BQ.out.trans (Below.mono (by assumption) hsq)⟩
end Go.Proofs.Ytcejbinkdlbpaaa
