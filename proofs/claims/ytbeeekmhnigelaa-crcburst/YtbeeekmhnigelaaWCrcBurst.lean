/- The walk of CrcBurst. -/
import Derived.Test.YtbeeekmhnigelaaCrcJ
import Derived.Laws.OwnMore
import Derived.Deep.RegionWith
import Derived.Deep.RegionHeld3
namespace Go.Proofs.Ytbeeekmhnigelaa
open Go.ChangeShapes Go.WideShapes Go.ChangeAt Go.RowKit Go.Deep
set_option linter.unusedVariables false
theorem tmodN (x : Int) (n : Nat) (h : 0 < n) : -(n : Int) < x.tmod n ∧ x.tmod n < n := by
  rcases Int.le_total 0 x with g | g
  · rw [Int.tmod_eq_emod_of_nonneg g]
    have := Int.emod_nonneg x (show (n : Int) ≠ 0 by omega)
    have := Int.emod_lt_of_pos x (show (0 : Int) < n by omega)
    omega
  · have e : x.tmod n = -((-x).tmod n) := by rw [Int.neg_tmod, Int.neg_neg]
    rw [e, Int.tmod_eq_emod_of_nonneg (by omega)]
    have := Int.emod_nonneg (-x) (show (n : Int) ≠ 0 by omega)
    have := Int.emod_lt_of_pos (-x) (show (0 : Int) < n by omega)
    omega
theorem inN (x : Int) (n : Nat) (h : 0 < n) (hb : n ≤ 1000000) : ∃ k : Nat, k < n ∧ (wrap64 (x.tmod n + n)).tmod n = k := by
  have g := tmodN x n h
  have e1 : wrap64 (x.tmod n + n) = x.tmod n + n := by unfold wrap64; omega
  rw [e1, Int.tmod_eq_emod_of_nonneg (by omega)]
  have h0 := Int.emod_nonneg (x.tmod n + n) (show (n : Int) ≠ 0 by omega)
  have h1 := Int.emod_lt_of_pos (x.tmod n + n) (show (0 : Int) < n by omega)
  exact ⟨((x.tmod n + n) % n).toNat, by omega, by omega⟩
theorem byte_pow (x r : Nat) (hx : x ≤ 255) (hr : r < 8) : x ^^^ 2 ^ r ≤ 255 := by
  have p : (2 : Nat) ^ r < 2 ^ 8 := Nat.pow_lt_pow_right (by decide) hr
  have e : (2 : Nat) ^ 8 = 256 := by decide
  exact byte_xor hx (by omega)
theorem xor_pow (x : Int) (r : Nat) (hx : 0 ≤ x ∧ x ≤ 255) (hr : r < 8) : bits .xor .u8 x (2 ^ r % 256) = ((x.toNat ^^^ 2 ^ r : Nat) : Int) := by
  have p : (2 : Nat) ^ r < 2 ^ 8 := Nat.pow_lt_pow_right (by decide) hr
  have e : (2 : Nat) ^ 8 = 256 := by decide
  have e2 : (2 : Int) ^ r % 256 = ((2 ^ r : Nat) : Int) := by
    have c : (2 : Int) ^ r = ((2 ^ r : Nat) : Int) := by simp
    have p' : ((2 ^ r : Nat) : Int) < 256 := Int.ofNat_lt.2 (by omega)
    rw [c, Int.emod_eq_of_lt (Int.natCast_nonneg _) p']
  have p' : ((2 ^ r : Nat) : Int) < 256 := Int.ofNat_lt.2 (by omega)
  rw [e2, u8_xor x _ hx.1 (by omega) (Int.natCast_nonneg _) p', Int.toNat_natCast]
theorem mul_xor2 (k a b : Nat) : 2 ^ k * (a ^^^ b) = 2 ^ k * a ^^^ 2 ^ k * b := by
  have h1 := Nat.shiftLeft_xor_distrib (a := a) (b := b) (i := k)
  rw [Nat.shiftLeft_eq, Nat.shiftLeft_eq, Nat.shiftLeft_eq] at h1
  rw [Nat.mul_comm, h1, Nat.mul_comm a, Nat.mul_comm b]
theorem burst_step (l k d q j : Nat) (hj : j = (k + q) / 8) : l ^^^ 2 ^ k * d ^^^ 2 ^ (8 * j) * 2 ^ ((k + q) % 8) = l ^^^ 2 ^ k * (d ^^^ 2 ^ q) := by
  have e : 2 ^ (8 * j) * 2 ^ ((k + q) % 8) = 2 ^ k * 2 ^ q := by
    rw [← Nat.pow_add, ← Nat.pow_add]
    congr 1
    omega
  rw [e, mul_xor2, Nat.xor_assoc]
theorem bytes_set {O : List Int} (h : IsBytes O) (j : Nat) (v : Int) (hv : 0 ≤ v ∧ v ≤ 255) : IsBytes (O.set j v) :=
  bytes_of_mem fun x hx => by
    rcases List.mem_or_eq_of_mem_set hx with h1 | h1
    · exact bytes_mem h x h1
    · rw [h1]; exact hv
set_option maxHeartbeats 2000000 in
theorem burst_long (a : Option Addr) (len cap : Nat) (L : List Int) (at0 : Int) (y : Nat) (w : World) (hlen : 2000 < len) (hlc : len ≤ cap) (hcm : cap ≤ 140737488351232) (hl : L.length = 2000) (hy : y < 4294967296)
    (hh : Holds w a L) (hcap : a = none → cap = 0) (hlt : ∀ x, a = some x → L ≠ [] → x.block < w.heap.size) (hb : IsBytes L) :
    Calls Try.prog 6 #[.slice a len cap, .int .i64 at0, .int .u32 y] w fun e w' => e = .returned (.bool true) ∧ Below w.heap.size w w' := by
  have HL : Hid (Holds w a L) := hh
  have HC : Hid (a = none → cap = 0) := hcap
  have HT : Hid (∀ x, a = some x → L ≠ [] → x.block < w.heap.size) := hlt
  have HB : Hid (IsBytes L) := hb
  clear hh hcap hlt hb
  obtain ⟨k, hkn, hk0⟩ := inN at0 16000 (by omega) (by omega)
  have hk : (wrap64 (at0.tmod 16000 + 16000)).tmod 16000 = k := hk0
  have l1 : (2000 : Int) < len := by omega
  have l2 : (2000 : Int) ≤ cap := by omega
  have HN : Hid (16000 = 8 * L.length) := by show _ = _; omega
  clear hk0
  go_enter Try.func6, Try.ntmps6
  go_wp2_with (at_builtin; refine append_bytes rfl (.tmp 29) (.tmp 30) rfl w.heap.size _ [] rfl (owned_empty w w.heap.size (Nat.le_refl _)) _ _ _ L rfl hl (HL.out.below ((Below.refl _ _).alloc (Nat.le_refl _) _) HT.out) HC.out 2000 (by simp) (by omega) (by simp) ?_; intro a1 c1 w1 hown1 hbel1; have OWN1 : Hid (Owned w1 w.heap.size (.slice a1 2000 c1) ([] ++ L)) := hown1; have B1 : Hid (Below w.heap.size _ w1) := hbel1; clear hown1 hbel1)
  have hO := OWN1.out.cap
  obtain ⟨g, rfl⟩ : ∃ g, a1 = some ⟨g, 0, none⟩ := by
    rcases OWN1.out.2 with ⟨hv, hn0⟩ | ⟨g, cap', cur, hv, _⟩
    · exfalso
      have : L.length = 0 := by simpa using hn0
      omega
    · simp only [Value.slice.injEq] at hv
      exact ⟨g, hv.1⟩
  obtain ⟨hc1, hc2⟩ := hO
  obtain ⟨N, hN⟩ : ∃ N, N = w.heap.size := ⟨_, rfl⟩
  have HNN : Hid (N = w.heap.size) := hN
  have O1 : Hid (Owned w1 N (.slice (some ⟨g, 0, none⟩) 2000 c1) L) := by rw [hN]; exact OWN1.out
  have B2 : Hid (Below N w w1) := by rw [hN]; exact ((Below.refl _ _).alloc (Nat.le_refl _) _).trans B1.out
  clear hN OWN1 B1
  go_loopg [10] 32 (fun gh i wr => ∃ (q d : Nat) (O : List Int), q ≤ 32 ∧ gh = 32 - q ∧ i = .int .i64 q ∧ d < 2 ^ q ∧ Hid (lev O = lev L ^^^ 2 ^ k * d) ∧ Hid (IsBytes O) ∧ O.length = 2000 ∧ Hid (Below N w wr) ∧ Hid (Owned wr N (.slice (some ⟨g, 0, none⟩) 2000 c1) O))
  case atStart => exact ⟨0, 0, L, Nat.zero_le _, rfl, rfl, by decide, by show _ = _; simp, HB, hl, B2, O1⟩
  case round =>
    obtain ⟨q, d, O, hq, rfl, rfl, hd, HE, HBO, hlo, HBW, HOW⟩ := hrel
    have HD : Hid (d < 2 ^ q) := hd
    clear hd
    by_cases hq32 : q < 32
    · by_cases hkq : k + q < 16000
      · have g1 : decide ((q : Int) < 32) = true := by simp; omega
        have g2 : decide ((k : Int) + q < 16000) = true := by simp; omega
        have ea := bit_int y q hy
        rcases Nat.mod_two_eq_zero_or_one (y / 2 ^ q) with h2 | h2
        · rw [h2] at ea
          clear h2
          go_wp2_with fail
          go_roundg (32 - (q + 1))
          case measure => omega
          case rel => exact ⟨q + 1, d, O, by omega, rfl, by go_num, Nat.lt_of_lt_of_le HD.out (Nat.pow_le_pow_right (by decide) (by omega)), HE, HBO, hlo, HBW, HOW⟩
        · rw [h2] at ea
          clear h2
          obtain ⟨j, hj⟩ : ∃ j, j = (k + q) / 8 := ⟨_, rfl⟩
          have j1 : j < 2000 := by have := HN.out; omega
          have hcell : wr.cell? ⟨g, j, none⟩ = some (.int .u8 (O.getD j 0)) := by
            rw [World.ownsRow.cellAt (n := 2000) (by have := HOW.out; unfold Owned at this; rw [hlo] at this; exact this) j (by omega)]
            simp [List.getD, List.getElem?_eq_getElem (show j < O.length by omega)]
          have hfz : wr.frozen? ⟨g, j, none⟩ = false := World.ownsRow.frozenAt (n := 2000) (by have := HOW.out; unfold Owned at this; rw [hlo] at this; exact this) j
          have HX : Hid (0 ≤ O.getD j 0 ∧ O.getD j 0 ≤ 255) := HBO.out j (by omega)
          have HV : Hid (lev (O.set j (((O.getD j 0).toNat ^^^ 2 ^ ((k + q) % 8) : Nat) : Int)) = lev O ^^^ 2 ^ (8 * j) * 2 ^ ((k + q) % 8)) := lev_set O j (by omega) _
          generalize O.getD j 0 = x at *
          rw [hj] at hcell hfz
          have HJ : Hid (j = (k + q) / 8) := hj
          clear hj
          go_wp2_with fail
          rw [xor_pow x ((k + q) % 8) HX.out (Nat.mod_lt _ (by decide)), ← HJ.out]
          go_roundg (32 - (q + 1))
          case measure => omega
          case rel =>
            have hst := World.ownsRow.stored (n := 2000) (show wr.ownsRow N 5 1 (.slice (some ⟨g, 0, none⟩) 2000 c1) 2000 (O.map (Value.int .u8)) by have := HOW.out; unfold Owned at this; rw [hlo] at this; exact this) j (.int .u8 ((x.toNat ^^^ 2 ^ ((k + q) % 8) : Nat) : Int))
            refine ⟨q + 1, d ^^^ 2 ^ q, O.set j ((x.toNat ^^^ 2 ^ ((k + q) % 8) : Nat) : Int), by omega, rfl, by go_num, ?_, ?_, ?_, by rw [List.length_set]; exact hlo, ?_, ?_⟩
            · exact Nat.xor_lt_two_pow (Nat.lt_of_lt_of_le HD.out (Nat.pow_le_pow_right (by decide) (by omega))) (Nat.pow_lt_pow_right (by decide) (by omega))
            · show _ = _
              rw [HV.out, HE.out]
              exact burst_step (lev L) k d q j HJ.out
            · show IsBytes _
              exact bytes_set HBO.out j _ (by have := HX.out; have := byte_pow x.toNat ((k + q) % 8) (by omega) (Nat.mod_lt _ (by decide)); omega)
            · exact HBW.out.setCell (p := ⟨g, j, none⟩) (HOW.out.block g rfl) _
            · show Owned _ _ _ _
              unfold Owned
              rw [List.length_set, hlo, List.map_set]
              exact hst.1
      · have g1 : decide ((q : Int) < 32) = true := by simp; omega
        have g2 : decide ((k : Int) + q < 16000) = false := by simp; omega
        have hhO := HOW.out.holds
        have HLW : Hid (∀ W, Below wr.heap.size wr W → Holds W a L) := fun W h => HL.out.below ((show Below w.heap.size w wr by rw [← HNN.out]; exact HBW.out).trans (h.mono (by have := HBW.out.size; exact this))) HT.out
        have HOW2 : Hid (∀ W, Below wr.heap.size wr W → Holds W (some ⟨g, 0, none⟩) O) := fun W h => hhO.1.below h (fun x hx _ => HOW.out.lt_size x hx)
        clear hhO
        obtain ⟨sO, hsO⟩ : ∃ s, s = strOfNums O := ⟨_, rfl⟩
        obtain ⟨sL, hsL⟩ : ∃ s, s = strOfNums L := ⟨_, rfl⟩
        have CV : Hid (∀ W, Below wr.heap.size wr W → (convert 22 9 (.slice (some ⟨g, 0, none⟩) 2000 c1)).run Try.prog W = .ok (.string sO) W ∧ (convert 22 9 (.slice a 2000 cap)).run Try.prog W = .ok (.string sL) W) := by
          intro W h
          rw [hsO, hsL]
          exact ⟨conv_str (HOW2.out W h) 2000 c1 hlo, conv_str (HLW.out W h) 2000 cap hl⟩
        have EH : Hid (((((cmore 0 O : Nat) : Int) == ((cmore 0 L : Nat) : Int)) == (sO.toList == sL.toList)) = true) := by
          show _ = _
          rw [hsO, hsL, str_eq O L (bytes_mem HBO.out) (bytes_mem HB.out), beq_iff_eq, Bool.eq_iff_iff, beq_iff_eq, decide_eq_true_iff, Int.ofNat_inj]
          have hd32 : d < 4294967296 := Nat.lt_of_lt_of_le HD.out (by rw [show 4294967296 = 2 ^ 32 by decide]; exact Nat.pow_le_pow_right (by decide) hq)
          exact cmore_burst O L (by rw [hlo, hl]) (bytes_mem HBO.out) (bytes_mem HB.out) k d hd32 (by have := HN.out; omega) HE.out
        clear hsO hsL
        have s1 : Hid (∀ W : World, W = wr.drew → Calls Try.prog 9 #[.slice (some ⟨g, 0, none⟩) 2000 c1] W fun e w' => e = .returned (.int .u32 (cmore 0 O : Nat)) ∧ w' = W) := fun W h => by subst h; exact sum_is O 2000 _ _ hlo (by omega) HBO.out _ (HOW2.out _ (Below.refl _ _).drew)
        have s2 : Hid (∀ W : World, W = wr.drew → Calls Try.prog 9 #[.slice a 2000 cap] W fun e w' => e = .returned (.int .u32 (cmore 0 L : Nat)) ∧ w' = W) := fun W h => by subst h; exact sum_is L 2000 _ _ hl (by omega) HB.out _ (HLW.out _ (Below.refl _ _).drew)
        generalize cmore 0 O = p1 at *
        generalize cmore 0 L = p2 at *
        go_wp2_with fail
        refine wp_region_noPanic ?_
        refine wp_region_held_drew (S := (fun W : World => (convert 22 9 (.slice (some ⟨g, 0, none⟩) 2000 c1)).run Try.prog W = .ok (.string sO) W ∧ (convert 22 9 (.slice a 2000 cap)).run Try.prog W = .ok (.string sL) W)) (by kernel_rfl) ?hSaburstlongA (fun hHeld => ?restaburstlongA)
        case hSaburstlongA => exact CV.out _ (Below.refl _ _).drew
        case restaburstlongA =>
          refine wpAnyH_take (i := 0) (v := ?v0burstlongA) rfl (by kernel_rfl) (by kernel_rfl) (by kernel_rfl) (fun _ _ _ h => h) (Or.inl ⟨by rfl, ?hy0burstlongA⟩) hHeld ?rest0burstlongA
          case hy0burstlongA => (intro w hSw; (try dsimp only at hSw); go_simp; try with_reducible rfl)
          try simp only [Act.put, List.setIfInBounds_toArray, List.set_cons_zero, List.set_cons_succ, List.getElem_toArray, List.getElem_cons_zero]
          refine wpAnyH_take (i := 2) (v := ?v2burstlongA) rfl (by kernel_rfl) (by kernel_rfl) (by kernel_rfl) (fun _ _ _ h => h) (Or.inl ⟨by rfl, ?hy2burstlongA⟩) hHeld ?rest2burstlongA
          case hy2burstlongA => (intro w hSw; (try dsimp only at hSw); go_simp; try with_reducible rfl)
          try simp only [Act.put, List.setIfInBounds_toArray, List.set_cons_zero, List.set_cons_succ, List.getElem_toArray, List.getElem_cons_zero, List.getElem_cons_succ]
          refine wpAnyH_take (i := 5) (v := ?v5burstlongA) rfl (by kernel_rfl) (by kernel_rfl) (by kernel_rfl) (fun _ _ _ h => h) (Or.inl ⟨by rfl, ?hy5burstlongA⟩) hHeld ?rest5burstlongA
          case hy5burstlongA => (intro w hSw; (try dsimp only at hSw); go_simp; try with_reducible rfl)
          try simp only [Act.put, List.setIfInBounds_toArray, List.set_cons_zero, List.set_cons_succ, List.getElem_toArray, List.getElem_cons_zero, List.getElem_cons_succ]
          refine wpAnyH_take (i := 6) (v := ?v6burstlongA) rfl (by kernel_rfl) (by kernel_rfl) (by kernel_rfl) (fun _ _ _ h => h) (Or.inl ⟨by rfl, ?hy6burstlongA⟩) hHeld ?rest6burstlongA
          case hy6burstlongA => (intro w hSw; (try dsimp only at hSw); go_simp; try with_reducible rfl)
          try simp only [Act.put, List.setIfInBounds_toArray, List.set_cons_zero, List.set_cons_succ, List.getElem_toArray, List.getElem_cons_zero, List.getElem_cons_succ]
          refine wpAnyH_take (i := 7) (v := ?v7burstlongA) rfl (by kernel_rfl) (by kernel_rfl) (by kernel_rfl) (fun _ _ _ h => h) (Or.inl ⟨by rfl, ?hy7burstlongA⟩) hHeld ?rest7burstlongA
          case hy7burstlongA => (intro w hSw; (try dsimp only at hSw); go_simp; try with_reducible rfl)
          try simp only [Act.put, List.setIfInBounds_toArray, List.set_cons_zero, List.set_cons_succ, List.getElem_toArray, List.getElem_cons_zero, List.getElem_cons_succ]
          refine wpAnyH_take (i := 8) (v := ?v8burstlongA) rfl (by kernel_rfl) (by kernel_rfl) (by kernel_rfl) (fun _ _ _ h => h) (Or.inl ⟨by rfl, ?hy8burstlongA⟩) hHeld ?rest8burstlongA
          case hy8burstlongA => (intro w hSw; (try dsimp only at hSw); go_simp; try with_reducible rfl)
          try simp only [Act.put, List.setIfInBounds_toArray, List.set_cons_zero, List.set_cons_succ, List.getElem_toArray, List.getElem_cons_zero, List.getElem_cons_succ]
          refine wpAnyH_take (i := 9) (v := ?v9burstlongA) rfl (by kernel_rfl) (by kernel_rfl) (by kernel_rfl) (fun _ _ _ h => h) (Or.inl ⟨by rfl, ?hy9burstlongA⟩) hHeld ?rest9burstlongA
          case hy9burstlongA => (intro w hSw; (try dsimp only at hSw); go_simp; try with_reducible rfl)
          try simp only [Act.put, List.setIfInBounds_toArray, List.set_cons_zero, List.set_cons_succ, List.getElem_toArray, List.getElem_cons_zero, List.getElem_cons_succ]
          refine wpAnyH_ready (rs := [1]) (by kernel_rfl) (by simp) ?_
          refine AllReadyH.cons rfl (fun K hK => ?_) AllReadyH.nil
          go_simp; refine (s1.out _ rfl).mono ?_; rintro e w' ⟨rfl, hw⟩; obtain rfl := hw.symm; clear hw; go_wp2_with fail
          refine hK.out _ _ ?hS1burstlongA (fun hHeld => ?rest1burstlongA)
          case hS1burstlongA => exact CV.out _ (Below.refl _ _).drew
          clear hK K
          try simp only [Act.put, List.setIfInBounds_toArray, List.set_cons_zero, List.set_cons_succ, List.getElem_toArray, List.getElem_cons_zero, List.getElem_cons_succ]
          refine wpAnyH_ready (rs := [3]) (by kernel_rfl) (by simp) ?_
          refine AllReadyH.cons rfl (fun K hK => ?_) AllReadyH.nil
          go_simp; refine (s2.out _ rfl).mono ?_; rintro e w' ⟨rfl, hw⟩; obtain rfl := hw.symm; clear hw; go_wp2_with fail
          refine hK.out _ _ ?hS3burstlongA (fun hHeld => ?rest3burstlongA)
          case hS3burstlongA => exact CV.out _ (Below.refl _ _).drew
          clear hK K
          try simp only [Act.put, List.setIfInBounds_toArray, List.set_cons_zero, List.set_cons_succ, List.getElem_toArray, List.getElem_cons_zero, List.getElem_cons_succ]
          refine wpAnyH_take (i := 4) (v := ?v4burstlongA) rfl (by kernel_rfl) (by kernel_rfl) (by kernel_rfl) (fun _ _ _ h => h) (Or.inl ⟨by rfl, ?hy4burstlongA⟩) hHeld ?rest4burstlongA
          case hy4burstlongA => (intro w hSw; (try dsimp only at hSw); go_simp; try with_reducible rfl)
          try simp only [Act.put, List.setIfInBounds_toArray, List.set_cons_zero, List.set_cons_succ, List.getElem_toArray, List.getElem_cons_zero, List.getElem_cons_succ]
          have E := EH.out
          refine wpAnyH_take (i := 10) (v := ?v10burstlongA) rfl (by kernel_rfl) (by kernel_rfl) (by kernel_rfl) (fun _ _ _ h => h) (Or.inl ⟨by rfl, ?hy10burstlongA⟩) hHeld ?rest10burstlongA
          case hy10burstlongA => (intro w hSw; (try dsimp only at hSw); go_simp; try with_reducible rfl)
          try simp only [Act.put, List.setIfInBounds_toArray, List.set_cons_zero, List.set_cons_succ, List.getElem_toArray, List.getElem_cons_zero, List.getElem_cons_succ]
          refine wpAnyH_take (i := 11) (v := ?v11burstlongA) rfl (by kernel_rfl) (by kernel_rfl) (by kernel_rfl) (fun _ _ _ h => h) (Or.inl ⟨by rfl, ?hy11burstlongA⟩) hHeld ?rest11burstlongA
          case hy11burstlongA => (intro w hSw; (try dsimp only at hSw); go_simp; try with_reducible rfl)
          try simp only [Act.put, List.setIfInBounds_toArray, List.set_cons_zero, List.set_cons_succ, List.getElem_toArray, List.getElem_cons_zero, List.getElem_cons_succ]
          refine wpAnyH_ready (rs := [12]) (by kernel_rfl) (by simp) ?_
          refine AllReadyH.cons rfl (fun K hK => ?_) AllReadyH.nil
          go_simp; refine (works_true _).mono ?_; rintro e w4 ⟨rfl, hwk⟩; have HW : Hid (Below wr.heap.size wr.drew w4) := hwk; clear hwk; go_wp2_with fail
          refine hK.out _ _ ?hS12burstlongA (fun hHeld => ?rest12burstlongA)
          case hS12burstlongA => exact CV.out _ ((Below.refl _ _).drew.trans HW.out)
          clear hK K
          try simp only [Act.put, List.setIfInBounds_toArray, List.set_cons_zero, List.set_cons_succ, List.getElem_toArray, List.getElem_cons_zero, List.getElem_cons_succ]
          refine wpAnyH_take (i := 13) (v := ?v13burstlongA) rfl (by kernel_rfl) (by kernel_rfl) (by kernel_rfl) (fun _ _ _ h => h) (Or.inl ⟨by rfl, ?hy13burstlongA⟩) hHeld ?rest13burstlongA
          case hy13burstlongA => (intro w hSw; (try dsimp only at hSw); go_simp; try with_reducible rfl)
          try simp only [Act.put, List.setIfInBounds_toArray, List.set_cons_zero, List.set_cons_succ, List.getElem_toArray, List.getElem_cons_zero, List.getElem_cons_succ]
          refine wpAnyH_take (i := 14) (v := ?v14burstlongA) rfl (by kernel_rfl) (by kernel_rfl) (by kernel_rfl) (fun _ _ _ h => h) (Or.inl ⟨by rfl, ?hy14burstlongA⟩) hHeld ?rest14burstlongA
          case hy14burstlongA => (intro w hSw; (try dsimp only at hSw); go_simp; try with_reducible rfl)
          try simp only [Act.put, List.setIfInBounds_toArray, List.set_cons_zero, List.set_cons_succ, List.getElem_toArray, List.getElem_cons_zero, List.getElem_cons_succ]
          refine wpAnyH_done (by kernel_rfl) ?_ _
          refine NoPanic.normal ?_
          go_wp2
          go_ret
          exact ⟨rfl, by rw [← HNN.out]; exact HBW.out.drew.trans (HW.out.mono (by have := HBW.out.size; rw [HNN.out]; exact this))⟩
    · have g1 : decide ((q : Int) < 32) = false := by simp; omega
      have hhO := HOW.out.holds
      have HLW : Hid (∀ W, Below wr.heap.size wr W → Holds W a L) := fun W h => HL.out.below ((show Below w.heap.size w wr by rw [← HNN.out]; exact HBW.out).trans (h.mono (by have := HBW.out.size; exact this))) HT.out
      have HOW2 : Hid (∀ W, Below wr.heap.size wr W → Holds W (some ⟨g, 0, none⟩) O) := fun W h => hhO.1.below h (fun x hx _ => HOW.out.lt_size x hx)
      clear hhO
      obtain ⟨sO, hsO⟩ : ∃ s, s = strOfNums O := ⟨_, rfl⟩
      obtain ⟨sL, hsL⟩ : ∃ s, s = strOfNums L := ⟨_, rfl⟩
      have CV : Hid (∀ W, Below wr.heap.size wr W → (convert 22 9 (.slice (some ⟨g, 0, none⟩) 2000 c1)).run Try.prog W = .ok (.string sO) W ∧ (convert 22 9 (.slice a 2000 cap)).run Try.prog W = .ok (.string sL) W) := by
        intro W h
        rw [hsO, hsL]
        exact ⟨conv_str (HOW2.out W h) 2000 c1 hlo, conv_str (HLW.out W h) 2000 cap hl⟩
      have EH : Hid (((((cmore 0 O : Nat) : Int) == ((cmore 0 L : Nat) : Int)) == (sO.toList == sL.toList)) = true) := by
        show _ = _
        rw [hsO, hsL, str_eq O L (bytes_mem HBO.out) (bytes_mem HB.out), beq_iff_eq, Bool.eq_iff_iff, beq_iff_eq, decide_eq_true_iff, Int.ofNat_inj]
        have hd32 : d < 4294967296 := Nat.lt_of_lt_of_le HD.out (by rw [show 4294967296 = 2 ^ 32 by decide]; exact Nat.pow_le_pow_right (by decide) hq)
        exact cmore_burst O L (by rw [hlo, hl]) (bytes_mem HBO.out) (bytes_mem HB.out) k d hd32 (by have := HN.out; omega) HE.out
      clear hsO hsL
      have s1 : Hid (∀ W : World, W = wr.drew → Calls Try.prog 9 #[.slice (some ⟨g, 0, none⟩) 2000 c1] W fun e w' => e = .returned (.int .u32 (cmore 0 O : Nat)) ∧ w' = W) := fun W h => by subst h; exact sum_is O 2000 _ _ hlo (by omega) HBO.out _ (HOW2.out _ (Below.refl _ _).drew)
      have s2 : Hid (∀ W : World, W = wr.drew → Calls Try.prog 9 #[.slice a 2000 cap] W fun e w' => e = .returned (.int .u32 (cmore 0 L : Nat)) ∧ w' = W) := fun W h => by subst h; exact sum_is L 2000 _ _ hl (by omega) HB.out _ (HLW.out _ (Below.refl _ _).drew)
      generalize cmore 0 O = p1 at *
      generalize cmore 0 L = p2 at *
      go_wp2_with fail
      refine wp_region_noPanic ?_
      refine wp_region_held_drew (S := (fun W : World => (convert 22 9 (.slice (some ⟨g, 0, none⟩) 2000 c1)).run Try.prog W = .ok (.string sO) W ∧ (convert 22 9 (.slice a 2000 cap)).run Try.prog W = .ok (.string sL) W)) (by kernel_rfl) ?hSaburstlongB (fun hHeld => ?restaburstlongB)
      case hSaburstlongB => exact CV.out _ (Below.refl _ _).drew
      case restaburstlongB =>
        refine wpAnyH_take (i := 0) (v := ?v0burstlongB) rfl (by kernel_rfl) (by kernel_rfl) (by kernel_rfl) (fun _ _ _ h => h) (Or.inl ⟨by rfl, ?hy0burstlongB⟩) hHeld ?rest0burstlongB
        case hy0burstlongB => (intro w hSw; (try dsimp only at hSw); go_simp; try with_reducible rfl)
        try simp only [Act.put, List.setIfInBounds_toArray, List.set_cons_zero, List.set_cons_succ, List.getElem_toArray, List.getElem_cons_zero]
        refine wpAnyH_take (i := 2) (v := ?v2burstlongB) rfl (by kernel_rfl) (by kernel_rfl) (by kernel_rfl) (fun _ _ _ h => h) (Or.inl ⟨by rfl, ?hy2burstlongB⟩) hHeld ?rest2burstlongB
        case hy2burstlongB => (intro w hSw; (try dsimp only at hSw); go_simp; try with_reducible rfl)
        try simp only [Act.put, List.setIfInBounds_toArray, List.set_cons_zero, List.set_cons_succ, List.getElem_toArray, List.getElem_cons_zero, List.getElem_cons_succ]
        refine wpAnyH_take (i := 5) (v := ?v5burstlongB) rfl (by kernel_rfl) (by kernel_rfl) (by kernel_rfl) (fun _ _ _ h => h) (Or.inl ⟨by rfl, ?hy5burstlongB⟩) hHeld ?rest5burstlongB
        case hy5burstlongB => (intro w hSw; (try dsimp only at hSw); go_simp; try with_reducible rfl)
        try simp only [Act.put, List.setIfInBounds_toArray, List.set_cons_zero, List.set_cons_succ, List.getElem_toArray, List.getElem_cons_zero, List.getElem_cons_succ]
        refine wpAnyH_take (i := 6) (v := ?v6burstlongB) rfl (by kernel_rfl) (by kernel_rfl) (by kernel_rfl) (fun _ _ _ h => h) (Or.inl ⟨by rfl, ?hy6burstlongB⟩) hHeld ?rest6burstlongB
        case hy6burstlongB => (intro w hSw; (try dsimp only at hSw); go_simp; try with_reducible rfl)
        try simp only [Act.put, List.setIfInBounds_toArray, List.set_cons_zero, List.set_cons_succ, List.getElem_toArray, List.getElem_cons_zero, List.getElem_cons_succ]
        refine wpAnyH_take (i := 7) (v := ?v7burstlongB) rfl (by kernel_rfl) (by kernel_rfl) (by kernel_rfl) (fun _ _ _ h => h) (Or.inl ⟨by rfl, ?hy7burstlongB⟩) hHeld ?rest7burstlongB
        case hy7burstlongB => (intro w hSw; (try dsimp only at hSw); go_simp; try with_reducible rfl)
        try simp only [Act.put, List.setIfInBounds_toArray, List.set_cons_zero, List.set_cons_succ, List.getElem_toArray, List.getElem_cons_zero, List.getElem_cons_succ]
        refine wpAnyH_take (i := 8) (v := ?v8burstlongB) rfl (by kernel_rfl) (by kernel_rfl) (by kernel_rfl) (fun _ _ _ h => h) (Or.inl ⟨by rfl, ?hy8burstlongB⟩) hHeld ?rest8burstlongB
        case hy8burstlongB => (intro w hSw; (try dsimp only at hSw); go_simp; try with_reducible rfl)
        try simp only [Act.put, List.setIfInBounds_toArray, List.set_cons_zero, List.set_cons_succ, List.getElem_toArray, List.getElem_cons_zero, List.getElem_cons_succ]
        refine wpAnyH_take (i := 9) (v := ?v9burstlongB) rfl (by kernel_rfl) (by kernel_rfl) (by kernel_rfl) (fun _ _ _ h => h) (Or.inl ⟨by rfl, ?hy9burstlongB⟩) hHeld ?rest9burstlongB
        case hy9burstlongB => (intro w hSw; (try dsimp only at hSw); go_simp; try with_reducible rfl)
        try simp only [Act.put, List.setIfInBounds_toArray, List.set_cons_zero, List.set_cons_succ, List.getElem_toArray, List.getElem_cons_zero, List.getElem_cons_succ]
        refine wpAnyH_ready (rs := [1]) (by kernel_rfl) (by simp) ?_
        refine AllReadyH.cons rfl (fun K hK => ?_) AllReadyH.nil
        go_simp; refine (s1.out _ rfl).mono ?_; rintro e w' ⟨rfl, hw⟩; obtain rfl := hw.symm; clear hw; go_wp2_with fail
        refine hK.out _ _ ?hS1burstlongB (fun hHeld => ?rest1burstlongB)
        case hS1burstlongB => exact CV.out _ (Below.refl _ _).drew
        clear hK K
        try simp only [Act.put, List.setIfInBounds_toArray, List.set_cons_zero, List.set_cons_succ, List.getElem_toArray, List.getElem_cons_zero, List.getElem_cons_succ]
        refine wpAnyH_ready (rs := [3]) (by kernel_rfl) (by simp) ?_
        refine AllReadyH.cons rfl (fun K hK => ?_) AllReadyH.nil
        go_simp; refine (s2.out _ rfl).mono ?_; rintro e w' ⟨rfl, hw⟩; obtain rfl := hw.symm; clear hw; go_wp2_with fail
        refine hK.out _ _ ?hS3burstlongB (fun hHeld => ?rest3burstlongB)
        case hS3burstlongB => exact CV.out _ (Below.refl _ _).drew
        clear hK K
        try simp only [Act.put, List.setIfInBounds_toArray, List.set_cons_zero, List.set_cons_succ, List.getElem_toArray, List.getElem_cons_zero, List.getElem_cons_succ]
        refine wpAnyH_take (i := 4) (v := ?v4burstlongB) rfl (by kernel_rfl) (by kernel_rfl) (by kernel_rfl) (fun _ _ _ h => h) (Or.inl ⟨by rfl, ?hy4burstlongB⟩) hHeld ?rest4burstlongB
        case hy4burstlongB => (intro w hSw; (try dsimp only at hSw); go_simp; try with_reducible rfl)
        try simp only [Act.put, List.setIfInBounds_toArray, List.set_cons_zero, List.set_cons_succ, List.getElem_toArray, List.getElem_cons_zero, List.getElem_cons_succ]
        have E := EH.out
        refine wpAnyH_take (i := 10) (v := ?v10burstlongB) rfl (by kernel_rfl) (by kernel_rfl) (by kernel_rfl) (fun _ _ _ h => h) (Or.inl ⟨by rfl, ?hy10burstlongB⟩) hHeld ?rest10burstlongB
        case hy10burstlongB => (intro w hSw; (try dsimp only at hSw); go_simp; try with_reducible rfl)
        try simp only [Act.put, List.setIfInBounds_toArray, List.set_cons_zero, List.set_cons_succ, List.getElem_toArray, List.getElem_cons_zero, List.getElem_cons_succ]
        refine wpAnyH_take (i := 11) (v := ?v11burstlongB) rfl (by kernel_rfl) (by kernel_rfl) (by kernel_rfl) (fun _ _ _ h => h) (Or.inl ⟨by rfl, ?hy11burstlongB⟩) hHeld ?rest11burstlongB
        case hy11burstlongB => (intro w hSw; (try dsimp only at hSw); go_simp; try with_reducible rfl)
        try simp only [Act.put, List.setIfInBounds_toArray, List.set_cons_zero, List.set_cons_succ, List.getElem_toArray, List.getElem_cons_zero, List.getElem_cons_succ]
        refine wpAnyH_ready (rs := [12]) (by kernel_rfl) (by simp) ?_
        refine AllReadyH.cons rfl (fun K hK => ?_) AllReadyH.nil
        go_simp; refine (works_true _).mono ?_; rintro e w4 ⟨rfl, hwk⟩; have HW : Hid (Below wr.heap.size wr.drew w4) := hwk; clear hwk; go_wp2_with fail
        refine hK.out _ _ ?hS12burstlongB (fun hHeld => ?rest12burstlongB)
        case hS12burstlongB => exact CV.out _ ((Below.refl _ _).drew.trans HW.out)
        clear hK K
        try simp only [Act.put, List.setIfInBounds_toArray, List.set_cons_zero, List.set_cons_succ, List.getElem_toArray, List.getElem_cons_zero, List.getElem_cons_succ]
        refine wpAnyH_take (i := 13) (v := ?v13burstlongB) rfl (by kernel_rfl) (by kernel_rfl) (by kernel_rfl) (fun _ _ _ h => h) (Or.inl ⟨by rfl, ?hy13burstlongB⟩) hHeld ?rest13burstlongB
        case hy13burstlongB => (intro w hSw; (try dsimp only at hSw); go_simp; try with_reducible rfl)
        try simp only [Act.put, List.setIfInBounds_toArray, List.set_cons_zero, List.set_cons_succ, List.getElem_toArray, List.getElem_cons_zero, List.getElem_cons_succ]
        refine wpAnyH_take (i := 14) (v := ?v14burstlongB) rfl (by kernel_rfl) (by kernel_rfl) (by kernel_rfl) (fun _ _ _ h => h) (Or.inl ⟨by rfl, ?hy14burstlongB⟩) hHeld ?rest14burstlongB
        case hy14burstlongB => (intro w hSw; (try dsimp only at hSw); go_simp; try with_reducible rfl)
        try simp only [Act.put, List.setIfInBounds_toArray, List.set_cons_zero, List.set_cons_succ, List.getElem_toArray, List.getElem_cons_zero, List.getElem_cons_succ]
        refine wpAnyH_done (by kernel_rfl) ?_ _
        refine NoPanic.normal ?_
        go_wp2
        go_ret
        exact ⟨rfl, by rw [← HNN.out]; exact HBW.out.drew.trans (HW.out.mono (by have := HBW.out.size; rw [HNN.out]; exact this))⟩
set_option maxHeartbeats 2000000 in
theorem burst_short (a : Option Addr) (len cap : Nat) (L : List Int) (at0 : Int) (y : Nat) (w : World) (hm0 : 0 < len) (hm : len ≤ 2000) (hlc : len ≤ cap) (hcm : cap ≤ 140737488351232) (hl : L.length = len) (hy : y < 4294967296)
    (hh : Holds w a L) (hcap : a = none → cap = 0) (hlt : ∀ x, a = some x → L ≠ [] → x.block < w.heap.size) (hb : IsBytes L) :
    Calls Try.prog 6 #[.slice a len cap, .int .i64 at0, .int .u32 y] w fun e w' => e = .returned (.bool true) ∧ Below w.heap.size w w' := by
  have HL : Hid (Holds w a L) := hh
  have HC : Hid (a = none → cap = 0) := hcap
  have HT : Hid (∀ x, a = some x → L ≠ [] → x.block < w.heap.size) := hlt
  have HB : Hid (IsBytes L) := hb
  clear hh hcap hlt hb
  obtain ⟨n, hn⟩ : ∃ n, n = 8 * len := ⟨_, rfl⟩
  obtain ⟨k, hkn, hk⟩ := inN at0 n (by omega) (by omega)
  have n0 : ((n : Int) == 0) = false := by rw [beq_eq_false_iff_ne]; omega
  have HN : Hid (n = 8 * L.length) := by show _ = _; omega
  have l1 : ¬ ((2000 : Int) < len) := by omega
  have n8 : (8 : Int) * len = n := by omega
  have n3 : n ≤ 16000 := by omega
  clear hn
  go_enter Try.func6, Try.ntmps6
  go_wp2_with (at_builtin; refine append_bytes rfl (.tmp 29) (.tmp 30) rfl w.heap.size _ [] rfl (owned_empty w w.heap.size (Nat.le_refl _)) _ _ _ L rfl hl (HL.out.below ((Below.refl _ _).alloc (Nat.le_refl _) _) HT.out) HC.out len (by simp) (by omega) (by simp) ?_; intro a1 c1 w1 hown1 hbel1; have OWN1 : Hid (Owned w1 w.heap.size (.slice a1 len c1) ([] ++ L)) := hown1; have B1 : Hid (Below w.heap.size _ w1) := hbel1; clear hown1 hbel1)
  have hO := OWN1.out.cap
  obtain ⟨g, rfl⟩ : ∃ g, a1 = some ⟨g, 0, none⟩ := by
    rcases OWN1.out.2 with ⟨hv, hn0⟩ | ⟨g, cap', cur, hv, _⟩
    · exfalso
      have : L.length = 0 := by simpa using hn0
      omega
    · simp only [Value.slice.injEq] at hv
      exact ⟨g, hv.1⟩
  obtain ⟨hc1, hc2⟩ := hO
  obtain ⟨N, hN⟩ : ∃ N, N = w.heap.size := ⟨_, rfl⟩
  have HNN : Hid (N = w.heap.size) := hN
  have O1 : Hid (Owned w1 N (.slice (some ⟨g, 0, none⟩) len c1) L) := by rw [hN]; exact OWN1.out
  have B2 : Hid (Below N w w1) := by rw [hN]; exact ((Below.refl _ _).alloc (Nat.le_refl _) _).trans B1.out
  clear hN OWN1 B1
  go_loopg [10] 32 (fun gh i wr => ∃ (q d : Nat) (O : List Int), q ≤ 32 ∧ gh = 32 - q ∧ i = .int .i64 q ∧ d < 2 ^ q ∧ Hid (lev O = lev L ^^^ 2 ^ k * d) ∧ Hid (IsBytes O) ∧ O.length = len ∧ Hid (Below N w wr) ∧ Hid (Owned wr N (.slice (some ⟨g, 0, none⟩) len c1) O))
  case atStart => exact ⟨0, 0, L, Nat.zero_le _, rfl, rfl, by decide, by show _ = _; simp, HB, hl, B2, O1⟩
  case round =>
    obtain ⟨q, d, O, hq, rfl, rfl, hd, HE, HBO, hlo, HBW, HOW⟩ := hrel
    have HD : Hid (d < 2 ^ q) := hd
    clear hd
    by_cases hq32 : q < 32
    · by_cases hkq : k + q < n
      · have g1 : decide ((q : Int) < 32) = true := by simp; omega
        have g2 : decide ((k : Int) + q < n) = true := by simp; omega
        have ea := bit_int y q hy
        rcases Nat.mod_two_eq_zero_or_one (y / 2 ^ q) with h2 | h2
        · rw [h2] at ea
          clear h2
          go_wp2_with fail
          go_roundg (32 - (q + 1))
          case measure => omega
          case rel => exact ⟨q + 1, d, O, by omega, rfl, by go_num, Nat.lt_of_lt_of_le HD.out (Nat.pow_le_pow_right (by decide) (by omega)), HE, HBO, hlo, HBW, HOW⟩
        · rw [h2] at ea
          clear h2
          obtain ⟨j, hj⟩ : ∃ j, j = (k + q) / 8 := ⟨_, rfl⟩
          have j1 : j < len := by have := HN.out; omega
          have hcell : wr.cell? ⟨g, j, none⟩ = some (.int .u8 (O.getD j 0)) := by
            rw [World.ownsRow.cellAt (n := len) (by have := HOW.out; unfold Owned at this; rw [hlo] at this; exact this) j (by omega)]
            simp [List.getD, List.getElem?_eq_getElem (show j < O.length by omega)]
          have hfz : wr.frozen? ⟨g, j, none⟩ = false := World.ownsRow.frozenAt (n := len) (by have := HOW.out; unfold Owned at this; rw [hlo] at this; exact this) j
          have HX : Hid (0 ≤ O.getD j 0 ∧ O.getD j 0 ≤ 255) := HBO.out j (by omega)
          have HV : Hid (lev (O.set j (((O.getD j 0).toNat ^^^ 2 ^ ((k + q) % 8) : Nat) : Int)) = lev O ^^^ 2 ^ (8 * j) * 2 ^ ((k + q) % 8)) := lev_set O j (by omega) _
          generalize O.getD j 0 = x at *
          rw [hj] at hcell hfz
          have HJ : Hid (j = (k + q) / 8) := hj
          clear hj
          go_wp2_with fail
          rw [xor_pow x ((k + q) % 8) HX.out (Nat.mod_lt _ (by decide)), ← HJ.out]
          go_roundg (32 - (q + 1))
          case measure => omega
          case rel =>
            have hst := World.ownsRow.stored (n := len) (show wr.ownsRow N 5 1 (.slice (some ⟨g, 0, none⟩) len c1) len (O.map (Value.int .u8)) by have := HOW.out; unfold Owned at this; rw [hlo] at this; exact this) j (.int .u8 ((x.toNat ^^^ 2 ^ ((k + q) % 8) : Nat) : Int))
            refine ⟨q + 1, d ^^^ 2 ^ q, O.set j ((x.toNat ^^^ 2 ^ ((k + q) % 8) : Nat) : Int), by omega, rfl, by go_num, ?_, ?_, ?_, by rw [List.length_set]; exact hlo, ?_, ?_⟩
            · exact Nat.xor_lt_two_pow (Nat.lt_of_lt_of_le HD.out (Nat.pow_le_pow_right (by decide) (by omega))) (Nat.pow_lt_pow_right (by decide) (by omega))
            · show _ = _
              rw [HV.out, HE.out]
              exact burst_step (lev L) k d q j HJ.out
            · show IsBytes _
              exact bytes_set HBO.out j _ (by have := HX.out; have := byte_pow x.toNat ((k + q) % 8) (by omega) (Nat.mod_lt _ (by decide)); omega)
            · exact HBW.out.setCell (p := ⟨g, j, none⟩) (HOW.out.block g rfl) _
            · show Owned _ _ _ _
              unfold Owned
              rw [List.length_set, hlo, List.map_set]
              exact hst.1
      · have g1 : decide ((q : Int) < 32) = true := by simp; omega
        have g2 : decide ((k : Int) + q < n) = false := by simp; omega
        have hhO := HOW.out.holds
        have HLW : Hid (∀ W, Below wr.heap.size wr W → Holds W a L) := fun W h => HL.out.below ((show Below w.heap.size w wr by rw [← HNN.out]; exact HBW.out).trans (h.mono (by have := HBW.out.size; exact this))) HT.out
        have HOW2 : Hid (∀ W, Below wr.heap.size wr W → Holds W (some ⟨g, 0, none⟩) O) := fun W h => hhO.1.below h (fun x hx _ => HOW.out.lt_size x hx)
        clear hhO
        obtain ⟨sO, hsO⟩ : ∃ s, s = strOfNums O := ⟨_, rfl⟩
        obtain ⟨sL, hsL⟩ : ∃ s, s = strOfNums L := ⟨_, rfl⟩
        have CV : Hid (∀ W, Below wr.heap.size wr W → (convert 22 9 (.slice (some ⟨g, 0, none⟩) len c1)).run Try.prog W = .ok (.string sO) W ∧ (convert 22 9 (.slice a len cap)).run Try.prog W = .ok (.string sL) W) := by
          intro W h
          rw [hsO, hsL]
          exact ⟨conv_str (HOW2.out W h) len c1 hlo, conv_str (HLW.out W h) len cap hl⟩
        have EH : Hid (((((cmore 0 O : Nat) : Int) == ((cmore 0 L : Nat) : Int)) == (sO.toList == sL.toList)) = true) := by
          show _ = _
          rw [hsO, hsL, str_eq O L (bytes_mem HBO.out) (bytes_mem HB.out), beq_iff_eq, Bool.eq_iff_iff, beq_iff_eq, decide_eq_true_iff, Int.ofNat_inj]
          have hd32 : d < 4294967296 := Nat.lt_of_lt_of_le HD.out (by rw [show 4294967296 = 2 ^ 32 by decide]; exact Nat.pow_le_pow_right (by decide) hq)
          exact cmore_burst O L (by rw [hlo, hl]) (bytes_mem HBO.out) (bytes_mem HB.out) k d hd32 (by have := HN.out; omega) HE.out
        clear hsO hsL
        have s1 : Hid (∀ W : World, W = wr.drew → Calls Try.prog 9 #[.slice (some ⟨g, 0, none⟩) len c1] W fun e w' => e = .returned (.int .u32 (cmore 0 O : Nat)) ∧ w' = W) := fun W h => by subst h; exact sum_is O len _ _ hlo (by omega) HBO.out _ (HOW2.out _ (Below.refl _ _).drew)
        have s2 : Hid (∀ W : World, W = wr.drew → Calls Try.prog 9 #[.slice a len cap] W fun e w' => e = .returned (.int .u32 (cmore 0 L : Nat)) ∧ w' = W) := fun W h => by subst h; exact sum_is L len _ _ hl (by omega) HB.out _ (HLW.out _ (Below.refl _ _).drew)
        generalize cmore 0 O = p1 at *
        generalize cmore 0 L = p2 at *
        go_wp2_with fail
        refine wp_region_noPanic ?_
        refine wp_region_held_drew (S := (fun W : World => (convert 22 9 (.slice (some ⟨g, 0, none⟩) len c1)).run Try.prog W = .ok (.string sO) W ∧ (convert 22 9 (.slice a len cap)).run Try.prog W = .ok (.string sL) W)) (by kernel_rfl) ?hSaburstshortA (fun hHeld => ?restaburstshortA)
        case hSaburstshortA => exact CV.out _ (Below.refl _ _).drew
        case restaburstshortA =>
          refine wpAnyH_take (i := 0) (v := ?v0burstshortA) rfl (by kernel_rfl) (by kernel_rfl) (by kernel_rfl) (fun _ _ _ h => h) (Or.inl ⟨by rfl, ?hy0burstshortA⟩) hHeld ?rest0burstshortA
          case hy0burstshortA => (intro w hSw; (try dsimp only at hSw); go_simp; try with_reducible rfl)
          try simp only [Act.put, List.setIfInBounds_toArray, List.set_cons_zero, List.set_cons_succ, List.getElem_toArray, List.getElem_cons_zero]
          refine wpAnyH_take (i := 2) (v := ?v2burstshortA) rfl (by kernel_rfl) (by kernel_rfl) (by kernel_rfl) (fun _ _ _ h => h) (Or.inl ⟨by rfl, ?hy2burstshortA⟩) hHeld ?rest2burstshortA
          case hy2burstshortA => (intro w hSw; (try dsimp only at hSw); go_simp; try with_reducible rfl)
          try simp only [Act.put, List.setIfInBounds_toArray, List.set_cons_zero, List.set_cons_succ, List.getElem_toArray, List.getElem_cons_zero, List.getElem_cons_succ]
          refine wpAnyH_take (i := 5) (v := ?v5burstshortA) rfl (by kernel_rfl) (by kernel_rfl) (by kernel_rfl) (fun _ _ _ h => h) (Or.inl ⟨by rfl, ?hy5burstshortA⟩) hHeld ?rest5burstshortA
          case hy5burstshortA => (intro w hSw; (try dsimp only at hSw); go_simp; try with_reducible rfl)
          try simp only [Act.put, List.setIfInBounds_toArray, List.set_cons_zero, List.set_cons_succ, List.getElem_toArray, List.getElem_cons_zero, List.getElem_cons_succ]
          refine wpAnyH_take (i := 6) (v := ?v6burstshortA) rfl (by kernel_rfl) (by kernel_rfl) (by kernel_rfl) (fun _ _ _ h => h) (Or.inl ⟨by rfl, ?hy6burstshortA⟩) hHeld ?rest6burstshortA
          case hy6burstshortA => (intro w hSw; (try dsimp only at hSw); go_simp; try with_reducible rfl)
          try simp only [Act.put, List.setIfInBounds_toArray, List.set_cons_zero, List.set_cons_succ, List.getElem_toArray, List.getElem_cons_zero, List.getElem_cons_succ]
          refine wpAnyH_take (i := 7) (v := ?v7burstshortA) rfl (by kernel_rfl) (by kernel_rfl) (by kernel_rfl) (fun _ _ _ h => h) (Or.inl ⟨by rfl, ?hy7burstshortA⟩) hHeld ?rest7burstshortA
          case hy7burstshortA => (intro w hSw; (try dsimp only at hSw); go_simp; try with_reducible rfl)
          try simp only [Act.put, List.setIfInBounds_toArray, List.set_cons_zero, List.set_cons_succ, List.getElem_toArray, List.getElem_cons_zero, List.getElem_cons_succ]
          refine wpAnyH_take (i := 8) (v := ?v8burstshortA) rfl (by kernel_rfl) (by kernel_rfl) (by kernel_rfl) (fun _ _ _ h => h) (Or.inl ⟨by rfl, ?hy8burstshortA⟩) hHeld ?rest8burstshortA
          case hy8burstshortA => (intro w hSw; (try dsimp only at hSw); go_simp; try with_reducible rfl)
          try simp only [Act.put, List.setIfInBounds_toArray, List.set_cons_zero, List.set_cons_succ, List.getElem_toArray, List.getElem_cons_zero, List.getElem_cons_succ]
          refine wpAnyH_take (i := 9) (v := ?v9burstshortA) rfl (by kernel_rfl) (by kernel_rfl) (by kernel_rfl) (fun _ _ _ h => h) (Or.inl ⟨by rfl, ?hy9burstshortA⟩) hHeld ?rest9burstshortA
          case hy9burstshortA => (intro w hSw; (try dsimp only at hSw); go_simp; try with_reducible rfl)
          try simp only [Act.put, List.setIfInBounds_toArray, List.set_cons_zero, List.set_cons_succ, List.getElem_toArray, List.getElem_cons_zero, List.getElem_cons_succ]
          refine wpAnyH_ready (rs := [1]) (by kernel_rfl) (by simp) ?_
          refine AllReadyH.cons rfl (fun K hK => ?_) AllReadyH.nil
          go_simp; refine (s1.out _ rfl).mono ?_; rintro e w' ⟨rfl, hw⟩; obtain rfl := hw.symm; clear hw; go_wp2_with fail
          refine hK.out _ _ ?hS1burstshortA (fun hHeld => ?rest1burstshortA)
          case hS1burstshortA => exact CV.out _ (Below.refl _ _).drew
          clear hK K
          try simp only [Act.put, List.setIfInBounds_toArray, List.set_cons_zero, List.set_cons_succ, List.getElem_toArray, List.getElem_cons_zero, List.getElem_cons_succ]
          refine wpAnyH_ready (rs := [3]) (by kernel_rfl) (by simp) ?_
          refine AllReadyH.cons rfl (fun K hK => ?_) AllReadyH.nil
          go_simp; refine (s2.out _ rfl).mono ?_; rintro e w' ⟨rfl, hw⟩; obtain rfl := hw.symm; clear hw; go_wp2_with fail
          refine hK.out _ _ ?hS3burstshortA (fun hHeld => ?rest3burstshortA)
          case hS3burstshortA => exact CV.out _ (Below.refl _ _).drew
          clear hK K
          try simp only [Act.put, List.setIfInBounds_toArray, List.set_cons_zero, List.set_cons_succ, List.getElem_toArray, List.getElem_cons_zero, List.getElem_cons_succ]
          refine wpAnyH_take (i := 4) (v := ?v4burstshortA) rfl (by kernel_rfl) (by kernel_rfl) (by kernel_rfl) (fun _ _ _ h => h) (Or.inl ⟨by rfl, ?hy4burstshortA⟩) hHeld ?rest4burstshortA
          case hy4burstshortA => (intro w hSw; (try dsimp only at hSw); go_simp; try with_reducible rfl)
          try simp only [Act.put, List.setIfInBounds_toArray, List.set_cons_zero, List.set_cons_succ, List.getElem_toArray, List.getElem_cons_zero, List.getElem_cons_succ]
          have E := EH.out
          refine wpAnyH_take (i := 10) (v := ?v10burstshortA) rfl (by kernel_rfl) (by kernel_rfl) (by kernel_rfl) (fun _ _ _ h => h) (Or.inl ⟨by rfl, ?hy10burstshortA⟩) hHeld ?rest10burstshortA
          case hy10burstshortA => (intro w hSw; (try dsimp only at hSw); go_simp; try with_reducible rfl)
          try simp only [Act.put, List.setIfInBounds_toArray, List.set_cons_zero, List.set_cons_succ, List.getElem_toArray, List.getElem_cons_zero, List.getElem_cons_succ]
          refine wpAnyH_take (i := 11) (v := ?v11burstshortA) rfl (by kernel_rfl) (by kernel_rfl) (by kernel_rfl) (fun _ _ _ h => h) (Or.inl ⟨by rfl, ?hy11burstshortA⟩) hHeld ?rest11burstshortA
          case hy11burstshortA => (intro w hSw; (try dsimp only at hSw); go_simp; try with_reducible rfl)
          try simp only [Act.put, List.setIfInBounds_toArray, List.set_cons_zero, List.set_cons_succ, List.getElem_toArray, List.getElem_cons_zero, List.getElem_cons_succ]
          refine wpAnyH_ready (rs := [12]) (by kernel_rfl) (by simp) ?_
          refine AllReadyH.cons rfl (fun K hK => ?_) AllReadyH.nil
          go_simp; refine (works_true _).mono ?_; rintro e w4 ⟨rfl, hwk⟩; have HW : Hid (Below wr.heap.size wr.drew w4) := hwk; clear hwk; go_wp2_with fail
          refine hK.out _ _ ?hS12burstshortA (fun hHeld => ?rest12burstshortA)
          case hS12burstshortA => exact CV.out _ ((Below.refl _ _).drew.trans HW.out)
          clear hK K
          try simp only [Act.put, List.setIfInBounds_toArray, List.set_cons_zero, List.set_cons_succ, List.getElem_toArray, List.getElem_cons_zero, List.getElem_cons_succ]
          refine wpAnyH_take (i := 13) (v := ?v13burstshortA) rfl (by kernel_rfl) (by kernel_rfl) (by kernel_rfl) (fun _ _ _ h => h) (Or.inl ⟨by rfl, ?hy13burstshortA⟩) hHeld ?rest13burstshortA
          case hy13burstshortA => (intro w hSw; (try dsimp only at hSw); go_simp; try with_reducible rfl)
          try simp only [Act.put, List.setIfInBounds_toArray, List.set_cons_zero, List.set_cons_succ, List.getElem_toArray, List.getElem_cons_zero, List.getElem_cons_succ]
          refine wpAnyH_take (i := 14) (v := ?v14burstshortA) rfl (by kernel_rfl) (by kernel_rfl) (by kernel_rfl) (fun _ _ _ h => h) (Or.inl ⟨by rfl, ?hy14burstshortA⟩) hHeld ?rest14burstshortA
          case hy14burstshortA => (intro w hSw; (try dsimp only at hSw); go_simp; try with_reducible rfl)
          try simp only [Act.put, List.setIfInBounds_toArray, List.set_cons_zero, List.set_cons_succ, List.getElem_toArray, List.getElem_cons_zero, List.getElem_cons_succ]
          refine wpAnyH_done (by kernel_rfl) ?_ _
          refine NoPanic.normal ?_
          go_wp2
          go_ret
          exact ⟨rfl, by rw [← HNN.out]; exact HBW.out.drew.trans (HW.out.mono (by have := HBW.out.size; rw [HNN.out]; exact this))⟩
    · have g1 : decide ((q : Int) < 32) = false := by simp; omega
      have hhO := HOW.out.holds
      have HLW : Hid (∀ W, Below wr.heap.size wr W → Holds W a L) := fun W h => HL.out.below ((show Below w.heap.size w wr by rw [← HNN.out]; exact HBW.out).trans (h.mono (by have := HBW.out.size; exact this))) HT.out
      have HOW2 : Hid (∀ W, Below wr.heap.size wr W → Holds W (some ⟨g, 0, none⟩) O) := fun W h => hhO.1.below h (fun x hx _ => HOW.out.lt_size x hx)
      clear hhO
      obtain ⟨sO, hsO⟩ : ∃ s, s = strOfNums O := ⟨_, rfl⟩
      obtain ⟨sL, hsL⟩ : ∃ s, s = strOfNums L := ⟨_, rfl⟩
      have CV : Hid (∀ W, Below wr.heap.size wr W → (convert 22 9 (.slice (some ⟨g, 0, none⟩) len c1)).run Try.prog W = .ok (.string sO) W ∧ (convert 22 9 (.slice a len cap)).run Try.prog W = .ok (.string sL) W) := by
        intro W h
        rw [hsO, hsL]
        exact ⟨conv_str (HOW2.out W h) len c1 hlo, conv_str (HLW.out W h) len cap hl⟩
      have EH : Hid (((((cmore 0 O : Nat) : Int) == ((cmore 0 L : Nat) : Int)) == (sO.toList == sL.toList)) = true) := by
        show _ = _
        rw [hsO, hsL, str_eq O L (bytes_mem HBO.out) (bytes_mem HB.out), beq_iff_eq, Bool.eq_iff_iff, beq_iff_eq, decide_eq_true_iff, Int.ofNat_inj]
        have hd32 : d < 4294967296 := Nat.lt_of_lt_of_le HD.out (by rw [show 4294967296 = 2 ^ 32 by decide]; exact Nat.pow_le_pow_right (by decide) hq)
        exact cmore_burst O L (by rw [hlo, hl]) (bytes_mem HBO.out) (bytes_mem HB.out) k d hd32 (by have := HN.out; omega) HE.out
      clear hsO hsL
      have s1 : Hid (∀ W : World, W = wr.drew → Calls Try.prog 9 #[.slice (some ⟨g, 0, none⟩) len c1] W fun e w' => e = .returned (.int .u32 (cmore 0 O : Nat)) ∧ w' = W) := fun W h => by subst h; exact sum_is O len _ _ hlo (by omega) HBO.out _ (HOW2.out _ (Below.refl _ _).drew)
      have s2 : Hid (∀ W : World, W = wr.drew → Calls Try.prog 9 #[.slice a len cap] W fun e w' => e = .returned (.int .u32 (cmore 0 L : Nat)) ∧ w' = W) := fun W h => by subst h; exact sum_is L len _ _ hl (by omega) HB.out _ (HLW.out _ (Below.refl _ _).drew)
      generalize cmore 0 O = p1 at *
      generalize cmore 0 L = p2 at *
      go_wp2_with fail
      refine wp_region_noPanic ?_
      refine wp_region_held_drew (S := (fun W : World => (convert 22 9 (.slice (some ⟨g, 0, none⟩) len c1)).run Try.prog W = .ok (.string sO) W ∧ (convert 22 9 (.slice a len cap)).run Try.prog W = .ok (.string sL) W)) (by kernel_rfl) ?hSaburstshortB (fun hHeld => ?restaburstshortB)
      case hSaburstshortB => exact CV.out _ (Below.refl _ _).drew
      case restaburstshortB =>
        refine wpAnyH_take (i := 0) (v := ?v0burstshortB) rfl (by kernel_rfl) (by kernel_rfl) (by kernel_rfl) (fun _ _ _ h => h) (Or.inl ⟨by rfl, ?hy0burstshortB⟩) hHeld ?rest0burstshortB
        case hy0burstshortB => (intro w hSw; (try dsimp only at hSw); go_simp; try with_reducible rfl)
        try simp only [Act.put, List.setIfInBounds_toArray, List.set_cons_zero, List.set_cons_succ, List.getElem_toArray, List.getElem_cons_zero]
        refine wpAnyH_take (i := 2) (v := ?v2burstshortB) rfl (by kernel_rfl) (by kernel_rfl) (by kernel_rfl) (fun _ _ _ h => h) (Or.inl ⟨by rfl, ?hy2burstshortB⟩) hHeld ?rest2burstshortB
        case hy2burstshortB => (intro w hSw; (try dsimp only at hSw); go_simp; try with_reducible rfl)
        try simp only [Act.put, List.setIfInBounds_toArray, List.set_cons_zero, List.set_cons_succ, List.getElem_toArray, List.getElem_cons_zero, List.getElem_cons_succ]
        refine wpAnyH_take (i := 5) (v := ?v5burstshortB) rfl (by kernel_rfl) (by kernel_rfl) (by kernel_rfl) (fun _ _ _ h => h) (Or.inl ⟨by rfl, ?hy5burstshortB⟩) hHeld ?rest5burstshortB
        case hy5burstshortB => (intro w hSw; (try dsimp only at hSw); go_simp; try with_reducible rfl)
        try simp only [Act.put, List.setIfInBounds_toArray, List.set_cons_zero, List.set_cons_succ, List.getElem_toArray, List.getElem_cons_zero, List.getElem_cons_succ]
        refine wpAnyH_take (i := 6) (v := ?v6burstshortB) rfl (by kernel_rfl) (by kernel_rfl) (by kernel_rfl) (fun _ _ _ h => h) (Or.inl ⟨by rfl, ?hy6burstshortB⟩) hHeld ?rest6burstshortB
        case hy6burstshortB => (intro w hSw; (try dsimp only at hSw); go_simp; try with_reducible rfl)
        try simp only [Act.put, List.setIfInBounds_toArray, List.set_cons_zero, List.set_cons_succ, List.getElem_toArray, List.getElem_cons_zero, List.getElem_cons_succ]
        refine wpAnyH_take (i := 7) (v := ?v7burstshortB) rfl (by kernel_rfl) (by kernel_rfl) (by kernel_rfl) (fun _ _ _ h => h) (Or.inl ⟨by rfl, ?hy7burstshortB⟩) hHeld ?rest7burstshortB
        case hy7burstshortB => (intro w hSw; (try dsimp only at hSw); go_simp; try with_reducible rfl)
        try simp only [Act.put, List.setIfInBounds_toArray, List.set_cons_zero, List.set_cons_succ, List.getElem_toArray, List.getElem_cons_zero, List.getElem_cons_succ]
        refine wpAnyH_take (i := 8) (v := ?v8burstshortB) rfl (by kernel_rfl) (by kernel_rfl) (by kernel_rfl) (fun _ _ _ h => h) (Or.inl ⟨by rfl, ?hy8burstshortB⟩) hHeld ?rest8burstshortB
        case hy8burstshortB => (intro w hSw; (try dsimp only at hSw); go_simp; try with_reducible rfl)
        try simp only [Act.put, List.setIfInBounds_toArray, List.set_cons_zero, List.set_cons_succ, List.getElem_toArray, List.getElem_cons_zero, List.getElem_cons_succ]
        refine wpAnyH_take (i := 9) (v := ?v9burstshortB) rfl (by kernel_rfl) (by kernel_rfl) (by kernel_rfl) (fun _ _ _ h => h) (Or.inl ⟨by rfl, ?hy9burstshortB⟩) hHeld ?rest9burstshortB
        case hy9burstshortB => (intro w hSw; (try dsimp only at hSw); go_simp; try with_reducible rfl)
        try simp only [Act.put, List.setIfInBounds_toArray, List.set_cons_zero, List.set_cons_succ, List.getElem_toArray, List.getElem_cons_zero, List.getElem_cons_succ]
        refine wpAnyH_ready (rs := [1]) (by kernel_rfl) (by simp) ?_
        refine AllReadyH.cons rfl (fun K hK => ?_) AllReadyH.nil
        go_simp; refine (s1.out _ rfl).mono ?_; rintro e w' ⟨rfl, hw⟩; obtain rfl := hw.symm; clear hw; go_wp2_with fail
        refine hK.out _ _ ?hS1burstshortB (fun hHeld => ?rest1burstshortB)
        case hS1burstshortB => exact CV.out _ (Below.refl _ _).drew
        clear hK K
        try simp only [Act.put, List.setIfInBounds_toArray, List.set_cons_zero, List.set_cons_succ, List.getElem_toArray, List.getElem_cons_zero, List.getElem_cons_succ]
        refine wpAnyH_ready (rs := [3]) (by kernel_rfl) (by simp) ?_
        refine AllReadyH.cons rfl (fun K hK => ?_) AllReadyH.nil
        go_simp; refine (s2.out _ rfl).mono ?_; rintro e w' ⟨rfl, hw⟩; obtain rfl := hw.symm; clear hw; go_wp2_with fail
        refine hK.out _ _ ?hS3burstshortB (fun hHeld => ?rest3burstshortB)
        case hS3burstshortB => exact CV.out _ (Below.refl _ _).drew
        clear hK K
        try simp only [Act.put, List.setIfInBounds_toArray, List.set_cons_zero, List.set_cons_succ, List.getElem_toArray, List.getElem_cons_zero, List.getElem_cons_succ]
        refine wpAnyH_take (i := 4) (v := ?v4burstshortB) rfl (by kernel_rfl) (by kernel_rfl) (by kernel_rfl) (fun _ _ _ h => h) (Or.inl ⟨by rfl, ?hy4burstshortB⟩) hHeld ?rest4burstshortB
        case hy4burstshortB => (intro w hSw; (try dsimp only at hSw); go_simp; try with_reducible rfl)
        try simp only [Act.put, List.setIfInBounds_toArray, List.set_cons_zero, List.set_cons_succ, List.getElem_toArray, List.getElem_cons_zero, List.getElem_cons_succ]
        have E := EH.out
        refine wpAnyH_take (i := 10) (v := ?v10burstshortB) rfl (by kernel_rfl) (by kernel_rfl) (by kernel_rfl) (fun _ _ _ h => h) (Or.inl ⟨by rfl, ?hy10burstshortB⟩) hHeld ?rest10burstshortB
        case hy10burstshortB => (intro w hSw; (try dsimp only at hSw); go_simp; try with_reducible rfl)
        try simp only [Act.put, List.setIfInBounds_toArray, List.set_cons_zero, List.set_cons_succ, List.getElem_toArray, List.getElem_cons_zero, List.getElem_cons_succ]
        refine wpAnyH_take (i := 11) (v := ?v11burstshortB) rfl (by kernel_rfl) (by kernel_rfl) (by kernel_rfl) (fun _ _ _ h => h) (Or.inl ⟨by rfl, ?hy11burstshortB⟩) hHeld ?rest11burstshortB
        case hy11burstshortB => (intro w hSw; (try dsimp only at hSw); go_simp; try with_reducible rfl)
        try simp only [Act.put, List.setIfInBounds_toArray, List.set_cons_zero, List.set_cons_succ, List.getElem_toArray, List.getElem_cons_zero, List.getElem_cons_succ]
        refine wpAnyH_ready (rs := [12]) (by kernel_rfl) (by simp) ?_
        refine AllReadyH.cons rfl (fun K hK => ?_) AllReadyH.nil
        go_simp; refine (works_true _).mono ?_; rintro e w4 ⟨rfl, hwk⟩; have HW : Hid (Below wr.heap.size wr.drew w4) := hwk; clear hwk; go_wp2_with fail
        refine hK.out _ _ ?hS12burstshortB (fun hHeld => ?rest12burstshortB)
        case hS12burstshortB => exact CV.out _ ((Below.refl _ _).drew.trans HW.out)
        clear hK K
        try simp only [Act.put, List.setIfInBounds_toArray, List.set_cons_zero, List.set_cons_succ, List.getElem_toArray, List.getElem_cons_zero, List.getElem_cons_succ]
        refine wpAnyH_take (i := 13) (v := ?v13burstshortB) rfl (by kernel_rfl) (by kernel_rfl) (by kernel_rfl) (fun _ _ _ h => h) (Or.inl ⟨by rfl, ?hy13burstshortB⟩) hHeld ?rest13burstshortB
        case hy13burstshortB => (intro w hSw; (try dsimp only at hSw); go_simp; try with_reducible rfl)
        try simp only [Act.put, List.setIfInBounds_toArray, List.set_cons_zero, List.set_cons_succ, List.getElem_toArray, List.getElem_cons_zero, List.getElem_cons_succ]
        refine wpAnyH_take (i := 14) (v := ?v14burstshortB) rfl (by kernel_rfl) (by kernel_rfl) (by kernel_rfl) (fun _ _ _ h => h) (Or.inl ⟨by rfl, ?hy14burstshortB⟩) hHeld ?rest14burstshortB
        case hy14burstshortB => (intro w hSw; (try dsimp only at hSw); go_simp; try with_reducible rfl)
        try simp only [Act.put, List.setIfInBounds_toArray, List.set_cons_zero, List.set_cons_succ, List.getElem_toArray, List.getElem_cons_zero, List.getElem_cons_succ]
        refine wpAnyH_done (by kernel_rfl) ?_ _
        refine NoPanic.normal ?_
        go_wp2
        go_ret
        exact ⟨rfl, by rw [← HNN.out]; exact HBW.out.drew.trans (HW.out.mono (by have := HBW.out.size; rw [HNN.out]; exact this))⟩
theorem burst_none (a : Option Addr) (cap : Nat) (at0 : Int) (y : Nat) (w : World) :
    Calls Try.prog 6 #[.slice a 0 cap, .int .i64 at0, .int .u32 y] w fun e w' => e = .returned (.bool true) ∧ Below w.heap.size w w' := by
  go_enter Try.func6, Try.ntmps6
  go_wp2_with (go_at_call 12; refine (works_true _).mono ?_; rintro e w' ⟨rfl, hwk⟩)
  go_ret
  exact ⟨rfl, by assumption⟩
theorem crcBurst_walk (a : Option Addr) (len cap : Nat) (zs : List Int) (at0 y : Int) (w : World) (w0 : IsRow .u8 w a len cap zs) (w1 : (Lit.int .i64 at0).wf = true) (w2 : (Lit.int .u32 y).wf = true) :
    Calls Try.prog 6 #[.slice a len cap, .int .i64 at0, .int .u32 y] w fun e w' => e = .returned (.bool true) ∧ Below w.heap.size w w' := by
  obtain ⟨y0, y1⟩ := bounds_u32 w2
  obtain ⟨Y, rfl⟩ := Int.eq_ofNat_of_zero_le y0
  obtain ⟨L, hL, hlen, hh, hb, hcap, hreach, hlt, hlc, hcm⟩ := w0.holds
  by_cases h0 : len = 0
  · subst h0
    exact burst_none a cap at0 Y w
  · by_cases h1 : 2000 < len
    · exact burst_long a len cap (L.take 2000) at0 Y w h1 hlc hcm (by rw [List.length_take]; omega) (by omega) (hh.take 2000) hcap (fun x hx hne => hlt x hx (fun e => hne (by rw [e]; rfl))) (bytes_of_mem fun x hx => bytes_mem hb x (List.mem_of_mem_take hx))
    · exact burst_short a len cap L at0 Y w (by omega) (by omega) hlc hcm hlen (by omega) hh hcap hlt hb
end Go.Proofs.Ytbeeekmhnigelaa
