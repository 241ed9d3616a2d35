/- The walk of FrameTurned. -/
import Derived.Test.YtcejbinkdlbpaaaFrmQ
import Derived.Test.YtcejbinkdlbpaaaFrmR
namespace Go.Proofs.Ytcejbinkdlbpaaa
open Go.ChangeShapes Go.WideShapes Go.ChangeAt Go.RowKit Go.Deep
set_option linter.unusedVariables false
set_option maxHeartbeats 2000000 in
theorem turned_long (a : Option Addr) (len cap : Nat) (L : List Int) (at0 : Int) (y : Nat) (w : World) (hlen : 2000 < len) (hlc : len ≤ cap) (hcm : cap ≤ 140737488351232) (hl : L.length = 2000) (hy : y < 4294967296)
    (hh : Holds w a L) (hcap : a = none → cap = 0) (hlt : ∀ x, a = some x → L ≠ [] → x.block < w.heap.size) (hb : IsBytes L) :
    Calls Try.prog 7 #[.slice a len cap, .int .i64 at0, .int .u32 y] w fun e w' => e = .returned (.bool true) ∧ Below w.heap.size w w' := by
  have HL : Hid (Holds w a L) := hh
  have HC : Hid (a = none → cap = 0) := hcap
  have HT : Hid (∀ x, a = some x → L ≠ [] → x.block < w.heap.size) := hlt
  have HB : Hid (IsBytes L) := hb
  clear hh hcap hlt hb
  have l1 : (2000 : Int) < len := by omega
  have l2 : (2000 : Int) ≤ cap := by omega
  go_enter Try.func7, Try.ntmps7
  go_wp2_with fail
  refine (frame_ok w a 2000 cap L hl (by omega) HB.out HL.out HC.out HT.out).mono ?_
  rintro e w2 ⟨a2, N, c2, rfl, hNf, ho2, hb2⟩
  have HFL : Hid ((frameL L).length = N) := hNf
  have hN8 : N = 8 + 2000 := by rw [← hNf, frameL_length, hl]
  have n1 : 8 ≤ N := by omega
  have n2 : N ≤ 2008 := by omega
  have HN8' : Hid (N = 8 + 2000) := hN8
  have O2 : Hid (Owned w2 w.heap.size (.slice a2 N c2) (frameL L)) := ho2
  have B2 : Hid (Below w.heap.size w w2) := hb2
  have hs2 := hb2.size
  clear hNf ho2 hb2 hN8
  obtain ⟨n, hn⟩ : ∃ n, n = 8 * (N - 4) := ⟨_, rfl⟩
  obtain ⟨k, hkn, hk⟩ := inN at0 n (by omega) (by omega)
  have n0 : ((n : Int) == 0) = false := by rw [beq_eq_false_iff_ne]; omega
  have n8 : (8 : Int) * ((N : Int) - 4) = n := by omega
  have n3 : n ≤ 16032 := by omega
  have HN8 : Hid (n = 8 * (N - 4)) := hn
  have g8 : decide ((N : Int) < 8) = false := by simp; omega
  clear hn
  have own0 : Hid (Owned (w2.alloc (.cells #[] 5)) w.heap.size (.slice (some ⟨w2.heap.size, 0, none⟩) 0 0) []) := owned_empty w2 w.heap.size hs2
  have hF : Hid (Holds (w2.alloc (.cells #[] 5)) a2 (frameL L)) := (O2.out.alloc _).holds.1
  go_wp2_with (at_builtin; refine append_bytes rfl (.tmp 45) (.tmp 46) rfl w.heap.size _ [] rfl own0.out _ _ _ (frameL L) rfl HFL.out hF.out O2.out.holds.2.2 N (by simp) (by omega) (by simp; omega) ?_; intro a1 c1 w1 hown1 hbel1; have OWN1 : Hid (Owned w1 w.heap.size (.slice a1 N c1) (frameL L)) := hown1; have B1 : Hid (Below w.heap.size w w1) := (B2.out.trans (((Below.refl _ _).alloc (by omega) _).trans hbel1)); clear hown1 hbel1)
  obtain ⟨g, rfl⟩ := OWN1.out.some (by omega)
  obtain ⟨hc1, hc2⟩ := OWN1.out.cap
  obtain ⟨NN, hN⟩ : ∃ NN, NN = w.heap.size := ⟨_, rfl⟩
  have HNN : Hid (NN = w.heap.size) := hN
  have O1 : Hid (Owned w1 NN (.slice (some ⟨g, 0, none⟩) N c1) (frameL L)) := by rw [hN]; exact OWN1.out
  have B1' : Hid (Below NN w w1) := by rw [hN]; exact B1.out
  clear hN OWN1 B1 own0 hF O2 B2
  go_loopg [12, 13] 32 (fun gh ch i wr => ∃ (q d : Nat) (O : List Int), q ≤ 32 ∧ gh = 32 - q ∧ i = .int .i64 q ∧ ch = .bool (d != 0) ∧ d < 2 ^ q ∧ Hid (lev O = lev (frameL L) ^^^ 2 ^ (32 + k) * d) ∧ Hid (IsBytes O) ∧ O.length = N ∧ Hid (O.take 4 = (frameL L).take 4) ∧ Hid (Below NN w wr) ∧ Hid (Owned wr NN (.slice (some ⟨g, 0, none⟩) N c1) O))
  case atStart => exact ⟨0, 0, frameL L, Nat.zero_le _, rfl, rfl, rfl, by decide, by show _ = _; simp, frameL_bytes HB.out, HFL.out, rfl, B1', O1⟩
  case round =>
    obtain ⟨q, d, O, hq, rfl, rfl, rfl, hd, HE, HBO, hlo, H4, HBW, HOW⟩ := hrel
    have HD : Hid (d < 2 ^ q) := hd
    clear hd
    by_cases hq32 : q < 32
    · by_cases hkq : k + q < n
      · have g1 : decide ((q : Int) < 32) = true := by simp; omega
        have g2 : decide ((k : Int) + q < n) = true := by simp; omega
        have ea := bit_int y q hy
        rcases Nat.mod_two_eq_zero_or_one (y / 2 ^ q) with h2 | h2
        · rw [h2] at ea
          clear h2
          go_wp2_with fail
          go_roundg (32 - (q + 1))
          case measure => omega
          case rel => exact ⟨q + 1, d, O, by omega, rfl, by go_num, rfl, Nat.lt_of_lt_of_le HD.out (Nat.pow_le_pow_right (by decide) (by omega)), HE, HBO, hlo, H4, HBW, HOW⟩
        · rw [h2] at ea
          clear h2
          obtain ⟨j, hj⟩ : ∃ j, j = 4 + (k + q) / 8 := ⟨_, rfl⟩
          have j1 : j < N := by have := HN8.out; omega
          have j4 : 4 ≤ j := by omega
          have HOO : Hid (wr.ownsRow NN 5 1 (.slice (some ⟨g, 0, none⟩) N c1) N (O.map (Value.int .u8))) := by
            have := HOW.out
            unfold Owned at this
            rw [hlo] at this
            exact this
          have hcell : wr.cell? ⟨g, j, none⟩ = some (.int .u8 (O.getD j 0)) := by
            rw [World.ownsRow.cellAt HOO.out j (by omega)]
            simp [List.getD, List.getElem?_eq_getElem (show j < O.length by omega)]
          have hfz : wr.frozen? ⟨g, j, none⟩ = false := World.ownsRow.frozenAt HOO.out j
          have HX : Hid (0 ≤ O.getD j 0 ∧ O.getD j 0 ≤ 255) := HBO.out j (by omega)
          have HV : Hid (lev (O.set j (((O.getD j 0).toNat ^^^ 2 ^ ((k + q) % 8) : Nat) : Int)) = lev O ^^^ 2 ^ (8 * j) * 2 ^ ((k + q) % 8)) := lev_set O j (by omega) _
          generalize O.getD j 0 = x at *
          have ij : (4 : Int) + ((k : Int) + q) / 8 = j := by omega
          have ij2 : ((j : Int) < N) := by omega
          have HJ : Hid (j = 4 + (k + q) / 8) := hj
          clear hj
          go_wp2_with fail
          rw [xor_pow x ((k + q) % 8) HX.out (Nat.mod_lt _ (by decide))]
          go_roundg (32 - (q + 1))
          case measure => omega
          case rel =>
            have hst := World.ownsRow.stored HOO.out j (.int .u8 ((x.toNat ^^^ 2 ^ ((k + q) % 8) : Nat) : Int))
            refine ⟨q + 1, d ^^^ 2 ^ q, O.set j ((x.toNat ^^^ 2 ^ ((k + q) % 8) : Nat) : Int), by omega, rfl, by go_num, ?_, ?_, ?_, ?_, by rw [List.length_set]; exact hlo, ?_, ?_, ?_⟩
            · have : d ^^^ 2 ^ q ≠ 0 := by
                intro h0
                have : d = 2 ^ q := by
                  have h1 : d ^^^ 2 ^ q ^^^ 2 ^ q = 2 ^ q := by rw [h0, Nat.zero_xor]
                  rwa [Nat.xor_assoc, Nat.xor_self, Nat.xor_zero] at h1
                have := HD.out
                omega
              simp [this]
            · exact Nat.xor_lt_two_pow (Nat.lt_of_lt_of_le HD.out (Nat.pow_le_pow_right (by decide) (by omega))) (Nat.pow_lt_pow_right (by decide) (by omega))
            · show _ = _
              rw [HV.out, HE.out]
              have := burst_step (lev (frameL L)) (32 + k) d q j (by have := HJ.out; omega)
              rw [show (32 + k + q) % 8 = (k + q) % 8 by omega] at this
              exact this
            · show IsBytes _
              exact bytes_set HBO.out j _ (by have := HX.out; have := byte_pow x.toNat ((k + q) % 8) (by omega) (Nat.mod_lt _ (by decide)); omega)
            · show (O.set j _).take 4 = _
              rw [List.take_set_of_le j4]
              exact H4.out
            · exact HBW.out.setCell (p := ⟨g, j, none⟩) (HOW.out.block g rfl) _
            · show Owned _ _ _ _
              unfold Owned
              rw [List.length_set, hlo, List.map_set]
              exact hst.1
      · have g1 : decide ((q : Int) < 32) = true := by simp; omega
        have g2 : decide ((k : Int) + q < n) = false := by simp; omega
        have RO := read_own HOW.out HBO.out (by omega)
        have HRO : Hid (Calls Try.prog 11 #[.slice (some ⟨g, 0, none⟩) N c1] wr (ReadSaid wr O)) := RO
        clear RO
        by_cases hd0 : d = 0
        · have hz : (d != 0) = false := by simp [hd0]
          have HR : Hid (rd O = (L, N, 0)) := by
            show rd O = _
            have e := HE.out
            rw [hd0] at e
            have := lev_same O (frameL L) (by rw [hlo, HFL.out]) HBO.out (frameL_bytes HB.out) _ e
            rw [this]
            have r := rd_frame L [] (by omega)
            rw [List.append_nil] at r
            rw [r, hl, HN8'.out]
          rw [hz]
          clear hd0 hz
          go_wp2_with fail
          refine HRO.out.mono ?_
          rintro e w5 ⟨a5, m, rfl, hm, ho5, hb5⟩
          rw [HR.out] at hm ho5 ⊢
          have em : 2000 = m := by rw [← hm]; exact hl.symm
          subst em
          have B5 : Hid (Below w.heap.size w w5) := by rw [← HNN.out]; exact HBW.out.trans (hb5.mono (by have := HBW.out.size; rw [HNN.out]; exact this))
          have cR := conv_str ho5.holds.1 2000 2000 hl
          have cL := conv_str (HL.out.below B5.out HT.out) 2000 cap hl
          have hs5 : w.heap.size ≤ w5.heap.size := B5.out.size
          clear hm ho5 hb5
          generalize strOfNums L = sL at *
          go_wp2_with (go_at_call 13; refine (works_true _).mono ?_; rintro e w6 ⟨rfl, hwk⟩)
          go_ret
          exact ⟨rfl, B5.out.trans (hwk.mono hs5)⟩
        · have hz : (d != 0) = true := by simp [hd0]
          have hd32 : d < 4294967296 := Nat.lt_of_lt_of_le HD.out (by rw [show 4294967296 = 2 ^ 32 by decide]; exact Nat.pow_le_pow_right (by decide) hq)
          have HR : Hid (rd O = ([], 0, 6)) := rd_turned L HB.out (by omega) O (by rw [hlo, HFL.out]) HBO.out H4.out (32 + k) d hd32 (by rw [HFL.out]; have := HN8.out; omega) HE.out hd0
          rw [hz]
          clear hd0 hz hd32
          go_wp2_with fail
          refine HRO.out.mono ?_
          rintro e w5 ⟨a5, m, rfl, hm, ho5, hb5⟩
          rw [HR.out] at hm ho5 ⊢
          have em : m = 0 := hm.symm
          subst em
          have B5 : Hid (Below w.heap.size w w5) := by rw [← HNN.out]; exact HBW.out.trans (hb5.mono (by have := HBW.out.size; rw [HNN.out]; exact this))
          have hs5 : w.heap.size ≤ w5.heap.size := B5.out.size
          clear hm ho5 hb5
          go_wp2_with (go_at_call 13; refine (works_true _).mono ?_; rintro e w6 ⟨rfl, hwk⟩)
          go_ret
          exact ⟨rfl, B5.out.trans (hwk.mono hs5)⟩
    · have g1 : decide ((q : Int) < 32) = false := by simp; omega
      have RO := read_own HOW.out HBO.out (by omega)
      have HRO : Hid (Calls Try.prog 11 #[.slice (some ⟨g, 0, none⟩) N c1] wr (ReadSaid wr O)) := RO
      clear RO
      by_cases hd0 : d = 0
      · have hz : (d != 0) = false := by simp [hd0]
        have HR : Hid (rd O = (L, N, 0)) := by
          show rd O = _
          have e := HE.out
          rw [hd0] at e
          have := lev_same O (frameL L) (by rw [hlo, HFL.out]) HBO.out (frameL_bytes HB.out) _ e
          rw [this]
          have r := rd_frame L [] (by omega)
          rw [List.append_nil] at r
          rw [r, hl, HN8'.out]
        rw [hz]
        clear hd0 hz
        go_wp2_with fail
        refine HRO.out.mono ?_
        rintro e w5 ⟨a5, m, rfl, hm, ho5, hb5⟩
        rw [HR.out] at hm ho5 ⊢
        have em : 2000 = m := by rw [← hm]; exact hl.symm
        subst em
        have B5 : Hid (Below w.heap.size w w5) := by rw [← HNN.out]; exact HBW.out.trans (hb5.mono (by have := HBW.out.size; rw [HNN.out]; exact this))
        have cR := conv_str ho5.holds.1 2000 2000 hl
        have cL := conv_str (HL.out.below B5.out HT.out) 2000 cap hl
        have hs5 : w.heap.size ≤ w5.heap.size := B5.out.size
        clear hm ho5 hb5
        generalize strOfNums L = sL at *
        go_wp2_with (go_at_call 13; refine (works_true _).mono ?_; rintro e w6 ⟨rfl, hwk⟩)
        go_ret
        exact ⟨rfl, B5.out.trans (hwk.mono hs5)⟩
      · have hz : (d != 0) = true := by simp [hd0]
        have hd32 : d < 4294967296 := Nat.lt_of_lt_of_le HD.out (by rw [show 4294967296 = 2 ^ 32 by decide]; exact Nat.pow_le_pow_right (by decide) hq)
        have HR : Hid (rd O = ([], 0, 6)) := rd_turned L HB.out (by omega) O (by rw [hlo, HFL.out]) HBO.out H4.out (32 + k) d hd32 (by rw [HFL.out]; have := HN8.out; omega) HE.out hd0
        rw [hz]
        clear hd0 hz hd32
        go_wp2_with fail
        refine HRO.out.mono ?_
        rintro e w5 ⟨a5, m, rfl, hm, ho5, hb5⟩
        rw [HR.out] at hm ho5 ⊢
        have em : m = 0 := hm.symm
        subst em
        have B5 : Hid (Below w.heap.size w w5) := by rw [← HNN.out]; exact HBW.out.trans (hb5.mono (by have := HBW.out.size; rw [HNN.out]; exact this))
        have hs5 : w.heap.size ≤ w5.heap.size := B5.out.size
        clear hm ho5 hb5
        go_wp2_with (go_at_call 13; refine (works_true _).mono ?_; rintro e w6 ⟨rfl, hwk⟩)
        go_ret
        exact ⟨rfl, B5.out.trans (hwk.mono hs5)⟩
set_option maxHeartbeats 2000000 in
theorem turned_short (a : Option Addr) (len cap : Nat) (L : List Int) (at0 : Int) (y : Nat) (w : World) (hm : len ≤ 2000) (hlc : len ≤ cap) (hcm : cap ≤ 140737488351232) (hl : L.length = len) (hy : y < 4294967296)
    (hh : Holds w a L) (hcap : a = none → cap = 0) (hlt : ∀ x, a = some x → L ≠ [] → x.block < w.heap.size) (hb : IsBytes L) :
    Calls Try.prog 7 #[.slice a len cap, .int .i64 at0, .int .u32 y] w fun e w' => e = .returned (.bool true) ∧ Below w.heap.size w w' := by
  have HL : Hid (Holds w a L) := hh
  have HC : Hid (a = none → cap = 0) := hcap
  have HT : Hid (∀ x, a = some x → L ≠ [] → x.block < w.heap.size) := hlt
  have HB : Hid (IsBytes L) := hb
  clear hh hcap hlt hb
  have l1 : ¬ ((2000 : Int) < len) := by omega
  go_enter Try.func7, Try.ntmps7
  go_wp2_with fail
  refine (frame_ok w a len cap L hl (by omega) HB.out HL.out HC.out HT.out).mono ?_
  rintro e w2 ⟨a2, N, c2, rfl, hNf, ho2, hb2⟩
  have HFL : Hid ((frameL L).length = N) := hNf
  have hN8 : N = 8 + len := by rw [← hNf, frameL_length, hl]
  have n1 : 8 ≤ N := by omega
  have n2 : N ≤ 2008 := by omega
  have HN8' : Hid (N = 8 + len) := hN8
  have O2 : Hid (Owned w2 w.heap.size (.slice a2 N c2) (frameL L)) := ho2
  have B2 : Hid (Below w.heap.size w w2) := hb2
  have hs2 := hb2.size
  clear hNf ho2 hb2 hN8
  obtain ⟨n, hn⟩ : ∃ n, n = 8 * (N - 4) := ⟨_, rfl⟩
  obtain ⟨k, hkn, hk⟩ := inN at0 n (by omega) (by omega)
  have n0 : ((n : Int) == 0) = false := by rw [beq_eq_false_iff_ne]; omega
  have n8 : (8 : Int) * ((N : Int) - 4) = n := by omega
  have n3 : n ≤ 16032 := by omega
  have HN8 : Hid (n = 8 * (N - 4)) := hn
  have g8 : decide ((N : Int) < 8) = false := by simp; omega
  clear hn
  have own0 : Hid (Owned (w2.alloc (.cells #[] 5)) w.heap.size (.slice (some ⟨w2.heap.size, 0, none⟩) 0 0) []) := owned_empty w2 w.heap.size hs2
  have hF : Hid (Holds (w2.alloc (.cells #[] 5)) a2 (frameL L)) := (O2.out.alloc _).holds.1
  go_wp2_with (at_builtin; refine append_bytes rfl (.tmp 45) (.tmp 46) rfl w.heap.size _ [] rfl own0.out _ _ _ (frameL L) rfl HFL.out hF.out O2.out.holds.2.2 N (by simp) (by omega) (by simp; omega) ?_; intro a1 c1 w1 hown1 hbel1; have OWN1 : Hid (Owned w1 w.heap.size (.slice a1 N c1) (frameL L)) := hown1; have B1 : Hid (Below w.heap.size w w1) := (B2.out.trans (((Below.refl _ _).alloc (by omega) _).trans hbel1)); clear hown1 hbel1)
  obtain ⟨g, rfl⟩ := OWN1.out.some (by omega)
  obtain ⟨hc1, hc2⟩ := OWN1.out.cap
  obtain ⟨NN, hN⟩ : ∃ NN, NN = w.heap.size := ⟨_, rfl⟩
  have HNN : Hid (NN = w.heap.size) := hN
  have O1 : Hid (Owned w1 NN (.slice (some ⟨g, 0, none⟩) N c1) (frameL L)) := by rw [hN]; exact OWN1.out
  have B1' : Hid (Below NN w w1) := by rw [hN]; exact B1.out
  clear hN OWN1 B1 own0 hF O2 B2
  go_loopg [12, 13] 32 (fun gh ch i wr => ∃ (q d : Nat) (O : List Int), q ≤ 32 ∧ gh = 32 - q ∧ i = .int .i64 q ∧ ch = .bool (d != 0) ∧ d < 2 ^ q ∧ Hid (lev O = lev (frameL L) ^^^ 2 ^ (32 + k) * d) ∧ Hid (IsBytes O) ∧ O.length = N ∧ Hid (O.take 4 = (frameL L).take 4) ∧ Hid (Below NN w wr) ∧ Hid (Owned wr NN (.slice (some ⟨g, 0, none⟩) N c1) O))
  case atStart => exact ⟨0, 0, frameL L, Nat.zero_le _, rfl, rfl, rfl, by decide, by show _ = _; simp, frameL_bytes HB.out, HFL.out, rfl, B1', O1⟩
  case round =>
    obtain ⟨q, d, O, hq, rfl, rfl, rfl, hd, HE, HBO, hlo, H4, HBW, HOW⟩ := hrel
    have HD : Hid (d < 2 ^ q) := hd
    clear hd
    by_cases hq32 : q < 32
    · by_cases hkq : k + q < n
      · have g1 : decide ((q : Int) < 32) = true := by simp; omega
        have g2 : decide ((k : Int) + q < n) = true := by simp; omega
        have ea := bit_int y q hy
        rcases Nat.mod_two_eq_zero_or_one (y / 2 ^ q) with h2 | h2
        · rw [h2] at ea
          clear h2
          go_wp2_with fail
          go_roundg (32 - (q + 1))
          case measure => omega
          case rel => exact ⟨q + 1, d, O, by omega, rfl, by go_num, rfl, Nat.lt_of_lt_of_le HD.out (Nat.pow_le_pow_right (by decide) (by omega)), HE, HBO, hlo, H4, HBW, HOW⟩
        · rw [h2] at ea
          clear h2
          obtain ⟨j, hj⟩ : ∃ j, j = 4 + (k + q) / 8 := ⟨_, rfl⟩
          have j1 : j < N := by have := HN8.out; omega
          have j4 : 4 ≤ j := by omega
          have HOO : Hid (wr.ownsRow NN 5 1 (.slice (some ⟨g, 0, none⟩) N c1) N (O.map (Value.int .u8))) := by
            have := HOW.out
            unfold Owned at this
            rw [hlo] at this
            exact this
          have hcell : wr.cell? ⟨g, j, none⟩ = some (.int .u8 (O.getD j 0)) := by
            rw [World.ownsRow.cellAt HOO.out j (by omega)]
            simp [List.getD, List.getElem?_eq_getElem (show j < O.length by omega)]
          have hfz : wr.frozen? ⟨g, j, none⟩ = false := World.ownsRow.frozenAt HOO.out j
          have HX : Hid (0 ≤ O.getD j 0 ∧ O.getD j 0 ≤ 255) := HBO.out j (by omega)
          have HV : Hid (lev (O.set j (((O.getD j 0).toNat ^^^ 2 ^ ((k + q) % 8) : Nat) : Int)) = lev O ^^^ 2 ^ (8 * j) * 2 ^ ((k + q) % 8)) := lev_set O j (by omega) _
          generalize O.getD j 0 = x at *
          have ij : (4 : Int) + ((k : Int) + q) / 8 = j := by omega
          have ij2 : ((j : Int) < N) := by omega
          have HJ : Hid (j = 4 + (k + q) / 8) := hj
          clear hj
          go_wp2_with fail
          rw [xor_pow x ((k + q) % 8) HX.out (Nat.mod_lt _ (by decide))]
          go_roundg (32 - (q + 1))
          case measure => omega
          case rel =>
            have hst := World.ownsRow.stored HOO.out j (.int .u8 ((x.toNat ^^^ 2 ^ ((k + q) % 8) : Nat) : Int))
            refine ⟨q + 1, d ^^^ 2 ^ q, O.set j ((x.toNat ^^^ 2 ^ ((k + q) % 8) : Nat) : Int), by omega, rfl, by go_num, ?_, ?_, ?_, ?_, by rw [List.length_set]; exact hlo, ?_, ?_, ?_⟩
            · have : d ^^^ 2 ^ q ≠ 0 := by
                intro h0
                have : d = 2 ^ q := by
                  have h1 : d ^^^ 2 ^ q ^^^ 2 ^ q = 2 ^ q := by rw [h0, Nat.zero_xor]
                  rwa [Nat.xor_assoc, Nat.xor_self, Nat.xor_zero] at h1
                have := HD.out
                omega
              simp [this]
            · exact Nat.xor_lt_two_pow (Nat.lt_of_lt_of_le HD.out (Nat.pow_le_pow_right (by decide) (by omega))) (Nat.pow_lt_pow_right (by decide) (by omega))
            · show _ = _
              rw [HV.out, HE.out]
              have := burst_step (lev (frameL L)) (32 + k) d q j (by have := HJ.out; omega)
              rw [show (32 + k + q) % 8 = (k + q) % 8 by omega] at this
              exact this
            · show IsBytes _
              exact bytes_set HBO.out j _ (by have := HX.out; have := byte_pow x.toNat ((k + q) % 8) (by omega) (Nat.mod_lt _ (by decide)); omega)
            · show (O.set j _).take 4 = _
              rw [List.take_set_of_le j4]
              exact H4.out
            · exact HBW.out.setCell (p := ⟨g, j, none⟩) (HOW.out.block g rfl) _
            · show Owned _ _ _ _
              unfold Owned
              rw [List.length_set, hlo, List.map_set]
              exact hst.1
      · have g1 : decide ((q : Int) < 32) = true := by simp; omega
        have g2 : decide ((k : Int) + q < n) = false := by simp; omega
        have RO := read_own HOW.out HBO.out (by omega)
        have HRO : Hid (Calls Try.prog 11 #[.slice (some ⟨g, 0, none⟩) N c1] wr (ReadSaid wr O)) := RO
        clear RO
        by_cases hd0 : d = 0
        · have hz : (d != 0) = false := by simp [hd0]
          have HR : Hid (rd O = (L, N, 0)) := by
            show rd O = _
            have e := HE.out
            rw [hd0] at e
            have := lev_same O (frameL L) (by rw [hlo, HFL.out]) HBO.out (frameL_bytes HB.out) _ e
            rw [this]
            have r := rd_frame L [] (by omega)
            rw [List.append_nil] at r
            rw [r, hl, HN8'.out]
          rw [hz]
          clear hd0 hz
          go_wp2_with fail
          refine HRO.out.mono ?_
          rintro e w5 ⟨a5, m, rfl, hm, ho5, hb5⟩
          rw [HR.out] at hm ho5 ⊢
          have em : len = m := by rw [← hm]; exact hl.symm
          subst em
          have B5 : Hid (Below w.heap.size w w5) := by rw [← HNN.out]; exact HBW.out.trans (hb5.mono (by have := HBW.out.size; rw [HNN.out]; exact this))
          have cR := conv_str ho5.holds.1 len len hl
          have cL := conv_str (HL.out.below B5.out HT.out) len cap hl
          have hs5 : w.heap.size ≤ w5.heap.size := B5.out.size
          clear hm ho5 hb5
          generalize strOfNums L = sL at *
          go_wp2_with (go_at_call 13; refine (works_true _).mono ?_; rintro e w6 ⟨rfl, hwk⟩)
          go_ret
          exact ⟨rfl, B5.out.trans (hwk.mono hs5)⟩
        · have hz : (d != 0) = true := by simp [hd0]
          have hd32 : d < 4294967296 := Nat.lt_of_lt_of_le HD.out (by rw [show 4294967296 = 2 ^ 32 by decide]; exact Nat.pow_le_pow_right (by decide) hq)
          have HR : Hid (rd O = ([], 0, 6)) := rd_turned L HB.out (by omega) O (by rw [hlo, HFL.out]) HBO.out H4.out (32 + k) d hd32 (by rw [HFL.out]; have := HN8.out; omega) HE.out hd0
          rw [hz]
          clear hd0 hz hd32
          go_wp2_with fail
          refine HRO.out.mono ?_
          rintro e w5 ⟨a5, m, rfl, hm, ho5, hb5⟩
          rw [HR.out] at hm ho5 ⊢
          have em : m = 0 := hm.symm
          subst em
          have B5 : Hid (Below w.heap.size w w5) := by rw [← HNN.out]; exact HBW.out.trans (hb5.mono (by have := HBW.out.size; rw [HNN.out]; exact this))
          have hs5 : w.heap.size ≤ w5.heap.size := B5.out.size
          clear hm ho5 hb5
          go_wp2_with (go_at_call 13; refine (works_true _).mono ?_; rintro e w6 ⟨rfl, hwk⟩)
          go_ret
          exact ⟨rfl, B5.out.trans (hwk.mono hs5)⟩
    · have g1 : decide ((q : Int) < 32) = false := by simp; omega
      have RO := read_own HOW.out HBO.out (by omega)
      have HRO : Hid (Calls Try.prog 11 #[.slice (some ⟨g, 0, none⟩) N c1] wr (ReadSaid wr O)) := RO
      clear RO
      by_cases hd0 : d = 0
      · have hz : (d != 0) = false := by simp [hd0]
        have HR : Hid (rd O = (L, N, 0)) := by
          show rd O = _
          have e := HE.out
          rw [hd0] at e
          have := lev_same O (frameL L) (by rw [hlo, HFL.out]) HBO.out (frameL_bytes HB.out) _ e
          rw [this]
          have r := rd_frame L [] (by omega)
          rw [List.append_nil] at r
          rw [r, hl, HN8'.out]
        rw [hz]
        clear hd0 hz
        go_wp2_with fail
        refine HRO.out.mono ?_
        rintro e w5 ⟨a5, m, rfl, hm, ho5, hb5⟩
        rw [HR.out] at hm ho5 ⊢
        have em : len = m := by rw [← hm]; exact hl.symm
        subst em
        have B5 : Hid (Below w.heap.size w w5) := by rw [← HNN.out]; exact HBW.out.trans (hb5.mono (by have := HBW.out.size; rw [HNN.out]; exact this))
        have cR := conv_str ho5.holds.1 len len hl
        have cL := conv_str (HL.out.below B5.out HT.out) len cap hl
        have hs5 : w.heap.size ≤ w5.heap.size := B5.out.size
        clear hm ho5 hb5
        generalize strOfNums L = sL at *
        go_wp2_with (go_at_call 13; refine (works_true _).mono ?_; rintro e w6 ⟨rfl, hwk⟩)
        go_ret
        exact ⟨rfl, B5.out.trans (hwk.mono hs5)⟩
      · have hz : (d != 0) = true := by simp [hd0]
        have hd32 : d < 4294967296 := Nat.lt_of_lt_of_le HD.out (by rw [show 4294967296 = 2 ^ 32 by decide]; exact Nat.pow_le_pow_right (by decide) hq)
        have HR : Hid (rd O = ([], 0, 6)) := rd_turned L HB.out (by omega) O (by rw [hlo, HFL.out]) HBO.out H4.out (32 + k) d hd32 (by rw [HFL.out]; have := HN8.out; omega) HE.out hd0
        rw [hz]
        clear hd0 hz hd32
        go_wp2_with fail
        refine HRO.out.mono ?_
        rintro e w5 ⟨a5, m, rfl, hm, ho5, hb5⟩
        rw [HR.out] at hm ho5 ⊢
        have em : m = 0 := hm.symm
        subst em
        have B5 : Hid (Below w.heap.size w w5) := by rw [← HNN.out]; exact HBW.out.trans (hb5.mono (by have := HBW.out.size; rw [HNN.out]; exact this))
        have hs5 : w.heap.size ≤ w5.heap.size := B5.out.size
        clear hm ho5 hb5
        go_wp2_with (go_at_call 13; refine (works_true _).mono ?_; rintro e w6 ⟨rfl, hwk⟩)
        go_ret
        exact ⟨rfl, B5.out.trans (hwk.mono hs5)⟩
theorem frameTurned_walk (a : Option Addr) (len cap : Nat) (zs : List Int) (at0 y : Int) (w : World) (w0 : IsRow .u8 w a len cap zs) (w1 : (Lit.int .i64 at0).wf = true) (w2 : (Lit.int .u32 y).wf = true) :
    Calls Try.prog 7 #[.slice a len cap, .int .i64 at0, .int .u32 y] w fun e w' => e = .returned (.bool true) ∧ Below w.heap.size w w' := by
  obtain ⟨y0, y1⟩ := bounds_u32 w2
  obtain ⟨Y, rfl⟩ := Int.eq_ofNat_of_zero_le y0
  obtain ⟨L, hL, hlen, hh, hb, hcap, hreach, hlt, hlc, hcm⟩ := w0.holds
  by_cases h1 : 2000 < len
  · exact turned_long a len cap (L.take 2000) at0 Y w h1 hlc hcm (by rw [List.length_take]; omega) (by omega) (hh.take 2000) hcap (fun x hx hne => hlt x hx (fun e => hne (by rw [e]; rfl))) (bytes_of_mem fun x hx => bytes_mem hb x (List.mem_of_mem_take hx))
  · exact turned_short a len cap L at0 Y w (by omega) hlc hcm hlen (by omega) hh hcap hlt hb
end Go.Proofs.Ytcejbinkdlbpaaa
