/- The document's List. the law's own texts. -/
import Derived.Test.YtbefmcagpmgkiaaDoorMgAs19
import Derived.Test.YtbefmcagpmgkiaaDoorMgAs20
import Derived.Test.YtbefmcagpmgkiaaDoorMgAs17
import Derived.BigQuiet
namespace Go.Proofs.YtbefmcagpmgkiaaDoor
open Go.ChangeShapes Go.WideShapes Go.ChangeAt Go.RowKit Go.Deep Go.Maps
set_option linter.unusedVariables false
set_option maxRecDepth 100000 in
set_option maxHeartbeats 8000000 in
theorem rlist_is (l : List En) (n : Nat) (hn : l.length = n) (hn62 : n ≤ 1000000000) (hf : ∀ x ∈ l, x.p.length ≤ 100000000) (a : Option Addr) (c : Nat) (s : Tx) (hsl : s.length ≤ 100000000) (w : World) (hl : InE w a l) :
    Calls Tryd.prog 18 #[.slice a n c, .string (tx s)] w fun e w' => ∃ v, e = .returned (.tuple #[v, .int .i64 (lsA l s).2]) ∧ RowsS w' w.heap.size v (lsA l s).1 ∧ Below w.heap.size w w' := by
  have HL : Hid (InE w a l) := hl
  have HN : Hid (l.length = n) := hn
  have HF : Hid (∀ x ∈ l, x.p.length ≤ 100000000) := hf
  have KL : Hid (Calls Tryd.prog 16 #[.slice a n c, .string (tx s)] w fun e w' => e = .returned (.tuple #[ag (lk l s).1, .int .i64 (lk l s).2]) ∧ Below w.heap.size w w') := rlookup_is l n hn hn62 a c s hsl w hl
  obtain ⟨R, hR⟩ : ∃ R, R = lsA l s := ⟨_, rfl⟩
  rw [← hR]
  have HR : Hid (R = if (lk l s).2 ≠ 0 then ([], (lk l s).2) else if (lk l s).1.k ≠ 2 then ([], 13) else (lsN l (lk l s).1.p, 0)) := hR
  obtain ⟨⟨dp, dk, dm, db⟩, hD⟩ : ∃ D, D = (lk l s).1 := ⟨_, rfl⟩
  rw [← hD] at KL HR
  generalize (lk l s).2 = E at *
  simp only [ag, En.p, En.k, En.m, En.b] at KL HR
  obtain ⟨h, hh⟩ : ∃ h, h = w.heap.size := ⟨_, rfl⟩
  have HH : Hid (h = w.heap.size) := hh
  rw [← hh]
  clear hR hl hn hf hD hh
  go_enter Tryd.func18, Tryd.ntmps18
  go_wp2_with fail
  refine KL.out.mono ?_
  rintro e w1 ⟨rfl, hb1⟩
  have B1 : Hid (Below h w w1) := by rw [HH.out]; exact hb1
  have s1 : h ≤ w1.heap.size := by rw [HH.out]; exact hb1.size
  have B1a : Hid (Below h w (w1.alloc (.cells #[.string (tx dp), .int .i64 dk, .int .i64 dm, .string (tx db)] 34))) := B1.out.alloc s1 _
  have X1 : Hid ((w1.alloc (.cells #[.string (tx dp), .int .i64 dk, .int .i64 dm, .string (tx db)] 34)).heap[w1.heap.size]? = some (.cells #[.string (tx dp), .int .i64 dk, .int .i64 dm, .string (tx db)] 34)) := heap_alloc_new w1 _
  clear hb1 KL
  by_cases hE : E = 0
  · subst hE
    by_cases hk : dk = 2
    · subst hk
      have HR2 : Hid (R = (lsN l dp, 0)) := by show _ = _; rw [HR.out]; simp
      clear HR
      go_wp2_with fail
      obtain ⟨w2, hw2⟩ : ∃ w2, w2 = w1.alloc (.cells #[.string (tx dp), .int .i64 2, .int .i64 dm, .string (tx db)] 34) := ⟨_, rfl⟩
      rw [← hw2] at X1 B1a ⊢
      have hg1 : w1.heap.size < w2.heap.size := by rw [hw2]; simp
      obtain ⟨g, hg⟩ : ∃ g, g = w1.heap.size := ⟨_, rfl⟩
      rw [← hg] at X1 hg1 ⊢
      have hgh : h ≤ g := by omega
      clear hw2 hg
      have HBW0 : Hid (Below h w w2) := B1a
      go_loopg [9, 8] n (fun gg i v wr => ∃ j : Nat, j ≤ n ∧ gg = n - j ∧ i = .int .i64 j ∧ Hid (RowsS wr (g + 1) v (lsN (l.take j) dp)) ∧ Hid (wr.heap[g]? = some (.cells #[.string (tx dp), .int .i64 2, .int .i64 dm, .string (tx db)] 34)) ∧ Hid (Below h w wr))
      case atStart => exact ⟨0, Nat.zero_le _, rfl, rfl, World.ownsRow_nil _ _ _ _, X1, HBW0⟩
      case round =>
        obtain ⟨j, hj, rfl, rfl, OW, XW, BW⟩ := hrel
        have hszw : g < wr.heap.size := (Array.getElem?_eq_some_iff.1 XW.out).1
        by_cases hlt : j < n
        · have j1 : (j : Int) < (n : Int) := by omega
          obtain ⟨x, hx⟩ : ∃ x, l[j]? = some x := ⟨l[j]'(by rw [HN.out]; exact hlt), by simp [HN.out, hlt]⟩
          obtain ⟨b, off, rfl, hbw, hr⟩ : ∃ b off, a = some ⟨b, off, none⟩ ∧ b < h ∧ Ec w b (off + j * 4) x := by
            rcases HL.out with e | ⟨b, off, h1, h2, h3⟩
            · have := HN.out; rw [e] at this; simp at this; omega
            · exact ⟨b, off, h1, by rw [HH.out]; exact h2, h3 j x hx⟩
          obtain ⟨c0, c1, c2, c3⟩ := hr.below BW.out hbw
          have hxp := HF.out x (List.mem_of_getElem? hx)
          have LT : Hid (lsN (l.take (j + 1)) dp = if inD dp x = true then lsN (l.take j) dp ++ [lastP x.p] else lsN (l.take j) dp) := lsN_take l dp j x hx
          have hll : (lsN (l.take j) dp).length ≤ 1000000000 := by
            have := lsN_len (l.take j) dp
            rw [List.length_take] at this
            omega
          have KU : Hid (Calls Tryd.prog 36 #[.string (tx x.p)] wr fun e w' => e = .returned (.tuple #[.string (tx (upP x.p)), .bool (!(prt x.p).isEmpty)]) ∧ Below wr.heap.size wr w') := rup_is x.p (by omega) wr
          have KP : Hid (∀ W, Calls Tryd.prog 37 #[.string (tx x.p)] W fun e w' => ∃ v, e = .returned v ∧ Rd w' v (prt x.p) ∧ Below W.heap.size W w') := fun W => rparts_is x.p (by omega) W
          have HLA : Hid (prt x.p ≠ [] → (prt x.p)[(prt x.p).length - 1]? = some (lastP x.p)) := last_at
          have HIN : Hid (inD dp x = (!(prt x.p).isEmpty && decide (upP x.p = dp))) := rfl
          generalize lsN (l.take j) dp = P at *
          have HEC : Hid (Ec w b (off + j * 4) x) := hr
          clear hx hr
          go_wp2_with fail
          refine KU.out.mono ?_
          rintro e w4 ⟨rfl, hb4⟩
          have b4 : Below wr.heap.size wr w4 := hb4
          have g4 : w4.heap[g]? = some (.cells #[.string (tx dp), .int .i64 2, .int .i64 dm, .string (tx db)] 34) := (b4.block g hszw).trans XW.out
          have G4 : Hid (w4.heap[g]? = some (.cells #[.string (tx dp), .int .i64 2, .int .i64 dm, .string (tx db)] 34)) := g4
          have D4 : Hid (Below wr.heap.size wr w4) := b4
          have s4 : wr.heap.size ≤ w4.heap.size := b4.size
          have O4 : Hid (RowsS w4 (g + 1) u8 P) := OW.out.keep b4
          have B4 : Hid (Below h w w4) := BW.out.trans (b4.mono (by omega))
          have dc : w4.cell? ⟨g, 0, none⟩ = some (.string (tx dp)) := by
            simp [World.cell?, g4]
          clear c0 c1 c2 c3
          obtain ⟨c0, c1, c2, c3⟩ := HEC.out.below B4.out hbw
          clear hb4 b4 KU g4 OW BW XW
          have hte := tx_toList dp
          cases hpe : (prt x.p).isEmpty with
          | true =>
            have LT2 : Hid (lsN (l.take (j + 1)) dp = P) := by show _ = _; rw [LT.out, if_neg (by rw [HIN.out, hpe]; simp)]
            simp only [Bool.not_true]
            go_wp2_with fail
            go_roundg (n - (j + 1))
            case measure => omega
            case rel => exact ⟨j + 1, by omega, rfl, by go_num, by rw [LT2.out]; exact O4, G4, B4⟩
          | false =>
            simp only [Bool.not_false]
            have HPN : Hid (prt x.p ≠ []) := fun e => by rw [e] at hpe; simp at hpe
            have hul := upP_len x.p
            by_cases hud : upP x.p = dp
            · have LT2 : Hid (lsN (l.take (j + 1)) dp = P ++ [lastP x.p]) := by show _ = _; rw [LT.out, if_pos (by rw [HIN.out, hpe, hud]; simp)]
              rw [hud]
              have h8 := (prt_facts x.p).2
              generalize lastP x.p = la at *
              generalize prt x.p = pr at *
              go_wp2_with fail
              refine (KP.out w4).mono ?_
              rintro e w5 ⟨v5, rfl, hs5, hb5⟩
              have G5 : Hid (w5.heap[g]? = some (.cells #[.string (tx dp), .int .i64 2, .int .i64 dm, .string (tx db)] 34)) := cell_box G4.out hb5
              have s5 : w4.heap.size ≤ w5.heap.size := hb5.size
              have O5 : Hid (RowsS (w5.alloc (.cells #[.string (tx la)] 9)) (g + 1) u8 P) := (O4.out.keep hb5).keep ((Below.refl _ _).alloc (Nat.le_refl _) _)
              have B5 : Hid (Below h w w5) := B4.out.trans (hb5.mono (by omega))
              obtain ⟨o5, c5, rfl, hlc5, hc5m, ho5⟩ := hs5
              obtain ⟨g5, rfl, hc5⟩ := ho5 _ _ (HLA.out HPN.out)
              have hlp : 0 < pr.length := List.length_pos_iff.2 HPN.out
              obtain ⟨m1, hm1⟩ : ∃ m1, pr.length = m1 + 1 := ⟨pr.length - 1, by omega⟩
              rw [hm1] at hc5 ⊢
              have hc6 : w5.cell? ⟨g5, m1, none⟩ = some (.string (tx la)) := hc5
              have i1 : ((m1 + 1 : Nat) : Int) - 1 = (m1 : Int) := by omega
              have i2 : (m1 : Int) < ((m1 + 1 : Nat) : Int) := by omega
              have i3 : (0 : Int) ≤ (m1 : Int) := by omega
              have i4 : m1 ≤ 7 := by omega
              clear hc5
              clear hb5 ho5 KP hpe
              go_wp2_with (at_builtin; (refine append_text rfl (.tmp 53) (.tmp 60) rfl (g + 1) _ P rfl O5.out ⟨w5.heap.size, 0, none⟩ la rfl (cell_one w5 la) (by omega) (by simp; omega) ?_; intro v6 w6 ho6 hb6; have O6 : Hid (RowsS w6 (g + 1) v6 (P ++ [la])) := ho6; have B6 : Hid (Below (g + 1) (w5.alloc (.cells #[.string (tx la)] 9)) w6) := hb6; clear ho6 hb6))
              go_roundg (n - (j + 1))
              case measure => omega
              case rel =>
                have q1 : Below (g + 1) w5 (w5.alloc (.cells #[.string (tx la)] 9)) := (Below.refl _ _).alloc (by omega) _
                have q2 : Below (g + 1) w5 w6 := q1.trans B6.out
                exact ⟨j + 1, by omega, rfl, by go_num, by rw [LT2.out]; exact O6, (q2.block g (by omega)).trans G5.out, B5.out.trans (q2.mono (by omega))⟩
            · have LT2 : Hid (lsN (l.take (j + 1)) dp = P) := by show _ = _; rw [LT.out, if_neg (by rw [HIN.out, hpe, decide_eq_false hud]; simp)]
              have htu := tx_toList (upP x.p)
              have hbe : (upP x.p == dp) = false := by simpa using hud
              go_wp2_with fail
              go_roundg (n - (j + 1))
              case measure => omega
              case rel => exact ⟨j + 1, by omega, rfl, by go_num, by rw [LT2.out]; exact O4, G4, B4⟩
        · have ej : j = n := by omega
          subst ej
          have j1 : ¬ (j : Int) < (j : Int) := by omega
          have HT : Hid (l.take j = l) := by show _ = _; rw [← HN.out, List.take_length]
          have O9 : RowsS wr (g + 1) u8 (lsN l dp) := by have := OW.out; rw [HT.out] at this; exact this
          have O8 : Hid (RowsS wr h u8 (lsN l dp)) := by
            refine ⟨O9.1, ?_⟩
            rcases O9.2 with e | ⟨g1, cap, cur, e1, e2, e3⟩
            · exact .inl e
            · exact .inr ⟨g1, cap, cur, e1, by omega, e3⟩
          clear O9
          go_wp2_with fail
          go_ret2
          exact ⟨u8, by rw [HR2.out]; rfl, by rw [HR2.out]; exact O8.out, BW.out⟩
    · have hk2 : (dk != 2) = true := by simpa using hk
      have HR2 : Hid (R = ([], 13)) := by show _ = _; rw [HR.out]; simp [hk]
      go_wp2_with fail
      go_ret2
      refine ⟨.slice none 0 0, by rw [HR2.out]; rfl, ?_, B1a.out⟩
      rw [HR2.out]
      exact World.ownsRow_nil _ _ _ _
  · have hE2 : (E != 0) = true := by simpa using hE
    have HR2 : Hid (R = ([], E)) := by show _ = _; rw [HR.out, if_pos hE]
    go_wp2_with fail
    go_ret2
    refine ⟨.slice none 0 0, by rw [HR2.out]; rfl, ?_, B1a.out⟩
    rw [HR2.out]
    exact World.ownsRow_nil _ _ _ _
end Go.Proofs.YtbefmcagpmgkiaaDoor
namespace Go.Proofs.YtbefmcagpmgkiaaDoor
open Go.ChangeShapes Go.WideShapes Go.ChangeAt Go.RowKit Go.Deep
set_option linter.unusedVariables false
set_option maxHeartbeats 2000000 in
theorem texts_is (v1 v2 : Value) (l : List Tx) (hn : l.length ≤ 1000000000) (w : World) (h1 : Rd w v1 l) (h2 : Rd w v2 l) :
    Calls Tryd.prog 19 #[v1, v2] w fun e w' => e = .returned (.bool true) ∧ Below w.heap.size w w' := by
  obtain ⟨o1, c1, rfl, k1, m1, ho1⟩ := h1
  obtain ⟨o2, c2, rfl, k2, m2, ho2⟩ := h2
  have O1 : Hid (∀ j x, l[j]? = some x → ∃ g, o1 = some ⟨g, 0, none⟩ ∧ w.cell? ⟨g, j, none⟩ = some (.string (tx x))) := ho1
  have O2 : Hid (∀ j x, l[j]? = some x → ∃ g, o2 = some ⟨g, 0, none⟩ ∧ w.cell? ⟨g, j, none⟩ = some (.string (tx x))) := ho2
  clear ho1 ho2
  go_enter Tryd.func19, Tryd.ntmps19
  go_wp2_with fail
  go_loopg [13] l.length (fun g ii wr => ∃ i : Nat, ii = .int .i64 i ∧ i ≤ l.length ∧ g = l.length - i ∧ Hid (Below w.heap.size w wr))
  case atStart => exact ⟨0, rfl, Nat.zero_le _, rfl, Below.refl _ _⟩
  case round =>
    obtain ⟨i, rfl, hi, rfl, HW⟩ := hrel
    by_cases hlt : i < l.length
    · have j1 : (i : Int) < ((l.length : Nat) : Int) := by omega
      have hx : l[i]? = some l[i] := List.getElem?_eq_getElem hlt
      obtain ⟨g1, rfl, q1⟩ := O1.out i _ hx
      obtain ⟨g2, rfl, q2⟩ := O2.out i _ hx
      generalize l[i] = x at *
      have r1 : wr.cell? ⟨g1, i, none⟩ = some (.string (tx x)) := (HW.out.cell (p := ⟨g1, i, none⟩) (World.block_lt_of_cell? _ _ q1)).trans q1
      have r2 : wr.cell? ⟨g2, i, none⟩ = some (.string (tx x)) := (HW.out.cell (p := ⟨g2, i, none⟩) (World.block_lt_of_cell? _ _ q2)).trans q2
      have t1 := tx_toList x
      clear q1 q2 hx
      go_wp2_with fail
      go_quiet (fail)
      go_wp2_with fail
      go_roundg (l.length - (i + 1))
      case measure => omega
      case rel => exact ⟨i + 1, by go_num, by omega, rfl, below_drewN HW.out _⟩
    · have ei : i = l.length := by omega
      subst ei
      have j1 : ¬ ((l.length : Nat) : Int) < ((l.length : Nat) : Int) := by omega
      go_wp2_with fail
      go_ret
      exact ⟨rfl, HW.out⟩
end Go.Proofs.YtbefmcagpmgkiaaDoor
