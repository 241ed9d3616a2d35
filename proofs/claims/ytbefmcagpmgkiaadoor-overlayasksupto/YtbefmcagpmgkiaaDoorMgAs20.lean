/- overlay.List. The document's own Is, Parts, Up; the statements' own same. The document's own Is, Parts, Up; the statements' own same. -/
import Derived.Test.YtbefmcagpmgkiaaDoorMgAs17
import Derived.Test.YtbefmcagpmgkiaaDoorMgAs18
import Derived.Test.YtbefmcagpmgkiaaDoorMgAs3
import Derived.Test.YtbefmcagpmgkiaaDoorMgAs13
namespace Go.Proofs.YtbefmcagpmgkiaaDoor
open Go.ChangeShapes Go.WideShapes Go.ChangeAt Go.RowKit Go.Deep Go.Maps
set_option linter.unusedVariables false
/-- does an entry lie in a directory -/
def inD (d : Tx) (x : En) : Bool := !(prt x.p).isEmpty && decide (upP x.p = d)
/-- the names in a directory -/
def lsN (l : List En) (d : Tx) : List Tx := (l.filter (inD d)).map (fun x => lastP x.p)
/-- what List answers -/
def lsA (l : List En) (s : Tx) : List Tx × Int := if (lk l s).2 ≠ 0 then ([], (lk l s).2) else if (lk l s).1.k ≠ 2 then ([], 13) else (lsN l (lk l s).1.p, 0)
theorem lsN_take (l : List En) (d : Tx) (i : Nat) (x : En) (h : l[i]? = some x) : lsN (l.take (i + 1)) d = if inD d x = true then lsN (l.take i) d ++ [lastP x.p] else lsN (l.take i) d := by
  rw [List.take_add_one, h]
  unfold lsN
  simp only [Option.toList, List.filter_append, List.map_append]
  cases hh : inD d x <;> simp [List.filter, hh]
theorem lsN_len (l : List En) (d : Tx) : (lsN l d).length ≤ l.length := by
  unfold lsN
  rw [List.length_map]
  exact List.length_filter_le _ _
theorem last_at {q : Tx} (h : prt q ≠ []) : (prt q)[(prt q).length - 1]? = some (lastP q) := by
  unfold lastP
  rw [List.getLastD_eq_getLast?, List.getLast?_eq_some_getLast h, Option.getD_some, List.getLast_eq_getElem]
  exact List.getElem?_eq_getElem _
set_option maxRecDepth 100000 in
set_option maxHeartbeats 8000000 in
theorem list_is (l : List En) (n : Nat) (hn : l.length = n) (hn62 : n ≤ 1000000000) (hf : Fit l) (a : Option Addr) (c : Nat) (s : Tx) (hsl : s.length ≤ 140737488355328) (w : World) (hl : InE w a l) :
    Calls Tryd.prog 17 #[.slice a n c, .string (tx s)] w fun e w' => ∃ v, e = .returned (.tuple #[v, .int .i64 (lsA l s).2]) ∧ RowsS w' w.heap.size v (lsA l s).1 ∧ Below w.heap.size w w' := by
  have HL : Hid (InE w a l) := hl
  have HN : Hid (l.length = n) := hn
  have HF : Hid (Fit l) := hf
  have KL : Hid (Calls Tryd.prog 15 #[.slice a n c, .string (tx s)] w fun e w' => e = .returned (.tuple #[ag (lk l s).1, .int .i64 (lk l s).2]) ∧ Below w.heap.size w w') := lookup_is l n hn hn62 a c s hsl w hl
  obtain ⟨R, hR⟩ : ∃ R, R = lsA l s := ⟨_, rfl⟩
  rw [← hR]
  have HR : Hid (R = if (lk l s).2 ≠ 0 then ([], (lk l s).2) else if (lk l s).1.k ≠ 2 then ([], 13) else (lsN l (lk l s).1.p, 0)) := hR
  obtain ⟨⟨dp, dk, dm, db⟩, hD⟩ : ∃ D, D = (lk l s).1 := ⟨_, rfl⟩
  rw [← hD] at KL HR
  generalize (lk l s).2 = E at *
  simp only [ag, En.p, En.k, En.m, En.b] at KL HR
  obtain ⟨h, hh⟩ : ∃ h, h = w.heap.size := ⟨_, rfl⟩
  have HH : Hid (h = w.heap.size) := hh
  rw [← hh]
  clear hR hl hn hf hD hh
  go_enter Tryd.func17, Tryd.ntmps17
  go_wp2_with fail
  refine KL.out.mono ?_
  rintro e w1 ⟨rfl, hb1⟩
  have B1 : Hid (Below h w w1) := by rw [HH.out]; exact hb1
  have s1 : h ≤ w1.heap.size := by rw [HH.out]; exact hb1.size
  have B1a : Hid (Below h w (w1.alloc (.cells #[.string (tx dp), .int .i64 dk, .int .i64 dm, .string (tx db)] 34))) := B1.out.alloc s1 _
  have X1 : Hid ((w1.alloc (.cells #[.string (tx dp), .int .i64 dk, .int .i64 dm, .string (tx db)] 34)).heap[w1.heap.size]? = some (.cells #[.string (tx dp), .int .i64 dk, .int .i64 dm, .string (tx db)] 34)) := heap_alloc_new w1 _
  clear hb1 KL
  by_cases hE : E = 0
  · subst hE
    by_cases hk : dk = 2
    · subst hk
      have HR2 : Hid (R = (lsN l dp, 0)) := by show _ = _; rw [HR.out]; simp
      clear HR
      go_wp2_with fail
      obtain ⟨w2, hw2⟩ : ∃ w2, w2 = w1.alloc (.cells #[.string (tx dp), .int .i64 2, .int .i64 dm, .string (tx db)] 34) := ⟨_, rfl⟩
      rw [← hw2] at X1 B1a ⊢
      have hg1 : w1.heap.size < w2.heap.size := by rw [hw2]; simp
      obtain ⟨g, hg⟩ : ∃ g, g = w1.heap.size := ⟨_, rfl⟩
      rw [← hg] at X1 hg1 ⊢
      have hgh : h ≤ g := by omega
      clear hw2 hg
      have HBW0 : Hid (Below h w w2) := B1a
      go_loopg [28, 8] n (fun gg i v wr => ∃ j : Nat, j ≤ n ∧ gg = n - j ∧ i = .int .i64 j ∧ Hid (RowsS wr (g + 1) v (lsN (l.take j) dp)) ∧ Hid (wr.heap[g]? = some (.cells #[.string (tx dp), .int .i64 2, .int .i64 dm, .string (tx db)] 34)) ∧ Hid (Below h w wr))
      case atStart => exact ⟨0, Nat.zero_le _, rfl, rfl, World.ownsRow_nil _ _ _ _, X1, HBW0⟩
      case round =>
        obtain ⟨j, hj, rfl, rfl, OW, XW, BW⟩ := hrel
        have hszw : g < wr.heap.size := (Array.getElem?_eq_some_iff.1 XW.out).1
        by_cases hlt : j < n
        · have j1 : (j : Int) < (n : Int) := by omega
          obtain ⟨x, hx⟩ : ∃ x, l[j]? = some x := ⟨l[j]'(by rw [HN.out]; exact hlt), by simp [HN.out, hlt]⟩
          obtain ⟨b, off, rfl, hbw, hr⟩ : ∃ b off, a = some ⟨b, off, none⟩ ∧ b < h ∧ Ec w b (off + j * 4) x := by
            rcases HL.out with e | ⟨b, off, h1, h2, h3⟩
            · have := HN.out; rw [e] at this; simp at this; omega
            · exact ⟨b, off, h1, by rw [HH.out]; exact h2, h3 j x hx⟩
          obtain ⟨c0, c1, c2, c3⟩ := hr.below BW.out hbw
          have hxp := (HF.out x (List.mem_of_getElem? hx)).1
          have LT : Hid (lsN (l.take (j + 1)) dp = if inD dp x = true then lsN (l.take j) dp ++ [lastP x.p] else lsN (l.take j) dp) := lsN_take l dp j x hx
          have hll : (lsN (l.take j) dp).length ≤ 1000000000 := by
            have := lsN_len (l.take j) dp
            rw [List.length_take] at this
            omega
          obtain ⟨w3, hw3⟩ : ∃ w3, w3 = wr.alloc (.cells #[.string (tx x.p), .int .i64 x.k, .int .i64 x.m, .string (tx x.b)] 34) := ⟨_, rfl⟩
          have W3 : Hid (w3 = wr.alloc (.cells #[.string (tx x.p), .int .i64 x.k, .int .i64 x.m, .string (tx x.b)] 34)) := hw3
          have b3 : Below wr.heap.size wr w3 := by rw [hw3]; exact (Below.refl _ _).alloc (Nat.le_refl _) _
          have X3 : Hid (w3.heap[wr.heap.size]? = some (.cells (ec (tx x.p) x.k x.m (tx x.b)) 34)) := by show _ = _; rw [hw3]; exact heap_alloc_new wr _
          have KU : Hid (Calls Tryd.prog 24 #[.string (tx x.p)] w3 fun e w' => e = .returned (.tuple #[.string (tx (upP x.p)), .bool (!(prt x.p).isEmpty)]) ∧ Below w3.heap.size w3 w') := up_is x.p (by omega) w3
          have KP : Hid (∀ W, Calls Tryd.prog 25 #[.string (tx x.p)] W fun e w' => ∃ v, e = .returned v ∧ Sl w' W.heap.size v (prt x.p) ∧ Below W.heap.size W w') := fun W => parts_is x.p (by omega) W
          have HLA : Hid (prt x.p ≠ [] → (prt x.p)[(prt x.p).length - 1]? = some (lastP x.p)) := last_at
          have HIN : Hid (inD dp x = (!(prt x.p).isEmpty && decide (upP x.p = dp))) := rfl
          generalize lsN (l.take j) dp = P at *
          clear hx hr hw3
          go_wp2_with fail
          rw [show wr.alloc _ = w3 from W3.out.symm]
          refine KU.out.mono ?_
          rintro e w4 ⟨rfl, hb4⟩
          have b4 : Below wr.heap.size wr w4 := b3.trans (hb4.mono b3.size)
          have x4 : w4.heap[wr.heap.size]? = some (.cells (ec (tx x.p) x.k x.m (tx x.b)) 34) := cell_box X3.out hb4
          have g4 : w4.heap[g]? = some (.cells #[.string (tx dp), .int .i64 2, .int .i64 dm, .string (tx db)] 34) := (b4.block g hszw).trans XW.out
          have G4 : Hid (w4.heap[g]? = some (.cells #[.string (tx dp), .int .i64 2, .int .i64 dm, .string (tx db)] 34)) := g4
          have D4 : Hid (Below wr.heap.size wr w4) := b4
          have s4 : wr.heap.size ≤ w4.heap.size := b4.size
          have O4 : Hid (RowsS w4 (g + 1) u8 P) := OW.out.keep b4
          have B4 : Hid (Below h w w4) := BW.out.trans (b4.mono (by omega))
          have dc : w4.cell? ⟨g, 0, none⟩ = some (.string (tx dp)) := by
            simp [World.cell?, g4]
          clear c0 c1 c2 c3
          obtain ⟨c0, c1, c2, c3⟩ := ec_cells x4
          clear hb4 b4 KU W3 b3 g4 x4 OW BW XW X3
          have hte := tx_toList dp
          cases hpe : (prt x.p).isEmpty with
          | true =>
            have LT2 : Hid (lsN (l.take (j + 1)) dp = P) := by show _ = _; rw [LT.out, if_neg (by rw [HIN.out, hpe]; simp)]
            simp only [Bool.not_true]
            go_wp2_with fail
            go_roundg (n - (j + 1))
            case measure => omega
            case rel => exact ⟨j + 1, by omega, rfl, by go_num, by rw [LT2.out]; exact O4, G4, B4⟩
          | false =>
            simp only [Bool.not_false]
            have HPN : Hid (prt x.p ≠ []) := fun e => by rw [e] at hpe; simp at hpe
            have hul := upP_len x.p
            by_cases hud : upP x.p = dp
            · have LT2 : Hid (lsN (l.take (j + 1)) dp = P ++ [lastP x.p]) := by show _ = _; rw [LT.out, if_pos (by rw [HIN.out, hpe, hud]; simp)]
              rw [hud]
              have h8 := (prt_facts x.p).2
              generalize lastP x.p = la at *
              generalize prt x.p = pr at *
              go_wp2_with fail
              refine (KP.out w4).mono ?_
              rintro e w5 ⟨v5, rfl, hs5, hb5⟩
              have G5 : Hid (w5.heap[g]? = some (.cells #[.string (tx dp), .int .i64 2, .int .i64 dm, .string (tx db)] 34)) := cell_box G4.out hb5
              have s5 : w4.heap.size ≤ w5.heap.size := hb5.size
              have O5 : Hid (RowsS (w5.alloc (.cells #[.string (tx la)] 9)) (g + 1) u8 P) := (O4.out.keep hb5).keep ((Below.refl _ _).alloc (Nat.le_refl _) _)
              have B5 : Hid (Below h w w5) := B4.out.trans (hb5.mono (by omega))
              obtain ⟨o5, rfl, ho5⟩ := hs5.open
              obtain ⟨g5, rfl, hc5⟩ := ho5 _ _ (HLA.out HPN.out)
              have hlp : 0 < pr.length := List.length_pos_iff.2 HPN.out
              obtain ⟨m1, hm1⟩ : ∃ m1, pr.length = m1 + 1 := ⟨pr.length - 1, by omega⟩
              rw [hm1] at hc5 ⊢
              have hc6 : w5.cell? ⟨g5, m1, none⟩ = some (.string (tx la)) := hc5
              have i1 : ((m1 + 1 : Nat) : Int) - 1 = (m1 : Int) := by omega
              have i2 : (m1 : Int) < ((m1 + 1 : Nat) : Int) := by omega
              have i3 : (0 : Int) ≤ (m1 : Int) := by omega
              have i4 : m1 ≤ 7 := by omega
              clear hc5
              clear hs5 hb5 ho5 KP hpe
              go_wp2_with (at_builtin; (refine append_text rfl (.tmp 48) (.tmp 55) rfl (g + 1) _ P rfl O5.out ⟨w5.heap.size, 0, none⟩ la rfl (cell_one w5 la) (by omega) (by simp; omega) ?_; intro v6 w6 ho6 hb6; have O6 : Hid (RowsS w6 (g + 1) v6 (P ++ [la])) := ho6; have B6 : Hid (Below (g + 1) (w5.alloc (.cells #[.string (tx la)] 9)) w6) := hb6; clear ho6 hb6))
              go_roundg (n - (j + 1))
              case measure => omega
              case rel =>
                have q1 : Below (g + 1) w5 (w5.alloc (.cells #[.string (tx la)] 9)) := (Below.refl _ _).alloc (by omega) _
                have q2 : Below (g + 1) w5 w6 := q1.trans B6.out
                exact ⟨j + 1, by omega, rfl, by go_num, by rw [LT2.out]; exact O6, (q2.block g (by omega)).trans G5.out, B5.out.trans (q2.mono (by omega))⟩
            · have LT2 : Hid (lsN (l.take (j + 1)) dp = P) := by show _ = _; rw [LT.out, if_neg (by rw [HIN.out, hpe, decide_eq_false hud]; simp)]
              have htu := tx_toList (upP x.p)
              have hbe : (upP x.p == dp) = false := by simpa using hud
              go_wp2_with fail
              go_roundg (n - (j + 1))
              case measure => omega
              case rel => exact ⟨j + 1, by omega, rfl, by go_num, by rw [LT2.out]; exact O4, G4, B4⟩
        · have ej : j = n := by omega
          subst ej
          have j1 : ¬ (j : Int) < (j : Int) := by omega
          have HT : Hid (l.take j = l) := by show _ = _; rw [← HN.out, List.take_length]
          have O9 : RowsS wr (g + 1) u8 (lsN l dp) := by have := OW.out; rw [HT.out] at this; exact this
          have O8 : Hid (RowsS wr h u8 (lsN l dp)) := by
            refine ⟨O9.1, ?_⟩
            rcases O9.2 with e | ⟨g1, cap, cur, e1, e2, e3⟩
            · exact .inl e
            · exact .inr ⟨g1, cap, cur, e1, by omega, e3⟩
          clear O9
          go_wp2_with fail
          go_ret2
          exact ⟨u8, by rw [HR2.out]; rfl, by rw [HR2.out]; exact O8.out, BW.out⟩
    · have hk2 : (dk != 2) = true := by simpa using hk
      have HR2 : Hid (R = ([], 13)) := by show _ = _; rw [HR.out]; simp [hk]
      go_wp2_with fail
      go_ret2
      refine ⟨.slice none 0 0, by rw [HR2.out]; rfl, ?_, B1a.out⟩
      rw [HR2.out]
      exact World.ownsRow_nil _ _ _ _
  · have hE2 : (E != 0) = true := by simpa using hE
    have HR2 : Hid (R = ([], E)) := by show _ = _; rw [HR.out, if_pos hE]
    go_wp2_with fail
    go_ret2
    refine ⟨.slice none 0 0, by rw [HR2.out]; rfl, ?_, B1a.out⟩
    rw [HR2.out]
    exact World.ownsRow_nil _ _ _ _
end Go.Proofs.YtbefmcagpmgkiaaDoor
namespace Go.Proofs.YtbefmcagpmgkiaaDoor
open Go.ChangeShapes Go.WideShapes Go.ChangeAt Go.RowKit Go.Deep
set_option linter.unusedVariables false
theorem pcs_len2 (S : Tx) : (pcs S).length ≤ S.length + 1 := by
  induction S with
  | nil => simp [pcs]
  | cons b t ih =>
    unfold pcs
    split
    · simp; exact ih
    · have := List.length_pos_iff.2 (pcs_ne t)
      simp only [List.length_cons, List.length_tail]
      omega
theorem pcs_mem_len (L : Tx) : ∀ p ∈ pcs L, p.length ≤ L.length := fun p hp => by
  obtain ⟨i, hi, rfl⟩ := List.getElem_of_mem hp
  have := part_le_jn (pcs L) i _ (List.getElem?_eq_getElem hi)
  rwa [jn_pcs] at this
theorem Rd.nil (w : World) : Rd w (.slice none 0 0) [] := ⟨none, 0, rfl, by simp, by simp, fun j x hx => by simp at hx⟩
theorem Rd.take {w : World} {o : Option Addr} {n c : Nat} {l : List Tx} (h : Rd w (.slice o n c) l) (k : Nat) (hk : k ≤ l.length) : Rd w (.slice o k c) (l.take k) := by
  obtain ⟨o', c', e, h2, h3, h4⟩ := h
  simp only [Value.slice.injEq] at e
  obtain ⟨rfl, rfl, rfl⟩ := e
  have hl : (l.take k).length = k := by rw [List.length_take]; omega
  refine ⟨o, c, by rw [hl], by omega, h3, fun j x hx => ?_⟩
  refine h4 j x ?_
  rw [List.getElem?_take] at hx
  split at hx
  · exact hx
  · simp at hx
set_option maxHeartbeats 2000000 in
theorem rIs_is (L : Tx) (hl : L.length ≤ 100000000) (w : World) :
    Calls Tryd.prog 51 #[.string (tx L)] w fun e w' => e = .returned (.bool (isP L)) ∧ Below w.heap.size w w' := by
  have KP : Hid (Calls Tryd.prog 56 #[.string (tx L)] w fun e w' => ∃ v, e = .returned v ∧ RowsS w' w.heap.size v (pcs L) ∧ Below w.heap.size w w') := rpieces_is L (by omega) w
  have t1 := tx_toList L
  by_cases h0 : L = []
  · have HI : Hid (isP L = true) := by show _ = _; rw [h0]; rfl
    have e1 : (L == []) = true := by simp [h0]
    clear h0 KP
    go_enter Tryd.func51, Tryd.ntmps51
    go_wp2_with fail
    go_ret
    exact ⟨by rw [HI.out]; rfl, Below.refl _ _⟩
  · have e1 : (L == []) = false := by simp [h0]
    have HI : Hid (isP L = ((pcs L).all isPart && decide (((pcs L).length : Int) ≤ 8))) := by
      show _ = _
      unfold isP
      have : L.isEmpty = false := by simp [h0]
      rw [this, Bool.false_or, Bool.eq_iff_iff]
      simp only [Bool.and_eq_true, decide_eq_true_eq]
      constructor
      · rintro ⟨h1, h2⟩; exact ⟨h1, by omega⟩
      · rintro ⟨h1, h2⟩; exact ⟨h1, by omega⟩
    have hpl := pcs_len2 L
    have hpm : Hid (∀ p ∈ pcs L, p.length ≤ L.length) := pcs_mem_len L
    generalize pcs L = ps at *
    clear h0
    go_enter Tryd.func51, Tryd.ntmps51
    go_wp2_with fail
    refine KP.out.mono ?_
    rintro e w1 ⟨v1, rfl, hr1, hb1⟩
    have B1 : Hid (Below w.heap.size w w1) := hb1
    obtain ⟨o1, c1, rfl, k1, m1, ho1⟩ := hr1.rd
    have O1 : Hid (∀ j x, ps[j]? = some x → ∃ g, o1 = some ⟨g, 0, none⟩ ∧ w1.cell? ⟨g, j, none⟩ = some (.string (tx x))) := ho1
    clear hb1 hr1 ho1 KP
    go_wp2_with fail
    go_loopg [4] ps.length (fun g ii wr => ∃ (i : Nat), ii = .int .i64 i ∧ i ≤ ps.length ∧ g = ps.length - i ∧ Hid (∀ p ∈ ps.take i, isPart p = true) ∧ Hid (Below w1.heap.size w1 wr))
    case atStart => exact ⟨0, rfl, Nat.zero_le _, rfl, by intro p hp; simp at hp, Below.refl _ _⟩
    case round =>
      obtain ⟨i, rfl, hi, rfl, HP, HW⟩ := hrel
      have HBW : Hid (Below w.heap.size w wr) := B1.out.trans (HW.out.mono B1.out.size)
      by_cases hlt : i < ps.length
      · have j1 : (i : Int) < ((ps.length : Nat) : Int) := by omega
        have hx : ps[i]? = some ps[i] := List.getElem?_eq_getElem hlt
        have hal := hpm.out _ (List.getElem_mem hlt)
        have hmem := List.getElem_mem hlt
        obtain ⟨g1, rfl, q1⟩ := O1.out i _ hx
        have b1 : g1 < w1.heap.size := World.block_lt_of_cell? _ _ q1
        have HT : Hid (isPart ps[i] = true → ∀ p ∈ ps.take (i + 1), isPart p = true) := fun hp p hm => by
          rw [List.take_add_one, hx] at hm
          simp only [Option.toList_some, List.mem_append, List.mem_singleton] at hm
          rcases hm with hm | rfl
          · exact HP.out p hm
          · exact hp
        have HF : Hid (isPart ps[i] = false → isP L = false) := fun hp => by
          rw [HI.out]
          have : ps.all isPart = false := by
            rw [Bool.eq_false_iff]
            intro ha
            rw [List.all_eq_true.1 ha _ hmem] at hp
            simp at hp
          rw [this, Bool.false_and]
        generalize ps[i] = a at *
        have r1 : wr.cell? ⟨g1, i, none⟩ = some (.string (tx a)) := (HW.out.cell (p := ⟨g1, i, none⟩) b1).trans q1
        have KA : Hid (Calls Tryd.prog 57 #[.string (tx a)] wr fun e w' => e = .returned (.bool (isPart a)) ∧ Below wr.heap.size wr w') := rpart_is a (by omega) wr
        clear hx hmem q1
        go_wp2_with fail
        refine KA.out.mono ?_
        rintro e w2 ⟨rfl, hb2⟩
        have W2 : Hid (Below w1.heap.size w1 w2) := HW.out.trans (hb2.mono HW.out.size)
        have BW2 : Hid (Below w.heap.size w w2) := HBW.out.trans (hb2.mono HBW.out.size)
        clear hb2 KA
        cases hpa : isPart a with
        | true =>
          have HT2 : Hid (∀ p ∈ ps.take (i + 1), isPart p = true) := HT.out hpa
          clear HT HF
          go_wp2_with fail
          go_roundg (ps.length - (i + 1))
          case measure => omega
          case rel => exact ⟨i + 1, by go_num, by omega, rfl, HT2, W2⟩
        | false =>
          have HF2 : Hid (isP L = false) := HF.out hpa
          clear HT HF
          go_wp2_with fail
          go_ret
          exact ⟨by rw [HF2.out]; rfl, BW2.out⟩
      · have ei : i = ps.length := by omega
        subst ei
        have j1 : ¬ ((ps.length : Nat) : Int) < ((ps.length : Nat) : Int) := by omega
        have HI2 : Hid (isP L = decide (((ps.length : Nat) : Int) ≤ 8)) := by
          show _ = _
          rw [HI.out]
          have : ps.all isPart = true := List.all_eq_true.2 fun p hp => HP.out p (by rw [List.take_length]; exact hp)
          rw [this, Bool.true_and]
        go_wp2_with fail
        go_ret
        exact ⟨by rw [HI2.out]; rfl, HBW.out⟩
end Go.Proofs.YtbefmcagpmgkiaaDoor
namespace Go.Proofs.YtbefmcagpmgkiaaDoor
open Go.ChangeShapes Go.WideShapes Go.ChangeAt Go.RowKit Go.Deep
set_option linter.unusedVariables false
theorem Sl.rd {w : World} {base : Nat} {v : Value} {l : List Tx} (h : Sl w base v l) (hl : l.length ≤ 1000000) : Rd w v l := by
  obtain ⟨o, rfl, ho⟩ := h.open
  exact ⟨o, _, rfl, Nat.le_refl _, by omega, ho⟩
theorem RowsS.base {w : World} {a b : Nat} {v : Value} {l : List Tx} (h : RowsS w b v l) (hab : a ≤ b) : RowsS w a v l := by
  refine ⟨h.1, ?_⟩
  rcases h.2 with h1 | ⟨g, cap, cur, g1, g2, r⟩
  · exact .inl h1
  · exact .inr ⟨g, cap, cur, g1, Nat.le_trans hab g2, r⟩
theorem RowsS.from {w : World} {b : Nat} {v : Value} {l : List Tx} (h : RowsS w b v l) : ∀ g, v.ownBlock = some g → b ≤ g := fun g hg => (World.ownsRow.lt h g hg).1
theorem rparts_rows (L : Tx) (hl : L.length ≤ 100000000) (w : World) :
    Calls Tryd.prog 37 #[.string (tx L)] w fun e w' => ∃ v, e = .returned v ∧ RowsS w' w.heap.size v (prt L) ∧ Below w.heap.size w w' := by
  have K : Hid (Calls Tryd.prog 51 #[.string (tx L)] w fun e w' => e = .returned (.bool (isP L)) ∧ Below w.heap.size w w') := rIs_is L hl w
  have KS : Hid (∀ w, Calls Tryd.prog 56 #[.string (tx L)] w fun e w' => ∃ v, e = .returned v ∧ RowsS w' w.heap.size v (pcs L) ∧ Below w.heap.size w w') := rpieces_is L (by omega)
  have t1 := tx_toList L
  by_cases h0 : L = []
  · have HP : Hid (prt L = []) := by show _ = _; rw [prt, if_neg (by simp [h0])]
    have e1 : (L == []) = true := by simp [h0]
    clear h0
    go_enter Tryd.func37, Tryd.ntmps37
    go_wp2_with fail
    go_ret
    exact ⟨_, rfl, by rw [HP.out]; exact World.ownsRow_nil _ _ _ _, Below.refl _ _⟩
  · have e1 : (L == []) = false := by simp [h0]
    cases hp : isP L with
    | false =>
      have HP : Hid (prt L = []) := by show _ = _; rw [prt, if_neg (by simp [hp])]
      rw [hp] at K
      clear h0 hp
      go_enter Tryd.func37, Tryd.ntmps37
      go_wp2_with fail
      refine K.out.mono ?_
      rintro e w' ⟨rfl, hw⟩
      go_wp2_with fail
      go_ret
      exact ⟨_, rfl, by rw [HP.out]; exact World.ownsRow_nil _ _ _ _, hw⟩
    | true =>
      have HP : Hid (prt L = pcs L) := by show _ = _; rw [prt, if_pos ⟨h0, hp⟩]
      rw [hp] at K
      clear h0 hp
      go_enter Tryd.func37, Tryd.ntmps37
      go_wp2_with fail
      refine K.out.mono ?_
      rintro e w' ⟨rfl, hw⟩
      have HW : Hid (Below w.heap.size w w') := hw
      clear hw
      go_wp2_with fail
      refine (KS.out _).mono ?_
      rintro e w2 ⟨v, rfl, hr, hb2⟩
      have HR : Hid (RowsS w2 w.heap.size v (prt L)) := by rw [HP.out]; exact hr.base HW.out.size
      have B2 : Hid (Below w.heap.size w w2) := HW.out.trans (hb2.mono HW.out.size)
      clear hr hb2
      go_wp2_with fail
      go_ret
      exact ⟨_, rfl, HR.out, B2.out⟩
theorem rparts_is (L : Tx) (hl : L.length ≤ 100000000) (w : World) :
    Calls Tryd.prog 37 #[.string (tx L)] w fun e w' => ∃ v, e = .returned v ∧ Rd w' v (prt L) ∧ Below w.heap.size w w' :=
  (rparts_rows L hl w).mono fun _ _ ⟨v, he, hr, hb⟩ => ⟨v, he, hr.rd, hb⟩
theorem rup_is (L : Tx) (hl : L.length ≤ 100000000) (w : World) :
    Calls Tryd.prog 36 #[.string (tx L)] w fun e w' => e = .returned (.tuple #[.string (tx (jn (prt L).dropLast)), .bool (!(prt L).isEmpty)]) ∧ Below w.heap.size w w' := by
  have K : Hid (Calls Tryd.prog 37 #[.string (tx L)] w fun e w' => ∃ v, e = .returned v ∧ Rd w' v (prt L) ∧ Below w.heap.size w w') := rparts_is L hl w
  have HF : Hid ((∀ p ∈ prt L, isPart p = true) ∧ (prt L).length ≤ 8) := prt_facts L
  generalize prt L = l at *
  go_enter Tryd.func36, Tryd.ntmps36
  go_wp2_with fail
  refine K.out.mono ?_
  rintro e w' ⟨v, rfl, hs, hw⟩
  have HW : Hid (Below w.heap.size w w') := hw
  have h8 := HF.out.2
  obtain ⟨o, c, rfl, hc1, hc2, ho⟩ := hs
  by_cases h0 : l = []
  · subst h0
    clear hw K ho
    go_wp2_with fail
    go_ret2
    exact ⟨rfl, HW.out⟩
  · have hlp : 0 < l.length := List.length_pos_iff.2 h0
    obtain ⟨g, rfl, _⟩ := ho 0 _ (List.getElem?_eq_getElem hlp)
    have HIE : Hid (l.isEmpty = false) := by show _ = _; simp [h0]
    have hd : l.dropLast.length = l.length - 1 := List.length_dropLast
    have hjl := jn_le8 (l := l.dropLast) (fun p hp => HF.out.1 p (List.dropLast_subset _ hp)) (by omega)
    have hrd : Rd w' (.slice (some ⟨g, 0, none⟩) (l.length - 1) c) l.dropLast := by
      have := Rd.take (w := w') (o := some ⟨g, 0, none⟩) (n := l.length) (c := c) (l := l) ⟨_, _, rfl, hc1, hc2, ho⟩ (l.length - 1) (by omega)
      rwa [← List.dropLast_eq_take] at this
    have KT : Hid (Calls Tryd.prog 52 #[.slice (some ⟨g, 0, none⟩) (l.length - 1) c] w' fun e w2 => e = .returned (.string (tx (jn l.dropLast))) ∧ Below w'.heap.size w' w2) := rtext_is _ _ w' hrd (by omega) (by omega)
    have i1 : ¬ ((l.length : Nat) : Int) = 0 := by omega
    have i2 : (0 : Int) ≤ ((l.length : Nat) : Int) - 1 := by omega
    have i3 : ((l.length : Nat) : Int) - 1 ≤ (c : Int) := by omega
    have i4 : (((l.length : Nat) : Int) - 1).toNat = l.length - 1 := by omega
    clear hw K ho hrd hjl
    go_wp2_with fail
    refine KT.out.mono ?_
    rintro e w2 ⟨rfl, hb2⟩
    have B2 : Hid (Below w.heap.size w w2) := HW.out.trans (hb2.mono HW.out.size)
    clear hb2 KT
    go_wp2_with fail
    go_ret2
    refine ⟨?_, B2.out⟩
    rw [HIE.out]
    rfl
end Go.Proofs.YtbefmcagpmgkiaaDoor
