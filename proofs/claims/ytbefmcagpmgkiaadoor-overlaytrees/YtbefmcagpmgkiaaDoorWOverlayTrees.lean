/- OverlayTrees' walk. -/
import Derived.Test.YtbefmcagpmgkiaaDoorOvN
import Derived.Test.YtbefmcagpmgkiaaDoorOvJ
import Derived.BigQuiet
namespace Go.Proofs.YtbefmcagpmgkiaaDoor
open Go.ChangeShapes Go.WideShapes Go.ChangeAt Go.RowKit Go.Deep Go.Maps
set_option linter.unusedVariables false
theorem pw_count : ∀ {l : List En}, l.Pairwise (fun x y => les x.p y.p = true) → ∀ x ∈ l, l.countP (fun y => decide (y.p = x.p)) = 1
  | [], _, x, hx => by cases hx
  | z :: r, h, x, hx => by
    rw [List.pairwise_cons] at h
    by_cases e : z.p = x.p
    · have h0 : r.countP (fun y => decide (y.p = x.p)) = 0 := by
        rw [List.countP_eq_zero]
        intro y hy
        have := h.1 y hy
        simp only [decide_eq_true_eq]
        intro e2
        rw [e, e2, les_irr] at this
        cases this
      rw [List.countP_cons, h0, decide_eq_true e]
      rfl
    · have hxr : x ∈ r := by
        rcases List.mem_cons.1 hx with rfl | h
        · exact absurd rfl e
        · exact h
      rw [List.countP_cons, pw_count h.2 x hxr, decide_eq_false e]
      rfl
/-- a name stands once in its directory -/
theorem once_in {T : Tx → Option En} (hT : TreeT T) {l : List En} (hl : Lst T l) {x : En} (hx : x ∈ l) : (lsN l (upP x.p)).countP (fun s => decide (s = lastP x.p)) = 1 := by
  unfold lsN
  rw [List.countP_map, List.countP_filter, ← pw_count hl.rise x hx]
  have hp : ∀ y ∈ l, y.p ≠ [] ∧ isP y.p = true := fun y hy => fo_path (hT.ok _ _ ((hl.mem y).1 hy)).1
  apply List.countP_congr
  intro y hy
  obtain ⟨hy0, hyP⟩ := hp y hy
  obtain ⟨hx0, hxP⟩ := hp x hx
  simp only [Function.comp, Bool.and_eq_true, decide_eq_true_eq, inD]
  constructor
  · rintro ⟨h1, h2, h3⟩
    exact path_uniq hyP hy0 hxP hx0 h3 h1
  · intro e
    rw [e]
    refine ⟨rfl, ?_, rfl⟩
    have := prt_ne hxP hx0
    simpa using this
/-- what Lookup and List tell of an entry of a tree -/
theorem tree_asks {T : Tx → Option En} (hT : TreeT T) {l : List En} (hl : Lst T l) {x : En} (hx : x ∈ l) : lk l (47 :: x.p) = (x, 0) ∧ lsA l (upP x.p) = (lsN l (upP x.p), 0) ∧ prt x.p ≠ [] := by
  have hx' := (hl.mem x).1 hx
  obtain ⟨h0, hP⟩ := fo_path (hT.ok _ _ hx').1
  refine ⟨?_, ?_, prt_ne hP h0⟩
  · rw [lk_lead h0 hP, ent_lst hT hl, hx']
  · unfold lsA
    by_cases hu : upP x.p = []
    · have : lk l [] = (([], 2, 0, []), 0) := by
        unfold lk
        have : cln [] = ([], 0) := by decide
        rw [this]
        simp
      rw [hu, this]
      simp [En.k, En.p]
    · have hin := upP_inn hP h0 hu
      obtain ⟨z, hz, hzk⟩ := kd_two (hT.up _ _ _ hx' hu (upP_neq hP h0) hin)
      have hzp := hT.own _ _ hz
      rw [lk_path hu (isP_inn hP hin), ent_lst hT hl, hz]
      simp [hzk, hzp]
theorem count_take (NM : List Tx) (LA : Tx) (k : Nat) (s : Tx) (h : NM[k]? = some s) : (NM.take (k + 1)).countP (fun s => decide (s = LA)) = (NM.take k).countP (fun s => decide (s = LA)) + if s = LA then 1 else 0 := by
  rw [List.take_add_one, h]
  simp only [Option.toList, List.countP_append, List.countP_cons, List.countP_nil, Nat.zero_add]
  by_cases e : s = LA <;> simp [e]
set_option maxRecDepth 100000 in
set_option maxHeartbeats 8000000 in
theorem overlayTrees_walk (a : Option Addr) (n c : Nat) (st : List (List En)) (w : World) (hn : st.length = n) (hn62 : n ≤ 4611686018427387904) (hs : InS w a st) :
    Calls Tryd.prog 6 #[.slice a n c] w fun e w' => e = .returned (.bool true) ∧ Below w.heap.size w w' := by
  have KF : Hid (Calls Tryd.prog 9 #[.slice a n c] w fun e w' => e = .returned (.bool (fewB st)) ∧ Below w.heap.size w w') := few_is st n hn a c hn62 w hs
  have KW : Hid (∀ w, Calls Tryd.prog 10 #[] w fun e w' => e = .returned (.bool true) ∧ Below w.heap.size w w') := works_is
  have KM : Hid (∀ w0, Below w.heap.size w w0 → Calls Tryd.prog 12 #[.slice a n c] w0 fun e w' => ∃ a' c' l, e = .returned (.tuple #[.slice a' l.length c', .int .i64 (mE st)]) ∧ InE w' a' l ∧ (mE st = 0 → Lst (mg st) l) ∧ (mE st ≠ 0 → l = []) ∧ l.length ≤ 10240 ∧ Below w0.heap.size w0 w') := fun w0 hb => merge_any st n hn a c hn62 w0 (hs.keep hb)
  clear hs hn
  cases hf : fewB st with
  | false =>
    rw [hf] at KF
    go_enter Tryd.func6, Tryd.ntmps6
    go_wp2_with fail
    refine KF.out.mono ?_
    rintro e w1 ⟨rfl, hb1⟩
    have B1 : Hid (Below w.heap.size w w1) := hb1
    clear hb1
    go_wp2_with fail
    refine (KW.out w1).mono ?_
    rintro e w2 ⟨rfl, hb2⟩
    have B2 : Hid (Below w.heap.size w w2) := B1.out.trans (hb2.mono B1.out.size)
    clear hb2
    go_wp2_with fail
    go_ret
    exact ⟨rfl, B2.out⟩
  | true =>
    rw [hf] at KF
    go_enter Tryd.func6, Tryd.ntmps6
    go_wp2_with fail
    refine KF.out.mono ?_
    rintro e w1 ⟨rfl, hb1⟩
    have B1 : Hid (Below w.heap.size w w1) := hb1
    clear hb1 hf
    go_wp2_with fail
    refine (KM.out w1 B1.out).mono ?_
    rintro e w2 ⟨ra, rc, l, rfl, hri, hrl, hre, hrn, hrb⟩
    have B2 : Hid (Below w.heap.size w w2) := B1.out.trans (hrb.mono B1.out.size)
    have R2 : Hid (InE w2 ra l) := hri
    clear hri hrb KM B1
    by_cases hM : mE st = 0
    · have LS : Hid (Lst (mg st) l) := hrl hM
      have TT : Hid (TreeT (mg st)) := mg_tree (fun l hl => (mE_zero hM).2 l hl)
      have IT : Hid (isTr l = true) := lst_isTr TT.out LS.out
      have FL : Hid (Fit l) := fun x hx => by
        have hf := (TT.out.ok _ _ ((LS.out.mem x).1 hx)).1
        have h1 := isP_short (fo_path hf).2
        have h2 := (fo_all hf).2.2.2.2
        exact ⟨by omega, by omega⟩
      have FP : Hid (∀ x ∈ l, x.p.length < 16384) := fun x hx => isP_short (fo_path (TT.out.ok _ _ ((LS.out.mem x).1 hx)).1).2
      have KT : Hid (Calls Tryd.prog 20 #[.slice ra l.length rc] w2 fun e w' => e = .returned (.bool true) ∧ Below w2.heap.size w2 w') := by
        have := tree_is l l.length rfl (by omega) FL.out ra rc w2 R2.out
        rw [IT.out] at this
        exact this
      have KL : Hid (∀ (s : Tx) (W : World), s.length ≤ 140737488355328 → InE W ra l → Calls Tryd.prog 15 #[.slice ra l.length rc, .string (tx s)] W fun e w' => e = .returned (.tuple #[ag (lk l s).1, .int .i64 (lk l s).2]) ∧ Below W.heap.size W w') := fun s W hs hi => lookup_is l l.length rfl (by omega) ra rc s hs W hi
      have KI : Hid (∀ (s : Tx) (W : World), s.length ≤ 140737488355328 → InE W ra l → Calls Tryd.prog 17 #[.slice ra l.length rc, .string (tx s)] W fun e w' => ∃ v, e = .returned (.tuple #[v, .int .i64 (lsA l s).2]) ∧ RowsS w' W.heap.size v (lsA l s).1 ∧ Below W.heap.size W w') := fun s W hs hi => list_is l l.length rfl (by omega) FL.out ra rc s hs W hi
      have TA : Hid (∀ x ∈ l, lk l (47 :: x.p) = (x, 0) ∧ lsA l (upP x.p) = (lsN l (upP x.p), 0) ∧ prt x.p ≠ []) := fun x hx => tree_asks TT.out LS.out hx
      have TO : Hid (∀ x ∈ l, (lsN l (upP x.p)).countP (fun s => decide (s = lastP x.p)) = 1) := fun x hx => once_in TT.out LS.out hx
      rw [hM]
      clear hM hrl hre IT LS TT
      go_wp2_with fail
      refine KT.out.mono ?_
      rintro e w3 ⟨rfl, hb3⟩
      have B3 : Hid (Below w.heap.size w w3) := B2.out.trans (hb3.mono B2.out.size)
      have R3 : Hid (InE w3 ra l) := R2.out.keep hb3
      clear hb3 B2 R2 KT
      obtain ⟨N, hN⟩ : ∃ N, l.length = N := ⟨_, rfl⟩
      rw [hN] at hrn KL KI ⊢
      have HLN : Hid (l.length = N) := hN
      clear hN
      go_wp2_with fail
      go_loopg [38] N (fun g i wr => ∃ j : Nat, j ≤ N ∧ g = N - j ∧ i = .int .i64 j ∧ Hid (Below w.heap.size w wr) ∧ Hid (InE wr ra l))
      case atStart => exact ⟨0, Nat.zero_le _, rfl, rfl, B3, R3⟩
      case round =>
        obtain ⟨j, hj, rfl, rfl, BW, RW⟩ := hrel
        have hszw := BW.out.size
        by_cases hlt : j < N
        · have j1 : (j : Int) < (N : Int) := by omega
          obtain ⟨x, hx⟩ : ∃ x, l[j]? = some x := ⟨l[j]'(by rw [HLN.out]; exact hlt), by simp [HLN.out, hlt]⟩
          have hxm := List.mem_of_getElem? hx
          obtain ⟨b, off, rfl, hbw, hr⟩ := RW.out.at hx
          have hxp := (FL.out x hxm).1
          obtain ⟨t1, t2, t3⟩ := TA.out x hxm
          have TO1 : Hid ((lsN l (upP x.p)).countP (fun s => decide (s = lastP x.p)) = 1) := TO.out x hxm
          have hpp : x.p.length < 16384 := FP.out x hxm
          have HK1 : Hid (Calls Tryd.prog 15 #[.slice (some ⟨b, off, none⟩) N rc, .string (tx (47 :: x.p))] wr fun e w' => e = .returned (.tuple #[ag x, .int .i64 0]) ∧ Below wr.heap.size wr w') := by
            have := KL.out (47 :: x.p) wr (by simp; omega) RW.out
            rw [t1] at this
            exact this
          have HK2 : Hid (∀ W, InE W (some ⟨b, off, none⟩) l → Calls Tryd.prog 17 #[.slice (some ⟨b, off, none⟩) N rc, .string (tx (upP x.p))] W fun e w' => ∃ v, e = .returned (.tuple #[v, .int .i64 0]) ∧ RowsS w' W.heap.size v (lsN l (upP x.p)) ∧ Below W.heap.size W w') := fun W hi => by
            have hul := upP_len x.p
            have := KI.out (upP x.p) W (by omega) hi
            rw [t2] at this
            exact this
          have KU : Hid (∀ W, Calls Tryd.prog 24 #[.string (tx x.p)] W fun e w' => e = .returned (.tuple #[.string (tx (upP x.p)), .bool true]) ∧ Below W.heap.size W w') := fun W => by
            have := up_is x.p (by omega) W
            rw [show (!(prt x.p).isEmpty) = true by simpa using t3] at this
            exact this
          have KP : Hid (∀ W, Calls Tryd.prog 25 #[.string (tx x.p)] W fun e w' => ∃ v, e = .returned v ∧ Sl w' W.heap.size v (prt x.p) ∧ Below W.heap.size W w') := fun W => parts_is x.p (by omega) W
          have HLA : Hid ((prt x.p)[(prt x.p).length - 1]? = some (lastP x.p)) := last_at t3
          have HPN : Hid (prt x.p ≠ []) := t3
          have h8 := (prt_facts x.p).2
          have ap : (⟨#[47]⟩ : ByteArray) ++ tx x.p = tx (47 :: x.p) := tx_append [47] x.p
          have sz1 := tx_size x.p
          obtain ⟨c0, c1, c2, c3⟩ := hr
          have HX : Hid (Ec wr b (off + j * 4) x) := ⟨c0, c1, c2, c3⟩
          clear hx hxm t1 t2 t3
          generalize lsN l (upP x.p) = NM at *
          generalize upP x.p = UP at *
          generalize lastP x.p = LA at *
          generalize prt x.p = PR at *
          unfold ag at HK1
          go_wp2_with fail
          refine HK1.out.mono ?_
          rintro e w4 ⟨rfl, hb4⟩
          have s4 : wr.heap.size ≤ w4.heap.size := hb4.size
          obtain ⟨w5, hw5⟩ : ∃ w5, w5 = w4.alloc (.cells #[.string (tx x.p), .int .i64 x.k, .int .i64 x.m, .string (tx x.b)] 34) := ⟨_, rfl⟩
          have W5 : Hid (w5 = w4.alloc (.cells #[.string (tx x.p), .int .i64 x.k, .int .i64 x.m, .string (tx x.b)] 34)) := hw5
          have b5 : Below wr.heap.size wr w5 := by rw [hw5]; exact hb4.alloc s4 _
          have X5 : Hid (w5.heap[w4.heap.size]? = some (.cells (ec (tx x.p) x.k x.m (tx x.b)) 34)) := by show _ = _; rw [hw5]; exact heap_alloc_new w4 _
          have D5 : Hid (Below wr.heap.size wr w5) := b5
          clear hb4 c0 c1 c2 c3
          obtain ⟨c0, c1, c2, c3⟩ := HX.out.below b5 hbw
          have c0' : (w4.alloc (.cells #[.string (tx x.p), .int .i64 x.k, .int .i64 x.m, .string (tx x.b)] 34)).cell? ⟨b, off + j * 4, none⟩ = some (.string (tx x.p)) := by rw [← hw5]; exact c0
          clear c0 c1 c2 c3 hw5 b5 HK1
          go_wp2_with fail
          rw [show w4.alloc _ = w5 from W5.out.symm]
          refine (KU.out w5).mono ?_
          rintro e w6 ⟨rfl, hb6⟩
          have D6 : Hid (Below wr.heap.size wr w6) := D5.out.trans (hb6.mono D5.out.size)
          have X6 : Hid (w6.heap[w4.heap.size]? = some (.cells (ec (tx x.p) x.k x.m (tx x.b)) 34)) := cell_box X5.out hb6
          clear hb6 KU c0' W5 D5 X5
          go_wp2_with fail
          refine (HK2.out w6 (RW.out.keep D6.out)).mono ?_
          rintro e w7 ⟨v7, rfl, hr7, hb7⟩
          have D7 : Hid (Below wr.heap.size wr w7) := D6.out.trans (hb7.mono D6.out.size)
          have X7 : Hid (w7.heap[w4.heap.size]? = some (.cells (ec (tx x.p) x.k x.m (tx x.b)) 34)) := cell_box X6.out hb7
          have Q7 : Hid (Rd w7 v7 NM) := hr7.rd
          obtain ⟨c0, c1, c2, c3⟩ := HX.out.below D7.out hbw
          clear hr7 hb7 HK2 D6 X6
          go_wp2_with fail
          refine (KP.out w7).mono ?_
          rintro e w8 ⟨v8, rfl, hs8, hb8⟩
          have D8 : Hid (Below wr.heap.size wr w8) := D7.out.trans (hb8.mono D7.out.size)
          have x8 := cell_box X7.out hb8
          obtain ⟨o7, c7, rfl, h7a, h7b, h7c⟩ := Q7.out.keep hb8
          have H7 : Hid (∀ j x, NM[j]? = some x → ∃ g, o7 = some ⟨g, 0, none⟩ ∧ w8.cell? ⟨g, j, none⟩ = some (.string (tx x))) := h7c
          obtain ⟨o8, rfl, ho8⟩ := hs8.open
          obtain ⟨g8, rfl, hc8⟩ := ho8 _ _ HLA.out
          obtain ⟨m1, hm1⟩ : ∃ m1, PR.length = m1 + 1 := ⟨PR.length - 1, by have := List.length_pos_iff.2 HPN.out; omega⟩
          rw [hm1] at hc8 h8 ⊢
          have hc9 : w8.cell? ⟨g8, m1, none⟩ = some (.string (tx LA)) := hc8
          clear c0 c1 c2 c3
          obtain ⟨c0, c1, c2, c3⟩ := HX.out.below D8.out hbw
          obtain ⟨d0, d1, d2, d3⟩ := ec_cells x8
          have hneq : ∀ W : World, (binOp .neq 34 (.agg #[.string (tx x.p), .int .i64 x.k, .int .i64 x.m, .string (tx x.b)]) (.agg #[.string (tx x.p), .int .i64 x.k, .int .i64 x.m, .string (tx x.b)])).run Tryd.prog W = .ok (.bool false) W := fun W => by
            have := neq_entry x x W
            rw [decide_eq_true rfl] at this
            exact this
          have i1 : ¬ ((m1 + 1 : Nat) : Int) = 0 := by omega
          have i2 : ((((m1 + 1 : Nat) : Int)) == 0) = false := by simpa using i1
          clear hs8 hb8 ho8 h7c x8 hc8 X7 D7 Q7
          go_wp2_with fail
          go_quiet (fail)
          go_wp2_with fail
          obtain ⟨L, hL⟩ : ∃ L, NM.length = L := ⟨_, rfl⟩
          have HL : Hid (NM.length = L) := hL
          rw [hL] at h7a ⊢
          clear hL hneq d0 d1 d2 d3 c0 c1 c2 c3
          have B8 : Hid (Below w.heap.size w w8) := BW.out.trans (D8.out.mono hszw)
          have R8 : Hid (InE w8 (some ⟨b, off, none⟩) l) := RW.out.keep D8.out
          clear BW RW D8
          go_loopg [98, 13] L (fun g i q wr2 => ∃ k q2 : Nat, k ≤ L ∧ g = L - k ∧ i = .int .i64 k ∧ wr2 = w8.drewN q2 ∧ q = .int .i64 ((NM.take k).countP (fun s => decide (s = LA)) : Nat))
          case atStart => exact ⟨0, _, Nat.zero_le _, rfl, rfl, rfl, rfl⟩
          case round =>
            obtain ⟨k, q2, hk, rfl, rfl, rfl, rfl⟩ := hrel
            by_cases hlt2 : k < L
            · have k1 : (k : Int) < (L : Int) := by omega
              obtain ⟨s, hs⟩ : ∃ s, NM[k]? = some s := ⟨NM[k]'(by rw [HL.out]; exact hlt2), by simp [HL.out, hlt2]⟩
              obtain ⟨g7, rfl, hc7⟩ := H7.out k s hs
              have CT : Hid ((NM.take (k + 1)).countP (fun s => decide (s = LA)) = (NM.take k).countP (fun s => decide (s = LA)) + if s = LA then 1 else 0) := count_take NM LA k s hs
              have hcl : (NM.take k).countP (fun s => decide (s = LA)) ≤ k := by
                have := List.countP_le_length (p := fun s => decide (s = LA)) (l := NM.take k)
                rw [List.length_take] at this
                omega
              have i3 : ((m1 + 1 : Nat) : Int) - 1 = (m1 : Int) := by omega
              have i4 : (m1 : Int) < ((m1 + 1 : Nat) : Int) := by omega
              have i5 : (0 : Int) ≤ (m1 : Int) := by omega
              have i6 : m1 ≤ 7 := by omega
              have l7 : L ≤ 9223372036854775807 := by omega
              generalize (NM.take k).countP (fun s => decide (s = LA)) = CC at *
              clear hs
              by_cases hsl : s = LA
              · subst hsl
                have CT2 : Hid ((NM.take (k + 1)).countP (fun s' => decide (s' = s)) = CC + 1) := by show _ = _; rw [CT.out, if_pos rfl]
                go_wp2_with fail
                go_roundg (L - (k + 1))
                case measure => omega
                case rel => exact ⟨k + 1, _, by omega, rfl, by go_num, rfl, by rw [CT2.out]; go_num⟩
              · have CT2 : Hid ((NM.take (k + 1)).countP (fun s' => decide (s' = LA)) = CC) := by show _ = _; rw [CT.out, if_neg hsl]; rfl
                have hq1 := tx_toList s
                have hq2 := tx_toList LA
                have hbe : (s == LA) = false := by simpa using hsl
                go_wp2_with fail
                go_roundg (L - (k + 1))
                case measure => omega
                case rel => exact ⟨k + 1, _, by omega, rfl, by go_num, rfl, by rw [CT2.out]⟩
            · have ek : k = L := by omega
              subst ek
              have k1 : ¬ (k : Int) < (k : Int) := by omega
              have HT : Hid (NM.take k = NM) := by show _ = _; rw [← HL.out, List.take_length]
              rw [HT.out, TO1.out]
              go_wp2_with fail
              go_roundg (N - (j + 1))
              case measure => omega
              case rel => exact ⟨j + 1, by omega, rfl, by go_num, below_drewN B8.out _, R8.out.keep (below_drewN (Below.refl _ _) _)⟩
        · have ej : j = N := by omega
          subst ej
          have j1 : ¬ (j : Int) < (j : Int) := by omega
          go_wp2_with fail
          refine (KW.out _).mono ?_
          rintro e wz ⟨rfl, hbz⟩
          have Bz : Hid (Below w.heap.size w wz) := BW.out.trans (hbz.mono hszw)
          clear hbz
          go_wp2_with fail
          go_ret
          exact ⟨rfl, Bz.out⟩
    · have hM2 : (mE st != 0) = true := by simpa using hM
      have hle : l = [] := hre hM
      subst hle
      generalize mE st = M at *
      go_wp2_with fail
      refine (KW.out _).mono ?_
      rintro e wz ⟨rfl, hbz⟩
      have Bz : Hid (Below w.heap.size w wz) := B2.out.trans (hbz.mono B2.out.size)
      clear hbz
      go_wp2_with fail
      go_ret
      exact ⟨rfl, Bz.out⟩
end Go.Proofs.YtbefmcagpmgkiaaDoor
