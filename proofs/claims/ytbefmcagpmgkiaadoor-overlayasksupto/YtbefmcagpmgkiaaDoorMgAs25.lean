/- OverlayAsks' walk. A slice of entries that came in, opened; how great its texts may be. -/
import Derived.Test.YtbefmcagpmgkiaaDoorMgAs16
import Derived.Test.YtbefmcagpmgkiaaDoorMgAs21
import Derived.Test.YtbefmcagpmgkiaaDoorMgAs24
import Derived.Test.YtbefmcagpmgkiaaDoorMgAs7
import Derived.Deep.Slices
import Derived.Lib.SmallJoins
import Derived.ChangeSame
import Derived.SizedLaws
namespace Go.Proofs.YtbefmcagpmgkiaaDoor
open Go.ChangeShapes Go.WideShapes Go.ChangeAt Go.RowKit Go.Deep Go.Maps
set_option linter.unusedVariables false
theorem asks_len (l : List En) (s : Tx) (h : l.length ≤ 1000000000) : (lsA l s).1.length ≤ 1000000000 := by
  unfold lsA
  split
  · simp
  · split
    · simp
    · exact Nat.le_trans (lsN_len _ _) h
set_option maxRecDepth 100000 in
set_option maxHeartbeats 8000000 in
theorem overlayAsks_walk (a : Option Addr) (n c : Nat) (l : List En) (s0 : ByteArray) (w : World) (hn : l.length = n) (hnc : n ≤ c) (hl : InE w a l) (hf : Fit l) (hn47 : n ≤ 140737488355328) (hs : s0.size ≤ 140737488355328) (hB : (∀ x ∈ l, x.p.length ≤ 1048576 ∧ x.b.length ≤ 1048576) ∧ l.length ≤ 1048576) (hsB : s0.size ≤ 1048576) :
    Calls Tryd.prog 4 #[.slice a n c, .string s0] w fun e w' => e = .returned (.bool true) ∧ Below w.heap.size w w' := by
  obtain ⟨s, rfl⟩ : ∃ A, s0 = tx A := ⟨_, tx_mk s0⟩
  rw [tx_size] at hsB
  have KW : Hid (∀ w, Calls Tryd.prog 10 #[] w fun e w' => e = .returned (.bool true) ∧ Below w.heap.size w w') := works_is
  by_cases h3 : 300 < n
  · have e3 : (300 : Int) < (n : Int) := by omega
    have e4 : (300 : Int) ≤ (c : Int) := by omega
    have hl3 := hl.takeR 300
    have hn3 : (l.take 300).length = 300 := by rw [List.length_take]; omega
    have HB : Hid (∀ x ∈ l.take 300, x.p.length ≤ 1048576 ∧ x.b.length ≤ 1048576) := fun x hx => hB.1 x (List.mem_of_mem_take hx)
    generalize l.take 300 = m at *
    clear hl hf hB hs hn
    have K1 : Hid (∀ W, Below w.heap.size w W → Calls Tryd.prog 15 #[.slice a 300 c, .string (tx s)] W fun e w' => e = .returned (.tuple #[ag (lk m s).1, .int .i64 (lk m s).2]) ∧ Below W.heap.size W w') := fun W hb => lookup_is m 300 hn3 (by omega) a c s (by omega) W (hl3.keep hb)
    have K2 : Hid (∀ W, Below w.heap.size w W → Calls Tryd.prog 16 #[.slice a 300 c, .string (tx s)] W fun e w' => e = .returned (.tuple #[ag (lk m s).1, .int .i64 (lk m s).2]) ∧ Below W.heap.size W w') := fun W hb => rlookup_is m 300 hn3 (by omega) a c s (by omega) W (hl3.keep hb)
    have K3 : Hid (∀ W, Below w.heap.size w W → Calls Tryd.prog 17 #[.slice a 300 c, .string (tx s)] W fun e w' => ∃ v, e = .returned (.tuple #[v, .int .i64 (lsA m s).2]) ∧ RowsS w' W.heap.size v (lsA m s).1 ∧ Below W.heap.size W w') := fun W hb => list_is m 300 hn3 (by omega) (fun x hx => ⟨Nat.le_trans (HB.out x hx).1 (by omega), Nat.le_trans (HB.out x hx).2 (by omega)⟩) a c s (by omega) W (hl3.keep hb)
    have K4 : Hid (∀ W, Below w.heap.size w W → Calls Tryd.prog 18 #[.slice a 300 c, .string (tx s)] W fun e w' => ∃ v, e = .returned (.tuple #[v, .int .i64 (lsA m s).2]) ∧ RowsS w' W.heap.size v (lsA m s).1 ∧ Below W.heap.size W w') := fun W hb => rlist_is m 300 hn3 (by omega) (fun x hx => Nat.le_trans (HB.out x hx).1 (by omega)) a c s (by omega) W (hl3.keep hb)
    have K5 : Hid (∀ W, Below w.heap.size w W → Calls Tryd.prog 20 #[.slice a 300 c] W fun e w' => e = .returned (.bool (isTr m)) ∧ Below W.heap.size W w') := fun W hb => tree_is m 300 hn3 (by omega) (fun x hx => ⟨Nat.le_trans (HB.out x hx).1 (by omega), Nat.le_trans (HB.out x hx).2 (by omega)⟩) a c W (hl3.keep hb)
    have K6 : Hid (∀ W, Below w.heap.size w W → Calls Tryd.prog 21 #[.slice a 300 c] W fun e w' => e = .returned (.bool (isTr m)) ∧ Below W.heap.size W w') := fun W hb => rtree_is m 300 hn3 (by omega) HB.out a c (by omega) W (hl3.keep hb)
    have HNM : Hid ((lsA m s).1.length ≤ 1000000000) := asks_len m s (by rw [hn3]; omega)
    generalize (lsA m s).1 = NM at *
    generalize (lsA m s).2 = F at *
    generalize isTr m = T at *
    obtain ⟨⟨dp, dk, dm, db⟩, hD⟩ : ∃ D, D = (lk m s).1 := ⟨_, rfl⟩
    rw [← hD] at K1 K2
    generalize (lk m s).2 = E at *
    simp only [ag, En.p, En.k, En.m, En.b] at K1 K2
    clear hD
    have heq : ∀ W : World, (binOp .eql 34 (.agg #[.string (tx dp), .int .i64 dk, .int .i64 dm, .string (tx db)]) (.agg #[.string (tx dp), .int .i64 dk, .int .i64 dm, .string (tx db)])).run Tryd.prog W = .ok (.bool true) W := fun W => by
      have := eql_entry (dp, dk, dm, db) (dp, dk, dm, db) W
      rw [decide_eq_true rfl] at this
      exact this
    clear hl3 hn3 HB
    go_enter Tryd.func4, Tryd.ntmps4
    go_wp2_with fail
    refine (K1.out w (Below.refl _ _)).mono ?_
    rintro e w1 ⟨rfl, hb1⟩
    have B1 : Hid (Below w.heap.size w w1) := hb1
    have B1a : Hid (Below w.heap.size w (w1.alloc (.cells #[.string (tx dp), .int .i64 dk, .int .i64 dm, .string (tx db)] 34))) := hb1.alloc hb1.size _
    have X1 : Hid ((w1.alloc (.cells #[.string (tx dp), .int .i64 dk, .int .i64 dm, .string (tx db)] 34)).heap[w1.heap.size]? = some (.cells (ec (tx dp) dk dm (tx db)) 34)) := heap_alloc_new w1 _
    clear hb1 K1 B1
    go_wp2_with fail
    refine (K2.out _ B1a.out).mono ?_
    rintro e w2 ⟨rfl, hb2⟩
    have B2 : Hid (Below w.heap.size w w2) := B1a.out.trans (hb2.mono B1a.out.size)
    have x2 : w2.heap[w1.heap.size]? = some (.cells (ec (tx dp) dk dm (tx db)) 34) := cell_box X1.out hb2
    have b2a : Below w2.heap.size w2 (w2.alloc (.cells #[.string (tx dp), .int .i64 dk, .int .i64 dm, .string (tx db)] 34)) := (Below.refl _ _).alloc (Nat.le_refl _) _
    have B2a : Hid (Below w.heap.size w (w2.alloc (.cells #[.string (tx dp), .int .i64 dk, .int .i64 dm, .string (tx db)] 34))) := B2.out.trans (b2a.mono B2.out.size)
    have X2 : Hid ((w2.alloc (.cells #[.string (tx dp), .int .i64 dk, .int .i64 dm, .string (tx db)] 34)).heap[w1.heap.size]? = some (.cells (ec (tx dp) dk dm (tx db)) 34)) := cell_box x2 b2a
    have Y2 : Hid ((w2.alloc (.cells #[.string (tx dp), .int .i64 dk, .int .i64 dm, .string (tx db)] 34)).heap[w2.heap.size]? = some (.cells (ec (tx dp) dk dm (tx db)) 34)) := heap_alloc_new w2 _
    clear hb2 b2a x2 K2 B2 B1a X1
    go_wp2_with fail
    refine (K3.out _ B2a.out).mono ?_
    rintro e w3 ⟨v3, rfl, hr3, hb3⟩
    have B3 : Hid (Below w.heap.size w w3) := B2a.out.trans (hb3.mono B2a.out.size)
    have X3 : Hid (w3.heap[w1.heap.size]? = some (.cells (ec (tx dp) dk dm (tx db)) 34)) := cell_box X2.out hb3
    have Y3 : Hid (w3.heap[w2.heap.size]? = some (.cells (ec (tx dp) dk dm (tx db)) 34)) := cell_box Y2.out hb3
    have V3 : Hid (Rd w3 v3 NM) := hr3.rd
    clear hb3 hr3 K3 B2a X2 Y2
    go_wp2_with fail
    refine (K4.out _ B3.out).mono ?_
    rintro e w4 ⟨v4, rfl, hr4, hb4⟩
    have B4 : Hid (Below w.heap.size w w4) := B3.out.trans (hb4.mono B3.out.size)
    obtain ⟨p0, p1, p2, p3⟩ := ec_cells (cell_box X3.out hb4)
    obtain ⟨q0, q1, q2, q3⟩ := ec_cells (cell_box Y3.out hb4)
    have KT : Hid (Calls Tryd.prog 19 #[v3, v4] w4 fun e w' => e = .returned (.bool true) ∧ Below w4.heap.size w4 w') := texts_is v3 v4 NM HNM.out w4 (V3.out.keep hb4) hr4.rd
    clear hb4 hr4 K4 B3 X3 Y3 V3
    go_wp2_with fail
    refine KT.out.mono ?_
    rintro e w5 ⟨rfl, hb5⟩
    have B5 : Hid (Below w.heap.size w w5) := B4.out.trans (hb5.mono B4.out.size)
    clear hb5 KT B4 p0 p1 p2 p3 q0 q1 q2 q3
    go_wp2_with fail
    refine (K5.out _ B5.out).mono ?_
    rintro e w6 ⟨rfl, hb6⟩
    have B6 : Hid (Below w.heap.size w w6) := B5.out.trans (hb6.mono B5.out.size)
    clear hb6 K5 B5
    go_wp2_with fail
    refine (K6.out _ B6.out).mono ?_
    rintro e w7 ⟨rfl, hb7⟩
    have B7 : Hid (Below w.heap.size w w7) := B6.out.trans (hb7.mono B6.out.size)
    have hTT : (T == T) = true := by simp
    clear hb7 K6 B6
    go_wp2_with fail
    refine (KW.out _).mono ?_
    rintro e wz ⟨rfl, hbz⟩
    have Bz : Hid (Below w.heap.size w wz) := B7.out.trans (hbz.mono B7.out.size)
    clear hbz
    go_wp2_with fail
    go_ret
    exact ⟨rfl, Bz.out⟩
  · have e3 : ¬ (300 : Int) < (n : Int) := by omega
    have HB : Hid (∀ x ∈ l, x.p.length ≤ 1048576 ∧ x.b.length ≤ 1048576) := hB.1
    clear hf hB hs
    have K1 : Hid (∀ W, Below w.heap.size w W → Calls Tryd.prog 15 #[.slice a n c, .string (tx s)] W fun e w' => e = .returned (.tuple #[ag (lk l s).1, .int .i64 (lk l s).2]) ∧ Below W.heap.size W w') := fun W hb => lookup_is l n hn (by omega) a c s (by omega) W (hl.keep hb)
    have K2 : Hid (∀ W, Below w.heap.size w W → Calls Tryd.prog 16 #[.slice a n c, .string (tx s)] W fun e w' => e = .returned (.tuple #[ag (lk l s).1, .int .i64 (lk l s).2]) ∧ Below W.heap.size W w') := fun W hb => rlookup_is l n hn (by omega) a c s (by omega) W (hl.keep hb)
    have K3 : Hid (∀ W, Below w.heap.size w W → Calls Tryd.prog 17 #[.slice a n c, .string (tx s)] W fun e w' => ∃ v, e = .returned (.tuple #[v, .int .i64 (lsA l s).2]) ∧ RowsS w' W.heap.size v (lsA l s).1 ∧ Below W.heap.size W w') := fun W hb => list_is l n hn (by omega) (fun x hx => ⟨Nat.le_trans (HB.out x hx).1 (by omega), Nat.le_trans (HB.out x hx).2 (by omega)⟩) a c s (by omega) W (hl.keep hb)
    have K4 : Hid (∀ W, Below w.heap.size w W → Calls Tryd.prog 18 #[.slice a n c, .string (tx s)] W fun e w' => ∃ v, e = .returned (.tuple #[v, .int .i64 (lsA l s).2]) ∧ RowsS w' W.heap.size v (lsA l s).1 ∧ Below W.heap.size W w') := fun W hb => rlist_is l n hn (by omega) (fun x hx => Nat.le_trans (HB.out x hx).1 (by omega)) a c s (by omega) W (hl.keep hb)
    have K5 : Hid (∀ W, Below w.heap.size w W → Calls Tryd.prog 20 #[.slice a n c] W fun e w' => e = .returned (.bool (isTr l)) ∧ Below W.heap.size W w') := fun W hb => tree_is l n hn (by omega) (fun x hx => ⟨Nat.le_trans (HB.out x hx).1 (by omega), Nat.le_trans (HB.out x hx).2 (by omega)⟩) a c W (hl.keep hb)
    have K6 : Hid (∀ W, Below w.heap.size w W → Calls Tryd.prog 21 #[.slice a n c] W fun e w' => e = .returned (.bool (isTr l)) ∧ Below W.heap.size W w') := fun W hb => rtree_is l n hn (by omega) HB.out a c hnc W (hl.keep hb)
    have HNM : Hid ((lsA l s).1.length ≤ 1000000000) := asks_len l s (by rw [hn]; omega)
    generalize (lsA l s).1 = NM at *
    generalize (lsA l s).2 = F at *
    generalize isTr l = T at *
    obtain ⟨⟨dp, dk, dm, db⟩, hD⟩ : ∃ D, D = (lk l s).1 := ⟨_, rfl⟩
    rw [← hD] at K1 K2
    generalize (lk l s).2 = E at *
    simp only [ag, En.p, En.k, En.m, En.b] at K1 K2
    clear hD
    have heq : ∀ W : World, (binOp .eql 34 (.agg #[.string (tx dp), .int .i64 dk, .int .i64 dm, .string (tx db)]) (.agg #[.string (tx dp), .int .i64 dk, .int .i64 dm, .string (tx db)])).run Tryd.prog W = .ok (.bool true) W := fun W => by
      have := eql_entry (dp, dk, dm, db) (dp, dk, dm, db) W
      rw [decide_eq_true rfl] at this
      exact this
    clear hl hn HB
    go_enter Tryd.func4, Tryd.ntmps4
    go_wp2_with fail
    refine (K1.out w (Below.refl _ _)).mono ?_
    rintro e w1 ⟨rfl, hb1⟩
    have B1 : Hid (Below w.heap.size w w1) := hb1
    have B1a : Hid (Below w.heap.size w (w1.alloc (.cells #[.string (tx dp), .int .i64 dk, .int .i64 dm, .string (tx db)] 34))) := hb1.alloc hb1.size _
    have X1 : Hid ((w1.alloc (.cells #[.string (tx dp), .int .i64 dk, .int .i64 dm, .string (tx db)] 34)).heap[w1.heap.size]? = some (.cells (ec (tx dp) dk dm (tx db)) 34)) := heap_alloc_new w1 _
    clear hb1 K1 B1
    go_wp2_with fail
    refine (K2.out _ B1a.out).mono ?_
    rintro e w2 ⟨rfl, hb2⟩
    have B2 : Hid (Below w.heap.size w w2) := B1a.out.trans (hb2.mono B1a.out.size)
    have x2 : w2.heap[w1.heap.size]? = some (.cells (ec (tx dp) dk dm (tx db)) 34) := cell_box X1.out hb2
    have b2a : Below w2.heap.size w2 (w2.alloc (.cells #[.string (tx dp), .int .i64 dk, .int .i64 dm, .string (tx db)] 34)) := (Below.refl _ _).alloc (Nat.le_refl _) _
    have B2a : Hid (Below w.heap.size w (w2.alloc (.cells #[.string (tx dp), .int .i64 dk, .int .i64 dm, .string (tx db)] 34))) := B2.out.trans (b2a.mono B2.out.size)
    have X2 : Hid ((w2.alloc (.cells #[.string (tx dp), .int .i64 dk, .int .i64 dm, .string (tx db)] 34)).heap[w1.heap.size]? = some (.cells (ec (tx dp) dk dm (tx db)) 34)) := cell_box x2 b2a
    have Y2 : Hid ((w2.alloc (.cells #[.string (tx dp), .int .i64 dk, .int .i64 dm, .string (tx db)] 34)).heap[w2.heap.size]? = some (.cells (ec (tx dp) dk dm (tx db)) 34)) := heap_alloc_new w2 _
    clear hb2 b2a x2 K2 B2 B1a X1
    go_wp2_with fail
    refine (K3.out _ B2a.out).mono ?_
    rintro e w3 ⟨v3, rfl, hr3, hb3⟩
    have B3 : Hid (Below w.heap.size w w3) := B2a.out.trans (hb3.mono B2a.out.size)
    have X3 : Hid (w3.heap[w1.heap.size]? = some (.cells (ec (tx dp) dk dm (tx db)) 34)) := cell_box X2.out hb3
    have Y3 : Hid (w3.heap[w2.heap.size]? = some (.cells (ec (tx dp) dk dm (tx db)) 34)) := cell_box Y2.out hb3
    have V3 : Hid (Rd w3 v3 NM) := hr3.rd
    clear hb3 hr3 K3 B2a X2 Y2
    go_wp2_with fail
    refine (K4.out _ B3.out).mono ?_
    rintro e w4 ⟨v4, rfl, hr4, hb4⟩
    have B4 : Hid (Below w.heap.size w w4) := B3.out.trans (hb4.mono B3.out.size)
    obtain ⟨p0, p1, p2, p3⟩ := ec_cells (cell_box X3.out hb4)
    obtain ⟨q0, q1, q2, q3⟩ := ec_cells (cell_box Y3.out hb4)
    have KT : Hid (Calls Tryd.prog 19 #[v3, v4] w4 fun e w' => e = .returned (.bool true) ∧ Below w4.heap.size w4 w') := texts_is v3 v4 NM HNM.out w4 (V3.out.keep hb4) hr4.rd
    clear hb4 hr4 K4 B3 X3 Y3 V3
    go_wp2_with fail
    refine KT.out.mono ?_
    rintro e w5 ⟨rfl, hb5⟩
    have B5 : Hid (Below w.heap.size w w5) := B4.out.trans (hb5.mono B4.out.size)
    clear hb5 KT B4 p0 p1 p2 p3 q0 q1 q2 q3
    go_wp2_with fail
    refine (K5.out _ B5.out).mono ?_
    rintro e w6 ⟨rfl, hb6⟩
    have B6 : Hid (Below w.heap.size w w6) := B5.out.trans (hb6.mono B5.out.size)
    clear hb6 K5 B5
    go_wp2_with fail
    refine (K6.out _ B6.out).mono ?_
    rintro e w7 ⟨rfl, hb7⟩
    have B7 : Hid (Below w.heap.size w w7) := B6.out.trans (hb7.mono B6.out.size)
    have hTT : (T == T) = true := by simp
    clear hb7 K6 B6
    go_wp2_with fail
    refine (KW.out _).mono ?_
    rintro e wz ⟨rfl, hbz⟩
    have Bz : Hid (Below w.heap.size w wz) := B7.out.trans (hbz.mono B7.out.size)
    clear hbz
    go_wp2_with fail
    go_ret
    exact ⟨rfl, Bz.out⟩
end Go.Proofs.YtbefmcagpmgkiaaDoor
namespace Go.Proofs.YtbefmcagpmgkiaaDoor
open Go.ChangeShapes Go.WideShapes Go.ChangeAt Go.RowKit Go.Deep
set_option linter.unusedVariables false
/-- an entry as data -/
def ed {H : Type} (q : En) : DataW H := .agg [.lit (.string q.p), .lit (.int .i64 q.k), .lit (.int .i64 q.m), .lit (.string q.b)]
theorem cellsE : Tryd.prog.cellsOf 34 = 4 := by kernel_rfl
theorem cellsT : Tryd.prog.cellsOf 9 = 1 := by kernel_rfl
theorem cellsI : Tryd.prog.cellsOf 3 = 1 := by kernel_rfl
theorem bytesE : Tryd.prog.bytesOf 34 = 48 := by kernel_rfl
theorem list4 {α : Type} {l : List α} (h : l.length = 4) : ∃ v0 v1 v2 v3, l = [v0, v1, v2, v3] := by
  match l, h with
  | [v0, v1, v2, v3], _ => exact ⟨v0, v1, v2, v3, rfl⟩
theorem open_entry {H : Type} {enc : TypeId × Value → H} {W : World} {fuel : Nat} {cs : List Value} {x : DataW H × List MemPlace} (h : DataW.trod enc Tryd.prog W 0 (fun _ => true) true fuel 34 cs = some x) :
    ∃ q : En, cs = [.string (tx q.p), .int .i64 q.k, .int .i64 q.m, .string (tx q.b)] ∧ x.1 = ed q := by
  obtain ⟨y0, y1, y2, y3, n, hxy, hlen, g0, g1, g2, g3⟩ := Go.Joins.trod_struct4 Tryd.underlying34 h
  rw [cellsE] at hlen
  obtain ⟨v0, v1, v2, v3, rfl⟩ := list4 hlen
  simp [cellsT, cellsI] at g0 g1 g2 g3
  obtain ⟨s0, e0, rfl, _⟩ := DataW.trod_string Tryd.underlying9 g0
  obtain ⟨n1, e1, rfl, _⟩ := DataW.trod_int Tryd.underlying3 g1
  obtain ⟨n2, e2, rfl, _⟩ := DataW.trod_int Tryd.underlying3 g2
  obtain ⟨s3, e3, rfl, _⟩ := DataW.trod_string Tryd.underlying9 g3
  simp only [List.cons.injEq, and_true] at e0 e1 e2 e3
  subst e0 e1 e2 e3 hxy
  refine ⟨(s0.data.toList, n1, n2, s3.data.toList), ?_, ?_⟩
  · simp only [En.p, En.k, En.m, En.b, ← tx_mk]
  · simp [ed, En.p, En.k, En.m, En.b]
theorem open_entries {H : Type} {enc : TypeId × Value → H} {W : World} {fuel : Nat} {a : Option Addr} {len cap : Nat} {x : DataW H × List MemPlace} (h : DataW.trod enc Tryd.prog W 0 (fun _ => true) true fuel 26 [.slice a len cap] = some x) :
    ∃ l : List En, l.length = len ∧ len ≤ cap ∧ (a = none → cap = 0) ∧ cap ≤ 9223372036854775807 ∧ InE W a l ∧ (l = [] ∨ ∃ sp, x.1 = .slice (l.map ed) sp) := by
  rcases open_slice Tryd.underlying26 h with ⟨hcs, hx⟩ | ⟨a', len', cap', m, n, D, Pl, hcs, _, hl, hm, hmm, hx, hel⟩
  · simp only [List.cons.injEq, and_true, Value.slice.injEq] at hcs
    obtain ⟨rfl, rfl, rfl⟩ := hcs
    exact ⟨[], rfl, Nat.le_refl _, fun _ => rfl, by omega, .inl rfl, .inl rfl⟩
  · simp only [List.cons.injEq, and_true, Value.slice.injEq] at hcs
    obtain ⟨rfl, rfl, rfl⟩ := hcs
    have hmc : m = cap := by simpa using hmm
    subst hmc hx
    have each : ∀ i, i < len → ∃ q : En, ∃ cs', W.cells? 0 (a'.add (i * 4)) 4 = some cs' ∧ cs' = [.string (tx q.p), .int .i64 q.k, .int .i64 q.m, .string (tx q.b)] ∧ D i = ed q := by
      intro i hi
      obtain ⟨cs', h1, h2⟩ := hel i (by omega)
      rw [cellsE] at h1
      obtain ⟨q, hq, hd⟩ := open_entry h2
      exact ⟨q, cs', h1, hq, hd⟩
    obtain ⟨q, hq⟩ := choose_lt each
    simp only [maxLen] at hm
    refine ⟨(List.range len).map q, by simp, hl, (fun h => by simp at h), by omega, ?_, ?_⟩
    · by_cases h0 : len = 0
      · left; subst h0; rfl
      · right
        have hsp : ∀ i, i < len → W.cell? (a'.add (i * 4)) = some (.string (tx (q i).p)) ∧ W.cell? (a'.add (i * 4 + 1)) = some (.int .i64 (q i).k) ∧ W.cell? (a'.add (i * 4 + 2)) = some (.int .i64 (q i).m) ∧ W.cell? (a'.add (i * 4 + 3)) = some (.string (tx (q i).b)) := by
          intro i hi
          obtain ⟨cs', h1, h2, _⟩ := hq i hi
          obtain ⟨_, hlen, hcell⟩ := World.cells?_some h1
          subst h2
          have e0 := hcell 0 (by omega)
          have e1 := hcell 1 (by omega)
          have e2 := hcell 2 (by omega)
          have e3 := hcell 3 (by omega)
          rw [add_add] at e0 e1 e2 e3
          exact ⟨by simpa using e0, by simpa using e1, by simpa using e2, by simpa using e3⟩
        obtain ⟨b, off, spot⟩ := a'
        have hc := (hsp 0 (by omega)).1
        have hspot : spot = none := by simpa [Addr.add] using World.cell?_spot hc
        subst hspot
        rw [add_plain] at hc
        refine ⟨b, off, rfl, World.block_lt_of_cell? _ _ hc, fun i x hx => ?_⟩
        have hi : i < len := by
          have := (List.getElem?_eq_some_iff.1 hx).1
          simpa using this
        have hxq : x = q i := by simpa [hi] using hx.symm
        subst hxq
        have := hsp i hi
        rw [add_plain, add_plain, add_plain, add_plain] at this
        exact this
    · right
      refine ⟨(List.range (m - len)).map fun j => D (len + j), ?_⟩
      show DataW.slice _ _ = DataW.slice _ _
      congr 1
      apply List.ext_getElem
      · simp
      · intro i h1 h2
        have hi : i < len := by simpa using h1
        obtain ⟨_, _, _, h3⟩ := hq i hi
        simp [h3]
theorem weightsAll_in {H : Type} {P : Program} {e : TypeId} : ∀ {l : List (DataW H)} {d : DataW H}, d ∈ l → ∀ n ∈ d.weights P e, n ∈ DataW.weightsAll P e l
  | d' :: r, d, hd, n, hn => by
    simp only [DataW.weightsAll, List.mem_append]
    rcases List.mem_cons.1 hd with rfl | h
    · exact Or.inl hn
    · exact Or.inr (weightsAll_in h n hn)
theorem weights_ed {H : Type} (q : En) : q.p.length ∈ (ed (H := H) q).weights Tryd.prog 34 ∧ q.b.length ∈ (ed (H := H) q).weights Tryd.prog 34 := by
  have hu := Tryd.underlying34
  constructor <;> simp [ed, DataW.weights, DataW.weightsEach, hu]
theorem fit_of {H : Type} {ts : List TypeId} {ds : List (DataW H)} (h : (DataW.weightsEach Tryd.prog ts ds).all (· ≤ reachBytes) = true) {j : Nat} {l : List En} {sp : List (DataW H)} {d : DataW H}
    (ht : ts[j]? = some 26) (hd : ds[j]? = some d) (hl : l = [] ∨ ∃ sp, d = .slice (l.map ed) sp) : Fit l ∧ l.length ≤ 140737488355328 := by
  have hr := reachBytes_lt
  rcases hl with rfl | ⟨sp, rfl⟩
  · exact ⟨fun x hx => by simp at hx, by simp⟩
  · have hu := Tryd.underlying26
    have key : ∀ x ∈ l, ∀ n ∈ (ed (H := H) x).weights Tryd.prog 34, n ≤ reachBytes := by
      intro x hx n hn
      refine of_decide_eq_true (List.all_eq_true.1 h _ (DataW.weights_mem_each ht hd _ ?_))
      simp only [DataW.weights, hu, List.mem_cons, List.mem_append]
      exact Or.inr (Or.inl (weightsAll_in (List.mem_map.2 ⟨x, hx, rfl⟩) _ hn))
    refine ⟨fun x hx => ?_, ?_⟩
    · obtain ⟨w1, w2⟩ := weights_ed (H := H) x
      have h1 := key x hx _ w1
      have h2 := key x hx _ w2
      omega
    · have := sized_slice h ht hd hu
      rw [bytesE, List.length_map] at this
      omega
theorem bulk_in {H : Type} : ∀ {l : List (DataW H)} {d : DataW H}, d ∈ l → Rows.uptoBulk d ≤ Rows.uptoBulkAll l
  | d' :: r, d, hd => by
    simp only [Rows.uptoBulkAll]
    rcases List.mem_cons.1 hd with rfl | h
    · omega
    · have := bulk_in h; omega
theorem bulk_len {H : Type} : ∀ (l : List En), l.length ≤ Rows.uptoBulkAll (l.map (ed (H := H)))
  | [] => by simp
  | x :: r => by
    have := bulk_len (H := H) r
    simp only [List.map_cons, Rows.uptoBulkAll, List.length_cons, ed, Rows.uptoBulk] at this ⊢
    omega
/-- each text, and their number, is within the bulk -/
theorem bulk_of {H : Type} {l : List En} {d : DataW H} (hl : l = [] ∨ ∃ sp, d = .slice (l.map ed) sp) (B : Nat) (hB : Rows.uptoBulk d ≤ B) : (∀ x ∈ l, x.p.length ≤ B ∧ x.b.length ≤ B) ∧ l.length ≤ B := by
  rcases hl with rfl | ⟨sp, rfl⟩
  · exact ⟨fun x hx => by simp at hx, by simp⟩
  · simp only [Rows.uptoBulk] at hB
    refine ⟨fun x hx => ?_, ?_⟩
    · have := bulk_in (List.mem_map.2 ⟨x, hx, rfl⟩ : ed (H := H) x ∈ l.map ed)
      simp only [ed, Rows.uptoBulk, Rows.uptoBulkAll] at this
      omega
    · have := bulk_len (H := H) l
      omega
end Go.Proofs.YtbefmcagpmgkiaaDoor
