/- overlay's maySee, isOpenAbove, sceneOf, Tree. overlay's sceneOf, Tree. Entries held against each other; the document's Same, Size; the law's own. -/
import Derived.Test.YtbefmcagpmgkiaaDoorMgDi11
import Derived.Test.YtbefmcagpmgkiaaDoorMgDi7
import Derived.Laws.StructEq
namespace Go.Proofs.YtbefmcagpmgkiaaDoor
open Go.ChangeShapes Go.WideShapes Go.ChangeAt Go.RowKit Go.Deep Go.Maps
set_option linter.unusedVariables false
/-- may a tree have an entry -/
def mS (x : En) : Bool := (decide (x.k = 1) || decide (x.k = 2)) && decide (fo x = 0)
theorem chk_one (x : En) : ((chk [x]).2 = 0) ↔ fo x = 0 := by
  rw [chk_iff]
  simp
theorem mS_yes {x : En} {r : Int} (hk : x.k = 1 ∨ x.k = 2) (h : r = 0 ↔ fo x = 0) : mS x = (r == 0) := by
  have e1 : (decide (x.k = 1) || decide (x.k = 2)) = true := by rcases hk with e | e <;> rw [e] <;> rfl
  unfold mS
  rw [e1, Bool.true_and]
  apply Bool.eq_iff_iff.2
  rw [decide_eq_true_iff, beq_iff_eq]
  exact h.symm
theorem mS_no {x : En} (hk : ¬ (x.k = 1 ∨ x.k = 2)) : mS x = false := by
  have e1 : (decide (x.k = 1) || decide (x.k = 2)) = false := by
    rw [Bool.or_eq_false_iff, decide_eq_false_iff_not, decide_eq_false_iff_not]
    exact ⟨fun e => hk (.inl e), fun e => hk (.inr e)⟩
  unfold mS
  rw [e1, Bool.false_and]
set_option maxRecDepth 100000 in
set_option maxHeartbeats 4000000 in
theorem maySee_is (x : En) (hx : x.p.length ≤ 140737488355328 ∧ x.b.length ≤ 140737488355328) (w : World) :
    Calls Tryd.prog 58 #[ag x] w fun e w' => e = .returned (.bool (mS x)) ∧ Below w.heap.size w w' := by
  have KC : Hid (∀ (w : World) (g : Nat), InE w (some ⟨g, 0, none⟩) [x] → Calls Tryd.prog 26 #[.slice (some ⟨g, 0, none⟩) 1 1] w fun e w' => e = .returned (.tuple #[.int .i64 ((chk [x]).1 : Nat), .int .i64 (chk [x]).2]) ∧ Below w.heap.size w w') := fun w g h => check_is [x] 1 rfl (by omega) (fun y hy => by simp at hy; subst hy; exact hx) _ 1 w h
  have HC : Hid ((chk [x]).2 = 0 ↔ fo x = 0) := chk_one x
  obtain ⟨p, k, m, B⟩ := x
  obtain ⟨S, hS⟩ : ∃ S, S = mS (p, k, m, B) := ⟨_, rfl⟩
  rw [← hS]
  have HS : Hid (S = mS (p, k, m, B)) := hS
  generalize hr : chk [(p, k, m, B)] = r at *
  clear hS hr hx
  unfold ag
  simp only [En.p, En.k, En.m, En.b]
  obtain ⟨w1, hw1⟩ : ∃ w1, w1 = (w.alloc (.cells #[.string (tx p), .int .i64 k, .int .i64 m, .string (tx B)] 34)).alloc (.cells #[.string (tx p), .int .i64 k, .int .i64 m, .string (tx B)] 34) := ⟨_, rfl⟩
  have B1 : Hid (Below w.heap.size w w1) := by rw [hw1]; exact below2 _ _ _
  have I1 : Hid (InE w1 (some ⟨w.heap.size + 1, 0, none⟩) [(p, k, m, B)]) := by
    refine .inr ⟨w.heap.size + 1, 0, rfl, by rw [hw1]; simp, fun i x hx => ?_⟩
    have hi : i = 0 := by
      have := (List.getElem?_eq_some_iff.1 hx).1
      simpa using this
    subst hi
    simp at hx
    subst hx
    exact ec_cells (w := w1) (g := w.heap.size + 1) (t := 34) (by rw [hw1]; exact heap2 _ _ _)
  have HW1 : Hid (w1 = (w.alloc (.cells #[.string (tx p), .int .i64 k, .int .i64 m, .string (tx B)] 34)).alloc (.cells #[.string (tx p), .int .i64 k, .int .i64 m, .string (tx B)] 34)) := hw1
  clear hw1
  by_cases hk : k = 1 ∨ k = 2
  · have HS2 : Hid (S = (r.2 == 0)) := by show _ = _; rw [HS.out]; exact mS_yes hk HC.out
    rw [HS2.out]
    clear HS HS2 HC
    rcases hk with rfl | rfl
    · go_enter Tryd.func58, Tryd.ntmps58
      go_wp2_with fail
      rw [show World.alloc _ _ = w1 from HW1.out.symm]
      refine (KC.out w1 _ I1.out).mono ?_
      rintro e w2 ⟨rfl, hb2⟩
      have B2 : Hid (Below w.heap.size w w2) := B1.out.trans (hb2.mono B1.out.size)
      clear hb2
      go_wp2_with fail
      go_ret
      exact ⟨rfl, B2.out⟩
    · go_enter Tryd.func58, Tryd.ntmps58
      go_wp2_with fail
      rw [show World.alloc _ _ = w1 from HW1.out.symm]
      refine (KC.out w1 _ I1.out).mono ?_
      rintro e w2 ⟨rfl, hb2⟩
      have B2 : Hid (Below w.heap.size w w2) := B1.out.trans (hb2.mono B1.out.size)
      clear hb2
      go_wp2_with fail
      go_ret
      exact ⟨rfl, B2.out⟩
  · have HS2 : Hid (S = false) := by show _ = _; rw [HS.out]; exact mS_no hk
    rw [HS2.out]
    have k1 : (k == 1) = false := by simpa using fun e => hk (.inl e)
    have k2 : (k == 2) = false := by simpa using fun e => hk (.inr e)
    have k1n : (k != 1) = true := by simpa using fun e => hk (.inl e)
    have k2n : (k != 2) = true := by simpa using fun e => hk (.inr e)
    clear HS HS2 HC hk KC
    go_enter Tryd.func58, Tryd.ntmps58
    go_wp2_with fail
    go_ret
    exact ⟨rfl, (Below.refl _ _).alloc (Nat.le_refl _) _⟩
/-- is what is above a path the root, or a directory -/
def upP (q : Tx) : Tx := jn (prt q).dropLast
def oA (T : Tx → Option En) (q : Tx) : Bool := decide (upP q = []) || decide (kd T (upP q) = 2)
theorem upP_len (q : Tx) : (upP q).length ≤ 200 := by
  have hf := prt_facts q
  unfold upP
  exact jn_le8 (fun p hp => hf.1 p (List.dropLast_subset _ hp)) (by rw [List.length_dropLast]; omega)
set_option maxRecDepth 100000 in
set_option maxHeartbeats 4000000 in
theorem isOpenAbove_is (w : World) (b n : Nat) (T : Tx → Option En) (q : Tx) (hq : q.length ≤ 281474976710656) (hs : Sc w b n T) :
    Calls Tryd.prog 40 #[.map (some b), .string (tx q)] w fun e w' => e = .returned (.bool (oA T q)) ∧ Below w.heap.size w w' := by
  have KU : Hid (Calls Tryd.prog 24 #[.string (tx q)] w fun e w' => e = .returned (.tuple #[.string (tx (upP q)), .bool (!(prt q).isEmpty)]) ∧ Below w.heap.size w w') := up_is q hq w
  have HS : Hid (Sc w b n T) := hs
  have hul := upP_len q
  obtain ⟨S, hS⟩ : ∃ S, S = oA T q := ⟨_, rfl⟩
  rw [← hS]
  have HO : Hid (S = (decide (upP q = []) || decide (kd T (upP q) = 2))) := hS
  have hfk := field_kind
  clear hs hS
  generalize upP q = u at *
  generalize (!(prt q).isEmpty) = bb at *
  go_enter Tryd.func40, Tryd.ntmps40
  go_wp2_with fail
  refine KU.out.mono ?_
  rintro e w1 ⟨rfl, hb1⟩
  have B1 : Hid (Below w.heap.size w w1) := hb1
  have hlook := (HS.out.keep hb1).look u (by omega)
  clear hb1 KU
  by_cases hu : u = []
  · subst hu
    have e0 : (tx []).toList = [] := tx_toList []
    have HO2 : Hid (S = true) := by show _ = _; rw [HO.out]; rfl
    go_wp2_with fail
    go_ret
    refine ⟨?_, B1.out⟩
    rw [HO2.out]
    rfl
  · have hte := tx_toList u
    have hue : u.isEmpty = false := by simpa using hu
    have HO2 : Hid (S = (kd T u == 2)) := by
      show _ = _
      rw [HO.out, decide_eq_false hu, Bool.false_or]
      apply Bool.eq_iff_iff.2
      rw [decide_eq_true_iff, beq_iff_eq]
    unfold kd at HO2
    clear HO
    generalize (T u).getD noE = z at *
    obtain ⟨zp, zk, zm, zb⟩ := z
    have HO3 : Hid (S = (zk == 2)) := HO2
    simp only [ag, En.p, En.k, En.m, En.b] at hlook
    clear HO2
    go_wp2_with fail
    go_ret
    refine ⟨?_, B1.out⟩
    rw [HO3.out]
    try rfl
end Go.Proofs.YtbefmcagpmgkiaaDoor
namespace Go.Proofs.YtbefmcagpmgkiaaDoor
open Go.ChangeShapes Go.WideShapes Go.ChangeAt Go.RowKit Go.Deep Go.Maps
set_option linter.unusedVariables false
/-- the entries of a list, by their paths, the later over the earlier -/
def setE (T : Tx → Option En) (x : En) : Tx → Option En := fun q => if q = x.p then some x else T q
def scT (l : List En) : Tx → Option En := l.foldl setE (fun _ => none)
theorem scT_snoc (l : List En) (x : En) : scT (l ++ [x]) = setE (scT l) x := by simp [scT]
theorem scT_take (l : List En) (i : Nat) (x : En) (h : l[i]? = some x) : scT (l.take (i + 1)) = setE (scT (l.take i)) x := by
  rw [List.take_add_one, h]
  exact scT_snoc _ _
/-- is the rest a tree's, behind what was met -/
def trF : (Tx → Option En) → Tx → List En → Bool
  | _, _, [] => true
  | T, a, x :: r => mS x && les a x.p && oA T x.p && trF (setE T x) x.p r
def isTr (l : List En) : Bool := trF (fun _ => none) [] l
set_option maxRecDepth 100000 in
set_option maxHeartbeats 4000000 in
theorem sceneOf_is (l : List En) (n : Nat) (hn : l.length = n) (hn62 : n ≤ 1000000000) (hf : Fit l) (a : Option Addr) (c : Nat) (w : World) (hl : InE w a l) :
    Calls Tryd.prog 38 #[.slice a n c] w fun e w' => Below w.heap.size w w' ∧ ((isTr l = true ∧ ∃ b, e = .returned (.tuple #[.map (some b), .bool true]) ∧ Sc w' b n (scT l) ∧ w.heap.size ≤ b) ∨ (isTr l = false ∧ e = .returned (.tuple #[.map none, .bool false]))) := by
  have HF : Hid (Fit l) := hf
  have HL : Hid (InE w a l) := hl
  have HN : Hid (l.length = n) := hn
  have HR : Hid (trF (fun _ => none) [] l = isTr l) := rfl
  generalize isTr l = R at *
  have hmk : (Instr.makeMap 57 none).run Tryd.prog w = .ok (.map (some w.heap.size)) (w.alloc (.map #[] 0)) := rfl
  clear hf hl hn
  go_enter Tryd.func38, Tryd.ntmps38
  go_wp2_with fail
  go_loopg [11, 5] n (fun g i v wr => ∃ (j : Nat) (u : Tx), j ≤ n ∧ g = n - j ∧ i = .int .i64 j ∧ v = .string (tx u) ∧ u.length ≤ 140737488355328 ∧ Hid (Sc wr w.heap.size j (scT (l.take j))) ∧ Hid (trF (scT (l.take j)) u (l.drop j) = R) ∧ Hid (Below w.heap.size w wr))
  case atStart => exact ⟨0, [], Nat.zero_le _, rfl, rfl, rfl, by simp, Sc.empty w, HR, (Below.refl _ _).alloc (Nat.le_refl _) _⟩
  case round =>
    obtain ⟨j, u, hj, rfl, rfl, rfl, hu, SC, TR, BW⟩ := hrel
    have hszw := BW.out.size
    have hbl : w.heap.size < wr.heap.size := SC.out.lt
    by_cases hlt : j < n
    · have j1 : (j : Int) < (n : Int) := by omega
      obtain ⟨x, hx⟩ : ∃ x, l[j]? = some x := ⟨l[j]'(by rw [HN.out]; exact hlt), by simp [HN.out, hlt]⟩
      obtain ⟨b, off, rfl, hbw, hr⟩ : ∃ b off, a = some ⟨b, off, none⟩ ∧ b < w.heap.size ∧ Ec w b (off + j * 4) x := by
        rcases HL.out with e | ⟨b, off, h1, h2, h3⟩
        · have := HN.out; rw [e] at this; simp at this; omega
        · exact ⟨b, off, h1, h2, h3 j x hx⟩
      have hfx := HF.out x (List.mem_of_getElem? hx)
      have HFX : Hid (x.p.length ≤ 140737488355328 ∧ x.b.length ≤ 140737488355328) := hfx
      have hxp := hfx.1
      have HD : l.drop j = x :: l.drop (j + 1) := by
        have hj2 : j < l.length := by rw [HN.out]; exact hlt
        rw [List.drop_eq_getElem_cons hj2]
        congr 1
        have := List.getElem?_eq_getElem hj2
        rw [this] at hx
        exact Option.some.inj hx
      have MX : Hid (scT (l.take (j + 1)) = setE (scT (l.take j)) x) := scT_take l j x hx
      have TR2 : Hid ((mS x && les u x.p && oA (scT (l.take j)) x.p && trF (setE (scT (l.take j)) x) x.p (l.drop (j + 1))) = R) := by have := TR.out; rw [HD] at this; exact this
      obtain ⟨c0, c1, c2, c3⟩ := hr.below BW.out hbw
      generalize scT (l.take j) = T1 at *
      obtain ⟨w3, hw3⟩ : ∃ w3, w3 = wr.alloc (.cells #[.string (tx x.p), .int .i64 x.k, .int .i64 x.m, .string (tx x.b)] 34) := ⟨_, rfl⟩
      have B3 : Below wr.heap.size wr w3 := by rw [hw3]; exact (Below.refl _ _).alloc (Nat.le_refl _) _
      have X3 : Hid (w3.heap[wr.heap.size]? = some (.cells (ec (tx x.p) x.k x.m (tx x.b)) 34)) := by show _ = _; rw [hw3]; exact heap_alloc_new wr _
      have W3 : Hid (w3 = wr.alloc (.cells #[.string (tx x.p), .int .i64 x.k, .int .i64 x.m, .string (tx x.b)] 34)) := hw3
      have KM : Hid (Calls Tryd.prog 58 #[.agg #[.string (tx x.p), .int .i64 x.k, .int .i64 x.m, .string (tx x.b)]] w3 fun e w' => e = .returned (.bool (mS x)) ∧ Below w3.heap.size w3 w') := maySee_is x hfx w3
      have BW3 : Hid (Below w.heap.size w w3) := BW.out.trans (B3.mono hszw)
      have SC3 : Hid (Sc w3 w.heap.size j T1) := SC.out.keep B3
      have hlt3 : wr.heap.size < w3.heap.size := (Array.getElem?_eq_some_iff.1 X3.out).1
      clear hx hr hw3 B3 SC BW TR HD hfx
      go_wp2_with fail
      rw [show wr.alloc _ = w3 from W3.out.symm]
      refine KM.out.mono ?_
      rintro e w4 ⟨rfl, hb4⟩
      have BW4 : Hid (Below w.heap.size w w4) := BW3.out.trans (hb4.mono BW3.out.size)
      have SC4 : Hid (Sc w4 w.heap.size j T1) := SC3.out.keep hb4
      have x4 : w4.heap[wr.heap.size]? = some (.cells (ec (tx x.p) x.k x.m (tx x.b)) 34) := (hb4.block _ hlt3).trans X3.out
      have X4 : Hid (w4.heap[wr.heap.size]? = some (.cells (ec (tx x.p) x.k x.m (tx x.b)) 34)) := x4
      have hlt4 : wr.heap.size < w4.heap.size := (Array.getElem?_eq_some_iff.1 x4).1
      clear c0 c1 c2 c3
      obtain ⟨c0, c1, c2, c3⟩ := ec_cells x4
      clear hb4 KM W3 SC3 BW3 X3 x4 hlt3
      cases hm : mS x with
      | false =>
        have HRF : Hid (R = false) := by show _ = _; rw [← TR2.out, hm]; rfl
        go_wp2_with fail
        go_ret2
        exact ⟨BW4.out, .inr ⟨HRF.out, rfl⟩⟩
      | true =>
        have KL : Hid (Calls Tryd.prog 59 #[.string (tx u), .string (tx x.p)] w4 fun e w' => e = .returned (.bool (les u x.p)) ∧ Below w4.heap.size w4 w') := less_is u x.p (by omega) (by omega) w4
        go_wp2_with fail
        refine KL.out.mono ?_
        rintro e w5 ⟨rfl, hb5⟩
        have BW5 : Hid (Below w.heap.size w w5) := BW4.out.trans (hb5.mono BW4.out.size)
        have SC5 : Hid (Sc w5 w.heap.size j T1) := SC4.out.keep hb5
        have x5 : w5.heap[wr.heap.size]? = some (.cells (ec (tx x.p) x.k x.m (tx x.b)) 34) := (hb5.block _ hlt4).trans X4.out
        have X5 : Hid (w5.heap[wr.heap.size]? = some (.cells (ec (tx x.p) x.k x.m (tx x.b)) 34)) := x5
        have hlt5 : wr.heap.size < w5.heap.size := (Array.getElem?_eq_some_iff.1 x5).1
        clear c0 c1 c2 c3
        obtain ⟨c0, c1, c2, c3⟩ := ec_cells x5
        clear hb5 KL SC4 BW4 X4 x5 hlt4
        cases hle : les u x.p with
        | false =>
          have HRF : Hid (R = false) := by show _ = _; rw [← TR2.out, hle]; simp
          go_wp2_with fail
          go_ret2
          exact ⟨BW5.out, .inr ⟨HRF.out, rfl⟩⟩
        | true =>
          have KA : Hid (Calls Tryd.prog 40 #[.map (some w.heap.size), .string (tx x.p)] w5 fun e w' => e = .returned (.bool (oA T1 x.p)) ∧ Below w5.heap.size w5 w') := isOpenAbove_is w5 w.heap.size j T1 x.p (by omega) SC5.out
          go_wp2_with fail
          refine KA.out.mono ?_
          rintro e w6 ⟨rfl, hb6⟩
          have BW6 : Hid (Below w.heap.size w w6) := BW5.out.trans (hb6.mono BW5.out.size)
          have SC6 : Hid (Sc w6 w.heap.size j T1) := SC5.out.keep hb6
          have x6 : w6.heap[wr.heap.size]? = some (.cells (ec (tx x.p) x.k x.m (tx x.b)) 34) := (hb6.block _ hlt5).trans X5.out
          have X6 : Hid (w6.heap[wr.heap.size]? = some (.cells (ec (tx x.p) x.k x.m (tx x.b)) 34)) := x6
          clear c0 c1 c2 c3
          obtain ⟨c0, c1, c2, c3⟩ := ec_cells x6
          clear hb6 KA SC5 BW5 X5 x6 hlt5
          cases hoa : oA T1 x.p with
          | false =>
            have HRF : Hid (R = false) := by show _ = _; rw [← TR2.out, hoa]; simp
            go_wp2_with fail
            go_ret2
            exact ⟨BW6.out, .inr ⟨HRF.out, rfl⟩⟩
          | true =>
            have TR3 : Hid (trF (setE T1 x) x.p (l.drop (j + 1)) = R) := by show _ = _; rw [← TR2.out, hm, hle, hoa]; rfl
            go_wp2_with (first | (at_mapUpdate; refine wpList_put_sc rfl (.tmp 32) (.tmp 34) (.tmp 35) rfl w.heap.size j T1 rfl SC6.out (by omega) x.p hxp x rfl rfl ?_; intro w7 hs7 hg7; have S7 : Hid (Sc w7 w.heap.size (j + 1) (setE T1 x)) := hs7; have G7 : Hid (w6.grownBy w7 (some w.heap.size)) := hg7; have x7 : w7.heap[wr.heap.size]? = some (.cells (ec (tx x.p) x.k x.m (tx x.b)) 34) := (hg7.block wr.heap.size (Array.getElem?_eq_some_iff.1 X6.out).1 (fun e => by have e2 : wr.heap.size = w.heap.size := Option.some.inj e; omega)).trans X6.out; obtain ⟨d0, d1, d2, d3⟩ := ec_cells x7; clear hs7 hg7 x7))
            go_roundg (n - (j + 1))
            case measure => omega
            case rel => exact ⟨j + 1, x.p, by omega, rfl, by go_num, rfl, hxp, by rw [MX.out]; exact S7, by rw [MX.out]; exact TR3, BW6.out.grown G7.out BW6.out.size (fun k hk => by cases hk; exact Nat.le_refl _)⟩
    · have ej : j = n := by omega
      subst ej
      have j1 : ¬ (j : Int) < (j : Int) := by omega
      have HT : Hid (l.take j = l) := by show _ = _; rw [← HN.out, List.take_length]
      have HRT : Hid (R = true) := by show _ = _; rw [← TR.out, ← HN.out, List.drop_length]; rfl
      have SC3 : Hid (Sc wr w.heap.size j (scT l)) := by have := SC.out; rw [HT.out] at this; exact this
      go_wp2_with fail
      go_ret2
      exact ⟨BW.out, .inl ⟨HRT.out, _, rfl, SC3.out, Nat.le_refl _⟩⟩
set_option maxHeartbeats 4000000 in
theorem tree_is (l : List En) (n : Nat) (hn : l.length = n) (hn62 : n ≤ 1000000000) (hf : Fit l) (a : Option Addr) (c : Nat) (w : World) (hl : InE w a l) :
    Calls Tryd.prog 20 #[.slice a n c] w fun e w' => e = .returned (.bool (isTr l)) ∧ Below w.heap.size w w' := by
  have K : Hid (Calls Tryd.prog 38 #[.slice a n c] w fun e w' => Below w.heap.size w w' ∧ ((isTr l = true ∧ ∃ b, e = .returned (.tuple #[.map (some b), .bool true]) ∧ Sc w' b n (scT l) ∧ w.heap.size ≤ b) ∨ (isTr l = false ∧ e = .returned (.tuple #[.map none, .bool false])))) := sceneOf_is l n hn hn62 hf a c w hl
  generalize isTr l = R at *
  clear hl hf
  go_enter Tryd.func20, Tryd.ntmps20
  go_wp2_with fail
  refine K.out.mono ?_
  rintro e w1 ⟨hb1, ⟨hR, b, rfl, _⟩ | ⟨hR, rfl⟩⟩
  · have B1 : Hid (Below w.heap.size w w1) := hb1
    have HR : Hid (R = true) := hR
    clear hb1 hR K
    go_wp2_with fail
    go_ret
    refine ⟨?_, B1.out⟩
    rw [HR.out]
    rfl
  · have B1 : Hid (Below w.heap.size w w1) := hb1
    have HR : Hid (R = false) := hR
    clear hb1 hR K
    go_wp2_with fail
    go_ret
    refine ⟨?_, B1.out⟩
    rw [HR.out]
    rfl
end Go.Proofs.YtbefmcagpmgkiaaDoor
namespace Go.Proofs.YtbefmcagpmgkiaaDoor
open Go.ChangeShapes Go.WideShapes Go.ChangeAt Go.RowKit Go.Deep
set_option linter.unusedVariables false
theorem en_eq (x y : En) : (x = y) ↔ (x.p = y.p ∧ x.k = y.k ∧ x.m = y.m ∧ x.b = y.b) := by
  obtain ⟨p, k, m, b⟩ := x
  obtain ⟨p', k', m', b'⟩ := y
  simp [En.p, En.k, En.m, En.b]
theorem equal_entry (d : Nat) (x y : En) (w : World) : (Op.equalIn (d + 2) 34 (ag x) (ag y)).run Tryd.prog w = .ok (decide (x = y)) w := by
  unfold ag
  rw [run_equalIn_struct w (d + 1) 34 _ _ (by simp [Program.fieldsOf, Tryd.underlying34]) (by kernel_rfl)]
  have e1 := tx_eq x.p y.p
  have e4 := tx_eq x.b y.b
  have ex : decide (x = y) = (decide (x.p = y.p) && (decide (x.k = y.k) && (decide (x.m = y.m) && decide (x.b = y.b)))) := by
    rw [Bool.eq_iff_iff]
    simp [en_eq]
  rw [ex]
  simp only [Program.fieldsOf, Tryd.underlying34, Op.eqFields]
  simp [part, isAgg, run_underlying Tryd.underlying9, run_underlying Tryd.underlying3, run_equalIn_string w d 9 _ _ Tryd.underlying9, run_equalIn_int w d 3 .i64 .i64 _ _ Tryd.underlying3, e1, e4]
  by_cases h1 : x.p = y.p <;> by_cases h2 : x.k = y.k <;> by_cases h3 : x.m = y.m <;> by_cases h4 : x.b = y.b <;> simp [h1, h2, h3, h4]
theorem neq_entry (x y : En) (w : World) : (binOp .neq 34 (ag x) (ag y)).run Tryd.prog w = .ok (.bool (!decide (x = y))) w := by
  have e : (Op.equal 34 (ag x) (ag y)).run Tryd.prog w = .ok (decide (x = y)) w := equal_entry 9998 x y w
  unfold ag at e ⊢
  simp [binOp, e]
theorem guardE : Tryd.prog.eqGuardType Tryd.prog.depth 34 = false := by kernel_rfl
set_option maxRecDepth 100000 in
set_option maxHeartbeats 4000000 in
theorem sameE_is (l1 l2 : List En) (n1 n2 c1 c2 : Nat) (a1 a2 : Option Addr) (w : World) (h1 : l1.length = n1) (h2 : l2.length = n2) (b1 : n1 ≤ 140737488355328) (b2 : n2 ≤ 140737488355328) (i1 : InE w a1 l1) (i2 : InE w a2 l2) :
    Calls Tryd.prog 14 #[.slice a1 n1 c1, .slice a2 n2 c2] w fun e w' => e = .returned (.bool (decide (l1 = l2))) ∧ Below w.heap.size w w' := by
  by_cases hne : n1 = n2
  · subst hne
    have H1 : Hid (l1.length = n1) := h1
    have H2 : Hid (l2.length = n1) := h2
    have I1 : Hid (InE w a1 l1) := i1
    have I2 : Hid (InE w a2 l2) := i2
    obtain ⟨r, hr⟩ : ∃ r, r = decide (l1 = l2) := ⟨_, rfl⟩
    have HR : Hid (r = decide (l1 = l2)) := hr
    rw [← hr]
    clear h1 h2 i1 i2 hr
    go_enter Tryd.func14, Tryd.ntmps14
    go_wp2_with fail
    go_loopg [5] n1 (fun g i wr => ∃ (j : Nat), j ≤ n1 ∧ g = n1 - j ∧ i = .int .i64 j ∧ Hid (l1.take j = l2.take j) ∧ Hid (Below w.heap.size w wr))
    case atStart => exact ⟨0, Nat.zero_le _, rfl, rfl, rfl, Below.refl _ _⟩
    case round =>
      obtain ⟨j, hj, rfl, rfl, HT, HW⟩ := hrel
      by_cases hlt : j < n1
      · have j1 : (j : Int) < (n1 : Int) := by omega
        obtain ⟨x, hx⟩ : ∃ x, l1[j]? = some x := ⟨l1[j]'(by rw [H1.out]; exact hlt), by simp [H1.out, hlt]⟩
        obtain ⟨y, hy⟩ : ∃ y, l2[j]? = some y := ⟨l2[j]'(by rw [H2.out]; exact hlt), by simp [H2.out, hlt]⟩
        obtain ⟨p1, o1, rfl, hb1, hr1⟩ := I1.out.at hx
        obtain ⟨p2, o2, rfl, hb2, hr2⟩ := I2.out.at hy
        obtain ⟨c0, c1', c2', c3⟩ := hr1.below HW.out hb1
        obtain ⟨d0, d1, d2, d3⟩ := hr2.below HW.out hb2
        have HX : Hid (l1[j]? = some x) := hx
        have HY : Hid (l2[j]? = some y) := hy
        have hq : ∀ w, (Op.equalIn 10000 34 (.agg #[.string (tx x.p), .int .i64 x.k, .int .i64 x.m, .string (tx x.b)]) (.agg #[.string (tx y.p), .int .i64 y.k, .int .i64 y.m, .string (tx y.b)])).run Tryd.prog w = .ok (decide (x = y)) w := equal_entry 9998 x y
        have hg := guardE
        clear hx hy hr1 hr2
        by_cases hxy : x = y
        · have e1 : decide (x = y) = true := by simp [hxy]
          rw [e1] at hq
          have HXY : Hid (x = y) := hxy
          clear e1 hxy
          go_wp2_with fail
          go_quiet (fail)
          go_wp2_with fail
          go_roundg (n1 - (j + 1))
          case measure => omega
          case rel =>
            refine ⟨j + 1, by omega, rfl, by go_num, ?_, below_drewN HW.out _⟩
            have g1 := List.getElem?_eq_some_iff.1 HX.out
            have g2 := List.getElem?_eq_some_iff.1 HY.out
            obtain ⟨q1, e1⟩ := g1
            obtain ⟨q2, e2⟩ := g2
            show _ = _
            rw [List.take_succ_eq_append_getElem q1, List.take_succ_eq_append_getElem q2, HT.out, e1, e2, HXY.out]
        · have e1 : decide (x = y) = false := by simp [hxy]
          rw [e1] at hq
          have HF : Hid (r = false) := by
            show _ = _
            rw [HR.out, decide_eq_false_iff_not]
            intro e
            subst e
            have := HX.out.symm.trans HY.out
            exact hxy (Option.some.inj this)
          clear e1 hxy
          go_wp2_with fail
          go_quiet (fail)
          go_wp2_with fail
          go_ret
          exact ⟨by rw [HF.out]; rfl, below_drewN HW.out _⟩
      · have e : j = n1 := by omega
        subst e
        have j1 : ¬ (j : Int) < (j : Int) := by omega
        have HF : Hid (r = true) := by
          show _ = _
          rw [HR.out, decide_eq_true_iff]
          have := HT.out
          rwa [List.take_of_length_le (by rw [H1.out]; omega), List.take_of_length_le (by rw [H2.out]; omega)] at this
        go_wp2_with fail
        go_ret
        exact ⟨by rw [HF.out]; rfl, HW.out⟩
  · have hd : decide (l1 = l2) = false := by
      rw [decide_eq_false_iff_not]
      intro e
      subst e
      omega
    rw [hd]
    have e1 : ¬ ((n1 : Nat) : Int) = ((n2 : Nat) : Int) := by omega
    clear h1 h2 i1 i2
    go_enter Tryd.func14, Tryd.ntmps14
    go_wp2_with fail
    go_ret
    exact ⟨rfl, Below.refl _ _⟩
end Go.Proofs.YtbefmcagpmgkiaaDoor
