/- overlay's sceneOf, Tree. Entries held against each other; the document's Same, Size; the law's own. the law's own works. the law's own few. -/
import Derived.Test.YtbefmcagpmgkiaaDoorMgMe10
import Derived.Test.YtbefmcagpmgkiaaDoorMgMe6
import Derived.Laws.StructEq
import Derived.Test.YtbefmcagpmgkiaaDoorMgMe9
namespace Go.Proofs.YtbefmcagpmgkiaaDoor
open Go.ChangeShapes Go.WideShapes Go.ChangeAt Go.RowKit Go.Deep Go.Maps
set_option linter.unusedVariables false
/-- the entries of a list, by their paths, the later over the earlier -/
def setE (T : Tx → Option En) (x : En) : Tx → Option En := fun q => if q = x.p then some x else T q
def scT (l : List En) : Tx → Option En := l.foldl setE (fun _ => none)
theorem scT_snoc (l : List En) (x : En) : scT (l ++ [x]) = setE (scT l) x := by simp [scT]
theorem scT_take (l : List En) (i : Nat) (x : En) (h : l[i]? = some x) : scT (l.take (i + 1)) = setE (scT (l.take i)) x := by
  rw [List.take_add_one, h]
  exact scT_snoc _ _
/-- is the rest a tree's, behind what was met -/
def trF : (Tx → Option En) → Tx → List En → Bool
  | _, _, [] => true
  | T, a, x :: r => mS x && les a x.p && oA T x.p && trF (setE T x) x.p r
def isTr (l : List En) : Bool := trF (fun _ => none) [] l
set_option maxRecDepth 100000 in
set_option maxHeartbeats 4000000 in
theorem sceneOf_is (l : List En) (n : Nat) (hn : l.length = n) (hn62 : n ≤ 1000000000) (hf : Fit l) (a : Option Addr) (c : Nat) (w : World) (hl : InE w a l) :
    Calls Tryd.prog 38 #[.slice a n c] w fun e w' => Below w.heap.size w w' ∧ ((isTr l = true ∧ ∃ b, e = .returned (.tuple #[.map (some b), .bool true]) ∧ Sc w' b n (scT l) ∧ w.heap.size ≤ b) ∨ (isTr l = false ∧ e = .returned (.tuple #[.map none, .bool false]))) := by
  have HF : Hid (Fit l) := hf
  have HL : Hid (InE w a l) := hl
  have HN : Hid (l.length = n) := hn
  have HR : Hid (trF (fun _ => none) [] l = isTr l) := rfl
  generalize isTr l = R at *
  have hmk : (Instr.makeMap 57 none).run Tryd.prog w = .ok (.map (some w.heap.size)) (w.alloc (.map #[] 0)) := rfl
  clear hf hl hn
  go_enter Tryd.func38, Tryd.ntmps38
  go_wp2_with fail
  go_loopg [11, 5] n (fun g i v wr => ∃ (j : Nat) (u : Tx), j ≤ n ∧ g = n - j ∧ i = .int .i64 j ∧ v = .string (tx u) ∧ u.length ≤ 140737488355328 ∧ Hid (Sc wr w.heap.size j (scT (l.take j))) ∧ Hid (trF (scT (l.take j)) u (l.drop j) = R) ∧ Hid (Below w.heap.size w wr))
  case atStart => exact ⟨0, [], Nat.zero_le _, rfl, rfl, rfl, by simp, Sc.empty w, HR, (Below.refl _ _).alloc (Nat.le_refl _) _⟩
  case round =>
    obtain ⟨j, u, hj, rfl, rfl, rfl, hu, SC, TR, BW⟩ := hrel
    have hszw := BW.out.size
    have hbl : w.heap.size < wr.heap.size := SC.out.lt
    by_cases hlt : j < n
    · have j1 : (j : Int) < (n : Int) := by omega
      obtain ⟨x, hx⟩ : ∃ x, l[j]? = some x := ⟨l[j]'(by rw [HN.out]; exact hlt), by simp [HN.out, hlt]⟩
      obtain ⟨b, off, rfl, hbw, hr⟩ : ∃ b off, a = some ⟨b, off, none⟩ ∧ b < w.heap.size ∧ Ec w b (off + j * 4) x := by
        rcases HL.out with e | ⟨b, off, h1, h2, h3⟩
        · have := HN.out; rw [e] at this; simp at this; omega
        · exact ⟨b, off, h1, h2, h3 j x hx⟩
      have hfx := HF.out x (List.mem_of_getElem? hx)
      have HFX : Hid (x.p.length ≤ 140737488355328 ∧ x.b.length ≤ 140737488355328) := hfx
      have hxp := hfx.1
      have HD : l.drop j = x :: l.drop (j + 1) := by
        have hj2 : j < l.length := by rw [HN.out]; exact hlt
        rw [List.drop_eq_getElem_cons hj2]
        congr 1
        have := List.getElem?_eq_getElem hj2
        rw [this] at hx
        exact Option.some.inj hx
      have MX : Hid (scT (l.take (j + 1)) = setE (scT (l.take j)) x) := scT_take l j x hx
      have TR2 : Hid ((mS x && les u x.p && oA (scT (l.take j)) x.p && trF (setE (scT (l.take j)) x) x.p (l.drop (j + 1))) = R) := by have := TR.out; rw [HD] at this; exact this
      obtain ⟨c0, c1, c2, c3⟩ := hr.below BW.out hbw
      generalize scT (l.take j) = T1 at *
      obtain ⟨w3, hw3⟩ : ∃ w3, w3 = wr.alloc (.cells #[.string (tx x.p), .int .i64 x.k, .int .i64 x.m, .string (tx x.b)] 34) := ⟨_, rfl⟩
      have B3 : Below wr.heap.size wr w3 := by rw [hw3]; exact (Below.refl _ _).alloc (Nat.le_refl _) _
      have X3 : Hid (w3.heap[wr.heap.size]? = some (.cells (ec (tx x.p) x.k x.m (tx x.b)) 34)) := by show _ = _; rw [hw3]; exact heap_alloc_new wr _
      have W3 : Hid (w3 = wr.alloc (.cells #[.string (tx x.p), .int .i64 x.k, .int .i64 x.m, .string (tx x.b)] 34)) := hw3
      have KM : Hid (Calls Tryd.prog 58 #[.agg #[.string (tx x.p), .int .i64 x.k, .int .i64 x.m, .string (tx x.b)]] w3 fun e w' => e = .returned (.bool (mS x)) ∧ Below w3.heap.size w3 w') := maySee_is x hfx w3
      have BW3 : Hid (Below w.heap.size w w3) := BW.out.trans (B3.mono hszw)
      have SC3 : Hid (Sc w3 w.heap.size j T1) := SC.out.keep B3
      have hlt3 : wr.heap.size < w3.heap.size := (Array.getElem?_eq_some_iff.1 X3.out).1
      clear hx hr hw3 B3 SC BW TR HD hfx
      go_wp2_with fail
      rw [show wr.alloc _ = w3 from W3.out.symm]
      refine KM.out.mono ?_
      rintro e w4 ⟨rfl, hb4⟩
      have BW4 : Hid (Below w.heap.size w w4) := BW3.out.trans (hb4.mono BW3.out.size)
      have SC4 : Hid (Sc w4 w.heap.size j T1) := SC3.out.keep hb4
      have x4 : w4.heap[wr.heap.size]? = some (.cells (ec (tx x.p) x.k x.m (tx x.b)) 34) := (hb4.block _ hlt3).trans X3.out
      have X4 : Hid (w4.heap[wr.heap.size]? = some (.cells (ec (tx x.p) x.k x.m (tx x.b)) 34)) := x4
      have hlt4 : wr.heap.size < w4.heap.size := (Array.getElem?_eq_some_iff.1 x4).1
      clear c0 c1 c2 c3
      obtain ⟨c0, c1, c2, c3⟩ := ec_cells x4
      clear hb4 KM W3 SC3 BW3 X3 x4 hlt3
      cases hm : mS x with
      | false =>
        have HRF : Hid (R = false) := by show _ = _; rw [← TR2.out, hm]; rfl
        go_wp2_with fail
        go_ret2
        exact ⟨BW4.out, .inr ⟨HRF.out, rfl⟩⟩
      | true =>
        have KL : Hid (Calls Tryd.prog 59 #[.string (tx u), .string (tx x.p)] w4 fun e w' => e = .returned (.bool (les u x.p)) ∧ Below w4.heap.size w4 w') := less_is u x.p (by omega) (by omega) w4
        go_wp2_with fail
        refine KL.out.mono ?_
        rintro e w5 ⟨rfl, hb5⟩
        have BW5 : Hid (Below w.heap.size w w5) := BW4.out.trans (hb5.mono BW4.out.size)
        have SC5 : Hid (Sc w5 w.heap.size j T1) := SC4.out.keep hb5
        have x5 : w5.heap[wr.heap.size]? = some (.cells (ec (tx x.p) x.k x.m (tx x.b)) 34) := (hb5.block _ hlt4).trans X4.out
        have X5 : Hid (w5.heap[wr.heap.size]? = some (.cells (ec (tx x.p) x.k x.m (tx x.b)) 34)) := x5
        have hlt5 : wr.heap.size < w5.heap.size := (Array.getElem?_eq_some_iff.1 x5).1
        clear c0 c1 c2 c3
        obtain ⟨c0, c1, c2, c3⟩ := ec_cells x5
        clear hb5 KL SC4 BW4 X4 x5 hlt4
        cases hle : les u x.p with
        | false =>
          have HRF : Hid (R = false) := by show _ = _; rw [← TR2.out, hle]; simp
          go_wp2_with fail
          go_ret2
          exact ⟨BW5.out, .inr ⟨HRF.out, rfl⟩⟩
        | true =>
          have KA : Hid (Calls Tryd.prog 40 #[.map (some w.heap.size), .string (tx x.p)] w5 fun e w' => e = .returned (.bool (oA T1 x.p)) ∧ Below w5.heap.size w5 w') := isOpenAbove_is w5 w.heap.size j T1 x.p (by omega) SC5.out
          go_wp2_with fail
          refine KA.out.mono ?_
          rintro e w6 ⟨rfl, hb6⟩
          have BW6 : Hid (Below w.heap.size w w6) := BW5.out.trans (hb6.mono BW5.out.size)
          have SC6 : Hid (Sc w6 w.heap.size j T1) := SC5.out.keep hb6
          have x6 : w6.heap[wr.heap.size]? = some (.cells (ec (tx x.p) x.k x.m (tx x.b)) 34) := (hb6.block _ hlt5).trans X5.out
          have X6 : Hid (w6.heap[wr.heap.size]? = some (.cells (ec (tx x.p) x.k x.m (tx x.b)) 34)) := x6
          clear c0 c1 c2 c3
          obtain ⟨c0, c1, c2, c3⟩ := ec_cells x6
          clear hb6 KA SC5 BW5 X5 x6 hlt5
          cases hoa : oA T1 x.p with
          | false =>
            have HRF : Hid (R = false) := by show _ = _; rw [← TR2.out, hoa]; simp
            go_wp2_with fail
            go_ret2
            exact ⟨BW6.out, .inr ⟨HRF.out, rfl⟩⟩
          | true =>
            have TR3 : Hid (trF (setE T1 x) x.p (l.drop (j + 1)) = R) := by show _ = _; rw [← TR2.out, hm, hle, hoa]; rfl
            go_wp2_with (first | (at_mapUpdate; refine wpList_put_sc rfl (.tmp 32) (.tmp 34) (.tmp 35) rfl w.heap.size j T1 rfl SC6.out (by omega) x.p hxp x rfl rfl ?_; intro w7 hs7 hg7; have S7 : Hid (Sc w7 w.heap.size (j + 1) (setE T1 x)) := hs7; have G7 : Hid (w6.grownBy w7 (some w.heap.size)) := hg7; have x7 : w7.heap[wr.heap.size]? = some (.cells (ec (tx x.p) x.k x.m (tx x.b)) 34) := (hg7.block wr.heap.size (Array.getElem?_eq_some_iff.1 X6.out).1 (fun e => by have e2 : wr.heap.size = w.heap.size := Option.some.inj e; omega)).trans X6.out; obtain ⟨d0, d1, d2, d3⟩ := ec_cells x7; clear hs7 hg7 x7))
            go_roundg (n - (j + 1))
            case measure => omega
            case rel => exact ⟨j + 1, x.p, by omega, rfl, by go_num, rfl, hxp, by rw [MX.out]; exact S7, by rw [MX.out]; exact TR3, BW6.out.grown G7.out BW6.out.size (fun k hk => by cases hk; exact Nat.le_refl _)⟩
    · have ej : j = n := by omega
      subst ej
      have j1 : ¬ (j : Int) < (j : Int) := by omega
      have HT : Hid (l.take j = l) := by show _ = _; rw [← HN.out, List.take_length]
      have HRT : Hid (R = true) := by show _ = _; rw [← TR.out, ← HN.out, List.drop_length]; rfl
      have SC3 : Hid (Sc wr w.heap.size j (scT l)) := by have := SC.out; rw [HT.out] at this; exact this
      go_wp2_with fail
      go_ret2
      exact ⟨BW.out, .inl ⟨HRT.out, _, rfl, SC3.out, Nat.le_refl _⟩⟩
set_option maxHeartbeats 4000000 in
theorem tree_is (l : List En) (n : Nat) (hn : l.length = n) (hn62 : n ≤ 1000000000) (hf : Fit l) (a : Option Addr) (c : Nat) (w : World) (hl : InE w a l) :
    Calls Tryd.prog 20 #[.slice a n c] w fun e w' => e = .returned (.bool (isTr l)) ∧ Below w.heap.size w w' := by
  have K : Hid (Calls Tryd.prog 38 #[.slice a n c] w fun e w' => Below w.heap.size w w' ∧ ((isTr l = true ∧ ∃ b, e = .returned (.tuple #[.map (some b), .bool true]) ∧ Sc w' b n (scT l) ∧ w.heap.size ≤ b) ∨ (isTr l = false ∧ e = .returned (.tuple #[.map none, .bool false])))) := sceneOf_is l n hn hn62 hf a c w hl
  generalize isTr l = R at *
  clear hl hf
  go_enter Tryd.func20, Tryd.ntmps20
  go_wp2_with fail
  refine K.out.mono ?_
  rintro e w1 ⟨hb1, ⟨hR, b, rfl, _⟩ | ⟨hR, rfl⟩⟩
  · have B1 : Hid (Below w.heap.size w w1) := hb1
    have HR : Hid (R = true) := hR
    clear hb1 hR K
    go_wp2_with fail
    go_ret
    refine ⟨?_, B1.out⟩
    rw [HR.out]
    rfl
  · have B1 : Hid (Below w.heap.size w w1) := hb1
    have HR : Hid (R = false) := hR
    clear hb1 hR K
    go_wp2_with fail
    go_ret
    refine ⟨?_, B1.out⟩
    rw [HR.out]
    rfl
end Go.Proofs.YtbefmcagpmgkiaaDoor
namespace Go.Proofs.YtbefmcagpmgkiaaDoor
open Go.ChangeShapes Go.WideShapes Go.ChangeAt Go.RowKit Go.Deep
set_option linter.unusedVariables false
theorem en_eq (x y : En) : (x = y) ↔ (x.p = y.p ∧ x.k = y.k ∧ x.m = y.m ∧ x.b = y.b) := by
  obtain ⟨p, k, m, b⟩ := x
  obtain ⟨p', k', m', b'⟩ := y
  simp [En.p, En.k, En.m, En.b]
theorem equal_entry (d : Nat) (x y : En) (w : World) : (Op.equalIn (d + 2) 34 (ag x) (ag y)).run Tryd.prog w = .ok (decide (x = y)) w := by
  unfold ag
  rw [run_equalIn_struct w (d + 1) 34 _ _ (by simp [Program.fieldsOf, Tryd.underlying34]) (by kernel_rfl)]
  have e1 := tx_eq x.p y.p
  have e4 := tx_eq x.b y.b
  have ex : decide (x = y) = (decide (x.p = y.p) && (decide (x.k = y.k) && (decide (x.m = y.m) && decide (x.b = y.b)))) := by
    rw [Bool.eq_iff_iff]
    simp [en_eq]
  rw [ex]
  simp only [Program.fieldsOf, Tryd.underlying34, Op.eqFields]
  simp [part, isAgg, run_underlying Tryd.underlying9, run_underlying Tryd.underlying3, run_equalIn_string w d 9 _ _ Tryd.underlying9, run_equalIn_int w d 3 .i64 .i64 _ _ Tryd.underlying3, e1, e4]
  by_cases h1 : x.p = y.p <;> by_cases h2 : x.k = y.k <;> by_cases h3 : x.m = y.m <;> by_cases h4 : x.b = y.b <;> simp [h1, h2, h3, h4]
theorem neq_entry (x y : En) (w : World) : (binOp .neq 34 (ag x) (ag y)).run Tryd.prog w = .ok (.bool (!decide (x = y))) w := by
  have e : (Op.equal 34 (ag x) (ag y)).run Tryd.prog w = .ok (decide (x = y)) w := equal_entry 9998 x y w
  unfold ag at e ⊢
  simp [binOp, e]
theorem guardE : Tryd.prog.eqGuardType Tryd.prog.depth 34 = false := by kernel_rfl
set_option maxRecDepth 100000 in
set_option maxHeartbeats 4000000 in
theorem sameE_is (l1 l2 : List En) (n1 n2 c1 c2 : Nat) (a1 a2 : Option Addr) (w : World) (h1 : l1.length = n1) (h2 : l2.length = n2) (b1 : n1 ≤ 140737488355328) (b2 : n2 ≤ 140737488355328) (i1 : InE w a1 l1) (i2 : InE w a2 l2) :
    Calls Tryd.prog 14 #[.slice a1 n1 c1, .slice a2 n2 c2] w fun e w' => e = .returned (.bool (decide (l1 = l2))) ∧ Below w.heap.size w w' := by
  by_cases hne : n1 = n2
  · subst hne
    have H1 : Hid (l1.length = n1) := h1
    have H2 : Hid (l2.length = n1) := h2
    have I1 : Hid (InE w a1 l1) := i1
    have I2 : Hid (InE w a2 l2) := i2
    obtain ⟨r, hr⟩ : ∃ r, r = decide (l1 = l2) := ⟨_, rfl⟩
    have HR : Hid (r = decide (l1 = l2)) := hr
    rw [← hr]
    clear h1 h2 i1 i2 hr
    go_enter Tryd.func14, Tryd.ntmps14
    go_wp2_with fail
    go_loopg [5] n1 (fun g i wr => ∃ (j : Nat), j ≤ n1 ∧ g = n1 - j ∧ i = .int .i64 j ∧ Hid (l1.take j = l2.take j) ∧ Hid (Below w.heap.size w wr))
    case atStart => exact ⟨0, Nat.zero_le _, rfl, rfl, rfl, Below.refl _ _⟩
    case round =>
      obtain ⟨j, hj, rfl, rfl, HT, HW⟩ := hrel
      by_cases hlt : j < n1
      · have j1 : (j : Int) < (n1 : Int) := by omega
        obtain ⟨x, hx⟩ : ∃ x, l1[j]? = some x := ⟨l1[j]'(by rw [H1.out]; exact hlt), by simp [H1.out, hlt]⟩
        obtain ⟨y, hy⟩ : ∃ y, l2[j]? = some y := ⟨l2[j]'(by rw [H2.out]; exact hlt), by simp [H2.out, hlt]⟩
        obtain ⟨p1, o1, rfl, hb1, hr1⟩ := I1.out.at hx
        obtain ⟨p2, o2, rfl, hb2, hr2⟩ := I2.out.at hy
        obtain ⟨c0, c1', c2', c3⟩ := hr1.below HW.out hb1
        obtain ⟨d0, d1, d2, d3⟩ := hr2.below HW.out hb2
        have HX : Hid (l1[j]? = some x) := hx
        have HY : Hid (l2[j]? = some y) := hy
        have hq : ∀ w, (Op.equalIn 10000 34 (.agg #[.string (tx x.p), .int .i64 x.k, .int .i64 x.m, .string (tx x.b)]) (.agg #[.string (tx y.p), .int .i64 y.k, .int .i64 y.m, .string (tx y.b)])).run Tryd.prog w = .ok (decide (x = y)) w := equal_entry 9998 x y
        have hg := guardE
        clear hx hy hr1 hr2
        by_cases hxy : x = y
        · have e1 : decide (x = y) = true := by simp [hxy]
          rw [e1] at hq
          have HXY : Hid (x = y) := hxy
          clear e1 hxy
          go_wp2_with fail
          go_quiet (fail)
          go_wp2_with fail
          go_roundg (n1 - (j + 1))
          case measure => omega
          case rel =>
            refine ⟨j + 1, by omega, rfl, by go_num, ?_, below_drewN HW.out _⟩
            have g1 := List.getElem?_eq_some_iff.1 HX.out
            have g2 := List.getElem?_eq_some_iff.1 HY.out
            obtain ⟨q1, e1⟩ := g1
            obtain ⟨q2, e2⟩ := g2
            show _ = _
            rw [List.take_succ_eq_append_getElem q1, List.take_succ_eq_append_getElem q2, HT.out, e1, e2, HXY.out]
        · have e1 : decide (x = y) = false := by simp [hxy]
          rw [e1] at hq
          have HF : Hid (r = false) := by
            show _ = _
            rw [HR.out, decide_eq_false_iff_not]
            intro e
            subst e
            have := HX.out.symm.trans HY.out
            exact hxy (Option.some.inj this)
          clear e1 hxy
          go_wp2_with fail
          go_quiet (fail)
          go_wp2_with fail
          go_ret
          exact ⟨by rw [HF.out]; rfl, below_drewN HW.out _⟩
      · have e : j = n1 := by omega
        subst e
        have j1 : ¬ (j : Int) < (j : Int) := by omega
        have HF : Hid (r = true) := by
          show _ = _
          rw [HR.out, decide_eq_true_iff]
          have := HT.out
          rwa [List.take_of_length_le (by rw [H1.out]; omega), List.take_of_length_le (by rw [H2.out]; omega)] at this
        go_wp2_with fail
        go_ret
        exact ⟨by rw [HF.out]; rfl, HW.out⟩
  · have hd : decide (l1 = l2) = false := by
      rw [decide_eq_false_iff_not]
      intro e
      subst e
      omega
    rw [hd]
    have e1 : ¬ ((n1 : Nat) : Int) = ((n2 : Nat) : Int) := by omega
    clear h1 h2 i1 i2
    go_enter Tryd.func14, Tryd.ntmps14
    go_wp2_with fail
    go_ret
    exact ⟨rfl, Below.refl _ _⟩
end Go.Proofs.YtbefmcagpmgkiaaDoor
namespace Go.Proofs.YtbefmcagpmgkiaaDoor
open Go.ChangeShapes Go.WideShapes Go.ChangeAt Go.RowKit Go.Deep Go.Maps
set_option linter.unusedVariables false
theorem putT_none {T : Tx → Option En} {x : En} {q : Tx} (h : T q = none) (h1 : q ≠ x.p) (h2 : q ∉ wk x.p) : putT T x q = none := by
  have ho : openT x.p T (wk x.p) q = none := by rw [openT_at, if_neg (fun hh => h2 hh.1)]; exact h
  have hd : ∀ T' : Tx → Option En, T' q = none → dropT T' x.p q = none := fun T' hT => by
    cases hh : dropT T' x.p q with
    | none => rfl
    | some y => rw [dropT_sub T' x.p q y hh] at hT; cases hT
  unfold putT
  split
  · exact hd T h
  · split
    · exact (if_neg h1).trans (hd _ ho)
    · split
      · exact (if_neg h1).trans (hd _ ho)
      · exact (if_neg h1).trans ho
/-- the chapter's example -/
def ex1 : List (List En) := [[([97, 47, 98], 1, 0, [120])], [([97], 3, 0, [])], [([97, 47, 99], 1, 0, [121])]]
def exL : List En := [([97], 2, 0, []), ([97, 47, 99], 1, 0, [121])]
theorem ex1_E : mE ex1 = 0 := by decide
theorem ex1_L : Lst (mg ex1) exL := by
  refine ⟨fun x => ?_, ?_⟩
  · constructor
    · intro hx
      simp only [exL, List.mem_cons, List.not_mem_nil, or_false] at hx
      rcases hx with rfl | rfl
      · rfl
      · rfl
    · intro hx
      have hn : x.p = [97] ∨ x.p = [97, 47, 98] ∨ x.p = [97, 47, 99] ∨ x.p = [] := by
        by_cases h1 : x.p = [97]
        · exact .inl h1
        · by_cases h2 : x.p = [97, 47, 98]
          · exact .inr (.inl h2)
          · by_cases h3 : x.p = [97, 47, 99]
            · exact .inr (.inr (.inl h3))
            · by_cases h4 : x.p = []
              · exact .inr (.inr (.inr h4))
              · have w1 : x.p ∉ wk [97, 47, 98] := by rw [show wk [97, 47, 98] = [[], [97], [97, 47, 98]] by decide]; simp [h1, h2, h4]
                have w2 : x.p ∉ wk [97] := by rw [show wk [97] = [[], [97]] by decide]; simp [h1, h4]
                have w3 : x.p ∉ wk [97, 47, 99] := by rw [show wk [97, 47, 99] = [[], [97], [97, 47, 99]] by decide]; simp [h1, h3, h4]
                have e1 : putT (fun _ => none) ([97, 47, 98], 1, 0, [120]) x.p = none := putT_none rfl h2 w1
                have e2 := putT_none (x := ([97], 3, 0, [])) e1 h1 w2
                have e3 := putT_none (x := ([97, 47, 99], 1, 0, [121])) e2 h3 w3
                have : mg ex1 x.p = none := e3
                rw [this] at hx
                cases hx
      rcases hn with h | h | h | h
      · rw [h, show mg ex1 [97] = some ([97], 2, 0, []) by rfl] at hx
        cases hx
        simp [exL]
      · rw [h, show mg ex1 [97, 47, 98] = none by rfl] at hx
        cases hx
      · rw [h, show mg ex1 [97, 47, 99] = some ([97, 47, 99], 1, 0, [121]) by rfl] at hx
        cases hx
        simp [exL]
      · rw [h, show mg ex1 [] = none by rfl] at hx
        cases hx
  · rw [exL, List.pairwise_cons]
    refine ⟨fun y hy => ?_, List.pairwise_singleton _ _⟩
    simp at hy
    subst hy
    decide
theorem exL_tr : isTr exL = true := by decide
theorem eql_entry (x y : En) (w : World) : (binOp .eql 34 (ag x) (ag y)).run Tryd.prog w = .ok (.bool (decide (x = y))) w := by
  have e : (Op.equal 34 (ag x) (ag y)).run Tryd.prog w = .ok (decide (x = y)) w := equal_entry 9998 x y w
  unfold ag at e ⊢
  simp [binOp, e]
/-- the world of the example -/
def exW (w : World) : World := (((w.alloc (.cells (ec (tx [97, 47, 98]) 1 0 (tx [120])) 34)).alloc (.cells (ec (tx [97]) 3 0 (tx [])) 34)).alloc (.cells (ec (tx [97, 47, 99]) 1 0 (tx [121])) 34)).alloc (.cells #[.slice (some ⟨w.heap.size, 0, none⟩) 1 1, .slice (some ⟨w.heap.size + 1, 0, none⟩) 1 1, .slice (some ⟨w.heap.size + 1 + 1, 0, none⟩) 1 1] 26)
theorem one_InE {w : World} {g : Nat} {x : En} (h : w.heap[g]? = some (.cells (ec (tx x.p) x.k x.m (tx x.b)) 34)) : InE w (some ⟨g, 0, none⟩) [x] := by
  refine .inr ⟨g, 0, rfl, (Array.getElem?_eq_some_iff.1 h).1, fun i y hy => ?_⟩
  have hi : i = 0 := by
    have := (List.getElem?_eq_some_iff.1 hy).1
    simpa using this
  subst hi
  simp at hy
  subst hy
  exact ec_cells h
theorem exW_at (w : World) : Below w.heap.size w (exW w) ∧ InS (exW w) (some ⟨w.heap.size + 1 + 1 + 1, 0, none⟩) ex1 := by
  have hsz : (exW w).heap.size = w.heap.size + 4 := by simp [exW]
  have g3 : (exW w).heap[w.heap.size + 3]? = some (.cells #[.slice (some ⟨w.heap.size, 0, none⟩) 1 1, .slice (some ⟨w.heap.size + 1, 0, none⟩) 1 1, .slice (some ⟨w.heap.size + 1 + 1, 0, none⟩) 1 1] 26) := by
    unfold exW
    have := heap_alloc_new (((w.alloc (.cells (ec (tx [97, 47, 98]) 1 0 (tx [120])) 34)).alloc (.cells (ec (tx [97]) 3 0 (tx [])) 34)).alloc (.cells (ec (tx [97, 47, 99]) 1 0 (tx [121])) 34)) (.cells #[.slice (some ⟨w.heap.size, 0, none⟩) 1 1, .slice (some ⟨w.heap.size + 1, 0, none⟩) 1 1, .slice (some ⟨w.heap.size + 1 + 1, 0, none⟩) 1 1] 26)
    simpa using this
  have g0 : (exW w).heap[w.heap.size]? = some (.cells (ec (tx [97, 47, 98]) 1 0 (tx [120])) 34) := by
    unfold exW
    rw [Below.heap_alloc _ _ _ (by simp; omega), Below.heap_alloc _ _ _ (by simp; omega), Below.heap_alloc _ _ _ (by simp)]
    exact heap_alloc_new w _
  have g1 : (exW w).heap[w.heap.size + 1]? = some (.cells (ec (tx [97]) 3 0 (tx [])) 34) := by
    unfold exW
    rw [Below.heap_alloc _ _ _ (by simp), Below.heap_alloc _ _ _ (by simp)]
    exact heap2 w _ _
  have g2 : (exW w).heap[w.heap.size + 1 + 1]? = some (.cells (ec (tx [97, 47, 99]) 1 0 (tx [121])) 34) := by
    unfold exW
    rw [Below.heap_alloc _ _ _ (by simp)]
    have := heap2 (w.alloc (.cells (ec (tx [97, 47, 98]) 1 0 (tx [120])) 34)) (.cells (ec (tx [97]) 3 0 (tx [])) 34) (.cells (ec (tx [97, 47, 99]) 1 0 (tx [121])) 34)
    simpa using this
  refine ⟨((below2 w _ _).alloc (by simp; omega) _).alloc (by simp; omega) _, .inr ⟨w.heap.size + 3, 0, rfl, by omega, fun i l hl => ?_⟩⟩
  have hc : ∀ (k : Nat) (v : Value), (#[Value.slice (some ⟨w.heap.size, 0, none⟩) 1 1, .slice (some ⟨w.heap.size + 1, 0, none⟩) 1 1, .slice (some ⟨w.heap.size + 1 + 1, 0, none⟩) 1 1] : Array Value)[k]? = some v → (exW w).cell? ⟨w.heap.size + 3, 0 + k, none⟩ = some v := fun k v hv => by
    simp only [World.cell?, g3, Nat.zero_add]
    exact hv
  have hi : i < 3 := (List.getElem?_eq_some_iff.1 hl).1
  rcases (by omega : i = 0 ∨ i = 1 ∨ i = 2) with rfl | rfl | rfl
  · cases hl
    exact ⟨_, 1, hc 0 _ rfl, one_InE (x := ([97, 47, 98], 1, 0, [120])) g0, fun y hy => by simp at hy; subst hy; simp [En.p, En.b], by simp, by simp⟩
  · cases hl
    exact ⟨_, 1, hc 1 _ rfl, one_InE (x := ([97], 3, 0, [])) g1, fun y hy => by simp at hy; subst hy; simp [En.p, En.b], by simp, by simp⟩
  · cases hl
    exact ⟨_, 1, hc 2 _ rfl, one_InE (x := ([97, 47, 99], 1, 0, [121])) g2, fun y hy => by simp at hy; subst hy; simp [En.p, En.b], by simp, by simp⟩
set_option maxRecDepth 100000 in
set_option maxHeartbeats 8000000 in
theorem works_is (w : World) : Calls Tryd.prog 10 #[] w fun e w' => e = .returned (.bool true) ∧ Below w.heap.size w w' := by
  have KM : Hid (Calls Tryd.prog 12 #[.slice (some ⟨w.heap.size + 1 + 1 + 1, 0, none⟩) 3 3] (exW w) fun e w' => ∃ g c, e = .returned (.tuple #[.slice (some ⟨g, 0, none⟩) 2 c, .int .i64 0]) ∧ InE w' (some ⟨g, 0, none⟩) exL ∧ Below w.heap.size w w') := by
    refine (merge_is ex1 3 rfl _ 3 (by omega) (exW w) (exW_at w).2).mono ?_
    rintro e w' ⟨hb, ⟨h1, _⟩ | ⟨_, g, c, l, rfl, hi, hl, hg, _⟩⟩
    · exact absurd ex1_E h1
    · have := lst_eq hl ex1_L
      subst this
      exact ⟨g, c, rfl, hi, (exW_at w).1.trans (hb.mono (exW_at w).1.size)⟩
  have heq : ∀ W : World, (binOp .eql 34 (.agg #[.string ⟨#[97]⟩, .int .i64 2, .int .i64 0, .string ⟨#[]⟩]) (.agg #[.string ⟨#[97]⟩, .int .i64 2, .int .i64 0, .string ⟨#[]⟩])).run Tryd.prog W = .ok (.bool true) W := fun W => eql_entry ([97], 2, 0, []) ([97], 2, 0, []) W
  go_enter Tryd.func10, Tryd.ntmps10
  go_wp2_with fail
  refine (show Calls Tryd.prog _ _ (exW w) _ from KM.out.mono ?_)
  rintro e w1 ⟨g, c, rfl, hi, hb⟩
  have B1 : Hid (Below w.heap.size w w1) := hb
  have I1 : Hid (InE w1 (some ⟨g, 0, none⟩) exL) := hi
  have KT : Hid (Calls Tryd.prog 20 #[.slice (some ⟨g, 0, none⟩) 2 c] w1 fun e w' => e = .returned (.bool true) ∧ Below w1.heap.size w1 w') := by
    have := tree_is exL 2 rfl (by omega) (fun y hy => by simp [exL] at hy; rcases hy with rfl | rfl <;> simp [En.p, En.b]) (some ⟨g, 0, none⟩) c w1 hi
    rw [exL_tr] at this
    exact this
  obtain ⟨a0, a1, a2, a3, b0, b1, b2, b3⟩ : w1.cell? ⟨g, 0, none⟩ = some (.string ⟨#[97]⟩) ∧ w1.cell? ⟨g, 1, none⟩ = some (.int .i64 2) ∧ w1.cell? ⟨g, 2, none⟩ = some (.int .i64 0) ∧ w1.cell? ⟨g, 3, none⟩ = some (.string ⟨#[]⟩) ∧ w1.cell? ⟨g, 4, none⟩ = some (.string ⟨#[97, 47, 99]⟩) ∧ w1.cell? ⟨g, 5, none⟩ = some (.int .i64 1) ∧ w1.cell? ⟨g, 6, none⟩ = some (.int .i64 0) ∧ w1.cell? ⟨g, 7, none⟩ = some (.string ⟨#[121]⟩) := by
    rcases hi with h | ⟨b, off, h1, h2, h3⟩
    · cases h
    · cases h1
      obtain ⟨x0, x1, x2, x3⟩ := h3 0 ([97], 2, 0, []) rfl
      obtain ⟨y0, y1, y2, y3⟩ := h3 1 ([97, 47, 99], 1, 0, [121]) rfl
      exact ⟨x0, x1, x2, x3, y0, y1, y2, y3⟩
  clear hi hb KM
  go_wp2_with fail
  refine KT.out.mono ?_
  rintro e w2 ⟨rfl, hb2⟩
  have B2 : Hid (Below w.heap.size w w2) := B1.out.trans (hb2.mono B1.out.size)
  clear hb2
  go_wp2_with fail
  go_ret
  exact ⟨rfl, B2.out⟩
end Go.Proofs.YtbefmcagpmgkiaaDoor
namespace Go.Proofs.YtbefmcagpmgkiaaDoor
open Go.ChangeShapes Go.WideShapes Go.ChangeAt Go.RowKit Go.Deep Go.Maps
set_option linter.unusedVariables false
/-- at most so many layers, of at most so many entries -/
def fewB (st : List (List En)) : Bool := decide (st.length ≤ 20) && st.all (fun l => decide (l.length ≤ 70))
set_option maxRecDepth 100000 in
set_option maxHeartbeats 4000000 in
theorem few_is (st : List (List En)) (n : Nat) (hn : st.length = n) (a : Option Addr) (c : Nat) (hn62 : n ≤ 4611686018427387904) (w : World) (hs : InS w a st) :
    Calls Tryd.prog 9 #[.slice a n c] w fun e w' => e = .returned (.bool (fewB st)) ∧ Below w.heap.size w w' := by
  have HS : Hid (InS w a st) := hs
  have HN : Hid (st.length = n) := hn
  have HB : Hid (fewB st = (decide (n ≤ 20) && st.all (fun l => decide (l.length ≤ 70)))) := by show _ = _; unfold fewB; rw [hn]
  obtain ⟨S, hS⟩ : ∃ S, S = fewB st := ⟨_, rfl⟩
  rw [← hS]
  have HSe : Hid (S = (decide (n ≤ 20) && st.all (fun l => decide (l.length ≤ 70)))) := hS.trans HB.out
  clear hs hn hS HB
  by_cases h20 : 20 < n
  · have e1 : (20 : Int) < (n : Int) := by omega
    have HF : Hid (S = false) := by show _ = _; rw [HSe.out, decide_eq_false (by omega)]; rfl
    go_enter Tryd.func9, Tryd.ntmps9
    go_wp2_with fail
    go_ret
    refine ⟨?_, Below.refl _ _⟩
    rw [HF.out]
    rfl
  · have e1 : ¬ (20 : Int) < (n : Int) := by omega
    go_enter Tryd.func9, Tryd.ntmps9
    go_wp2_with fail
    go_loopg [9] n (fun g i wr => ∃ j : Nat, j ≤ n ∧ g = n - j ∧ i = .int .i64 j ∧ wr = w ∧ Hid (∀ (i : Nat) (l : List En), i < j → st[i]? = some l → l.length ≤ 70))
    case atStart => exact ⟨0, Nat.zero_le _, rfl, rfl, rfl, fun i l hi => absurd hi (Nat.not_lt_zero _)⟩
    case round =>
      obtain ⟨j, hj, rfl, rfl, rfl, CK⟩ := hrel
      by_cases hlt : j < n
      · have j1 : (j : Int) < (n : Int) := by omega
        obtain ⟨l, hl⟩ : ∃ l, st[j]? = some l := ⟨st[j]'(by rw [HN.out]; exact hlt), by simp [HN.out, hlt]⟩
        obtain ⟨b, off, rfl, a', c', hcell, hl62⟩ : ∃ b off, a = some ⟨b, off, none⟩ ∧ ∃ a' c', wr.cell? ⟨b, off + j, none⟩ = some (.slice a' l.length c') ∧ l.length ≤ 4611686018427387904 := by
          rcases HS.out with e | ⟨b, off, h1, h2, h3⟩
          · have := HN.out; rw [e] at this; simp at this; omega
          · obtain ⟨a', c', e1, _, _, e4⟩ := h3 j l hl
            exact ⟨b, off, h1, a', c', e1, e4.1⟩
        have HL : Hid (st[j]? = some l) := hl
        clear hl
        obtain ⟨N, hN⟩ : ∃ N, l.length = N := ⟨_, rfl⟩
        have HLN : Hid (l.length = N) := hN
        rw [hN] at hcell hl62
        clear hN
        by_cases h70 : 70 < N
        · have e2 : (70 : Int) < (N : Int) := by omega
          have HF : Hid (S = false) := by
            show _ = _
            rw [HSe.out]
            have : (st.all fun l => decide (l.length ≤ 70)) = false := by
              cases hh : (st.all fun l => decide (l.length ≤ 70)) with
              | false => rfl
              | true =>
                have := List.all_eq_true.1 hh l (List.mem_of_getElem? HL.out)
                rw [HLN.out] at this
                simp at this
                omega
            rw [this, Bool.and_false]
          go_wp2_with fail
          go_ret
          refine ⟨?_, Below.refl _ _⟩
          rw [HF.out]
          rfl
        · have e2 : ¬ (70 : Int) < (N : Int) := by omega
          have CK2 : Hid (∀ (i : Nat) (l : List En), i < j + 1 → st[i]? = some l → l.length ≤ 70) := fun i l2 hi h2 => by
            by_cases hij : i = j
            · subst hij
              rw [HL.out] at h2
              cases h2
              rw [HLN.out]
              omega
            · exact CK.out i l2 (by omega) h2
          clear CK
          go_wp2_with fail
          go_roundg (n - (j + 1))
          case measure => omega
          case rel => exact ⟨j + 1, by omega, rfl, by go_num, rfl, CK2⟩
      · have ej : j = n := by omega
        subst ej
        have j1 : ¬ (j : Int) < (j : Int) := by omega
        have HF : Hid (S = true) := by
          show _ = _
          rw [HSe.out, decide_eq_true (by omega), Bool.true_and]
          refine List.all_eq_true.2 (fun l hl => ?_)
          obtain ⟨i, hi⟩ := List.getElem?_of_mem hl
          exact decide_eq_true (CK.out i l (by have := (List.getElem?_eq_some_iff.1 hi).1; rw [HN.out] at this; exact this) hi)
        go_wp2_with fail
        go_ret
        refine ⟨?_, Below.refl _ _⟩
        rw [HF.out]
        rfl
end Go.Proofs.YtbefmcagpmgkiaaDoor
