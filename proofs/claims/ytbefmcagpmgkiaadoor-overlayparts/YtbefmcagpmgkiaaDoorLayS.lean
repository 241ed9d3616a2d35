/- Entries held against each other; the document's Same, Size; the law's own. -/
import Derived.Test.YtbefmcagpmgkiaaDoorLayC
import Derived.Laws.StructEq
namespace Go.Proofs.YtbefmcagpmgkiaaDoor
open Go.ChangeShapes Go.WideShapes Go.ChangeAt Go.RowKit Go.Deep
set_option linter.unusedVariables false
theorem en_eq (x y : En) : (x = y) ↔ (x.p = y.p ∧ x.k = y.k ∧ x.m = y.m ∧ x.b = y.b) := by
  obtain ⟨p, k, m, b⟩ := x
  obtain ⟨p', k', m', b'⟩ := y
  simp [En.p, En.k, En.m, En.b]
theorem equal_entry (d : Nat) (x y : En) (w : World) : (Op.equalIn (d + 2) 34 (ag x) (ag y)).run Tryd.prog w = .ok (decide (x = y)) w := by
  unfold ag
  rw [run_equalIn_struct w (d + 1) 34 _ _ (by simp [Program.fieldsOf, Tryd.underlying34]) (by kernel_rfl)]
  have e1 := tx_eq x.p y.p
  have e4 := tx_eq x.b y.b
  have ex : decide (x = y) = (decide (x.p = y.p) && (decide (x.k = y.k) && (decide (x.m = y.m) && decide (x.b = y.b)))) := by
    rw [Bool.eq_iff_iff]
    simp [en_eq]
  rw [ex]
  simp only [Program.fieldsOf, Tryd.underlying34, Op.eqFields]
  simp [part, isAgg, run_underlying Tryd.underlying9, run_underlying Tryd.underlying3, run_equalIn_string w d 9 _ _ Tryd.underlying9, run_equalIn_int w d 3 .i64 .i64 _ _ Tryd.underlying3, e1, e4]
  by_cases h1 : x.p = y.p <;> by_cases h2 : x.k = y.k <;> by_cases h3 : x.m = y.m <;> by_cases h4 : x.b = y.b <;> simp [h1, h2, h3, h4]
theorem neq_entry (x y : En) (w : World) : (binOp .neq 34 (ag x) (ag y)).run Tryd.prog w = .ok (.bool (!decide (x = y))) w := by
  have e : (Op.equal 34 (ag x) (ag y)).run Tryd.prog w = .ok (decide (x = y)) w := equal_entry 9998 x y w
  unfold ag at e ⊢
  simp [binOp, e]
theorem guardE : Tryd.prog.eqGuardType Tryd.prog.depth 34 = false := by kernel_rfl
set_option maxRecDepth 100000 in
set_option maxHeartbeats 4000000 in
theorem sameE_is (l1 l2 : List En) (n1 n2 c1 c2 : Nat) (a1 a2 : Option Addr) (w : World) (h1 : l1.length = n1) (h2 : l2.length = n2) (b1 : n1 ≤ 140737488355328) (b2 : n2 ≤ 140737488355328) (i1 : InE w a1 l1) (i2 : InE w a2 l2) :
    Calls Tryd.prog 14 #[.slice a1 n1 c1, .slice a2 n2 c2] w fun e w' => e = .returned (.bool (decide (l1 = l2))) ∧ Below w.heap.size w w' := by
  by_cases hne : n1 = n2
  · subst hne
    have H1 : Hid (l1.length = n1) := h1
    have H2 : Hid (l2.length = n1) := h2
    have I1 : Hid (InE w a1 l1) := i1
    have I2 : Hid (InE w a2 l2) := i2
    obtain ⟨r, hr⟩ : ∃ r, r = decide (l1 = l2) := ⟨_, rfl⟩
    have HR : Hid (r = decide (l1 = l2)) := hr
    rw [← hr]
    clear h1 h2 i1 i2 hr
    go_enter Tryd.func14, Tryd.ntmps14
    go_wp2_with fail
    go_loopg [5] n1 (fun g i wr => ∃ (j : Nat), j ≤ n1 ∧ g = n1 - j ∧ i = .int .i64 j ∧ Hid (l1.take j = l2.take j) ∧ Hid (Below w.heap.size w wr))
    case atStart => exact ⟨0, Nat.zero_le _, rfl, rfl, rfl, Below.refl _ _⟩
    case round =>
      obtain ⟨j, hj, rfl, rfl, HT, HW⟩ := hrel
      by_cases hlt : j < n1
      · have j1 : (j : Int) < (n1 : Int) := by omega
        obtain ⟨x, hx⟩ : ∃ x, l1[j]? = some x := ⟨l1[j]'(by rw [H1.out]; exact hlt), by simp [H1.out, hlt]⟩
        obtain ⟨y, hy⟩ : ∃ y, l2[j]? = some y := ⟨l2[j]'(by rw [H2.out]; exact hlt), by simp [H2.out, hlt]⟩
        obtain ⟨p1, o1, rfl, hb1, hr1⟩ := I1.out.at hx
        obtain ⟨p2, o2, rfl, hb2, hr2⟩ := I2.out.at hy
        obtain ⟨c0, c1', c2', c3⟩ := hr1.below HW.out hb1
        obtain ⟨d0, d1, d2, d3⟩ := hr2.below HW.out hb2
        have HX : Hid (l1[j]? = some x) := hx
        have HY : Hid (l2[j]? = some y) := hy
        have hq : ∀ w, (Op.equalIn 10000 34 (.agg #[.string (tx x.p), .int .i64 x.k, .int .i64 x.m, .string (tx x.b)]) (.agg #[.string (tx y.p), .int .i64 y.k, .int .i64 y.m, .string (tx y.b)])).run Tryd.prog w = .ok (decide (x = y)) w := equal_entry 9998 x y
        have hg := guardE
        clear hx hy hr1 hr2
        by_cases hxy : x = y
        · have e1 : decide (x = y) = true := by simp [hxy]
          rw [e1] at hq
          have HXY : Hid (x = y) := hxy
          clear e1 hxy
          go_wp2_with fail
          go_quiet (fail)
          go_wp2_with fail
          go_roundg (n1 - (j + 1))
          case measure => omega
          case rel =>
            refine ⟨j + 1, by omega, rfl, by go_num, ?_, below_drewN HW.out _⟩
            have g1 := List.getElem?_eq_some_iff.1 HX.out
            have g2 := List.getElem?_eq_some_iff.1 HY.out
            obtain ⟨q1, e1⟩ := g1
            obtain ⟨q2, e2⟩ := g2
            show _ = _
            rw [List.take_succ_eq_append_getElem q1, List.take_succ_eq_append_getElem q2, HT.out, e1, e2, HXY.out]
        · have e1 : decide (x = y) = false := by simp [hxy]
          rw [e1] at hq
          have HF : Hid (r = false) := by
            show _ = _
            rw [HR.out, decide_eq_false_iff_not]
            intro e
            subst e
            have := HX.out.symm.trans HY.out
            exact hxy (Option.some.inj this)
          clear e1 hxy
          go_wp2_with fail
          go_quiet (fail)
          go_wp2_with fail
          go_ret
          exact ⟨by rw [HF.out]; rfl, below_drewN HW.out _⟩
      · have e : j = n1 := by omega
        subst e
        have j1 : ¬ (j : Int) < (j : Int) := by omega
        have HF : Hid (r = true) := by
          show _ = _
          rw [HR.out, decide_eq_true_iff]
          have := HT.out
          rwa [List.take_of_length_le (by rw [H1.out]; omega), List.take_of_length_le (by rw [H2.out]; omega)] at this
        go_wp2_with fail
        go_ret
        exact ⟨by rw [HF.out]; rfl, HW.out⟩
  · have hd : decide (l1 = l2) = false := by
      rw [decide_eq_false_iff_not]
      intro e
      subst e
      omega
    rw [hd]
    have e1 : ¬ ((n1 : Nat) : Int) = ((n2 : Nat) : Int) := by omega
    clear h1 h2 i1 i2
    go_enter Tryd.func14, Tryd.ntmps14
    go_wp2_with fail
    go_ret
    exact ⟨rfl, Below.refl _ _⟩
end Go.Proofs.YtbefmcagpmgkiaaDoor
