/- overlay's drop. -/
import Derived.Test.YtbefmcagpmgkiaaDoorOvA
import Derived.Test.YtbefmcagpmgkiaaDoorTrlB
namespace Go.Proofs.YtbefmcagpmgkiaaDoor
open Go.ChangeShapes Go.WideShapes Go.ChangeAt Go.RowKit Go.Deep Go.Maps
set_option linter.unusedVariables false
/-- what is left behind drop -/
def dropT (T : Tx → Option En) (p : Tx) : Tx → Option En := fun q => if ((T p).getD noE).k = 2 then (if inn p q = true then none else T q) else (if q = p then none else T q)
/-- what is there while those 'left' are still to come -/
def swT (T : Tx → Option En) (p : Tx) (left : Tx → Bool) : Tx → Option En := fun q => if (inn p q && !left q) = true then none else T q
theorem field_kind (P B : ByteArray) (k m : Int) (w : World) : (Instr.field 34 (.agg #[.string P, .int .i64 k, .int .i64 m, .string B]) 1).run Tryd.prog w = .ok (.int .i64 k) w := by
  simp [Instr.field, go_sem, asAgg]
theorem grown_andBelow {a b c : World} {row : Option Nat} (h : a.grownBy b row) (hb : Below b.heap.size b c) : a.grownBy c row :=
  ⟨hb.os.trans h.os, hb.tape.trans h.tape, hb.output.trans h.output, Nat.le_trans h.size hb.size, fun i hi hne => (hb.block i (Nat.lt_of_lt_of_le hi h.size)).trans (h.block i hi hne)⟩
set_option maxRecDepth 100000 in
set_option maxHeartbeats 4000000 in
theorem drop_is (w : World) (b n : Nat) (T : Tx → Option En) (p : Tx) (hp : p.length ≤ 140737488355328) (hs : Sc w b n T) :
    Calls Tryd.prog 46 #[.map (some b), .string (tx p)] w fun e w' => e = .returned (.tuple #[]) ∧ Sc w' b n (dropT T p) ∧ w.grownBy w' (some b) := by
  have hlook := hs.look p hp
  have hfk := field_kind
  have HS : Hid (Sc w b n T) := hs
  have KI : Hid (∀ q W, Calls Tryd.prog 65 #[.string (tx p), .string (tx q)] W fun e w' => e = .returned (.bool (inn p q)) ∧ Below W.heap.size W w') := fun q W => in_is p q (by omega) W
  by_cases hk : ((T p).getD noE).k = 2
  · have HD : Hid (dropT T p = fun q => if inn p q = true then none else T q) := by
      show _ = _
      funext q
      unfold dropT
      rw [if_pos hk]
    rw [HD.out]
    have HT0 : Hid (swT T p (fun q => (T q).isSome) = T) := by
      show _ = _
      funext q
      unfold swT
      cases h : T q <;> simp [h]
    generalize hx : (T p).getD noE = x at *
    unfold ag at hlook
    rw [hk] at hlook
    obtain ⟨X, hX⟩ : ∃ X, X = tx p := ⟨_, rfl⟩
    rw [← hX] at hlook KI ⊢
    have HX : Hid (X = tx p) := hX
    clear hs hx hX
    go_enter Tryd.func46, Tryd.ntmps46
    go_wp2_with (first | (at_range; refine wpList_range_sc rfl (.tmp 12) rfl b n T rfl HS.out ?_; intro w0 cnt0 hrg0 hg0 hs0))
    go_frame
    go_loopw [4] (fun _ wr => ∃ (left : Tx → Bool) (cnt : Nat), Hid (Rg wr b w.heap.size n (swT T p left) left cnt) ∧ Hid (w.grownBy wr (some b)))
      (fun _ wr => wr.rangeLeft b w.heap.size)
    case atStart => exact ⟨fun q => (T q).isSome, cnt0, (by show Rg _ _ _ _ _ _ _; rw [HT0.out]; exact hrg0), hg0.but _⟩
    case round =>
      obtain ⟨left, cnt, RG, GW⟩ := hrel
      go_wp2_with (first | (at_next; refine wpList_next_sc rfl (.tmp 13) rfl b w.heap.size n _ left cnt rfl RG.out ?_ ?_))
      · intro _ hl0
        go_wp2
        go_end0
        refine ⟨rfl, ?_, GW.out⟩
        have := RG.out.sc
        have e : swT T p left = fun q => if inn p q = true then none else T q := by
          funext q
          unfold swT
          rw [hl0 q]
          simp
        rwa [e] at this
      · intro q yp yk ym yb w1 cnt1 hql hlq hTq hrg1 hlt hg1 hs1 hen
        have GW1 : Hid (w.grownBy w1 (some b)) := GW.out.andThen hg1 (fun j hj => by cases hj; exact Or.inl (Nat.le_refl _))
        have R1 : Hid (Rg w1 b w.heap.size n (swT T p left) (fun z => left z && !decide (z = q)) cnt1) := hrg1
        have hqs : (tx q).size ≤ maxLen := by simp [tx, ByteArray.size, maxLen]; omega
        clear hrg1 hTq
        go_wp2_with fail
        refine (KI.out q w1).mono ?_
        rintro e w2 ⟨rfl, hb2⟩
        have GW2 : Hid (w.grownBy w2 (some b)) := grown_andBelow GW1.out hb2
        have R2 : Hid (Rg w2 b w.heap.size n (swT T p left) (fun z => left z && !decide (z = q)) cnt1) := R1.out.keep hb2
        clear hb2
        cases hin : inn p q with
        | true =>
          have HE : Hid ((fun z => if z = q then none else swT T p left z) = swT T p (fun z => left z && !decide (z = q))) := by
            show _ = _
            funext z
            unfold swT
            by_cases hz : z = q
            · subst hz
              simp [hin]
            · simp [hz]
          have HL : Hid ((fun z => (left z && !decide (z = q)) && !decide (z = q)) = fun z => left z && !decide (z = q)) := by
            show _ = _
            funext z
            cases left z <;> cases decide (z = q) <;> rfl
          go_wp2_with (first | (at_delete; refine wpList_del_rg rfl (.tmp 21) (.tmp 22) rfl b w.heap.size n _ _ cnt1 rfl R2.out q hqs rfl ?_; intro w3 cnt3 hrg3 hle hg3; rw [HE.out, HL.out] at hrg3; go_frame))
          go_roundw
          case rel => exact ⟨_, cnt3, hrg3, GW2.out.andThen hg3 (fun j hj => by cases hj; exact Or.inr rfl)⟩
          case measure => rw [hrg3.left_eq, RG.out.left_eq]; omega
        | false =>
          have HE : Hid (swT T p left = swT T p (fun z => left z && !decide (z = q))) := by
            show _ = _
            funext z
            unfold swT
            by_cases hz : z = q
            · subst hz
              simp [hin]
            · simp [hz]
          have R3 : Hid (Rg w2 b w.heap.size n (swT T p (fun z => left z && !decide (z = q))) (fun z => left z && !decide (z = q)) cnt1) := by have := R2.out; rw [HE.out] at this; exact this
          go_wp2_with fail
          go_roundw
          case rel => exact ⟨_, cnt1, R3, GW2⟩
          case measure => rw [R3.out.left_eq, RG.out.left_eq]; exact hlt
  · have HD : Hid (dropT T p = fun q => if q = p then none else T q) := by
      show _ = _
      funext q
      unfold dropT
      rw [if_neg hk]
    rw [HD.out]
    generalize hx : (T p).getD noE = x at *
    unfold ag at hlook
    obtain ⟨xp, xk, xm, xb⟩ := x
    simp only [En.p, En.k, En.m, En.b] at *
    have hkb : (xk != 2) = true := by simp [hk]
    clear hs hx
    go_enter Tryd.func46, Tryd.ntmps46
    go_wp2_with (first | (at_delete; refine wpList_del_sc rfl (.tmp 10) (.tmp 11) rfl b n T rfl HS.out p hp rfl ?_; intro w1 hs1 hg1))
    refine bodyPost_ret (results_none rfl _ _ _) rfl ?_
    exact ⟨rfl, hs1, hg1⟩
end Go.Proofs.YtbefmcagpmgkiaaDoor
