/- overlay's maySee, isOpenAbove, sceneOf, Tree. -/
import Derived.Test.YtbefmcagpmgkiaaDoorOvQ
import Derived.Test.YtbefmcagpmgkiaaDoorTrlG2
namespace Go.Proofs.YtbefmcagpmgkiaaDoor
open Go.ChangeShapes Go.WideShapes Go.ChangeAt Go.RowKit Go.Deep Go.Maps
set_option linter.unusedVariables false
/-- may a tree have an entry -/
def mS (x : En) : Bool := (decide (x.k = 1) || decide (x.k = 2)) && decide (fo x = 0)
theorem chk_one (x : En) : ((chk [x]).2 = 0) ↔ fo x = 0 := by
  rw [chk_iff]
  simp
theorem mS_yes {x : En} {r : Int} (hk : x.k = 1 ∨ x.k = 2) (h : r = 0 ↔ fo x = 0) : mS x = (r == 0) := by
  have e1 : (decide (x.k = 1) || decide (x.k = 2)) = true := by rcases hk with e | e <;> rw [e] <;> rfl
  unfold mS
  rw [e1, Bool.true_and]
  apply Bool.eq_iff_iff.2
  rw [decide_eq_true_iff, beq_iff_eq]
  exact h.symm
theorem mS_no {x : En} (hk : ¬ (x.k = 1 ∨ x.k = 2)) : mS x = false := by
  have e1 : (decide (x.k = 1) || decide (x.k = 2)) = false := by
    rw [Bool.or_eq_false_iff, decide_eq_false_iff_not, decide_eq_false_iff_not]
    exact ⟨fun e => hk (.inl e), fun e => hk (.inr e)⟩
  unfold mS
  rw [e1, Bool.false_and]
set_option maxRecDepth 100000 in
set_option maxHeartbeats 4000000 in
theorem maySee_is (x : En) (hx : x.p.length ≤ 140737488355328 ∧ x.b.length ≤ 140737488355328) (w : World) :
    Calls Tryd.prog 58 #[ag x] w fun e w' => e = .returned (.bool (mS x)) ∧ Below w.heap.size w w' := by
  have KC : Hid (∀ (w : World) (g : Nat), InE w (some ⟨g, 0, none⟩) [x] → Calls Tryd.prog 26 #[.slice (some ⟨g, 0, none⟩) 1 1] w fun e w' => e = .returned (.tuple #[.int .i64 ((chk [x]).1 : Nat), .int .i64 (chk [x]).2]) ∧ Below w.heap.size w w') := fun w g h => check_is [x] 1 rfl (by omega) (fun y hy => by simp at hy; subst hy; exact hx) _ 1 w h
  have HC : Hid ((chk [x]).2 = 0 ↔ fo x = 0) := chk_one x
  obtain ⟨p, k, m, B⟩ := x
  obtain ⟨S, hS⟩ : ∃ S, S = mS (p, k, m, B) := ⟨_, rfl⟩
  rw [← hS]
  have HS : Hid (S = mS (p, k, m, B)) := hS
  generalize hr : chk [(p, k, m, B)] = r at *
  clear hS hr hx
  unfold ag
  simp only [En.p, En.k, En.m, En.b]
  obtain ⟨w1, hw1⟩ : ∃ w1, w1 = (w.alloc (.cells #[.string (tx p), .int .i64 k, .int .i64 m, .string (tx B)] 34)).alloc (.cells #[.string (tx p), .int .i64 k, .int .i64 m, .string (tx B)] 34) := ⟨_, rfl⟩
  have B1 : Hid (Below w.heap.size w w1) := by rw [hw1]; exact below2 _ _ _
  have I1 : Hid (InE w1 (some ⟨w.heap.size + 1, 0, none⟩) [(p, k, m, B)]) := by
    refine .inr ⟨w.heap.size + 1, 0, rfl, by rw [hw1]; simp, fun i x hx => ?_⟩
    have hi : i = 0 := by
      have := (List.getElem?_eq_some_iff.1 hx).1
      simpa using this
    subst hi
    simp at hx
    subst hx
    exact ec_cells (w := w1) (g := w.heap.size + 1) (t := 34) (by rw [hw1]; exact heap2 _ _ _)
  have HW1 : Hid (w1 = (w.alloc (.cells #[.string (tx p), .int .i64 k, .int .i64 m, .string (tx B)] 34)).alloc (.cells #[.string (tx p), .int .i64 k, .int .i64 m, .string (tx B)] 34)) := hw1
  clear hw1
  by_cases hk : k = 1 ∨ k = 2
  · have HS2 : Hid (S = (r.2 == 0)) := by show _ = _; rw [HS.out]; exact mS_yes hk HC.out
    rw [HS2.out]
    clear HS HS2 HC
    rcases hk with rfl | rfl
    · go_enter Tryd.func58, Tryd.ntmps58
      go_wp2_with fail
      rw [show World.alloc _ _ = w1 from HW1.out.symm]
      refine (KC.out w1 _ I1.out).mono ?_
      rintro e w2 ⟨rfl, hb2⟩
      have B2 : Hid (Below w.heap.size w w2) := B1.out.trans (hb2.mono B1.out.size)
      clear hb2
      go_wp2_with fail
      go_ret
      exact ⟨rfl, B2.out⟩
    · go_enter Tryd.func58, Tryd.ntmps58
      go_wp2_with fail
      rw [show World.alloc _ _ = w1 from HW1.out.symm]
      refine (KC.out w1 _ I1.out).mono ?_
      rintro e w2 ⟨rfl, hb2⟩
      have B2 : Hid (Below w.heap.size w w2) := B1.out.trans (hb2.mono B1.out.size)
      clear hb2
      go_wp2_with fail
      go_ret
      exact ⟨rfl, B2.out⟩
  · have HS2 : Hid (S = false) := by show _ = _; rw [HS.out]; exact mS_no hk
    rw [HS2.out]
    have k1 : (k == 1) = false := by simpa using fun e => hk (.inl e)
    have k2 : (k == 2) = false := by simpa using fun e => hk (.inr e)
    have k1n : (k != 1) = true := by simpa using fun e => hk (.inl e)
    have k2n : (k != 2) = true := by simpa using fun e => hk (.inr e)
    clear HS HS2 HC hk KC
    go_enter Tryd.func58, Tryd.ntmps58
    go_wp2_with fail
    go_ret
    exact ⟨rfl, (Below.refl _ _).alloc (Nat.le_refl _) _⟩
/-- is what is above a path the root, or a directory -/
def upP (q : Tx) : Tx := jn (prt q).dropLast
def oA (T : Tx → Option En) (q : Tx) : Bool := decide (upP q = []) || decide (kd T (upP q) = 2)
theorem upP_len (q : Tx) : (upP q).length ≤ 200 := by
  have hf := prt_facts q
  unfold upP
  exact jn_le8 (fun p hp => hf.1 p (List.dropLast_subset _ hp)) (by rw [List.length_dropLast]; omega)
set_option maxRecDepth 100000 in
set_option maxHeartbeats 4000000 in
theorem isOpenAbove_is (w : World) (b n : Nat) (T : Tx → Option En) (q : Tx) (hq : q.length ≤ 281474976710656) (hs : Sc w b n T) :
    Calls Tryd.prog 40 #[.map (some b), .string (tx q)] w fun e w' => e = .returned (.bool (oA T q)) ∧ Below w.heap.size w w' := by
  have KU : Hid (Calls Tryd.prog 24 #[.string (tx q)] w fun e w' => e = .returned (.tuple #[.string (tx (upP q)), .bool (!(prt q).isEmpty)]) ∧ Below w.heap.size w w') := up_is q hq w
  have HS : Hid (Sc w b n T) := hs
  have hul := upP_len q
  obtain ⟨S, hS⟩ : ∃ S, S = oA T q := ⟨_, rfl⟩
  rw [← hS]
  have HO : Hid (S = (decide (upP q = []) || decide (kd T (upP q) = 2))) := hS
  have hfk := field_kind
  clear hs hS
  generalize upP q = u at *
  generalize (!(prt q).isEmpty) = bb at *
  go_enter Tryd.func40, Tryd.ntmps40
  go_wp2_with fail
  refine KU.out.mono ?_
  rintro e w1 ⟨rfl, hb1⟩
  have B1 : Hid (Below w.heap.size w w1) := hb1
  have hlook := (HS.out.keep hb1).look u (by omega)
  clear hb1 KU
  by_cases hu : u = []
  · subst hu
    have e0 : (tx []).toList = [] := tx_toList []
    have HO2 : Hid (S = true) := by show _ = _; rw [HO.out]; rfl
    go_wp2_with fail
    go_ret
    refine ⟨?_, B1.out⟩
    rw [HO2.out]
    rfl
  · have hte := tx_toList u
    have hue : u.isEmpty = false := by simpa using hu
    have HO2 : Hid (S = (kd T u == 2)) := by
      show _ = _
      rw [HO.out, decide_eq_false hu, Bool.false_or]
      apply Bool.eq_iff_iff.2
      rw [decide_eq_true_iff, beq_iff_eq]
    unfold kd at HO2
    clear HO
    generalize (T u).getD noE = z at *
    obtain ⟨zp, zk, zm, zb⟩ := z
    have HO3 : Hid (S = (zk == 2)) := HO2
    simp only [ag, En.p, En.k, En.m, En.b] at hlook
    clear HO2
    go_wp2_with fail
    go_ret
    refine ⟨?_, B1.out⟩
    rw [HO3.out]
    try rfl
end Go.Proofs.YtbefmcagpmgkiaaDoor
