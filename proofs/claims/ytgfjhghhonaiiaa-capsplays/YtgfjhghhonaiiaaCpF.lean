/- What New did not make: every call of it. -/
import Derived.Test.YtgfjhghhonaiiaaCpE
namespace Go.Proofs.Ytgfjhghhonaiiaa
open Go.ChangeShapes Go.WideShapes Go.ChangeAt Go.RowKit Go.Deep Go.Maps
set_option linter.unusedVariables false
set_option linter.unusedSimpArgs false
/-- no table: nil, or a plain one -/
def NoT (w : World) (v : Value) : Prop := v = .pointer none ∨ ∃ b, v = .pointer (some ⟨b, 0, none⟩) ∧ w.heap[b]? = some (.cells #[.map none, .map none] 41)
set_option maxRecDepth 100000 in
theorem none_yes (w : World) (v : Value) (h : NoT w v) : Calls Try.prog 22 #[v] w fun e w' => e = .returned (.bool true) ∧ w' = w := by
  rcases h with rfl | ⟨b, rfl, hb⟩
  · go_enter Try.func22, Try.ntmps22
    go_wp2_with fail
    go_ret
    exact ⟨rfl, rfl⟩
  · have c0 : w.cell? ⟨b, 0, none⟩ = some (.map none) := by simp [World.cell?, hb]
    clear hb
    go_enter Try.func22, Try.ntmps22
    have hq : (binOp BinOp.eql 36 (.map none) (.map none)).run Try.prog w = .ok (.bool true) w := by rfl
    go_wp2_with fail
    go_ret
    exact ⟨rfl, rfl⟩
set_option maxRecDepth 100000 in
set_option maxHeartbeats 4000000 in
theorem tenant_none (w : World) (v : Value) (h : NoT w v) (i : Int) (q : Int) : Calls Try.prog 10 #[v, .int .i64 i, .int .i64 q] w fun e w' => e = .returned (.int .i64 1) ∧ w' = w := by
  have KN : Hid (∀ W, W = w → Calls Try.prog 22 #[v] W fun e w' => e = .returned (.bool true) ∧ w' = W) := fun W hW => by rw [hW]; exact none_yes w v h
  clear h
  go_enter Try.func10, Try.ntmps10
  go_wp2_with fail
  refine (KN.out _ rfl).mono ?_
  rintro e w1 ⟨rfl, hw⟩
  obtain rfl := hw.symm
  clear hw
  go_wp2_with fail
  go_ret
  exact ⟨rfl, rfl⟩
set_option maxRecDepth 100000 in
set_option maxHeartbeats 4000000 in
theorem check_none (w : World) (v : Value) (h : NoT w v) (i : Int) (r : Int) : Calls Try.prog 25 #[v, .int .i64 i, .int .i64 r] w fun e w' => e = .returned (.int .i64 1) ∧ w' = w := by
  have KN : Hid (∀ W, W = w → Calls Try.prog 22 #[v] W fun e w' => e = .returned (.bool true) ∧ w' = W) := fun W hW => by rw [hW]; exact none_yes w v h
  clear h
  go_enter Try.func25, Try.ntmps25
  go_wp2_with fail
  refine (KN.out _ rfl).mono ?_
  rintro e w1 ⟨rfl, hw⟩
  obtain rfl := hw.symm
  clear hw
  go_wp2_with fail
  go_ret
  exact ⟨rfl, rfl⟩
set_option maxRecDepth 100000 in
set_option maxHeartbeats 4000000 in
theorem grant_none (w : World) (v : Value) (h : NoT w v) (i : Int) (r : Int) : Calls Try.prog 11 #[v, .int .i64 i, .int .i64 r] w fun e w' => e = .returned (.int .i64 1) ∧ w' = w := by
  have KN : Hid (∀ W, W = w → Calls Try.prog 25 #[v, .int .i64 i, .int .i64 r] W fun e w' => e = .returned (.int .i64 1) ∧ w' = W) := fun W hW => by rw [hW]; exact check_none w v h i r
  clear h
  go_enter Try.func11, Try.ntmps11
  go_wp2_with fail
  refine (KN.out _ rfl).mono ?_
  rintro e w1 ⟨rfl, hw⟩
  obtain rfl := hw.symm
  clear hw
  go_wp2_with fail
  go_ret
  exact ⟨rfl, rfl⟩
set_option maxRecDepth 100000 in
set_option maxHeartbeats 4000000 in
theorem revoke_none (w : World) (v : Value) (h : NoT w v) (i : Int) (r : Int) : Calls Try.prog 16 #[v, .int .i64 i, .int .i64 r] w fun e w' => e = .returned (.int .i64 1) ∧ w' = w := by
  have KN : Hid (∀ W, W = w → Calls Try.prog 25 #[v, .int .i64 i, .int .i64 r] W fun e w' => e = .returned (.int .i64 1) ∧ w' = W) := fun W hW => by rw [hW]; exact check_none w v h i r
  clear h
  go_enter Try.func16, Try.ntmps16
  go_wp2_with fail
  refine (KN.out _ rfl).mono ?_
  rintro e w1 ⟨rfl, hw⟩
  obtain rfl := hw.symm
  clear hw
  go_wp2_with fail
  go_ret
  exact ⟨rfl, rfl⟩
set_option maxRecDepth 100000 in
set_option maxHeartbeats 4000000 in
theorem may_none (w : World) (v : Value) (h : NoT w v) (i : Int) (r : Int) : Calls Try.prog 17 #[v, .int .i64 i, .int .i64 r] w fun e w' => e = .returned (.bool false) ∧ w' = w := by
  have KN : Hid (∀ W, W = w → Calls Try.prog 22 #[v] W fun e w' => e = .returned (.bool true) ∧ w' = W) := fun W hW => by rw [hW]; exact none_yes w v h
  clear h
  go_enter Try.func17, Try.ntmps17
  go_wp2_with fail
  refine (KN.out _ rfl).mono ?_
  rintro e w1 ⟨rfl, hw⟩
  obtain rfl := hw.symm
  clear hw
  go_wp2_with fail
  go_ret
  exact ⟨rfl, rfl⟩
set_option maxRecDepth 100000 in
set_option maxHeartbeats 4000000 in
theorem quota_none (w : World) (v : Value) (h : NoT w v) (i : Int) : Calls Try.prog 15 #[v, .int .i64 i] w fun e w' => e = .returned (.tuple #[.int .i64 0, .bool false]) ∧ w' = w := by
  have KN : Hid (∀ W, W = w → Calls Try.prog 22 #[v] W fun e w' => e = .returned (.bool true) ∧ w' = W) := fun W hW => by rw [hW]; exact none_yes w v h
  clear h
  go_enter Try.func15, Try.ntmps15
  go_wp2_with fail
  refine (KN.out _ rfl).mono ?_
  rintro e w1 ⟨rfl, hw⟩
  obtain rfl := hw.symm
  clear hw
  go_wp2_with fail
  go_ret2
  exact ⟨rfl, rfl⟩
set_option maxRecDepth 100000 in
set_option maxHeartbeats 4000000 in
theorem fits_none (w : World) (v : Value) (h : NoT w v) (i : Int) (u : Int) (m : Int) : Calls Try.prog 18 #[v, .int .i64 i, .int .i64 u, .int .i64 m] w fun e w' => e = .returned (.int .i64 1) ∧ w' = w := by
  have KN : Hid (∀ W, W = w → Calls Try.prog 22 #[v] W fun e w' => e = .returned (.bool true) ∧ w' = W) := fun W hW => by rw [hW]; exact none_yes w v h
  clear h
  go_enter Try.func18, Try.ntmps18
  go_wp2_with fail
  refine (KN.out _ rfl).mono ?_
  rintro e w1 ⟨rfl, hw⟩
  obtain rfl := hw.symm
  clear hw
  go_wp2_with fail
  go_ret
  exact ⟨rfl, rfl⟩
set_option maxRecDepth 100000 in
set_option maxHeartbeats 4000000 in
theorem copy_none (w : World) (v : Value) (h : NoT w v) : Calls Try.prog 9 #[v] w fun e w' => e = .returned (.pointer none) ∧ w' = w := by
  have KN : Hid (∀ W, W = w → Calls Try.prog 22 #[v] W fun e w' => e = .returned (.bool true) ∧ w' = W) := fun W hW => by rw [hW]; exact none_yes w v h
  clear h
  go_enter Try.func9, Try.ntmps9
  go_wp2_with fail
  refine (KN.out _ rfl).mono ?_
  rintro e w1 ⟨rfl, hw⟩
  obtain rfl := hw.symm
  clear hw
  go_wp2_with fail
  go_ret
  exact ⟨rfl, rfl⟩
set_option maxRecDepth 100000 in
set_option maxHeartbeats 4000000 in
theorem tenants_none (w : World) (v : Value) (h : NoT w v) : Calls Try.prog 19 #[v] w fun e w' => e = .returned (.slice none 0 0) ∧ w' = w := by
  have KN : Hid (∀ W k, W = w → Calls Try.prog 15 #[v, .int .i64 k] W fun e w' => e = .returned (.tuple #[.int .i64 0, .bool false]) ∧ w' = W) := fun W k hW => by rw [hW]; exact quota_none w v h k
  clear h
  go_enter Try.func19, Try.ntmps19
  go_wp2_with fail
  go_loopg [3, 4] 8 (fun g V i wr => ∃ j : Nat, j ≤ 8 ∧ g = 8 - j ∧ i = .int .i64 ((j : Int) + 1) ∧ V = .slice none 0 0 ∧ Hid (wr = w))
  case atStart => exact ⟨0, Nat.zero_le _, rfl, rfl, rfl, rfl⟩
  obtain ⟨j, hj, rfl, rfl, rfl, RW⟩ := hrel
  by_cases hlt : j < 8
  · have j1 : decide ((j : Int) + 1 ≤ 8) = true := by rw [decide_eq_true_eq]; omega
    have ri : IntKind.i64.wrap ((j : Int) + 1 + 1) = (j : Int) + 1 + 1 := by rw [IntKind.wrap_i64]; omega
    go_wp2_with fail
    refine (KN.out _ _ RW.out).mono ?_
    rintro e w1 ⟨rfl, hw⟩
    obtain rfl := hw.symm
    clear hw
    go_wp2_with fail
    go_roundg (8 - (j + 1))
    case measure => omega
    case rel => exact ⟨j + 1, by omega, rfl, by push_cast; rfl, rfl, RW⟩
  · have j1 : decide ((j : Int) + 1 ≤ 8) = false := by rw [decide_eq_false_iff_not]; omega
    go_wp2_with fail
    go_ret
    exact ⟨rfl, RW.out⟩
set_option maxRecDepth 100000 in
set_option maxHeartbeats 4000000 in
theorem roots_none (w : World) (v : Value) (h : NoT w v) (i : Int) : Calls Try.prog 20 #[v, .int .i64 i] w fun e w' => e = .returned (.slice none 0 0) ∧ w' = w := by
  have KN : Hid (∀ W k, W = w → Calls Try.prog 17 #[v, .int .i64 i, .int .i64 k] W fun e w' => e = .returned (.bool false) ∧ w' = W) := fun W k hW => by rw [hW]; exact may_none w v h i k
  clear h
  go_enter Try.func20, Try.ntmps20
  go_wp2_with fail
  go_loopg [5, 6] 6 (fun g V i wr => ∃ j : Nat, j ≤ 6 ∧ g = 6 - j ∧ i = .int .i64 ((j : Int) + 1) ∧ V = .slice none 0 0 ∧ Hid (wr = w))
  case atStart => exact ⟨0, Nat.zero_le _, rfl, rfl, rfl, rfl⟩
  obtain ⟨j, hj, rfl, rfl, rfl, RW⟩ := hrel
  by_cases hlt : j < 6
  · have j1 : decide ((j : Int) + 1 ≤ 6) = true := by rw [decide_eq_true_eq]; omega
    have ri : IntKind.i64.wrap ((j : Int) + 1 + 1) = (j : Int) + 1 + 1 := by rw [IntKind.wrap_i64]; omega
    go_wp2_with fail
    refine (KN.out _ _ RW.out).mono ?_
    rintro e w1 ⟨rfl, hw⟩
    obtain rfl := hw.symm
    clear hw
    go_wp2_with fail
    go_roundg (6 - (j + 1))
    case measure => omega
    case rel => exact ⟨j + 1, by omega, rfl, by push_cast; rfl, rfl, RW⟩
  · have j1 : decide ((j : Int) + 1 ≤ 6) = false := by rw [decide_eq_false_iff_not]; omega
    go_wp2_with fail
    go_ret
    exact ⟨rfl, RW.out⟩
theorem cell_int {W : World} {base : Nat} {u : TypeId} {v : Value} (hu : Try.prog.underlying u = some (.int .i64)) (h : Cell.okWide Try.prog W .any base u v) : ∃ x, v = .int .i64 x ∧ InI x := by
  unfold Cell.okWide Cell.ok at h
  rw [hu] at h
  cases v <;> simp at h
  obtain ⟨rfl, h2⟩ := h
  exact ⟨_, rfl, by simpa [InI, IntKind.has, IntKind.min, IntKind.max, IntKind.signed, IntKind.bits] using h2⟩
theorem list6 {A : Type} (l : List A) (h : l.length = 6) : ∃ a0 a1 a2 a3 a4 a5, l = [a0, a1, a2, a3, a4, a5] := by
  match l, h with
  | [a, b, c, d, e, f], _ => exact ⟨a, b, c, d, e, f, rfl⟩
theorem typesCa : Try.prog.cellTypes Try.prog.depth 30 = some [3, 3, 3, 3, 3, 3] := by kernel_rfl
theorem cellsCa : Try.prog.cellsOf 30 = 6 := by kernel_rfl
theorem open_cact {W : World} {base : Nat} {cs : Array Value} (hz : cs.size = Try.prog.cellsOf 30) (h : Row.okWide Try.prog W .any base 30 cs) :
    ∃ (x0 x1 x2 x3 x4 x5 : Int), cs = #[.int .i64 x0, .int .i64 x1, .int .i64 x2, .int .i64 x3, .int .i64 x4, .int .i64 x5] ∧ InI x0 ∧ InI x1 ∧ InI x2 ∧ InI x3 ∧ InI x4 ∧ InI x5 := by
  obtain ⟨ts, h1, _, h3⟩ := h
  rw [typesCa] at h1
  cases h1
  rw [cellsCa] at hz
  obtain ⟨l⟩ := cs
  obtain ⟨v0, v1, v2, v3, v4, v5, rfl⟩ := list6 l (by simpa using hz)
  obtain ⟨u0, e0, g0⟩ := h3 0 v0 rfl
  obtain ⟨u1, e1, g1⟩ := h3 1 v1 rfl
  obtain ⟨u2, e2, g2⟩ := h3 2 v2 rfl
  obtain ⟨u3, e3, g3⟩ := h3 3 v3 rfl
  obtain ⟨u4, e4, g4⟩ := h3 4 v4 rfl
  obtain ⟨u5, e5, g5⟩ := h3 5 v5 rfl
  cases e0
  cases e1
  cases e2
  cases e3
  cases e4
  cases e5
  obtain ⟨x0, rfl, i0⟩ := cell_int Try.underlying3 g0
  obtain ⟨x1, rfl, i1⟩ := cell_int Try.underlying3 g1
  obtain ⟨x2, rfl, i2⟩ := cell_int Try.underlying3 g2
  obtain ⟨x3, rfl, i3⟩ := cell_int Try.underlying3 g3
  obtain ⟨x4, rfl, i4⟩ := cell_int Try.underlying3 g4
  obtain ⟨x5, rfl, i5⟩ := cell_int Try.underlying3 g5
  exact ⟨x0, x1, x2, x3, x4, x5, rfl, i0, i1, i2, i3, i4, i5⟩
end Go.Proofs.Ytgfjhghhonaiiaa
