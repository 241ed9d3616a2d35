/- A call, and a message, that came in: their cells. -/
import Derived.Test.YtgdglppendkmnaaWrX
namespace Go.Proofs.Ytgdglppendkmnaa
open Go.ChangeShapes Go.WideShapes Go.ChangeAt Go.RowKit
set_option linter.unusedVariables false
theorem cell_int {W : World} {base : Nat} {u : TypeId} {v : Value} (hu : Try.prog.underlying u = some (.int .i64)) (h : Cell.okWide Try.prog W .any base u v) : ∃ x, v = .int .i64 x ∧ InI x := by
  unfold Cell.okWide Cell.ok at h
  rw [hu] at h
  cases v <;> simp at h
  obtain ⟨rfl, h2⟩ := h
  exact ⟨_, rfl, by simpa [InI, IntKind.has, IntKind.min, IntKind.max, IntKind.signed, IntKind.bits] using h2⟩
theorem cell_bool {W : World} {base : Nat} {u : TypeId} {v : Value} (hu : Try.prog.underlying u = some .bool) (h : Cell.okWide Try.prog W .any base u v) : ∃ x, v = .bool x := by
  unfold Cell.okWide Cell.ok at h
  rw [hu] at h
  cases v <;> simp at h
  exact ⟨_, rfl⟩
theorem cell_slice {W : World} {base : Nat} {u e : TypeId} {v : Value} (hu : Try.prog.underlying u = some (.slice e)) (h : Cell.okWide Try.prog W .any base u v) : ∃ a n c, v = .slice a n c := by
  unfold Cell.okWide Cell.ok at h
  rw [hu] at h
  cases v <;> simp at h
  exact ⟨_, _, _, rfl⟩
theorem list10 {A : Type} (l : List A) (h : l.length = 10) : ∃ a0 a1 a2 a3 a4 a5 a6 a7 a8 a9, l = [a0, a1, a2, a3, a4, a5, a6, a7, a8, a9] := by
  match l, h with
  | [a, b, c, d, e, f, g, i, j, k], _ => exact ⟨a, b, c, d, e, f, g, i, j, k, rfl⟩
theorem typesWa : Try.prog.cellTypes Try.prog.depth 33 = some [3, 3, 3, 3, 3, 3, 3, 3, 4, 29] := by kernel_rfl
theorem cellsWa : Try.prog.cellsOf 33 = 10 := by kernel_rfl
theorem open_wact {W : World} {base : Nat} {cs : Array Value} (hz : cs.size = Try.prog.cellsOf 33) (h : Row.okWide Try.prog W .any base 33 cs) :
    ∃ (x0 x1 x2 x3 m0 m1 m2 m3 : Int) (m4 : Bool) (a : Option Addr) (n c : Nat), cs = #[.int .i64 x0, .int .i64 x1, .int .i64 x2, .int .i64 x3, .int .i64 m0, .int .i64 m1, .int .i64 m2, .int .i64 m3, .bool m4, .slice a n c] ∧ InI x0 ∧ InI x1 ∧ InI x2 ∧ InI x3 ∧ InI m0 ∧ InI m1 ∧ InI m2 ∧ InI m3 := by
  obtain ⟨ts, h1, _, h3⟩ := h
  rw [typesWa] at h1
  cases h1
  rw [cellsWa] at hz
  obtain ⟨l⟩ := cs
  obtain ⟨v0, v1, v2, v3, v4, v5, v6, v7, v8, v9, rfl⟩ := list10 l (by simpa using hz)
  obtain ⟨u0, e0, g0⟩ := h3 0 v0 rfl
  obtain ⟨u1, e1, g1⟩ := h3 1 v1 rfl
  obtain ⟨u2, e2, g2⟩ := h3 2 v2 rfl
  obtain ⟨u3, e3, g3⟩ := h3 3 v3 rfl
  obtain ⟨u4, e4, g4⟩ := h3 4 v4 rfl
  obtain ⟨u5, e5, g5⟩ := h3 5 v5 rfl
  obtain ⟨u6, e6, g6⟩ := h3 6 v6 rfl
  obtain ⟨u7, e7, g7⟩ := h3 7 v7 rfl
  obtain ⟨u8, e8, g8⟩ := h3 8 v8 rfl
  obtain ⟨u9, e9, g9⟩ := h3 9 v9 rfl
  cases e0
  cases e1
  cases e2
  cases e3
  cases e4
  cases e5
  cases e6
  cases e7
  cases e8
  cases e9
  obtain ⟨x0, rfl, i0⟩ := cell_int Try.underlying3 g0
  obtain ⟨x1, rfl, i1⟩ := cell_int Try.underlying3 g1
  obtain ⟨x2, rfl, i2⟩ := cell_int Try.underlying3 g2
  obtain ⟨x3, rfl, i3⟩ := cell_int Try.underlying3 g3
  obtain ⟨x4, rfl, i4⟩ := cell_int Try.underlying3 g4
  obtain ⟨x5, rfl, i5⟩ := cell_int Try.underlying3 g5
  obtain ⟨x6, rfl, i6⟩ := cell_int Try.underlying3 g6
  obtain ⟨x7, rfl, i7⟩ := cell_int Try.underlying3 g7
  obtain ⟨x8, rfl⟩ := cell_bool Try.underlying4 g8
  obtain ⟨a, n, c, rfl⟩ := cell_slice Try.underlying29 g9
  exact ⟨x0, x1, x2, x3, x4, x5, x6, x7, x8, a, n, c, rfl, i0, i1, i2, i3, i4, i5, i6, i7⟩
end Go.Proofs.Ytgdglppendkmnaa
