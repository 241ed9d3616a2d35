/- Acts that came in, opened. -/
import Derived.Test.YtibgfjnddhfgpaaBase
import Derived.ChangeArms
import Derived.Lib.SmallJoins
namespace Go.Proofs.Ytibgfjnddhfgpaa
open Go.ChangeShapes Go.WideShapes Go.ChangeAt Go.RowKit
set_option linter.unusedVariables false
theorem cellsI : Try.prog.cellsOf 3 = 1 := by kernel_rfl
theorem cellsIs : Try.prog.cellsOf 30 = 1 := by kernel_rfl
theorem cellsAct : Try.prog.cellsOf 32 = 5 := by kernel_rfl
theorem list5 {A : Type} (l : List A) (h : l.length = 5) : ∃ a b c d e, l = [a, b, c, d, e] := by
  match l, h with
  | [a, b, c, d, e], _ => exact ⟨a, b, c, d, e, rfl⟩
/-- what may be kept: a slice of integers that came in -/
def KeepR (w : World) (a : Option Addr) (len cap : Nat) (zs : List Int) : Prop :=
  (a = none ∧ len = 0 ∧ cap = 0 ∧ zs = []) ∨
  ∃ x, a = some x ∧ len ≤ cap ∧ zs.length = cap ∧ (∀ i, i < zs.length → w.cell? (x.add i) = some (.int .i64 (zs.getD i 0))) ∧ ∀ n ∈ zs, (Lit.int .i64 n).wf = true
theorem open_act {H : Type} {enc : TypeId × Value → H} {W : World} {fuel : Nat} {cs : List Value} {x : DataW H × List MemPlace} (h : DataW.trod enc Try.prog W 0 (fun _ => true) true fuel 32 cs = some x) :
    ∃ (k at' n l : Int) (a : Option Addr) (len cap : Nat) (zs : List Int), cs = [.int .i64 k, .int .i64 at', .int .i64 n, .int .i64 l, .slice a len cap] ∧ (-9223372036854775808 ≤ k ∧ k ≤ 9223372036854775807) ∧ (-9223372036854775808 ≤ at' ∧ at' ≤ 9223372036854775807) ∧ (-9223372036854775808 ≤ n ∧ n ≤ 9223372036854775807) ∧ (-9223372036854775808 ≤ l ∧ l ≤ 9223372036854775807) ∧ KeepR W a len cap zs := by
  obtain ⟨xs, m, _, rfl, hl, hlen, hf⟩ := DataW.trod_struct Try.underlying32 h
  rw [cellsAct] at hl
  obtain ⟨v0, v1, v2, v3, v4, rfl⟩ := list5 cs hl
  obtain ⟨y0, y1, y2, y3, y4, rfl⟩ := list5 xs hlen
  have g0 := hf 0 _ rfl
  have g1 := hf 1 _ rfl
  have g2 := hf 2 _ rfl
  have g3 := hf 3 _ rfl
  have g4 := hf 4 _ rfl
  simp [cellsI, cellsIs] at g0 g1 g2 g3 g4
  obtain ⟨k, e0, _, b0⟩ := DataW.trod_int Try.underlying3 g0
  obtain ⟨a1, e1, _, b1⟩ := DataW.trod_int Try.underlying3 g1
  obtain ⟨n, e2, _, b2⟩ := DataW.trod_int Try.underlying3 g2
  obtain ⟨l, e3, _, b3⟩ := DataW.trod_int Try.underlying3 g3
  simp only [List.cons.injEq, and_true] at e0 e1 e2 e3
  subst e0 e1 e2 e3
  rcases open_ints Try.underlying30 Try.underlying3 (by kernel_rfl) g4 with ⟨hcs, _⟩ | ⟨x, len, cap, zs, hcs, _, hlc, hm, hz, hx, hcell, hwz⟩
  · simp only [List.cons.injEq, and_true] at hcs
    subst hcs
    exact ⟨k, a1, n, l, none, 0, 0, [], rfl, wf_i64 b0, wf_i64 b1, wf_i64 b2, wf_i64 b3, .inl ⟨rfl, rfl, rfl, rfl⟩⟩
  · simp only [List.cons.injEq, and_true] at hcs
    subst hcs
    exact ⟨k, a1, n, l, some x, len, cap, zs, rfl, wf_i64 b0, wf_i64 b1, wf_i64 b2, wf_i64 b3, .inr ⟨x, rfl, hlc, by simpa using hz, hcell, hwz⟩⟩
end Go.Proofs.Ytibgfjnddhfgpaa
