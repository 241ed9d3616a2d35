/- the law's own waits, of two lists that are one; Copy against the plain disk. -/
import Derived.Test.YtibgfjnddhfgpaaDkCo
import Derived.Laws.StructEq
import Derived.BigQuiet
import Derived.Deep.QuietTactic
namespace Go.Proofs.Ytibgfjnddhfgpaa
open Go.ChangeShapes Go.WideShapes Go.ChangeAt Go.RowKit Go.Deep Go.Maps
set_option linter.unusedVariables false
theorem equal_wait (d : Nat) (a b : Int) (w : World) : (Op.equalIn (d + 2) 83 (.agg #[.int .i64 a, .int .i64 b]) (.agg #[.int .i64 a, .int .i64 b])).run Try.prog w = .ok true w := by
  rw [run_equalIn_struct w (d + 1) 83 _ _ (by simp [Program.fieldsOf, Try.underlying83]) (by kernel_rfl)]
  simp only [Program.fieldsOf, Try.underlying83, Op.eqFields]
  simp [part, isAgg, run_underlying Try.underlying3, run_equalIn_int w d 3 .i64 .i64 _ _ Try.underlying3]
theorem neq_wait (a b : Int) (w : World) : (binOp .neq 83 (.agg #[.int .i64 a, .int .i64 b]) (.agg #[.int .i64 a, .int .i64 b])).run Try.prog w = .ok (.bool false) w := by
  have e : (Op.equal 83 (.agg #[.int .i64 a, .int .i64 b]) (.agg #[.int .i64 a, .int .i64 b])).run Try.prog w = .ok true w := equal_wait 9998 a b w
  simp [binOp, e]
theorem guardW : Try.prog.eqGuardType Try.prog.depth 83 = false := by kernel_rfl
set_option maxRecDepth 100000 in
set_option maxHeartbeats 4000000 in
theorem waits_is (l : List Wt) (n c1 c2 : Nat) (a1 a2 : Option Addr) (w : World) (hn : l.length = n) (hn9 : n ≤ 1000000000) (i1 : InW w a1 l) (i2 : InW w a2 l) :
    Calls Try.prog 28 #[.slice a1 n c1, .slice a2 n c2] w fun e w' => e = .returned (.bool true) ∧ ∃ q, w' = w.drewN q := by
  have I1 : Hid (InW w a1 l) := i1
  have I2 : Hid (InW w a2 l) := i2
  have HN : Hid (l.length = n) := hn
  clear i1 i2 hn
  go_enter Try.func28, Try.ntmps28
  go_wp2_with fail
  go_loopg [13] n (fun gg jv wr => ∃ j : Nat, j ≤ n ∧ gg = n - j ∧ jv = .int .i64 (j : Int) ∧ Hid (∃ q, wr = w.drewN q))
  case atStart => exact ⟨0, by omega, rfl, rfl, 0, rfl⟩
  case round =>
    obtain ⟨j, hjn, rfl, rfl, HQ⟩ := hrel
    obtain ⟨q, rfl⟩ := HQ.out
    by_cases hj : j < n
    · have f1 : decide ((j : Int) < (n : Int)) = true := by rw [decide_eq_true_eq]; omega
      obtain ⟨x, hx⟩ : ∃ x, l[j]? = some x := ⟨_, List.getElem?_eq_getElem (by rw [HN.out]; exact hj)⟩
      obtain ⟨g1, o1, rfl, k0, k1⟩ : ∃ g o, a1 = some ⟨g, o, none⟩ ∧ w.cell? ⟨g, o + j * 2, none⟩ = some (.int .i64 x.1) ∧ w.cell? ⟨g, o + j * 2 + 1, none⟩ = some (.int .i64 x.2) := by
        rcases I1.out with h0 | ⟨g, o, e, _, hc⟩
        · rw [h0] at hx; simp at hx
        · exact ⟨g, o, e, hc j x hx⟩
      obtain ⟨g2, o2, rfl, m0, m1⟩ : ∃ g o, a2 = some ⟨g, o, none⟩ ∧ w.cell? ⟨g, o + j * 2, none⟩ = some (.int .i64 x.1) ∧ w.cell? ⟨g, o + j * 2 + 1, none⟩ = some (.int .i64 x.2) := by
        rcases I2.out with h0 | ⟨g, o, e, _, hc⟩
        · rw [h0] at hx; simp at hx
        · exact ⟨g, o, e, hc j x hx⟩
      obtain ⟨x1, x2⟩ := x
      have rj : IntKind.i64.wrap ((j : Int) + 1) = (j : Int) + 1 := by rw [IntKind.wrap_i64]; omega
      have nq2 : ∀ q, (binOp .neq 83 (.agg #[.int .i64 x1, .int .i64 x2]) (.agg #[.int .i64 x1, .int .i64 x2])).run Try.prog (w.drewN q) = .ok (.bool false) (w.drewN q) := fun q => neq_wait x1 x2 _
      have gW := guardW
      simp only at k0 k1 m0 m1
      clear hx
      go_wp2_with fail
      go_quiet (fail)
      go_wp2_with fail
      go_roundg (n - (j + 1))
      case measure => omega
      case rel => exact ⟨j + 1, by omega, rfl, by simp, _, rfl⟩
    · have f1 : decide ((j : Int) < (n : Int)) = false := by rw [decide_eq_false_iff_not]; omega
      go_wp2_with fail
      go_ret
      exact ⟨rfl, HQ.out⟩
theorem dk_copy (w : World) (F : Nat → Prop) (b N : Nat) (s : Ds) (H : Dk w F b N s) (hN : N ≤ 1000000) : Calls Try.prog 11 #[.pointer (some ⟨b, 0, none⟩)] w fun e w' => ∃ b2 F2, e = .returned (.pointer (some ⟨b2, 0, none⟩)) ∧ Dk w' F2 b2 N s ∧ Below w.heap.size w w' ∧ ∀ k, F2 k → w.heap.size ≤ k := by
  obtain ⟨gd, cd, mb, T, p, hF, h1, h2, h3, h4, h5⟩ := H
  refine (copy_is w 0 b N s.D s.W s.up s.dn s.fu gd cd mb T h1 p (by omega) (fun i => by have := h2 i; omega)).mono ?_
  rintro e w' ⟨b2, gd2, cd2, mb2, T2, rfl, p2, hb⟩
  refine ⟨b2, Fp b2 gd2 mb2 T2, rfl, ⟨gd2, cd2, mb2, T2, ⟨Nat.zero_le _, Nat.zero_le _, p2.cell, p2.dur.base (Nat.zero_le _), p2.is64, p2.mp, p2.nil, fun i x hx => ?_, p2.apart⟩, fun _ => Iff.rfl, h1, h2, h3, h4, h5⟩, hb, fun k hk => (p2.fp_lt k hk).2⟩
  obtain ⟨a1, a2, a3, a4⟩ := p2.row i x hx
  exact ⟨a1, a2, a3.base (Nat.zero_le _), a4⟩
end Go.Proofs.Ytibgfjnddhfgpaa
