/- Digests held against each other. -/
import Derived.Test.YtokakhlkanakcaaMaH
import Derived.Laws.StructEq
namespace Go.Proofs.Ytokakhlkanakcaa
open Go.ChangeShapes Go.WideShapes Go.ChangeAt Go.RowKit Go.Deep
set_option linter.unusedVariables false
def u8s (L : List Int) : Array Value := (L.map (Value.int .u8)).toArray
theorem info8q : (Try.prog.info? 5).map (fun i => (i.zero, i.size, i.bytes)) = some (some (.int .u8 0), 1, 1) := by kernel_rfl
theorem info8p : ∃ i, Try.prog.info? 5 = some i ∧ i.zero = some (.int .u8 0) ∧ i.size = 1 ∧ i.bytes = 1 := by
  cases h : Try.prog.info? 5 with
  | none => have := info8q; rw [h] at this; cases this
  | some i => have := info8q; rw [h] at this; simp at this; exact ⟨i, rfl, this.1, this.2.1, this.2.2⟩
theorem all_range_ints : ∀ (xs ys : List Int), xs.length = ys.length → ((List.range xs.length).all fun i => decide (xs.getD i 0 = ys.getD i 0)) = decide (xs = ys)
  | [], [], _ => rfl
  | x :: xs, y :: ys, h => by
    have ih := all_range_ints xs ys (by simpa using h)
    rw [List.length_cons, List.range_succ_eq_map, List.all_cons, List.all_map]
    simp only [List.getD_cons_zero, Function.comp_def, List.getD_cons_succ, ih]
    by_cases h1 : x = y <;> by_cases h2 : xs = ys <;> simp [h1, h2]
  | [], _ :: _, h => by simp at h
  | _ :: _, [], h => by simp at h
theorem size8_run (w : World) : (sizeOf 5).run Try.prog w = .ok 1 w := by
  obtain ⟨i, hi8, _, h1, _⟩ := info8p
  simp [sizeOf, typeInfo, hi8, h1]
theorem equal_digest (d : Nat) (A B : List Int) (hA : A.length = 32) (hB : B.length = 32) (w : World) :
    (Op.equalIn (d + 2) 79 (.agg (u8s A)) (.agg (u8s B))).run Try.prog w = .ok (decide (A = B)) w := by
  rw [← all_range_ints A B (hA.trans hB.symm), hA, List.range_eq_range', Op.equalIn]
  simp only [Sem.run_bind, run_underlying Try.underlying79, Result.andThen_ok, size8_run, Std.Legacy.Range.forIn_eq_forIn_range', Std.Legacy.Range.size, Nat.sub_zero, Nat.add_sub_cancel, Nat.div_one]
  have hl : ∀ i ∈ List.range' 0 32 1, i < 32 := fun i hi => by simpa using (List.mem_range'_1.1 hi).2
  generalize List.range' 0 32 1 = l at hl ⊢
  induction l with
  | nil => simp
  | cons i l ih =>
    have hi : i < 32 := hl i (by simp)
    have px : (part 5 (u8s A) (i * 1)).run Try.prog w = .ok (.int .u8 (A.getD i 0)) w := by
      simp [part, isAgg, run_underlying Try.underlying5, u8s, List.getD, List.getElem?_eq_getElem (show i < A.length by omega)]
    have py : (part 5 (u8s B) (i * 1)).run Try.prog w = .ok (.int .u8 (B.getD i 0)) w := by
      simp [part, isAgg, run_underlying Try.underlying5, u8s, List.getD, List.getElem?_eq_getElem (show i < B.length by omega)]
    have pe : (Op.equalIn (d + 1) 5 (.int .u8 (A.getD i 0)) (.int .u8 (B.getD i 0))).run Try.prog w = .ok (decide (A.getD i 0 = B.getD i 0)) w := by
      rw [run_equalIn_int w d 5 .u8 .u8 _ _ Try.underlying5]
      congr 1
    simp only [List.forIn_cons, Sem.run_bind, px, py, pe, Result.andThen_ok, List.all_cons]
    cases hb : decide (A.getD i 0 = B.getD i 0)
    · simp
    · simp only [Bool.not_true, Bool.false_eq_true, if_false, Sem.run_pure, Result.andThen_ok, Bool.true_and]
      exact ih fun j hj => hl j (by simp [hj])
theorem eq_digest (A B : List Int) (hA : A.length = 32) (hB : B.length = 32) (w : World) :
    (Op.equalIn 10000 79 (.agg (u8s A)) (.agg (u8s B))).run Try.prog w = .ok (decide (A = B)) w := equal_digest 9998 A B hA hB w
theorem guard_digest : Try.prog.eqGuardType Try.prog.depth 79 = false := by kernel_rfl
theorem wpList_load_row_g {ops : Array Oper} {rest : List Oper} {o : Oper} {a : Act} {w : World} {Q : Exit → Act → World → Prop} (ty : TypeId) (x : Operand) (ho : o.op = .load ty x) (hw : Region.wanted o (yielded ops a.tmps) = true)
    (g : Nat) (hx : a.eval x = .pointer (some ⟨g, 0, none⟩)) (t : TypeId) (cs : Array Value) (fr : Nat × Nat) (n : Nat) (el : TypeId) (hg : w.heap[g]? = some (.cells cs t fr))
    (hu : Try.prog.underlying ty = some (.array n el)) (hi : (Try.prog.info? ty).map (·.size) = some cs.size)
    (h : wpList Try.prog ops Q rest (a.put o.dst (.agg cs)) w) : wpList Try.prog ops Q (o :: rest) a w := by
  unfold wpList
  rw [if_pos hw]
  exact .inl (wp_load_row ty x ho g hx t cs fr _ hg hu rfl hi h)
end Go.Proofs.Ytokakhlkanakcaa
