/- What Write needs: copy into a new block, a slice literal of one block, append and a map's store at the operation. -/
import Derived.Test.YtibgfjnddhfgpaaDkW
import Derived.Laws.CopyOwn
import Derived.Great.BuildSlice
import Derived.Deep.AppendLies
namespace Go.Proofs.Ytibgfjnddhfgpaa
open Go.ChangeShapes Go.WideShapes Go.ChangeAt Go.RowKit Go.Deep Go.Maps
set_option linter.unusedVariables false
/-- copy(written[:], b) -/
theorem copy64 (w : World) (x : Addr) (cp : Nat) (C : List Int) (hC : C.length = 64) (hsrc : ∀ j v, (C.map (Value.int .u8))[j]? = some v → w.cell? (x.add j) = some v) (zz : Array Value) (hz : zz.size = 64) (ty : TypeId) :
    ∃ w', (Builtin.copy_ #[35, 35] ty #[.slice (some ⟨w.heap.size, 0, none⟩) 64 64, .slice (some x) 64 cp]).run Try.prog (w.alloc (.cells zz 75)) = .ok (.int .i64 64) w' ∧ w'.heap[w.heap.size]? = some (.cells (C.map (Value.int .u8)).toArray 75) ∧ Below w.heap.size w w' ∧ w'.heap.size = w.heap.size + 1 := by
  have hg := heap_alloc_new w (.cells zz 75)
  have hsrc' : ∀ j v, (C.map (Value.int .u8))[j]? = some v → (w.alloc (.cells zz 75)).cell? (x.add j) = some v := fun j v hv =>
    (((Below.refl w.heap.size w).alloc (Nat.le_refl _) (.cells zz 75)).cell (World.block_lt_of_cell? _ _ (hsrc j v hv))).trans (hsrc j v hv)
  have hr := run_copy_row (P := Try.prog) (w.alloc (.cells zz 75)) 35 35 ty 5 w.heap.size 0 64 64 x 64 cp zz 75 (C.map (Value.int .u8)) Try.underlying35 (by kernel_rfl) hg (by rw [List.length_map, hC]; rfl) hsrc' (by simp [hC, hz]) (ints_oneCell _ _)
  refine ⟨_, by rw [hr, List.length_map, hC]; rfl, ?_, below_setRow ((Below.refl w.heap.size w).alloc (Nat.le_refl _) _) (Nat.le_refl _) _, by simp [World.setRow]⟩
  rw [setRow_heap _ w.heap.size _ _ 75 _ hg]
  have : zz.toList.length = 64 := by simpa using hz
  simp [List.drop_eq_nil_of_le, hz]
theorem load_block (w : World) (a : Act) (o : Oper) (ty : TypeId) (x : Operand) (ho : o.op = .load ty x) (g : Nat) (hx : a.eval x = .pointer (some ⟨g, 0, none⟩)) (t : TypeId) (cs : Array Value) (fr : Nat × Nat) (n : Nat) (e : TypeId) (hg : w.heap[g]? = some (.cells cs t fr))
    (hu : Try.prog.underlying ty = some (.array n e)) (hi : (Try.prog.info? ty).map (·.size) = some cs.size) :
    (execOp a.eval o).run Try.prog w = .ok (.value (.agg cs)) w := by
  unfold execOp
  simp only [ho, hx, Instr.loadAt, Instr.sureAddr, Sem.run_bind, Sem.run_pure, Result.andThen_ok, run_loadVar_row w g t ty cs fr _ hg hu rfl hi]
theorem fold_at : ∀ (l : List Value) (k : Nat) (cs : Array Value), k + l.length ≤ cs.size → ((l.zipIdx k).foldl (fun cs (p : Value × Nat) => cs.setIfInBounds (0 + p.2) p.1) cs).size = cs.size ∧ ∀ m, ((l.zipIdx k).foldl (fun cs (p : Value × Nat) => cs.setIfInBounds (0 + p.2) p.1) cs)[m]? = if k ≤ m ∧ m < k + l.length then l[m - k]? else cs[m]?
  | [], k, cs, _ => by simp; intro m h1 h2; omega
  | v :: l, k, cs, h => by
    simp only [List.length_cons] at h
    obtain ⟨h1, h2⟩ := fold_at l (k + 1) (cs.setIfInBounds (0 + k) v) (by simp; omega)
    rw [List.zipIdx_cons, List.foldl_cons]
    refine ⟨by rw [h1]; simp, fun m => ?_⟩
    rw [h2 m, List.length_cons]
    by_cases hm : m = k
    · subst hm
      rw [if_neg (by omega), if_pos (by omega), Nat.sub_self, Nat.zero_add, Array.getElem?_setIfInBounds_self, if_pos (by omega)]
      rfl
    · by_cases hr : k + 1 ≤ m ∧ m < k + 1 + l.length
      · rw [if_pos hr, if_pos (by omega), show m - k = (m - (k + 1)) + 1 by omega, List.getElem?_cons_succ]
      · rw [if_neg hr, if_neg (by omega), Nat.zero_add, Array.getElem?_setIfInBounds_ne (by omega)]
theorem fold_all (A B : Array Value) (h : A.size = B.size) : A.zipIdx.foldl (fun cs (p : Value × Nat) => cs.setIfInBounds (0 + p.2) p.1) B = A := by
  obtain ⟨l⟩ := A
  have hl : l.length = B.size := by simpa using h
  obtain ⟨h1, h2⟩ := fold_at l 0 B (by omega)
  rw [← Array.foldl_toList, Array.toList_zipIdx]
  apply Array.ext_getElem?
  intro m
  rw [h2 m]
  by_cases hm : m < l.length
  · rw [if_pos (by omega)]; simp
  · rw [if_neg (by omega), Array.getElem?_eq_none (by omega)]
    simp; omega
theorem fill_block (A Z : Array Value) (hA : A.size = 64) (hZ : Z.size = 64) : Instr.fill (fun i => some (i * 64, 64)) Z [(0, .agg A)] = some A := by
  have : (Value.agg A).cells = A := rfl
  simp only [Instr.fill, this, hA, hZ, Nat.zero_mul]
  rw [if_neg (by simp)]
  congr 1
  exact fold_all A Z (by omega)
/-- append(blocks, b), at the operation -/
theorem wp_block {w : World} {o : Oper} {act : Act} {K : Act → World → Prop} {Q : Exit → Act → World → Prop} (s x : Operand)
    (ho : o.op = .call { callee := .builtin .append, args := #[s, x], argTypes := #[66, 66] })
    (base : Nat) (v : Value) (B : List (List Int)) (hs : act.eval s = v) (hown : OwnB w base v B)
    (g c : Nat) (y : List Int) (hy : y.length = 64) (hx : act.eval x = .slice (some ⟨g, 0, none⟩) 1 c) (hc : w.heap[g]? = some (.cells (y.map (Value.int .u8)).toArray 75))
    (hN : B.length ≤ 1000000000) (hbase : base ≤ w.heap.size)
    (h : ∀ g' c' w', OwnB w' base (.slice (some ⟨g', 0, none⟩) (B.length + 1) c') (B ++ [y]) → w.grownBy w' v.ownBlock → (v.ownBlock = some g' ∨ g' = w.heap.size) → K (act.put o.dst (.slice (some ⟨g', 0, none⟩) (B.length + 1) c')) w') :
    o.wp Try.prog act w K Q := by
  obtain ⟨i, hi, hz, h1, h2⟩ := infoB
  refine wp_append_lies w s x 66 ho base 75 i _ 64 64 Try.underlying66 hi hz h1 h2 rfl (by decide) v B.length _ hs hown ⟨g, 0, none⟩ 1 c (y.map (Value.int .u8)) hx (by rw [List.length_map, hy]) ?_ (by intro u hu; obtain ⟨z, _, rfl⟩ := List.mem_map.1 hu; rfl) (by decide) (by simp only [maxLen]; omega) (by omega) hbase _ rfl ?_
  · intro j u hu
    rw [add_plain, Nat.zero_add]
    simp only [World.cell?, hc]
    simpa using hu
  · intro g' c' w' hown' hg hat _
    refine h g' c' w' ?_ hg hat
    unfold OwnB
    rw [List.length_append]
    have : bcs (B ++ [y]) = bcs B ++ y.map (Value.int .u8) := by simp [bcs]
    rw [this]
    exact hown'
/-- 'm[k] = v', at the operation -/
theorem wp_put_sc {w : World} {o : Oper} {a : Act} {K : Act → World → Prop} {Q : Exit → Act → World → Prop} (m x v : Operand) (hop : o.op = Op.mapUpdate 70 m x v) (b n : Nat) (T : Int → Option Hd) (hm : a.eval m = .map (some b)) (hs : Sc w b n T) (hn : n < 4611686018427387904) (p : Int) (hp : InI p) (y : Hd) (hx : a.eval x = .int .i64 p) (hv : a.eval v = hv y)
    (hK : ∀ w', Sc w' b (n + 1) (fun q => if q = p then some y else T q) → w.grownBy w' (some b) → K (a.put o.dst undef) w') : o.wp Try.prog a w K Q := by
  obtain ⟨D, h1, h2⟩ := hs
  obtain ⟨w', hrun, r1, r2⟩ := h1.update lawI Try.underlying70 (by unfold maxLen; omega) (keyI p hp) (hR_hv y)
  unfold Oper.wp
  simp [execOp, hop, hm, hx, hv, hrun, Result.andThen]
  exact hK w' ⟨_, r1, h2.put h1.isMap p y⟩ r2
end Go.Proofs.Ytibgfjnddhfgpaa
