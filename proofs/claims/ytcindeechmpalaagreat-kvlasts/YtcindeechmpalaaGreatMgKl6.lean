/- What Write needs: copy into a new block, a slice literal of one block, append and a map's store at the operation. A disk behind a write: the footprint. A block within a slice of blocks: read, written. settle. Written by gen_dksettle.py. settle while the map is gone over. Written by gen_dksettle.py. A slice of api.Wait of one's own. -/
import Derived.Test.YtcindeechmpalaaGreatMgKl5
import Derived.Laws.CopyOwn
import Derived.Great.BuildSlice
import Derived.Deep.AppendLies
import Derived.Deep.MidRow
import Derived.Laws.OwnMore
import Derived.Deep.RegionHeld3
import Derived.Great.Walk
import Derived.OwnWalk
namespace Go.Proofs.YtcindeechmpalaaGreat
open Go.ChangeShapes Go.WideShapes Go.ChangeAt Go.RowKit Go.Deep Go.Maps
set_option linter.unusedVariables false
/-- copy(written[:], b) -/
theorem copy64 (w : World) (x : Addr) (cp : Nat) (C : List Int) (hC : C.length = 64) (hsrc : ∀ j v, (C.map (Value.int .u8))[j]? = some v → w.cell? (x.add j) = some v) (zz : Array Value) (hz : zz.size = 64) (ty : TypeId) :
    ∃ w', (Builtin.copy_ #[86, 86] ty #[.slice (some ⟨w.heap.size, 0, none⟩) 64 64, .slice (some x) 64 cp]).run Tryz.prog (w.alloc (.cells zz 144)) = .ok (.int .i64 64) w' ∧ w'.heap[w.heap.size]? = some (.cells (C.map (Value.int .u8)).toArray 144) ∧ Below w.heap.size w w' ∧ w'.heap.size = w.heap.size + 1 := by
  have hg := heap_alloc_new w (.cells zz 144)
  have hsrc' : ∀ j v, (C.map (Value.int .u8))[j]? = some v → (w.alloc (.cells zz 144)).cell? (x.add j) = some v := fun j v hv =>
    (((Below.refl w.heap.size w).alloc (Nat.le_refl _) (.cells zz 144)).cell (World.block_lt_of_cell? _ _ (hsrc j v hv))).trans (hsrc j v hv)
  have hr := run_copy_row (P := Tryz.prog) (w.alloc (.cells zz 144)) 86 86 ty 5 w.heap.size 0 64 64 x 64 cp zz 144 (C.map (Value.int .u8)) Tryz.underlying86 (by kernel_rfl) hg (by rw [List.length_map, hC]; rfl) hsrc' (by simp [hC, hz]) (ints_oneCell _ _)
  refine ⟨_, by rw [hr, List.length_map, hC]; rfl, ?_, below_setRow ((Below.refl w.heap.size w).alloc (Nat.le_refl _) _) (Nat.le_refl _) _, by simp [World.setRow]⟩
  rw [setRow_heap _ w.heap.size _ _ 144 _ hg]
  have : zz.toList.length = 64 := by simpa using hz
  simp [List.drop_eq_nil_of_le, hz]
theorem load_block (w : World) (a : Act) (o : Oper) (ty : TypeId) (x : Operand) (ho : o.op = .load ty x) (g : Nat) (hx : a.eval x = .pointer (some ⟨g, 0, none⟩)) (t : TypeId) (cs : Array Value) (fr : Nat × Nat) (n : Nat) (e : TypeId) (hg : w.heap[g]? = some (.cells cs t fr))
    (hu : Tryz.prog.underlying ty = some (.array n e)) (hi : (Tryz.prog.info? ty).map (·.size) = some cs.size) :
    (execOp a.eval o).run Tryz.prog w = .ok (.value (.agg cs)) w := by
  unfold execOp
  simp only [ho, hx, Instr.loadAt, Instr.sureAddr, Sem.run_bind, Sem.run_pure, Result.andThen_ok, run_loadVar_row w g t ty cs fr _ hg hu rfl hi]
theorem fold_at : ∀ (l : List Value) (k : Nat) (cs : Array Value), k + l.length ≤ cs.size → ((l.zipIdx k).foldl (fun cs (p : Value × Nat) => cs.setIfInBounds (0 + p.2) p.1) cs).size = cs.size ∧ ∀ m, ((l.zipIdx k).foldl (fun cs (p : Value × Nat) => cs.setIfInBounds (0 + p.2) p.1) cs)[m]? = if k ≤ m ∧ m < k + l.length then l[m - k]? else cs[m]?
  | [], k, cs, _ => by simp; intro m h1 h2; omega
  | v :: l, k, cs, h => by
    simp only [List.length_cons] at h
    obtain ⟨h1, h2⟩ := fold_at l (k + 1) (cs.setIfInBounds (0 + k) v) (by simp; omega)
    rw [List.zipIdx_cons, List.foldl_cons]
    refine ⟨by rw [h1]; simp, fun m => ?_⟩
    rw [h2 m, List.length_cons]
    by_cases hm : m = k
    · subst hm
      rw [if_neg (by omega), if_pos (by omega), Nat.sub_self, Nat.zero_add, Array.getElem?_setIfInBounds_self, if_pos (by omega)]
      rfl
    · by_cases hr : k + 1 ≤ m ∧ m < k + 1 + l.length
      · rw [if_pos hr, if_pos (by omega), show m - k = (m - (k + 1)) + 1 by omega, List.getElem?_cons_succ]
      · rw [if_neg hr, if_neg (by omega), Nat.zero_add, Array.getElem?_setIfInBounds_ne (by omega)]
theorem fold_all (A B : Array Value) (h : A.size = B.size) : A.zipIdx.foldl (fun cs (p : Value × Nat) => cs.setIfInBounds (0 + p.2) p.1) B = A := by
  obtain ⟨l⟩ := A
  have hl : l.length = B.size := by simpa using h
  obtain ⟨h1, h2⟩ := fold_at l 0 B (by omega)
  rw [← Array.foldl_toList, Array.toList_zipIdx]
  apply Array.ext_getElem?
  intro m
  rw [h2 m]
  by_cases hm : m < l.length
  · rw [if_pos (by omega)]; simp
  · rw [if_neg (by omega), Array.getElem?_eq_none (by omega)]
    simp; omega
theorem fill_block (A Z : Array Value) (hA : A.size = 64) (hZ : Z.size = 64) : Instr.fill (fun i => some (i * 64, 64)) Z [(0, .agg A)] = some A := by
  have : (Value.agg A).cells = A := rfl
  simp only [Instr.fill, this, hA, hZ, Nat.zero_mul]
  rw [if_neg (by simp)]
  congr 1
  exact fold_all A Z (by omega)
/-- append(blocks, b), at the operation -/
theorem wp_block {w : World} {o : Oper} {act : Act} {K : Act → World → Prop} {Q : Exit → Act → World → Prop} (s x : Operand)
    (ho : o.op = .call { callee := .builtin .append, args := #[s, x], argTypes := #[72, 72] })
    (base : Nat) (v : Value) (B : List (List Int)) (hs : act.eval s = v) (hown : OwnB w base v B)
    (g c : Nat) (y : List Int) (hy : y.length = 64) (hx : act.eval x = .slice (some ⟨g, 0, none⟩) 1 c) (hc : w.heap[g]? = some (.cells (y.map (Value.int .u8)).toArray 144))
    (hN : B.length ≤ 1000000000) (hbase : base ≤ w.heap.size)
    (h : ∀ g' c' w', OwnB w' base (.slice (some ⟨g', 0, none⟩) (B.length + 1) c') (B ++ [y]) → w.grownBy w' v.ownBlock → (v.ownBlock = some g' ∨ g' = w.heap.size) → K (act.put o.dst (.slice (some ⟨g', 0, none⟩) (B.length + 1) c')) w') :
    o.wp Tryz.prog act w K Q := by
  obtain ⟨i, hi, hz, h1, h2⟩ := infoB
  refine wp_append_lies w s x 72 ho base 144 i _ 64 64 Tryz.underlying72 hi hz h1 h2 rfl (by decide) v B.length _ hs hown ⟨g, 0, none⟩ 1 c (y.map (Value.int .u8)) hx (by rw [List.length_map, hy]) ?_ (by intro u hu; obtain ⟨z, _, rfl⟩ := List.mem_map.1 hu; rfl) (by decide) (by simp only [maxLen]; omega) (by omega) hbase _ rfl ?_
  · intro j u hu
    rw [add_plain, Nat.zero_add]
    simp only [World.cell?, hc]
    simpa using hu
  · intro g' c' w' hown' hg hat _
    refine h g' c' w' ?_ hg hat
    unfold OwnB
    rw [List.length_append]
    have : bcs (B ++ [y]) = bcs B ++ y.map (Value.int .u8) := by simp [bcs]
    rw [this]
    exact hown'
/-- 'm[k] = v', at the operation -/
theorem wp_put_sc {w : World} {o : Oper} {a : Act} {K : Act → World → Prop} {Q : Exit → Act → World → Prop} (m x v : Operand) (hop : o.op = Op.mapUpdate 73 m x v) (b n : Nat) (T : Int → Option Hd) (hm : a.eval m = .map (some b)) (hs : Sc w b n T) (hn : n < 4611686018427387904) (p : Int) (hp : InI p) (y : Hd) (hx : a.eval x = .int .i64 p) (hv : a.eval v = hv y)
    (hK : ∀ w', Sc w' b (n + 1) (fun q => if q = p then some y else T q) → w.grownBy w' (some b) → K (a.put o.dst undef) w') : o.wp Tryz.prog a w K Q := by
  obtain ⟨D, h1, h2⟩ := hs
  obtain ⟨w', hrun, r1, r2⟩ := h1.update lawI Tryz.underlying73 (by unfold maxLen; omega) (keyI p hp) (hR_hv y)
  unfold Oper.wp
  simp [execOp, hop, hm, hx, hv, hrun, Result.andThen]
  exact hK w' ⟨_, r1, h2.put h1.isMap p y⟩ r2
end Go.Proofs.YtcindeechmpalaaGreat
namespace Go.Proofs.YtcindeechmpalaaGreat
open Go.ChangeShapes Go.WideShapes Go.ChangeAt Go.RowKit Go.Deep Go.Maps
set_option linter.unusedVariables false
/-- a write is laid to the others -/
theorem DkP.wrote {w w4 w5 w6 : World} {h b N : Nat} {D : List (List Int)} {W : Int → List (List Int)} {up : Bool} {done fuse : Int} {gd cd mb : Nat} {T : Int → Option Hd} (H : DkP w h b N D W up done fuse gd cd mb T)
    (hb : Below w.heap.size w w4) (i : Int) (hI : InI i) (C : List Int) (hC : C.length = 64 ∧ IsBytes C) (g' c' : Nat)
    (o5 : OwnB w5 h (.slice (some ⟨g', 0, none⟩) ((W i).length + 1) c') (W i ++ [C])) (hg5 : w4.grownBy w5 (hv ((T i).getD noH)).ownBlock) (hat : (hv ((T i).getD noH)).ownBlock = some g' ∨ g' = w4.heap.size)
    (S6 : Sc w6 mb (N + 1) (fun q => if q = i then some (g' + 1, (W i).length + 1, c') else T q)) (hg6 : w5.grownBy w6 (some mb)) :
    DkP w6 h b (N + 1) D (fun j => if j = i then W j ++ [C] else W j) up done fuse gd cd mb (fun q => if q = i then some (g' + 1, (W i).length + 1, c') else T q) := by
  obtain ⟨n1, n2, l1, l2, l3⟩ := H.apart3
  have keep : ∀ k, k < w.heap.size → (hv ((T i).getD noH)).ownBlock ≠ some k → k ≠ mb → w6.heap[k]? = w.heap[k]? := fun k hk hne hm =>
    have hk4 : k < w4.heap.size := Nat.lt_of_lt_of_le hk hb.size
    (hg6.block k (Nat.lt_of_lt_of_le hk4 hg5.size) (by simpa using hm)).trans ((hg5.block k hk4 (fun e => hne e.symm)).trans (hb.block k hk))
  have gm : g' ≠ mb := by
    rcases hat with e | e
    · exact (H.off i g' e).2.2.1
    · have := hb.size; omega
  have ggd : g' ≠ gd := by
    rcases hat with e | e
    · exact (H.off i g' e).2.2.2.1
    · have := hb.size; omega
  have goth : ∀ j y, j ≠ i → T j = some y → y.1 ≠ g' + 1 := by
    intro j y hj hy
    rcases hat with e | e
    · exact (H.off i g' e).2.2.2.2.2 j y hj hy
    · obtain ⟨_, ⟨g, c, rfl, _⟩, ho, _⟩ := H.row j y hy
      have := (ho.own g rfl).2
      have := hb.size
      show g + 1 ≠ g' + 1
      omega
  refine ⟨H.hb, H.hm, ?_, ?_, H.is64, S6, ?_, ?_, ?_⟩
  · exact (keep b l2 (fun e => (H.off i b e).2.1 rfl) n1).trans H.cell
  · refine H.dur.block fun k hk => ?_
    have : gd = k := by simpa [Value.ownBlock] using hk
    subst this
    exact keep gd l1 (fun e => (H.off i gd e).2.2.2.1 rfl) n2
  · intro j
    by_cases hj : j = i
    · simp [hj]
    · simp only [if_neg hj]; exact H.nil j
  · intro j x hx
    by_cases hj : j = i
    · subst hj
      simp only [if_true] at hx ⊢
      obtain rfl := Option.some.inj hx
      refine ⟨hI, ⟨g', c', by simp, ggd⟩, ?_, ?_⟩
      · refine o5.block fun k hk => ?_
        have e : g' = k := by simpa [Value.ownBlock] using hk
        subst e
        exact hg6.block g' (o5.own g' rfl).2 (by simpa using gm)
      · intro y hy
        rcases List.mem_append.1 hy with h1 | h1
        · exact (H.writes j).2 y h1
        · rw [List.mem_singleton.1 h1]; exact hC
    · simp only [if_neg hj] at hx ⊢
      obtain ⟨a1, a2, a3, a4⟩ := H.row j x hx
      refine ⟨a1, a2, a3.block fun k hk => ?_, a4⟩
      obtain ⟨g, c, rfl, hg⟩ := a2
      have e : g = k := by simpa [hv, Value.ownBlock] using hk
      subst e
      have hof := H.off j g (by rw [hx]; rfl)
      exact keep g hof.1 (fun e => (H.off i g e).2.2.2.2.2 j _ hj hx rfl) hof.2.2.1
  · intro j k x y hjk hx hy
    by_cases hj : j = i
    · by_cases hk : k = i
      · omega
      · subst hj
        simp only [if_true] at hx
        simp only [if_neg hk] at hy
        obtain rfl := Option.some.inj hx
        exact fun e => goth k y hk hy e.symm
    · by_cases hk : k = i
      · subst hk
        simp only [if_true] at hy
        simp only [if_neg hj] at hx
        obtain rfl := Option.some.inj hy
        exact goth j x hj hx
      · simp only [if_neg hj] at hx
        simp only [if_neg hk] at hy
        exact H.apart j k x y hjk hx hy
theorem fp_wrote {w w4 : World} {h b N : Nat} {D : List (List Int)} {W : Int → List (List Int)} {up : Bool} {done fuse : Int} {gd cd mb : Nat} {T : Int → Option Hd} (H : DkP w h b N D W up done fuse gd cd mb T) (i : Int) (g' c' n : Nat) (hat : (hv ((T i).getD noH)).ownBlock = some g' ∨ g' = w4.heap.size) (hs : w.heap.size ≤ w4.heap.size) (k : Nat) (hk : Fp b gd mb (fun q => if q = i then some (g' + 1, n, c') else T q) k) : Fp b gd mb T k ∨ w.heap.size ≤ k := by
  rcases hk with hk | hk | hk | ⟨j, x, hx, hk⟩
  · exact .inl (.inl hk)
  · exact .inl (.inr (.inl hk))
  · exact .inl (.inr (.inr (.inl hk)))
  · by_cases hj : j = i
    · simp only [hj, if_true] at hx
      obtain rfl := Option.some.inj hx
      have e : g' = k := by simpa using hk
      subst e
      rcases hat with e | e
      · exact .inl (H.own_fp i _ e)
      · right; omega
    · simp only [if_neg hj] at hx
      exact .inl (.inr (.inr (.inr ⟨j, x, hx, hk⟩)))
end Go.Proofs.YtcindeechmpalaaGreat
namespace Go.Proofs.YtcindeechmpalaaGreat
open Go.ChangeShapes Go.WideShapes Go.ChangeAt Go.RowKit Go.Deep Go.Maps
set_option linter.unusedVariables false
theorem OwnB.range {w : World} {base g n c : Nat} {B : List (List Int)} (h : OwnB w base (.slice (some ⟨g, 0, none⟩) n c) B) (h64 : Is64 B) (i : Nat) (x : List Int) (hx : B[i]? = some x) : w.rangeAt g (i * 64) (x.map (Value.int .u8)) := by
  intro j v hv
  rw [List.getElem?_map] at hv
  cases hj : x[j]? with
  | none => rw [hj] at hv; cases hv
  | some y =>
    rw [hj] at hv
    obtain rfl := Option.some.inj hv
    have hl := (h64 x (List.mem_of_getElem? hx)).1
    have hlt := (List.getElem?_eq_some_iff.1 hj).1
    rw [h.cell h64 i j x hx (by omega), List.getD_eq_getElem?_getD, hj]
    rfl
theorem OwnB.there {w : World} {base g n c : Nat} {B : List (List Int)} (h : OwnB w base (.slice (some ⟨g, 0, none⟩) n c) B) (h64 : Is64 B) (i : Nat) (x : List Int) (hx : B[i]? = some x) : w.there g (i * 64) 64 := by
  intro j hj
  rw [h.cell h64 i j x hx hj]
  refine ⟨rfl, ?_⟩
  obtain ⟨cs, hcs⟩ := h.at g rfl
  exact frozen_not hcs _
/-- cells set, one behind the other -/
def setsL : List Value → Nat → List Value → List Value
  | xs, _, [] => xs
  | xs, o, v :: vs => setsL (xs.set o v) (o + 1) vs
theorem setsL_len : ∀ (vs xs : List Value) (o : Nat), (setsL xs o vs).length = xs.length
  | [], xs, o => rfl
  | v :: vs, xs, o => by rw [setsL, setsL_len vs]; simp
theorem setsL_at : ∀ (vs xs : List Value) (o m : Nat), o + vs.length ≤ xs.length → (setsL xs o vs)[m]? = if o ≤ m ∧ m < o + vs.length then vs[m - o]? else xs[m]?
  | [], xs, o, m, _ => by rw [setsL, if_neg (fun h => by have := h.2; simp only [List.length_nil] at this; omega)]
  | v :: vs, xs, o, m, h => by
    simp only [List.length_cons] at h ⊢
    rw [setsL, setsL_at vs _ (o + 1) m (by simp; omega)]
    by_cases hm : m = o
    · subst hm
      rw [if_neg (by omega), if_pos (by omega), Nat.sub_self, List.getElem?_set_self (by omega)]
      rfl
    · by_cases hr : o + 1 ≤ m ∧ m < o + 1 + vs.length
      · rw [if_pos hr, if_pos (by omega), show m - o = (m - (o + 1)) + 1 by omega, List.getElem?_cons_succ]
      · rw [if_neg hr, if_neg (by omega), List.getElem?_set_ne (by omega)]
theorem is64_set {B : List (List Int)} (h : Is64 B) (i : Nat) (y : List Int) (hy : y.length = 64 ∧ IsBytes y) : Is64 (B.set i y) := fun x hx => by
  rcases List.mem_or_eq_of_mem_set hx with h1 | h1
  · exact h x h1
  · rw [h1]; exact hy
theorem sets_block {B : List (List Int)} (h : Is64 B) (i : Nat) (hi : i < B.length) (y : List Int) (hy : y.length = 64 ∧ IsBytes y) : setsL (bcs B) (i * 64) (y.map (Value.int .u8)) = bcs (B.set i y) := by
  have h' := is64_set h i y hy
  have l1 := flat_len h
  have l2 := flat_len h'
  rw [List.length_set] at l2
  apply List.ext_getElem?
  intro m
  rw [setsL_at _ _ _ _ (by simp only [bcs, List.length_map, l1, hy.1]; omega), List.length_map, hy.1]
  unfold bcs
  by_cases hm : m < B.length * 64
  · have e : m = m / 64 * 64 + m % 64 := by omega
    have hq : m / 64 < B.length := by omega
    have r := flat_at h' (m / 64) (m % 64) ((B.set i y)[m / 64]'(by simpa using hq)) (List.getElem?_eq_getElem (by simpa using hq)) (by omega)
    rw [← e] at r
    rw [List.getElem?_map (l := (B.set i y).flatten), r]
    by_cases hq2 : m / 64 = i
    · rw [if_pos (by omega), List.getElem?_map]
      have e2 : (B.set i y)[m / 64]'(by simpa using hq) = y := by simp [hq2]
      rw [e2, show m - i * 64 = m % 64 by omega]
    · rw [if_neg (by omega), List.getElem?_map]
      have r2 := flat_at h (m / 64) (m % 64) (B[m / 64]) (List.getElem?_eq_getElem hq) (by omega)
      rw [← e] at r2
      rw [r2]
      have e2 : (B.set i y)[m / 64]'(by simpa using hq) = B[m / 64] := by rw [List.getElem_set_ne (fun e => hq2 e.symm)]
      rw [e2]
  · rw [if_neg (by omega), List.getElem?_eq_none (by simp only [List.length_map]; omega), List.getElem?_eq_none (by simp only [List.length_map]; omega)]
theorem owns_sets {base : Nat} {e : TypeId} {size g n cap : Nat} : ∀ (vs xs : List Value) (o : Nat) (w : World), w.ownsRow base e size (.slice (some ⟨g, 0, none⟩) n cap) n xs → o + vs.length ≤ xs.length → (w.setCells g o vs).ownsRow base e size (.slice (some ⟨g, 0, none⟩) n cap) n (setsL xs o vs)
  | [], xs, o, w, h, _ => h
  | v :: vs, xs, o, w, h, hl => by
    simp only [List.length_cons] at hl
    exact owns_sets vs (xs.set o v) (o + 1) _ (h.stored o v).1 (by simp; omega)
/-- blocks[i] = y -/
theorem OwnB.put {w : World} {base g n c : Nat} {B : List (List Int)} (hn : B.length = n) (h : OwnB w base (.slice (some ⟨g, 0, none⟩) n c) B) (h64 : Is64 B) (i : Nat) (hi : i < B.length) (y : List Int) (hy : y.length = 64 ∧ IsBytes y) : OwnB (w.setCells g (i * 64) (y.map (Value.int .u8))) base (.slice (some ⟨g, 0, none⟩) n c) (B.set i y) := by
  subst hn
  unfold OwnB
  rw [List.length_set, ← sets_block h64 i hi y hy]
  exact owns_sets _ _ _ w h (by simp only [bcs, List.length_map, flat_len h64, hy.1]; omega)
end Go.Proofs.YtcindeechmpalaaGreat
namespace Go.Proofs.YtcindeechmpalaaGreat
open Go.ChangeShapes Go.WideShapes Go.ChangeAt Go.RowKit Go.Deep Go.Maps
set_option linter.unusedVariables false
theorem grown_sets (g : Nat) : ∀ (vs : List Value) (o : Nat) (w : World), w.grownBy (w.setCells g o vs) (some g)
  | [], o, w => ⟨rfl, rfl, rfl, Nat.le_refl _, fun _ _ _ => rfl⟩
  | v :: vs, o, w => by
    have h1 := grown_set w g o v
    have h2 := grown_sets g vs (o + 1) (w.setCell ⟨g, o, none⟩ v)
    exact ⟨h2.os.trans h1.os, h2.tape.trans h1.tape, h2.output.trans h1.output, Nat.le_trans h1.size h2.size, fun k hk hne => (h2.block k (Nat.lt_of_lt_of_le hk h1.size) hne).trans (h1.block k hk hne)⟩
/-- a block's writes are settled: durable is D' now -/
theorem DkP.settled {w V w' : World} {h b N : Nat} {D D' : List (List Int)} {W : Int → List (List Int)} {up : Bool} {done fuse : Int} {gd cd mb : Nat} {T : Int → Option Hd} (H : DkP w h b N D W up done fuse gd cd mb T) (i : Int)
    (oD : OwnB V h (.slice (some ⟨gd, 0, none⟩) D.length cd) D') (hl : D'.length = D.length) (h64 : Is64 D') (hg : ∀ k, k < w.heap.size → k ≠ gd → V.heap[k]? = w.heap[k]?) (hz : w.heap.size ≤ V.heap.size)
    (S' : Sc w' mb N (fun q => if q = i then none else T q)) (hg' : V.grownBy w' (some mb)) :
    DkP w' h b N D' (fun j => if j = i then [] else W j) up done fuse gd cd mb (fun q => if q = i then none else T q) := by
  obtain ⟨n1, n2, l1, l2, l3⟩ := H.apart3
  have keep : ∀ k, k < w.heap.size → k ≠ gd → k ≠ mb → w'.heap[k]? = w.heap[k]? := fun k hk h1 h2 => (hg'.block k (Nat.lt_of_lt_of_le hk hz) (by simpa using h2)).trans (hg k hk h1)
  refine ⟨H.hb, H.hm, ?_, ?_, h64, S', ?_, ?_, ?_⟩
  · rw [hl]; exact (keep b l2 H.apart4 n1).trans H.cell
  · rw [hl]
    refine oD.block fun k hk => ?_
    have : gd = k := by simpa [Value.ownBlock] using hk
    subst this
    exact hg'.block gd (Nat.lt_of_lt_of_le l1 hz) (by simpa using n2)
  · intro j
    by_cases hj : j = i
    · simp [hj]
    · simp only [if_neg hj]; exact H.nil j
  · intro j x hx
    by_cases hj : j = i
    · simp [hj] at hx
    · simp only [if_neg hj] at hx ⊢
      obtain ⟨a1, a2, a3, a4⟩ := H.row j x hx
      refine ⟨a1, a2, a3.block fun k hk => ?_, a4⟩
      obtain ⟨g, c, rfl, hg⟩ := a2
      have e : g = k := by simpa [hv, Value.ownBlock] using hk
      subst e
      have hof := H.off j g (by rw [hx]; rfl)
      exact keep g hof.1 hof.2.2.2.1 hof.2.2.1
  · intro j k x y hjk hx hy
    by_cases hj : j = i
    · simp [hj] at hx
    · by_cases hk : k = i
      · simp [hk] at hy
      · simp only [if_neg hj] at hx
        simp only [if_neg hk] at hy
        exact H.apart j k x y hjk hx hy
set_option linter.unusedSimpArgs false in
set_option maxRecDepth 100000 in
set_option maxHeartbeats 4000000 in
theorem settle_some (w : World) (h b N : Nat) (D : List (List Int)) (W : Int → List (List Int)) (up : Bool) (done fuse : Int) (gd cd mb : Nat) (T : Int → Option Hd) (H : DkP w h b N D W up done fuse gd cd mb T) (hD : D.length ≤ 4096) (i : Nat) (hi : i < D.length) (k g c : Nat) (hT : T i = some (g + 1, (W i).length, c)) (hk : k < (W i).length) (hkl : (W i).length ≤ 1000000000) (y : List Int) (hy : (W i)[k]? = some y) :
    Calls Tryz.prog 53 #[.pointer (some ⟨b, 0, none⟩), .int .i64 (i : Int), .int .i64 ((k : Int) + 1)] w fun e w' => e = .returned (.tuple #[]) ∧ Off (Fp b gd mb T) w w' ∧ DkP w' h b N (D.set i y) (fun j => if j = (i : Int) then [] else W j) up done fuse gd cd mb (fun q => if q = (i : Int) then none else T q) := by
  obtain ⟨q0, q1, q2, q3, q4⟩ := d5_of H.cell
  have hy64 := (H.row i _ hT).2.2.2 y (List.mem_of_getElem? hy)
  have HR : Hid (w.rangeAt g (k * 64) (y.map (Value.int .u8))) := OwnB.range (H.row i _ hT).2.2.1 (H.row i _ hT).2.2.2 k y hy
  have HI : Hid (InI (i : Int)) := ⟨by omega, by omega⟩
  have HP : Hid (DkP w h b N D W up done fuse gd cd mb T) := H
  have LN : Hid ((y.map (Value.int .u8)).length = 64) := by show _ = _; simp [hy64.1]
  have e1 : decide (0 < (k : Int) + 1) = true := by rw [decide_eq_true_eq]; omega
  have ew : IntKind.i64.wrap ((k : Int) + 1 - 1) = (k : Int) := by rw [IntKind.wrap_i64]; omega
  have ew2 : IntKind.i64.wrap (k : Int) = (k : Int) := by rw [IntKind.wrap_i64]; omega
  have LK : Hid (∀ w', Sc w' mb N T → (Instr.lookup 73 (.map (some mb)) (.int .i64 (i : Int)) false).run Tryz.prog w' = .ok (.slice (some ⟨g, 0, none⟩) (W i).length c) w') := fun w' hs => by
    have := hs.look i HI.out
    rw [hT] at this
    exact this
  go_enter Tryz.func53, Tryz.ntmps53
  go_wp2_with fail
  refine wp_region_noPanic ?_
  refine wp_region_held_drew (S := (fun Wd : World => Wd.cell? ⟨b, 0, none⟩ = some (.slice (some ⟨gd, 0, none⟩) D.length cd) ∧ Wd.cell? ⟨b, 1, none⟩ = some (.map (some mb)) ∧ Wd.rangeAt g (k * 64) (y.map (Value.int .u8)) ∧ Sc Wd mb N T)) (by kernel_rfl) ?hSa (fun hHeld => ?resta)
  case hSa => exact ⟨q0, q1, HR.out, HP.out.mp⟩
  case resta =>
    refine wpAnyH_take (i := 0) (v := .pointer (some ⟨b, 0, none⟩)) rfl (by kernel_rfl) (by kernel_rfl) (by kernel_rfl) (fun _ _ _ h => h) (Or.inl ⟨by rfl, ?hy0⟩) hHeld ?rest0
    case hy0 => (intro w hSw; (try dsimp only at hSw); go_simp; try with_reducible rfl)
    try simp only [Act.put, List.setIfInBounds_toArray, List.set_cons_zero, List.set_cons_succ, List.getElem_toArray, List.getElem_cons_zero]
    refine wpAnyH_take (i := 1) (v := .pointer (some ⟨b, 0, none⟩)) rfl (by kernel_rfl) (by kernel_rfl) (by kernel_rfl) (fun _ _ _ h => h) (Or.inl ⟨by rfl, ?hy1⟩) hHeld ?rest1
    case hy1 => (intro w hSw; (try dsimp only at hSw); go_simp; try with_reducible rfl)
    try simp only [Act.put, List.setIfInBounds_toArray, List.set_cons_zero, List.set_cons_succ, List.getElem_toArray, List.getElem_cons_zero, List.getElem_cons_succ]
    refine wpAnyH_take (i := 2) (v := .pointer (some ⟨b, 0, none⟩)) rfl (by kernel_rfl) (by kernel_rfl) (by kernel_rfl) (fun _ _ _ h => h) (Or.inl ⟨by rfl, ?hy2⟩) hHeld ?rest2
    case hy2 => (intro w hSw; (try dsimp only at hSw); go_simp; try with_reducible rfl)
    try simp only [Act.put, List.setIfInBounds_toArray, List.set_cons_zero, List.set_cons_succ, List.getElem_toArray, List.getElem_cons_zero, List.getElem_cons_succ]
    refine wpAnyH_take (i := 3) (v := .slice (some ⟨gd, 0, none⟩) D.length cd) rfl (by kernel_rfl) (by kernel_rfl) (by kernel_rfl) (fun _ _ _ h => h) (Or.inl ⟨by rfl, ?hy3⟩) hHeld ?rest3
    case hy3 => (intro w hSw; have hS1 := hSw.1; clear hSw; go_simp; try with_reducible rfl)
    try simp only [Act.put, List.setIfInBounds_toArray, List.set_cons_zero, List.set_cons_succ, List.getElem_toArray, List.getElem_cons_zero, List.getElem_cons_succ]
    refine wpAnyH_take (i := 4) (v := .int .i64 (i : Int)) rfl (by kernel_rfl) (by kernel_rfl) (by kernel_rfl) (fun _ _ _ h => h) (Or.inl ⟨by rfl, ?hy4⟩) hHeld ?rest4
    case hy4 => (intro w hSw; (try dsimp only at hSw); go_simp; try with_reducible rfl)
    try simp only [Act.put, List.setIfInBounds_toArray, List.set_cons_zero, List.set_cons_succ, List.getElem_toArray, List.getElem_cons_zero, List.getElem_cons_succ]
    refine wpAnyH_take (i := 5) (v := .pointer (some ⟨b, 0, none⟩)) rfl (by kernel_rfl) (by kernel_rfl) (by kernel_rfl) (fun _ _ _ h => h) (Or.inl ⟨by rfl, ?hy5⟩) hHeld ?rest5
    case hy5 => (intro w hSw; (try dsimp only at hSw); go_simp; try with_reducible rfl)
    try simp only [Act.put, List.setIfInBounds_toArray, List.set_cons_zero, List.set_cons_succ, List.getElem_toArray, List.getElem_cons_zero, List.getElem_cons_succ]
    refine wpAnyH_take (i := 6) (v := .pointer (some ⟨b, 0, none⟩)) rfl (by kernel_rfl) (by kernel_rfl) (by kernel_rfl) (fun _ _ _ h => h) (Or.inl ⟨by rfl, ?hy6⟩) hHeld ?rest6
    case hy6 => (intro w hSw; (try dsimp only at hSw); go_simp; try with_reducible rfl)
    try simp only [Act.put, List.setIfInBounds_toArray, List.set_cons_zero, List.set_cons_succ, List.getElem_toArray, List.getElem_cons_zero, List.getElem_cons_succ]
    refine wpAnyH_take (i := 7) (v := .pointer (some ⟨b, 1, none⟩)) rfl (by kernel_rfl) (by kernel_rfl) (by kernel_rfl) (fun _ _ _ h => h) (Or.inl ⟨by rfl, ?hy7⟩) hHeld ?rest7
    case hy7 => (intro w hSw; (try dsimp only at hSw); go_simp; try with_reducible rfl)
    try simp only [Act.put, List.setIfInBounds_toArray, List.set_cons_zero, List.set_cons_succ, List.getElem_toArray, List.getElem_cons_zero, List.getElem_cons_succ]
    refine wpAnyH_take (i := 8) (v := .map (some mb)) rfl (by kernel_rfl) (by kernel_rfl) (by kernel_rfl) (fun _ _ _ h => h) (Or.inl ⟨by rfl, ?hy8⟩) hHeld ?rest8
    case hy8 => (intro w hSw; have hS1 := hSw.2.1; clear hSw; go_simp; try with_reducible rfl)
    try simp only [Act.put, List.setIfInBounds_toArray, List.set_cons_zero, List.set_cons_succ, List.getElem_toArray, List.getElem_cons_zero, List.getElem_cons_succ]
    refine wpAnyH_take (i := 9) (v := .int .i64 (i : Int)) rfl (by kernel_rfl) (by kernel_rfl) (by kernel_rfl) (fun _ _ _ h => h) (Or.inl ⟨by rfl, ?hy9⟩) hHeld ?rest9
    case hy9 => (intro w hSw; (try dsimp only at hSw); go_simp; try with_reducible rfl)
    try simp only [Act.put, List.setIfInBounds_toArray, List.set_cons_zero, List.set_cons_succ, List.getElem_toArray, List.getElem_cons_zero, List.getElem_cons_succ]
    refine wpAnyH_take (i := 10) (v := .slice (some ⟨g, 0, none⟩) (W i).length c) rfl (by kernel_rfl) (by kernel_rfl) (by kernel_rfl) (fun _ _ _ h => h) (Or.inl ⟨by rfl, ?hy10⟩) hHeld ?rest10
    case hy10 => (intro w hSw; have hS1 := LK.out w hSw.2.2.2; clear hSw; go_simp; try with_reducible rfl)
    try simp only [Act.put, List.setIfInBounds_toArray, List.set_cons_zero, List.set_cons_succ, List.getElem_toArray, List.getElem_cons_zero, List.getElem_cons_succ]
    refine wpAnyH_take (i := 11) (v := .int .i64 ((k : Int) + 1)) rfl (by kernel_rfl) (by kernel_rfl) (by kernel_rfl) (fun _ _ _ h => h) (Or.inl ⟨by rfl, ?hy11⟩) hHeld ?rest11
    case hy11 => (intro w hSw; (try dsimp only at hSw); go_simp; try with_reducible rfl)
    try simp only [Act.put, List.setIfInBounds_toArray, List.set_cons_zero, List.set_cons_succ, List.getElem_toArray, List.getElem_cons_zero, List.getElem_cons_succ]
    refine wpAnyH_take (i := 12) (v := .int .i64 (k : Int)) rfl (by kernel_rfl) (by kernel_rfl) (by kernel_rfl) (fun _ _ _ h => h) (Or.inl ⟨by rfl, ?hy12⟩) hHeld ?rest12
    case hy12 => (intro w hSw; (try dsimp only at hSw); go_simp; try with_reducible rfl)
    try simp only [Act.put, List.setIfInBounds_toArray, List.set_cons_zero, List.set_cons_succ, List.getElem_toArray, List.getElem_cons_zero, List.getElem_cons_succ]
    refine wpAnyH_take (i := 13) (v := .pointer (some ⟨g, k * 64, none⟩)) rfl (by kernel_rfl) (by kernel_rfl) (by kernel_rfl) (fun _ _ _ h => h) (Or.inl ⟨by rfl, ?hy13⟩) hHeld ?rest13
    case hy13 => (intro w hSw; (try dsimp only at hSw); go_simp; try with_reducible rfl)
    try simp only [Act.put, List.setIfInBounds_toArray, List.set_cons_zero, List.set_cons_succ, List.getElem_toArray, List.getElem_cons_zero, List.getElem_cons_succ]
    refine wpAnyH_take (i := 14) (v := .agg (y.map (Value.int .u8)).toArray) rfl (by kernel_rfl) (by kernel_rfl) (by kernel_rfl) (fun _ _ _ h => h) (yieldsIf_load_mid (by rfl) 144 (.tmp 21) rfl g (k * 64) rfl (y.map (Value.int .u8)) _ (fun w hSw => hSw.2.2.1) Tryz.underlying144 rfl (by rw [LN.out]; kernel_rfl)) hHeld ?rest14
    case rest14 =>
    try simp only [Act.put, List.setIfInBounds_toArray, List.set_cons_zero, List.set_cons_succ, List.getElem_toArray, List.getElem_cons_zero, List.getElem_cons_succ]
    refine wpAnyH_take (i := 15) (v := .pointer (some ⟨gd, i * 64, none⟩)) rfl (by kernel_rfl) (by kernel_rfl) (by kernel_rfl) (fun _ _ _ h => h) (Or.inl ⟨by rfl, ?hy15⟩) hHeld ?rest15
    case hy15 => (intro w hSw; (try dsimp only at hSw); go_simp; try with_reducible rfl)
    try simp only [Act.put, List.setIfInBounds_toArray, List.set_cons_zero, List.set_cons_succ, List.getElem_toArray, List.getElem_cons_zero, List.getElem_cons_succ]
    refine wpAnyH_ready (rs := [16]) (by kernel_rfl) (by simp) ?_
    refine AllReadyH.cons rfl (fun K hK => ?_) AllReadyH.nil
    have G1 : Hid (w.drew.grownBy (w.drew.setCells gd (i * 64) (y.map (Value.int .u8)).toArray.toList) (some gd)) := grown_sets gd _ _ w.drew
    have SV : Hid ((w.drew.setCells gd (i * 64) (y.map (Value.int .u8)).toArray.toList).cell? ⟨b, 0, none⟩ = some (.slice (some ⟨gd, 0, none⟩) D.length cd) ∧ (w.drew.setCells gd (i * 64) (y.map (Value.int .u8)).toArray.toList).cell? ⟨b, 1, none⟩ = some (.map (some mb)) ∧ (w.drew.setCells gd (i * 64) (y.map (Value.int .u8)).toArray.toList).rangeAt g (k * 64) (y.map (Value.int .u8)) ∧ Sc (w.drew.setCells gd (i * 64) (y.map (Value.int .u8)).toArray.toList) mb N T) := by
      have hl := HP.out.apart3
      have h4 := HP.out.apart4
      have hgo := HP.out.off (i : Int) g (by rw [hT]; rfl)
      have hbb := G1.out.block b hl.2.2.2.1 (by simpa using h4)
      refine ⟨(World.cell?_of_block (a := ⟨b, 0, none⟩) hbb).trans q0, (World.cell?_of_block (a := ⟨b, 1, none⟩) hbb).trans q1, fun j v hv => (World.cell?_of_block (a := ⟨g, k * 64 + j, none⟩) (G1.out.block g hgo.1 (by have := hgo.2.2.2.1; simpa using this))).trans (HR.out j v hv), Sc.kept (w := w.drew) HP.out.mp G1.out (by have := hl.2.1; simp; omega)⟩
    have OV : Hid (OwnB (w.drew.setCells gd (i * 64) (y.map (Value.int .u8)).toArray.toList) h (.slice (some ⟨gd, 0, none⟩) D.length cd) (D.set i y)) := OwnB.put (w := w.drew) rfl HP.out.dur HP.out.is64 i hi y hy64
    have TH : Hid (w.drew.there gd (i * 64) 64) := OwnB.there (w := w.drew) HP.out.dur HP.out.is64 i (D[i]) (List.getElem?_eq_getElem hi)
    have AL : Hid ((y.map (Value.int .u8)).toArray.all (·.oneCell') = true) := by show _ = _; rw [Array.all_eq_true_iff_forall_mem]; intro v hv; simp at hv; obtain ⟨z, _, rfl⟩ := hv; rfl
    have AS : Hid ((y.map (Value.int .u8)).toArray.size = 64) := by show _ = _; simp [hy64.1]
    refine wp_store_mid 144 (.tmp 23) (.tmp 22) rfl gd (i * 64) (y.map (Value.int .u8)).toArray rfl rfl (by rw [AS.out]; exact TH.out) (by rw [AS.out]; kernel_rfl) AL.out ?_
    refine hK.out _ _ ?hS16 (fun hHeld => ?rest16)
    case hS16 => exact SV.out
    clear hK K
    try simp only [Act.put, List.setIfInBounds_toArray, List.set_cons_zero, List.set_cons_succ, List.getElem_toArray, List.getElem_cons_zero, List.getElem_cons_succ]
    refine wpAnyH_done (by kernel_rfl) ?_ _
    refine NoPanic.normal ?_
    obtain ⟨VV, hVV⟩ : ∃ VV, (w.drew.setCells gd (i * 64) (y.map (Value.int .u8)).toArray.toList) = VV := ⟨_, rfl⟩
    rw [hVV] at G1 SV OV ⊢
    have v1 := SV.out.2.1
    go_wp2_with (refine wpList_del_sc rfl (.tmp 27) (.tmp 28) rfl mb N T rfl SV.out.2.2.2 (i : Int) HI.out rfl ?_)
    intro w6 s6 hg6
    have E6 : Hid (DkP w6 h b N (D.set i y) (fun j => if j = (i : Int) then [] else W j) up done fuse gd cd mb (fun q => if q = (i : Int) then none else T q)) := HP.out.settled (i : Int) OV.out (by simp) (is64_set HP.out.is64 i y hy64) (fun k hk hne => G1.out.block k hk (by simpa using hne)) G1.out.size s6 hg6
    have F6 : Hid (Off (Fp b gd mb T) w w6) := by
      have c1 : Off (Fp b gd mb T) w VV := Off.grown (w := w.drew) ⟨rfl, rfl, rfl, Nat.le_refl _, fun _ _ _ => rfl⟩ G1.out (fun k e => .inl (.inr (.inl (Option.some.inj e).symm)))
      exact c1.grown hg6 (fun k e => .inl (.inr (.inr (.inl (Option.some.inj e).symm))))
    clear s6 hg6
    go_wp2_with fail
    exact Great.bodyPost_end0 rfl rfl ⟨rfl, F6.out, E6.out⟩
set_option maxHeartbeats 4000000 in
theorem settle_none (w : World) (h b N : Nat) (D : List (List Int)) (W : Int → List (List Int)) (up : Bool) (done fuse : Int) (gd cd mb : Nat) (T : Int → Option Hd) (H : DkP w h b N D W up done fuse gd cd mb T) (hD : D.length ≤ 4096) (i : Nat) (hi : i < D.length) :
    Calls Tryz.prog 53 #[.pointer (some ⟨b, 0, none⟩), .int .i64 (i : Int), .int .i64 0] w fun e w' => e = .returned (.tuple #[]) ∧ Off (Fp b gd mb T) w w' ∧ DkP w' h b N D (fun j => if j = (i : Int) then [] else W j) up done fuse gd cd mb (fun q => if q = (i : Int) then none else T q) := by
  obtain ⟨q0, q1, q2, q3, q4⟩ := d5_of H.cell
  have HI : Hid (InI (i : Int)) := ⟨by omega, by omega⟩
  have HP : Hid (DkP w h b N D W up done fuse gd cd mb T) := H
  go_enter Tryz.func53, Tryz.ntmps53
  go_wp2_with (refine wpList_del_sc rfl (.tmp 27) (.tmp 28) rfl mb N T rfl HP.out.mp (i : Int) HI.out rfl ?_)
  intro w6 s6 hg6
  have E6 : Hid (DkP w6 h b N D (fun j => if j = (i : Int) then [] else W j) up done fuse gd cd mb (fun q => if q = (i : Int) then none else T q)) := HP.out.settled (i : Int) HP.out.dur rfl HP.out.is64 (fun k hk hne => rfl) (Nat.le_refl _) s6 hg6
  have F6 : Hid (Off (Fp b gd mb T) w w6) := (Off.refl _ w).grown hg6 (fun k e => .inl (.inr (.inr (.inl (Option.some.inj e).symm))))
  clear s6 hg6
  go_wp2_with fail
  exact Great.bodyPost_end0 rfl rfl ⟨rfl, F6.out, E6.out⟩
end Go.Proofs.YtcindeechmpalaaGreat
namespace Go.Proofs.YtcindeechmpalaaGreat
open Go.ChangeShapes Go.WideShapes Go.ChangeAt Go.RowKit Go.Deep Go.Maps
set_option linter.unusedVariables false
set_option linter.unusedSimpArgs false in
set_option maxRecDepth 100000 in
set_option maxHeartbeats 4000000 in
theorem settle_rg (w : World) (h b N : Nat) (D : List (List Int)) (W : Int → List (List Int)) (up : Bool) (done fuse : Int) (gd cd mb : Nat) (T : Int → Option Hd) (H : DkP w h b N D W up done fuse gd cd mb T) (hD : D.length ≤ 4096) (i : Nat) (hi : i < D.length) (k g c : Nat) (hT : T i = some (g + 1, (W i).length, c)) (hk : k < (W i).length) (hkl : (W i).length ≤ 1000000000) (y : List Int) (hy : (W i)[k]? = some y) (r cnt : Nat) (left : Int → Bool) (R : Rg w mb r N T left cnt) (hr : r ≠ gd) :
    Calls Tryz.prog 53 #[.pointer (some ⟨b, 0, none⟩), .int .i64 (i : Int), .int .i64 ((k : Int) + 1)] w fun e w' => e = .returned (.tuple #[]) ∧ Off (Fp b gd mb T) w w' ∧ DkP w' h b N (D.set i y) (fun j => if j = (i : Int) then [] else W j) up done fuse gd cd mb (fun q => if q = (i : Int) then none else T q) ∧ ∃ cnt', Rg w' mb r N (fun q => if q = (i : Int) then none else T q) (fun q => left q && !decide (q = (i : Int))) cnt' ∧ cnt' ≤ cnt := by
  have RG : Hid (Rg w mb r N T left cnt) := R
  have HR2 : Hid (r ≠ gd) := hr
  clear R hr
  obtain ⟨q0, q1, q2, q3, q4⟩ := d5_of H.cell
  have hy64 := (H.row i _ hT).2.2.2 y (List.mem_of_getElem? hy)
  have HR : Hid (w.rangeAt g (k * 64) (y.map (Value.int .u8))) := OwnB.range (H.row i _ hT).2.2.1 (H.row i _ hT).2.2.2 k y hy
  have HI : Hid (InI (i : Int)) := ⟨by omega, by omega⟩
  have HP : Hid (DkP w h b N D W up done fuse gd cd mb T) := H
  have LN : Hid ((y.map (Value.int .u8)).length = 64) := by show _ = _; simp [hy64.1]
  have e1 : decide (0 < (k : Int) + 1) = true := by rw [decide_eq_true_eq]; omega
  have ew : IntKind.i64.wrap ((k : Int) + 1 - 1) = (k : Int) := by rw [IntKind.wrap_i64]; omega
  have ew2 : IntKind.i64.wrap (k : Int) = (k : Int) := by rw [IntKind.wrap_i64]; omega
  have LK : Hid (∀ w', Sc w' mb N T → (Instr.lookup 73 (.map (some mb)) (.int .i64 (i : Int)) false).run Tryz.prog w' = .ok (.slice (some ⟨g, 0, none⟩) (W i).length c) w') := fun w' hs => by
    have := hs.look i HI.out
    rw [hT] at this
    exact this
  go_enter Tryz.func53, Tryz.ntmps53
  go_wp2_with fail
  refine wp_region_noPanic ?_
  refine wp_region_held_drew (S := (fun Wd : World => Wd.cell? ⟨b, 0, none⟩ = some (.slice (some ⟨gd, 0, none⟩) D.length cd) ∧ Wd.cell? ⟨b, 1, none⟩ = some (.map (some mb)) ∧ Wd.rangeAt g (k * 64) (y.map (Value.int .u8)) ∧ Sc Wd mb N T)) (by kernel_rfl) ?hSa (fun hHeld => ?resta)
  case hSa => exact ⟨q0, q1, HR.out, HP.out.mp⟩
  case resta =>
    refine wpAnyH_take (i := 0) (v := .pointer (some ⟨b, 0, none⟩)) rfl (by kernel_rfl) (by kernel_rfl) (by kernel_rfl) (fun _ _ _ h => h) (Or.inl ⟨by rfl, ?hy0⟩) hHeld ?rest0
    case hy0 => (intro w hSw; (try dsimp only at hSw); go_simp; try with_reducible rfl)
    try simp only [Act.put, List.setIfInBounds_toArray, List.set_cons_zero, List.set_cons_succ, List.getElem_toArray, List.getElem_cons_zero]
    refine wpAnyH_take (i := 1) (v := .pointer (some ⟨b, 0, none⟩)) rfl (by kernel_rfl) (by kernel_rfl) (by kernel_rfl) (fun _ _ _ h => h) (Or.inl ⟨by rfl, ?hy1⟩) hHeld ?rest1
    case hy1 => (intro w hSw; (try dsimp only at hSw); go_simp; try with_reducible rfl)
    try simp only [Act.put, List.setIfInBounds_toArray, List.set_cons_zero, List.set_cons_succ, List.getElem_toArray, List.getElem_cons_zero, List.getElem_cons_succ]
    refine wpAnyH_take (i := 2) (v := .pointer (some ⟨b, 0, none⟩)) rfl (by kernel_rfl) (by kernel_rfl) (by kernel_rfl) (fun _ _ _ h => h) (Or.inl ⟨by rfl, ?hy2⟩) hHeld ?rest2
    case hy2 => (intro w hSw; (try dsimp only at hSw); go_simp; try with_reducible rfl)
    try simp only [Act.put, List.setIfInBounds_toArray, List.set_cons_zero, List.set_cons_succ, List.getElem_toArray, List.getElem_cons_zero, List.getElem_cons_succ]
    refine wpAnyH_take (i := 3) (v := .slice (some ⟨gd, 0, none⟩) D.length cd) rfl (by kernel_rfl) (by kernel_rfl) (by kernel_rfl) (fun _ _ _ h => h) (Or.inl ⟨by rfl, ?hy3⟩) hHeld ?rest3
    case hy3 => (intro w hSw; have hS1 := hSw.1; clear hSw; go_simp; try with_reducible rfl)
    try simp only [Act.put, List.setIfInBounds_toArray, List.set_cons_zero, List.set_cons_succ, List.getElem_toArray, List.getElem_cons_zero, List.getElem_cons_succ]
    refine wpAnyH_take (i := 4) (v := .int .i64 (i : Int)) rfl (by kernel_rfl) (by kernel_rfl) (by kernel_rfl) (fun _ _ _ h => h) (Or.inl ⟨by rfl, ?hy4⟩) hHeld ?rest4
    case hy4 => (intro w hSw; (try dsimp only at hSw); go_simp; try with_reducible rfl)
    try simp only [Act.put, List.setIfInBounds_toArray, List.set_cons_zero, List.set_cons_succ, List.getElem_toArray, List.getElem_cons_zero, List.getElem_cons_succ]
    refine wpAnyH_take (i := 5) (v := .pointer (some ⟨b, 0, none⟩)) rfl (by kernel_rfl) (by kernel_rfl) (by kernel_rfl) (fun _ _ _ h => h) (Or.inl ⟨by rfl, ?hy5⟩) hHeld ?rest5
    case hy5 => (intro w hSw; (try dsimp only at hSw); go_simp; try with_reducible rfl)
    try simp only [Act.put, List.setIfInBounds_toArray, List.set_cons_zero, List.set_cons_succ, List.getElem_toArray, List.getElem_cons_zero, List.getElem_cons_succ]
    refine wpAnyH_take (i := 6) (v := .pointer (some ⟨b, 0, none⟩)) rfl (by kernel_rfl) (by kernel_rfl) (by kernel_rfl) (fun _ _ _ h => h) (Or.inl ⟨by rfl, ?hy6⟩) hHeld ?rest6
    case hy6 => (intro w hSw; (try dsimp only at hSw); go_simp; try with_reducible rfl)
    try simp only [Act.put, List.setIfInBounds_toArray, List.set_cons_zero, List.set_cons_succ, List.getElem_toArray, List.getElem_cons_zero, List.getElem_cons_succ]
    refine wpAnyH_take (i := 7) (v := .pointer (some ⟨b, 1, none⟩)) rfl (by kernel_rfl) (by kernel_rfl) (by kernel_rfl) (fun _ _ _ h => h) (Or.inl ⟨by rfl, ?hy7⟩) hHeld ?rest7
    case hy7 => (intro w hSw; (try dsimp only at hSw); go_simp; try with_reducible rfl)
    try simp only [Act.put, List.setIfInBounds_toArray, List.set_cons_zero, List.set_cons_succ, List.getElem_toArray, List.getElem_cons_zero, List.getElem_cons_succ]
    refine wpAnyH_take (i := 8) (v := .map (some mb)) rfl (by kernel_rfl) (by kernel_rfl) (by kernel_rfl) (fun _ _ _ h => h) (Or.inl ⟨by rfl, ?hy8⟩) hHeld ?rest8
    case hy8 => (intro w hSw; have hS1 := hSw.2.1; clear hSw; go_simp; try with_reducible rfl)
    try simp only [Act.put, List.setIfInBounds_toArray, List.set_cons_zero, List.set_cons_succ, List.getElem_toArray, List.getElem_cons_zero, List.getElem_cons_succ]
    refine wpAnyH_take (i := 9) (v := .int .i64 (i : Int)) rfl (by kernel_rfl) (by kernel_rfl) (by kernel_rfl) (fun _ _ _ h => h) (Or.inl ⟨by rfl, ?hy9⟩) hHeld ?rest9
    case hy9 => (intro w hSw; (try dsimp only at hSw); go_simp; try with_reducible rfl)
    try simp only [Act.put, List.setIfInBounds_toArray, List.set_cons_zero, List.set_cons_succ, List.getElem_toArray, List.getElem_cons_zero, List.getElem_cons_succ]
    refine wpAnyH_take (i := 10) (v := .slice (some ⟨g, 0, none⟩) (W i).length c) rfl (by kernel_rfl) (by kernel_rfl) (by kernel_rfl) (fun _ _ _ h => h) (Or.inl ⟨by rfl, ?hy10⟩) hHeld ?rest10
    case hy10 => (intro w hSw; have hS1 := LK.out w hSw.2.2.2; clear hSw; go_simp; try with_reducible rfl)
    try simp only [Act.put, List.setIfInBounds_toArray, List.set_cons_zero, List.set_cons_succ, List.getElem_toArray, List.getElem_cons_zero, List.getElem_cons_succ]
    refine wpAnyH_take (i := 11) (v := .int .i64 ((k : Int) + 1)) rfl (by kernel_rfl) (by kernel_rfl) (by kernel_rfl) (fun _ _ _ h => h) (Or.inl ⟨by rfl, ?hy11⟩) hHeld ?rest11
    case hy11 => (intro w hSw; (try dsimp only at hSw); go_simp; try with_reducible rfl)
    try simp only [Act.put, List.setIfInBounds_toArray, List.set_cons_zero, List.set_cons_succ, List.getElem_toArray, List.getElem_cons_zero, List.getElem_cons_succ]
    refine wpAnyH_take (i := 12) (v := .int .i64 (k : Int)) rfl (by kernel_rfl) (by kernel_rfl) (by kernel_rfl) (fun _ _ _ h => h) (Or.inl ⟨by rfl, ?hy12⟩) hHeld ?rest12
    case hy12 => (intro w hSw; (try dsimp only at hSw); go_simp; try with_reducible rfl)
    try simp only [Act.put, List.setIfInBounds_toArray, List.set_cons_zero, List.set_cons_succ, List.getElem_toArray, List.getElem_cons_zero, List.getElem_cons_succ]
    refine wpAnyH_take (i := 13) (v := .pointer (some ⟨g, k * 64, none⟩)) rfl (by kernel_rfl) (by kernel_rfl) (by kernel_rfl) (fun _ _ _ h => h) (Or.inl ⟨by rfl, ?hy13⟩) hHeld ?rest13
    case hy13 => (intro w hSw; (try dsimp only at hSw); go_simp; try with_reducible rfl)
    try simp only [Act.put, List.setIfInBounds_toArray, List.set_cons_zero, List.set_cons_succ, List.getElem_toArray, List.getElem_cons_zero, List.getElem_cons_succ]
    refine wpAnyH_take (i := 14) (v := .agg (y.map (Value.int .u8)).toArray) rfl (by kernel_rfl) (by kernel_rfl) (by kernel_rfl) (fun _ _ _ h => h) (yieldsIf_load_mid (by rfl) 144 (.tmp 21) rfl g (k * 64) rfl (y.map (Value.int .u8)) _ (fun w hSw => hSw.2.2.1) Tryz.underlying144 rfl (by rw [LN.out]; kernel_rfl)) hHeld ?rest14
    case rest14 =>
    try simp only [Act.put, List.setIfInBounds_toArray, List.set_cons_zero, List.set_cons_succ, List.getElem_toArray, List.getElem_cons_zero, List.getElem_cons_succ]
    refine wpAnyH_take (i := 15) (v := .pointer (some ⟨gd, i * 64, none⟩)) rfl (by kernel_rfl) (by kernel_rfl) (by kernel_rfl) (fun _ _ _ h => h) (Or.inl ⟨by rfl, ?hy15⟩) hHeld ?rest15
    case hy15 => (intro w hSw; (try dsimp only at hSw); go_simp; try with_reducible rfl)
    try simp only [Act.put, List.setIfInBounds_toArray, List.set_cons_zero, List.set_cons_succ, List.getElem_toArray, List.getElem_cons_zero, List.getElem_cons_succ]
    refine wpAnyH_ready (rs := [16]) (by kernel_rfl) (by simp) ?_
    refine AllReadyH.cons rfl (fun K hK => ?_) AllReadyH.nil
    have G1 : Hid (w.drew.grownBy (w.drew.setCells gd (i * 64) (y.map (Value.int .u8)).toArray.toList) (some gd)) := grown_sets gd _ _ w.drew
    have SV : Hid ((w.drew.setCells gd (i * 64) (y.map (Value.int .u8)).toArray.toList).cell? ⟨b, 0, none⟩ = some (.slice (some ⟨gd, 0, none⟩) D.length cd) ∧ (w.drew.setCells gd (i * 64) (y.map (Value.int .u8)).toArray.toList).cell? ⟨b, 1, none⟩ = some (.map (some mb)) ∧ (w.drew.setCells gd (i * 64) (y.map (Value.int .u8)).toArray.toList).rangeAt g (k * 64) (y.map (Value.int .u8)) ∧ Sc (w.drew.setCells gd (i * 64) (y.map (Value.int .u8)).toArray.toList) mb N T) := by
      have hl := HP.out.apart3
      have h4 := HP.out.apart4
      have hgo := HP.out.off (i : Int) g (by rw [hT]; rfl)
      have hbb := G1.out.block b hl.2.2.2.1 (by simpa using h4)
      refine ⟨(World.cell?_of_block (a := ⟨b, 0, none⟩) hbb).trans q0, (World.cell?_of_block (a := ⟨b, 1, none⟩) hbb).trans q1, fun j v hv => (World.cell?_of_block (a := ⟨g, k * 64 + j, none⟩) (G1.out.block g hgo.1 (by have := hgo.2.2.2.1; simpa using this))).trans (HR.out j v hv), Sc.kept (w := w.drew) HP.out.mp G1.out (by have := hl.2.1; simp; omega)⟩
    have OV : Hid (OwnB (w.drew.setCells gd (i * 64) (y.map (Value.int .u8)).toArray.toList) h (.slice (some ⟨gd, 0, none⟩) D.length cd) (D.set i y)) := OwnB.put (w := w.drew) rfl HP.out.dur HP.out.is64 i hi y hy64
    have TH : Hid (w.drew.there gd (i * 64) 64) := OwnB.there (w := w.drew) HP.out.dur HP.out.is64 i (D[i]) (List.getElem?_eq_getElem hi)
    have AL : Hid ((y.map (Value.int .u8)).toArray.all (·.oneCell') = true) := by show _ = _; rw [Array.all_eq_true_iff_forall_mem]; intro v hv; simp at hv; obtain ⟨z, _, rfl⟩ := hv; rfl
    have AS : Hid ((y.map (Value.int .u8)).toArray.size = 64) := by show _ = _; simp [hy64.1]
    refine wp_store_mid 144 (.tmp 23) (.tmp 22) rfl gd (i * 64) (y.map (Value.int .u8)).toArray rfl rfl (by rw [AS.out]; exact TH.out) (by rw [AS.out]; kernel_rfl) AL.out ?_
    refine hK.out _ _ ?hS16 (fun hHeld => ?rest16)
    case hS16 => exact SV.out
    clear hK K
    try simp only [Act.put, List.setIfInBounds_toArray, List.set_cons_zero, List.set_cons_succ, List.getElem_toArray, List.getElem_cons_zero, List.getElem_cons_succ]
    refine wpAnyH_done (by kernel_rfl) ?_ _
    refine NoPanic.normal ?_
    have RV : Hid (Rg (w.drew.setCells gd (i * 64) (y.map (Value.int .u8)).toArray.toList) mb r N T left cnt) := Rg.kept (w := w.drew) RG.out G1.out (by have := HP.out.apart3.2.1; simp; omega) (by have := HR2.out; simpa using this)
    obtain ⟨VV, hVV⟩ : ∃ VV, (w.drew.setCells gd (i * 64) (y.map (Value.int .u8)).toArray.toList) = VV := ⟨_, rfl⟩
    rw [hVV] at G1 SV OV RV ⊢
    have v1 := SV.out.2.1
    go_wp2_with (refine wpList_del_rg rfl (.tmp 27) (.tmp 28) rfl mb r N T left cnt rfl RV.out (i : Int) HI.out rfl ?_)
    intro w6 cnt6 r6 hle6 hg6
    have s6 := r6.sc
    have R6 : Hid (∃ cnt', Rg w6 mb r N (fun q => if q = (i : Int) then none else T q) (fun q => left q && !decide (q = (i : Int))) cnt' ∧ cnt' ≤ cnt) := ⟨cnt6, r6, hle6⟩
    clear r6 hle6
    have E6 : Hid (DkP w6 h b N (D.set i y) (fun j => if j = (i : Int) then [] else W j) up done fuse gd cd mb (fun q => if q = (i : Int) then none else T q)) := HP.out.settled (i : Int) OV.out (by simp) (is64_set HP.out.is64 i y hy64) (fun k hk hne => G1.out.block k hk (by simpa using hne)) G1.out.size s6 hg6
    have F6 : Hid (Off (Fp b gd mb T) w w6) := by
      have c1 : Off (Fp b gd mb T) w VV := Off.grown (w := w.drew) ⟨rfl, rfl, rfl, Nat.le_refl _, fun _ _ _ => rfl⟩ G1.out (fun k e => .inl (.inr (.inl (Option.some.inj e).symm)))
      exact c1.grown hg6 (fun k e => .inl (.inr (.inr (.inl (Option.some.inj e).symm))))
    clear s6 hg6
    go_wp2_with fail
    exact Great.bodyPost_end0 rfl rfl ⟨rfl, F6.out, E6.out, R6.out⟩
end Go.Proofs.YtcindeechmpalaaGreat
namespace Go.Proofs.YtcindeechmpalaaGreat
open Go.ChangeShapes Go.WideShapes Go.ChangeAt Go.RowKit Go.Deep Go.Maps
set_option linter.unusedVariables false
/-- a block's number, and how many of its writes wait -/
abbrev Wt := Int × Int
def wcl (x : Wt) : List Value := [.int .i64 x.1, .int .i64 x.2]
def wcs (l : List Wt) : List Value := l.flatMap wcl
/-- the two cells of one -/
def Wc (w : World) (g off : Nat) (x : Wt) : Prop := w.cell? ⟨g, off, none⟩ = some (.int .i64 x.1) ∧ w.cell? ⟨g, off + 1, none⟩ = some (.int .i64 x.2)
/-- a slice of them that may be read -/
def InW (w : World) (a : Option Addr) (l : List Wt) : Prop := l = [] ∨ ∃ g off, a = some ⟨g, off, none⟩ ∧ g < w.heap.size ∧ ∀ i x, l[i]? = some x → Wc w g (off + i * 2) x
theorem wcs_len (l : List Wt) : (wcs l).length = l.length * 2 := by
  induction l with
  | nil => rfl
  | cons x l ih => simp only [wcs, List.flatMap_cons, List.length_append, List.length_cons] at ih ⊢; rw [ih]; simp [wcl]; omega
theorem wcs_at (l : List Wt) (i : Nat) (x : Wt) (h : l[i]? = some x) (k : Nat) (hk : k < 2) : (wcs l)[i * 2 + k]? = (wcl x)[k]? := by
  induction l generalizing i with
  | nil => simp at h
  | cons y l ih =>
    cases i with
    | zero =>
      simp at h
      subst h
      simp only [wcs, List.flatMap_cons, Nat.zero_mul, Nat.zero_add]
      rw [List.getElem?_append_left (by simp [wcl]; omega)]
    | succ i =>
      simp only [List.getElem?_cons_succ] at h
      have := ih i h
      simp only [wcs, List.flatMap_cons] at this ⊢
      rw [List.getElem?_append_right (by simp [wcl]; omega), ← this]
      congr 1
      simp [wcl]
      omega
/-- a slice of them of one's own, from block 'base' on -/
def OwnW (w : World) (base : Nat) (v : Value) (l : List Wt) : Prop := w.ownsRow base 108 2 v l.length (wcs l)
theorem OwnW.nil (w : World) (base : Nat) : OwnW w base (.slice none 0 0) [] := World.ownsRow_nil _ _ _ _
theorem OwnW.own {w : World} {base : Nat} {v : Value} {l : List Wt} (h : OwnW w base v l) : ∀ k, v.ownBlock = some k → base ≤ k ∧ k < w.heap.size := fun k hk => World.ownsRow.lt h k hk
theorem OwnW.block {w w' : World} {base : Nat} {v : Value} {l : List Wt} (h : OwnW w base v l) (hb : ∀ k, v.ownBlock = some k → w'.heap[k]? = w.heap[k]?) : OwnW w' base v l := by
  refine ⟨h.1, ?_⟩
  rcases h.2 with h1 | ⟨g, cap, cur, rfl, hbg, hg, rest⟩
  · exact .inl h1
  · exact .inr ⟨g, cap, cur, rfl, hbg, (hb g rfl).trans hg, rest⟩
theorem OwnW.keep {w w' : World} {base : Nat} {v : Value} {l : List Wt} (h : OwnW w base v l) (hb : Below w.heap.size w w') : OwnW w' base v l := h.block fun k hk => hb.block k (h.own k hk).2
theorem OwnW.base {w : World} {a b : Nat} {v : Value} {l : List Wt} (h : OwnW w b v l) (hab : a ≤ b) : OwnW w a v l := by
  refine ⟨h.1, ?_⟩
  rcases h.2 with h1 | ⟨g, cap, cur, rfl, hbg, rest⟩
  · exact .inl h1
  · exact .inr ⟨g, cap, cur, rfl, Nat.le_trans hab hbg, rest⟩
theorem OwnW.slice {w : World} {base : Nat} {v : Value} {l : List Wt} (h : OwnW w base v l) : ∃ a c, v = .slice a l.length c ∧ InW w a l ∧ l.length ≤ c ∧ c ≤ 9223372036854775807 ∧ (a = none → c = 0) := by
  rcases h.2 with ⟨rfl, hn⟩ | ⟨g, cap, cur, rfl, hb, hg, hl, hm, hs, ht⟩
  · have : l = [] := List.length_eq_zero_iff.1 hn
    subst this
    exact ⟨none, 0, rfl, .inl rfl, by simp, by omega, fun _ => rfl⟩
  · simp only [maxLen] at hm
    refine ⟨_, _, rfl, .inr ⟨g, 0, rfl, (h.own g rfl).2, fun i x hx => ?_⟩, hl, by omega, fun h => by simp at h⟩
    have hc : ∀ k v, k < 2 → (wcl x)[k]? = some v → w.cell? ⟨g, 0 + i * 2 + k, none⟩ = some v := by
      intro k v hk hv
      have := World.ownsRow.cells h (g := g) rfl (i * 2 + k) v (by rw [wcs_at l i x hx k hk]; exact hv)
      rw [add_plain, Nat.zero_add] at this
      rw [Nat.zero_add]
      exact this
    exact ⟨hc 0 _ (by omega) rfl, hc 1 _ (by omega) rfl⟩
theorem infoW : ∃ i, Tryz.prog.info? 108 = some i ∧ i.zero = some (.agg #[.int .i64 0, .int .i64 0]) ∧ i.size = 2 ∧ i.bytes = 16 := info_parts (show (Tryz.prog.info? 108).map (fun i => (i.zero, i.size, i.bytes)) = some (some (.agg #[.int .i64 0, .int .i64 0]), 2, 16) by kernel_rfl)
theorem append_wait {w : World} {ops : Array Oper} {rest : List Oper} {o : Oper} {act : Act} {Q : Exit → Act → World → Prop} (hgd : o.guard = none) (s x : Operand)
    (ho : o.op = .call { callee := .builtin .append, args := #[s, x], argTypes := #[105, 105] })
    (base : Nat) (v : Value) (l : List Wt) (hs : act.eval s = v) (hown : OwnW w base v l)
    (g c : Nat) (y : Wt) (hx : act.eval x = .slice (some ⟨g, 0, none⟩) 1 c) (hc : w.heap[g]? = some (.cells #[.int .i64 y.1, .int .i64 y.2] 108))
    (hN : l.length ≤ 1000000000) (hbase : base ≤ w.heap.size)
    (h : ∀ v' w', OwnW w' base v' (l ++ [y]) → w.grownBy w' v.ownBlock → wpList Tryz.prog ops Q rest (act.put o.dst v') w') :
    wpList Tryz.prog ops Q (o :: rest) act w := by
  obtain ⟨i, hi, hz, h1, h2⟩ := infoW
  refine wpList_append_own w hgd s x 105 ho base 108 i _ 2 16 Tryz.underlying105 hi hz h1 h2 rfl (by decide) v l.length _ hs hown ⟨g, 0, none⟩ 1 c (wcl y) hx rfl ?_ (by simp [wcl, Value.oneCell']) (by simp only [maxLen]; omega) (by omega) hbase ?_
  · intro j u hu
    rw [add_plain, Nat.zero_add]
    simp only [World.cell?, hc]
    simpa [wcl] using hu
  · intro v' w' hown' hg _
    refine h v' w' ?_ hg
    unfold OwnW
    rw [List.length_append]
    have : wcs (l ++ [y]) = wcs l ++ wcl y := by simp [wcs]
    rw [this]
    exact hown'
theorem ownW_some {w : World} {base : Nat} {v : Value} {l : List Wt} (h : OwnW w base v l) (hl : l ≠ []) : ∃ g c, v = .slice (some ⟨g, 0, none⟩) l.length c ∧ base ≤ g := by
  rcases h.2 with ⟨_, hn⟩ | ⟨g, cap, cur, rfl, hbg, rest⟩
  · exact absurd (List.length_eq_zero_iff.1 hn) hl
  · exact ⟨g, cap, rfl, hbg⟩
theorem OwnW.cur {w : World} {base g N c : Nat} {l : List Wt} (h : OwnW w base (.slice (some ⟨g, 0, none⟩) N c) l) : (∃ cur, w.heap[g]? = some (.cells cur 108)) ∧ l.length = N ∧ ∀ i x, l[i]? = some x → Wc w g (i * 2) x := by
  obtain ⟨a, c', e, hin, _⟩ := h.slice
  cases e
  refine ⟨?_, rfl, fun i x hx => ?_⟩
  · rcases h.2 with ⟨h1, _⟩ | ⟨g', cap, cur, h1, hbg, hg, rest⟩
    · cases h1
    · cases h1
      exact ⟨cur, hg⟩
  · rcases hin with h1 | ⟨g', off, h1, _, h2⟩
    · subst h1
      simp at hx
    · cases h1
      have := h2 i x hx
      rwa [Nat.zero_add] at this
theorem make0W (N : Nat) (hN : N ≤ 1000000000) (w : World) : ∃ w', (Instr.makeSlice 105 (.int .i64 0) (.int .i64 (N : Int))).run Tryz.prog w = .ok (.slice (some ⟨w.heap.size, 0, none⟩) 0 N) w' ∧ OwnW w' w.heap.size (.slice (some ⟨w.heap.size, 0, none⟩) 0 N) [] ∧ w.grownBy w' none := by
  obtain ⟨i, hi, hz, h1, h2⟩ := infoW
  obtain ⟨w', hr, ho, hg⟩ := run_make_own (P := Tryz.prog) w w.heap.size 105 108 i _ 2 Tryz.underlying105 hi hz h1 .i64 .i64 N (by rw [h2]; omega) (by simp only [maxLen]; omega) (Nat.le_refl _)
  exact ⟨w', hr, ho, hg⟩
end Go.Proofs.YtcindeechmpalaaGreat
