/- append onto a slice of bytes of one's own: bytes, a text; with where the new slice lies and what else changed. layer.appendText, layer.Encode. layer's reader: take, number, text. -/
import Derived.Test.YtlddoobomjcldaaDoorMgLc0
import Derived.Test.YtlddoobomjcldaaDoorMgLc1
import Derived.Lib.AppendStr
import Derived.ArgAppend
import Derived.Test.YtlddoobomjcldaaDoorMgLc3
import Derived.Lib.SlBytesConst
import Derived.Deep.QuietTactic
import Derived.BigQuiet
namespace Go.Proofs.YtlddoobomjcldaaDoor
open Go.ChangeShapes Go.WideShapes Go.ChangeAt Go.RowKit Go.Deep
set_option linter.unusedVariables false
theorem strCells_tx (t : Tx) : Lib.strCells (tx t) = (nm t).map (Value.int .u8) := by
  simp [Lib.strCells, tx, nm, Function.comp_def]
theorem holds_cells {w : World} {ad : Addr} {L : List Int} (hh : Holds w (some ad) L) : ∀ j u, (L.map (Value.int .u8))[j]? = some u → w.cell? (ad.add j) = some u := by
  intro j u hu
  have hj : j < L.length := by
    have := (List.getElem?_eq_some_iff.1 hu).1
    simpa using this
  rcases hh with h | ⟨b, off, hb, hcell⟩
  · subst h; simp at hj
  · simp only [Option.some.injEq] at hb
    subst hb
    rw [add_plain, hcell j hj]
    simp [List.getElem?_eq_getElem hj] at hu
    simp [List.getD, List.getElem?_eq_getElem hj, hu]
theorem gB_refl (w : World) (row : Option Nat) : w.grownBy w row := ⟨rfl, rfl, rfl, Nat.le_refl _, fun _ _ _ => rfl⟩
theorem appB_run {w : World} (base : Nat) (v : Value) (A : List Int) (hown : Owned w base v A)
    (a : Option Addr) (m c : Nat) (L : List Int) (hm : L.length = m) (hh : Holds w a L) (hc : a = none → c = 0) (hN : A.length + m ≤ 100000000000000) (hbase : base ≤ w.heap.size) (ty : TypeId) :
    ∃ v' w', (Builtin.append_ #[23, 23] ty #[v, .slice a m c]).run Tryd.prog w = .ok v' w' ∧ Owned w' base v' (A ++ L) ∧ w.grownBy w' v.ownBlock ∧ (v'.ownBlock = v.ownBlock ∨ v'.ownBlock = some w.heap.size) := by
  obtain ⟨i, hi, hz, h1, h2⟩ := info8p
  rcases hown.2 with ⟨rfl, hn0⟩ | ⟨g, cap, cur, rfl, hbg, hg, hnc, hcm, hcs, htake⟩
  · have hA0 : A = [] := List.length_eq_zero_iff.1 hn0
    subst hA0
    by_cases hm0 : m = 0
    · subst hm0
      have hL : L = [] := List.length_eq_zero_iff.1 hm
      subst hL
      refine ⟨.slice none 0 0, w, ?_, hown, gB_refl _ _, .inl rfl⟩
      cases a with
      | none => simp [Builtin.append_, run_underlying Tryd.underlying23, sizeOf, typeInfo, hi, Builtin.lenOf, Builtin.firstCells]
      | some ad => simp [Builtin.append_, run_underlying Tryd.underlying23, sizeOf, typeInfo, hi, Builtin.lenOf, Builtin.firstCells, loadCells, loadCellsFrom]
    · cases a with
      | none =>
        exfalso
        rcases hh with h | ⟨b, off, hb, _⟩
        · rw [h] at hm; simp at hm; omega
        · simp at hb
      | some ad =>
        have hr := run_append_nil (P := Tryd.prog) w 23 ty 5 i (.int .u8 0) Tryd.underlying23 hi hz ad m c (L.map (Value.int .u8)) (by simp [hm, h1]) (holds_cells hh) (by omega) (by omega) (by rw [h2]; omega)
        have hge := grownCap_ge w m 0 5
        have hle := grownCap_le_maxLen w m 0 5 (by simp only [maxLen]; omega)
        refine ⟨_, _, hr, ?_, ⟨rfl, rfl, rfl, by simp, fun k hk _ => Below.heap_alloc w.drew _ k hk⟩, .inr rfl⟩
        refine ⟨by simp, .inr ⟨w.heap.size, _, _, by simp [hm], hbase, heap_alloc_new w.drew _, by simp [hm]; exact hge, hle, ?_, ?_⟩⟩
        · simp [size_zeroCells, hm, Value.cells]; omega
        · rw [List.nil_append, hm, Nat.mul_one]
          simp only [Array.toList_append]
          have : (L.map (Value.int .u8)).toArray.toList.length = m := by simp [hm]
          rw [← this]
          exact List.take_left
  · have hAl : (A.map (Value.int .u8)).length = A.length := by simp
    rw [Nat.mul_one] at hcs htake
    cases a with
    | none =>
      have hL : L = [] := by
        rcases hh with h | ⟨b, off, hb, _⟩
        · exact h
        · simp at hb
      subst hL
      have hc0 := hc rfl
      subst hc0
      have hm0 : m = 0 := by rw [← hm]; rfl
      subst hm0
      refine ⟨.slice (some ⟨g, 0, none⟩) A.length cap, w, ?_, ?_, gB_refl _ _, .inl rfl⟩
      · simp [Builtin.append_, run_underlying Tryd.underlying23, sizeOf, typeInfo, hi, Builtin.lenOf, hnc, Builtin.firstCells, storeCells]
      · rw [List.append_nil]; exact hown
    | some ad =>
      have hlen : ((A ++ L).map (Value.int .u8)).length = A.length + m := by simp [hm]
      by_cases hroom : A.length + m ≤ cap
      · have hr := run_append_room (P := Tryd.prog) w 23 ty 5 i Tryd.underlying23 hi g A.length cap cur hg ad m c (L.map (Value.int .u8)) (by simp [hm, h1]) (holds_cells hh) (ints_oneCell _ _) hroom (by simp [h1, hm, hcs]; exact hroom)
        refine ⟨_, _, hr, ?_, ⟨rfl, rfl, rfl, by simp, fun k _ hk => setRow_other w g k _ (fun e => hk (by simp [Value.ownBlock, e]))⟩, .inl rfl⟩
        refine ⟨by simp, .inr ⟨g, cap, _, by simp [hm], hbg, setRow_heap w g cur _ 5 _ hg, by simp [hm]; exact hroom, hcm, ?_, ?_⟩⟩
        · simp [h1, hm]; omega
        · rw [h1]
          simp only [Nat.mul_one]
          rw [htake, List.length_append, hm, ← hlen, List.map_append]
          exact List.take_left
      · have holds : ∀ j u, (A.map (Value.int .u8))[j]? = some u → w.cell? ((⟨g, 0, none⟩ : Addr).add j) = some u := World.ownsRow.cells hown (g := g) rfl
        have hr := run_append_grow (P := Tryd.prog) w 23 ty 5 i (.int .u8 0) Tryd.underlying23 hi hz ⟨g, 0, none⟩ A.length cap (A.map (Value.int .u8)) (by simp [h1]) holds ad m c (L.map (Value.int .u8)) (by simp [hm, h1]) (holds_cells hh) (by omega) (by omega) (growslice_fits (by omega) (by rw [h2]; omega))
        have hge := grownCap_ge w (A.length + m) cap 5
        have hle := grownCap_le_maxLen w (A.length + m) cap 5 (by simp only [maxLen]; omega)
        refine ⟨_, _, hr, ?_, ⟨rfl, rfl, rfl, by simp, fun k hk _ => Below.heap_alloc w.drew _ k hk⟩, .inr rfl⟩
        refine ⟨by simp, .inr ⟨w.heap.size, _, _, by simp [hm], hbase, heap_alloc_new w.drew _, by simp [hm]; exact hge, hle, ?_, ?_⟩⟩
        · simp [size_zeroCells, hm, Value.cells]; omega
        · rw [List.length_append, hm, Nat.mul_one, ← hlen]
          simp only [Array.toList_append, List.append_assoc, List.map_append]
          rw [← List.append_assoc, ← List.map_append]
          exact List.take_left
theorem Owned.base {w : World} {a b : Nat} {v : Value} {A : List Int} (h : Owned w b v A) (hab : a ≤ b) : Owned w a v A := by
  refine ⟨h.1, ?_⟩
  rcases h.2 with h1 | ⟨g, cap, cur, rfl, hbg, rest⟩
  · exact .inl h1
  · exact .inr ⟨g, cap, cur, rfl, Nat.le_trans hab hbg, rest⟩
/-- append onto a slice that has no room -/
theorem append_grow {w : World} {ops : Array Oper} {rest : List Oper} {o : Oper} {act : Act} {Q : Exit → Act → World → Prop} (hgd : o.guard = none) (s x : Operand)
    (ho : o.op = .call { callee := .builtin .append, args := #[s, x], argTypes := #[23, 23] })
    (A : List Int) (q : Nat) (hq : A.length = q) (g : Addr) (hs : act.eval s = .slice (some g) q q) (hA : Holds w (some g) A)
    (ad : Addr) (m c : Nat) (L : List Int) (hx : act.eval x = .slice (some ad) m c) (hm : L.length = m) (hh : Holds w (some ad) L) (h0 : 0 < m) (hN : q + m ≤ 140737488355328)
    (h : ∀ v' w', Owned w' w.heap.size v' (A ++ L) → Below w.heap.size w w' → wpList Tryd.prog ops Q rest (act.put o.dst v') w') :
    wpList Tryd.prog ops Q (o :: rest) act w := by
  subst hq
  obtain ⟨i, hi, hz, h1, h2⟩ := info8p
  obtain ⟨v', w', hr, h3, h4⟩ := run_append_arg_grows (P := Tryd.prog) (w := w) 23 o.type 5 i (.int .u8 0) 1 1 Tryd.underlying23 hi hz h1 h2 rfl (by decide) g A.length A.length (A.map (Value.int .u8)) (by simp) (holds_cells hA) ad m c (L.map (Value.int .u8)) (by simp [hm]) (holds_cells hh) (by omega) (by simp only [maxLen]; omega) (by omega)
  refine wpList_plain hgd fun _ hK => ?_
  unfold Oper.wp execOp
  simp only [ho, resolve, invoke, builtin, Sem.run_bind, Sem.run_pure, Result.andThen_ok, List.map_toArray, List.map_cons, List.map_nil, hs, hx, hr]
  refine hK _ _ (h v' w' ?_ ((Below.refl w.heap.size w).grown h4 (Nat.le_refl _) (fun k hk => by cases hk)))
  unfold Owned
  rw [List.length_append, hm, List.map_append]
  exact h3
/-- what grew: the row r (now r'), new blocks, and nothing else -/
def Gr (w w' : World) (r r' : Option Nat) : Prop := w.grownBy w' r ∧ (r' = r ∨ ∃ k, r' = some k ∧ w.heap.size ≤ k)
theorem Gr.trans {w w1 w2 : World} {r r1 r2 : Option Nat} (h : Gr w w1 r r1) (k : Gr w1 w2 r1 r2) : Gr w w2 r r2 := by
  refine ⟨⟨k.1.os.trans h.1.os, k.1.tape.trans h.1.tape, k.1.output.trans h.1.output, Nat.le_trans h.1.size k.1.size, fun g hg hr => (k.1.block g (Nat.lt_of_lt_of_le hg h.1.size) ?_).trans (h.1.block g hg hr)⟩, ?_⟩
  · rcases h.2 with e | ⟨q, e, hq⟩
    · rw [e]; exact hr
    · rw [e]; intro h2; have := Option.some.inj h2; omega
  · rcases k.2 with e | ⟨q, e, hq⟩
    · rw [e]; exact h.2
    · exact .inr ⟨q, e, Nat.le_trans h.1.size hq⟩
theorem Gr.ofBelow {w w' : World} (h : Below w.heap.size w w') (r : Option Nat) : Gr w w' r r := ⟨⟨h.os, h.tape, h.output, h.size, fun g hg _ => h.block g hg⟩, .inl rfl⟩
theorem Gr.alloc (w : World) (o : Obj) (r : Option Nat) : Gr w (w.alloc o) r r := Gr.ofBelow ((Below.refl _ _).alloc (Nat.le_refl _) _) r
theorem Gr.below {w w' : World} {r r' : Option Nat} (h : Gr w w' r r') (B : Nat) (hB : B ≤ w.heap.size) (hr : ∀ k, r = some k → B ≤ k) : Below B w w' :=
  ⟨h.1.os, h.1.tape, h.1.output, h.1.size, fun k hk => h.1.block k (by omega) (fun e => by have := hr k e.symm; omega)⟩
theorem Gr.block {w w' : World} {r r' : Option Nat} (h : Gr w w' r r') (k : Nat) (hk : k < w.heap.size) (hr : r ≠ some k) : w'.heap[k]? = w.heap[k]? := h.1.block k hk (fun e => hr e.symm)
theorem Owned.keep {w w' : World} {base : Nat} {v : Value} {A : List Int} (h : Owned w base v A) (hb : Below w.heap.size w w') : Owned w' base v A := by
  refine ⟨h.1, ?_⟩
  have hlt := fun k hk => (World.ownsRow.lt h k hk).2
  rcases h.2 with h1 | ⟨g, cap, cur, rfl, hbg, hg, rest⟩
  · exact .inl h1
  · exact .inr ⟨g, cap, cur, rfl, hbg, (hb.block g (hlt g rfl)).trans hg, rest⟩
theorem Owned.own {w : World} {base : Nat} {v : Value} {A : List Int} (h : Owned w base v A) : ∀ k, v.ownBlock = some k → base ≤ k ∧ k < w.heap.size := fun k hk => World.ownsRow.lt h k hk
/-- bytes in a block of which nothing changed -/
theorem Holds.gr {w w' : World} {r r' : Option Nat} {x : Addr} {L : List Int} (h : Holds w (some x) L) (hg : Gr w w' r r') (hx : x.block < w.heap.size) (hr : r ≠ some x.block) : Holds w' (some x) L := by
  rcases h with e | ⟨b, off, e, hc⟩
  · exact .inl e
  · cases e
    refine .inr ⟨b, off, rfl, fun i hi => ?_⟩
    rw [← hc i hi]
    exact World.cell?_of_block (a := ⟨b, off + i, none⟩) (hg.block b hx hr)
theorem appB {w : World} {ops : Array Oper} {rest : List Oper} {o : Oper} {act : Act} {Q : Exit → Act → World → Prop} (hgd : o.guard = none) (s x : Operand)
    (ho : o.op = .call { callee := .builtin .append, args := #[s, x], argTypes := #[23, 23] })
    (base : Nat) (v : Value) (A : List Int) (hs : act.eval s = v) (hown : Owned w base v A)
    (a : Option Addr) (m c : Nat) (L : List Int) (hx : act.eval x = .slice a m c) (hm : L.length = m) (hh : Holds w a L) (hc : a = none → c = 0) (hN : A.length + m ≤ 100000000000000) (hbase : base ≤ w.heap.size)
    (h : ∀ v' w', Owned w' base v' (A ++ L) → Gr w w' v.ownBlock v'.ownBlock → wpList Tryd.prog ops Q rest (act.put o.dst v') w') :
    wpList Tryd.prog ops Q (o :: rest) act w := by
  obtain ⟨v', w', hr, h2, h3, h4⟩ := appB_run base v A hown a m c L hm hh hc hN hbase o.type
  refine wpList_plain hgd fun _ hK => ?_
  unfold Oper.wp execOp
  simp only [ho, resolve, invoke, builtin, Sem.run_bind, Sem.run_pure, Result.andThen_ok, List.map_toArray, List.map_cons, List.map_nil, hs, hx, hr]
  refine hK _ _ (h v' w' h2 ⟨h3, ?_⟩)
  rcases h4 with e | e
  · exact .inl e
  · exact .inr ⟨_, e, Nat.le_refl _⟩
theorem appS_run {w : World} (base : Nat) (v : Value) (A : List Int) (hown : Owned w base v A) (t : Tx) (hN : A.length + t.length ≤ 140737488355328) (hbase : base ≤ w.heap.size) (ty : TypeId) :
    ∃ v' w', (Builtin.append_ #[23, 9] ty #[v, .string (tx t)]).run Tryd.prog w = .ok v' w' ∧ Owned w' base v' (A ++ nm t) ∧ Gr w w' v.ownBlock v'.ownBlock := by
  obtain ⟨i, hi, hz, h1, h2⟩ := info8p
  have hts := tx_size t
  obtain ⟨v', w', hr, h3, h4, h5⟩ := Lib.run_append_own_string (P := Tryd.prog) w base 23 9 ty 5 i Tryd.underlying23 Tryd.underlying9 hi hz h1 h2 v A.length _ hown (tx t) (by rw [hts]; simp only [maxLen]; omega) (by rw [hts]; exact hN) hbase
  have ho' : Owned w' base v' (A ++ nm t) := by
    unfold Owned
    rw [List.length_append, nm_length, List.map_append, ← strCells_tx, ← hts]
    exact h3
  refine ⟨v', w', hr, ho', h4, ?_⟩
  rcases hown.2 with ⟨rfl, hn0⟩ | ⟨g, cap, cur, rfl, hbg, hg, hnc, hcm, hcs, htake⟩
  · by_cases hm : (tx t).size = 0
    · left; rw [h5.2 ⟨rfl, hm⟩]
    · have hr2 := run_append_nil_string (P := Tryd.prog) w 23 9 ty 5 i (.int .u8 0) Tryd.underlying23 Tryd.underlying9 hi hz (tx t) (by omega) (by omega) (by rw [h2]; omega)
      rw [hr2] at hr
      cases hr
      exact .inr ⟨_, rfl, Nat.le_refl _⟩
  · by_cases hroom : A.length + (tx t).size ≤ cap
    · have hcs' : cur.size = cap := by simpa using hcs
      have hr2 := Lib.run_append_room_string (P := Tryd.prog) w 23 9 ty 5 i Tryd.underlying23 Tryd.underlying9 hi h1 g A.length cap cur hg (tx t) hroom (by omega)
      rw [hr2] at hr
      cases hr
      exact .inl rfl
    · have holds : ∀ j u, (A.map (Value.int .u8))[j]? = some u → w.cell? ((⟨g, 0, none⟩ : Addr).add j) = some u := World.ownsRow.cells hown (g := g) rfl
      have hr2 := Lib.run_append_grow_string (P := Tryd.prog) w 23 9 ty 5 i (.int .u8 0) Tryd.underlying23 Tryd.underlying9 hi hz ⟨g, 0, none⟩ A.length cap (A.map (Value.int .u8)) (by simp [h1]) holds (tx t) (by omega) (by omega) (by rw [h2]; exact growslice_fits (by omega) (by omega))
      rw [hr2] at hr
      cases hr
      exact .inr ⟨_, rfl, Nat.le_refl _⟩
/-- append(s, text...) -/
theorem appS {w : World} {ops : Array Oper} {rest : List Oper} {o : Oper} {act : Act} {Q : Exit → Act → World → Prop} (hgd : o.guard = none) (s x : Operand)
    (ho : o.op = .call { callee := .builtin .append, args := #[s, x], argTypes := #[23, 9] })
    (base : Nat) (v : Value) (A : List Int) (hs : act.eval s = v) (hown : Owned w base v A) (t : Tx) (hx : act.eval x = .string (tx t)) (hN : A.length + t.length ≤ 140737488355328) (hbase : base ≤ w.heap.size)
    (h : ∀ v' w', Owned w' base v' (A ++ nm t) → Gr w w' v.ownBlock v'.ownBlock → wpList Tryd.prog ops Q rest (act.put o.dst v') w') :
    wpList Tryd.prog ops Q (o :: rest) act w := by
  obtain ⟨v', w', hr, h2, h3⟩ := appS_run base v A hown t hN hbase o.type
  refine wpList_plain hgd fun _ hK => ?_
  unfold Oper.wp execOp
  simp only [ho, resolve, invoke, builtin, Sem.run_bind, Sem.run_pure, Result.andThen_ok, List.map_toArray, List.map_cons, List.map_nil, hs, hx, hr]
  exact hK _ _ (h v' w' h2 h3)
end Go.Proofs.YtlddoobomjcldaaDoor
namespace Go.Proofs.YtlddoobomjcldaaDoor
open Go.ChangeShapes Go.WideShapes Go.ChangeAt Go.RowKit Go.Deep
set_option linter.unusedVariables false
theorem fixA_cell (v : Int) (k i : Nat) (h : i < k) : (fixA v k k)[i]? = some (.int .u8 ((fixL v k).getD i 0)) := by
  have e : k - 1 - i < k := by omega
  rw [Array.getElem?_eq_getElem (by simpa [fixA] using h)]
  simp [fixA, fixL, h, e]
theorem fixed_cells (v : Int) (k : Nat) (w : World) (T : TypeId) : ∀ i, i < k → (w.alloc (.cells (fixA v k k) T)).cell? ⟨w.heap.size, 0 + i, none⟩ = some (.int .u8 ((fixL v k).getD i 0)) := by
  intro i h
  have := fixA_cell v k i h
  simp only [Nat.zero_add]
  simp [go_sem, this]

theorem holds_fixed (v : Int) (k : Nat) (w : World) : Holds (w.alloc (.cells (fixA v k k) 5)) (some ⟨w.heap.size, 0, none⟩) (fixL v k) :=
  .inr ⟨w.heap.size, 0, rfl, fun i hi => fixed_cells v k w _ i (by rwa [fixL_length] at hi)⟩
theorem fixL2 (m : Int) (h0 : 0 ≤ m) (h1 : m ≤ 511) : fixL m 2 = [m / 256, m % 256] := by
  simp [fixL, List.range_succ]
  omega
theorem ee_len {x : En} (h : fo x = 0) : (ee x).length ≤ 500 := by
  obtain ⟨⟨_, h1⟩, _, _, _, h5⟩ := fo_all h
  have h2 := isP_len h1
  have a := (vr_len x.p.length).2
  have b := (vr_len x.b.length).2
  unfold ee
  split
  · simp [nm_length]; omega
  · simp [nm_length]; omega
theorem ees_len {l : List En} (h : ∀ x ∈ l, fo x = 0) : (ees l).length ≤ 500 * l.length := by
  induction l with
  | nil => simp [ees]
  | cons x l ih =>
    have h1 := ee_len (h x (by simp))
    have h2 := ih (fun y hy => h y (by simp [hy]))
    simp only [ees, List.length_append, List.length_cons]
    omega
theorem ees_take {l : List En} {j : Nat} {x : En} (h : l[j]? = some x) : ees (l.take (j + 1)) = ees (l.take j) ++ ee x := by
  obtain ⟨hj, e⟩ := List.getElem?_eq_some_iff.1 h
  rw [List.take_succ_eq_append_getElem hj, e, ees_snoc]
/-- an entry in a block of its own -/
def XAt (w : World) (g : Nat) (x : En) : Prop := w.heap[g]? = some (.cells (ec (tx x.p) x.k x.m (tx x.b)) 64)
theorem head_holds (w : World) (fr : Nat × Nat) : Holds (w.alloc (.cells #[.int .u8 86, .int .u8 76, .int .u8 1] 5 fr)) (some ⟨w.heap.size, 0, none⟩) [86, 76, 1] :=
  .inr ⟨w.heap.size, 0, rfl, fun i hi => by
    have hi' : i < 3 := hi
    rw [Nat.zero_add, cell_of_row _ _ i _ _ fr (heap_alloc_new w _)]
    rcases (by omega : i = 0 ∨ i = 1 ∨ i = 2) with rfl | rfl | rfl <;> rfl⟩
set_option maxRecDepth 100000 in
set_option maxHeartbeats 4000000 in
theorem appendText_is (t : Tx) (ht : t.length < 16384) (base : Nat) (v : Value) (A : List Int) (w : World) (ho : Owned w base v A) (hA : A.length ≤ 1000000) (hb : base ≤ w.heap.size) :
    Calls Tryd.prog 29 #[v, .string (tx t)] w fun e w' => ∃ v', e = .returned v' ∧ Owned w' base v' (A ++ (vr t.length ++ nm t)) ∧ Gr w w' v.ownBlock v'.ownBlock := by
  have hs := tx_size t
  obtain ⟨a, c, rfl, _⟩ := ho.slice
  have HO : Hid (Owned w base (.slice a A.length c) A) := ho
  clear ho
  go_enter Tryd.func29, Tryd.ntmps29
  go_wp2_with fail
  refine (var_any (t.length : Nat) (by omega) (by omega) _).mono ?_
  rintro e w1 ⟨n, hsev, rfl, hw⟩
  obtain rfl := hw.symm
  clear hw
  have HV : Hid (varL n (t.length : Nat) = vr t.length) := vr_sev _ _ ht hsev
  have h9 := hsev.1
  have H1 : Hid (Holds (w.alloc (.cells ((varL n (t.length : Nat)).map (Value.int .u8)).toArray 5)) (some ⟨w.heap.size, 0, none⟩) (varL n (t.length : Nat))) := holds_laid _ _ _
  have hlv := varL_length n (t.length : Nat)
  have O1 : Hid (Owned (w.alloc (.cells ((varL n (t.length : Nat)).map (Value.int .u8)).toArray 5)) base (.slice a A.length c) A) := HO.out.alloc _
  have G1 : Hid (Gr w (w.alloc (.cells ((varL n (t.length : Nat)).map (Value.int .u8)).toArray 5)) (Value.ownBlock (.slice a A.length c)) (Value.ownBlock (.slice a A.length c))) := Gr.alloc _ _ _
  have hb1 : base ≤ (w.alloc (.cells ((varL n (t.length : Nat)).map (Value.int .u8)).toArray 5)).heap.size := by simp; omega
  clear HO hsev
  generalize (w.alloc (.cells ((varL n (t.length : Nat)).map (Value.int .u8)).toArray 5)) = w1 at *
  generalize varL n (t.length : Nat) = L at *
  go_wp2_with (first | (at_builtin; refine appB rfl (.tmp 5) (.tmp 9) rfl base _ A rfl O1.out (some ⟨w.heap.size, 0, none⟩) (n + 1) (n + 1) L rfl hlv H1.out (by simp) (by omega) hb1 ?_; intro v2 w2 ho2 hb2; have O2 : Hid (Owned w2 base v2 (A ++ L)) := ho2; have G2 : Hid (Gr w1 w2 (Value.ownBlock (.slice a A.length c)) v2.ownBlock) := hb2; clear ho2 hb2) | (at_builtin; refine appS rfl (.tmp 11) (.tmp 12) rfl base _ (A ++ L) rfl O2.out t rfl (by simp; omega) (by have := G2.out.1.size; omega) ?_; intro v3 w3 ho3 hb3; have O3 : Hid (Owned w3 base v3 (A ++ L ++ nm t)) := ho3; have G3 : Hid (Gr w2 w3 v2.ownBlock v3.ownBlock) := hb3; clear ho3 hb3))
  go_ret
  refine ⟨_, rfl, ?_, G1.out.trans (G2.out.trans G3.out)⟩
  rw [← HV.out, ← List.append_assoc]
  exact O3.out
set_option maxRecDepth 100000 in
set_option maxHeartbeats 4000000 in
theorem encode_bad (l : List En) (n : Nat) (hn : l.length = n) (hn62 : n ≤ 4611686018427387904) (hf : Fit l) (a : Option Addr) (c : Nat) (w : World) (hl : InE w a l) (hc : (chk l).2 ≠ 0) :
    Calls Tryd.prog 7 #[.slice a n c] w fun e w' => e = .returned (.tuple #[.slice none 0 0, .int .i64 (chk l).2]) ∧ Below w.heap.size w w' := by
  have K : Hid (Calls Tryd.prog 26 #[.slice a n c] w fun e w' => e = .returned (.tuple #[.int .i64 ((chk l).1 : Nat), .int .i64 (chk l).2]) ∧ Below w.heap.size w w') := check_is l n hn hn62 hf a c w hl
  generalize (chk l).2 = r at *
  generalize (chk l).1 = q at *
  clear hn hf hl
  go_enter Tryd.func7, Tryd.ntmps7
  go_wp2_with fail
  refine K.out.mono ?_
  rintro e w1 ⟨rfl, hb1⟩
  have HW : Hid (Below w.heap.size w w1) := hb1
  clear hb1
  go_wp2_with fail
  go_ret2
  exact ⟨rfl, HW.out⟩
set_option maxRecDepth 100000 in
set_option maxHeartbeats 4000000 in
theorem encode_ok (l : List En) (n : Nat) (hn : l.length = n) (hf : Fit l) (a : Option Addr) (c : Nat) (w : World) (hl : InE w a l) (hc : (chk l).2 = 0) :
    Calls Tryd.prog 7 #[.slice a n c] w fun e w' => ∃ v, e = .returned (.tuple #[v, .int .i64 0]) ∧ Owned w' w.heap.size v (enc l) ∧ Below w.heap.size w w' := by
  have hall := (chk_iff l).1 hc
  have hn64 : n ≤ 64 := by rw [← hn]; exact hall.1
  have K : Hid (Calls Tryd.prog 26 #[.slice a n c] w fun e w' => e = .returned (.tuple #[.int .i64 ((chk l).1 : Nat), .int .i64 (chk l).2]) ∧ Below w.heap.size w w') := check_is l n hn (by omega) hf a c w hl
  rw [hc] at K
  generalize (chk l).1 = q at *
  have HL : Hid (InE w a l) := hl
  have HN : Hid (l.length = n) := hn
  have HO : Hid (∀ x ∈ l, fo x = 0) := hall.2.1
  clear hn hf hl hc hall
  go_enter Tryd.func7, Tryd.ntmps7
  go_wp2_with fail
  refine K.out.mono ?_
  rintro e w1 ⟨rfl, hb1⟩
  have HW : Hid (Below w.heap.size w w1) := hb1
  clear hb1
  have kc := Lib.run_convert_bytes_const (P := Tryd.prog) w1 23 5 #[.int .u8 86, .int .u8 76, .int .u8 1] 3 3 Tryd.underlying23 Tryd.underlying5
  go_wp2_with fail
  refine (var_any (n : Nat) (by omega) (by omega) _).mono ?_
  rintro e w2 ⟨q2, hsev, rfl, hw⟩
  have HV : Hid (varL q2 (n : Nat) = vr n) := vr_sev _ _ (by omega) hsev
  have h9 := hsev.1
  obtain ⟨W1, hW1⟩ : ∃ W1, W1 = w1.alloc (.cells #[.int .u8 86, .int .u8 76, .int .u8 1] 5 (3, 3 + 1)) := ⟨_, rfl⟩
  have H0 : Holds W1 (some ⟨w1.heap.size, 0, none⟩) [86, 76, 1] := by rw [hW1]; exact head_holds w1 _
  have B1 : Hid (Below w.heap.size w W1) := by rw [hW1]; exact HW.out.alloc HW.out.size _
  have hs1 : W1.heap.size = w1.heap.size + 1 := by rw [hW1]; simp
  have H1 : Hid (Holds w2 (some ⟨w1.heap.size + 1, 0, none⟩) (varL q2 (n : Nat))) := by rw [hw, ← hW1, ← hs1]; exact holds_laid _ _ _
  have B2 : Hid (Below w.heap.size w w2) := by rw [hw, ← hW1]; exact B1.out.alloc B1.out.size _
  have H2 : Hid (Holds w2 (some ⟨w1.heap.size, 0, none⟩) [86, 76, 1]) := by
    rw [hw, ← hW1]
    exact H0.below ((Below.refl W1.heap.size W1).alloc (Nat.le_refl _) _) (fun x hx _ => by cases hx; show w1.heap.size < _; omega)
  have hlv := varL_length q2 (n : Nat)
  clear hw H0 B1 hsev kc K hW1
  generalize varL q2 (n : Nat) = L at *
  go_wp2_with (at_builtin; (refine append_grow rfl (.tmp 20) (.tmp 24) rfl [86, 76, 1] 3 rfl ⟨w1.heap.size, 0, none⟩ rfl H2.out ⟨w1.heap.size + 1, 0, none⟩ (q2 + 1) (q2 + 1) L rfl hlv H1.out (by omega) (by omega) ?_); intro v3 w3 ho3 hb3; have O3 : Hid (Owned w3 w2.heap.size v3 ([86, 76, 1] ++ L)) := ho3; have B3 : Hid (Below w2.heap.size w2 w3) := hb3; clear ho3 hb3)
  have O4 : Hid (Owned w3 w.heap.size v3 ([86, 76, 1] ++ L)) := O3.out.base B2.out.size
  have B4 : Hid (Below w.heap.size w w3) := B2.out.trans (B3.out.mono B2.out.size)
  rw [HV.out] at O4
  obtain ⟨h, hh⟩ : ∃ h, h = w.heap.size := ⟨_, rfl⟩
  have HH : Hid (h = w.heap.size) := hh
  rw [← hh] at O4 B4
  clear O3 B3 B2 H1 H2 hlv HV h9 hs1 HW hh
  go_loopg [6, 28] n (fun g v i wr => ∃ (j : Nat), j ≤ n ∧ g = n - j ∧ i = .int .i64 j ∧ Hid (Owned wr h v ([86, 76, 1] ++ vr n ++ ees (l.take j))) ∧ Hid (Below h w wr))
  case atStart => exact ⟨0, Nat.zero_le _, rfl, rfl, by simp [ees]; exact O4.out, B4⟩
  case round =>
    obtain ⟨j, hj, rfl, rfl, OA, HW⟩ := hrel
    by_cases hlt : j < n
    · have j1 : (j : Int) < (n : Int) := by omega
      obtain ⟨x, hx⟩ : ∃ x, l[j]? = some x := ⟨l[j]'(by rw [HN.out]; exact hlt), by simp [HN.out, hlt]⟩
      obtain ⟨b, off, rfl, hbw, hr⟩ := HL.out.at hx
      have HX : Hid (fo x = 0) := HO.out x (List.mem_of_getElem? hx)
      obtain ⟨⟨_, hp⟩, ⟨k1, k4⟩, ⟨m0, m1⟩, hbn, hbl⟩ := fo_all HX.out
      have hpl := isP_len hp
      have HE : Hid (ees (l.take (j + 1)) = ees (l.take j) ++ ee x) := ees_take hx
      have hAl : ([86, 76, 1] ++ vr n ++ ees (l.take j)).length ≤ 100000 := by
        have q1 := ees_len (l := l.take j) (fun y hy => HO.out y (List.mem_of_mem_take hy))
        have q2 := (vr_len n).2
        have q3 : (l.take j).length ≤ j := by rw [List.length_take]; omega
        simp only [List.length_append, List.length_cons, List.length_nil]
        omega
      have HAE : Hid ([86, 76, 1] ++ vr n ++ ees (l.take (j + 1)) = [86, 76, 1] ++ vr n ++ ees (l.take j) ++ ee x) := by
        show _ = _
        rw [HE.out]; simp
      obtain ⟨c0, c1, c2, c3⟩ := hr.below HW.out (by rw [HH.out]; exact hbw)
      have hsz := HW.out.size
      have hhr : h ≤ wr.heap.size := by rw [HH.out]; exact hsz
      clear hx hr hp HE
      generalize [86, 76, 1] ++ vr n ++ ees (l.take j) = A at *
      go_wp2_with fail
      refine (fixed_ok x.m 2 (by decide) (by decide) m0 (by simp; omega) _).mono ?_
      rintro e W2 ⟨rfl, hw2⟩
      have hs2 : W2.heap.size = wr.heap.size + 1 + 1 := by rw [hw2]; simp
      have b2 : Below wr.heap.size wr W2 := by rw [hw2]; exact ((Below.refl _ _).alloc (Nat.le_refl _) _).alloc (by simp) _
      have X2 : XAt W2 wr.heap.size x := by
        show W2.heap[wr.heap.size]? = _
        rw [hw2]
        exact (Below.heap_alloc _ _ _ (by simp)).trans (heap_alloc_new wr _)
      have F2 : Hid (Holds W2 (some ⟨wr.heap.size + 1, 0, none⟩) (fixL x.m 2)) := by
        have := holds_fixed x.m 2 (wr.alloc (.cells (ec (tx x.p) x.k x.m (tx x.b)) 64))
        rw [World.size_alloc] at this
        rw [hw2]
        exact this
      have O2 : Hid (Owned W2 h u6 A) := OA.out.keep b2
      have HR : Hid (∀ k, u6.ownBlock = some k → h ≤ k ∧ k < wr.heap.size) := OA.out.own
      have G2 : Hid (Gr wr W2 u6.ownBlock u6.ownBlock) := Gr.ofBelow b2 _
      have HX2 : Hid (XAt W2 wr.heap.size x) := X2
      obtain ⟨x0, x1, x2, x3⟩ := ec_cells X2
      have ek : x.k % 256 = x.k := by omega
      have H1' : Hid (Holds (W2.alloc (.cells #[.int .u8 x.k] 5)) (some ⟨wr.heap.size + 1 + 1, 0, none⟩) [x.k]) := by rw [← hs2]; exact holds_one W2 x.k
      clear hw2 b2 X2 c0 c1 c2 c3 OA
      go_wp2_with (first
        | (at_builtin; refine appB rfl (.tmp 39) (.tmp 43) rfl h _ A rfl (O2.out.alloc _) (some ⟨wr.heap.size + 1 + 1, 0, none⟩) 1 1 [x.k] rfl rfl H1'.out (by simp) (by omega) (by simp; omega) ?_; intro v4 w4 ho4 hb4; have O4' : Hid (Owned w4 h v4 (A ++ [x.k])) := ho4; have G4 : Hid (Gr W2 w4 u6.ownBlock v4.ownBlock) := (Gr.alloc W2 _ _).trans hb4; clear ho4 hb4; have hs4 := G4.out.1.size; have F4 : Hid (Holds w4 (some ⟨wr.heap.size + 1, 0, none⟩) (fixL x.m 2)) := F2.out.gr G4.out (show wr.heap.size + 1 < _ by omega) (fun e => by have := (HR.out _ e).2; simp at this; omega); have X4 : Hid (XAt w4 wr.heap.size x) := (G4.out.block _ (by omega) (fun e => by have := (HR.out _ e).2; omega)).trans HX2.out)
        | (at_builtin; refine appB rfl (.tmp 45) (.tmp 46) rfl h _ (A ++ [x.k]) rfl O4'.out (some ⟨wr.heap.size + 1, 0, none⟩) 2 2 (fixL x.m 2) rfl (fixL_length _ _) F4.out (by simp) (by simp; omega) (by omega) ?_; intro v5 w5 ho5 hb5; have O5 : Hid (Owned w5 h v5 (A ++ [x.k] ++ fixL x.m 2)) := ho5; have G5 : Hid (Gr W2 w5 u6.ownBlock v5.ownBlock) := G4.out.trans hb5; clear ho5 hb5; have hs5 := G5.out.1.size; have X5 : Hid (XAt w5 wr.heap.size x) := (G5.out.block _ (by omega) (fun e => by have := (HR.out _ e).2; omega)).trans HX2.out; obtain ⟨y0, y1, y2, y3⟩ := ec_cells X5.out))
      refine (appendText_is x.p (by omega) h v5 _ w5 O5.out (by simp [fixL_length]; omega) (by omega)).mono ?_
      rintro e w6 ⟨v6, rfl, ho6, hb6⟩
      have O6 : Hid (Owned w6 h v6 (A ++ [x.k] ++ fixL x.m 2 ++ (vr x.p.length ++ nm x.p))) := ho6
      have G6 : Hid (Gr W2 w6 u6.ownBlock v6.ownBlock) := G5.out.trans hb6
      clear ho6 hb6 y0 y1 y2 y3 x0 x1 x2 x3
      have hs6 := G6.out.1.size
      have X6 : Hid (XAt w6 wr.heap.size x) := (G6.out.block _ (by omega) (fun e => by have := (HR.out _ e).2; omega)).trans HX2.out
      obtain ⟨z0, z1, z2, z3⟩ := ec_cells X6.out
      have HFX : Hid (fixL x.m 2 = [x.m / 256, x.m % 256]) := fixL2 _ m0 m1
      by_cases hk : x.k = 1
      · have HEE : Hid (A ++ ee x = A ++ [x.k] ++ fixL x.m 2 ++ (vr x.p.length ++ nm x.p) ++ (vr x.b.length ++ nm x.b)) := by
          show _ = _
          rw [HFX.out]
          unfold ee
          rw [if_pos hk]
          simp
        have kk : Hid (x.k = 1) := hk
        rw [hk] at z1
        clear hk
        go_wp2_with fail
        refine (appendText_is x.b (by omega) h v6 _ w6 O6.out (by have := (vr_len x.p.length).2; simp [fixL_length, nm_length]; omega) (by omega)).mono ?_
        rintro e w7 ⟨v7, rfl, ho7, hb7⟩
        have O7 : Hid (Owned w7 h v7 (A ++ [x.k] ++ fixL x.m 2 ++ (vr x.p.length ++ nm x.p) ++ (vr x.b.length ++ nm x.b))) := ho7
        have G7 : Hid (Gr W2 w7 u6.ownBlock v7.ownBlock) := G6.out.trans hb7
        clear ho7 hb7
        go_wp2_with fail
        go_roundg (n - (j + 1))
        case measure => omega
        case rel => exact ⟨j + 1, by omega, rfl, by go_num, by rw [HAE.out, HEE.out]; exact O7.out, HW.out.trans ((G2.out.trans G7.out).below h hhr (fun k hk => (HR.out k hk).1))⟩
      · have HEE : Hid (A ++ ee x = A ++ [x.k] ++ fixL x.m 2 ++ (vr x.p.length ++ nm x.p)) := by
          show _ = _
          rw [HFX.out]
          unfold ee
          rw [if_neg hk]
          simp
        go_wp2_with fail
        go_roundg (n - (j + 1))
        case measure => omega
        case rel => exact ⟨j + 1, by omega, rfl, by go_num, by rw [HAE.out, HEE.out]; exact O6.out, HW.out.trans ((G2.out.trans G6.out).below h hhr (fun k hk => (HR.out k hk).1))⟩
    · have e : j = n := by omega
      subst e
      have j1 : ¬ (j : Int) < (j : Int) := by omega
      have HT : Hid (enc l = [86, 76, 1] ++ vr j ++ ees (l.take j)) := by
        show _ = _
        rw [List.take_of_length_le (by rw [HN.out]; omega)]
        unfold enc
        rw [HN.out]
      go_wp2_with fail
      go_ret2
      refine ⟨_, rfl, ?_, ?_⟩
      · rw [HT.out, ← HH.out]; exact OA.out
      · rw [← HH.out]; exact HW.out
end Go.Proofs.YtlddoobomjcldaaDoor
namespace Go.Proofs.YtlddoobomjcldaaDoor
open Go.ChangeShapes Go.WideShapes Go.ChangeAt Go.RowKit Go.Deep
set_option linter.unusedVariables false
/-- block R is a reader: what it has not taken yet is this slice -/
def Rdr (w : World) (R : Nat) (v : Value) : Prop := w.heap[R]? = some (.cells #[v] 71 (0, 0))
theorem Rdr.cell {w : World} {R : Nat} {v : Value} (h : Rdr w R v) : w.cell? ⟨R, 0, none⟩ = some v ∧ w.frozen? ⟨R, 0, none⟩ = false := by
  refine ⟨?_, frozen_of_row w R 0 _ _ h⟩
  rw [cell_of_row w R 0 _ _ _ h]; rfl
theorem Rdr.lt {w : World} {R : Nat} {v : Value} (h : Rdr w R v) : R < w.heap.size := (Array.getElem?_eq_some_iff.1 h).1
theorem Rdr.set {w : World} {R : Nat} {v : Value} (h : Rdr w R v) (v' : Value) : Rdr (w.setCell ⟨R, 0, none⟩ v') R v' := heap_setCell_own w R 0 _ _ _ h v'
theorem gr_set (w : World) (R : Nat) (v : Value) : Gr w (w.setCell ⟨R, 0, none⟩ v) (some R) (some R) :=
  ⟨⟨rfl, rfl, rfl, by simp [World.setCell], fun g _ hg => Below.heap_setCell _ ⟨R, 0, none⟩ _ _ (fun e => hg (by rw [e]))⟩, .inl rfl⟩
/-- the reader in block R has these bytes left, which lie in blocks below it -/
def RdB (w : World) (R : Nat) (L : List Int) : Prop := ∃ a n c, Rdr w R (.slice a n c) ∧ L.length = n ∧ Holds w a L ∧ IsBytes L ∧ n ≤ c ∧ c ≤ 9223372036854775807 ∧ n ≤ 140737488355328 ∧ (∀ x, a = some x → L ≠ [] → x.block < R)
/-- it gave up -/
def Pan (e : Ending) : Prop := ∃ k, e = .panicked [{ v := .iface 24 (.int .i64 k), recovered := false }]
theorem Holds.dropO {w : World} {a : Option Addr} {L : List Int} (h : Holds w a L) (m : Nat) (hm : m ≤ L.length) : Holds w (a.map fun x => x.add m) (L.drop m) := by
  rcases h with e | ⟨b, off, rfl, hc⟩
  · subst e; left; simp
  · refine .inr ⟨b, off + m, by simp [add_plain], fun i hi => ?_⟩
    rw [List.length_drop] at hi
    rw [Nat.add_assoc, hc (m + i) (by omega)]
    simp [List.getD]
theorem Holds.setR {w : World} {a : Option Addr} {L : List Int} (h : Holds w a L) (R : Nat) (v : Value) (hlt : ∀ x, a = some x → L ≠ [] → x.block < R) : Holds (w.setCell ⟨R, 0, none⟩ v) a L :=
  h.below ((Below.refl R w).setCell (p := ⟨R, 0, none⟩) (Nat.le_refl _) v) hlt
theorem take_lt {a : Option Addr} {L : List Int} {R m : Nat} (h : ∀ x, a = some x → L ≠ [] → x.block < R) : ∀ x, a = some x → L.take m ≠ [] → x.block < R :=
  fun x hx hne => h x hx (fun e => hne (by simp [e]))
theorem drop_lt {a : Option Addr} {L : List Int} {R m : Nat} (h : ∀ x, a = some x → L ≠ [] → x.block < R) : ∀ x, (a.map fun x => x.add m) = some x → L.drop m ≠ [] → x.block < R := by
  intro x hx hne
  cases a with
  | none => simp at hx
  | some y =>
    simp at hx
    have := h y rfl (fun e => hne (by simp [e]))
    subst hx
    unfold Addr.add
    split <;> exact this
/-- what take tells: a slice of those bytes -/
def Took (w : World) (R m : Nat) (L : List Int) (e : Ending) (w' : World) : Prop := ∃ a c, e = .returned (.slice a m c) ∧ Holds w' a (L.take m) ∧ RdB w' R (L.drop m) ∧ Gr w w' (some R) (some R) ∧ m ≤ c
theorem took_of {w : World} {R n c m : Nat} {a a' : Option Addr} {L : List Int} {c' : Nat} (hl : L.length = n) (hh : Holds w a L) (hb : IsBytes L) (hn : n ≤ c) (hc : c ≤ 9223372036854775807) (hn47 : n ≤ 140737488355328) (hlt : ∀ x, a = some x → L ≠ [] → x.block < R)
    (hr : Rdr w R (.slice a n c)) (hm : m ≤ n) (ha' : (a' = a.map fun x => x.add m) ∨ n = m) (hc' : n - m ≤ c') (hc'' : c' ≤ 9223372036854775807) : Took w R m L (.returned (.slice a m c)) (w.setCell ⟨R, 0, none⟩ (.slice a' (n - m) c')) := by
  subst hl
  refine ⟨a, c, rfl, (hh.take m).setR R _ (take_lt hlt), ⟨a', L.length - m, c', hr.set _, by simp, ?_, bytes_drop hb m, hc', hc'', by omega, ?_⟩, gr_set w R _, by omega⟩
  · rcases ha' with rfl | e
    · exact (hh.dropO m hm).setR R _ (drop_lt hlt)
    · left; exact List.drop_eq_nil_of_le (by omega)
  · rcases ha' with rfl | e
    · exact drop_lt hlt
    · intro x _ hne; exact absurd (List.drop_eq_nil_of_le (by omega)) hne
set_option maxRecDepth 100000 in
theorem take_ok (w : World) (R m : Nat) (L : List Int) (h : RdB w R L) (hm : m ≤ L.length) :
    Calls Tryd.prog 52 #[.pointer (some ⟨R, 0, none⟩), .int .u64 m] w (Took w R m L) := by
  obtain ⟨a, n, c, hr, hl, hh, hb, hn, hc, hn47, hlt⟩ := h
  obtain ⟨c0, f0⟩ := hr.cell
  have HT : Hid (∀ a' c', ((a' = a.map fun x => x.add m) ∨ n = m) → n - m ≤ c' → c' ≤ 9223372036854775807 → Took w R m L (.returned (.slice a m c)) (w.setCell ⟨R, 0, none⟩ (.slice a' (n - m) c'))) :=
    fun a' c' h1 h2 h3 => took_of hl hh hb hn hc hn47 hlt hr (by omega) h1 h2 h3
  rw [hl] at hm
  clear hr hl hh hb hlt
  have e1 : ¬ ((n : Int) < m) := by omega
  generalize Took w R m L = T at *
  by_cases h : c = m
  · obtain rfl : n = m := by omega
    subst h
    have HT0 : Hid (T (.returned (.slice a c c)) (w.setCell ⟨R, 0, none⟩ (.slice a 0 0))) := by
      have := HT.out a 0 (.inr rfl) (by omega) (by omega)
      rwa [Nat.sub_self] at this
    clear HT hm hn e1
    go_enter Tryd.func52, Tryd.ntmps52
    go_wp2_with fail
    exact HT0.out
  · go_enter Tryd.func52, Tryd.ntmps52
    go_wp2_with fail
    exact HT.out _ _ (.inl rfl) (by omega) (by omega)
set_option maxRecDepth 100000 in
theorem take_end (w : World) (R : Nat) (m : Int) (L : List Int) (h : RdB w R L) (hm : (L.length : Int) < m) (hm2 : m ≤ 18446744073709551615) :
    Calls Tryd.prog 52 #[.pointer (some ⟨R, 0, none⟩), .int .u64 m] w fun e w' => Pan e ∧ w' = w := by
  obtain ⟨a, n, c, hr, hl, hh, hb, hn, hc, hn47, hlt⟩ := h
  obtain ⟨c0, f0⟩ := hr.cell
  rw [hl] at hm
  clear hr hl hh hb hlt
  go_enter Tryd.func52, Tryd.ntmps52
  go_wp2_with fail
  exact ⟨rfl, ⟨_, rfl⟩, rfl⟩
theorem rv_zero {L : List Int} (hb : IsBytes L) (h : ¬ (rv L 0 0).2.2 = 0) : (rv L 0 0) = (0, 0, 4) ∨ (rv L 0 0) = (0, 0, 5) := by
  rcases rv_only L 0 0 (bytes_mem hb) (by omega) with h1 | ⟨n, u, e1, _⟩
  · exact h1
  · rw [e1] at h; simp at h
theorem rn_count {L : List Int} (hb : IsBytes L) (h : (rv L 0 0).2.2 = 0) : ∃ (m : Nat) (v : Int), rv L 0 0 = (v, (m : Int), 0) ∧ m ≤ L.length ∧ m ≤ 10 ∧ 0 ≤ v ∧ v ≤ 18446744073709551615 := by
  rcases rv_only L 0 0 (bytes_mem hb) (by omega) with (h1 | h1) | ⟨n, u, e1, e2, e3, e4, u0, u1, u2, u3⟩
  · rw [h1] at h; simp at h
  · rw [h1] at h; simp at h
  · obtain ⟨s1, s2⟩ := sev_of u n e4 u0 u1 u2 u3
    refine ⟨n + 1, u, ?_, by omega, by omega, u0, s2⟩
    rw [e1]
    simp
set_option maxRecDepth 100000 in
theorem number_ok (w : World) (R : Nat) (L : List Int) (h : RdB w R L) (v : Int) (r : List Int) (hv : rn L = some (v, r)) :
    Calls Tryd.prog 53 #[.pointer (some ⟨R, 0, none⟩)] w fun e w' => e = .returned (.int .u64 v) ∧ RdB w' R r ∧ Gr w w' (some R) (some R) := by
  obtain ⟨a, n, c, hr, hl, hh, hb, hn, hc, hn47, hlt⟩ := h
  obtain ⟨c0, f0⟩ := hr.cell
  have h0 : (rv L 0 0).2.2 = 0 := by
    unfold rn at hv
    split at hv
    · assumption
    · simp at hv
  obtain ⟨m, v', hrv, hm, hm10, v0, v1⟩ := rn_count hb h0
  obtain ⟨rfl, rfl⟩ : v = v' ∧ r = L.drop m := by
    unfold rn at hv
    rw [hrv] at hv
    simp at hv
    exact ⟨hv.1.symm, hv.2.symm⟩
  have HT : Hid (∀ a' c', ((a' = a.map fun x => x.add m) ∨ n = m) → n - m ≤ c' → c' ≤ 9223372036854775807 → Took w R m L (.returned (.slice a m c)) (w.setCell ⟨R, 0, none⟩ (.slice a' (n - m) c'))) :=
    fun a' c' h1 h2 h3 => took_of hl hh hb hn hc hn47 hlt hr (by omega) h1 h2 h3
  have KV : Hid (Calls Tryd.prog 75 #[.slice a n c] w fun e w' => e = .returned (.tuple #[.int .u64 v, .int .i64 (m : Int), .int .i64 0]) ∧ w' = w) := by
    have := readVar_all L n a c hl hn47 hb w hh
    rw [hrv] at this
    exact this
  rw [hl] at hm
  clear hr hl hh hb hlt hv hrv h0
  by_cases h : c = m
  · obtain rfl : n = m := by omega
    subst h
    go_enter Tryd.func53, Tryd.ntmps53
    go_wp2_with fail
    refine KV.out.mono ?_
    rintro e w1 ⟨rfl, hw⟩
    obtain rfl := hw.symm
    clear hw KV
    go_wp2_with fail
    go_ret
    obtain ⟨_, _, _, _, h3, h4, _⟩ := HT.out a 0 (by simp) (by simp) (by simp)
    rw [Nat.sub_self] at h3 h4
    exact ⟨rfl, h3, h4⟩
  · go_enter Tryd.func53, Tryd.ntmps53
    go_wp2_with fail
    refine KV.out.mono ?_
    rintro e w1 ⟨rfl, hw⟩
    obtain rfl := hw.symm
    clear hw KV
    go_wp2_with fail
    go_ret
    obtain ⟨_, _, _, _, h3, h4, _⟩ := HT.out _ (c - m) (.inl rfl) (by omega) (by omega)
    exact ⟨rfl, h3, h4⟩
set_option maxRecDepth 100000 in
theorem number_bad (w : World) (R : Nat) (L : List Int) (h : RdB w R L) (hv : rn L = none) :
    Calls Tryd.prog 53 #[.pointer (some ⟨R, 0, none⟩)] w fun e w' => Pan e ∧ w' = w := by
  obtain ⟨a, n, c, hr, hl, hh, hb, hn, hc, hn47, hlt⟩ := h
  obtain ⟨c0, f0⟩ := hr.cell
  have h0 : ¬ (rv L 0 0).2.2 = 0 := by
    unfold rn at hv
    split at hv
    · simp at hv
    · assumption
  have KV : Hid (Calls Tryd.prog 75 #[.slice a n c] w fun e w' => e = rvEnd (rv L 0 0) ∧ w' = w) := readVar_all L n a c hl hn47 hb w hh
  have hz := rv_zero hb h0
  clear hr hl hh hb hlt hv h0
  rcases hz with e | e
  · rw [e] at KV
    clear e
    go_enter Tryd.func53, Tryd.ntmps53
    go_wp2_with fail
    refine KV.out.mono ?_
    rintro e w1 ⟨rfl, hw⟩
    obtain rfl := hw.symm
    clear hw KV
    unfold rvEnd
    go_wp2_with fail
    exact ⟨rfl, ⟨_, rfl⟩, rfl⟩
  · rw [e] at KV
    clear e
    go_enter Tryd.func53, Tryd.ntmps53
    go_wp2_with fail
    refine KV.out.mono ?_
    rintro e w1 ⟨rfl, hw⟩
    obtain rfl := hw.symm
    clear hw KV
    unfold rvEnd
    go_wp2_with fail
    exact ⟨rfl, ⟨_, rfl⟩, rfl⟩
theorem nums_tx (L : List Int) : strOfNums L = tx (Lib.bytesOf L) := by
  apply ByteArray.ext
  simp [tx, strOfNums, Lib.bytesOf]
set_option maxRecDepth 100000 in
theorem text_ok (w : World) (R : Nat) (L : List Int) (h : RdB w R L) (t : Tx) (r : List Int) (hv : rt L = some (t, r)) :
    Calls Tryd.prog 76 #[.pointer (some ⟨R, 0, none⟩)] w fun e w' => e = .returned (.string (tx t)) ∧ RdB w' R r ∧ Gr w w' (some R) (some R) := by
  obtain ⟨v, s, hs, hle, hts⟩ : ∃ v s, rn L = some (v, s) ∧ ¬ s.length < v.toNat ∧ some (Lib.bytesOf (s.take v.toNat), s.drop v.toNat) = some (t, r) := by
    unfold rt at hv
    split at hv
    · simp at hv
    · rename_i v s hn
      split at hv
      · simp at hv
      · rename_i hle; exact ⟨v, s, hn, hle, hv⟩
  simp only [Option.some.injEq, Prod.mk.injEq] at hts
  obtain ⟨rfl, rfl⟩ := hts
  have hbL : IsBytes L := by obtain ⟨a, n, c, _, _, _, hb, _⟩ := h; exact hb
  obtain ⟨v0, v1, _⟩ := rn_some hbL hs
  have KN : Hid (Calls Tryd.prog 53 #[.pointer (some ⟨R, 0, none⟩)] w fun e w' => e = .returned (.int .u64 v) ∧ RdB w' R s ∧ Gr w w' (some R) (some R)) := number_ok w R L h v s hs
  have hvn : ((v.toNat : Nat) : Int) = v := by omega
  rw [← hvn] at KN
  generalize v.toNat = m at *
  clear hs hv h hbL v0 v1 hvn
  go_enter Tryd.func76, Tryd.ntmps76
  go_wp2_with fail
  refine KN.out.mono ?_
  rintro e w1 ⟨rfl, hr1, hg1⟩
  have R1 : Hid (RdB w1 R s) := hr1
  have G1 : Hid (Gr w w1 (some R) (some R)) := hg1
  clear hr1 hg1 KN
  go_wp2_with fail
  refine (take_ok w1 R m s R1.out (by omega)).mono ?_
  rintro e w2 ⟨a, c, rfl, hh, hr2, hg2, hmc⟩
  have cs := conv_str hh m c (by rw [List.length_take]; omega)
  rw [nums_tx] at cs
  have R2 : Hid (RdB w2 R (s.drop m)) := hr2
  have G2 : Hid (Gr w w2 (some R) (some R)) := G1.out.trans hg2
  clear hh hr2 hg2
  go_wp2_with fail
  go_ret
  exact ⟨rfl, R2.out, G2.out⟩
set_option maxRecDepth 100000 in
theorem text_bad (w : World) (R : Nat) (L : List Int) (h : RdB w R L) (hv : rt L = none) :
    Calls Tryd.prog 76 #[.pointer (some ⟨R, 0, none⟩)] w fun e w' => Pan e ∧ Gr w w' (some R) (some R) := by
  have hbL : IsBytes L := by obtain ⟨a, n, c, _, _, _, hb, _⟩ := h; exact hb
  cases hn : rn L with
  | none =>
    have KN : Hid (Calls Tryd.prog 53 #[.pointer (some ⟨R, 0, none⟩)] w fun e w' => Pan e ∧ w' = w) := number_bad w R L h hn
    clear hv h hbL hn
    go_enter Tryd.func76, Tryd.ntmps76
    go_wp2_with fail
    refine KN.out.mono ?_
    rintro e w1 ⟨⟨k, rfl⟩, hw⟩
    obtain rfl := hw.symm
    clear hw KN
    go_wp2_with fail
    exact ⟨rfl, ⟨_, rfl⟩, Gr.ofBelow (Below.refl _ _) _⟩
  | some q =>
    obtain ⟨v, s⟩ := q
    obtain ⟨v0, v1, _⟩ := rn_some hbL hn
    have hlt : s.length < v.toNat := by
      unfold rt at hv
      rw [hn] at hv
      simp only at hv
      split at hv
      · assumption
      · simp at hv
    have KN : Hid (Calls Tryd.prog 53 #[.pointer (some ⟨R, 0, none⟩)] w fun e w' => e = .returned (.int .u64 v) ∧ RdB w' R s ∧ Gr w w' (some R) (some R)) := number_ok w R L h v s hn
    clear hv h hbL hn
    go_enter Tryd.func76, Tryd.ntmps76
    go_wp2_with fail
    refine KN.out.mono ?_
    rintro e w1 ⟨rfl, hr1, hg1⟩
    have G1 : Hid (Gr w w1 (some R) (some R)) := hg1
    have KT : Hid (Calls Tryd.prog 52 #[.pointer (some ⟨R, 0, none⟩), .int .u64 v] w1 fun e w' => Pan e ∧ w' = w1) := take_end w1 R v s hr1 (by omega) v1
    clear hr1 hg1 KN
    go_wp2_with fail
    refine KT.out.mono ?_
    rintro e w2 ⟨⟨k, rfl⟩, hw⟩
    obtain rfl := hw.symm
    clear hw KT
    go_wp2_with fail
    exact ⟨rfl, ⟨_, rfl⟩, G1.out⟩
end Go.Proofs.YtlddoobomjcldaaDoor
