/- append onto a slice of bytes of one's own: bytes, a text; with where the new slice lies and what else changed. Slices of texts that grow; the document's own Pieces. The document's digits, less, padded. -/
import Derived.Test.YthghoekkdpchnaaDoorMgPq17
import Derived.Test.YthghoekkdpchnaaDoorMgPq0
import Derived.Test.YthghoekkdpchnaaDoorMgPq2
import Derived.Lib.AppendStr
import Derived.ArgAppend
import Derived.Test.YthghoekkdpchnaaDoorMgPq10
import Derived.OwnWalk
import Derived.Laws.AppendOwnNone
namespace Go.Proofs.YthghoekkdpchnaaDoor
open Go.ChangeShapes Go.WideShapes Go.ChangeAt Go.RowKit Go.Deep
set_option linter.unusedVariables false
theorem strCells_tx (t : Tx) : Lib.strCells (tx t) = (nm t).map (Value.int .u8) := by
  simp [Lib.strCells, tx, nm, Function.comp_def]
theorem holds_cells {w : World} {ad : Addr} {L : List Int} (hh : Holds w (some ad) L) : ∀ j u, (L.map (Value.int .u8))[j]? = some u → w.cell? (ad.add j) = some u := by
  intro j u hu
  have hj : j < L.length := by
    have := (List.getElem?_eq_some_iff.1 hu).1
    simpa using this
  rcases hh with h | ⟨b, off, hb, hcell⟩
  · subst h; simp at hj
  · simp only [Option.some.injEq] at hb
    subst hb
    rw [add_plain, hcell j hj]
    simp [List.getElem?_eq_getElem hj] at hu
    simp [List.getD, List.getElem?_eq_getElem hj, hu]
theorem gB_refl (w : World) (row : Option Nat) : w.grownBy w row := ⟨rfl, rfl, rfl, Nat.le_refl _, fun _ _ _ => rfl⟩
theorem appB_run {w : World} (base : Nat) (v : Value) (A : List Int) (hown : Owned w base v A)
    (a : Option Addr) (m c : Nat) (L : List Int) (hm : L.length = m) (hh : Holds w a L) (hc : a = none → c = 0) (hN : A.length + m ≤ 100000000000000) (hbase : base ≤ w.heap.size) (ty : TypeId) :
    ∃ v' w', (Builtin.append_ #[120, 120] ty #[v, .slice a m c]).run Tryd.prog w = .ok v' w' ∧ Owned w' base v' (A ++ L) ∧ w.grownBy w' v.ownBlock ∧ (v'.ownBlock = v.ownBlock ∨ v'.ownBlock = some w.heap.size) := by
  obtain ⟨i, hi, hz, h1, h2⟩ := info8p
  rcases hown.2 with ⟨rfl, hn0⟩ | ⟨g, cap, cur, rfl, hbg, hg, hnc, hcm, hcs, htake⟩
  · have hA0 : A = [] := List.length_eq_zero_iff.1 hn0
    subst hA0
    by_cases hm0 : m = 0
    · subst hm0
      have hL : L = [] := List.length_eq_zero_iff.1 hm
      subst hL
      refine ⟨.slice none 0 0, w, ?_, hown, gB_refl _ _, .inl rfl⟩
      cases a with
      | none => simp [Builtin.append_, run_underlying Tryd.underlying120, sizeOf, typeInfo, hi, Builtin.lenOf, Builtin.firstCells]
      | some ad => simp [Builtin.append_, run_underlying Tryd.underlying120, sizeOf, typeInfo, hi, Builtin.lenOf, Builtin.firstCells, loadCells, loadCellsFrom]
    · cases a with
      | none =>
        exfalso
        rcases hh with h | ⟨b, off, hb, _⟩
        · rw [h] at hm; simp at hm; omega
        · simp at hb
      | some ad =>
        have hr := run_append_nil (P := Tryd.prog) w 120 ty 5 i (.int .u8 0) Tryd.underlying120 hi hz ad m c (L.map (Value.int .u8)) (by simp [hm, h1]) (holds_cells hh) (by omega) (by omega) (by rw [h2]; omega)
        have hge := grownCap_ge w m 0 5
        have hle := grownCap_le_maxLen w m 0 5 (by simp only [maxLen]; omega)
        refine ⟨_, _, hr, ?_, ⟨rfl, rfl, rfl, by simp, fun k hk _ => Below.heap_alloc w.drew _ k hk⟩, .inr rfl⟩
        refine ⟨by simp, .inr ⟨w.heap.size, _, _, by simp [hm], hbase, heap_alloc_new w.drew _, by simp [hm]; exact hge, hle, ?_, ?_⟩⟩
        · simp [size_zeroCells, hm, Value.cells]; omega
        · rw [List.nil_append, hm, Nat.mul_one]
          simp only [Array.toList_append]
          have : (L.map (Value.int .u8)).toArray.toList.length = m := by simp [hm]
          rw [← this]
          exact List.take_left
  · have hAl : (A.map (Value.int .u8)).length = A.length := by simp
    rw [Nat.mul_one] at hcs htake
    cases a with
    | none =>
      have hL : L = [] := by
        rcases hh with h | ⟨b, off, hb, _⟩
        · exact h
        · simp at hb
      subst hL
      have hc0 := hc rfl
      subst hc0
      have hm0 : m = 0 := by rw [← hm]; rfl
      subst hm0
      refine ⟨.slice (some ⟨g, 0, none⟩) A.length cap, w, ?_, ?_, gB_refl _ _, .inl rfl⟩
      · simp [Builtin.append_, run_underlying Tryd.underlying120, sizeOf, typeInfo, hi, Builtin.lenOf, hnc, Builtin.firstCells, storeCells]
      · rw [List.append_nil]; exact hown
    | some ad =>
      have hlen : ((A ++ L).map (Value.int .u8)).length = A.length + m := by simp [hm]
      by_cases hroom : A.length + m ≤ cap
      · have hr := run_append_room (P := Tryd.prog) w 120 ty 5 i Tryd.underlying120 hi g A.length cap cur hg ad m c (L.map (Value.int .u8)) (by simp [hm, h1]) (holds_cells hh) (ints_oneCell _ _) hroom (by simp [h1, hm, hcs]; exact hroom)
        refine ⟨_, _, hr, ?_, ⟨rfl, rfl, rfl, by simp, fun k _ hk => setRow_other w g k _ (fun e => hk (by simp [Value.ownBlock, e]))⟩, .inl rfl⟩
        refine ⟨by simp, .inr ⟨g, cap, _, by simp [hm], hbg, setRow_heap w g cur _ 5 _ hg, by simp [hm]; exact hroom, hcm, ?_, ?_⟩⟩
        · simp [h1, hm]; omega
        · rw [h1]
          simp only [Nat.mul_one]
          rw [htake, List.length_append, hm, ← hlen, List.map_append]
          exact List.take_left
      · have holds : ∀ j u, (A.map (Value.int .u8))[j]? = some u → w.cell? ((⟨g, 0, none⟩ : Addr).add j) = some u := World.ownsRow.cells hown (g := g) rfl
        have hr := run_append_grow (P := Tryd.prog) w 120 ty 5 i (.int .u8 0) Tryd.underlying120 hi hz ⟨g, 0, none⟩ A.length cap (A.map (Value.int .u8)) (by simp [h1]) holds ad m c (L.map (Value.int .u8)) (by simp [hm, h1]) (holds_cells hh) (by omega) (by omega) (growslice_fits (by omega) (by rw [h2]; omega))
        have hge := grownCap_ge w (A.length + m) cap 5
        have hle := grownCap_le_maxLen w (A.length + m) cap 5 (by simp only [maxLen]; omega)
        refine ⟨_, _, hr, ?_, ⟨rfl, rfl, rfl, by simp, fun k hk _ => Below.heap_alloc w.drew _ k hk⟩, .inr rfl⟩
        refine ⟨by simp, .inr ⟨w.heap.size, _, _, by simp [hm], hbase, heap_alloc_new w.drew _, by simp [hm]; exact hge, hle, ?_, ?_⟩⟩
        · simp [size_zeroCells, hm, Value.cells]; omega
        · rw [List.length_append, hm, Nat.mul_one, ← hlen]
          simp only [Array.toList_append, List.append_assoc, List.map_append]
          rw [← List.append_assoc, ← List.map_append]
          exact List.take_left
theorem Owned.base {w : World} {a b : Nat} {v : Value} {A : List Int} (h : Owned w b v A) (hab : a ≤ b) : Owned w a v A := by
  refine ⟨h.1, ?_⟩
  rcases h.2 with h1 | ⟨g, cap, cur, rfl, hbg, rest⟩
  · exact .inl h1
  · exact .inr ⟨g, cap, cur, rfl, Nat.le_trans hab hbg, rest⟩
/-- append onto a slice that has no room -/
theorem append_grow {w : World} {ops : Array Oper} {rest : List Oper} {o : Oper} {act : Act} {Q : Exit → Act → World → Prop} (hgd : o.guard = none) (s x : Operand)
    (ho : o.op = .call { callee := .builtin .append, args := #[s, x], argTypes := #[120, 120] })
    (A : List Int) (q : Nat) (hq : A.length = q) (g : Addr) (hs : act.eval s = .slice (some g) q q) (hA : Holds w (some g) A)
    (ad : Addr) (m c : Nat) (L : List Int) (hx : act.eval x = .slice (some ad) m c) (hm : L.length = m) (hh : Holds w (some ad) L) (h0 : 0 < m) (hN : q + m ≤ 140737488355328)
    (h : ∀ v' w', Owned w' w.heap.size v' (A ++ L) → Below w.heap.size w w' → wpList Tryd.prog ops Q rest (act.put o.dst v') w') :
    wpList Tryd.prog ops Q (o :: rest) act w := by
  subst hq
  obtain ⟨i, hi, hz, h1, h2⟩ := info8p
  obtain ⟨v', w', hr, h3, h4⟩ := run_append_arg_grows (P := Tryd.prog) (w := w) 120 o.type 5 i (.int .u8 0) 1 1 Tryd.underlying120 hi hz h1 h2 rfl (by decide) g A.length A.length (A.map (Value.int .u8)) (by simp) (holds_cells hA) ad m c (L.map (Value.int .u8)) (by simp [hm]) (holds_cells hh) (by omega) (by simp only [maxLen]; omega) (by omega)
  refine wpList_plain hgd fun _ hK => ?_
  unfold Oper.wp execOp
  simp only [ho, resolve, invoke, builtin, Sem.run_bind, Sem.run_pure, Result.andThen_ok, List.map_toArray, List.map_cons, List.map_nil, hs, hx, hr]
  refine hK _ _ (h v' w' ?_ ((Below.refl w.heap.size w).grown h4 (Nat.le_refl _) (fun k hk => by cases hk)))
  unfold Owned
  rw [List.length_append, hm, List.map_append]
  exact h3
/-- what grew: the row r (now r'), new blocks, and nothing else -/
def Gr (w w' : World) (r r' : Option Nat) : Prop := w.grownBy w' r ∧ (r' = r ∨ ∃ k, r' = some k ∧ w.heap.size ≤ k)
theorem Gr.trans {w w1 w2 : World} {r r1 r2 : Option Nat} (h : Gr w w1 r r1) (k : Gr w1 w2 r1 r2) : Gr w w2 r r2 := by
  refine ⟨⟨k.1.os.trans h.1.os, k.1.tape.trans h.1.tape, k.1.output.trans h.1.output, Nat.le_trans h.1.size k.1.size, fun g hg hr => (k.1.block g (Nat.lt_of_lt_of_le hg h.1.size) ?_).trans (h.1.block g hg hr)⟩, ?_⟩
  · rcases h.2 with e | ⟨q, e, hq⟩
    · rw [e]; exact hr
    · rw [e]; intro h2; have := Option.some.inj h2; omega
  · rcases k.2 with e | ⟨q, e, hq⟩
    · rw [e]; exact h.2
    · exact .inr ⟨q, e, Nat.le_trans h.1.size hq⟩
theorem Gr.ofBelow {w w' : World} (h : Below w.heap.size w w') (r : Option Nat) : Gr w w' r r := ⟨⟨h.os, h.tape, h.output, h.size, fun g hg _ => h.block g hg⟩, .inl rfl⟩
theorem Gr.alloc (w : World) (o : Obj) (r : Option Nat) : Gr w (w.alloc o) r r := Gr.ofBelow ((Below.refl _ _).alloc (Nat.le_refl _) _) r
theorem Gr.below {w w' : World} {r r' : Option Nat} (h : Gr w w' r r') (B : Nat) (hB : B ≤ w.heap.size) (hr : ∀ k, r = some k → B ≤ k) : Below B w w' :=
  ⟨h.1.os, h.1.tape, h.1.output, h.1.size, fun k hk => h.1.block k (by omega) (fun e => by have := hr k e.symm; omega)⟩
theorem Gr.block {w w' : World} {r r' : Option Nat} (h : Gr w w' r r') (k : Nat) (hk : k < w.heap.size) (hr : r ≠ some k) : w'.heap[k]? = w.heap[k]? := h.1.block k hk (fun e => hr e.symm)
theorem Owned.keep {w w' : World} {base : Nat} {v : Value} {A : List Int} (h : Owned w base v A) (hb : Below w.heap.size w w') : Owned w' base v A := by
  refine ⟨h.1, ?_⟩
  have hlt := fun k hk => (World.ownsRow.lt h k hk).2
  rcases h.2 with h1 | ⟨g, cap, cur, rfl, hbg, hg, rest⟩
  · exact .inl h1
  · exact .inr ⟨g, cap, cur, rfl, hbg, (hb.block g (hlt g rfl)).trans hg, rest⟩
theorem Owned.own {w : World} {base : Nat} {v : Value} {A : List Int} (h : Owned w base v A) : ∀ k, v.ownBlock = some k → base ≤ k ∧ k < w.heap.size := fun k hk => World.ownsRow.lt h k hk
/-- bytes in a block of which nothing changed -/
theorem Holds.gr {w w' : World} {r r' : Option Nat} {x : Addr} {L : List Int} (h : Holds w (some x) L) (hg : Gr w w' r r') (hx : x.block < w.heap.size) (hr : r ≠ some x.block) : Holds w' (some x) L := by
  rcases h with e | ⟨b, off, e, hc⟩
  · exact .inl e
  · cases e
    refine .inr ⟨b, off, rfl, fun i hi => ?_⟩
    rw [← hc i hi]
    exact World.cell?_of_block (a := ⟨b, off + i, none⟩) (hg.block b hx hr)
theorem appB {w : World} {ops : Array Oper} {rest : List Oper} {o : Oper} {act : Act} {Q : Exit → Act → World → Prop} (hgd : o.guard = none) (s x : Operand)
    (ho : o.op = .call { callee := .builtin .append, args := #[s, x], argTypes := #[120, 120] })
    (base : Nat) (v : Value) (A : List Int) (hs : act.eval s = v) (hown : Owned w base v A)
    (a : Option Addr) (m c : Nat) (L : List Int) (hx : act.eval x = .slice a m c) (hm : L.length = m) (hh : Holds w a L) (hc : a = none → c = 0) (hN : A.length + m ≤ 100000000000000) (hbase : base ≤ w.heap.size)
    (h : ∀ v' w', Owned w' base v' (A ++ L) → Gr w w' v.ownBlock v'.ownBlock → wpList Tryd.prog ops Q rest (act.put o.dst v') w') :
    wpList Tryd.prog ops Q (o :: rest) act w := by
  obtain ⟨v', w', hr, h2, h3, h4⟩ := appB_run base v A hown a m c L hm hh hc hN hbase o.type
  refine wpList_plain hgd fun _ hK => ?_
  unfold Oper.wp execOp
  simp only [ho, resolve, invoke, builtin, Sem.run_bind, Sem.run_pure, Result.andThen_ok, List.map_toArray, List.map_cons, List.map_nil, hs, hx, hr]
  refine hK _ _ (h v' w' h2 ⟨h3, ?_⟩)
  rcases h4 with e | e
  · exact .inl e
  · exact .inr ⟨_, e, Nat.le_refl _⟩
theorem appS_run {w : World} (base : Nat) (v : Value) (A : List Int) (hown : Owned w base v A) (t : Tx) (hN : A.length + t.length ≤ 140737488355328) (hbase : base ≤ w.heap.size) (ty : TypeId) :
    ∃ v' w', (Builtin.append_ #[120, 9] ty #[v, .string (tx t)]).run Tryd.prog w = .ok v' w' ∧ Owned w' base v' (A ++ nm t) ∧ Gr w w' v.ownBlock v'.ownBlock := by
  obtain ⟨i, hi, hz, h1, h2⟩ := info8p
  have hts := tx_size t
  obtain ⟨v', w', hr, h3, h4, h5⟩ := Lib.run_append_own_string (P := Tryd.prog) w base 120 9 ty 5 i Tryd.underlying120 Tryd.underlying9 hi hz h1 h2 v A.length _ hown (tx t) (by rw [hts]; simp only [maxLen]; omega) (by rw [hts]; exact hN) hbase
  have ho' : Owned w' base v' (A ++ nm t) := by
    unfold Owned
    rw [List.length_append, nm_length, List.map_append, ← strCells_tx, ← hts]
    exact h3
  refine ⟨v', w', hr, ho', h4, ?_⟩
  rcases hown.2 with ⟨rfl, hn0⟩ | ⟨g, cap, cur, rfl, hbg, hg, hnc, hcm, hcs, htake⟩
  · by_cases hm : (tx t).size = 0
    · left; rw [h5.2 ⟨rfl, hm⟩]
    · have hr2 := run_append_nil_string (P := Tryd.prog) w 120 9 ty 5 i (.int .u8 0) Tryd.underlying120 Tryd.underlying9 hi hz (tx t) (by omega) (by omega) (by rw [h2]; omega)
      rw [hr2] at hr
      cases hr
      exact .inr ⟨_, rfl, Nat.le_refl _⟩
  · by_cases hroom : A.length + (tx t).size ≤ cap
    · have hcs' : cur.size = cap := by simpa using hcs
      have hr2 := Lib.run_append_room_string (P := Tryd.prog) w 120 9 ty 5 i Tryd.underlying120 Tryd.underlying9 hi h1 g A.length cap cur hg (tx t) hroom (by omega)
      rw [hr2] at hr
      cases hr
      exact .inl rfl
    · have holds : ∀ j u, (A.map (Value.int .u8))[j]? = some u → w.cell? ((⟨g, 0, none⟩ : Addr).add j) = some u := World.ownsRow.cells hown (g := g) rfl
      have hr2 := Lib.run_append_grow_string (P := Tryd.prog) w 120 9 ty 5 i (.int .u8 0) Tryd.underlying120 Tryd.underlying9 hi hz ⟨g, 0, none⟩ A.length cap (A.map (Value.int .u8)) (by simp [h1]) holds (tx t) (by omega) (by omega) (by rw [h2]; exact growslice_fits (by omega) (by omega))
      rw [hr2] at hr
      cases hr
      exact .inr ⟨_, rfl, Nat.le_refl _⟩
/-- append(s, text...) -/
theorem appS {w : World} {ops : Array Oper} {rest : List Oper} {o : Oper} {act : Act} {Q : Exit → Act → World → Prop} (hgd : o.guard = none) (s x : Operand)
    (ho : o.op = .call { callee := .builtin .append, args := #[s, x], argTypes := #[120, 9] })
    (base : Nat) (v : Value) (A : List Int) (hs : act.eval s = v) (hown : Owned w base v A) (t : Tx) (hx : act.eval x = .string (tx t)) (hN : A.length + t.length ≤ 140737488355328) (hbase : base ≤ w.heap.size)
    (h : ∀ v' w', Owned w' base v' (A ++ nm t) → Gr w w' v.ownBlock v'.ownBlock → wpList Tryd.prog ops Q rest (act.put o.dst v') w') :
    wpList Tryd.prog ops Q (o :: rest) act w := by
  obtain ⟨v', w', hr, h2, h3⟩ := appS_run base v A hown t hN hbase o.type
  refine wpList_plain hgd fun _ hK => ?_
  unfold Oper.wp execOp
  simp only [ho, resolve, invoke, builtin, Sem.run_bind, Sem.run_pure, Result.andThen_ok, List.map_toArray, List.map_cons, List.map_nil, hs, hx, hr]
  exact hK _ _ (h v' w' h2 h3)
end Go.Proofs.YthghoekkdpchnaaDoor
namespace Go.Proofs.YthghoekkdpchnaaDoor
open Go.ChangeShapes Go.WideShapes Go.ChangeAt Go.RowKit Go.Deep
set_option linter.unusedVariables false
theorem infoT : (Tryd.prog.info? 9).map (fun i => (i.zero, i.size, i.bytes)) = some (some (.string ⟨#[]⟩), 1, 16) := by kernel_rfl
/-- a slice of texts, of one's own, from block 'base' on -/
def RowsS (w : World) (base : Nat) (v : Value) (l : List Tx) : Prop := w.ownsRow base 9 1 v l.length (l.map fun x => .string (tx x))
theorem RowsS.below {w w' : World} {base B : Nat} {v : Value} {l : List Tx} (h : RowsS w base v l) (hb : Below B w w') (hB : ∀ k, v.ownBlock = some k → k < B) : RowsS w' base v l := by
  refine ⟨h.1, ?_⟩
  rcases h.2 with h1 | ⟨g, cap, cur, rfl, hbg, hg, rest⟩
  · exact .inl h1
  · exact .inr ⟨g, cap, cur, rfl, hbg, (hb.block g (hB g rfl)).trans hg, rest⟩
theorem RowsS.lt {w : World} {base : Nat} {v : Value} {l : List Tx} (h : RowsS w base v l) : ∀ k, v.ownBlock = some k → k < w.heap.size := fun k hk => (World.ownsRow.lt h k hk).2
theorem RowsS.keep {w w' : World} {base : Nat} {v : Value} {l : List Tx} (h : RowsS w base v l) (hb : Below w.heap.size w w') : RowsS w' base v l := h.below hb h.lt
/-- what may be read of a slice of texts -/
def Rd (w : World) (v : Value) (l : List Tx) : Prop := ∃ o c, v = .slice o l.length c ∧ l.length ≤ c ∧ c ≤ 9223372036854775807 ∧ ∀ j x, l[j]? = some x → ∃ g, o = some ⟨g, 0, none⟩ ∧ w.cell? ⟨g, j, none⟩ = some (.string (tx x))
theorem add0 (g i : Nat) : (⟨g, 0, none⟩ : Addr).add i = ⟨g, i, none⟩ := by unfold Addr.add; split <;> simp_all
theorem RowsS.rd {w : World} {base : Nat} {v : Value} {l : List Tx} (h : RowsS w base v l) : Rd w v l := by
  rcases h.2 with ⟨rfl, hn⟩ | ⟨g, cap, cur, rfl, hb, hg, hl, hm, hs, ht⟩
  · have : l = [] := List.length_eq_zero_iff.1 hn
    subst this
    exact ⟨none, 0, rfl, by simp, by simp, fun j x hx => by simp at hx⟩
  · refine ⟨_, _, rfl, hl, by simpa [maxLen] using hm, fun j x hx => ⟨g, rfl, ?_⟩⟩
    have hc := World.ownsRow.cells h (g := g) rfl j (.string (tx x)) (by simp [hx])
    rwa [add0] at hc
theorem Rd.keep {w w' : World} {v : Value} {l : List Tx} (h : Rd w v l) (hb : Below w.heap.size w w') : Rd w' v l := by
  obtain ⟨o, c, h1, h2, h3, h4⟩ := h
  refine ⟨o, c, h1, h2, h3, fun j x hx => ?_⟩
  obtain ⟨g, e, hc⟩ := h4 j x hx
  exact ⟨g, e, (hb.cell (p := ⟨g, j, none⟩) (World.block_lt_of_cell? _ _ hc)).trans hc⟩
theorem append_text {w : World} {ops : Array Oper} {rest : List Oper} {o : Oper} {act : Act} {Q : Exit → Act → World → Prop} (hgd : o.guard = none) (s x : Operand)
    (ho : o.op = .call { callee := .builtin .append, args := #[s, x], argTypes := #[107, 107] })
    (base : Nat) (v : Value) (l : List Tx) (hs : act.eval s = v) (hown : RowsS w base v l)
    (a : Addr) (B : Tx) (hx : act.eval x = .slice (some a) 1 1) (hc : w.cell? a = some (.string (tx B)))
    (hN : l.length ≤ 5000000000000) (hbase : base ≤ w.heap.size)
    (h : ∀ v' w', RowsS w' base v' (l ++ [B]) → Below base w w' → wpList Tryd.prog ops Q rest (act.put o.dst v') w') :
    wpList Tryd.prog ops Q (o :: rest) act w := by
  obtain ⟨i, hi, hz, h1, h2⟩ := info_parts infoT
  refine wpList_append_own w hgd s x 107 ho base 9 i (.string ⟨#[]⟩) 1 16 Tryd.underlying107 hi hz h1 h2 rfl (by decide) v l.length _ hs hown a 1 1 [.string (tx B)] hx rfl ?_ (by simp [Value.oneCell']) (by simp only [maxLen]; omega) (by omega) hbase ?_
  · intro j y hy
    have hj : j = 0 := by
      have := (List.getElem?_eq_some_iff.1 hy).1
      simpa using this
    subst hj
    simp at hy
    subst hy
    have : a.add 0 = a := by unfold Addr.add; split <;> simp_all
    rw [this]
    exact hc
  · intro v' w' hown' hg _
    exact h v' w' (by unfold RowsS; rw [List.length_append, List.map_append]; exact hown') ((Below.refl base w).grown hg hbase (fun k hk => (World.ownsRow.lt hown k hk).1))
theorem cell_one (w : World) (B : Tx) : (w.alloc (.cells #[.string (tx B)] 9)).cell? ⟨w.heap.size, 0, none⟩ = some (.string (tx B)) := by
  rw [cell_of_row _ w.heap.size 0 _ _ (0, 0) (heap_alloc_new w _)]
  rfl
theorem getD_at (S : Tx) (i : Nat) (h : i < S.length) : S.getD i 0 = S[i] := by simp [List.getD, h]
theorem drop_cut (S : Tx) (f i : Nat) (hfi : f ≤ i) (hi : i < S.length) (hs : S.getD i 0 = 46) (hno : ∀ j, f ≤ j → j < i → S.getD j 0 ≠ 46) : pcd (S.drop f) = (S.drop f).take (i - f) :: pcd (S.drop (i + 1)) := by
  have e : S.drop f = (S.drop f).take (i - f) ++ 46 :: S.drop (i + 1) := by
    conv => lhs; rw [← List.take_append_drop (i - f) (S.drop f)]
    congr 1
    rw [List.drop_drop, show f + (i - f) = i by omega, List.drop_eq_getElem_cons hi]
    congr 1
    rw [getD_at _ _ hi] at hs
    exact hs
  have hn : (46 : UInt8) ∉ (S.drop f).take (i - f) := by
    intro hm
    obtain ⟨j, hj, he⟩ := List.getElem_of_mem hm
    have hj2 : j < i - f ∧ f + j < S.length := by
      simp only [List.length_take, List.length_drop] at hj
      omega
    refine hno (f + j) (by omega) (by omega) ?_
    rw [List.getElem_take, List.getElem_drop] at he
    rw [getD_at _ _ hj2.2]
    exact he
  conv => lhs; rw [e]
  exact pcd_cut _ _ hn
theorem drop_last (S : Tx) (f : Nat) (hno : ∀ j, f ≤ j → j < S.length → S.getD j 0 ≠ 46) : pcd (S.drop f) = [S.drop f] := by
  refine pcd_no _ (fun hm => ?_)
  obtain ⟨j, hj, he⟩ := List.getElem_of_mem hm
  have hj2 : f + j < S.length := by
    simp only [List.length_drop] at hj
    omega
  refine hno (f + j) (by omega) hj2 ?_
  rw [List.getElem_drop] at he
  rw [getD_at _ _ hj2]
  exact he
set_option maxHeartbeats 2000000 in
theorem rpieces_is (S : Tx) (hl : S.length ≤ 1000000000) (w : World) :
    Calls Tryd.prog 71 #[.string (tx S)] w fun e w' => ∃ v, e = .returned v ∧ RowsS w' w.heap.size v (pcd S) ∧ Below w.heap.size w w' := by
  have hs := tx_size S
  go_enter Tryd.func71, Tryd.ntmps71
  go_wp2
  obtain ⟨h, hh⟩ : ∃ h, h = w.heap.size := ⟨_, rfl⟩
  have HH : Hid (h = w.heap.size) := hh
  clear hh
  go_loopg [3, 4, 5] S.length (fun g v fr ii wr => ∃ (done : List Tx) (f i : Nat), fr = .int .i64 f ∧ ii = .int .i64 i ∧ f ≤ i ∧ i ≤ S.length ∧ g = S.length - i ∧ done.length ≤ f ∧ Hid (done ++ pcd (S.drop f) = pcd S) ∧ Hid (∀ j, f ≤ j → j < i → S.getD j 0 ≠ 46) ∧ Hid (RowsS wr h v done) ∧ Hid (Below h w wr))
  case atStart => exact ⟨[], 0, 0, rfl, rfl, Nat.le_refl _, Nat.zero_le _, rfl, by simp, rfl, fun j h1 h2 => by omega, World.ownsRow_nil _ _ _ _, Below.refl _ _⟩
  case round =>
    obtain ⟨done, f, i, rfl, rfl, hfi, hi, rfl, hd, HP, HN, HR, HW⟩ := hrel
    have hsz := HW.out.size
    by_cases hlt : i < S.length
    · have j1 : (i : Int) < ((S.length : Nat) : Int) := by omega
      have ix := run_index_txD S i hlt
      by_cases h47 : S.getD i 0 = 46
      · have e47 : ((S.getD i 0).toNat : Int) = 46 := by rw [h47]; rfl
        rw [e47] at ix
        have x1 : (tx S).extract f i = tx ((S.drop f).take (i - f)) := tx_extract S f i
        have HP2 : Hid ((done ++ [(S.drop f).take (i - f)]) ++ pcd (S.drop (i + 1)) = pcd S) := by
          show _ = _
          rw [← HP.out, drop_cut S f i hfi hlt h47 HN.out]
          simp
        have j2 : (0 : Int) ≤ (f : Int) := by omega
        have j3 : (f : Int) ≤ (i : Int) := by omega
        have j4 : (i : Int) ≤ ((S.length : Nat) : Int) := by omega
        generalize (S.drop f).take (i - f) = B at *
        have R1 : Hid (RowsS (wr.alloc (.cells #[.string (tx B)] 9)) h u3 done) := HR.out.keep ((Below.refl wr.heap.size wr).alloc (Nat.le_refl _) _)
        have C1 : Hid ((wr.alloc (.cells #[.string (tx B)] 9)).cell? ⟨wr.heap.size, 0, none⟩ = some (.string (tx B))) := cell_one wr B
        have hhw : h ≤ wr.heap.size := by rw [HH.out]; exact hsz
        clear HP HN e47
        go_wp2_with (at_builtin; refine append_text rfl (.tmp 16) (.tmp 21) rfl h _ done rfl R1.out ⟨wr.heap.size, 0, none⟩ B rfl C1.out (by omega) (by simp; omega) ?_; intro v3 w3 hr3 hb3; have R3 : Hid (RowsS w3 h v3 (done ++ [B])) := hr3; have B3 : Hid (Below h (wr.alloc (.cells #[.string (tx B)] 9)) w3) := hb3; clear hr3 hb3)
        go_roundg (S.length - (i + 1))
        case measure => omega
        case rel =>
          have al1 : Below wr.heap.size wr (wr.alloc (.cells #[.string (tx B)] 9)) := (Below.refl _ _).alloc (Nat.le_refl _) _
          exact ⟨done ++ [B], i + 1, i + 1, by go_num, by go_num, Nat.le_refl _, by omega, rfl, by simp; omega, HP2, fun j h1 h2 => by omega, R3, HW.out.trans ((al1.mono hhw).trans B3.out)⟩
      · have e47 : ¬ ((S.getD i 0).toNat : Int) = 46 := by
          intro e
          exact h47 (UInt8.toNat_inj.1 (by show (S.getD i 0).toNat = 46; omega))
        have HN2 : Hid (∀ j, f ≤ j → j < i + 1 → S.getD j 0 ≠ 46) := fun j h1 h2 => by
          rcases (by omega : j < i ∨ j = i) with h3 | rfl
          · exact HN.out j h1 h3
          · exact h47
        generalize S.getD i 0 = y at *
        clear HN
        go_wp2_with fail
        go_roundg (S.length - (i + 1))
        case measure => omega
        case rel => exact ⟨done, f, i + 1, rfl, by go_num, by omega, by omega, rfl, hd, HP, HN2, HR, HW⟩
    · have e : i = S.length := by omega
      subst e
      have j1 : ¬ ((S.length : Nat) : Int) < ((S.length : Nat) : Int) := by omega
      have HP2 : Hid (pcd S = done ++ [S.drop f]) := by
        show _ = _
        rw [← HP.out, drop_last S f HN.out]
      have x1 : (tx S).extract f S.length = tx (S.drop f) := by rw [tx_extract, List.take_of_length_le (by simp)]
      have j2 : (0 : Int) ≤ (f : Int) := by omega
      have j3 : (f : Int) ≤ ((S.length : Nat) : Int) := by omega
      generalize S.drop f = B at *
      have R1 : Hid (RowsS (wr.alloc (.cells #[.string (tx B)] 9)) h u3 done) := HR.out.keep ((Below.refl wr.heap.size wr).alloc (Nat.le_refl _) _)
      have C1 : Hid ((wr.alloc (.cells #[.string (tx B)] 9)).cell? ⟨wr.heap.size, 0, none⟩ = some (.string (tx B))) := cell_one wr B
      have hhw : h ≤ wr.heap.size := by rw [HH.out]; exact hsz
      clear HP HN
      go_wp2_with (at_builtin; refine append_text rfl (.tmp 25) (.tmp 29) rfl h _ done rfl R1.out ⟨wr.heap.size, 0, none⟩ B rfl C1.out (by omega) (by simp; omega) ?_; intro v3 w3 hr3 hb3; have R3 : Hid (RowsS w3 h v3 (done ++ [B])) := hr3; have B3 : Hid (Below h (wr.alloc (.cells #[.string (tx B)] 9)) w3) := hb3; clear hr3 hb3)
      go_ret
      have al1 : Below wr.heap.size wr (wr.alloc (.cells #[.string (tx B)] 9)) := (Below.refl _ _).alloc (Nat.le_refl _) _
      refine ⟨_, rfl, ?_, ?_⟩
      · rw [HP2.out, ← HH.out]; exact R3.out
      · rw [← HH.out]; exact HW.out.trans ((al1.mono hhw).trans B3.out)
end Go.Proofs.YthghoekkdpchnaaDoor
namespace Go.Proofs.YthghoekkdpchnaaDoor
open Go.ChangeShapes Go.WideShapes Go.ChangeAt Go.RowKit Go.Deep Go.Maps
set_option linter.unusedVariables false
set_option maxHeartbeats 2000000 in
theorem rdigits_is (S : Tx) (hl : S.length ≤ 140737488355328) (w : World) : Calls Tryd.prog 72 #[.string (tx S)] w fun e w' => e = .returned (.bool (isN S)) ∧ w' = w := by
  have hs := tx_size S
  have ht := tx_toList S
  obtain ⟨r, hr⟩ : ∃ r, r = isN S := ⟨_, rfl⟩
  have HA : Hid (isN S = r) := hr.symm
  rw [← hr]
  clear hr
  go_enter Tryd.func72, Tryd.ntmps72
  go_wp2_with fail
  go_loopg [3] S.length (fun g i wr => ∃ (j : Nat), j ≤ S.length ∧ g = S.length - j ∧ i = .int .i64 j ∧ Hid ((S.take j).all dig = true) ∧ wr = w)
  case atStart => exact ⟨0, Nat.zero_le _, rfl, rfl, rfl, rfl⟩
  case round =>
    obtain ⟨j, hj, rfl, rfl, HT, rfl⟩ := hrel
    by_cases hlt : j < S.length
    · have j1 : (j : Int) < ((S.length : Nat) : Int) := by omega
      have ix := run_index_txD S j hlt
      have HDG : Hid (dig (S.getD j 0) = (decide ((48 : Int) ≤ ((S.getD j 0).toNat : Int)) && decide (((S.getD j 0).toNat : Int) ≤ 57))) := dig_eq _
      have HN : Hid (dig (S.getD j 0) = false → r = false) := fun hm => by rw [← HA.out]; unfold isN; rw [all_no hlt hm]; rfl
      have HY : Hid (dig (S.getD j 0) = true → (S.take (j + 1)).all dig = true) := fun hm => by rw [all_take hlt, HT.out, hm]; rfl
      generalize dig (S.getD j 0) = d at *
      generalize ((S.getD j 0).toNat : Int) = y at *
      by_cases h1 : y < 48
      · have HF : Hid (r = false) := HN.out (by rw [HDG.out]; simp; omega)
        have e1 : decide (y < 48) = true := by simp [h1]
        clear HDG HN HY
        go_wp2_with fail
        go_ret
        refine ⟨?_, rfl⟩
        rw [HF.out]
        rfl
      · have e1 : decide (y < 48) = false := by simp; omega
        by_cases h2 : 57 < y
        · have HF : Hid (r = false) := HN.out (by rw [HDG.out]; simp; omega)
          have e2 : decide (57 < y) = true := by simp [h2]
          clear HDG HN HY
          go_wp2_with fail
          go_ret
          refine ⟨?_, rfl⟩
          rw [HF.out]
          rfl
        · have e2 : decide (57 < y) = false := by simp; omega
          have HT2 : Hid ((S.take (j + 1)).all dig = true) := HY.out (by rw [HDG.out]; simp; omega)
          clear HDG HN HY
          go_wp2_with fail
          go_roundg (S.length - (j + 1))
          case measure => omega
          case rel => exact ⟨j + 1, by omega, rfl, by go_num, HT2, rfl⟩
    · have e : j = S.length := by omega
      subst e
      have j1 : ¬ ((S.length : Nat) : Int) < ((S.length : Nat) : Int) := by omega
      have HF : Hid (r = !S.isEmpty) := by
        show _ = _
        rw [← HA.out]
        have := HT.out
        rw [List.take_length] at this
        unfold isN
        rw [this]
        rfl
      have he : (S == []) = S.isEmpty := by cases S <;> rfl
      generalize S.isEmpty = q at *
      go_wp2_with fail
      go_ret
      refine ⟨?_, rfl⟩
      rw [HF.out]
      rfl
theorem rlessM_is (A B : Tx) (w : World) : Calls Tryd.prog 73 #[.string (tx A), .string (tx B)] w fun e w' => e = .returned (.int .i64 (cB A B)) ∧ w' = w := by
  have t1 := tx_toList A
  have t2 := tx_toList B
  have b1 := bytesLess_lt A B
  have b2 := bytesLess_lt B A
  have hC : cB A B = if A = B then 0 else if ltB A B = true then -1 else 1 := rfl
  by_cases hab : A = B
  · subst hab
    rw [ltB_irr] at b1
    have : cB A A = 0 := cB_self A
    rw [this]
    clear hC this b2
    go_enter Tryd.func73, Tryd.ntmps73
    go_wp2_with fail
    go_ret
    exact ⟨rfl, rfl⟩
  · have htot := ltB_total A B hab
    cases hlt : ltB A B with
    | true =>
      rw [hlt] at b1 hC
      rw [if_neg hab, if_pos rfl] at hC
      rw [hC]
      clear b2 htot hab
      go_enter Tryd.func73, Tryd.ntmps73
      go_wp2_with fail
      go_ret
      exact ⟨rfl, rfl⟩
    | false =>
      rw [hlt] at b1 hC htot
      rw [if_neg hab, if_neg (by simp)] at hC
      have hba : ltB B A = true := by simpa using htot.symm
      rw [hba] at b2
      rw [hC]
      have he : (A == B) = false := by simp [hab]
      clear htot hab
      go_enter Tryd.func73, Tryd.ntmps73
      go_wp2_with fail
      go_ret
      exact ⟨rfl, rfl⟩
/-- with so many noughts ahead that it has n signs -/
def pad (S : Tx) (n : Nat) : Tx := List.replicate (n - S.length) 48 ++ S
end Go.Proofs.YthghoekkdpchnaaDoor
