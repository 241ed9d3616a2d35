/- What comes in, opened (gen_pou.py). stacksOf; SameStacks (gen_pov.py). plan.Put (gen_pow.py). Six stacks that Put made; several operations, one behind the other, plain. An array of two operations that came in. PlanSteps. PlanOrder. -/
import Derived.Test.YthghoekkdpchnaaDoorMgPq16
import Derived.Test.YthghoekkdpchnaaDoorMgPq23
import Derived.Lib.SmallJoins
import Derived.Deep.OwnRows
import Derived.Test.YthghoekkdpchnaaDoorMgPq14
import Derived.Test.YthghoekkdpchnaaDoorMgPq17
namespace Go.Proofs.YthghoekkdpchnaaDoor
open Go.ChangeShapes Go.WideShapes Go.ChangeAt Go.RowKit Go.Deep Go.Maps
set_option linter.unusedVariables false
set_option linter.unusedSimpArgs false
def PksIn (W : World) (a : Option Addr) (n c : Nat) (L : List Pk) : Prop := L.length = n ∧ n ≤ c ∧ InPk W a L ∧ ∀ p ∈ L, p.la = none → p.ln = 0 ∧ p.lc = 0
theorem PksIn.keep {W W' : World} {a : Option Addr} {n c : Nat} {L : List Pk} (h : PksIn W a n c L) (hb : Below W.heap.size W W') : PksIn W' a n c L := ⟨h.1, h.2.1, h.2.2.1.keep hb, h.2.2.2⟩
/-- a stack as it came in -/
structure Sr where
  a : Option Addr
  n : Nat
  c : Nat
  M : List Pk
def SrOk (W : World) (x : Sr) : Prop := PksIn W x.a x.n x.c x.M
theorem SrOk.keep {W W' : World} {x : Sr} (h : SrOk W x) (hb : Below W.heap.size W W') : SrOk W' x := PksIn.keep h hb
/-- a plan as it came in -/
structure Vr where
  r : Int
  a : Option Addr
  n : Nat
  c : Nat
  M : List Pk
def VrOk (W : World) (x : Vr) : Prop := PksIn W x.a x.n x.c x.M
theorem VrOk.keep {W W' : World} {x : Vr} (h : VrOk W x) (hb : Below W.heap.size W W') : VrOk W' x := PksIn.keep h hb
def srl (x : Sr) : List Value := [.slice x.a x.n x.c]
def srs (l : List Sr) : List Value := l.flatMap srl
theorem srs_len (l : List Sr) : (srs l).length = l.length * 1 := by
  induction l with
  | nil => rfl
  | cons x l ih => simp only [srs, List.flatMap_cons, List.length_append, List.length_cons] at ih ⊢; rw [ih]; simp [srl]; omega
theorem srs_at (l : List Sr) (i : Nat) (x : Sr) (h : l[i]? = some x) (k : Nat) (hk : k < 1) : (srs l)[i * 1 + k]? = (srl x)[k]? := by
  induction l generalizing i with
  | nil => simp at h
  | cons y l ih =>
    cases i with
    | zero =>
      simp at h
      subst h
      simp only [srs, List.flatMap_cons, Nat.zero_mul, Nat.zero_add]
      rw [List.getElem?_append_left (by simp [srl]; omega)]
    | succ i =>
      simp only [List.getElem?_cons_succ] at h
      have := ih i h
      simp only [srs, List.flatMap_cons] at this ⊢
      rw [List.getElem?_append_right (by simp [srl]; omega), ← this]
      congr 1
      first | (simp [srl]; done) | (simp [srl]; omega)
theorem srl_one (x : Sr) : ∀ v ∈ srl x, v.oneCell' = true := by
  intro v hv
  simp only [srl, List.mem_cons, List.not_mem_nil, or_false] at hv
  rcases hv with rfl; rfl
def InSr (w : World) (a : Option Addr) (l : List Sr) : Prop := l = [] ∨ ∃ b off, a = some ⟨b, off, none⟩ ∧ b < w.heap.size ∧ ∀ i x, l[i]? = some x → (∀ k v, (srl x)[k]? = some v → w.cell? ⟨b, off + i * 1 + k, none⟩ = some v) ∧ SrOk w x
theorem InSr.keep {w w' : World} {a : Option Addr} {l : List Sr} (h : InSr w a l) (hb : Below w.heap.size w w') : InSr w' a l := by
  rcases h with h | ⟨b, off, h1, h2, h3⟩
  · exact .inl h
  · exact .inr ⟨b, off, h1, Nat.lt_of_lt_of_le h2 hb.size, fun i x hx => ⟨fun k v hv => (World.cell?_of_block (a := ⟨b, off + i * 1 + k, none⟩) (hb.block b h2)).trans ((h3 i x hx).1 k v hv), (h3 i x hx).2.keep hb⟩⟩
theorem InSr.at {w : World} {a : Option Addr} {l : List Sr} (h : InSr w a l) {i : Nat} {x : Sr} (hx : l[i]? = some x) : ∃ b off, a = some ⟨b, off, none⟩ ∧ b < w.heap.size ∧ (∀ W, Below w.heap.size w W → ∀ k v, (srl x)[k]? = some v → W.cell? ⟨b, off + i * 1 + k, none⟩ = some v) ∧ SrOk w x := by
  rcases h with h | ⟨b, off, e, h1, h2⟩
  · rw [h] at hx; cases hx
  · exact ⟨b, off, e, h1, fun W hW k v hv => (World.cell?_of_block (a := ⟨b, off + i * 1 + k, none⟩) (hW.block b h1)).trans ((h2 i x hx).1 k v hv), (h2 i x hx).2⟩
theorem InSr.take {w : World} {a : Option Addr} {l : List Sr} (h : InSr w a l) (k : Nat) : InSr w a (l.take k) := by
  rcases h with h | ⟨b, off, e, h1, h2⟩
  · rw [h]; exact .inl (by simp)
  · exact .inr ⟨b, off, e, h1, fun i x hx => h2 i x (by rw [List.getElem?_take] at hx; split at hx <;> simp_all)⟩
def OwnSr (w : World) (base : Nat) (v : Value) (l : List Sr) : Prop := w.ownsRow base 34 1 v l.length (srs l)
theorem OwnSr.nil (w : World) (base : Nat) : OwnSr w base (.slice none 0 0) [] := World.ownsRow_nil _ _ _ _
theorem OwnSr.own {w : World} {base : Nat} {v : Value} {l : List Sr} (h : OwnSr w base v l) : ∀ k, v.ownBlock = some k → base ≤ k ∧ k < w.heap.size := fun k hk => World.ownsRow.lt h k hk
theorem OwnSr.kept {w w' : World} {base : Nat} {v : Value} {l : List Sr} (h : OwnSr w base v l) (hb : ∀ k, v.ownBlock = some k → w'.heap[k]? = w.heap[k]?) : OwnSr w' base v l := by
  refine ⟨h.1, ?_⟩
  rcases h.2 with h1 | ⟨g, cap, cur, rfl, hbg, hg, rest⟩
  · exact .inl h1
  · exact .inr ⟨g, cap, cur, rfl, hbg, (hb g rfl).trans hg, rest⟩
theorem OwnSr.keep {w w' : World} {base : Nat} {v : Value} {l : List Sr} (h : OwnSr w base v l) (hb : Below w.heap.size w w') : OwnSr w' base v l := h.kept fun k hk => hb.block k (h.own k hk).2
theorem OwnSr.base {w : World} {a b : Nat} {v : Value} {l : List Sr} (h : OwnSr w b v l) (hab : a ≤ b) : OwnSr w a v l := by
  refine ⟨h.1, ?_⟩
  rcases h.2 with h1 | ⟨g, cap, cur, rfl, hbg, rest⟩
  · exact .inl h1
  · exact .inr ⟨g, cap, cur, rfl, Nat.le_trans hab hbg, rest⟩
theorem OwnSr.slice {w : World} {base : Nat} {v : Value} {l : List Sr} (h : OwnSr w base v l) (hok : ∀ x ∈ l, SrOk w x) : ∃ a c, v = .slice a l.length c ∧ InSr w a l ∧ l.length ≤ c ∧ c ≤ 9223372036854775807 ∧ (a = none → l.length = 0 ∧ c = 0) ∧ (∀ q, a = some q → base ≤ q.block ∧ q.off = 0 ∧ q.spot = none) := by
  rcases h.2 with ⟨rfl, hn⟩ | ⟨g, cap, cur, rfl, hb, hg, hl, hm, hs, ht⟩
  · have : l = [] := List.length_eq_zero_iff.1 hn
    subst this
    exact ⟨none, 0, rfl, .inl rfl, by simp, by omega, fun _ => ⟨rfl, rfl⟩, fun q hq => by cases hq⟩
  · simp only [maxLen] at hm
    refine ⟨_, _, rfl, .inr ⟨g, 0, rfl, (h.own g rfl).2, fun i x hx => ⟨?_, hok x (List.mem_of_getElem? hx)⟩⟩, hl, by omega, (fun e => by cases e), fun q hq => by cases hq; exact ⟨hb, rfl, rfl⟩⟩
    intro k v hv
    have hk : k < 1 := by
      have := (List.getElem?_eq_some_iff.1 hv).1
      simpa [srl] using this
    have := World.ownsRow.cells h (g := g) rfl (i * 1 + k) v (by rw [srs_at l i x hx k hk]; exact hv)
    rw [add_plain, Nat.zero_add] at this
    rw [Nat.zero_add]
    exact this
theorem infoSr : ∃ i, Tryd.prog.info? 34 = some i ∧ i.zero = some (.slice none 0 0) ∧ i.size = 1 ∧ i.bytes = 24 := info_parts (show (Tryd.prog.info? 34).map (fun i => (i.zero, i.size, i.bytes)) = some (some (.slice none 0 0), 1, 24) by kernel_rfl)
theorem append_sr {w : World} {ops : Array Oper} {rest : List Oper} {o : Oper} {act : Act} {Q : Exit → Act → World → Prop} (hgd : o.guard = none) (s x : Operand)
    (ho : o.op = .call { callee := .builtin .append, args := #[s, x], argTypes := #[22, 22] })
    (base : Nat) (v : Value) (l : List Sr) (hs : act.eval s = v) (hown : OwnSr w base v l)
    (g c : Nat) (y : Sr) (hx : act.eval x = .slice (some ⟨g, 0, none⟩) 1 c) (hc : w.heap[g]? = some (.cells (srl y).toArray 34))
    (hN : l.length ≤ 100000000) (hbase : base ≤ w.heap.size)
    (h : ∀ v' w', OwnSr w' base v' (l ++ [y]) → w.grownBy w' v.ownBlock → wpList Tryd.prog ops Q rest (act.put o.dst v') w') :
    wpList Tryd.prog ops Q (o :: rest) act w := by
  obtain ⟨i, hi, hz, h1, h2⟩ := infoSr
  refine wpList_append_own w hgd s x 22 ho base 34 i _ 1 24 Tryd.underlying22 hi hz h1 h2 rfl (by decide) v l.length _ hs hown ⟨g, 0, none⟩ 1 c (srl y) hx rfl ?_ (srl_one y) (by simp only [maxLen]; omega) (by omega) hbase ?_
  · intro j u hu
    rw [add_plain, Nat.zero_add]
    simp [World.cell?, hc, hu]
  · intro v' w' hown' hg _
    refine h v' w' ?_ hg
    unfold OwnSr
    rw [List.length_append]
    have : srs (l ++ [y]) = srs l ++ srl y := by simp [srs]
    rw [this]
    exact hown'
def vrl (x : Vr) : List Value := [.int .i64 x.r, .slice x.a x.n x.c]
def vrs (l : List Vr) : List Value := l.flatMap vrl
theorem vrs_len (l : List Vr) : (vrs l).length = l.length * 2 := by
  induction l with
  | nil => rfl
  | cons x l ih => simp only [vrs, List.flatMap_cons, List.length_append, List.length_cons] at ih ⊢; rw [ih]; simp [vrl]; omega
theorem vrs_at (l : List Vr) (i : Nat) (x : Vr) (h : l[i]? = some x) (k : Nat) (hk : k < 2) : (vrs l)[i * 2 + k]? = (vrl x)[k]? := by
  induction l generalizing i with
  | nil => simp at h
  | cons y l ih =>
    cases i with
    | zero =>
      simp at h
      subst h
      simp only [vrs, List.flatMap_cons, Nat.zero_mul, Nat.zero_add]
      rw [List.getElem?_append_left (by simp [vrl]; omega)]
    | succ i =>
      simp only [List.getElem?_cons_succ] at h
      have := ih i h
      simp only [vrs, List.flatMap_cons] at this ⊢
      rw [List.getElem?_append_right (by simp [vrl]; omega), ← this]
      congr 1
      first | (simp [vrl]; done) | (simp [vrl]; omega)
theorem vrl_one (x : Vr) : ∀ v ∈ vrl x, v.oneCell' = true := by
  intro v hv
  simp only [vrl, List.mem_cons, List.not_mem_nil, or_false] at hv
  rcases hv with rfl | rfl <;> rfl
def InVr (w : World) (a : Option Addr) (l : List Vr) : Prop := l = [] ∨ ∃ b off, a = some ⟨b, off, none⟩ ∧ b < w.heap.size ∧ ∀ i x, l[i]? = some x → (∀ k v, (vrl x)[k]? = some v → w.cell? ⟨b, off + i * 2 + k, none⟩ = some v) ∧ VrOk w x
theorem InVr.keep {w w' : World} {a : Option Addr} {l : List Vr} (h : InVr w a l) (hb : Below w.heap.size w w') : InVr w' a l := by
  rcases h with h | ⟨b, off, h1, h2, h3⟩
  · exact .inl h
  · exact .inr ⟨b, off, h1, Nat.lt_of_lt_of_le h2 hb.size, fun i x hx => ⟨fun k v hv => (World.cell?_of_block (a := ⟨b, off + i * 2 + k, none⟩) (hb.block b h2)).trans ((h3 i x hx).1 k v hv), (h3 i x hx).2.keep hb⟩⟩
theorem InVr.at {w : World} {a : Option Addr} {l : List Vr} (h : InVr w a l) {i : Nat} {x : Vr} (hx : l[i]? = some x) : ∃ b off, a = some ⟨b, off, none⟩ ∧ b < w.heap.size ∧ (∀ W, Below w.heap.size w W → ∀ k v, (vrl x)[k]? = some v → W.cell? ⟨b, off + i * 2 + k, none⟩ = some v) ∧ VrOk w x := by
  rcases h with h | ⟨b, off, e, h1, h2⟩
  · rw [h] at hx; cases hx
  · exact ⟨b, off, e, h1, fun W hW k v hv => (World.cell?_of_block (a := ⟨b, off + i * 2 + k, none⟩) (hW.block b h1)).trans ((h2 i x hx).1 k v hv), (h2 i x hx).2⟩
theorem InVr.take {w : World} {a : Option Addr} {l : List Vr} (h : InVr w a l) (k : Nat) : InVr w a (l.take k) := by
  rcases h with h | ⟨b, off, e, h1, h2⟩
  · rw [h]; exact .inl (by simp)
  · exact .inr ⟨b, off, e, h1, fun i x hx => h2 i x (by rw [List.getElem?_take] at hx; split at hx <;> simp_all)⟩
def OwnVr (w : World) (base : Nat) (v : Value) (l : List Vr) : Prop := w.ownsRow base 36 2 v l.length (vrs l)
theorem OwnVr.nil (w : World) (base : Nat) : OwnVr w base (.slice none 0 0) [] := World.ownsRow_nil _ _ _ _
theorem OwnVr.own {w : World} {base : Nat} {v : Value} {l : List Vr} (h : OwnVr w base v l) : ∀ k, v.ownBlock = some k → base ≤ k ∧ k < w.heap.size := fun k hk => World.ownsRow.lt h k hk
theorem OwnVr.kept {w w' : World} {base : Nat} {v : Value} {l : List Vr} (h : OwnVr w base v l) (hb : ∀ k, v.ownBlock = some k → w'.heap[k]? = w.heap[k]?) : OwnVr w' base v l := by
  refine ⟨h.1, ?_⟩
  rcases h.2 with h1 | ⟨g, cap, cur, rfl, hbg, hg, rest⟩
  · exact .inl h1
  · exact .inr ⟨g, cap, cur, rfl, hbg, (hb g rfl).trans hg, rest⟩
theorem OwnVr.keep {w w' : World} {base : Nat} {v : Value} {l : List Vr} (h : OwnVr w base v l) (hb : Below w.heap.size w w') : OwnVr w' base v l := h.kept fun k hk => hb.block k (h.own k hk).2
theorem OwnVr.base {w : World} {a b : Nat} {v : Value} {l : List Vr} (h : OwnVr w b v l) (hab : a ≤ b) : OwnVr w a v l := by
  refine ⟨h.1, ?_⟩
  rcases h.2 with h1 | ⟨g, cap, cur, rfl, hbg, rest⟩
  · exact .inl h1
  · exact .inr ⟨g, cap, cur, rfl, Nat.le_trans hab hbg, rest⟩
theorem OwnVr.slice {w : World} {base : Nat} {v : Value} {l : List Vr} (h : OwnVr w base v l) (hok : ∀ x ∈ l, VrOk w x) : ∃ a c, v = .slice a l.length c ∧ InVr w a l ∧ l.length ≤ c ∧ c ≤ 9223372036854775807 ∧ (a = none → l.length = 0 ∧ c = 0) ∧ (∀ q, a = some q → base ≤ q.block ∧ q.off = 0 ∧ q.spot = none) := by
  rcases h.2 with ⟨rfl, hn⟩ | ⟨g, cap, cur, rfl, hb, hg, hl, hm, hs, ht⟩
  · have : l = [] := List.length_eq_zero_iff.1 hn
    subst this
    exact ⟨none, 0, rfl, .inl rfl, by simp, by omega, fun _ => ⟨rfl, rfl⟩, fun q hq => by cases hq⟩
  · simp only [maxLen] at hm
    refine ⟨_, _, rfl, .inr ⟨g, 0, rfl, (h.own g rfl).2, fun i x hx => ⟨?_, hok x (List.mem_of_getElem? hx)⟩⟩, hl, by omega, (fun e => by cases e), fun q hq => by cases hq; exact ⟨hb, rfl, rfl⟩⟩
    intro k v hv
    have hk : k < 2 := by
      have := (List.getElem?_eq_some_iff.1 hv).1
      simpa [vrl] using this
    have := World.ownsRow.cells h (g := g) rfl (i * 2 + k) v (by rw [vrs_at l i x hx k hk]; exact hv)
    rw [add_plain, Nat.zero_add] at this
    rw [Nat.zero_add]
    exact this
theorem infoVr : ∃ i, Tryd.prog.info? 36 = some i ∧ i.zero = some (.agg #[.int .i64 0, .slice none 0 0]) ∧ i.size = 2 ∧ i.bytes = 32 := info_parts (show (Tryd.prog.info? 36).map (fun i => (i.zero, i.size, i.bytes)) = some (some (.agg #[.int .i64 0, .slice none 0 0]), 2, 32) by kernel_rfl)
theorem append_vr {w : World} {ops : Array Oper} {rest : List Oper} {o : Oper} {act : Act} {Q : Exit → Act → World → Prop} (hgd : o.guard = none) (s x : Operand)
    (ho : o.op = .call { callee := .builtin .append, args := #[s, x], argTypes := #[25, 25] })
    (base : Nat) (v : Value) (l : List Vr) (hs : act.eval s = v) (hown : OwnVr w base v l)
    (g c : Nat) (y : Vr) (hx : act.eval x = .slice (some ⟨g, 0, none⟩) 1 c) (hc : w.heap[g]? = some (.cells (vrl y).toArray 36))
    (hN : l.length ≤ 100000000) (hbase : base ≤ w.heap.size)
    (h : ∀ v' w', OwnVr w' base v' (l ++ [y]) → w.grownBy w' v.ownBlock → wpList Tryd.prog ops Q rest (act.put o.dst v') w') :
    wpList Tryd.prog ops Q (o :: rest) act w := by
  obtain ⟨i, hi, hz, h1, h2⟩ := infoVr
  refine wpList_append_own w hgd s x 25 ho base 36 i _ 2 32 Tryd.underlying25 hi hz h1 h2 rfl (by decide) v l.length _ hs hown ⟨g, 0, none⟩ 1 c (vrl y) hx rfl ?_ (vrl_one y) (by simp only [maxLen]; omega) (by omega) hbase ?_
  · intro j u hu
    rw [add_plain, Nat.zero_add]
    simp [World.cell?, hc, hu]
  · intro v' w' hown' hg _
    refine h v' w' ?_ hg
    unfold OwnVr
    rw [List.length_append]
    have : vrs (l ++ [y]) = vrs l ++ vrl y := by simp [vrs]
    rw [this]
    exact hown'
def OpsIn (W : World) (a : Option Addr) (n c : Nat) (L : List Rv) : Prop := L.length = n ∧ n ≤ c ∧ InRv W a L
def SrsIn (W : World) (a : Option Addr) (n c : Nat) (L : List Sr) : Prop := L.length = n ∧ n ≤ c ∧ InSr W a L
def VrsIn (W : World) (a : Option Addr) (n c : Nat) (L : List Vr) : Prop := L.length = n ∧ n ≤ c ∧ InVr W a L
theorem open_packsR {H : Type} {enc : TypeId × Value → H} {W : World} {fuel : Nat} {a : Option Addr} {n c : Nat} {x : DataW H × List MemPlace} (h : DataW.trod enc Tryd.prog W 0 (fun _ => true) true fuel 34 [.slice a n c] = some x) (hw : ∀ q ∈ x.1.weights Tryd.prog 34, q ≤ 140737488351232) :
    ∃ a' n' c', ∃ L : List Pk, Value.slice a n c = .slice a' n' c' ∧ PksIn W a' n' c' L := by
  obtain ⟨a', n', c', L, h1, h2, h3, _, h5, h6, _⟩ := open_packs h hw
  exact ⟨a', n', c', L, h1, h2, h3, h5, fun p hp => (h6 p hp).2.1⟩
theorem cellsOp : Tryd.prog.cellsOf 46 = 5 := by kernel_rfl
theorem cellsVr : Tryd.prog.cellsOf 36 = 2 := by kernel_rfl
theorem cellsPks2 : Tryd.prog.cellsOf 34 = 1 := by kernel_rfl
theorem list5P {α : Type} {l : List α} (h : l.length = 5) : ∃ v0 v1 v2 v3 v4, l = [v0, v1, v2, v3, v4] := by
  match l, h with
  | [v0, v1, v2, v3, v4], _ => exact ⟨v0, v1, v2, v3, v4, rfl⟩
set_option maxRecDepth 100000 in
theorem open_op {H : Type} {enc : TypeId × Value → H} {W : World} {fuel : Nat} {cs : List Value} {x : DataW H × List MemPlace} (h : DataW.trod enc Tryd.prog W 0 (fun _ => true) true fuel 46 cs = some x) (hw : ∀ q ∈ x.1.weights Tryd.prog 46, q ≤ 140737488351232) :
    ∃ p : Rv, cs = rwl p ∧ RvOk W p := by
  obtain ⟨xs, m, hx1, rfl, hl, hlen, hf⟩ := DataW.trod_struct Tryd.underlying46 h
  rw [cellsOp] at hl
  obtain ⟨v0, v1, v2, v3, v4, rfl⟩ := list5P hl
  obtain ⟨y0, y1, y2, y3, y4, rfl⟩ := list5P hlen
  have g0 := hf 0 _ rfl
  have g1 := hf 1 _ rfl
  have g2 := hf 2 _ rfl
  have g3 := hf 3 _ rfl
  have g4 := hf 4 _ rfl
  simp [cellsI64, cellsStr, cellsRs] at g0 g1 g2 g3 g4
  obtain ⟨m0, e0, _, b0⟩ := DataW.trod_int Tryd.underlying3 g0
  obtain ⟨m1, e1, _, b1⟩ := DataW.trod_int Tryd.underlying3 g1
  obtain ⟨s1, e2, hz0, _⟩ := DataW.trod_string Tryd.underlying9 g2
  obtain ⟨s2, e3, hz1, _⟩ := DataW.trod_string Tryd.underlying9 g3
  simp only [List.cons.injEq, and_true] at e0 e1 e2 e3
  subst e0 e1 e2 e3
  obtain ⟨a, len, cap, rfl⟩ : ∃ a len cap, v4 = .slice a len cap := by
    rcases open_slice Tryd.underlying44 g4 with ⟨h1, _⟩ | ⟨a', len', cap', _, _, _, _, h1, _⟩
    · simp only [List.cons.injEq, and_true] at h1; exact ⟨_, _, _, h1⟩
    · simp only [List.cons.injEq, and_true] at h1; exact ⟨_, _, _, h1⟩
  obtain ⟨l, l1, l2, l3, l4, l5, l6, l7, l8⟩ := open_refs g4
  have hwt : ∀ q, q ∈ y2.1.weights Tryd.prog 9 → q ≤ 140737488351232 := fun q hq => hw q (by
    simp only [DataW.weights, Tryd.underlying46]
    exact DataW.weights_mem_each (j := 2) (t := 9) (d := y2.1) rfl rfl _ hq)
  have hwt2 : ∀ q, q ∈ y3.1.weights Tryd.prog 9 → q ≤ 140737488351232 := fun q hq => hw q (by
    simp only [DataW.weights, Tryd.underlying46]
    exact DataW.weights_mem_each (j := 3) (t := 9) (d := y3.1) rfl rfl _ hq)
  have w1 : s1.size ≤ 140737488351232 := hwt _ (by simp [DataW.weights, hz0])
  have w2 : s2.size ≤ 140737488351232 := hwt2 _ (by simp [DataW.weights, hz1])
  have q1 : tx s1.data.toList = s1 := (tx_mk s1).symm
  have q2 : tx s2.data.toList = s2 := (tx_mk s2).symm
  have r1 : s1.data.toList.length = s1.size := by rw [Array.length_toList]; rfl
  have r2 : s2.data.toList.length = s2.size := by rw [Array.length_toList]; rfl
  refine ⟨⟨⟨m0, m1, s1.data.toList, s2.data.toList, l⟩, a, len, cap⟩, by simp [rwl, q1, q2], ⟨l5, l1, l2, l6, fun e => ?_, ?_, ?_⟩⟩
  · have := l3 e; simp only; omega
  · simp only; omega
  · simp only; omega
set_option maxRecDepth 100000 in
theorem open_plan {H : Type} {enc : TypeId × Value → H} {W : World} {fuel : Nat} {cs : List Value} {x : DataW H × List MemPlace} (h : DataW.trod enc Tryd.prog W 0 (fun _ => true) true fuel 36 cs = some x) (hw : ∀ q ∈ x.1.weights Tryd.prog 36, q ≤ 140737488351232) :
    ∃ p : Vr, cs = vrl p ∧ VrOk W p := by
  obtain ⟨xs, m, hx1, rfl, hl, hlen, hf⟩ := DataW.trod_struct Tryd.underlying36 h
  rw [cellsVr] at hl
  obtain ⟨v0, v1, rfl⟩ : ∃ v0 v1, cs = [v0, v1] := by
    match cs, hl with
    | [v0, v1], _ => exact ⟨v0, v1, rfl⟩
  obtain ⟨y0, y1, rfl⟩ : ∃ v0 v1, xs = [v0, v1] := by
    clear hf
    match xs, hlen with
    | [v0, v1], _ => exact ⟨v0, v1, rfl⟩
  have g0 := hf 0 _ rfl
  have g1 := hf 1 _ rfl
  simp [cellsI64, cellsPks2] at g0 g1
  obtain ⟨m0, e0, _, b0⟩ := DataW.trod_int Tryd.underlying3 g0
  simp only [List.cons.injEq, and_true] at e0
  subst e0
  obtain ⟨a', n', c', L, h1, h2, h3, _, h5, h6, _⟩ := open_packs g1 (fun q hq => hw q (by
    simp only [DataW.weights, Tryd.underlying36]
    exact DataW.weights_mem_each (j := 1) (t := 34) (d := y1.1) rfl rfl _ hq))
  subst h1
  exact ⟨⟨m0, a', n', c', L⟩, rfl, h2, h3, h5, fun p hp => (h6 p hp).2.1⟩
theorem open_stack1 {H : Type} {enc : TypeId × Value → H} {W : World} {fuel : Nat} {cs : List Value} {x : DataW H × List MemPlace} (h : DataW.trod enc Tryd.prog W 0 (fun _ => true) true fuel 34 cs = some x) (hw : ∀ q ∈ x.1.weights Tryd.prog 34, q ≤ 140737488351232) (hl : cs.length = 1) :
    ∃ p : Sr, cs = srl p ∧ SrOk W p := by
  obtain ⟨v0, rfl⟩ : ∃ v0, cs = [v0] := by
    match cs, hl with
    | [v0], _ => exact ⟨v0, rfl⟩
  obtain ⟨a', n', c', L, h1, h2, h3, _, h5, h6, _⟩ := open_packs h hw
  subst h1
  exact ⟨⟨a', n', c', L⟩, rfl, h2, h3, h5, fun p hp => (h6 p hp).2.1⟩
theorem open_ops {H : Type} {enc : TypeId × Value → H} {W : World} {fuel : Nat} {a : Option Addr} {n c : Nat} {x : DataW H × List MemPlace} (h : DataW.trod enc Tryd.prog W 0 (fun _ => true) true fuel 23 [.slice a n c] = some x) (hw : ∀ q ∈ x.1.weights Tryd.prog 23, q ≤ 140737488351232) :
    ∃ a' n' c', ∃ L : List Rv, Value.slice a n c = .slice a' n' c' ∧ OpsIn W a' n' c' L := by
  rcases open_slice Tryd.underlying23 h with ⟨hcs, hx⟩ | ⟨a', len, cap, m, n2, D, Pl, hcs, _, hl, hm, hmm, hx, hel⟩
  · simp only [List.cons.injEq, and_true] at hcs
    exact ⟨none, 0, 0, [], hcs, rfl, Nat.le_refl _, .inl rfl⟩
  · simp only [List.cons.injEq, and_true] at hcs
    have hmc : m = cap := by simpa using hmm
    subst hmc hx
    have hwi : ∀ i, i < len → ∀ q ∈ (D i).weights Tryd.prog 46, q ≤ 140737488351232 := fun i hi q hq => hw q (by
      simp only [DataW.weights, Tryd.underlying23]
      refine List.mem_cons_of_mem _ (List.mem_append_left _ (mem_weightsAllW (d := D i) ?_ hq))
      exact List.mem_map.2 ⟨i, List.mem_range.2 hi, rfl⟩)
    have each : ∀ i, i < len → ∃ p : Rv, (∀ k v, (rwl p)[k]? = some v → W.cell? (a'.add (i * 5 + k)) = some v) ∧ RvOk W p := by
      intro i hi
      obtain ⟨cs', h1, h2⟩ := hel i (by omega)
      rw [cellsOp] at h1
      obtain ⟨_, hlen1, hcell⟩ := World.cells?_some h1
      obtain ⟨v, rfl, hv⟩ := open_op h2 (hwi i hi)
      refine ⟨v, fun k u hu => ?_, hv⟩
      have hk : k < 5 := by
        have := (List.getElem?_eq_some_iff.1 hu).1
        simpa [rwl] using this
      have e := hcell k (by omega)
      rw [add_add] at e
      rw [e, hu]
    letI : Inhabited Rv := ⟨⟨⟨0, 0, [], [], []⟩, none, 0, 0⟩⟩
    obtain ⟨q, hq⟩ := choose_lt each
    refine ⟨some a', len, m, (List.range len).map q, hcs, by simp, hl, ?_⟩
    by_cases h0 : len = 0
    · left; subst h0; rfl
    · right
      obtain ⟨b, off, spot⟩ := a'
      have hc := (hq 0 (by omega)).1 0 _ rfl
      have hspot : spot = none := by simpa [Addr.add] using World.cell?_spot hc
      subst hspot
      rw [add_plain] at hc
      refine ⟨b, off, rfl, World.block_lt_of_cell? _ _ hc, fun i x hx => ?_⟩
      have hi : i < len := by
        have := (List.getElem?_eq_some_iff.1 hx).1
        simpa using this
      have hxq : x = q i := by simpa [hi] using hx.symm
      subst hxq
      refine ⟨fun k v hv => ?_, (hq i hi).2⟩
      have := (hq i hi).1 k v hv
      rw [add_plain] at this
      rw [Nat.add_assoc]
      exact this
theorem open_plans {H : Type} {enc : TypeId × Value → H} {W : World} {fuel : Nat} {a : Option Addr} {n c : Nat} {x : DataW H × List MemPlace} (h : DataW.trod enc Tryd.prog W 0 (fun _ => true) true fuel 25 [.slice a n c] = some x) (hw : ∀ q ∈ x.1.weights Tryd.prog 25, q ≤ 140737488351232) :
    ∃ a' n' c', ∃ L : List Vr, Value.slice a n c = .slice a' n' c' ∧ VrsIn W a' n' c' L := by
  rcases open_slice Tryd.underlying25 h with ⟨hcs, hx⟩ | ⟨a', len, cap, m, n2, D, Pl, hcs, _, hl, hm, hmm, hx, hel⟩
  · simp only [List.cons.injEq, and_true] at hcs
    exact ⟨none, 0, 0, [], hcs, rfl, Nat.le_refl _, .inl rfl⟩
  · simp only [List.cons.injEq, and_true] at hcs
    have hmc : m = cap := by simpa using hmm
    subst hmc hx
    have hwi : ∀ i, i < len → ∀ q ∈ (D i).weights Tryd.prog 36, q ≤ 140737488351232 := fun i hi q hq => hw q (by
      simp only [DataW.weights, Tryd.underlying25]
      refine List.mem_cons_of_mem _ (List.mem_append_left _ (mem_weightsAllW (d := D i) ?_ hq))
      exact List.mem_map.2 ⟨i, List.mem_range.2 hi, rfl⟩)
    have each : ∀ i, i < len → ∃ p : Vr, (∀ k v, (vrl p)[k]? = some v → W.cell? (a'.add (i * 2 + k)) = some v) ∧ VrOk W p := by
      intro i hi
      obtain ⟨cs', h1, h2⟩ := hel i (by omega)
      rw [cellsVr] at h1
      obtain ⟨_, hlen1, hcell⟩ := World.cells?_some h1
      obtain ⟨v, rfl, hv⟩ := open_plan h2 (hwi i hi)
      refine ⟨v, fun k u hu => ?_, hv⟩
      have hk : k < 2 := by
        have := (List.getElem?_eq_some_iff.1 hu).1
        simpa [vrl] using this
      have e := hcell k (by omega)
      rw [add_add] at e
      rw [e, hu]
    letI : Inhabited Vr := ⟨⟨0, none, 0, 0, []⟩⟩
    obtain ⟨q, hq⟩ := choose_lt each
    refine ⟨some a', len, m, (List.range len).map q, hcs, by simp, hl, ?_⟩
    by_cases h0 : len = 0
    · left; subst h0; rfl
    · right
      obtain ⟨b, off, spot⟩ := a'
      have hc := (hq 0 (by omega)).1 0 _ rfl
      have hspot : spot = none := by simpa [Addr.add] using World.cell?_spot hc
      subst hspot
      rw [add_plain] at hc
      refine ⟨b, off, rfl, World.block_lt_of_cell? _ _ hc, fun i x hx => ?_⟩
      have hi : i < len := by
        have := (List.getElem?_eq_some_iff.1 hx).1
        simpa using this
      have hxq : x = q i := by simpa [hi] using hx.symm
      subst hxq
      refine ⟨fun k v hv => ?_, (hq i hi).2⟩
      have := (hq i hi).1 k v hv
      rw [add_plain] at this
      rw [Nat.add_assoc]
      exact this
theorem open_stacks {H : Type} {enc : TypeId × Value → H} {W : World} {fuel : Nat} {a : Option Addr} {n c : Nat} {x : DataW H × List MemPlace} (h : DataW.trod enc Tryd.prog W 0 (fun _ => true) true fuel 22 [.slice a n c] = some x) (hw : ∀ q ∈ x.1.weights Tryd.prog 22, q ≤ 140737488351232) :
    ∃ a' n' c', ∃ L : List Sr, Value.slice a n c = .slice a' n' c' ∧ SrsIn W a' n' c' L := by
  rcases open_slice Tryd.underlying22 h with ⟨hcs, hx⟩ | ⟨a', len, cap, m, n2, D, Pl, hcs, _, hl, hm, hmm, hx, hel⟩
  · simp only [List.cons.injEq, and_true] at hcs
    exact ⟨none, 0, 0, [], hcs, rfl, Nat.le_refl _, .inl rfl⟩
  · simp only [List.cons.injEq, and_true] at hcs
    have hmc : m = cap := by simpa using hmm
    subst hmc hx
    have hwi : ∀ i, i < len → ∀ q ∈ (D i).weights Tryd.prog 34, q ≤ 140737488351232 := fun i hi q hq => hw q (by
      simp only [DataW.weights, Tryd.underlying22]
      refine List.mem_cons_of_mem _ (List.mem_append_left _ (mem_weightsAllW (d := D i) ?_ hq))
      exact List.mem_map.2 ⟨i, List.mem_range.2 hi, rfl⟩)
    have each : ∀ i, i < len → ∃ p : Sr, (∀ k v, (srl p)[k]? = some v → W.cell? (a'.add (i * 1 + k)) = some v) ∧ SrOk W p := by
      intro i hi
      obtain ⟨cs', h1, h2⟩ := hel i (by omega)
      rw [cellsPks2] at h1
      obtain ⟨_, hlen1, hcell⟩ := World.cells?_some h1
      obtain ⟨v, rfl, hv⟩ := open_stack1 h2 (hwi i hi) (by simpa using hlen1)
      refine ⟨v, fun k u hu => ?_, hv⟩
      have hk : k < 1 := by
        have := (List.getElem?_eq_some_iff.1 hu).1
        simpa [srl] using this
      have e := hcell k (by omega)
      rw [add_add] at e
      rw [e, hu]
    letI : Inhabited Sr := ⟨⟨none, 0, 0, []⟩⟩
    obtain ⟨q, hq⟩ := choose_lt each
    refine ⟨some a', len, m, (List.range len).map q, hcs, by simp, hl, ?_⟩
    by_cases h0 : len = 0
    · left; subst h0; rfl
    · right
      obtain ⟨b, off, spot⟩ := a'
      have hc := (hq 0 (by omega)).1 0 _ rfl
      have hspot : spot = none := by simpa [Addr.add] using World.cell?_spot hc
      subst hspot
      rw [add_plain] at hc
      refine ⟨b, off, rfl, World.block_lt_of_cell? _ _ hc, fun i x hx => ?_⟩
      have hi : i < len := by
        have := (List.getElem?_eq_some_iff.1 hx).1
        simpa using this
      have hxq : x = q i := by simpa [hi] using hx.symm
      subst hxq
      refine ⟨fun k v hv => ?_, (hq i hi).2⟩
      have := (hq i hi).1 k v hv
      rw [add_plain] at this
      rw [Nat.add_assoc]
      exact this
end Go.Proofs.YthghoekkdpchnaaDoor
namespace Go.Proofs.YthghoekkdpchnaaDoor
open Go.ChangeShapes Go.WideShapes Go.ChangeAt Go.RowKit Go.Deep Go.Maps
set_option linter.unusedVariables false
set_option linter.unusedSimpArgs false
def NewSk (w : World) (z : Nat) (x : Sk) : Prop := NewSt w z x.a x.n x.c x.M
theorem NewSk.ok {w : World} {z : Nat} {x : Sk} (h : NewSk w z x) : SkOk w x := NewSt.st h
theorem NewSk.keep {w w' : World} {z : Nat} {x : Sk} (h : NewSk w z x) (hb : Below w.heap.size w w') : NewSk w' z x := NewSt.keep h hb
theorem newSk_app {u u8 : World} {z zz : Nat} {V : Value} {S : List Sk} {x : Sk} (hO : OwnSk u zz V S) (hg : u.grownBy u8 V.ownBlock) (h : NewSk u z x) : NewSk u8 z x :=
  NewSt.kept2 h hg.size (fun k cs t hk ht => hg.block k (lt_of_heapK hk) (fun e => by
    rcases hO.2 with ⟨h1, _⟩ | ⟨g, cap, cur, h1, _, h2, _⟩
    · rw [h1] at e; cases e
    · rw [h1] at e
      cases e
      rw [h2] at hk
      simp only [Option.some.injEq, Obj.cells.injEq] at hk
      obtain ⟨_, hk, _⟩ := hk
      rcases ht with rfl | rfl <;> exact absurd hk (by decide)))
def stacksC (L : List Sr) : List (List Pc) := (L.take 9).map fun x => packsC x.M
set_option maxRecDepth 100000 in
set_option maxHeartbeats 8000000 in
theorem stacksOf_is (w : World) (a : Option Addr) (n c : Nat) (L : List Sr) (hin : SrsIn w a n c L) :
    Calls Tryd.prog 7 #[.slice a n c] w fun e w' => ∃ a' n' c' S, e = .returned (.slice a' n' c') ∧ S.length = n' ∧ n' ≤ 9 ∧ n' ≤ c' ∧ OwnSk w' w.heap.size (.slice a' n' c') S ∧ InSk w' a' S ∧ (∀ x ∈ S, NewSk w' w.heap.size x) ∧ S.map Sk.co = stacksC L ∧ Below w.heap.size w w' := by
  obtain ⟨z, hzz⟩ : ∃ z, z = w.heap.size := ⟨_, rfl⟩
  have HZ : Hid (z = w.heap.size) := hzz
  have KL : Hid (∀ W, Below z w W → InSr W a L) := fun W hW => hin.2.2.keep (by rw [← hzz]; exact hW)
  have HLN : Hid (L.length = n) := hin.1
  rw [← hzz]
  clear hzz hin
  go_enter Tryd.func7, Tryd.ntmps7
  go_wp2_with fail
  go_loopg [3, 4] n (fun g V i wr => ∃ (j : Nat) (S : List Sk), j ≤ n ∧ j ≤ 9 ∧ g = n - j ∧ i = .int .i64 (j : Int) ∧ Hid (OwnSk wr z V S ∧ S.length = j ∧ (∀ x ∈ S, NewSk wr z x) ∧ S.map Sk.co = (L.take j).map (fun x => packsC x.M) ∧ Below z w wr))
  case atStart => exact ⟨0, [], Nat.zero_le _, Nat.zero_le _, rfl, rfl, OwnSk.nil _ _, rfl, (fun x hx => by cases hx), rfl, by rw [HZ.out]; exact Below.refl _ _⟩
  case round =>
    obtain ⟨j, S, hj, hj9, rfl, rfl, RW⟩ := hrel
    by_cases hlt : j < n ∧ j < 9
    · have j1 : decide ((j : Int) < (n : Int)) = true := by rw [decide_eq_true_eq]; omega
      have j2 : decide ((j : Int) < (9 : Int)) = true := by rw [decide_eq_true_eq]; omega
      have j3 : decide (j < n) = true := by rw [decide_eq_true_eq]; omega
      have j4 : decide (j < 9) = true := by rw [decide_eq_true_eq]; omega
      have j5 : j < n := hlt.1
      obtain ⟨x', hx⟩ : ∃ x, L[j]? = some x := ⟨L[j]'(by rw [HLN.out]; exact hlt.1), List.getElem?_eq_getElem _⟩
      obtain ⟨b', off, rfl, hbw, hpc, hok⟩ := (KL.out _ RW.out.2.2.2.2).at hx
      have c0 : wr.cell? ⟨b', off + j, none⟩ = some (.slice x'.a x'.n x'.c) := by have := hpc wr (Below.refl _ _) 0 _ rfl; simpa using this
      have ri : IntKind.i64.wrap ((j : Int) + 1) = (j : Int) + 1 := by rw [IntKind.wrap_i64]; omega
      have HX : Hid (L[j]? = some x') := hx
      have KP : Hid (Calls Tryd.prog 15 #[.slice x'.a x'.n x'.c] wr fun e w' => ∃ a' n' c' M, e = .returned (.slice a' n' c') ∧ NewSt w' wr.heap.size a' n' c' M ∧ M.map co = packsC x'.M ∧ Below wr.heap.size wr w') := packs_is wr _ _ _ _ hok.1 hok.2.2.1 hok.2.1 hok.2.2.2
      clear hx hok hpc
      obtain ⟨xa, xn, xc, xM⟩ := x'
      simp only at c0
      go_wp2_with fail
      refine KP.out.mono ?_
      rintro e w2 ⟨a2, n2, c2, M2, rfl, s2, m2, b2⟩
      have P2 : Hid (NewSt w2 wr.heap.size a2 n2 c2 M2 ∧ M2.map co = packsC xM ∧ Below wr.heap.size wr w2) := ⟨s2, m2, b2⟩
      clear s2 m2 b2 KP
      have O2 : Hid (OwnSk w2 z u3 S) := RW.out.1.keep P2.out.2.2
      have O3 : Hid (OwnSk (w2.alloc (.cells #[.slice a2 n2 c2] 34)) z u3 S) := O2.out.keep (below1 w2 _)
      have B2 : Hid (Below z w w2) := RW.out.2.2.2.2.trans (P2.out.2.2.mono (by rw [HZ.out]; exact RW.out.2.2.2.2.size))
      have LN : Hid (S.length ≤ 100000000 ∧ z ≤ (w2.alloc (.cells #[.slice a2 n2 c2] 34)).heap.size) := ⟨by have := RW.out.2.1; omega, by have := B2.out.size; have := HZ.out; simp; omega⟩
      go_wp2_with (at_builtin; refine append_sk rfl (.tmp 15) (.tmp 21) rfl z _ S rfl O3.out w2.heap.size 1 ⟨a2, n2, c2, M2⟩ rfl (heap_alloc_new w2 _) LN.out.1 LN.out.2 ?_; intro v8 u8 o8 g8; have F8 : Hid (OwnSk u8 z v8 (S ++ [⟨a2, n2, c2, M2⟩]) ∧ (w2.alloc (.cells #[.slice a2 n2 c2] 34)).grownBy u8 u3.ownBlock) := ⟨o8, g8⟩; clear o8 g8)
      go_roundg (n - (j + 1))
      case measure => omega
      case rel =>
        refine ⟨j + 1, S ++ [⟨a2, n2, c2, M2⟩], by omega, by omega, rfl, rfl, F8.out.1, by rw [List.length_append, RW.out.2.1]; rfl, ?_, ?_, ?_⟩
        · intro x hx
          rcases List.mem_append.1 hx with hx | hx
          · exact newSk_app O3.out F8.out.2 (((RW.out.2.2.1 x hx).keep P2.out.2.2).keep (below1 w2 _))
          · rw [List.mem_singleton] at hx
            subst hx
            exact newSk_app O3.out F8.out.2 ((NewSt.base P2.out.1 (by have := RW.out.2.2.2.2.size; rw [HZ.out]; exact this)).keep (below1 w2 _))
        · rw [List.map_append, RW.out.2.2.2.1, List.take_add_one, List.map_append, HX.out]
          simp [Sk.co, P2.out.2.1]
        · exact (B2.out.alloc (by have := B2.out.size; have := HZ.out; omega) _).grown F8.out.2 LN.out.2 (fun k hk => (O3.out.own k hk).1)
    · by_cases hh : j < n
      · have j1 : decide ((j : Int) < (n : Int)) = true := by rw [decide_eq_true_eq]; omega
        have j2 : decide ((j : Int) < (9 : Int)) = false := by rw [decide_eq_false_iff_not]; omega
        have j4 : decide (j < 9) = false := by rw [decide_eq_false_iff_not]; omega
        have hml : S.length = min L.length 9 := by rw [RW.out.2.1, HLN.out]; omega
        have HF : Hid (∃ a' n' c', u3 = .slice a' n' c' ∧ S.length = n' ∧ n' ≤ 9 ∧ n' ≤ c' ∧ OwnSk wr z (.slice a' n' c') S ∧ InSk wr a' S ∧ S.map Sk.co = stacksC L) := by
          obtain ⟨a', c', hv, h1, h2, _⟩ := RW.out.1.slice (fun x hx => (RW.out.2.2.1 x hx).ok)
          refine ⟨a', _, c', hv, rfl, by omega, h2, by rw [← hv]; exact RW.out.1, h1, ?_⟩
          rw [RW.out.2.2.2.1]
          unfold stacksC
          have : L.take j = L.take 9 := by
            have := RW.out.2.1
            rcases Nat.lt_or_ge L.length 9 with h | h
            · rw [List.take_of_length_le (by omega), List.take_of_length_le (by omega)]
            · rw [show j = 9 by omega]
          rw [this]
        have HN : Hid ((∀ x ∈ S, NewSk wr z x) ∧ Below z w wr) := ⟨RW.out.2.2.1, RW.out.2.2.2.2⟩
        clear hml
        go_wp2_with fail
        go_ret
        obtain ⟨a', n', c', hv, h1, h2, h3, h4, h5, h6⟩ := HF.out
        exact ⟨a', n', c', S, congrArg Ending.returned hv, h1, h2, h3, h4, h5, HN.out.1, h6, HN.out.2⟩
      · have j1 : decide ((j : Int) < (n : Int)) = false := by rw [decide_eq_false_iff_not]; omega
        have j3 : decide (j < n) = false := by rw [decide_eq_false_iff_not]; omega
        have hml : S.length = min L.length 9 := by rw [RW.out.2.1, HLN.out]; omega
        have HF : Hid (∃ a' n' c', u3 = .slice a' n' c' ∧ S.length = n' ∧ n' ≤ 9 ∧ n' ≤ c' ∧ OwnSk wr z (.slice a' n' c') S ∧ InSk wr a' S ∧ S.map Sk.co = stacksC L) := by
          obtain ⟨a', c', hv, h1, h2, _⟩ := RW.out.1.slice (fun x hx => (RW.out.2.2.1 x hx).ok)
          refine ⟨a', _, c', hv, rfl, by omega, h2, by rw [← hv]; exact RW.out.1, h1, ?_⟩
          rw [RW.out.2.2.2.1]
          unfold stacksC
          have : L.take j = L.take 9 := by
            have := RW.out.2.1
            rcases Nat.lt_or_ge L.length 9 with h | h
            · rw [List.take_of_length_le (by omega), List.take_of_length_le (by omega)]
            · rw [show j = 9 by omega]
          rw [this]
        have HN : Hid ((∀ x ∈ S, NewSk wr z x) ∧ Below z w wr) := ⟨RW.out.2.2.1, RW.out.2.2.2.2⟩
        clear hml
        go_wp2_with fail
        go_ret
        obtain ⟨a', n', c', hv, h1, h2, h3, h4, h5, h6⟩ := HF.out
        exact ⟨a', n', c', S, congrArg Ending.returned hv, h1, h2, h3, h4, h5, HN.out.1, h6, HN.out.2⟩
/-- the document's SameStacks of stacks that are alike -/
theorem rsamest_true (w : World) (a1 a2 : Option Addr) (n c1 c2 : Nat) (S1 S2 : List Sk) (h1 : S1.length = n) (i1 : InSk w a1 S1) (i2 : InSk w a2 S2) (hk : S1.map Sk.co = S2.map Sk.co) (hN : n ≤ 1000000) :
    Calls Tryd.prog 13 #[.slice a1 n c1, .slice a2 n c2] w fun e w' => e = .returned (.bool true) ∧ Below w.heap.size w w' := by
  have HL : Hid (InSk w a1 S1 ∧ InSk w a2 S2 ∧ S1.map Sk.co = S2.map Sk.co ∧ S1.length = n) := ⟨i1, i2, hk, h1⟩
  clear h1 i1 i2 hk
  go_enter Tryd.func13, Tryd.ntmps13
  go_wp2_with fail
  go_loopg [5] n (fun g i wr => ∃ j : Nat, j ≤ n ∧ g = n - j ∧ i = .int .i64 (j : Int) ∧ Hid (Below w.heap.size w wr))
  case atStart => exact ⟨0, Nat.zero_le _, rfl, rfl, Below.refl _ _⟩
  obtain ⟨j, hj, rfl, rfl, RW⟩ := hrel
  by_cases hlt : j < n
  · have j1 : decide ((j : Int) < (n : Int)) = true := by rw [decide_eq_true_eq]; omega
    have j2 : (j : Int) < (n : Int) := by omega
    obtain ⟨x, hx⟩ : ∃ x, S1[j]? = some x := ⟨S1[j]'(by rw [HL.out.2.2.2]; exact hlt), by simp [HL.out.2.2.2, hlt]⟩
    have hl2 : S2.length = n := by rw [← HL.out.2.2.2, ← List.length_map (f := Sk.co), ← HL.out.2.2.1, List.length_map]
    obtain ⟨y, hy⟩ : ∃ y, S2[j]? = some y := ⟨S2[j]'(by rw [hl2]; exact hlt), by simp [hl2, hlt]⟩
    obtain ⟨b1, o1, rfl, hb1, p1, k1⟩ := (HL.out.1.keep RW.out).at hx
    obtain ⟨b2, o2, rfl, hb2, p2, k2⟩ := (HL.out.2.1.keep RW.out).at hy
    have hc : x.M.map co = y.M.map co := by
      have h := congrArg (fun l => l[j]?) HL.out.2.2.1
      simp only [List.getElem?_map, hx, hy, Option.map_some, Option.some.injEq] at h
      exact h
    have hn : y.n = x.n := by rw [← k1.len, ← k2.len, ← List.length_map (f := co), ← hc, List.length_map]
    have KX : Hid (∀ W, Below wr.heap.size wr W → W.cell? ⟨b1, o1 + j, none⟩ = some (.slice x.a x.n x.c)) := fun W hW => by have := p1 W hW 0 _ rfl; simpa using this
    have KY : Hid (∀ W, Below wr.heap.size wr W → W.cell? ⟨b2, o2 + j, none⟩ = some (.slice y.a x.n y.c)) := fun W hW => by have := p2 W hW 0 _ rfl; rw [← hn]; simpa using this
    have KS : Hid (∀ W, Below wr.heap.size wr W → Calls Tryd.prog 29 #[.slice x.a x.n x.c, .slice y.a x.n y.c] W fun e w' => e = .returned (.bool true) ∧ Below W.heap.size W w') := fun W hW =>
      rpsame_true W x.a y.a x.n x.c y.c x.M y.M k1.len (k1.keep hW).inp (k2.keep hW).inp (alike_co hc) (by have := k1.big; omega)
    have ri : IntKind.i64.wrap ((j : Int) + 1) = (j : Int) + 1 := by rw [IntKind.wrap_i64]; omega
    clear hx hy p1 p2 k1 k2 hc hn hb1 hb2 hl2
    go_wp2_with fail
    refine wp_region_noPanic ?_
    refine wp_region_held_drew (S := (fun u : World => Below wr.heap.size wr u)) (by kernel_rfl) ?hSap (fun hHeld => ?restap)
    case hSap => exact (Below.refl _ _).drew
    case restap =>
    refine wpAnyH_take (i := 0) (v := .slice (some ⟨b1, o1, none⟩) n c1) rfl (by kernel_rfl) (by kernel_rfl) (by kernel_rfl) (fun _ _ _ h => h) (Or.inl ⟨by kernel_rfl, ?hy0p⟩) hHeld ?rest0p
    case hy0p => (intro w' hSw; go_simp; try with_reducible rfl)
    try simp only [Act.put, List.setIfInBounds_toArray, List.set_cons_zero, List.set_cons_succ, List.getElem_toArray, List.getElem_cons_zero, List.getElem_cons_succ]
    refine wpAnyH_take (i := 1) (v := .int .i64 (j : Int)) rfl (by kernel_rfl) (by kernel_rfl) (by kernel_rfl) (fun _ _ _ h => h) (Or.inl ⟨by kernel_rfl, ?hy1p⟩) hHeld ?rest1p
    case hy1p => (intro w' hSw; go_simp; try with_reducible rfl)
    try simp only [Act.put, List.setIfInBounds_toArray, List.set_cons_zero, List.set_cons_succ, List.getElem_toArray, List.getElem_cons_zero, List.getElem_cons_succ]
    refine wpAnyH_take (i := 2) (v := .pointer (some ⟨b1, o1 + j, none⟩)) rfl (by kernel_rfl) (by kernel_rfl) (by kernel_rfl) (fun _ _ _ h => h) (Or.inl ⟨by kernel_rfl, ?hy2p⟩) hHeld ?rest2p
    case hy2p => (intro w' hSw; go_simp; try with_reducible rfl)
    try simp only [Act.put, List.setIfInBounds_toArray, List.set_cons_zero, List.set_cons_succ, List.getElem_toArray, List.getElem_cons_zero, List.getElem_cons_succ]
    refine wpAnyH_take (i := 3) (v := .slice x.a x.n x.c) rfl (by kernel_rfl) (by kernel_rfl) (by kernel_rfl) (fun _ _ _ h => h) (Or.inl ⟨by kernel_rfl, ?hy3p⟩) hHeld ?rest3p
    case hy3p => (intro w' hSw; have s0 := KX.out _ hSw; go_simp; try with_reducible rfl)
    try simp only [Act.put, List.setIfInBounds_toArray, List.set_cons_zero, List.set_cons_succ, List.getElem_toArray, List.getElem_cons_zero, List.getElem_cons_succ]
    refine wpAnyH_take (i := 4) (v := .slice (some ⟨b2, o2, none⟩) n c2) rfl (by kernel_rfl) (by kernel_rfl) (by kernel_rfl) (fun _ _ _ h => h) (Or.inl ⟨by kernel_rfl, ?hy4p⟩) hHeld ?rest4p
    case hy4p => (intro w' hSw; go_simp; try with_reducible rfl)
    try simp only [Act.put, List.setIfInBounds_toArray, List.set_cons_zero, List.set_cons_succ, List.getElem_toArray, List.getElem_cons_zero, List.getElem_cons_succ]
    refine wpAnyH_take (i := 5) (v := .int .i64 (j : Int)) rfl (by kernel_rfl) (by kernel_rfl) (by kernel_rfl) (fun _ _ _ h => h) (Or.inl ⟨by kernel_rfl, ?hy5p⟩) hHeld ?rest5p
    case hy5p => (intro w' hSw; go_simp; try with_reducible rfl)
    try simp only [Act.put, List.setIfInBounds_toArray, List.set_cons_zero, List.set_cons_succ, List.getElem_toArray, List.getElem_cons_zero, List.getElem_cons_succ]
    refine wpAnyH_take (i := 6) (v := .pointer (some ⟨b2, o2 + j, none⟩)) rfl (by kernel_rfl) (by kernel_rfl) (by kernel_rfl) (fun _ _ _ h => h) (Or.inl ⟨by kernel_rfl, ?hy6p⟩) hHeld ?rest6p
    case hy6p => (intro w' hSw; go_simp; try with_reducible rfl)
    try simp only [Act.put, List.setIfInBounds_toArray, List.set_cons_zero, List.set_cons_succ, List.getElem_toArray, List.getElem_cons_zero, List.getElem_cons_succ]
    refine wpAnyH_take (i := 7) (v := .slice y.a x.n y.c) rfl (by kernel_rfl) (by kernel_rfl) (by kernel_rfl) (fun _ _ _ h => h) (Or.inl ⟨by kernel_rfl, ?hy7p⟩) hHeld ?rest7p
    case hy7p => (intro w' hSw; have s0 := KY.out _ hSw; go_simp; try with_reducible rfl)
    try simp only [Act.put, List.setIfInBounds_toArray, List.set_cons_zero, List.set_cons_succ, List.getElem_toArray, List.getElem_cons_zero, List.getElem_cons_succ]
    refine wpAnyH_ready (rs := [8]) (by kernel_rfl) (by simp) ?_
    refine AllReadyH.cons rfl (fun K hK => ?_) AllReadyH.nil
    go_simp; refine (KS.out _ hHeld).mono ?_; rintro e w8 ⟨rfl, b8⟩; have B8 : Hid (Below wr.heap.size wr w8) := (hHeld : Below _ _ _).trans (b8.mono (hHeld : Below _ _ _).size); clear b8; go_wp2_with fail
    refine hK.out _ _ ?hS8p (fun hHeld => ?rest8p)
    case hS8p => exact B8.out
    clear hK K
    try simp only [Act.put, List.setIfInBounds_toArray, List.set_cons_zero, List.set_cons_succ, List.getElem_toArray, List.getElem_cons_zero, List.getElem_cons_succ]
    refine wpAnyH_take (i := 9) (v := .bool false) rfl (by kernel_rfl) (by kernel_rfl) (by kernel_rfl) (fun _ _ _ h => h) (Or.inl ⟨by kernel_rfl, ?hy9p⟩) hHeld ?rest9p
    case hy9p => (intro w' hSw; go_simp; try with_reducible rfl)
    try simp only [Act.put, List.setIfInBounds_toArray, List.set_cons_zero, List.set_cons_succ, List.getElem_toArray, List.getElem_cons_zero, List.getElem_cons_succ]
    refine wpAnyH_done (by kernel_rfl) ?_ _
    refine NoPanic.normal ?_
    go_wp2_with fail
    go_roundg (n - (j + 1))
    case measure => omega
    case rel => exact ⟨j + 1, by omega, rfl, by push_cast; rfl, RW.out.trans (B8.out.mono RW.out.size)⟩
  · have j1 : decide ((j : Int) < (n : Int)) = false := by rw [decide_eq_false_iff_not]; omega
    go_wp2_with fail
    go_ret
    exact ⟨rfl, RW.out⟩
/-- the document's Same of plans that are alike -/
theorem rsamepl_true (w : World) (a1 a2 : Option Addr) (n c1 c2 : Nat) (S1 S2 : List Pv) (h1 : S1.length = n) (i1 : InPv w a1 S1) (i2 : InPv w a2 S2) (hk : S1.map (fun x => (x.r, x.co)) = S2.map (fun x => (x.r, x.co))) (hN : n ≤ 1000000) :
    Calls Tryd.prog 11 #[.slice a1 n c1, .slice a2 n c2] w fun e w' => e = .returned (.bool true) ∧ Below w.heap.size w w' := by
  have HL : Hid (InPv w a1 S1 ∧ InPv w a2 S2 ∧ S1.map (fun x => (x.r, x.co)) = S2.map (fun x => (x.r, x.co)) ∧ S1.length = n) := ⟨i1, i2, hk, h1⟩
  clear h1 i1 i2 hk
  go_enter Tryd.func11, Tryd.ntmps11
  go_wp2_with fail
  go_loopg [5] n (fun g i wr => ∃ j : Nat, j ≤ n ∧ g = n - j ∧ i = .int .i64 (j : Int) ∧ Hid (Below w.heap.size w wr))
  case atStart => exact ⟨0, Nat.zero_le _, rfl, rfl, Below.refl _ _⟩
  obtain ⟨j, hj, rfl, rfl, RW⟩ := hrel
  by_cases hlt : j < n
  · have j1 : decide ((j : Int) < (n : Int)) = true := by rw [decide_eq_true_eq]; omega
    have j2 : (j : Int) < (n : Int) := by omega
    obtain ⟨x, hx⟩ : ∃ x, S1[j]? = some x := ⟨S1[j]'(by rw [HL.out.2.2.2]; exact hlt), by simp [HL.out.2.2.2, hlt]⟩
    have hl2 : S2.length = n := by rw [← HL.out.2.2.2, ← List.length_map (f := fun x : Pv => (x.r, x.co)), ← HL.out.2.2.1, List.length_map]
    obtain ⟨y, hy⟩ : ∃ y, S2[j]? = some y := ⟨S2[j]'(by rw [hl2]; exact hlt), by simp [hl2, hlt]⟩
    obtain ⟨b1, o1, rfl, hb1, p1, k1⟩ := (HL.out.1.keep RW.out).at hx
    obtain ⟨b2, o2, rfl, hb2, p2, k2⟩ := (HL.out.2.1.keep RW.out).at hy
    obtain ⟨hr, hc⟩ : x.r = y.r ∧ x.M.map co = y.M.map co := by
      have h := congrArg (fun l => l[j]?) HL.out.2.2.1
      simp only [List.getElem?_map, hx, hy, Option.map_some, Option.some.injEq, Prod.mk.injEq] at h
      exact h
    have hn : y.n = x.n := by rw [← k1.len, ← k2.len, ← List.length_map (f := co), ← hc, List.length_map]
    have KX : Hid (∀ W, Below wr.heap.size wr W → W.cell? ⟨b1, o1 + j * 2, none⟩ = some (.int .i64 x.r) ∧ W.cell? ⟨b1, o1 + j * 2 + 1, none⟩ = some (.slice x.a x.n x.c)) := fun W hW => ⟨by have := p1 W hW 0 _ rfl; simpa using this, p1 W hW 1 _ rfl⟩
    have KY : Hid (∀ W, Below wr.heap.size wr W → W.cell? ⟨b2, o2 + j * 2, none⟩ = some (.int .i64 y.r) ∧ W.cell? ⟨b2, o2 + j * 2 + 1, none⟩ = some (.slice y.a x.n y.c)) := fun W hW => ⟨by have := p2 W hW 0 _ rfl; simpa using this, by rw [← hn]; exact p2 W hW 1 _ rfl⟩
    have KS : Hid (∀ W, Below wr.heap.size wr W → Calls Tryd.prog 29 #[.slice x.a x.n x.c, .slice y.a x.n y.c] W fun e w' => e = .returned (.bool true) ∧ Below W.heap.size W w') := fun W hW =>
      rpsame_true W x.a y.a x.n x.c y.c x.M y.M k1.len (k1.keep hW).inp (k2.keep hW).inp (alike_co hc) (by have := k1.big; omega)
    have e0 : (x.r != y.r) = false := by rw [hr]; simp
    have ri : IntKind.i64.wrap ((j : Int) + 1) = (j : Int) + 1 := by rw [IntKind.wrap_i64]; omega
    clear hx hy p1 p2 k1 k2 hc hn hb1 hb2 hl2 hr
    go_wp2_with fail
    refine wp_region_noPanic ?_
    refine wp_region_held_drew (S := (fun u : World => Below wr.heap.size wr u)) (by kernel_rfl) ?hSaq (fun hHeld => ?restaq)
    case hSaq => exact (Below.refl _ _).drew
    case restaq =>
    refine wpAnyH_take (i := 0) (v := .slice (some ⟨b1, o1, none⟩) n c1) rfl (by kernel_rfl) (by kernel_rfl) (by kernel_rfl) (fun _ _ _ h => h) (Or.inl ⟨by kernel_rfl, ?hy0q⟩) hHeld ?rest0q
    case hy0q => (intro w' hSw; go_simp; try with_reducible rfl)
    try simp only [Act.put, List.setIfInBounds_toArray, List.set_cons_zero, List.set_cons_succ, List.getElem_toArray, List.getElem_cons_zero, List.getElem_cons_succ]
    refine wpAnyH_take (i := 1) (v := .int .i64 (j : Int)) rfl (by kernel_rfl) (by kernel_rfl) (by kernel_rfl) (fun _ _ _ h => h) (Or.inl ⟨by kernel_rfl, ?hy1q⟩) hHeld ?rest1q
    case hy1q => (intro w' hSw; go_simp; try with_reducible rfl)
    try simp only [Act.put, List.setIfInBounds_toArray, List.set_cons_zero, List.set_cons_succ, List.getElem_toArray, List.getElem_cons_zero, List.getElem_cons_succ]
    refine wpAnyH_take (i := 2) (v := .pointer (some ⟨b1, o1 + j * 2, none⟩)) rfl (by kernel_rfl) (by kernel_rfl) (by kernel_rfl) (fun _ _ _ h => h) (Or.inl ⟨by kernel_rfl, ?hy2q⟩) hHeld ?rest2q
    case hy2q => (intro w' hSw; go_simp; try with_reducible rfl)
    try simp only [Act.put, List.setIfInBounds_toArray, List.set_cons_zero, List.set_cons_succ, List.getElem_toArray, List.getElem_cons_zero, List.getElem_cons_succ]
    refine wpAnyH_take (i := 3) (v := .pointer (some ⟨b1, o1 + j * 2, none⟩)) rfl (by kernel_rfl) (by kernel_rfl) (by kernel_rfl) (fun _ _ _ h => h) (Or.inl ⟨by kernel_rfl, ?hy3q⟩) hHeld ?rest3q
    case hy3q => (intro w' hSw; go_simp; try with_reducible rfl)
    try simp only [Act.put, List.setIfInBounds_toArray, List.set_cons_zero, List.set_cons_succ, List.getElem_toArray, List.getElem_cons_zero, List.getElem_cons_succ]
    refine wpAnyH_take (i := 4) (v := .int .i64 x.r) rfl (by kernel_rfl) (by kernel_rfl) (by kernel_rfl) (fun _ _ _ h => h) (Or.inl ⟨by kernel_rfl, ?hy4q⟩) hHeld ?rest4q
    case hy4q => (intro w' hSw; obtain ⟨s0, s1⟩ := KX.out _ hSw; go_simp; try with_reducible rfl)
    try simp only [Act.put, List.setIfInBounds_toArray, List.set_cons_zero, List.set_cons_succ, List.getElem_toArray, List.getElem_cons_zero, List.getElem_cons_succ]
    refine wpAnyH_take (i := 5) (v := .slice (some ⟨b2, o2, none⟩) n c2) rfl (by kernel_rfl) (by kernel_rfl) (by kernel_rfl) (fun _ _ _ h => h) (Or.inl ⟨by kernel_rfl, ?hy5q⟩) hHeld ?rest5q
    case hy5q => (intro w' hSw; go_simp; try with_reducible rfl)
    try simp only [Act.put, List.setIfInBounds_toArray, List.set_cons_zero, List.set_cons_succ, List.getElem_toArray, List.getElem_cons_zero, List.getElem_cons_succ]
    refine wpAnyH_take (i := 6) (v := .int .i64 (j : Int)) rfl (by kernel_rfl) (by kernel_rfl) (by kernel_rfl) (fun _ _ _ h => h) (Or.inl ⟨by kernel_rfl, ?hy6q⟩) hHeld ?rest6q
    case hy6q => (intro w' hSw; go_simp; try with_reducible rfl)
    try simp only [Act.put, List.setIfInBounds_toArray, List.set_cons_zero, List.set_cons_succ, List.getElem_toArray, List.getElem_cons_zero, List.getElem_cons_succ]
    refine wpAnyH_take (i := 7) (v := .pointer (some ⟨b2, o2 + j * 2, none⟩)) rfl (by kernel_rfl) (by kernel_rfl) (by kernel_rfl) (fun _ _ _ h => h) (Or.inl ⟨by kernel_rfl, ?hy7q⟩) hHeld ?rest7q
    case hy7q => (intro w' hSw; go_simp; try with_reducible rfl)
    try simp only [Act.put, List.setIfInBounds_toArray, List.set_cons_zero, List.set_cons_succ, List.getElem_toArray, List.getElem_cons_zero, List.getElem_cons_succ]
    refine wpAnyH_take (i := 8) (v := .pointer (some ⟨b2, o2 + j * 2, none⟩)) rfl (by kernel_rfl) (by kernel_rfl) (by kernel_rfl) (fun _ _ _ h => h) (Or.inl ⟨by kernel_rfl, ?hy8q⟩) hHeld ?rest8q
    case hy8q => (intro w' hSw; go_simp; try with_reducible rfl)
    try simp only [Act.put, List.setIfInBounds_toArray, List.set_cons_zero, List.set_cons_succ, List.getElem_toArray, List.getElem_cons_zero, List.getElem_cons_succ]
    refine wpAnyH_take (i := 9) (v := .int .i64 y.r) rfl (by kernel_rfl) (by kernel_rfl) (by kernel_rfl) (fun _ _ _ h => h) (Or.inl ⟨by kernel_rfl, ?hy9q⟩) hHeld ?rest9q
    case hy9q => (intro w' hSw; obtain ⟨s0, s1⟩ := KY.out _ hSw; go_simp; try with_reducible rfl)
    try simp only [Act.put, List.setIfInBounds_toArray, List.set_cons_zero, List.set_cons_succ, List.getElem_toArray, List.getElem_cons_zero, List.getElem_cons_succ]
    refine wpAnyH_take (i := 10) (v := .bool false) rfl (by kernel_rfl) (by kernel_rfl) (by kernel_rfl) (fun _ _ _ h => h) (Or.inl ⟨by kernel_rfl, ?hy10q⟩) hHeld ?rest10q
    case hy10q => (intro w' hSw; go_simp; try with_reducible rfl)
    try simp only [Act.put, List.setIfInBounds_toArray, List.set_cons_zero, List.set_cons_succ, List.getElem_toArray, List.getElem_cons_zero, List.getElem_cons_succ]
    refine wpAnyH_take (i := 11) (v := .bool false) rfl (by kernel_rfl) (by kernel_rfl) (by kernel_rfl) (fun _ _ _ h => h) (Or.inl ⟨by kernel_rfl, ?hy11q⟩) hHeld ?rest11q
    case hy11q => (intro w' hSw; go_simp; try with_reducible rfl)
    try simp only [Act.put, List.setIfInBounds_toArray, List.set_cons_zero, List.set_cons_succ, List.getElem_toArray, List.getElem_cons_zero, List.getElem_cons_succ]
    refine wpAnyH_take (i := 12) (v := .slice (some ⟨b1, o1, none⟩) n c1) rfl (by kernel_rfl) (by kernel_rfl) (by kernel_rfl) (fun _ _ _ h => h) (Or.inl ⟨by kernel_rfl, ?hy12q⟩) hHeld ?rest12q
    case hy12q => (intro w' hSw; go_simp; try with_reducible rfl)
    try simp only [Act.put, List.setIfInBounds_toArray, List.set_cons_zero, List.set_cons_succ, List.getElem_toArray, List.getElem_cons_zero, List.getElem_cons_succ]
    refine wpAnyH_take (i := 13) (v := .int .i64 (j : Int)) rfl (by kernel_rfl) (by kernel_rfl) (by kernel_rfl) (fun _ _ _ h => h) (Or.inl ⟨by kernel_rfl, ?hy13q⟩) hHeld ?rest13q
    case hy13q => (intro w' hSw; go_simp; try with_reducible rfl)
    try simp only [Act.put, List.setIfInBounds_toArray, List.set_cons_zero, List.set_cons_succ, List.getElem_toArray, List.getElem_cons_zero, List.getElem_cons_succ]
    refine wpAnyH_take (i := 14) (v := .pointer (some ⟨b1, o1 + j * 2, none⟩)) rfl (by kernel_rfl) (by kernel_rfl) (by kernel_rfl) (fun _ _ _ h => h) (Or.inl ⟨by kernel_rfl, ?hy14q⟩) hHeld ?rest14q
    case hy14q => (intro w' hSw; go_simp; try with_reducible rfl)
    try simp only [Act.put, List.setIfInBounds_toArray, List.set_cons_zero, List.set_cons_succ, List.getElem_toArray, List.getElem_cons_zero, List.getElem_cons_succ]
    refine wpAnyH_take (i := 15) (v := .pointer (some ⟨b1, o1 + j * 2 + 1, none⟩)) rfl (by kernel_rfl) (by kernel_rfl) (by kernel_rfl) (fun _ _ _ h => h) (Or.inl ⟨by kernel_rfl, ?hy15q⟩) hHeld ?rest15q
    case hy15q => (intro w' hSw; go_simp; try with_reducible rfl)
    try simp only [Act.put, List.setIfInBounds_toArray, List.set_cons_zero, List.set_cons_succ, List.getElem_toArray, List.getElem_cons_zero, List.getElem_cons_succ]
    refine wpAnyH_take (i := 16) (v := .slice x.a x.n x.c) rfl (by kernel_rfl) (by kernel_rfl) (by kernel_rfl) (fun _ _ _ h => h) (Or.inl ⟨by kernel_rfl, ?hy16q⟩) hHeld ?rest16q
    case hy16q => (intro w' hSw; obtain ⟨s0, s1⟩ := KX.out _ hSw; go_simp; try with_reducible rfl)
    try simp only [Act.put, List.setIfInBounds_toArray, List.set_cons_zero, List.set_cons_succ, List.getElem_toArray, List.getElem_cons_zero, List.getElem_cons_succ]
    refine wpAnyH_take (i := 17) (v := .slice (some ⟨b2, o2, none⟩) n c2) rfl (by kernel_rfl) (by kernel_rfl) (by kernel_rfl) (fun _ _ _ h => h) (Or.inl ⟨by kernel_rfl, ?hy17q⟩) hHeld ?rest17q
    case hy17q => (intro w' hSw; go_simp; try with_reducible rfl)
    try simp only [Act.put, List.setIfInBounds_toArray, List.set_cons_zero, List.set_cons_succ, List.getElem_toArray, List.getElem_cons_zero, List.getElem_cons_succ]
    refine wpAnyH_take (i := 18) (v := .int .i64 (j : Int)) rfl (by kernel_rfl) (by kernel_rfl) (by kernel_rfl) (fun _ _ _ h => h) (Or.inl ⟨by kernel_rfl, ?hy18q⟩) hHeld ?rest18q
    case hy18q => (intro w' hSw; go_simp; try with_reducible rfl)
    try simp only [Act.put, List.setIfInBounds_toArray, List.set_cons_zero, List.set_cons_succ, List.getElem_toArray, List.getElem_cons_zero, List.getElem_cons_succ]
    refine wpAnyH_take (i := 19) (v := .pointer (some ⟨b2, o2 + j * 2, none⟩)) rfl (by kernel_rfl) (by kernel_rfl) (by kernel_rfl) (fun _ _ _ h => h) (Or.inl ⟨by kernel_rfl, ?hy19q⟩) hHeld ?rest19q
    case hy19q => (intro w' hSw; go_simp; try with_reducible rfl)
    try simp only [Act.put, List.setIfInBounds_toArray, List.set_cons_zero, List.set_cons_succ, List.getElem_toArray, List.getElem_cons_zero, List.getElem_cons_succ]
    refine wpAnyH_take (i := 20) (v := .pointer (some ⟨b2, o2 + j * 2 + 1, none⟩)) rfl (by kernel_rfl) (by kernel_rfl) (by kernel_rfl) (fun _ _ _ h => h) (Or.inl ⟨by kernel_rfl, ?hy20q⟩) hHeld ?rest20q
    case hy20q => (intro w' hSw; go_simp; try with_reducible rfl)
    try simp only [Act.put, List.setIfInBounds_toArray, List.set_cons_zero, List.set_cons_succ, List.getElem_toArray, List.getElem_cons_zero, List.getElem_cons_succ]
    refine wpAnyH_take (i := 21) (v := .slice y.a x.n y.c) rfl (by kernel_rfl) (by kernel_rfl) (by kernel_rfl) (fun _ _ _ h => h) (Or.inl ⟨by kernel_rfl, ?hy21q⟩) hHeld ?rest21q
    case hy21q => (intro w' hSw; obtain ⟨s0, s1⟩ := KY.out _ hSw; go_simp; try with_reducible rfl)
    try simp only [Act.put, List.setIfInBounds_toArray, List.set_cons_zero, List.set_cons_succ, List.getElem_toArray, List.getElem_cons_zero, List.getElem_cons_succ]
    refine wpAnyH_ready (rs := [22]) (by kernel_rfl) (by simp) ?_
    refine AllReadyH.cons rfl (fun K hK => ?_) AllReadyH.nil
    go_simp; refine (KS.out _ hHeld).mono ?_; rintro e w8 ⟨rfl, b8⟩; have B8 : Hid (Below wr.heap.size wr w8) := (hHeld : Below _ _ _).trans (b8.mono (hHeld : Below _ _ _).size); clear b8; go_wp2_with fail
    refine hK.out _ _ ?hS22q (fun hHeld => ?rest22q)
    case hS22q => exact B8.out
    clear hK K
    try simp only [Act.put, List.setIfInBounds_toArray, List.set_cons_zero, List.set_cons_succ, List.getElem_toArray, List.getElem_cons_zero, List.getElem_cons_succ]
    refine wpAnyH_take (i := 23) (v := .bool false) rfl (by kernel_rfl) (by kernel_rfl) (by kernel_rfl) (fun _ _ _ h => h) (Or.inl ⟨by kernel_rfl, ?hy23q⟩) hHeld ?rest23q
    case hy23q => (intro w' hSw; go_simp; try with_reducible rfl)
    try simp only [Act.put, List.setIfInBounds_toArray, List.set_cons_zero, List.set_cons_succ, List.getElem_toArray, List.getElem_cons_zero, List.getElem_cons_succ]
    refine wpAnyH_take (i := 24) (v := .bool false) rfl (by kernel_rfl) (by kernel_rfl) (by kernel_rfl) (fun _ _ _ h => h) (Or.inl ⟨by kernel_rfl, ?hy24q⟩) hHeld ?rest24q
    case hy24q => (intro w' hSw; go_simp; try with_reducible rfl)
    try simp only [Act.put, List.setIfInBounds_toArray, List.set_cons_zero, List.set_cons_succ, List.getElem_toArray, List.getElem_cons_zero, List.getElem_cons_succ]
    refine wpAnyH_done (by kernel_rfl) ?_ _
    refine NoPanic.normal ?_
    go_wp2_with fail
    go_roundg (n - (j + 1))
    case measure => omega
    case rel => exact ⟨j + 1, by omega, rfl, by push_cast; rfl, RW.out.trans (B8.out.mono RW.out.size)⟩
  · have j1 : decide ((j : Int) < (n : Int)) = false := by rw [decide_eq_false_iff_not]; omega
    go_wp2_with fail
    go_ret
    exact ⟨rfl, RW.out⟩
end Go.Proofs.YthghoekkdpchnaaDoor
namespace Go.Proofs.YthghoekkdpchnaaDoor
open Go.ChangeShapes Go.WideShapes Go.ChangeAt Go.RowKit Go.Deep Go.Maps
set_option linter.unusedVariables false
set_option linter.unusedSimpArgs false
/-- what Put makes of stacks and plans -/
def put1 (T : List (List Pc)) (p : Int × List Pc) : List (List Pc) := if 1 ≤ p.1 ∧ p.1 ≤ 6 then T.set (p.1 - 1).toNat p.2 else T
def six (st : Int → List Pc) : List (List Pc) := [st 1, st 2, st 3, st 4, st 5, st 6]
def putC (st : Int → List Pc) (P : List (Int × List Pc)) : List (List Pc) := P.foldl put1 (six st)
theorem six_at (st : Int → List Pc) (j : Nat) (hj : j < 6) : (six st)[j]? = some (st ((j : Int) + 1)) := by
  unfold six
  rcases j with _ | _ | _ | _ | _ | _ | j <;> first | rfl | omega
/-- the array of six stacks in block g -/
def Ar (w : World) (g : Nat) (z : Nat) (T : List Sk) : Prop := T.length = 6 ∧ w.heap[g]? = some (.cells (sks T).toArray 34) ∧ ∀ x ∈ T, NewSk w z x
def emS : Sk := ⟨none, 0, 0, []⟩
theorem newSk_em (w : World) (z : Nat) : NewSk w z emS := ⟨StAt.none w, OwnPk.nil _ _, fun y hy => by cases hy⟩
theorem sks_map (l : List Sk) : sks l = l.map fun x => .slice x.a x.n x.c := by
  induction l with
  | nil => rfl
  | cons x l ih => simp only [sks, List.flatMap_cons, List.map_cons] at ih ⊢; rw [ih]; rfl
theorem newSk_set {u : World} {z g i : Nat} {cs : Array Value} {v : Value} {x : Sk} (h : NewSk u z x) (hg : u.heap[g]? = some (.cells cs 34)) : NewSk (u.setCell ⟨g, i, none⟩ v) z x :=
  NewSt.kept2 h (by simp [World.setCell]) (fun k cs' t hk ht => set_off u g i k _ (fun e => by
    subst e
    rw [hg] at hk
    simp only [Option.some.injEq, Obj.cells.injEq] at hk
    obtain ⟨_, hk, _⟩ := hk
    rcases ht with rfl | rfl <;> exact absurd hk (by decide)))
theorem ar_set {u : World} {g z i : Nat} {T : List Sk} {x : Sk} (h : Ar u g z T) (hx : NewSk u z x) (hi : i < 6) : Ar (u.setCell ⟨g, i, none⟩ (.slice x.a x.n x.c)) g z (T.set i x) := by
  refine ⟨by rw [List.length_set]; exact h.1, ?_, ?_⟩
  · rw [setCell_blk (i := i) _ h.2.1]
    rw [sks_map, sks_map, List.map_set]
    simp
  · intro y hy
    rcases List.mem_or_eq_of_mem_set hy with hy | rfl
    · exact newSk_set (h.2.2 y hy) h.2.1
    · exact newSk_set hx h.2.1
theorem ar_keep {u u' : World} {g z : Nat} {T : List Sk} (h : Ar u g z T) (hb : Below u.heap.size u u') : Ar u' g z T := ⟨h.1, (hb.block g (lt_of_heapK h.2.1)).trans h.2.1, fun x hx => (h.2.2 x hx).keep hb⟩
theorem ar_cell {u : World} {g z i : Nat} {T : List Sk} (h : Ar u g z T) (hi : i < 6) : ∃ v, u.cell? ⟨g, i, none⟩ = some v := by
  have hl : i < (sks T).length := by rw [sks_len, h.1]; omega
  exact ⟨(sks T)[i], by simp [World.cell?, h.2.1, List.getElem?_eq_getElem hl]⟩
theorem below_setG {w u : World} {z g i : Nat} {v : Value} (h : Below z w u) (hg : z ≤ g) (hz : z ≤ u.heap.size) : Below z w (u.setCell ⟨g, i, none⟩ v) :=
  h.grown (grown_setCell u g i v) hz (fun k hk => by cases hk; exact hg)
set_option maxRecDepth 100000 in
set_option maxHeartbeats 8000000 in
theorem put_is (w : World) (a : Option Addr) (n c : Nat) (S : List Sk) (hS : InSk w a S) (hn : S.length = n) (hok : ∀ x ∈ S, SkOk w x) (hN : n ≤ 1000) (pa : Option Addr) (pn pc : Nat) (P : List Pv) (hP : InPv w pa P) (hPn : P.length = pn) (hpN : pn ≤ 1000) (st : Int → List Pc) (hst : st = fun r => (stk S r).co) :
    Calls Tryd.prog 16 #[.slice a n c, .slice pa pn pc] w fun e w' => ∃ g T, e = .returned (.slice (some ⟨g, 0, none⟩) 6 6) ∧ w.heap.size ≤ g ∧ Ar w' g w.heap.size T ∧ T.map Sk.co = putC st (P.map fun x => (x.r, x.co)) ∧ Below w.heap.size w w' := by
  obtain ⟨z, hzz⟩ : ∃ z, z = w.heap.size := ⟨_, rfl⟩
  have HZ : Hid (z = w.heap.size) := hzz
  have KSt : Hid (∀ W, Below z w W → ∀ r : Int, Calls Tryd.prog 22 #[.slice a n c, .int .i64 r] W fun e w' => e = .returned (.slice (stk S r).a (stk S r).n (stk S r).c) ∧ w' = W) := fun W hW r => stackOf_is W a n c S (hS.keep (by rw [← hzz]; exact hW)) hn (by omega) r
  have KC : Hid (∀ W (x : Sk), SkOk W x → Calls Tryd.prog 31 #[.slice x.a x.n x.c] W fun e w' => ∃ a2 n2 c2 M2, e = .returned (.slice a2 n2 c2) ∧ NewSt w' W.heap.size a2 n2 c2 M2 ∧ M2.map co = x.co ∧ Below W.heap.size W w') := fun W x hx => by
    have h := copied_is W x.a x.n x.c x.M hx.len hx.inp hx.nil (fun y hy => ⟨(hx.pk y hy).1, (hx.pk y hy).2.1, by have := (hx.pk y hy).2.2; omega⟩) (by have := hx.big; omega)
    refine h.mono ?_
    rintro e w' ⟨a2, n2, c2, M2, rfl, h1, h2⟩
    obtain ⟨h3, h4⟩ := cpd_new h1 (by rw [hx.len]; exact hx.big) (fun y hy => by rw [(hx.pk y hy).1.len]; exact (hx.pk y hy).2.2) h2.size
    exact ⟨a2, n2, c2, M2, rfl, h3, h4, h2⟩
  have KO : Hid (∀ W, Below z w W → ∀ r, SkOk W (stk S r)) := fun W hW r => (stk_ok hok r).keep (by rw [← hzz]; exact hW)
  have KP : Hid (∀ W, Below z w W → InPv W pa P) := fun W hW => hP.keep (by rw [← hzz]; exact hW)
  have HPN : Hid (P.length = pn ∧ pn ≤ 1000 ∧ st = fun r => (stk S r).co) := ⟨hPn, hpN, hst⟩
  have hmk : ∀ W : World, (Instr.makeSlice 22 (.int .i64 6) (.int .i64 6)).run Tryd.prog W = .ok (.slice (some ⟨W.heap.size, 0, none⟩) 6 6) (W.alloc (.cells (sks [emS, emS, emS, emS, emS, emS]).toArray 34)) := fun W => by
    obtain ⟨i, hi, hz, hs, hb⟩ := infoSk
    have h := run_make (P := Tryd.prog) W 22 34 i _ Tryd.underlying22 hi hz .i64 .i64 6 6 (by omega) (Int.le_refl _) (by rw [hb]; omega) (by omega)
    rw [hs] at h
    rw [show (sks [emS, emS, emS, emS, emS, emS]).toArray = madeCells #[.slice none 0 0] 6 from by apply Array.ext'; simp [madeCells, sks, skl, emS, Array.toList_range, List.range_succ]]
    simpa [Value.cells] using h
  rw [← hzz]
  clear hzz hS hn hok hP hPn hpN hst
  go_enter Tryd.func16, Tryd.ntmps16
  have hmk0 := hmk w
  obtain ⟨W0, hW0⟩ : ∃ W0, W0 = w.alloc (.cells (sks [emS, emS, emS, emS, emS, emS]).toArray 34) := ⟨_, rfl⟩
  have A0 : Hid (Ar W0 z z [emS, emS, emS, emS, emS, emS] ∧ Below z w W0) := ⟨⟨rfl, by rw [hW0, HZ.out]; exact heap_alloc_new w _, fun x hx => by
    have : x = emS := by simpa using hx
    rw [this]; exact newSk_em _ _⟩, by rw [hW0, HZ.out]; exact below1 w _⟩
  rw [← hW0, ← HZ.out] at hmk0
  clear hmk hW0
  go_wp2_with fail
  go_loopg [12] 6 (fun g i wr => ∃ (j : Nat) (T : List Sk), j ≤ 6 ∧ g = 6 - j ∧ i = .int .i64 (j : Int) ∧ Hid (Ar wr z z T ∧ (∀ k, k < j → (T.map Sk.co)[k]? = (six st)[k]?) ∧ Below z w wr))
  case atStart => exact ⟨0, [emS, emS, emS, emS, emS, emS], by omega, rfl, rfl, A0.out.1, fun k hk => by omega, A0.out.2⟩
  case round =>
    obtain ⟨j, T, hj, rfl, rfl, RW⟩ := hrel
    by_cases hlt : j < 6
    · have j1 : decide ((j : Int) < 6) = true := by rw [decide_eq_true_eq]; omega
      have j3 : decide (j < 6) = true := by rw [decide_eq_true_eq]; omega
      have ri : IntKind.i64.wrap ((j : Int) + 1) = (j : Int) + 1 := by rw [IntKind.wrap_i64]; omega
      have K1 := KSt.out wr RW.out.2.2 ((j : Int) + 1)
      obtain ⟨x, hx⟩ : ∃ x, x = stk S ((j : Int) + 1) := ⟨_, rfl⟩
      have HX : Hid (x = stk S ((j : Int) + 1)) := hx
      rw [← hx] at K1
      have K2 : Hid (Calls Tryd.prog 31 #[.slice x.a x.n x.c] wr fun e w' => ∃ a2 n2 c2 M2, e = .returned (.slice a2 n2 c2) ∧ NewSt w' wr.heap.size a2 n2 c2 M2 ∧ M2.map co = x.co ∧ Below wr.heap.size wr w') := KC.out wr x (by rw [hx]; exact KO.out wr RW.out.2.2 _)
      have HK1 : Hid (Calls Tryd.prog 22 #[.slice a n c, .int .i64 ((j : Int) + 1)] wr fun e w' => e = .returned (.slice x.a x.n x.c) ∧ w' = wr) := K1
      clear hx K1
      go_upto_region 5 with fail
      obtain ⟨v0, hv0⟩ := ar_cell (i := j) RW.out.1 hlt
      have KG : Hid (∀ u, Below wr.heap.size wr u → u.cell? ⟨z, j, none⟩ = some v0) := fun u hu => (World.cell?_of_block (a := ⟨z, j, none⟩) (hu.block z (lt_of_heapK RW.out.1.2.1))).trans hv0
      clear hv0
      go_wp2_with fail
      refine HK1.out.mono ?_
      rintro e w2 ⟨rfl, hw2⟩
      rw [hw2]
      clear hw2
      go_wp2_with fail
      refine K2.out.mono ?_
      rintro e w3 ⟨a2, n2, c2, M2, rfl, s2, m2, b2⟩
      have X2 : Hid (NewSt w3 wr.heap.size a2 n2 c2 M2 ∧ M2.map co = x.co ∧ Below wr.heap.size wr w3) := ⟨s2, m2, b2⟩
      have g0 := KG.out w3 b2
      have A3 : Hid (Ar w3 z z T) := ar_keep RW.out.1 b2
      have fz := frozen_blk A3.out.2.1 j
      clear s2 m2 b2
      have j5 : (j : Int) < 6 := by omega
      go_wp2_with fail
      go_roundg (6 - (j + 1))
      case measure => omega
      case rel =>
        have hz : z ≤ w3.heap.size := by have := RW.out.2.2.size; have := X2.out.2.2.size; have := HZ.out; omega
        refine ⟨j + 1, T.set j ⟨a2, n2, c2, M2⟩, by omega, rfl, by push_cast; rfl, ar_set (x := ⟨a2, n2, c2, M2⟩) A3.out (NewSt.base X2.out.1 (by have := RW.out.2.2.size; rw [HZ.out]; exact this)) hlt, ?_, below_setG (RW.out.2.2.trans (X2.out.2.2.mono (by have := RW.out.2.2.size; rw [HZ.out]; exact this))) (Nat.le_refl _) hz⟩
        intro k hk
        rw [List.map_set, List.getElem?_set]
        by_cases e : j = k
        · subst e
          have hl : j < (T.map Sk.co).length := by rw [List.length_map, A3.out.1]; exact hlt
          rw [if_pos rfl, if_pos hl, six_at st j hlt, HPN.out.2.2]
          show some (M2.map co) = _
          rw [X2.out.2.1, HX.out]
        · rw [if_neg e]
          exact RW.out.2.1 k (by omega)
    · obtain rfl : j = 6 := by omega
      have j1 : decide ((6 : Int) < 6) = false := by decide
      have T6 : Hid (T.map Sk.co = six st) := by
        apply List.ext_getElem?
        intro k
        by_cases hk : k < 6
        · exact RW.out.2.1 k hk
        · rw [List.getElem?_eq_none (by rw [List.length_map, RW.out.1.1]; omega), List.getElem?_eq_none (by show 6 ≤ k; omega)]
      clear j1
      go_wp2_with fail
      go_loopg [26] pn (fun g i wr => ∃ (j : Nat) (T : List Sk), j ≤ pn ∧ g = pn - j ∧ i = .int .i64 (j : Int) ∧ Hid (Ar wr z z T ∧ T.map Sk.co = ((P.take j).map fun x => (x.r, x.co)).foldl put1 (six st) ∧ Below z w wr))
      case atStart => exact ⟨0, T, by omega, rfl, rfl, RW.out.1, T6.out, RW.out.2.2⟩
      case round =>
        clear RW T6
        obtain ⟨j, T, hj, rfl, rfl, RW⟩ := hrel
        by_cases hlt : j < pn
        · have j1 : decide ((j : Int) < (pn : Int)) = true := by rw [decide_eq_true_eq]; omega
          have j3 : decide (j < pn) = true := by rw [decide_eq_true_eq]; omega
          have ri : IntKind.i64.wrap ((j : Int) + 1) = (j : Int) + 1 := by rw [IntKind.wrap_i64]; have := HPN.out.2.1; omega
          obtain ⟨x, hx⟩ : ∃ x, P[j]? = some x := ⟨P[j]'(by rw [HPN.out.1]; exact hlt), List.getElem?_eq_getElem _⟩
          obtain ⟨b', off, rfl, hbw, hpc, hok⟩ := (KP.out _ RW.out.2.2).at hx
          have c0 : wr.cell? ⟨b', off + j * 2, none⟩ = some (.int .i64 x.r) := by have := hpc wr (Below.refl _ _) 0 _ rfl; simpa using this
          have c1 : wr.cell? ⟨b', off + j * 2 + 1, none⟩ = some (.slice x.a x.n x.c) := hpc wr (Below.refl _ _) 1 _ rfl
          have HX : Hid (P[j]? = some x ∧ PvOk wr x) := ⟨hx, hok⟩
          clear hx hok hpc
          obtain ⟨xr, xa, xn, xc, xM⟩ := x
          simp only at c0 c1
          go_upto_region 10 with fail
          obtain ⟨W1, hW1⟩ : ∃ W1, W1 = wr.alloc (.cells #[.int .i64 xr, .slice xa xn xc] 36) := ⟨_, rfl⟩
          obtain ⟨b, hb⟩ : ∃ b, b = wr.heap.size := ⟨_, rfl⟩
          have R1 : Hid (Ar W1 z z T ∧ T.map Sk.co = ((P.take j).map fun x => (x.r, x.co)).foldl put1 (six st) ∧ Below z w W1 ∧ SkOk W1 ⟨xa, xn, xc, xM⟩ ∧ z < b ∧ b < W1.heap.size) := by
            have b1 : Below wr.heap.size wr W1 := by rw [hW1]; exact below1 wr _
            exact ⟨ar_keep RW.out.1 b1, RW.out.2.1, RW.out.2.2.trans (b1.mono (by have := RW.out.2.2.size; rw [HZ.out]; exact this)), PvOk.keep HX.out.2 b1, by rw [hb]; exact lt_of_heapK RW.out.1.2.1, by rw [hW1, hb]; simp⟩
          have q0 : W1.cell? ⟨b, 0, none⟩ = some (.int .i64 xr) := by have hh : W1.heap[b]? = some (.cells #[.int .i64 xr, .slice xa xn xc] 36) := by { rw [hW1, hb]; exact heap_alloc_new wr _ }; simp [World.cell?, hh]
          have q1 : W1.cell? ⟨b, 1, none⟩ = some (.slice xa xn xc) := by have hh : W1.heap[b]? = some (.cells #[.int .i64 xr, .slice xa xn xc] 36) := by { rw [hW1, hb]; exact heap_alloc_new wr _ }; simp [World.cell?, hh]
          have KI : Hid (Calls Tryd.prog 32 #[.int .i64 xr] W1 fun e w' => e = .returned (.bool (isR6 xr)) ∧ w' = W1) := pisRoot_is W1 xr
          have KCC : Hid (∀ W, Below W1.heap.size W1 W → Calls Tryd.prog 31 #[.slice xa xn xc] W fun e w' => ∃ a2 n2 c2 M2, e = .returned (.slice a2 n2 c2) ∧ NewSt w' W.heap.size a2 n2 c2 M2 ∧ M2.map co = xM.map co ∧ Below W.heap.size W w') := fun W hW => KC.out W ⟨xa, xn, xc, xM⟩ (R1.out.2.2.2.1.keep hW)
          have HXX : Hid (P[j]? = some ⟨xr, xa, xn, xc, xM⟩) := HX.out.1
          rw [← hW1, ← hb]
          clear hW1 hb c0 c1 HX RW
          go_wp2_with fail
          refine KI.out.mono ?_
          rintro e w2 ⟨rfl, hw2⟩
          rw [hw2]
          clear hw2
          by_cases h6 : 1 ≤ xr ∧ xr ≤ 6
          · obtain ⟨m, rfl, hm⟩ : ∃ m : Nat, xr = (m : Int) + 1 ∧ m < 6 := ⟨(xr - 1).toNat, by omega, by omega⟩
            have e6 : isR6 ((m : Int) + 1) = true := by unfold isR6; simp [h6.1, h6.2]
            have HM : Hid (m < 6) := hm
            have rs : IntKind.i64.wrap ((m : Int) + 1 - 1) = (m : Int) := by rw [IntKind.wrap_i64]; omega
            have rm : IntKind.i64.wrap (m : Int) = (m : Int) := by rw [IntKind.wrap_i64]; omega
            have m5 : (m : Int) < 6 := by omega
            rw [e6]
            clear h6 e6 KI
            go_upto_region 11 with fail
            refine wp_region_noPanic ?_
            refine wp_region_held_drew (S := (fun u : World => u.cell? ⟨b, 0, none⟩ = some (.int .i64 ((m : Int) + 1)) ∧ u.cell? ⟨b, 1, none⟩ = some (.slice xa xn xc))) (by kernel_rfl) ?hSap (fun hHeld => ?restap)
            case hSap => exact ⟨q0, q1⟩
            case restap =>
            refine wpAnyH_take (i := 0) (v := .slice (some ⟨z, 0, none⟩) 6 6) rfl (by kernel_rfl) (by kernel_rfl) (by kernel_rfl) (fun _ _ _ h => h) (Or.inl ⟨by kernel_rfl, ?hy0p⟩) hHeld ?rest0p
            case hy0p => (intro w' hSw; go_simp; try with_reducible rfl)
            try simp only [Act.put, List.setIfInBounds_toArray, List.set_cons_zero, List.set_cons_succ, List.getElem_toArray, List.getElem_cons_zero, List.getElem_cons_succ]
            refine wpAnyH_take (i := 1) (v := .pointer (some ⟨b, 0, none⟩)) rfl (by kernel_rfl) (by kernel_rfl) (by kernel_rfl) (fun _ _ _ h => h) (Or.inl ⟨by kernel_rfl, ?hy1p⟩) hHeld ?rest1p
            case hy1p => (intro w' hSw; go_simp; try with_reducible rfl)
            try simp only [Act.put, List.setIfInBounds_toArray, List.set_cons_zero, List.set_cons_succ, List.getElem_toArray, List.getElem_cons_zero, List.getElem_cons_succ]
            refine wpAnyH_take (i := 2) (v := .int .i64 ((m : Int) + 1)) rfl (by kernel_rfl) (by kernel_rfl) (by kernel_rfl) (fun _ _ _ h => h) (Or.inl ⟨by kernel_rfl, ?hy2p⟩) hHeld ?rest2p
            case hy2p => (intro w' hSw; obtain ⟨s0, s1⟩ := hSw; go_simp; try with_reducible rfl)
            try simp only [Act.put, List.setIfInBounds_toArray, List.set_cons_zero, List.set_cons_succ, List.getElem_toArray, List.getElem_cons_zero, List.getElem_cons_succ]
            refine wpAnyH_take (i := 3) (v := .int .i64 (m : Int)) rfl (by kernel_rfl) (by kernel_rfl) (by kernel_rfl) (fun _ _ _ h => h) (Or.inl ⟨by kernel_rfl, ?hy3p⟩) hHeld ?rest3p
            case hy3p => (intro w' hSw; go_simp; try with_reducible rfl)
            try simp only [Act.put, List.setIfInBounds_toArray, List.set_cons_zero, List.set_cons_succ, List.getElem_toArray, List.getElem_cons_zero, List.getElem_cons_succ]
            refine wpAnyH_take (i := 4) (v := .pointer (some ⟨b, 1, none⟩)) rfl (by kernel_rfl) (by kernel_rfl) (by kernel_rfl) (fun _ _ _ h => h) (Or.inl ⟨by kernel_rfl, ?hy4p⟩) hHeld ?rest4p
            case hy4p => (intro w' hSw; go_simp; try with_reducible rfl)
            try simp only [Act.put, List.setIfInBounds_toArray, List.set_cons_zero, List.set_cons_succ, List.getElem_toArray, List.getElem_cons_zero, List.getElem_cons_succ]
            refine wpAnyH_take (i := 5) (v := .slice xa xn xc) rfl (by kernel_rfl) (by kernel_rfl) (by kernel_rfl) (fun _ _ _ h => h) (Or.inl ⟨by kernel_rfl, ?hy5p⟩) hHeld ?rest5p
            case hy5p => (intro w' hSw; obtain ⟨s0, s1⟩ := hSw; go_simp; try with_reducible rfl)
            try simp only [Act.put, List.setIfInBounds_toArray, List.set_cons_zero, List.set_cons_succ, List.getElem_toArray, List.getElem_cons_zero, List.getElem_cons_succ]
            refine wpAnyH_ready (rs := [6]) (by kernel_rfl) (by simp) ?_
            refine AllReadyH.cons rfl (fun K hK => ?_) AllReadyH.nil
            go_simp
            refine (KCC.out _ (Below.refl _ W1).drew).mono ?_
            rintro e w3 ⟨a2, n2, c2, M2, rfl, s2, m2, b2⟩
            have B3 : Hid (Below W1.heap.size W1 w3) := (Below.refl _ W1).drew.trans b2
            have X3 : Hid (NewSt w3 z a2 n2 c2 M2 ∧ M2.map co = xM.map co ∧ Ar w3 z z T ∧ Below z w w3) := ⟨NewSt.base s2 (by have := R1.out.2.2.1.size; rw [HZ.out]; simpa using this), m2, ar_keep R1.out.1 B3.out, R1.out.2.2.1.trans (B3.out.mono (by have := R1.out.2.2.1.size; rw [HZ.out]; exact this))⟩
            have Q3 : Hid (w3.cell? ⟨b, 0, none⟩ = some (.int .i64 ((m : Int) + 1)) ∧ w3.cell? ⟨b, 1, none⟩ = some (.slice xa xn xc)) := ⟨(World.cell?_of_block (a := ⟨b, 0, none⟩) (B3.out.block b R1.out.2.2.2.2.2)).trans q0, (World.cell?_of_block (a := ⟨b, 1, none⟩) (B3.out.block b R1.out.2.2.2.2.2)).trans q1⟩
            clear s2 m2 b2 q0 q1
            go_wp2_with fail
            refine hK.out _ _ ?hS6p (fun hHeld => ?rest6p)
            case hS6p => exact Q3.out
            clear hK K
            try simp only [Act.put, List.setIfInBounds_toArray, List.set_cons_zero, List.set_cons_succ, List.getElem_toArray, List.getElem_cons_zero, List.getElem_cons_succ]
            refine wpAnyH_take (i := 7) (v := .pointer (some ⟨z, m, none⟩)) rfl (by kernel_rfl) (by kernel_rfl) (by kernel_rfl) (fun _ _ _ h => h) (Or.inl ⟨by kernel_rfl, ?hy7p⟩) hHeld ?rest7p
            case hy7p => (intro w' hSw; go_simp; try with_reducible rfl)
            try simp only [Act.put, List.setIfInBounds_toArray, List.set_cons_zero, List.set_cons_succ, List.getElem_toArray, List.getElem_cons_zero, List.getElem_cons_succ]
            refine wpAnyH_ready (rs := [8]) (by kernel_rfl) (by simp) ?_
            refine AllReadyH.cons rfl (fun K hK => ?_) AllReadyH.nil
            obtain ⟨v0, hv0⟩ := ar_cell (i := m) X3.out.2.2.1 HM.out
            have fz := frozen_blk X3.out.2.2.1.2.1 m
            go_simp
            refine hK.out _ _ ?hS8p (fun hHeld => ?rest8p)
            case hS8p => exact ⟨(World.cell?_of_block (a := ⟨b, 0, none⟩) (set_off w3 z m b _ (by have := R1.out.2.2.2.2.1; show b ≠ z; omega))).trans Q3.out.1, (World.cell?_of_block (a := ⟨b, 1, none⟩) (set_off w3 z m b _ (by have := R1.out.2.2.2.2.1; show b ≠ z; omega))).trans Q3.out.2⟩
            clear hK K
            try simp only [Act.put, List.setIfInBounds_toArray, List.set_cons_zero, List.set_cons_succ, List.getElem_toArray, List.getElem_cons_zero, List.getElem_cons_succ]
            refine wpAnyH_done (by kernel_rfl) ?_ _
            refine NoPanic.normal ?_
            go_wp2_with fail
            go_roundg (pn - (j + 1))
            case measure => omega
            case rel =>
              have hz : z ≤ w3.heap.size := by have := X3.out.2.2.2.size; have := HZ.out; omega
              refine ⟨j + 1, T.set m ⟨a2, n2, c2, M2⟩, by omega, rfl, by push_cast; rfl, ar_set (x := ⟨a2, n2, c2, M2⟩) X3.out.2.2.1 X3.out.1 HM.out, ?_, below_setG X3.out.2.2.2 (Nat.le_refl _) hz⟩
              rw [List.take_add_one, HXX.out, List.map_set, R1.out.2.1]
              simp only [Option.toList_some, List.map_append, List.map_cons, List.map_nil, List.foldl_append, List.foldl_cons, List.foldl_nil]
              unfold put1
              rw [if_pos ⟨by omega, by omega⟩]
              show List.set _ m (M2.map co) = List.set _ ((m : Int) + 1 - 1).toNat (xM.map co)
              rw [X3.out.2.1]
              congr 1
              omega
          · have e6 : isR6 xr = false := by unfold isR6; simp; omega
            rw [e6]
            clear e6 KI
            go_wp2_with fail
            go_roundg (pn - (j + 1))
            case measure => omega
            case rel =>
              refine ⟨j + 1, T, by omega, rfl, by push_cast; rfl, R1.out.1, ?_, R1.out.2.2.1⟩
              rw [List.take_add_one, HXX.out, R1.out.2.1]
              simp only [Option.toList_some, List.map_append, List.map_cons, List.map_nil, List.foldl_append, List.foldl_cons, List.foldl_nil]
              unfold put1
              rw [if_neg h6]
        · obtain rfl : j = pn := by omega
          have j1 : decide ((j : Int) < (j : Int)) = false := by rw [decide_eq_false_iff_not]; omega
          have j3 : decide (j < j) = false := by rw [decide_eq_false_iff_not]; omega
          go_wp2_with fail
          go_ret
          refine ⟨z, T, rfl, Nat.le_refl _, RW.out.1, ?_, RW.out.2.2⟩
          rw [RW.out.2.1, List.take_of_length_le (by rw [HPN.out.1]; exact Nat.le_refl _)]
          rfl
end Go.Proofs.YthghoekkdpchnaaDoor
namespace Go.Proofs.YthghoekkdpchnaaDoor
open Go.ChangeShapes Go.WideShapes Go.ChangeAt Go.RowKit Go.Deep Go.Maps
set_option linter.unusedVariables false
set_option linter.unusedSimpArgs false
/-- of no root nothing -/
def Off6 (st : Int → List Pc) : Prop := ∀ r, ¬ (1 ≤ r ∧ r ≤ 6) → st r = []
theorem stk_off (S : List Sk) : Off6 (fun r => (stk S r).co) := fun r hr => by
  show (stk S r).co = []
  unfold stk
  rw [if_neg hr]
  rfl
theorem upd_off {st : Int → List Pc} (h : Off6 st) {r : Int} (hr : 1 ≤ r ∧ r ≤ 6) (S : List Pc) : Off6 (upd st r S) := fun q hq => by
  rw [upd_other _ _ (fun e => hq (by rw [e]; exact hr))]
  exact h q hq
theorem doE_root {S : List Pc} {ow : Int} {o : Op5} (h : doE S ow o = 0) : 1 ≤ o.r ∧ o.r ≤ 6 := by
  have hw : wrE S ow o = 0 := by
    by_cases e : wrE S ow o = 0
    · exact e
    · unfold doE at h; rw [if_pos e] at h; exact absurd h e
  have := (opE_zero (wrE_zero hw).1).2.1
  unfold isR6 at this
  simp only [Bool.and_eq_true, decide_eq_true_eq] at this
  exact this
theorem goA_off {ow : Int} : ∀ (ops : List Op5) (st : Int → List Pc) (i : Nat), Off6 st → Off6 (goA ow st ops i).2
  | [], st, i, h => h
  | o :: t, st, i, h => by
    unfold goA
    split
    · exact h
    · rename_i he
      exact goA_off t _ _ (upd_off h (doE_root (by simpa using he)) _)
theorem goA_rest {ow : Int} : ∀ (ops : List Op5) (st : Int → List Pc) (i : Nat) (r : Int), r ∉ ops.map Op5.r → (goA ow st ops i).2 r = st r
  | [], st, i, r, _ => rfl
  | o :: t, st, i, r, h => by
    simp only [List.map_cons, List.mem_cons, not_or] at h
    unfold goA
    split
    · rfl
    · rw [goA_rest t _ _ r h.2, upd_other _ _ h.1]
theorem six_ext {st st' : Int → List Pc} (h : ∀ r, 1 ≤ r ∧ r ≤ 6 → st r = st' r) : six st = six st' := by
  unfold six
  rw [h 1 (by omega), h 2 (by omega), h 3 (by omega), h 4 (by omega), h 5 (by omega), h 6 (by omega)]
theorem put1_lenY (T : List (List Pc)) (p : Int × List Pc) : (put1 T p).length = T.length := by
  unfold put1
  split
  · rw [List.length_set]
  · rfl
theorem put_atY (P : List (Int × List Pc)) (T : List (List Pc)) (i : Nat) (hi : i < 6) (x : List Pc) (hx : T[i]? = some x) : (P.foldl put1 T)[i]? = some (P.foldl (fun l p => if p.1 = (i : Int) + 1 then p.2 else l) x) := by
  induction P generalizing T x with
  | nil => exact hx
  | cons p P ih =>
    rw [List.foldl_cons, List.foldl_cons]
    refine ih _ _ ?_
    unfold put1
    have hl : i < T.length := (List.getElem?_eq_some_iff.1 hx).1
    by_cases h : p.1 = (i : Int) + 1
    · rw [if_pos (by omega), if_pos h, List.getElem?_set, if_pos (by omega), if_pos (by omega)]
    · rw [if_neg h]
      split
      · rw [List.getElem?_set, if_neg (by omega)]; exact hx
      · exact hx
theorem put_lenY (st : Int → List Pc) (P : List (Int × List Pc)) : (putC st P).length = 6 := by
  have h : ∀ (Q : List (Int × List Pc)) (T : List (List Pc)), (Q.foldl put1 T).length = T.length := by
    intro Q
    induction Q with
    | nil => intro T; rfl
    | cons p Q ih => intro T; rw [List.foldl_cons, ih, put1_lenY]
  unfold putC
  rw [h]
  rfl
theorem fold_rts (stE : Int → List Pc) (q : Int) : ∀ (l : List Int) (x : List Pc), (l.map fun r => (r, stE r)).foldl (fun l p => if p.1 = q then p.2 else l) x = if q ∈ l then stE q else x
  | [], x => by simp
  | r :: l, x => by
    rw [List.map_cons, List.foldl_cons, fold_rts stE q l]
    by_cases h1 : q ∈ l
    · rw [if_pos h1, if_pos (List.mem_cons_of_mem _ h1)]
    · rw [if_neg h1]
      by_cases h2 : r = q
      · rw [if_pos h2, if_pos (by simp [h2]), h2]
      · rw [if_neg h2, if_neg (by simp only [List.mem_cons, not_or]; exact ⟨fun e => h2 e.symm, h1⟩)]
/-- plans of the roots that turned, put in -/
theorem putC_rts {st stE : Int → List Pc} {ops : List Op5} (h : ∀ r, r ∉ ops.map Op5.r → stE r = st r) : putC st ((rts ops).map fun r => (r, stE r)) = six stE := by
  apply List.ext_getElem?
  intro i
  by_cases hi : i < 6
  · rw [six_at stE i hi]
    unfold putC
    rw [put_atY _ _ i hi _ (six_at st i hi), fold_rts]
    congr 1
    by_cases hm : ((i : Int) + 1) ∈ rts ops
    · rw [if_pos hm]
    · rw [if_neg hm]
      exact (h _ (fun hr => hm ((rts_mem ops _).2 ⟨by omega, hr⟩))).symm
  · rw [List.getElem?_eq_none (by rw [put_lenY]; omega), List.getElem?_eq_none (by simp [six]; omega)]
theorem putC_all {st : Int → List Pc} {ow : Int} {ops : List Op5} (h : (allR ow st ops).1.2 = 0) : putC st ((rts ops).map fun r => (r, (allR ow st ops).2 r)) = six (allR ow st ops).2 := by
  refine putC_rts fun r hr => ?_
  unfold allR at h ⊢
  split
  · rfl
  · split
    · rfl
    · exact goA_rest _ _ _ _ hr
theorem allR_off {st : Int → List Pc} {ow : Int} {ops : List Op5} (h : Off6 st) : Off6 (allR ow st ops).2 := by
  unfold allR
  split
  · exact h
  · split
    · exact h
    · exact goA_off _ _ _ h
theorem allR_one (ow : Int) (st : Int → List Pc) (o : Op5) : allR ow st [o] = if doE (st o.r) ow o ≠ 0 then ((0, doE (st o.r) ow o), st) else ((0, 0), upd st o.r (nxt (st o.r) ow o)) := by
  unfold allR
  rw [if_neg (by simp), if_neg (by simp)]
  rfl
theorem pairs_of {P : List Pv} {l : List Int} {f : Int → List Pc} (h1 : P.map Pv.r = l) (h2 : ∀ p ∈ P, p.co = f p.r) : P.map (fun x => (x.r, x.co)) = l.map fun r => (r, f r) := by
  rw [← h1, List.map_map]
  exact List.map_congr_left fun p hp => by simp [h2 p hp]
theorem inPv_ok {w w0 : World} {z : Nat} {P : List Pv} (h : ∀ p ∈ P, NewSt w z p.a p.n p.c p.M) : ∀ x ∈ P, PvOk w x := fun x hx => (h x hx).st
/-- six stacks in block g, of the state st -/
structure S6 (w : World) (g : Nat) (T : List Sk) (st : Int → List Pc) : Prop where
  ar : Ar w g g T ∨ Ar w g 0 T
  co : T.map Sk.co = six st
theorem S6.keep {w w' : World} {g : Nat} {T : List Sk} {st : Int → List Pc} (h : S6 w g T st) (hb : Below w.heap.size w w') : S6 w' g T st := ⟨by rcases h.ar with k | k; exact .inl (ar_keep k hb); exact .inr (ar_keep k hb), h.co⟩
theorem S6.len {w : World} {g : Nat} {T : List Sk} {st : Int → List Pc} (h : S6 w g T st) : T.length = 6 := by rcases h.ar with h | h <;> exact h.1
theorem S6.ok {w : World} {g : Nat} {T : List Sk} {st : Int → List Pc} (h : S6 w g T st) : ∀ x ∈ T, SkOk w x := by
  rcases h.ar with h | h <;> exact fun x hx => (h.2.2 x hx).ok
theorem sks_get (T : List Sk) (i : Nat) (x : Sk) (h : T[i]? = some x) : (sks T)[i]? = some (.slice x.a x.n x.c) := by
  rw [sks_map, List.getElem?_map, h]
  rfl
theorem ar_in {w : World} {g z : Nat} {T : List Sk} (h : Ar w g z T) : InSk w (some ⟨g, 0, none⟩) T := by
  refine .inr ⟨g, 0, rfl, lt_of_heapK h.2.1, fun i x hx => ⟨fun k v hv => ?_, (h.2.2 x (List.mem_of_getElem? hx)).ok⟩⟩
  have hk : k = 0 := by
    have := (List.getElem?_eq_some_iff.1 hv).1
    simpa [skl] using this
  subst hk
  simp only [skl, List.getElem?_cons_zero, Option.some.injEq] at hv
  subst hv
  have := sks_get T i x hx
  simp [World.cell?, h.2.1, this]
theorem S6.inp {w : World} {g : Nat} {T : List Sk} {st : Int → List Pc} (h : S6 w g T st) : InSk w (some ⟨g, 0, none⟩) T := by
  rcases h.ar with h | h <;> exact ar_in h
theorem S6.st {w : World} {g : Nat} {T : List Sk} {st : Int → List Pc} (h : S6 w g T st) (ho : Off6 st) : st = fun r => (stk T r).co := by
  funext r
  by_cases hr : 1 ≤ r ∧ r ≤ 6
  · have h1 := six_at st (r - 1).toNat (by omega)
    rw [← h.co, List.getElem?_map] at h1
    unfold stk
    rw [if_pos hr, List.getD_eq_getElem?_getD]
    cases e : T[(r - 1).toNat]? with
    | none => rw [e] at h1; cases h1
    | some x =>
      rw [e] at h1
      simp only [Option.map_some, Option.some.injEq] at h1
      show st r = x.co
      rw [h1]
      congr 1
      omega
  · rw [ho r hr]
    exact (stk_off T r hr).symm
theorem Ar.s6 {w : World} {g z : Nat} {T : List Sk} {st : Int → List Pc} (h : Ar w g z T) (hc : T.map Sk.co = six st) : S6 w g T st := ⟨.inr ⟨h.1, h.2.1, fun x hx => NewSt.base (h.2.2 x hx) (Nat.zero_le _)⟩, hc⟩
/-- plans that All told, alike to put -/
structure Pls (w : World) (a : Option Addr) (n c : Nat) (P : List Pv) (ops : List Op5) (stE : Int → List Pc) : Prop where
  inp : InPv w a P
  len : P.length = n
  le : n ≤ 6
  pairs : P.map (fun x => (x.r, x.co)) = (rts ops).map fun r => (r, stE r)
theorem Pls.keep {w w' : World} {a : Option Addr} {n c : Nat} {P : List Pv} {ops : List Op5} {stE : Int → List Pc} (h : Pls w a n c P ops stE) (hb : Below w.heap.size w w') : Pls w' a n c P ops stE := ⟨h.inp.keep hb, h.len, h.le, h.pairs⟩
theorem AllSaid.pls {w w' : World} {st : Int → List Pc} {ow : Int} {ops : List Op5} {V : Value} (h : AllSaid w w' st ow ops V) (h0 : (allR ow st ops).1.2 = 0) : ∃ a n c P, V = .slice a n c ∧ Pls w' a n c P ops (allR ow st ops).2 := by
  obtain ⟨a, n, c, P, rfl, h1, h2, h3, h4, h5, h6, h7, h8, _⟩ := h.2.1 h0
  exact ⟨a, n, c, P, rfl, h1, h2, h5, pairs_of h7 (fun p hp => (h8 p hp).2)⟩
/-- plan.Put of six stacks or of stacks that came, and of All's plans -/
theorem put_pls (w : World) (a : Option Addr) (n c : Nat) (S : List Sk) (hS : InSk w a S) (hn : S.length = n) (hok : ∀ x ∈ S, SkOk w x) (hN : n ≤ 1000) (pa : Option Addr) (pn pc : Nat) (P : List Pv) (ops : List Op5) (stE st : Int → List Pc) (hP : Pls w pa pn pc P ops stE) (hst : st = fun r => (stk S r).co) (hE : putC st ((rts ops).map fun r => (r, stE r)) = six stE) :
    Calls Tryd.prog 16 #[.slice a n c, .slice pa pn pc] w fun e w' => ∃ g T, e = .returned (.slice (some ⟨g, 0, none⟩) 6 6) ∧ S6 w' g T stE ∧ Below w.heap.size w w' := by
  refine (put_is w a n c S hS hn hok hN pa pn pc P hP.inp hP.len (by have := hP.le; omega) st hst).mono ?_
  rintro e w' ⟨g, T, rfl, _, h1, h2, h3⟩
  exact ⟨g, T, rfl, h1.s6 (by rw [h2, hP.pairs, hE]), h3⟩
theorem put_none (w : World) (a : Option Addr) (n c : Nat) (S : List Sk) (hS : InSk w a S) (hn : S.length = n) (hok : ∀ x ∈ S, SkOk w x) (hN : n ≤ 1000) (st : Int → List Pc) (hst : st = fun r => (stk S r).co) :
    Calls Tryd.prog 16 #[.slice a n c, .slice none 0 0] w fun e w' => ∃ g T, e = .returned (.slice (some ⟨g, 0, none⟩) 6 6) ∧ S6 w' g T st ∧ Below w.heap.size w w' := by
  refine (put_is w a n c S hS hn hok hN none 0 0 [] (.inl rfl) rfl (by omega) st hst).mono ?_
  rintro e w' ⟨g, T, rfl, _, h1, h2, h3⟩
  exact ⟨g, T, rfl, h1.s6 h2, h3⟩
/-- one of several operations, by itself -/
theorem InOv.one {w : World} {b off : Nat} {L : List Ov} (h : InOv w (some ⟨b, off, none⟩) L) {i : Nat} {x : Ov} (hx : L[i]? = some x) : InOv w (some ⟨b, off + i * 5, none⟩) [x] := by
  rcases h with rfl | ⟨b', off', e, h1, h2⟩
  · simp at hx
  · simp only [Option.some.injEq, Addr.mk.injEq] at e
    obtain ⟨rfl, rfl, _⟩ := e
    refine .inr ⟨b, off + i * 5, rfl, h1, fun k y hy => ?_⟩
    cases k with
    | succ k => simp at hy
    | zero =>
      simp only [List.getElem?_cons_zero, Option.some.injEq] at hy
      subst hy
      refine ⟨fun k v hv => ?_, (h2 i x hx).2⟩
      have := (h2 i x hx).1 k v hv
      simpa using this
end Go.Proofs.YthghoekkdpchnaaDoor
namespace Go.Proofs.YthghoekkdpchnaaDoor
open Go.ChangeShapes Go.WideShapes Go.ChangeAt Go.RowKit Go.Deep
set_option linter.unusedVariables false
set_option linter.unusedSimpArgs false
theorem trod_two5 {H : Type} {enc : TypeId × Value → H} {P : Program} {w : World} {base : Nat} {spare : Nat → Bool} {held : Bool} {t e : TypeId} {fuel : Nat} {cs : List Value} {x : DataW H × List MemPlace} (ht : P.underlying t = some (.array 2 e)) (hce : P.cellsOf e = 5) (hct : P.cellsOf t = 10)
    (h : DataW.trod enc P w base spare held fuel t cs = some x) :
    ∃ y0 y1 n, x = (.agg [y0.1, y1.1], y0.2 ++ y1.2) ∧ cs.length = 10 ∧ DataW.trod enc P w base spare held n e (cs.take 5) = some y0 ∧ DataW.trod enc P w base spare held n e ((cs.drop 5).take 5) = some y1 := by
  cases fuel with
  | zero => simp [DataW.trod] at h
  | succ n =>
    unfold DataW.trod at h
    rw [ht] at h
    have r2 : List.range 2 = [0, 1] := rfl
    simp [r2, hce, hct] at h
    obtain ⟨hl, h⟩ := h
    cases h0 : DataW.trod enc P w base spare held n e (cs.take 5) with
    | none => simp [h0] at h
    | some y0 =>
      cases h1 : DataW.trod enc P w base spare held n e ((cs.drop 5).take 5) with
      | none => simp [h0, h1] at h
      | some y1 =>
        simp [h0, h1] at h
        exact ⟨y0, y1, n, h.symm, hl, h0, h1⟩
theorem cellsTwo : Tryd.prog.cellsOf 47 = 10 := by kernel_rfl
theorem open_two {H : Type} {enc : TypeId × Value → H} {W : World} {fuel : Nat} {cs : List Value} {x : DataW H × List MemPlace} (h : DataW.trod enc Tryd.prog W 0 (fun _ => true) true fuel 47 cs = some x) (hw : ∀ q ∈ x.1.weights Tryd.prog 47, q ≤ 140737488351232) :
    ∃ p q : Rv, cs = rwl p ++ rwl q ∧ RvOk W p ∧ RvOk W q := by
  obtain ⟨y0, y1, n, rfl, hl, h0, h1⟩ := trod_two5 Tryd.underlying47 cellsOp cellsTwo h
  obtain ⟨p, hp, op⟩ := open_op h0 (fun q hq => hw q (by
    simp only [DataW.weights, Tryd.underlying47]
    exact mem_weightsAllW (d := y0.1) (by simp) hq))
  obtain ⟨r, hr, or⟩ := open_op h1 (fun q hq => hw q (by
    simp only [DataW.weights, Tryd.underlying47]
    exact mem_weightsAllW (d := y1.1) (by simp) hq))
  refine ⟨p, r, ?_, op, or⟩
  rw [← hp, ← hr, List.take_of_length_le (l := cs.drop 5) (by rw [List.length_drop]; omega), List.take_append_drop]
end Go.Proofs.YthghoekkdpchnaaDoor
namespace Go.Proofs.YthghoekkdpchnaaDoor
open Go.ChangeShapes Go.WideShapes Go.ChangeAt Go.RowKit Go.Deep Go.Maps
set_option linter.unusedVariables false
set_option linter.unusedSimpArgs false
/-- stacks that may be read, of the state st -/
structure StIn (w : World) (a : Option Addr) (n : Nat) (S : List Sk) (st : Int → List Pc) : Prop where
  inp : InSk w a S
  len : S.length = n
  ok : ∀ x ∈ S, SkOk w x
  le : n ≤ 9
  st : st = fun r => (stk S r).co
theorem StIn.keep {w w' : World} {a : Option Addr} {n : Nat} {S : List Sk} {st : Int → List Pc} (h : StIn w a n S st) (hb : Below w.heap.size w w') : StIn w' a n S st := ⟨h.inp.keep hb, h.len, fun x hx => (h.ok x hx).keep hb, h.le, h.st⟩
theorem StIn.off {w : World} {a : Option Addr} {n : Nat} {S : List Sk} {st : Int → List Pc} (h : StIn w a n S st) : Off6 st := by rw [h.st]; exact stk_off S
theorem S6.stIn {w : World} {g : Nat} {T : List Sk} {st : Int → List Pc} (h : S6 w g T st) (ho : Off6 st) : StIn w (some ⟨g, 0, none⟩) 6 T st := ⟨h.inp, h.len, h.ok, by omega, h.st ho⟩
theorem StIn.all {w : World} {a : Option Addr} {n c : Nat} {S : List Sk} {st : Int → List Pc} (h : StIn w a n S st) (ow : Int) (oa : Option Addr) (on oc : Nat) (L : List Ov) (hL : InOv w oa L) (hn : L.length = on) (hN : on ≤ 12) {RES : (Nat × Int) × (Int → List Pc)} (hR : allR ow st (L.map Ov.o) = RES) :
    Calls Tryd.prog 8 #[.slice a n c, .int .i64 ow, .slice oa on oc] w fun e w' => ∃ V, e = .returned (.tuple #[V, .int .i64 (RES.1.1 : Int), .int .i64 RES.1.2]) ∧ (RES.1.2 ≠ 0 → V = .slice none 0 0) ∧ (RES.1.2 = 0 → ∃ a n c P, V = .slice a n c ∧ Pls w' a n c P (L.map Ov.o) RES.2) ∧ Below w.heap.size w w' := by
  subst hR
  refine (all_is w a n c S h.inp h.len h.ok (by have := h.le; omega) ow oa on oc L hL hn (by omega) st h.st).mono ?_
  rintro e w' ⟨V, rfl, hs⟩
  exact ⟨V, rfl, hs.1, fun h0 => hs.pls h0, hs.2.2⟩
theorem StIn.put {w : World} {a : Option Addr} {n c : Nat} {S : List Sk} {st : Int → List Pc} (h : StIn w a n S st) (pa : Option Addr) (pn pc : Nat) (P : List Pv) (ops : List Op5) (ow : Int) {RES : (Nat × Int) × (Int → List Pc)} (hR : allR ow st ops = RES) (h0 : RES.1.2 = 0) (hP : Pls w pa pn pc P ops RES.2) :
    Calls Tryd.prog 16 #[.slice a n c, .slice pa pn pc] w fun e w' => ∃ g T, e = .returned (.slice (some ⟨g, 0, none⟩) 6 6) ∧ S6 w' g T RES.2 ∧ Below w.heap.size w w' := by
  subst hR
  exact put_pls w a n c S h.inp h.len h.ok (by have := h.le; omega) pa pn pc P ops _ st hP h.st (putC_all h0)
theorem StIn.put0 {w : World} {a : Option Addr} {n c : Nat} {S : List Sk} {st : Int → List Pc} (h : StIn w a n S st) :
    Calls Tryd.prog 16 #[.slice a n c, .slice none 0 0] w fun e w' => ∃ g T, e = .returned (.slice (some ⟨g, 0, none⟩) 6 6) ∧ S6 w' g T st ∧ Below w.heap.size w w' :=
  put_none w a n c S h.inp h.len h.ok (by have := h.le; omega) st h.st
set_option maxRecDepth 100000 in
set_option maxHeartbeats 16000000 in
theorem planSteps_walk (a : Option Addr) (n c : Nat) (L : List Sr) (ow : Int) (oa : Option Addr) (on oc : Nat) (Lo : List Rv) (w : World) (h0 : SrsIn w a n c L) (h1 : OpsIn w oa on oc Lo) :
    Calls Tryd.prog 6 #[.slice a n c, .int .i64 ow, .slice oa on oc] w fun e w' => e = .returned (.bool true) ∧ Below w.heap.size w w' := by
  have KW : Hid (∀ W, Calls Tryd.prog 14 #[] W fun e w' => e = .returned (.bool true) ∧ Below W.heap.size W w') := pworks_true
  have KS : Hid (Calls Tryd.prog 7 #[.slice a n c] w fun e w' => ∃ a' n' c' S, e = .returned (.slice a' n' c') ∧ StIn w' a' n' S (fun r => (stk S r).co) ∧ Below w.heap.size w w') := by
    refine (stacksOf_is w a n c L h0).mono ?_
    rintro e w' ⟨a', n', c', S, rfl, h1, h2, h3, h4, h5, h6, h7, h8⟩
    exact ⟨a', n', c', S, rfl, ⟨h5, h1, fun x hx => (h6 x hx).ok, h2, rfl⟩, h8⟩
  have KO : Hid (∀ W, Below w.heap.size w W → Calls Tryd.prog 9 #[.slice oa on oc] W fun e w' => ∃ a' n' c' M, e = .returned (.slice a' n' c') ∧ InOv w' a' M ∧ M.length = n' ∧ n' ≤ 12 ∧ n' ≤ c' ∧ c' ≤ 9223372036854775807 ∧ Below W.heap.size W w') := fun W hW => by
    refine (opsOf_is W oa on oc Lo h1.1 (h1.2.2.keep hW) h1.2.1).mono ?_
    rintro e w' ⟨a', c', M, rfl, h1, h2, h3, h4, h5, h6⟩
    refine ⟨a', _, c', M, rfl, h1, rfl, ?_, h2, h3, h5⟩
    rw [← List.length_map (f := Ov.o), h4]
    unfold opsC
    rw [List.length_map, List.length_take]
    omega
  clear h0 h1
  go_enter Tryd.func6, Tryd.ntmps6
  go_wp2_with fail
  refine KS.out.mono ?_
  rintro e w1 ⟨a1, n1, c1, S, rfl, s1, b1⟩
  have B1 : Hid (Below w.heap.size w w1) := b1
  obtain ⟨st, hst⟩ : ∃ st, st = fun r => (stk S r).co := ⟨_, rfl⟩
  rw [← hst] at s1
  have HS : Hid (StIn w1 a1 n1 S st) := s1
  clear s1 b1 hst KS
  go_wp2_with fail
  refine (KO.out w1 B1.out).mono ?_
  rintro e w2 ⟨a2, n2, c2, M, rfl, o1, o2, o3, o4, o5, b2⟩
  have B2 : Hid (Below w.heap.size w w2) := B1.out.trans (b2.mono B1.out.size)
  have HO : Hid (InOv w2 a2 M ∧ M.length = n2 ∧ n2 ≤ 12 ∧ n2 ≤ c2 ∧ c2 ≤ 9223372036854775807) := ⟨o1, o2, o3, o4, o5⟩
  have HS2 : Hid (StIn w2 a1 n1 S st) := HS.out.keep b2
  clear o1 o2 o3 o4 o5 b2 KO HS
  obtain ⟨Os, hOs⟩ : ∃ Os, Os = M.map Ov.o := ⟨_, rfl⟩
  obtain ⟨⟨⟨at0, E⟩, stE⟩, hR⟩ : ∃ RES, allR ow st Os = RES := ⟨_, rfl⟩
  have HOS : Hid (Os = M.map Ov.o ∧ Os.length = n2 ∧ allR ow st Os = ((at0, E), stE)) := ⟨hOs, by rw [hOs, List.length_map, HO.out.2.1], hR⟩
  have KA : Hid (Calls Tryd.prog 8 #[.slice a1 n1 c1, .int .i64 ow, .slice a2 n2 c2] w2 fun e w' => ∃ V, e = .returned (.tuple #[V, .int .i64 (at0 : Int), .int .i64 E]) ∧ (E ≠ 0 → V = .slice none 0 0) ∧ (E = 0 → ∃ a n c P, V = .slice a n c ∧ Pls w' a n c P Os stE) ∧ Below w2.heap.size w2 w') := by
    have := HS2.out.all (c := c1) ow a2 n2 c2 M HO.out.1 HO.out.2.1 HO.out.2.2.1 (RES := ((at0, E), stE)) (by rw [← hOs]; exact hR)
    rw [← hOs] at this
    exact this
  clear hOs hR
  go_wp2_with fail
  refine KA.out.mono ?_
  rintro e w3 ⟨V, rfl, v1, v2, b3⟩
  have B3 : Hid (Below w.heap.size w w3) := B2.out.trans (b3.mono B2.out.size)
  have HV : Hid ((E ≠ 0 → V = .slice none 0 0) ∧ (E = 0 → ∃ a n c P, V = .slice a n c ∧ Pls w3 a n c P Os stE)) := ⟨v1, v2⟩
  have HS3 : Hid (StIn w3 a1 n1 S st) := HS2.out.keep b3
  have HO3 : Hid (InOv w3 a2 M) := HO.out.1.keep b3
  clear v1 v2 b3 KA HS2
  by_cases hn : n2 = 0 ∨ 8 < n2
  · have hE : E ≠ 0 := by
      have := HOS.out.2.2
      unfold allR at this
      by_cases e : Os = []
      · rw [if_pos e] at this; cases this; decide
      · rw [if_neg e, if_pos (by rcases hn with hn | hn; · exact absurd (List.length_eq_zero_iff.1 (HOS.out.2.1.trans hn)) e
                                 · rw [HOS.out.2.1]; exact hn)] at this
        cases this; decide
    have hV := HV.out.1 hE
    subst hV
    have e1 : (E != 0) = true := by simpa using hE
    clear hE
    by_cases hz : n2 = 0
    · have z1 : ((n2 : Int) == 0) = true := by simp [hz]
      clear hz hn
      go_wp2_with fail
      refine (KW.out _).mono ?_
      rintro e w4 ⟨rfl, b4⟩
      have B4 : Hid (Below w.heap.size w w4) := B3.out.trans (b4.mono B3.out.size)
      clear b4
      go_wp2_with fail
      go_ret
      exact ⟨rfl, B4.out⟩
    · have z1 : ((n2 : Int) == 0) = false := by rw [beq_eq_false_iff_ne]; omega
      have z2 : decide ((8 : Int) < (n2 : Int)) = true := by rw [decide_eq_true_eq]; omega
      have z3 : decide (8 < n2) = true := by rw [decide_eq_true_eq]; omega
      clear hz hn
      go_wp2_with fail
      refine (KW.out _).mono ?_
      rintro e w4 ⟨rfl, b4⟩
      have B4 : Hid (Below w.heap.size w w4) := B3.out.trans (b4.mono B3.out.size)
      clear b4
      go_wp2_with fail
      go_ret
      exact ⟨rfl, B4.out⟩
  have z1 : ((n2 : Int) == 0) = false := by rw [beq_eq_false_iff_ne]; omega
  have z2 : decide ((8 : Int) < (n2 : Int)) = false := by rw [decide_eq_false_iff_not]; omega
  have z3 : decide (8 < n2) = false := by rw [decide_eq_false_iff_not]; omega
  have HN : Hid (0 < n2 ∧ n2 ≤ 8) := by show _ ∧ _; omega
  have HG : Hid (goA ow st Os 0 = ((at0, E), stE)) := by
    have := HOS.out.2.2
    unfold allR at this
    rwa [if_neg (fun e => hn (.inl (by rw [← HOS.out.2.1, e]; rfl))), if_neg (by rw [HOS.out.2.1]; omega)] at this
  clear hn
  have KP0 : Hid (Calls Tryd.prog 16 #[.slice a1 n1 c1, .slice none 0 0] w3 fun e w' => ∃ g T, e = .returned (.slice (some ⟨g, 0, none⟩) 6 6) ∧ S6 w' g T st ∧ Below w3.heap.size w3 w') := HS3.out.put0
  go_wp2_with fail
  refine KP0.out.mono ?_
  rintro e w4 ⟨g4, T4, rfl, t4, b4⟩
  have HT4 : Hid (S6 w4 g4 T4 st ∧ Below w3.heap.size w3 w4) := ⟨t4, b4⟩
  clear t4 b4 KP0
  clear z1 z2 z3
  obtain ⟨b0, off0, rfl⟩ : ∃ b off, a2 = some ⟨b, off, none⟩ := by
    rcases HO3.out with h | ⟨b, off, h, _⟩
    · have h1 := HO.out.2.1; rw [h] at h1; have h2 := HN.out.1; rw [← h1] at h2; exact absurd h2 (Nat.lt_irrefl _)
    · exact ⟨b, off, h⟩
  go_wp2_with fail
  go_loopg [10, 49] n2 (fun g now i wr => ∃ (j : Nat) (T : List Sk) (gb : Nat) (stj : Int → List Pc), j ≤ n2 ∧ g = n2 - j ∧ now = .slice (some ⟨gb, 0, none⟩) 6 6 ∧ i = .int .i64 (j : Int) ∧ Hid (S6 wr gb T stj ∧ Off6 stj ∧ goA ow stj (Os.drop j) j = ((at0, E), stE) ∧ Below w3.heap.size w3 wr))
  case atStart => exact ⟨0, T4, g4, st, Nat.zero_le _, rfl, rfl, rfl, HT4.out.1, HS3.out.off, HG.out, HT4.out.2⟩
  case round =>
    obtain ⟨j, T, gb, stj, hj, rfl, rfl, rfl, RW⟩ := hrel
    by_cases hlt : j < n2
    · have j1 : decide ((j : Int) < (n2 : Int)) = true := by rw [decide_eq_true_eq]; omega
      have j3 : decide (j < n2) = true := by rw [decide_eq_true_eq]; omega
      have ri : IntKind.i64.wrap ((j : Int) + 1) = (j : Int) + 1 := by rw [IntKind.wrap_i64]; have := HN.out; omega
      obtain ⟨x, hx⟩ : ∃ x, M[j]? = some x := ⟨M[j]'(by rw [HO.out.2.1]; exact hlt), List.getElem?_eq_getElem _⟩
      have HX : Hid (M[j]? = some x ∧ Os[j]? = some x.o) := ⟨hx, by rw [HOS.out.1, List.getElem?_map, hx]; rfl⟩
      have HI1 : Hid (InOv wr (some ⟨b0, off0 + j * 5, none⟩) [x]) := (HO3.out.keep RW.out.2.2.2).one hx
      obtain ⟨D, hD⟩ : ∃ D, D = doE (stj x.o.r) ow x.o := ⟨_, rfl⟩
      have HD : Hid (D = doE (stj x.o.r) ow x.o) := hD
      have q1 : (0 : Int) ≤ (j : Int) + 1 ∧ (j : Int) + 1 ≤ (c2 : Int) := by have := HO.out.2.2.2.1; omega
      have q2 : ¬ c2 = j := by have := HO.out.2.2.2.1; omega
      have HSJ : Hid (StIn wr (some ⟨gb, 0, none⟩) 6 T stj) := RW.out.1.stIn RW.out.2.1
      by_cases hE : D = 0
      · have KA : Hid (Calls Tryd.prog 8 #[.slice (some ⟨gb, 0, none⟩) 6 6, .int .i64 ow, .slice (some ⟨b0, off0 + j * 5, none⟩) 1 (c2 - j)] wr fun e w' => ∃ a n c P, e = .returned (.tuple #[.slice a n c, .int .i64 0, .int .i64 0]) ∧ Pls w' a n c P [x.o] (upd stj x.o.r (nxt (stj x.o.r) ow x.o)) ∧ Below wr.heap.size wr w') := by
          have hR : allR ow stj ([x].map Ov.o) = ((0, 0), upd stj x.o.r (nxt (stj x.o.r) ow x.o)) := by
            show allR ow stj [x.o] = _
            rw [allR_one, ← hD, if_neg (fun h => h hE)]
          refine (HSJ.out.all (c := 6) ow _ 1 (c2 - j) [x] HI1.out rfl (by omega) hR).mono ?_
          rintro e w' ⟨V', rfl, _, h2, h3⟩
          obtain ⟨a, n, c, P, rfl, hP⟩ := h2 rfl
          exact ⟨a, n, c, P, rfl, hP, h3⟩
        have HGN : Hid (goA ow (upd stj x.o.r (nxt (stj x.o.r) ow x.o)) (Os.drop (j + 1)) (j + 1) = ((at0, E), stE) ∧ Off6 (upd stj x.o.r (nxt (stj x.o.r) ow x.o))) := by
          refine ⟨?_, upd_off RW.out.2.1 (doE_root (by rw [← hD]; exact hE)) _⟩
          have := RW.out.2.2.1
          rw [goA_at HX.out.2, ← hD, if_neg (fun h => h hE)] at this
          exact this
        have e0 : ((0 : Int) != 0) = false := by decide
        have HDZ : Hid (D = 0) := hE
        clear hD hE hx
        go_wp2_with fail
        refine KA.out.mono ?_
        rintro e w5 ⟨pa, pn, pc, P, rfl, hP, b5⟩
        have B5 : Hid (Below w3.heap.size w3 w5) := RW.out.2.2.2.trans (b5.mono RW.out.2.2.2.size)
        have KP : Hid (Calls Tryd.prog 16 #[.slice (some ⟨gb, 0, none⟩) 6 6, .slice pa pn pc] w5 fun e w' => ∃ g T, e = .returned (.slice (some ⟨g, 0, none⟩) 6 6) ∧ S6 w' g T (upd stj x.o.r (nxt (stj x.o.r) ow x.o)) ∧ Below w5.heap.size w5 w') := by
          have hR : allR ow stj [x.o] = ((0, 0), upd stj x.o.r (nxt (stj x.o.r) ow x.o)) := by
            rw [allR_one, ← HD.out, if_neg (fun h => h HDZ.out)]
          exact (HSJ.out.keep b5).put pa pn pc P [x.o] ow hR rfl hP
        clear hP b5 KA q1 q2
        go_wp2_with fail
        refine KP.out.mono ?_
        rintro e w6 ⟨g6, T6, rfl, t6, b6⟩
        have H6 : Hid (S6 w6 g6 T6 (upd stj x.o.r (nxt (stj x.o.r) ow x.o)) ∧ Below w3.heap.size w3 w6) := ⟨t6, B5.out.trans (b6.mono B5.out.size)⟩
        clear t6 b6 KP
        go_wp2_with fail
        go_roundg (n2 - (j + 1))
        case measure => omega
        case rel => exact ⟨j + 1, T6, g6, _, by omega, rfl, rfl, by push_cast; rfl, H6.out.1, HGN.out.2, HGN.out.1, H6.out.2⟩
      · have HDE : Hid (D = E ∧ at0 = j ∧ E ≠ 0) := by
          have := RW.out.2.2.1
          rw [goA_at HX.out.2, ← hD, if_pos hE] at this
          simp only [Prod.mk.injEq] at this
          obtain ⟨⟨h1, h2⟩, _⟩ := this
          exact ⟨h2, h1.symm, by rw [← h2]; exact hE⟩
        have KA : Hid (Calls Tryd.prog 8 #[.slice (some ⟨gb, 0, none⟩) 6 6, .int .i64 ow, .slice (some ⟨b0, off0 + j * 5, none⟩) 1 (c2 - j)] wr fun e w' => e = .returned (.tuple #[.slice none 0 0, .int .i64 0, .int .i64 E]) ∧ Below wr.heap.size wr w') := by
          have hR : allR ow stj ([x].map Ov.o) = ((0, E), stj) := by
            show allR ow stj [x.o] = _
            rw [allR_one, ← hD, if_pos hE, HDE.out.1]
          refine (HSJ.out.all (c := 6) ow _ 1 (c2 - j) [x] HI1.out rfl (by omega) hR).mono ?_
          rintro e w' ⟨V', rfl, h1, _, h3⟩
          have := h1 HDE.out.2.2
          subst this
          exact ⟨rfl, h3⟩
        have hV := HV.out.1 HDE.out.2.2
        have hat := HDE.out.2.1
        subst hV
        subst hat
        have e0 : (E != 0) = true := by simpa using HDE.out.2.2
        clear hD hE hx
        go_wp2_with fail
        refine KA.out.mono ?_
        rintro e w5 ⟨rfl, b5⟩
        have B5 : Hid (Below w3.heap.size w3 w5) := RW.out.2.2.2.trans (b5.mono RW.out.2.2.2.size)
        clear b5 KA q1 q2
        go_wp2_with fail
        refine (KW.out _).mono ?_
        rintro e w6 ⟨rfl, b6⟩
        have B6 : Hid (Below w.heap.size w w6) := B3.out.trans ((B5.out.trans (b6.mono B5.out.size)).mono B3.out.size)
        clear b6
        go_wp2_with fail
        go_ret
        exact ⟨rfl, B6.out⟩
    · obtain rfl : j = n2 := by omega
      have j1 : decide ((j : Int) < (j : Int)) = false := by rw [decide_eq_false_iff_not]; omega
      have j3 : decide (j < j) = false := by rw [decide_eq_false_iff_not]; omega
      have HZ : Hid (at0 = 0 ∧ E = 0 ∧ stE = stj) := by
        have := RW.out.2.2.1
        rw [goA_end (by rw [HOS.out.2.1]; exact Nat.le_refl _)] at this
        simp only [Prod.mk.injEq] at this
        exact ⟨this.1.1.symm, this.1.2.symm, this.2.symm⟩
      obtain ⟨z1, z2, z3⟩ := HZ.out
      subst z1 z2 z3
      obtain ⟨pa, pn, pc, P, hv, hP⟩ := HV.out.2 rfl
      subst hv
      have KP : Hid (Calls Tryd.prog 16 #[.slice a1 n1 c1, .slice pa pn pc] wr fun e w' => ∃ g T, e = .returned (.slice (some ⟨g, 0, none⟩) 6 6) ∧ S6 w' g T stE ∧ Below wr.heap.size wr w') :=
        (HS3.out.keep RW.out.2.2.2).put pa pn pc P Os ow HOS.out.2.2 rfl (hP.keep RW.out.2.2.2)
      clear hP HZ
      go_wp2_with fail
      refine KP.out.mono ?_
      rintro e w5 ⟨g5, T5, rfl, t5, b5⟩
      have B5 : Hid (Below w3.heap.size w3 w5) := RW.out.2.2.2.trans (b5.mono RW.out.2.2.2.size)
      have KSS : Hid (Calls Tryd.prog 13 #[.slice (some ⟨g5, 0, none⟩) 6 6, .slice (some ⟨gb, 0, none⟩) 6 6] w5 fun e w' => e = .returned (.bool true) ∧ Below w5.heap.size w5 w') :=
        rsamest_true w5 _ _ 6 6 6 T5 T t5.len t5.inp (RW.out.1.keep b5).inp (t5.co.trans RW.out.1.co.symm) (by omega)
      clear t5 b5 KP
      go_wp2_with fail
      refine KSS.out.mono ?_
      rintro e w6 ⟨rfl, b6⟩
      have B6 : Hid (Below w3.heap.size w3 w6) := B5.out.trans (b6.mono B5.out.size)
      clear b6 KSS
      go_wp2_with fail
      refine (KW.out _).mono ?_
      rintro e w7 ⟨rfl, b7⟩
      have B7 : Hid (Below w.heap.size w w7) := B3.out.trans ((B6.out.trans (b7.mono B6.out.size)).mono B3.out.size)
      clear b7
      go_wp2_with fail
      go_ret
      exact ⟨rfl, B7.out⟩
end Go.Proofs.YthghoekkdpchnaaDoor
namespace Go.Proofs.YthghoekkdpchnaaDoor
open Go.ChangeShapes Go.WideShapes Go.ChangeAt Go.RowKit Go.Deep Go.Maps
set_option linter.unusedVariables false
set_option linter.unusedSimpArgs false
theorem inRv2 {w : World} {g : Nat} {x y : Rv} {t : TypeId} (h : w.heap[g]? = some (.cells (rwl x ++ rwl y).toArray t)) (hx : RvOk w x) (hy : RvOk w y) : InRv w (some ⟨g, 0, none⟩) [x, y] := by
  refine .inr ⟨g, 0, rfl, lt_of_heapK h, fun i z hz => ?_⟩
  rcases i with _ | _ | i
  · simp only [List.getElem?_cons_zero, Option.some.injEq] at hz
    subst hz
    refine ⟨fun k v hv => ?_, hx⟩
    have hk : k < 5 := by
      have := (List.getElem?_eq_some_iff.1 hv).1
      simpa [rwl] using this
    rw [show (⟨g, 0 + 0 * 5 + k, none⟩ : Addr) = ⟨g, k, none⟩ by simp]
    simp only [World.cell?, h]
    simp only [List.getElem?_toArray]
    rw [List.getElem?_append_left (by simpa [rwl] using hk)]
    simpa using hv
  · simp only [List.getElem?_cons_succ, List.getElem?_cons_zero, Option.some.injEq] at hz
    subst hz
    refine ⟨fun k v hv => ?_, hy⟩
    rw [show (⟨g, 0 + (0 + 1) * 5 + k, none⟩ : Addr) = ⟨g, 5 + k, none⟩ by simp]
    simp only [World.cell?, h]
    simp only [List.getElem?_toArray]
    rw [List.getElem?_append_right (by simp [rwl])]
    simpa [rwl] using hv
  · simp at hz
/-- what two operations on unlike roots come to -/
theorem two_plain {st : Int → List Pc} {ow : Int} {o1 o2 : Op5} (hr : o1.r ≠ o2.r) :
    allR ow st [o1, o2] = if doE (st o1.r) ow o1 ≠ 0 then ((0, doE (st o1.r) ow o1), st) else if doE (st o2.r) ow o2 ≠ 0 then ((1, doE (st o2.r) ow o2), upd st o1.r (nxt (st o1.r) ow o1)) else ((0, 0), upd (upd st o1.r (nxt (st o1.r) ow o1)) o2.r (nxt (st o2.r) ow o2)) := by
  unfold allR
  rw [if_neg (by simp), if_neg (by simp)]
  unfold goA
  split
  · rfl
  · unfold goA
    rw [upd_other _ _ (fun e => hr e.symm)]
    split
    · rfl
    · rfl
theorem upd_comm (st : Int → List Pc) {a b : Int} (h : a ≠ b) (S T : List Pc) : upd (upd st a S) b T = upd (upd st b T) a S := by
  funext q
  unfold upd
  by_cases h1 : q = a
  · by_cases h2 : q = b
    · exact absurd (h1.symm.trans h2) h
    · simp only [if_pos h1, if_neg h2]
  · by_cases h2 : q = b
    · simp only [if_neg h1, if_pos h2]
    · simp only [if_neg h1, if_neg h2]
theorem rts_comm (o1 o2 : Op5) : rts [o1, o2] = rts [o2, o1] := by
  unfold rts
  congr 1
  funext r
  simp only [List.any_cons, List.any_nil, Bool.or_false]
  rw [Bool.or_comm]
theorem rts_two {o1 o2 : Op5} (h1 : 1 ≤ o1.r ∧ o1.r ≤ 6) (h2 : 1 ≤ o2.r ∧ o2.r ≤ 6) (h : o1.r ≠ o2.r) : (rts [o1, o2]).length = 2 := by
  have hn : (rts [o1, o2]).Nodup := List.Pairwise.filter _ (by decide)
  have hm : ∀ r, r ∈ rts [o1, o2] ↔ r ∈ [o1.r, o2.r] := fun r => by
    rw [rts_mem]
    simp only [List.map_cons, List.map_nil, List.mem_cons, List.not_mem_nil, or_false]
    constructor
    · exact fun h => h.2
    · rintro (rfl | rfl)
      · exact ⟨h1, .inl rfl⟩
      · exact ⟨h2, .inr rfl⟩
  have := (List.perm_ext_iff_of_nodup hn (by simp [h] : ([o1.r, o2.r] : List Int).Nodup)).2 hm
  simpa using this.length_eq
/-- what All tells -/
def Tol (w : World) (V : Value) (ops : List Op5) (RES : (Nat × Int) × (Int → List Pc)) : Prop := (RES.1.2 ≠ 0 → V = .slice none 0 0) ∧ (RES.1.2 = 0 → ∃ a n c P, V = .slice a n c ∧ Pls w a n c P ops RES.2)
theorem Tol.keep {w w' : World} {V : Value} {ops : List Op5} {RES : (Nat × Int) × (Int → List Pc)} (h : Tol w V ops RES) (hb : Below w.heap.size w w') : Tol w' V ops RES :=
  ⟨h.1, fun h0 => by obtain ⟨a, n, c, P, e, k⟩ := h.2 h0; exact ⟨a, n, c, P, e, k.keep hb⟩⟩
theorem Tol.slice {w : World} {V : Value} {ops : List Op5} {RES : (Nat × Int) × (Int → List Pc)} (h : Tol w V ops RES) : ∃ a n c, V = .slice a n c := by
  by_cases h0 : RES.1.2 = 0
  · obtain ⟨a, n, c, P, e, _⟩ := h.2 h0; exact ⟨a, n, c, e⟩
  · exact ⟨none, 0, 0, h.1 h0⟩
theorem StIn.allT {w : World} {a : Option Addr} {n c : Nat} {S : List Sk} {st : Int → List Pc} (h : StIn w a n S st) (ow : Int) (oa : Option Addr) (on oc : Nat) (L : List Ov) (hL : InOv w oa L) (hn : L.length = on) (hN : on ≤ 12) {RES : (Nat × Int) × (Int → List Pc)} (hR : allR ow st (L.map Ov.o) = RES) :
    Calls Tryd.prog 8 #[.slice a n c, .int .i64 ow, .slice oa on oc] w fun e w' => ∃ V, e = .returned (.tuple #[V, .int .i64 (RES.1.1 : Int), .int .i64 RES.1.2]) ∧ Tol w' V (L.map Ov.o) RES ∧ Below w.heap.size w w' := by
  refine (h.all ow oa on oc L hL hn hN hR).mono ?_
  rintro e w' ⟨V, rfl, h1, h2, h3⟩
  exact ⟨V, rfl, ⟨h1, h2⟩, h3⟩
theorem StIn.putT {w : World} {a : Option Addr} {n c : Nat} {S : List Sk} {st : Int → List Pc} (h : StIn w a n S st) (pa : Option Addr) (pn pc : Nat) (ops : List Op5) (ow : Int) {RES : (Nat × Int) × (Int → List Pc)} (hR : allR ow st ops = RES) (hT : Tol w (.slice pa pn pc) ops RES) (hE : RES.1.2 ≠ 0 → RES.2 = st) :
    Calls Tryd.prog 16 #[.slice a n c, .slice pa pn pc] w fun e w' => ∃ g T, e = .returned (.slice (some ⟨g, 0, none⟩) 6 6) ∧ S6 w' g T RES.2 ∧ Below w.heap.size w w' := by
  by_cases h0 : RES.1.2 = 0
  · obtain ⟨a', n', c', P, e, k⟩ := hT.2 h0
    cases e
    exact h.put pa pn pc P ops ow hR h0 k
  · have e := hT.1 h0
    cases e
    rw [hE h0]
    exact h.put0
def rwl2 (m : Ov) : List Value := [.int .i64 m.o.k, .int .i64 m.o.r, .string (tx m.o.n), .string (tx m.o.v), .slice m.la m.ln m.lc]
theorem inOvTwo {w : World} {g : Nat} {x y : Ov} {t : TypeId} (h : w.heap[g]? = some (.cells #[.int .i64 x.o.k, .int .i64 x.o.r, .string (tx x.o.n), .string (tx x.o.v), .slice x.la x.ln x.lc, .int .i64 y.o.k, .int .i64 y.o.r, .string (tx y.o.n), .string (tx y.o.v), .slice y.la y.ln y.lc] t)) (hx : OvOk w x) (hy : OvOk w y) : InOv w (some ⟨g, 0, none⟩) [x, y] := by
  refine .inr ⟨g, 0, rfl, lt_of_heapK h, fun i z hz => ?_⟩
  rcases i with _ | _ | i
  · simp only [List.getElem?_cons_zero, Option.some.injEq] at hz
    subst hz
    refine ⟨fun k v hv => ?_, hx⟩
    have hk : k < 5 := by
      have := (List.getElem?_eq_some_iff.1 hv).1
      simpa [ovl] using this
    rw [show (⟨g, 0 + 0 * 5 + k, none⟩ : Addr) = ⟨g, k, none⟩ by simp]
    simp only [World.cell?, h]
    rcases k with _ | _ | _ | _ | _ | k
    all_goals first | omega | (simp [ovl] at hv; simp [hv])
  · simp only [List.getElem?_cons_succ, List.getElem?_cons_zero, Option.some.injEq] at hz
    subst hz
    refine ⟨fun k v hv => ?_, hy⟩
    have hk : k < 5 := by
      have := (List.getElem?_eq_some_iff.1 hv).1
      simpa [ovl] using this
    rw [show (⟨g, 0 + (0 + 1) * 5 + k, none⟩ : Addr) = ⟨g, 5 + k, none⟩ by simp]
    simp only [World.cell?, h]
    rcases k with _ | _ | _ | _ | _ | k
    all_goals first | omega | (simp [ovl] at hv; simp [hv])
  · simp at hz
theorem two_ok {w w' : World} {a : Option Addr} {l : List Ov} (h : InOv w a l) (i : Nat) (x : Ov) (hx : l[i]? = some x) (hb : Below w.heap.size w w') : OvOk w' x := by
  obtain ⟨_, _, _, _, _, k⟩ := h.at hx
  exact k.keep hb
theorem order_plain {st : Int → List Pc} {ow : Int} {o1 o2 : Op5} (hr : o1.r ≠ o2.r) (hoff : Off6 st) {kx ky ka kb : Nat} {Ex Ey Ea Eb : Int} {sx sy sa sb : Int → List Pc} (hx : allR ow st [o1, o2] = ((kx, Ex), sx)) (hy : allR ow st [o2, o1] = ((ky, Ey), sy)) (ha : allR ow st [o1] = ((ka, Ea), sa)) (hb : allR ow sa [o2] = ((kb, Eb), sb)) :
    (Ea ≠ 0 → sa = st) ∧ Off6 sa ∧ ((Ex = 0 ∧ Ey = 0 ∧ Ea = 0 ∧ Eb = 0 ∧ sx = sy ∧ sx = sb ∧ (rts [o1, o2]).length = 2) ∨ (Ex ≠ 0 ∧ Ey ≠ 0 ∧ (Ea ≠ 0 ∨ Eb ≠ 0))) := by
  have hos : Off6 sa := by
    have := allR_off (ow := ow) (ops := [o1]) hoff
    rw [ha] at this
    exact this
  rw [two_plain hr] at hx
  rw [two_plain (fun e => hr e.symm)] at hy
  rw [allR_one] at ha hb
  by_cases h1 : doE (st o1.r) ow o1 = 0
  · rw [if_neg (fun h => h h1)] at hx ha
    cases ha
    rw [upd_other _ _ (fun e => hr e.symm)] at hb
    by_cases h2 : doE (st o2.r) ow o2 = 0
    · rw [if_neg (fun h => h h2)] at hx hy hb
      rw [if_neg (fun h => h h1)] at hy
      cases hx; cases hy; cases hb
      exact ⟨fun h => absurd rfl h, hos, .inl ⟨rfl, rfl, rfl, rfl, upd_comm _ hr _ _, rfl, rts_two (doE_root h1) (doE_root h2) hr⟩⟩
    · rw [if_pos h2] at hx hy hb
      cases hx; cases hy; cases hb
      exact ⟨fun h => absurd rfl h, hos, .inr ⟨h2, h2, .inr h2⟩⟩
  · rw [if_pos h1] at hx ha
    cases ha; cases hx
    refine ⟨fun _ => rfl, hos, .inr ⟨h1, ?_, .inl h1⟩⟩
    by_cases h2 : doE (st o2.r) ow o2 = 0
    · rw [if_neg (fun h => h h2), if_pos h1] at hy
      cases hy
      exact h1
    · rw [if_pos h2] at hy
      cases hy
      exact h2
set_option maxRecDepth 100000 in
set_option maxHeartbeats 16000000 in
theorem planOrder_walk (a : Option Addr) (n c : Nat) (L : List Sr) (ow : Int) (x y : Rv) (w : World) (h0 : SrsIn w a n c L) (hx : RvOk w x) (hy : RvOk w y) :
    Calls Tryd.prog 5 #[.slice a n c, .int .i64 ow, .agg (rwl x ++ rwl y).toArray] w fun e w' => e = .returned (.bool true) ∧ Below w.heap.size w w' := by
  have KW : Hid (∀ W, Calls Tryd.prog 14 #[] W fun e w' => e = .returned (.bool true) ∧ Below W.heap.size W w') := pworks_true
  obtain ⟨cs, hcs⟩ : ∃ cs, cs = (rwl x ++ rwl y).toArray := ⟨_, rfl⟩
  obtain ⟨b, hb⟩ : ∃ b, b = w.heap.size := ⟨_, rfl⟩
  obtain ⟨W0, hW0⟩ : ∃ W0, W0 = w.alloc (.cells cs 47) := ⟨_, rfl⟩
  have HE : Hid (w.alloc (.cells cs 47) = W0 ∧ b = w.heap.size) := ⟨hW0.symm, hb⟩
  have B0 : Hid (Below w.heap.size w W0) := by rw [hW0]; exact below1 w _
  have KS : Hid (Calls Tryd.prog 7 #[.slice a n c] W0 fun e w' => ∃ a' n' c' S, e = .returned (.slice a' n' c') ∧ StIn w' a' n' S (fun r => (stk S r).co) ∧ Below W0.heap.size W0 w') := by
    refine (stacksOf_is W0 a n c L ⟨h0.1, h0.2.1, h0.2.2.keep B0.out⟩).mono ?_
    rintro e w' ⟨a', n', c', S, rfl, h1, h2, h3, h4, h5, h6, h7, h8⟩
    exact ⟨a', n', c', S, rfl, ⟨h5, h1, fun x hx => (h6 x hx).ok, h2, rfl⟩, h8⟩
  have KO : Hid (∀ W, Below W0.heap.size W0 W → Calls Tryd.prog 9 #[.slice (some ⟨b, 0, none⟩) 2 2] W fun e w' => ∃ g off c' m1 m2, e = .returned (.slice (some ⟨g, off, none⟩) 2 c') ∧ InOv w' (some ⟨g, off, none⟩) [m1, m2] ∧ 2 ≤ c' ∧ c' ≤ 9223372036854775807 ∧ Below W.heap.size W w') := fun W hW => by
    have hq : W.heap[b]? = some (.cells (rwl x ++ rwl y).toArray 47) := by
      rw [← hcs]
      have h1 : W0.heap[b]? = some (.cells cs 47) := by rw [hW0, hb]; exact heap_alloc_new w _
      exact (hW.block b (lt_of_heapK h1)).trans h1
    have hw := B0.out.trans (hW.mono B0.out.size)
    refine (opsOf_is W _ 2 2 [x, y] rfl (inRv2 hq (hx.keep hw) (hy.keep hw)) (by omega)).mono ?_
    rintro e w' ⟨a', c', M, rfl, h1, h2, h3, h4, h5, h6⟩
    have hl : M.length = 2 := by rw [← List.length_map (f := Ov.o), h4]; rfl
    obtain ⟨m1, m2, rfl⟩ : ∃ m1 m2, M = [m1, m2] := by
      match M, hl with
      | [m1, m2], _ => exact ⟨m1, m2, rfl⟩
    rcases h1 with h1 | ⟨g, off, rfl, h⟩
    · cases h1
    · exact ⟨g, off, c', m1, m2, rfl, .inr ⟨g, off, rfl, h⟩, h2, h3, h5⟩
  rw [← hcs]
  clear h0 hx hy hcs hW0
  go_enter Tryd.func5, Tryd.ntmps5
  clear hb
  go_wp2_with fail
  rw [HE.out.1, ← HE.out.2]
  refine KS.out.mono ?_
  rintro e w1 ⟨a1, n1, c1, S, rfl, s1, b1⟩
  have B1 : Hid (Below W0.heap.size W0 w1) := b1
  obtain ⟨st, hst⟩ : ∃ st, st = fun r => (stk S r).co := ⟨_, rfl⟩
  rw [← hst] at s1
  have HS : Hid (StIn w1 a1 n1 S st) := s1
  clear s1 b1 hst KS
  go_wp2_with fail
  refine (KO.out w1 B1.out).mono ?_
  rintro e w2 ⟨g, off, c2, m1, m2, rfl, o1, o4, o5, b2⟩
  have B2 : Hid (Below w.heap.size w w2) := B0.out.trans ((B1.out.trans (b2.mono B1.out.size)).mono B0.out.size)
  have HS2 : Hid (StIn w2 a1 n1 S st) := HS.out.keep b2
  have HO : Hid (InOv w2 (some ⟨g, off, none⟩) [m1, m2] ∧ 2 ≤ c2 ∧ c2 ≤ 9223372036854775807) := ⟨o1, o4, o5⟩
  obtain ⟨b', off', e', _, hc1, _⟩ := o1.at (i := 0) (x := m1) rfl
  obtain ⟨b'', off'', e'', _, hc2, _⟩ := o1.at (i := 1) (x := m2) rfl
  cases e'; cases e''
  have HM : Hid (∀ W, Below w2.heap.size w2 W → W.cell? ⟨g, off, none⟩ = some (.int .i64 m1.o.k) ∧ W.cell? ⟨g, off + 1, none⟩ = some (.int .i64 m1.o.r) ∧ W.cell? ⟨g, off + 2, none⟩ = some (.string (tx m1.o.n)) ∧ W.cell? ⟨g, off + 3, none⟩ = some (.string (tx m1.o.v)) ∧ W.cell? ⟨g, off + 4, none⟩ = some (.slice m1.la m1.ln m1.lc) ∧ W.cell? ⟨g, off + 5, none⟩ = some (.int .i64 m2.o.k) ∧ W.cell? ⟨g, off + 5 + 1, none⟩ = some (.int .i64 m2.o.r) ∧ W.cell? ⟨g, off + 5 + 2, none⟩ = some (.string (tx m2.o.n)) ∧ W.cell? ⟨g, off + 5 + 3, none⟩ = some (.string (tx m2.o.v)) ∧ W.cell? ⟨g, off + 5 + 4, none⟩ = some (.slice m2.la m2.ln m2.lc)) := fun W hW => by
    refine ⟨?_, ?_, ?_, ?_, ?_, ?_, ?_, ?_, ?_, ?_⟩
    · simpa using hc1 W hW 0 _ rfl
    · simpa using hc1 W hW 1 _ rfl
    · simpa using hc1 W hW 2 _ rfl
    · simpa using hc1 W hW 3 _ rfl
    · simpa using hc1 W hW 4 _ rfl
    · simpa using hc2 W hW 0 _ rfl
    · simpa using hc2 W hW 1 _ rfl
    · simpa using hc2 W hW 2 _ rfl
    · simpa using hc2 W hW 3 _ rfl
    · simpa using hc2 W hW 4 _ rfl
  clear o1 o4 o5 b2 KO HS hc1 hc2
  obtain ⟨_, d1, _, _, _, _, f1, _, _, _⟩ := HM.out w2 (Below.refl _ _)
  by_cases hr : m1.o.r = m2.o.r
  · have e1 : (m1.o.r == m2.o.r) = true := by rw [hr]; simp
    have e2 : decide (m1.o.r = m2.o.r) = true := decide_eq_true hr
    clear hr
    go_wp2_with fail
    go_quiet (fail)
    go_wp2_with fail
    refine (KW.out _).mono ?_
    rintro e w4 ⟨rfl, b4⟩
    have B4 : Hid (Below w.heap.size w w4) := (below_drewN B2.out nq).trans (b4.mono (by have := B2.out.size; simpa using this))
    clear b4
    go_wp2_with fail
    go_ret
    exact ⟨rfl, B4.out⟩
  have e1 : (m1.o.r == m2.o.r) = false := by simp [hr]
  have e2 : decide (m1.o.r = m2.o.r) = false := decide_eq_false hr
  have HR : Hid (m1.o.r ≠ m2.o.r) := hr
  clear hr
  obtain ⟨⟨⟨kx, Ex⟩, sx⟩, hRx⟩ : ∃ RES, allR ow st [m1.o, m2.o] = RES := ⟨_, rfl⟩
  obtain ⟨⟨⟨ky, Ey⟩, sy⟩, hRy⟩ : ∃ RES, allR ow st [m2.o, m1.o] = RES := ⟨_, rfl⟩
  obtain ⟨⟨⟨ka, Ea⟩, sa⟩, hRa⟩ : ∃ RES, allR ow st [m1.o] = RES := ⟨_, rfl⟩
  obtain ⟨⟨⟨kb, Eb⟩, sb⟩, hRb⟩ : ∃ RES, allR ow sa [m2.o] = RES := ⟨_, rfl⟩
  have HRES : Hid (allR ow st [m1.o, m2.o] = ((kx, Ex), sx) ∧ allR ow st [m2.o, m1.o] = ((ky, Ey), sy) ∧ allR ow st [m1.o] = ((ka, Ea), sa) ∧ allR ow sa [m2.o] = ((kb, Eb), sb)) := ⟨hRx, hRy, hRa, hRb⟩
  have HPL : Hid ((Ea ≠ 0 → sa = st) ∧ Off6 sa ∧ ((Ex = 0 ∧ Ey = 0 ∧ Ea = 0 ∧ Eb = 0 ∧ sx = sy ∧ sx = sb ∧ (rts [m1.o, m2.o]).length = 2) ∨ (Ex ≠ 0 ∧ Ey ≠ 0 ∧ (Ea ≠ 0 ∨ Eb ≠ 0)))) := order_plain HR.out HS2.out.off hRx hRy hRa hRb
  clear hRx hRy hRa hRb
  go_wp2_with fail
  go_quiet (fail)
  have X3 : Hid (Below w2.heap.size w2 (w2.drewN nq)) := below_drewN (Below.refl _ _) nq
  generalize w2.drewN nq = w3 at *
  have KX : Hid (Calls Tryd.prog 8 #[.slice a1 n1 c1, .int .i64 ow, .slice (some ⟨g, off, none⟩) 2 c2] w3 fun e w' => ∃ V, e = .returned (.tuple #[V, .int .i64 (kx : Int), .int .i64 Ex]) ∧ Tol w' V [m1.o, m2.o] ((kx, Ex), sx) ∧ Below w3.heap.size w3 w') :=
    (HS2.out.keep X3.out).allT ow _ 2 c2 [m1, m2] (HO.out.1.keep X3.out) rfl (by omega) HRES.out.1
  go_wp2_with fail
  refine KX.out.mono ?_
  rintro e w4 ⟨VX, rfl, tx4, b4⟩
  have X4 : Hid (Below w2.heap.size w2 w4) := X3.out.trans (b4.mono X3.out.size)
  have HX4 : Hid (Tol w4 VX [m1.o, m2.o] ((kx, Ex), sx)) := tx4
  have KY : Hid (∀ W gy, Below w4.heap.size w4 W → W.heap[gy]? = some (.cells #[.int .i64 m2.o.k, .int .i64 m2.o.r, .string (tx m2.o.n), .string (tx m2.o.v), .slice m2.la m2.ln m2.lc, .int .i64 m1.o.k, .int .i64 m1.o.r, .string (tx m1.o.n), .string (tx m1.o.v), .slice m1.la m1.ln m1.lc] 46) → Calls Tryd.prog 8 #[.slice a1 n1 c1, .int .i64 ow, .slice (some ⟨gy, 0, none⟩) 2 2] W fun e w' => ∃ V, e = .returned (.tuple #[V, .int .i64 (ky : Int), .int .i64 Ey]) ∧ Tol w' V [m2.o, m1.o] ((ky, Ey), sy) ∧ Below W.heap.size W w') := fun W gy hW hg =>
    (HS2.out.keep (X4.out.trans (hW.mono X4.out.size))).allT ow _ 2 2 [m2, m1] (inOvTwo hg (two_ok HO.out.1 1 m2 rfl (X4.out.trans (hW.mono X4.out.size))) (two_ok HO.out.1 0 m1 rfl (X4.out.trans (hW.mono X4.out.size)))) rfl (by omega) HRES.out.2.1
  clear tx4 b4 KX X3
  go_upto_region 6 with fail
  go_cut [11, 12, 13] from 43 to 56 (fun v11 v12 v13 wx => v12 = .int .i64 (ky : Int) ∧ v13 = .int .i64 Ey ∧ Hid (Tol wx v11 [m2.o, m1.o] ((ky, Ey), sy) ∧ Below w4.heap.size w4 wx))
  case first =>
    refine wp_region_noPanic ?_
    refine wp_region_held_drew (S := (fun W : World => Below w4.heap.size w4 W)) (by kernel_rfl) ?hSaa (fun hHeld => ?restaa)
    case hSaa => exact (Below.refl _ w4).drew
    case restaa =>
      refine wpAnyH_take (i := 0) (v := .slice a1 n1 c1) rfl (by kernel_rfl) (by kernel_rfl) (by kernel_rfl) (fun _ _ _ h => h) (Or.inl ⟨by kernel_rfl, ?hy0a⟩) hHeld ?rest0a
      case hy0a => (intro w' hSw; (try dsimp only at hSw); go_simp; try with_reducible rfl)
      try simp only [Act.put, List.setIfInBounds_toArray, List.set_cons_zero, List.set_cons_succ, List.getElem_toArray, List.getElem_cons_zero, List.getElem_cons_succ]
      refine wpAnyH_take (i := 1) (v := .int .i64 ow) rfl (by kernel_rfl) (by kernel_rfl) (by kernel_rfl) (fun _ _ _ h => h) (Or.inl ⟨by kernel_rfl, ?hy1a⟩) hHeld ?rest1a
      case hy1a => (intro w' hSw; (try dsimp only at hSw); go_simp; try with_reducible rfl)
      try simp only [Act.put, List.setIfInBounds_toArray, List.set_cons_zero, List.set_cons_succ, List.getElem_toArray, List.getElem_cons_zero, List.getElem_cons_succ]
      refine wpAnyH_take (i := 2) (v := .slice (some ⟨g, off, none⟩) 2 c2) rfl (by kernel_rfl) (by kernel_rfl) (by kernel_rfl) (fun _ _ _ h => h) (Or.inl ⟨by kernel_rfl, ?hy2a⟩) hHeld ?rest2a
      case hy2a => (intro w' hSw; (try dsimp only at hSw); go_simp; try with_reducible rfl)
      try simp only [Act.put, List.setIfInBounds_toArray, List.set_cons_zero, List.set_cons_succ, List.getElem_toArray, List.getElem_cons_zero, List.getElem_cons_succ]
      refine wpAnyH_take (i := 3) (v := .pointer (some ⟨g, off + 5, none⟩)) rfl (by kernel_rfl) (by kernel_rfl) (by kernel_rfl) (fun _ _ _ h => h) (Or.inl ⟨by kernel_rfl, ?hy3a⟩) hHeld ?rest3a
      case hy3a => (intro w' hSw; (try dsimp only at hSw); go_simp; try with_reducible rfl)
      try simp only [Act.put, List.setIfInBounds_toArray, List.set_cons_zero, List.set_cons_succ, List.getElem_toArray, List.getElem_cons_zero, List.getElem_cons_succ]
      refine wpAnyH_take (i := 4) (v := .agg #[.int .i64 m2.o.k, .int .i64 m2.o.r, .string (tx m2.o.n), .string (tx m2.o.v), .slice m2.la m2.ln m2.lc]) rfl (by kernel_rfl) (by kernel_rfl) (by kernel_rfl) (fun _ _ _ h => h) (Or.inl ⟨by kernel_rfl, ?hy4a⟩) hHeld ?rest4a
      case hy4a => (intro w' hSw; (try dsimp only at hSw); obtain ⟨p0, p1, p2, p3, p4, p5, p6, p7, p8, p9⟩ := HM.out _ (X4.out.trans (hSw.mono X4.out.size)); go_simp; try with_reducible rfl)
      try simp only [Act.put, List.setIfInBounds_toArray, List.set_cons_zero, List.set_cons_succ, List.getElem_toArray, List.getElem_cons_zero, List.getElem_cons_succ]
      refine wpAnyH_take (i := 5) (v := .slice (some ⟨g, off, none⟩) 2 c2) rfl (by kernel_rfl) (by kernel_rfl) (by kernel_rfl) (fun _ _ _ h => h) (Or.inl ⟨by kernel_rfl, ?hy5a⟩) hHeld ?rest5a
      case hy5a => (intro w' hSw; (try dsimp only at hSw); go_simp; try with_reducible rfl)
      try simp only [Act.put, List.setIfInBounds_toArray, List.set_cons_zero, List.set_cons_succ, List.getElem_toArray, List.getElem_cons_zero, List.getElem_cons_succ]
      refine wpAnyH_take (i := 6) (v := .pointer (some ⟨g, off, none⟩)) rfl (by kernel_rfl) (by kernel_rfl) (by kernel_rfl) (fun _ _ _ h => h) (Or.inl ⟨by kernel_rfl, ?hy6a⟩) hHeld ?rest6a
      case hy6a => (intro w' hSw; (try dsimp only at hSw); go_simp; try with_reducible rfl)
      try simp only [Act.put, List.setIfInBounds_toArray, List.set_cons_zero, List.set_cons_succ, List.getElem_toArray, List.getElem_cons_zero, List.getElem_cons_succ]
      refine wpAnyH_take (i := 7) (v := .agg #[.int .i64 m1.o.k, .int .i64 m1.o.r, .string (tx m1.o.n), .string (tx m1.o.v), .slice m1.la m1.ln m1.lc]) rfl (by kernel_rfl) (by kernel_rfl) (by kernel_rfl) (fun _ _ _ h => h) (Or.inl ⟨by kernel_rfl, ?hy7a⟩) hHeld ?rest7a
      case hy7a => (intro w' hSw; (try dsimp only at hSw); obtain ⟨p0, p1, p2, p3, p4, p5, p6, p7, p8, p9⟩ := HM.out _ (X4.out.trans (hSw.mono X4.out.size)); go_simp; try with_reducible rfl)
      try simp only [Act.put, List.setIfInBounds_toArray, List.set_cons_zero, List.set_cons_succ, List.getElem_toArray, List.getElem_cons_zero, List.getElem_cons_succ]
      refine wpAnyH_ready (rs := [8]) (by kernel_rfl) (by simp) ?_
      refine AllReadyH.cons rfl (fun K hK => ?_) AllReadyH.nil
      go_wp2_with fail
      have A1 : Hid (Below w4.heap.size w4 (w4.drew.alloc (.cells #[.int .i64 m2.o.k, .int .i64 m2.o.r, .string (tx m2.o.n), .string (tx m2.o.v), .slice m2.la m2.ln m2.lc, .int .i64 m1.o.k, .int .i64 m1.o.r, .string (tx m1.o.n), .string (tx m1.o.v), .slice m1.la m1.ln m1.lc] 46))) := ((Below.refl _ w4).drew).alloc (Nat.le_refl _) _
      refine hK.out _ _ ?hS8a (fun hHeld => ?rest8a)
      case hS8a => exact A1.out
      clear hK K
      try simp only [Act.put, List.setIfInBounds_toArray, List.set_cons_zero, List.set_cons_succ, List.getElem_toArray, List.getElem_cons_zero, List.getElem_cons_succ]
      refine wpAnyH_ready (rs := [9]) (by kernel_rfl) (by simp) ?_
      refine AllReadyH.cons rfl (fun K hK => ?_) AllReadyH.nil
      go_simp
      refine (KY.out _ _ A1.out (heap_alloc_new w4.drew _)).mono ?_
      rintro e5 w5 ⟨VY, rfl, ty, b5⟩
      have Y5 : Hid (Tol w5 VY [m2.o, m1.o] ((ky, Ey), sy) ∧ Below w4.heap.size w4 w5) := ⟨ty, A1.out.trans (b5.mono A1.out.size)⟩
      clear ty b5
      go_wp2_with fail
      refine hK.out _ _ ?hS9a (fun hHeld => ?rest9a)
      case hS9a => exact Y5.out.2
      clear hK K
      try simp only [Act.put, List.setIfInBounds_toArray, List.set_cons_zero, List.set_cons_succ, List.getElem_toArray, List.getElem_cons_zero, List.getElem_cons_succ]
      refine wpAnyH_take (i := 10) (v := .tuple #[VY, .int .i64 (ky : Int), .int .i64 Ey]) rfl (by kernel_rfl) (by kernel_rfl) (by kernel_rfl) (fun _ _ _ h => h) (Or.inl ⟨by kernel_rfl, ?hy10a⟩) hHeld ?rest10a
      case hy10a => (intro w' hSw; (try dsimp only at hSw); go_simp; try with_reducible rfl)
      try simp only [Act.put, List.setIfInBounds_toArray, List.set_cons_zero, List.set_cons_succ, List.getElem_toArray, List.getElem_cons_zero, List.getElem_cons_succ]
      refine wpAnyH_take (i := 11) (v := VY) rfl (by kernel_rfl) (by kernel_rfl) (by kernel_rfl) (fun _ _ _ h => h) (Or.inl ⟨by kernel_rfl, ?hy11a⟩) hHeld ?rest11a
      case hy11a => (intro w' hSw; (try dsimp only at hSw); go_simp; try with_reducible rfl)
      try simp only [Act.put, List.setIfInBounds_toArray, List.set_cons_zero, List.set_cons_succ, List.getElem_toArray, List.getElem_cons_zero, List.getElem_cons_succ]
      refine wpAnyH_take (i := 12) (v := .int .i64 (ky : Int)) rfl (by kernel_rfl) (by kernel_rfl) (by kernel_rfl) (fun _ _ _ h => h) (Or.inl ⟨by kernel_rfl, ?hy12a⟩) hHeld ?rest12a
      case hy12a => (intro w' hSw; (try dsimp only at hSw); go_simp; try with_reducible rfl)
      try simp only [Act.put, List.setIfInBounds_toArray, List.set_cons_zero, List.set_cons_succ, List.getElem_toArray, List.getElem_cons_zero, List.getElem_cons_succ]
      refine wpAnyH_take (i := 13) (v := .int .i64 Ey) rfl (by kernel_rfl) (by kernel_rfl) (by kernel_rfl) (fun _ _ _ h => h) (Or.inl ⟨by kernel_rfl, ?hy13a⟩) hHeld ?rest13a
      case hy13a => (intro w' hSw; (try dsimp only at hSw); go_simp; try with_reducible rfl)
      try simp only [Act.put, List.setIfInBounds_toArray, List.set_cons_zero, List.set_cons_succ, List.getElem_toArray, List.getElem_cons_zero, List.getElem_cons_succ]
      refine wpAnyH_take (i := 14) (v := VY) rfl (by kernel_rfl) (by kernel_rfl) (by kernel_rfl) (fun _ _ _ h => h) (Or.inl ⟨by kernel_rfl, ?hy14a⟩) hHeld ?rest14a
      case hy14a => (intro w' hSw; (try dsimp only at hSw); go_simp; try with_reducible rfl)
      try simp only [Act.put, List.setIfInBounds_toArray, List.set_cons_zero, List.set_cons_succ, List.getElem_toArray, List.getElem_cons_zero, List.getElem_cons_succ]
      refine wpAnyH_take (i := 15) (v := .int .i64 (ky : Int)) rfl (by kernel_rfl) (by kernel_rfl) (by kernel_rfl) (fun _ _ _ h => h) (Or.inl ⟨by kernel_rfl, ?hy15a⟩) hHeld ?rest15a
      case hy15a => (intro w' hSw; (try dsimp only at hSw); go_simp; try with_reducible rfl)
      try simp only [Act.put, List.setIfInBounds_toArray, List.set_cons_zero, List.set_cons_succ, List.getElem_toArray, List.getElem_cons_zero, List.getElem_cons_succ]
      refine wpAnyH_take (i := 16) (v := .int .i64 Ey) rfl (by kernel_rfl) (by kernel_rfl) (by kernel_rfl) (fun _ _ _ h => h) (Or.inl ⟨by kernel_rfl, ?hy16a⟩) hHeld ?rest16a
      case hy16a => (intro w' hSw; (try dsimp only at hSw); go_simp; try with_reducible rfl)
      try simp only [Act.put, List.setIfInBounds_toArray, List.set_cons_zero, List.set_cons_succ, List.getElem_toArray, List.getElem_cons_zero, List.getElem_cons_succ]
      refine wpAnyH_done (by kernel_rfl) ?_ _
      refine NoPanic.normal ?_
      try go_wp2_with fail
      go_meet
      case rel => exact ⟨rfl, rfl, Y5.out⟩
  obtain ⟨w5, rfl⟩ : ∃ w5, w5 = wc := ⟨_, rfl⟩
  obtain ⟨rfl, rfl, Y5⟩ := hcut
  have B5 : Hid (Below w.heap.size w w5) := B2.out.trans ((X4.out.trans (Y5.out.2.mono X4.out.size)).mono B2.out.size)
  have X5 : Hid (Below w2.heap.size w2 w5) := X4.out.trans (Y5.out.2.mono X4.out.size)
  have TX5 : Hid (Tol w5 VX [m1.o, m2.o] ((kx, Ex), sx)) := HX4.out.keep Y5.out.2
  have KA : Hid (Calls Tryd.prog 8 #[.slice a1 n1 c1, .int .i64 ow, .slice (some ⟨g, off, none⟩) 1 c2] w5 fun e w' => ∃ V, e = .returned (.tuple #[V, .int .i64 (ka : Int), .int .i64 Ea]) ∧ Tol w' V [m1.o] ((ka, Ea), sa) ∧ Below w5.heap.size w5 w') :=
    (HS2.out.keep X5.out).allT ow _ 1 c2 [m1] ((HO.out.1.keep X5.out).take 1) rfl (by omega) HRES.out.2.2.1
  have q1 : (0 : Int) ≤ 1 ∧ (1 : Int) ≤ (c2 : Int) := by have := HO.out.2.1; omega
  have q2 : ¬ c2 = 1 := by have := HO.out.2.1; omega
  have q3 : ¬ c2 = 0 := by have := HO.out.2.1; omega
  go_wp2_with fail
  refine KA.out.mono ?_
  rintro e w6 ⟨VA, rfl, ta, b6⟩
  obtain ⟨aa, an, ac, hVA⟩ := ta.slice
  subst hVA
  have X6 : Hid (Below w5.heap.size w5 w6) := b6
  have KB1 : Hid (∀ W, Below w6.heap.size w6 W → Calls Tryd.prog 16 #[.slice a1 n1 c1, .slice aa an ac] W fun e w' => ∃ g T, e = .returned (.slice (some ⟨g, 0, none⟩) 6 6) ∧ S6 w' g T sa ∧ Below W.heap.size W w') := fun W hW =>
    (HS2.out.keep ((X5.out.trans (b6.mono X5.out.size)).trans (hW.mono (X5.out.trans (b6.mono X5.out.size)).size))).putT aa an ac [m1.o] ow HRES.out.2.2.1 (ta.keep hW) HPL.out.1
  have TA6 : Hid (Tol w6 (.slice aa an ac) [m1.o] ((ka, Ea), sa)) := ta
  clear ta b6 KA q1 q2 q3
  go_upto_region 8 with fail
  go_cut [17, 18, 19] from 66 to 76 (fun v17 v18 v19 wx => v18 = .int .i64 (kb : Int) ∧ v19 = .int .i64 Eb ∧ Hid (Tol wx v17 [m2.o] ((kb, Eb), sb) ∧ Below w6.heap.size w6 wx))
  case first =>
    refine wp_region_noPanic ?_
    refine wp_region_held_drew (S := (fun W : World => Below w6.heap.size w6 W)) (by kernel_rfl) ?hSab (fun hHeld => ?restab)
    case hSab => exact (Below.refl _ w6).drew
    case restab =>
      refine wpAnyH_take (i := 0) (v := .slice a1 n1 c1) rfl (by kernel_rfl) (by kernel_rfl) (by kernel_rfl) (fun _ _ _ h => h) (Or.inl ⟨by kernel_rfl, ?hy0b⟩) hHeld ?rest0b
      case hy0b => (intro w' hSw; (try dsimp only at hSw); go_simp; try with_reducible rfl)
      try simp only [Act.put, List.setIfInBounds_toArray, List.set_cons_zero, List.set_cons_succ, List.getElem_toArray, List.getElem_cons_zero, List.getElem_cons_succ]
      refine wpAnyH_take (i := 1) (v := .slice aa an ac) rfl (by kernel_rfl) (by kernel_rfl) (by kernel_rfl) (fun _ _ _ h => h) (Or.inl ⟨by kernel_rfl, ?hy1b⟩) hHeld ?rest1b
      case hy1b => (intro w' hSw; (try dsimp only at hSw); go_simp; try with_reducible rfl)
      try simp only [Act.put, List.setIfInBounds_toArray, List.set_cons_zero, List.set_cons_succ, List.getElem_toArray, List.getElem_cons_zero, List.getElem_cons_succ]
      refine wpAnyH_take (i := 3) (v := .int .i64 ow) rfl (by kernel_rfl) (by kernel_rfl) (by kernel_rfl) (fun _ _ _ h => h) (Or.inl ⟨by kernel_rfl, ?hy3b⟩) hHeld ?rest3b
      case hy3b => (intro w' hSw; (try dsimp only at hSw); go_simp; try with_reducible rfl)
      try simp only [Act.put, List.setIfInBounds_toArray, List.set_cons_zero, List.set_cons_succ, List.getElem_toArray, List.getElem_cons_zero, List.getElem_cons_succ]
      refine wpAnyH_take (i := 4) (v := .slice (some ⟨g, off, none⟩) 2 c2) rfl (by kernel_rfl) (by kernel_rfl) (by kernel_rfl) (fun _ _ _ h => h) (Or.inl ⟨by kernel_rfl, ?hy4b⟩) hHeld ?rest4b
      case hy4b => (intro w' hSw; (try dsimp only at hSw); go_simp; try with_reducible rfl)
      try simp only [Act.put, List.setIfInBounds_toArray, List.set_cons_zero, List.set_cons_succ, List.getElem_toArray, List.getElem_cons_zero, List.getElem_cons_succ]
      refine wpAnyH_take (i := 5) (v := .slice (some ⟨g, off + 5, none⟩) 1 (c2 - 1)) rfl (by kernel_rfl) (by kernel_rfl) (by kernel_rfl) (fun _ _ _ h => h) (Or.inl ⟨by kernel_rfl, ?hy5b⟩) hHeld ?rest5b
      case hy5b => (intro w' hSw; (try dsimp only at hSw); go_simp; (try exact fun h => by have := HO.out.2.1; omega); try with_reducible rfl)
      try simp only [Act.put, List.setIfInBounds_toArray, List.set_cons_zero, List.set_cons_succ, List.getElem_toArray, List.getElem_cons_zero, List.getElem_cons_succ]
      refine wpAnyH_ready (rs := [2]) (by kernel_rfl) (by simp) ?_
      refine AllReadyH.cons rfl (fun K hK => ?_) AllReadyH.nil
      go_simp
      refine (KB1.out _ (Below.refl _ w6).drew).mono ?_
      rintro e7 w7 ⟨g7, T7, rfl, t7, b7⟩
      have X7 : Hid (Below w6.heap.size w6 w7 ∧ S6 w7 g7 T7 sa) := ⟨(Below.refl _ w6).drew.trans b7, t7⟩
      clear t7 b7
      go_wp2_with fail
      refine hK.out _ _ ?hS2b (fun hHeld => ?rest2b)
      case hS2b => exact X7.out.1
      clear hK K
      try simp only [Act.put, List.setIfInBounds_toArray, List.set_cons_zero, List.set_cons_succ, List.getElem_toArray, List.getElem_cons_zero, List.getElem_cons_succ]
      have KB2 : Hid (Calls Tryd.prog 8 #[.slice (some ⟨g7, 0, none⟩) 6 6, .int .i64 ow, .slice (some ⟨g, off + 5, none⟩) 1 (c2 - 1)] w7 fun e w' => ∃ V, e = .returned (.tuple #[V, .int .i64 (kb : Int), .int .i64 Eb]) ∧ Tol w' V [m2.o] ((kb, Eb), sb) ∧ Below w7.heap.size w7 w') := by
        have ho : InOv w7 (some ⟨g, off + 5, none⟩) [m2] := (HO.out.1.keep ((X5.out.trans (X6.out.mono X5.out.size)).trans (X7.out.1.mono (X5.out.trans (X6.out.mono X5.out.size)).size))).one (i := 1) rfl
        exact (X7.out.2.stIn HPL.out.2.1).allT ow _ 1 (c2 - 1) [m2] ho rfl (by omega) HRES.out.2.2.2
      refine wpAnyH_ready (rs := [6]) (by kernel_rfl) (by simp) ?_
      refine AllReadyH.cons rfl (fun K hK => ?_) AllReadyH.nil
      go_simp
      refine KB2.out.mono ?_
      rintro e8 w8 ⟨VB, rfl, tb, b8⟩
      have X8 : Hid (Tol w8 VB [m2.o] ((kb, Eb), sb) ∧ Below w6.heap.size w6 w8) := ⟨tb, X7.out.1.trans (b8.mono X7.out.1.size)⟩
      clear tb b8
      go_wp2_with fail
      refine hK.out _ _ ?hS6b (fun hHeld => ?rest6b)
      case hS6b => exact X8.out.2
      clear hK K
      try simp only [Act.put, List.setIfInBounds_toArray, List.set_cons_zero, List.set_cons_succ, List.getElem_toArray, List.getElem_cons_zero, List.getElem_cons_succ]
      refine wpAnyH_take (i := 7) (v := .tuple #[VB, .int .i64 (kb : Int), .int .i64 Eb]) rfl (by kernel_rfl) (by kernel_rfl) (by kernel_rfl) (fun _ _ _ h => h) (Or.inl ⟨by kernel_rfl, ?hy7b⟩) hHeld ?rest7b
      case hy7b => (intro w' hSw; (try dsimp only at hSw); go_simp; try with_reducible rfl)
      try simp only [Act.put, List.setIfInBounds_toArray, List.set_cons_zero, List.set_cons_succ, List.getElem_toArray, List.getElem_cons_zero, List.getElem_cons_succ]
      refine wpAnyH_take (i := 8) (v := VB) rfl (by kernel_rfl) (by kernel_rfl) (by kernel_rfl) (fun _ _ _ h => h) (Or.inl ⟨by kernel_rfl, ?hy8b⟩) hHeld ?rest8b
      case hy8b => (intro w' hSw; (try dsimp only at hSw); go_simp; try with_reducible rfl)
      try simp only [Act.put, List.setIfInBounds_toArray, List.set_cons_zero, List.set_cons_succ, List.getElem_toArray, List.getElem_cons_zero, List.getElem_cons_succ]
      refine wpAnyH_take (i := 9) (v := .int .i64 (kb : Int)) rfl (by kernel_rfl) (by kernel_rfl) (by kernel_rfl) (fun _ _ _ h => h) (Or.inl ⟨by kernel_rfl, ?hy9b⟩) hHeld ?rest9b
      case hy9b => (intro w' hSw; (try dsimp only at hSw); go_simp; try with_reducible rfl)
      try simp only [Act.put, List.setIfInBounds_toArray, List.set_cons_zero, List.set_cons_succ, List.getElem_toArray, List.getElem_cons_zero, List.getElem_cons_succ]
      refine wpAnyH_take (i := 10) (v := .int .i64 Eb) rfl (by kernel_rfl) (by kernel_rfl) (by kernel_rfl) (fun _ _ _ h => h) (Or.inl ⟨by kernel_rfl, ?hy10b⟩) hHeld ?rest10b
      case hy10b => (intro w' hSw; (try dsimp only at hSw); go_simp; try with_reducible rfl)
      try simp only [Act.put, List.setIfInBounds_toArray, List.set_cons_zero, List.set_cons_succ, List.getElem_toArray, List.getElem_cons_zero, List.getElem_cons_succ]
      refine wpAnyH_take (i := 11) (v := VB) rfl (by kernel_rfl) (by kernel_rfl) (by kernel_rfl) (fun _ _ _ h => h) (Or.inl ⟨by kernel_rfl, ?hy11b⟩) hHeld ?rest11b
      case hy11b => (intro w' hSw; (try dsimp only at hSw); go_simp; try with_reducible rfl)
      try simp only [Act.put, List.setIfInBounds_toArray, List.set_cons_zero, List.set_cons_succ, List.getElem_toArray, List.getElem_cons_zero, List.getElem_cons_succ]
      refine wpAnyH_take (i := 12) (v := .int .i64 (kb : Int)) rfl (by kernel_rfl) (by kernel_rfl) (by kernel_rfl) (fun _ _ _ h => h) (Or.inl ⟨by kernel_rfl, ?hy12b⟩) hHeld ?rest12b
      case hy12b => (intro w' hSw; (try dsimp only at hSw); go_simp; try with_reducible rfl)
      try simp only [Act.put, List.setIfInBounds_toArray, List.set_cons_zero, List.set_cons_succ, List.getElem_toArray, List.getElem_cons_zero, List.getElem_cons_succ]
      refine wpAnyH_take (i := 13) (v := .int .i64 Eb) rfl (by kernel_rfl) (by kernel_rfl) (by kernel_rfl) (fun _ _ _ h => h) (Or.inl ⟨by kernel_rfl, ?hy13b⟩) hHeld ?rest13b
      case hy13b => (intro w' hSw; (try dsimp only at hSw); go_simp; try with_reducible rfl)
      try simp only [Act.put, List.setIfInBounds_toArray, List.set_cons_zero, List.set_cons_succ, List.getElem_toArray, List.getElem_cons_zero, List.getElem_cons_succ]
      refine wpAnyH_done (by kernel_rfl) ?_ _
      refine NoPanic.normal ?_
      try go_wp2_with fail
      go_meet
      case rel => exact ⟨rfl, rfl, X8.out⟩
  obtain ⟨w8, rfl⟩ : ∃ w8, w8 = wc := ⟨_, rfl⟩
  obtain ⟨rfl, rfl, Y8⟩ := hcut
  have X8 : Hid (Below w5.heap.size w5 w8) := X6.out.trans (Y8.out.2.mono X6.out.size)
  have XA8 : Hid (Below w6.heap.size w6 w8) := Y8.out.2
  have TB8 := Y8.out.1
  obtain ⟨VB, hVB⟩ : ∃ V, V = u17 := ⟨_, rfl⟩
  rw [← hVB] at TB8
  have TB8 : Hid (Tol w8 VB [m2.o] ((kb, Eb), sb)) := TB8
  subst hVB
  rcases HPL.out.2.2 with ⟨h1, h2, h3, h4, h5, h6, h7⟩ | ⟨h1, h2, h3⟩
  · subst h1 h2 h3 h4
    have HSS : Hid (sx = sy ∧ sx = sb ∧ (rts [m1.o, m2.o]).length = 2) := ⟨h5, h6, h7⟩
    obtain ⟨xa, xn, xc, XP, hv, hXP⟩ := TX5.out.2 rfl
    subst hv
    obtain ⟨ya, yn, yc, YP, hv, hYP⟩ := Y5.out.1.2 rfl
    subst hv
    obtain ⟨ba, bn, bc, BP, hv, hBP⟩ := TB8.out.2 rfl
    subst hv
    have hxn : xn = 2 := by
      have := congrArg List.length hXP.pairs
      rw [List.length_map, List.length_map, h7, hXP.len] at this
      exact this
    have hyn : yn = 2 := by
      have := congrArg List.length hYP.pairs
      rw [List.length_map, List.length_map, rts_comm, h7, hYP.len] at this
      exact this
    subst hxn hyn
    have HXY : Hid (Pls w5 xa 2 xc XP [m1.o, m2.o] sx ∧ Pls w5 ya 2 yc YP [m2.o, m1.o] sy) := ⟨hXP, hYP⟩
    clear hXP hYP hBP h5 h6 h7
    have KP1 : Hid (Calls Tryd.prog 16 #[.slice a1 n1 c1, .slice aa an ac] w8 fun e w' => ∃ g T, e = .returned (.slice (some ⟨g, 0, none⟩) 6 6) ∧ S6 w' g T sa ∧ Below w8.heap.size w8 w') :=
      (HS2.out.keep (X5.out.trans (X8.out.mono X5.out.size))).putT aa an ac [m1.o] ow HRES.out.2.2.1 (TA6.out.keep XA8.out) HPL.out.1
    go_wp2_with fail
    refine KP1.out.mono ?_
    rintro e w9 ⟨g9, T9, rfl, t9, b9⟩
    have X9 : Hid (Below w5.heap.size w5 w9) := X8.out.trans (b9.mono X8.out.size)
    have KP2 : Hid (Calls Tryd.prog 16 #[.slice (some ⟨g9, 0, none⟩) 6 6, .slice ba bn bc] w9 fun e w' => ∃ g T, e = .returned (.slice (some ⟨g, 0, none⟩) 6 6) ∧ S6 w' g T sb ∧ Below w9.heap.size w9 w') :=
      (t9.stIn HPL.out.2.1).putT ba bn bc [m2.o] ow HRES.out.2.2.2 (TB8.out.keep b9) (fun h => absurd rfl h)
    clear t9 b9 KP1
    go_wp2_with fail
    refine KP2.out.mono ?_
    rintro e w10 ⟨g10, T10, rfl, t10, b10⟩
    have X10 : Hid (Below w5.heap.size w5 w10) := X9.out.trans (b10.mono X9.out.size)
    have HT10 : Hid (S6 w10 g10 T10 sb) := t10
    have KSP : Hid (Calls Tryd.prog 11 #[.slice xa 2 xc, .slice ya 2 yc] w10 fun e w' => e = .returned (.bool true) ∧ Below w10.heap.size w10 w') :=
      rsamepl_true w10 xa ya 2 xc yc XP YP HXY.out.1.len (HXY.out.1.inp.keep X10.out) (HXY.out.2.inp.keep X10.out) (by rw [HXY.out.1.pairs, HXY.out.2.pairs, rts_comm, HSS.out.1]) (by omega)
    clear t10 b10 KP2
    go_wp2_with fail
    refine KSP.out.mono ?_
    rintro e w11 ⟨rfl, b11⟩
    have X11 : Hid (Below w10.heap.size w10 w11) := b11
    have X51 : Hid (Below w5.heap.size w5 w11) := X10.out.trans (b11.mono X10.out.size)
    have KP3 : Hid (Calls Tryd.prog 16 #[.slice a1 n1 c1, .slice xa 2 xc] w11 fun e w' => ∃ g T, e = .returned (.slice (some ⟨g, 0, none⟩) 6 6) ∧ S6 w' g T sx ∧ Below w11.heap.size w11 w') :=
      (HS2.out.keep (X5.out.trans (X51.out.mono X5.out.size))).putT xa 2 xc [m1.o, m2.o] ow HRES.out.1 (TX5.out.keep X51.out) (fun h => absurd rfl h)
    clear b11 KSP
    go_wp2_with fail
    refine KP3.out.mono ?_
    rintro e w12 ⟨g12, T12, rfl, t12, b12⟩
    have X12 : Hid (Below w5.heap.size w5 w12) := X51.out.trans (b12.mono X51.out.size)
    have KSS : Hid (Calls Tryd.prog 13 #[.slice (some ⟨g12, 0, none⟩) 6 6, .slice (some ⟨g10, 0, none⟩) 6 6] w12 fun e w' => e = .returned (.bool true) ∧ Below w12.heap.size w12 w') :=
      rsamest_true w12 _ _ 6 6 6 T12 T10 t12.len t12.inp ((HT10.out.keep X11.out).keep b12).inp (t12.co.trans (by rw [HSS.out.2.1]; exact HT10.out.co.symm)) (by omega)
    clear t12 b12 KP3
    go_wp2_with fail
    refine KSS.out.mono ?_
    rintro e w13 ⟨rfl, b13⟩
    have B13 : Hid (Below w.heap.size w w13) := B5.out.trans ((X12.out.trans (b13.mono X12.out.size)).mono B5.out.size)
    clear b13 KSS
    go_wp2_with fail
    refine (KW.out _).mono ?_
    rintro e w14 ⟨rfl, b14⟩
    have B14 : Hid (Below w.heap.size w w14) := B13.out.trans (b14.mono B13.out.size)
    clear b14
    go_wp2_with fail
    go_ret
    exact ⟨rfl, B14.out⟩
  · have hvx := TX5.out.1 h1
    have hvy := Y5.out.1.1 h2
    subst hvx hvy
    have e1 : (Ex == 0) = false := by simpa using h1
    have e2 : (Ey == 0) = false := by simpa using h2
    have e3 : (Ex != 0) = true := by simpa using h1
    have HAB : Hid (Ea ≠ 0 ∨ Eb ≠ 0) := h3
    clear h1 h2 h3
    by_cases h3 : Ea = 0
    · subst h3
      have e4 : (Eb == 0) = false := by rcases HAB.out with h | h; · exact absurd rfl h
                                        · simpa using h
      go_wp2_with fail
      refine (KW.out _).mono ?_
      rintro e w14 ⟨rfl, b14⟩
      have B14 : Hid (Below w.heap.size w w14) := B5.out.trans ((X8.out.trans (b14.mono X8.out.size)).mono B5.out.size)
      clear b14
      go_wp2_with fail
      go_ret
      exact ⟨rfl, B14.out⟩
    · have e4 : (Ea == 0) = false := by simpa using h3
      clear h3
      go_wp2_with fail
      refine (KW.out _).mono ?_
      rintro e w14 ⟨rfl, b14⟩
      have B14 : Hid (Below w.heap.size w w14) := B5.out.trans ((X8.out.trans (b14.mono X8.out.size)).mono B5.out.size)
      clear b14
      go_wp2_with fail
      go_ret
      exact ⟨rfl, B14.out⟩
end Go.Proofs.YthghoekkdpchnaaDoor
