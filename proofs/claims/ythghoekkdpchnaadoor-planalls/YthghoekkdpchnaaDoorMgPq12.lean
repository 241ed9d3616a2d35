/- Rows of stacks, of plans, of operations (gen_poi.py). find over plans; stackOf; the document's at. -/
import Derived.Test.YthghoekkdpchnaaDoorMgPq11
namespace Go.Proofs.YthghoekkdpchnaaDoor
open Go.ChangeShapes Go.WideShapes Go.ChangeAt Go.RowKit Go.Deep Go.Maps
set_option linter.unusedVariables false
set_option linter.unusedSimpArgs false
/-- a stack, and where it lies -/
structure Sk where
  a : Option Addr
  n : Nat
  c : Nat
  M : List Pk
def SkOk (w : World) (x : Sk) : Prop := StAt w x.a x.n x.c x.M
theorem SkOk.keep {w w' : World} {x : Sk} (h : SkOk w x) (hb : Below w.heap.size w w') : SkOk w' x := StAt.keep h hb
def Sk.co (x : Sk) : List Pc := x.M.map Go.Proofs.YthghoekkdpchnaaDoor.co
/-- a plan, and where its stack lies -/
structure Pv where
  r : Int
  a : Option Addr
  n : Nat
  c : Nat
  M : List Pk
def PvOk (w : World) (x : Pv) : Prop := StAt w x.a x.n x.c x.M
theorem PvOk.keep {w w' : World} {x : Pv} (h : PvOk w x) (hb : Below w.heap.size w w') : PvOk w' x := StAt.keep h hb
def Pv.co (x : Pv) : List Pc := x.M.map Go.Proofs.YthghoekkdpchnaaDoor.co
/-- an operation, and where its layers lie -/
structure Ov where
  o : Op5
  la : Option Addr
  ln : Nat
  lc : Nat
def OvOk (w : World) (x : Ov) : Prop := OpAt w x.o x.la x.ln x.lc
theorem OvOk.keep {w w' : World} {x : Ov} (h : OvOk w x) (hb : Below w.heap.size w w') : OvOk w' x := OpAt.keep h hb
def skl (x : Sk) : List Value := [.slice x.a x.n x.c]
def sks (l : List Sk) : List Value := l.flatMap skl
theorem sks_len (l : List Sk) : (sks l).length = l.length * 1 := by
  induction l with
  | nil => rfl
  | cons x l ih => simp only [sks, List.flatMap_cons, List.length_append, List.length_cons] at ih ⊢; rw [ih]; simp [skl]; omega
theorem sks_at (l : List Sk) (i : Nat) (x : Sk) (h : l[i]? = some x) (k : Nat) (hk : k < 1) : (sks l)[i * 1 + k]? = (skl x)[k]? := by
  induction l generalizing i with
  | nil => simp at h
  | cons y l ih =>
    cases i with
    | zero =>
      simp at h
      subst h
      simp only [sks, List.flatMap_cons, Nat.zero_mul, Nat.zero_add]
      rw [List.getElem?_append_left (by simp [skl]; omega)]
    | succ i =>
      simp only [List.getElem?_cons_succ] at h
      have := ih i h
      simp only [sks, List.flatMap_cons] at this ⊢
      rw [List.getElem?_append_right (by simp [skl]; omega), ← this]
      congr 1
      first | (simp [skl]; done) | (simp [skl]; omega)
theorem skl_one (x : Sk) : ∀ v ∈ skl x, v.oneCell' = true := by
  intro v hv
  simp only [skl, List.mem_cons, List.not_mem_nil, or_false] at hv
  rcases hv with rfl; rfl
def InSk (w : World) (a : Option Addr) (l : List Sk) : Prop := l = [] ∨ ∃ b off, a = some ⟨b, off, none⟩ ∧ b < w.heap.size ∧ ∀ i x, l[i]? = some x → (∀ k v, (skl x)[k]? = some v → w.cell? ⟨b, off + i * 1 + k, none⟩ = some v) ∧ SkOk w x
theorem InSk.keep {w w' : World} {a : Option Addr} {l : List Sk} (h : InSk w a l) (hb : Below w.heap.size w w') : InSk w' a l := by
  rcases h with h | ⟨b, off, h1, h2, h3⟩
  · exact .inl h
  · exact .inr ⟨b, off, h1, Nat.lt_of_lt_of_le h2 hb.size, fun i x hx => ⟨fun k v hv => (World.cell?_of_block (a := ⟨b, off + i * 1 + k, none⟩) (hb.block b h2)).trans ((h3 i x hx).1 k v hv), (h3 i x hx).2.keep hb⟩⟩
theorem InSk.at {w : World} {a : Option Addr} {l : List Sk} (h : InSk w a l) {i : Nat} {x : Sk} (hx : l[i]? = some x) : ∃ b off, a = some ⟨b, off, none⟩ ∧ b < w.heap.size ∧ (∀ W, Below w.heap.size w W → ∀ k v, (skl x)[k]? = some v → W.cell? ⟨b, off + i * 1 + k, none⟩ = some v) ∧ SkOk w x := by
  rcases h with h | ⟨b, off, e, h1, h2⟩
  · rw [h] at hx; cases hx
  · exact ⟨b, off, e, h1, fun W hW k v hv => (World.cell?_of_block (a := ⟨b, off + i * 1 + k, none⟩) (hW.block b h1)).trans ((h2 i x hx).1 k v hv), (h2 i x hx).2⟩
theorem InSk.take {w : World} {a : Option Addr} {l : List Sk} (h : InSk w a l) (k : Nat) : InSk w a (l.take k) := by
  rcases h with h | ⟨b, off, e, h1, h2⟩
  · rw [h]; exact .inl (by simp)
  · exact .inr ⟨b, off, e, h1, fun i x hx => h2 i x (by rw [List.getElem?_take] at hx; split at hx <;> simp_all)⟩
def OwnSk (w : World) (base : Nat) (v : Value) (l : List Sk) : Prop := w.ownsRow base 34 1 v l.length (sks l)
theorem OwnSk.nil (w : World) (base : Nat) : OwnSk w base (.slice none 0 0) [] := World.ownsRow_nil _ _ _ _
theorem OwnSk.own {w : World} {base : Nat} {v : Value} {l : List Sk} (h : OwnSk w base v l) : ∀ k, v.ownBlock = some k → base ≤ k ∧ k < w.heap.size := fun k hk => World.ownsRow.lt h k hk
theorem OwnSk.kept {w w' : World} {base : Nat} {v : Value} {l : List Sk} (h : OwnSk w base v l) (hb : ∀ k, v.ownBlock = some k → w'.heap[k]? = w.heap[k]?) : OwnSk w' base v l := by
  refine ⟨h.1, ?_⟩
  rcases h.2 with h1 | ⟨g, cap, cur, rfl, hbg, hg, rest⟩
  · exact .inl h1
  · exact .inr ⟨g, cap, cur, rfl, hbg, (hb g rfl).trans hg, rest⟩
theorem OwnSk.keep {w w' : World} {base : Nat} {v : Value} {l : List Sk} (h : OwnSk w base v l) (hb : Below w.heap.size w w') : OwnSk w' base v l := h.kept fun k hk => hb.block k (h.own k hk).2
theorem OwnSk.base {w : World} {a b : Nat} {v : Value} {l : List Sk} (h : OwnSk w b v l) (hab : a ≤ b) : OwnSk w a v l := by
  refine ⟨h.1, ?_⟩
  rcases h.2 with h1 | ⟨g, cap, cur, rfl, hbg, rest⟩
  · exact .inl h1
  · exact .inr ⟨g, cap, cur, rfl, Nat.le_trans hab hbg, rest⟩
theorem OwnSk.slice {w : World} {base : Nat} {v : Value} {l : List Sk} (h : OwnSk w base v l) (hok : ∀ x ∈ l, SkOk w x) : ∃ a c, v = .slice a l.length c ∧ InSk w a l ∧ l.length ≤ c ∧ c ≤ 9223372036854775807 ∧ (a = none → l.length = 0 ∧ c = 0) ∧ (∀ q, a = some q → base ≤ q.block ∧ q.off = 0 ∧ q.spot = none) := by
  rcases h.2 with ⟨rfl, hn⟩ | ⟨g, cap, cur, rfl, hb, hg, hl, hm, hs, ht⟩
  · have : l = [] := List.length_eq_zero_iff.1 hn
    subst this
    exact ⟨none, 0, rfl, .inl rfl, by simp, by omega, fun _ => ⟨rfl, rfl⟩, fun q hq => by cases hq⟩
  · simp only [maxLen] at hm
    refine ⟨_, _, rfl, .inr ⟨g, 0, rfl, (h.own g rfl).2, fun i x hx => ⟨?_, hok x (List.mem_of_getElem? hx)⟩⟩, hl, by omega, (fun e => by cases e), fun q hq => by cases hq; exact ⟨hb, rfl, rfl⟩⟩
    intro k v hv
    have hk : k < 1 := by
      have := (List.getElem?_eq_some_iff.1 hv).1
      simpa [skl] using this
    have := World.ownsRow.cells h (g := g) rfl (i * 1 + k) v (by rw [sks_at l i x hx k hk]; exact hv)
    rw [add_plain, Nat.zero_add] at this
    rw [Nat.zero_add]
    exact this
theorem infoSk : ∃ i, Tryd.prog.info? 34 = some i ∧ i.zero = some (.slice none 0 0) ∧ i.size = 1 ∧ i.bytes = 24 := info_parts (show (Tryd.prog.info? 34).map (fun i => (i.zero, i.size, i.bytes)) = some (some (.slice none 0 0), 1, 24) by kernel_rfl)
theorem append_sk {w : World} {ops : Array Oper} {rest : List Oper} {o : Oper} {act : Act} {Q : Exit → Act → World → Prop} (hgd : o.guard = none) (s x : Operand)
    (ho : o.op = .call { callee := .builtin .append, args := #[s, x], argTypes := #[22, 22] })
    (base : Nat) (v : Value) (l : List Sk) (hs : act.eval s = v) (hown : OwnSk w base v l)
    (g c : Nat) (y : Sk) (hx : act.eval x = .slice (some ⟨g, 0, none⟩) 1 c) (hc : w.heap[g]? = some (.cells (skl y).toArray 34))
    (hN : l.length ≤ 100000000) (hbase : base ≤ w.heap.size)
    (h : ∀ v' w', OwnSk w' base v' (l ++ [y]) → w.grownBy w' v.ownBlock → wpList Tryd.prog ops Q rest (act.put o.dst v') w') :
    wpList Tryd.prog ops Q (o :: rest) act w := by
  obtain ⟨i, hi, hz, h1, h2⟩ := infoSk
  refine wpList_append_own w hgd s x 22 ho base 34 i _ 1 24 Tryd.underlying22 hi hz h1 h2 rfl (by decide) v l.length _ hs hown ⟨g, 0, none⟩ 1 c (skl y) hx rfl ?_ (skl_one y) (by simp only [maxLen]; omega) (by omega) hbase ?_
  · intro j u hu
    rw [add_plain, Nat.zero_add]
    simp [World.cell?, hc, hu]
  · intro v' w' hown' hg _
    refine h v' w' ?_ hg
    unfold OwnSk
    rw [List.length_append]
    have : sks (l ++ [y]) = sks l ++ skl y := by simp [sks]
    rw [this]
    exact hown'
def pvl (x : Pv) : List Value := [.int .i64 x.r, .slice x.a x.n x.c]
def pvs (l : List Pv) : List Value := l.flatMap pvl
theorem pvs_len (l : List Pv) : (pvs l).length = l.length * 2 := by
  induction l with
  | nil => rfl
  | cons x l ih => simp only [pvs, List.flatMap_cons, List.length_append, List.length_cons] at ih ⊢; rw [ih]; simp [pvl]; omega
theorem pvs_at (l : List Pv) (i : Nat) (x : Pv) (h : l[i]? = some x) (k : Nat) (hk : k < 2) : (pvs l)[i * 2 + k]? = (pvl x)[k]? := by
  induction l generalizing i with
  | nil => simp at h
  | cons y l ih =>
    cases i with
    | zero =>
      simp at h
      subst h
      simp only [pvs, List.flatMap_cons, Nat.zero_mul, Nat.zero_add]
      rw [List.getElem?_append_left (by simp [pvl]; omega)]
    | succ i =>
      simp only [List.getElem?_cons_succ] at h
      have := ih i h
      simp only [pvs, List.flatMap_cons] at this ⊢
      rw [List.getElem?_append_right (by simp [pvl]; omega), ← this]
      congr 1
      first | (simp [pvl]; done) | (simp [pvl]; omega)
theorem pvl_one (x : Pv) : ∀ v ∈ pvl x, v.oneCell' = true := by
  intro v hv
  simp only [pvl, List.mem_cons, List.not_mem_nil, or_false] at hv
  rcases hv with rfl | rfl <;> rfl
def InPv (w : World) (a : Option Addr) (l : List Pv) : Prop := l = [] ∨ ∃ b off, a = some ⟨b, off, none⟩ ∧ b < w.heap.size ∧ ∀ i x, l[i]? = some x → (∀ k v, (pvl x)[k]? = some v → w.cell? ⟨b, off + i * 2 + k, none⟩ = some v) ∧ PvOk w x
theorem InPv.keep {w w' : World} {a : Option Addr} {l : List Pv} (h : InPv w a l) (hb : Below w.heap.size w w') : InPv w' a l := by
  rcases h with h | ⟨b, off, h1, h2, h3⟩
  · exact .inl h
  · exact .inr ⟨b, off, h1, Nat.lt_of_lt_of_le h2 hb.size, fun i x hx => ⟨fun k v hv => (World.cell?_of_block (a := ⟨b, off + i * 2 + k, none⟩) (hb.block b h2)).trans ((h3 i x hx).1 k v hv), (h3 i x hx).2.keep hb⟩⟩
theorem InPv.at {w : World} {a : Option Addr} {l : List Pv} (h : InPv w a l) {i : Nat} {x : Pv} (hx : l[i]? = some x) : ∃ b off, a = some ⟨b, off, none⟩ ∧ b < w.heap.size ∧ (∀ W, Below w.heap.size w W → ∀ k v, (pvl x)[k]? = some v → W.cell? ⟨b, off + i * 2 + k, none⟩ = some v) ∧ PvOk w x := by
  rcases h with h | ⟨b, off, e, h1, h2⟩
  · rw [h] at hx; cases hx
  · exact ⟨b, off, e, h1, fun W hW k v hv => (World.cell?_of_block (a := ⟨b, off + i * 2 + k, none⟩) (hW.block b h1)).trans ((h2 i x hx).1 k v hv), (h2 i x hx).2⟩
theorem InPv.take {w : World} {a : Option Addr} {l : List Pv} (h : InPv w a l) (k : Nat) : InPv w a (l.take k) := by
  rcases h with h | ⟨b, off, e, h1, h2⟩
  · rw [h]; exact .inl (by simp)
  · exact .inr ⟨b, off, e, h1, fun i x hx => h2 i x (by rw [List.getElem?_take] at hx; split at hx <;> simp_all)⟩
def OwnPv (w : World) (base : Nat) (v : Value) (l : List Pv) : Prop := w.ownsRow base 36 2 v l.length (pvs l)
theorem OwnPv.nil (w : World) (base : Nat) : OwnPv w base (.slice none 0 0) [] := World.ownsRow_nil _ _ _ _
theorem OwnPv.own {w : World} {base : Nat} {v : Value} {l : List Pv} (h : OwnPv w base v l) : ∀ k, v.ownBlock = some k → base ≤ k ∧ k < w.heap.size := fun k hk => World.ownsRow.lt h k hk
theorem OwnPv.kept {w w' : World} {base : Nat} {v : Value} {l : List Pv} (h : OwnPv w base v l) (hb : ∀ k, v.ownBlock = some k → w'.heap[k]? = w.heap[k]?) : OwnPv w' base v l := by
  refine ⟨h.1, ?_⟩
  rcases h.2 with h1 | ⟨g, cap, cur, rfl, hbg, hg, rest⟩
  · exact .inl h1
  · exact .inr ⟨g, cap, cur, rfl, hbg, (hb g rfl).trans hg, rest⟩
theorem OwnPv.keep {w w' : World} {base : Nat} {v : Value} {l : List Pv} (h : OwnPv w base v l) (hb : Below w.heap.size w w') : OwnPv w' base v l := h.kept fun k hk => hb.block k (h.own k hk).2
theorem OwnPv.base {w : World} {a b : Nat} {v : Value} {l : List Pv} (h : OwnPv w b v l) (hab : a ≤ b) : OwnPv w a v l := by
  refine ⟨h.1, ?_⟩
  rcases h.2 with h1 | ⟨g, cap, cur, rfl, hbg, rest⟩
  · exact .inl h1
  · exact .inr ⟨g, cap, cur, rfl, Nat.le_trans hab hbg, rest⟩
theorem OwnPv.slice {w : World} {base : Nat} {v : Value} {l : List Pv} (h : OwnPv w base v l) (hok : ∀ x ∈ l, PvOk w x) : ∃ a c, v = .slice a l.length c ∧ InPv w a l ∧ l.length ≤ c ∧ c ≤ 9223372036854775807 ∧ (a = none → l.length = 0 ∧ c = 0) ∧ (∀ q, a = some q → base ≤ q.block ∧ q.off = 0 ∧ q.spot = none) := by
  rcases h.2 with ⟨rfl, hn⟩ | ⟨g, cap, cur, rfl, hb, hg, hl, hm, hs, ht⟩
  · have : l = [] := List.length_eq_zero_iff.1 hn
    subst this
    exact ⟨none, 0, rfl, .inl rfl, by simp, by omega, fun _ => ⟨rfl, rfl⟩, fun q hq => by cases hq⟩
  · simp only [maxLen] at hm
    refine ⟨_, _, rfl, .inr ⟨g, 0, rfl, (h.own g rfl).2, fun i x hx => ⟨?_, hok x (List.mem_of_getElem? hx)⟩⟩, hl, by omega, (fun e => by cases e), fun q hq => by cases hq; exact ⟨hb, rfl, rfl⟩⟩
    intro k v hv
    have hk : k < 2 := by
      have := (List.getElem?_eq_some_iff.1 hv).1
      simpa [pvl] using this
    have := World.ownsRow.cells h (g := g) rfl (i * 2 + k) v (by rw [pvs_at l i x hx k hk]; exact hv)
    rw [add_plain, Nat.zero_add] at this
    rw [Nat.zero_add]
    exact this
theorem infoPv : ∃ i, Tryd.prog.info? 36 = some i ∧ i.zero = some (.agg #[.int .i64 0, .slice none 0 0]) ∧ i.size = 2 ∧ i.bytes = 32 := info_parts (show (Tryd.prog.info? 36).map (fun i => (i.zero, i.size, i.bytes)) = some (some (.agg #[.int .i64 0, .slice none 0 0]), 2, 32) by kernel_rfl)
theorem append_pv {w : World} {ops : Array Oper} {rest : List Oper} {o : Oper} {act : Act} {Q : Exit → Act → World → Prop} (hgd : o.guard = none) (s x : Operand)
    (ho : o.op = .call { callee := .builtin .append, args := #[s, x], argTypes := #[25, 25] })
    (base : Nat) (v : Value) (l : List Pv) (hs : act.eval s = v) (hown : OwnPv w base v l)
    (g c : Nat) (y : Pv) (hx : act.eval x = .slice (some ⟨g, 0, none⟩) 1 c) (hc : w.heap[g]? = some (.cells (pvl y).toArray 36))
    (hN : l.length ≤ 100000000) (hbase : base ≤ w.heap.size)
    (h : ∀ v' w', OwnPv w' base v' (l ++ [y]) → w.grownBy w' v.ownBlock → wpList Tryd.prog ops Q rest (act.put o.dst v') w') :
    wpList Tryd.prog ops Q (o :: rest) act w := by
  obtain ⟨i, hi, hz, h1, h2⟩ := infoPv
  refine wpList_append_own w hgd s x 25 ho base 36 i _ 2 32 Tryd.underlying25 hi hz h1 h2 rfl (by decide) v l.length _ hs hown ⟨g, 0, none⟩ 1 c (pvl y) hx rfl ?_ (pvl_one y) (by simp only [maxLen]; omega) (by omega) hbase ?_
  · intro j u hu
    rw [add_plain, Nat.zero_add]
    simp [World.cell?, hc, hu]
  · intro v' w' hown' hg _
    refine h v' w' ?_ hg
    unfold OwnPv
    rw [List.length_append]
    have : pvs (l ++ [y]) = pvs l ++ pvl y := by simp [pvs]
    rw [this]
    exact hown'
def ovl (x : Ov) : List Value := [.int .i64 x.o.k, .int .i64 x.o.r, .string (tx x.o.n), .string (tx x.o.v), .slice x.la x.ln x.lc]
def ovs (l : List Ov) : List Value := l.flatMap ovl
theorem ovs_len (l : List Ov) : (ovs l).length = l.length * 5 := by
  induction l with
  | nil => rfl
  | cons x l ih => simp only [ovs, List.flatMap_cons, List.length_append, List.length_cons] at ih ⊢; rw [ih]; simp [ovl]; omega
theorem ovs_at (l : List Ov) (i : Nat) (x : Ov) (h : l[i]? = some x) (k : Nat) (hk : k < 5) : (ovs l)[i * 5 + k]? = (ovl x)[k]? := by
  induction l generalizing i with
  | nil => simp at h
  | cons y l ih =>
    cases i with
    | zero =>
      simp at h
      subst h
      simp only [ovs, List.flatMap_cons, Nat.zero_mul, Nat.zero_add]
      rw [List.getElem?_append_left (by simp [ovl]; omega)]
    | succ i =>
      simp only [List.getElem?_cons_succ] at h
      have := ih i h
      simp only [ovs, List.flatMap_cons] at this ⊢
      rw [List.getElem?_append_right (by simp [ovl]; omega), ← this]
      congr 1
      first | (simp [ovl]; done) | (simp [ovl]; omega)
theorem ovl_one (x : Ov) : ∀ v ∈ ovl x, v.oneCell' = true := by
  intro v hv
  simp only [ovl, List.mem_cons, List.not_mem_nil, or_false] at hv
  rcases hv with rfl | rfl | rfl | rfl | rfl <;> rfl
def InOv (w : World) (a : Option Addr) (l : List Ov) : Prop := l = [] ∨ ∃ b off, a = some ⟨b, off, none⟩ ∧ b < w.heap.size ∧ ∀ i x, l[i]? = some x → (∀ k v, (ovl x)[k]? = some v → w.cell? ⟨b, off + i * 5 + k, none⟩ = some v) ∧ OvOk w x
theorem InOv.keep {w w' : World} {a : Option Addr} {l : List Ov} (h : InOv w a l) (hb : Below w.heap.size w w') : InOv w' a l := by
  rcases h with h | ⟨b, off, h1, h2, h3⟩
  · exact .inl h
  · exact .inr ⟨b, off, h1, Nat.lt_of_lt_of_le h2 hb.size, fun i x hx => ⟨fun k v hv => (World.cell?_of_block (a := ⟨b, off + i * 5 + k, none⟩) (hb.block b h2)).trans ((h3 i x hx).1 k v hv), (h3 i x hx).2.keep hb⟩⟩
theorem InOv.at {w : World} {a : Option Addr} {l : List Ov} (h : InOv w a l) {i : Nat} {x : Ov} (hx : l[i]? = some x) : ∃ b off, a = some ⟨b, off, none⟩ ∧ b < w.heap.size ∧ (∀ W, Below w.heap.size w W → ∀ k v, (ovl x)[k]? = some v → W.cell? ⟨b, off + i * 5 + k, none⟩ = some v) ∧ OvOk w x := by
  rcases h with h | ⟨b, off, e, h1, h2⟩
  · rw [h] at hx; cases hx
  · exact ⟨b, off, e, h1, fun W hW k v hv => (World.cell?_of_block (a := ⟨b, off + i * 5 + k, none⟩) (hW.block b h1)).trans ((h2 i x hx).1 k v hv), (h2 i x hx).2⟩
theorem InOv.take {w : World} {a : Option Addr} {l : List Ov} (h : InOv w a l) (k : Nat) : InOv w a (l.take k) := by
  rcases h with h | ⟨b, off, e, h1, h2⟩
  · rw [h]; exact .inl (by simp)
  · exact .inr ⟨b, off, e, h1, fun i x hx => h2 i x (by rw [List.getElem?_take] at hx; split at hx <;> simp_all)⟩
def OwnOv (w : World) (base : Nat) (v : Value) (l : List Ov) : Prop := w.ownsRow base 46 5 v l.length (ovs l)
theorem OwnOv.nil (w : World) (base : Nat) : OwnOv w base (.slice none 0 0) [] := World.ownsRow_nil _ _ _ _
theorem OwnOv.own {w : World} {base : Nat} {v : Value} {l : List Ov} (h : OwnOv w base v l) : ∀ k, v.ownBlock = some k → base ≤ k ∧ k < w.heap.size := fun k hk => World.ownsRow.lt h k hk
theorem OwnOv.kept {w w' : World} {base : Nat} {v : Value} {l : List Ov} (h : OwnOv w base v l) (hb : ∀ k, v.ownBlock = some k → w'.heap[k]? = w.heap[k]?) : OwnOv w' base v l := by
  refine ⟨h.1, ?_⟩
  rcases h.2 with h1 | ⟨g, cap, cur, rfl, hbg, hg, rest⟩
  · exact .inl h1
  · exact .inr ⟨g, cap, cur, rfl, hbg, (hb g rfl).trans hg, rest⟩
theorem OwnOv.keep {w w' : World} {base : Nat} {v : Value} {l : List Ov} (h : OwnOv w base v l) (hb : Below w.heap.size w w') : OwnOv w' base v l := h.kept fun k hk => hb.block k (h.own k hk).2
theorem OwnOv.base {w : World} {a b : Nat} {v : Value} {l : List Ov} (h : OwnOv w b v l) (hab : a ≤ b) : OwnOv w a v l := by
  refine ⟨h.1, ?_⟩
  rcases h.2 with h1 | ⟨g, cap, cur, rfl, hbg, rest⟩
  · exact .inl h1
  · exact .inr ⟨g, cap, cur, rfl, Nat.le_trans hab hbg, rest⟩
theorem OwnOv.slice {w : World} {base : Nat} {v : Value} {l : List Ov} (h : OwnOv w base v l) (hok : ∀ x ∈ l, OvOk w x) : ∃ a c, v = .slice a l.length c ∧ InOv w a l ∧ l.length ≤ c ∧ c ≤ 9223372036854775807 ∧ (a = none → l.length = 0 ∧ c = 0) ∧ (∀ q, a = some q → base ≤ q.block ∧ q.off = 0 ∧ q.spot = none) := by
  rcases h.2 with ⟨rfl, hn⟩ | ⟨g, cap, cur, rfl, hb, hg, hl, hm, hs, ht⟩
  · have : l = [] := List.length_eq_zero_iff.1 hn
    subst this
    exact ⟨none, 0, rfl, .inl rfl, by simp, by omega, fun _ => ⟨rfl, rfl⟩, fun q hq => by cases hq⟩
  · simp only [maxLen] at hm
    refine ⟨_, _, rfl, .inr ⟨g, 0, rfl, (h.own g rfl).2, fun i x hx => ⟨?_, hok x (List.mem_of_getElem? hx)⟩⟩, hl, by omega, (fun e => by cases e), fun q hq => by cases hq; exact ⟨hb, rfl, rfl⟩⟩
    intro k v hv
    have hk : k < 5 := by
      have := (List.getElem?_eq_some_iff.1 hv).1
      simpa [ovl] using this
    have := World.ownsRow.cells h (g := g) rfl (i * 5 + k) v (by rw [ovs_at l i x hx k hk]; exact hv)
    rw [add_plain, Nat.zero_add] at this
    rw [Nat.zero_add]
    exact this
theorem infoOv : ∃ i, Tryd.prog.info? 46 = some i ∧ i.zero = some (.agg #[.int .i64 0, .int .i64 0, .string ByteArray.empty, .string ByteArray.empty, .slice none 0 0]) ∧ i.size = 5 ∧ i.bytes = 72 := info_parts (show (Tryd.prog.info? 46).map (fun i => (i.zero, i.size, i.bytes)) = some (some (.agg #[.int .i64 0, .int .i64 0, .string ByteArray.empty, .string ByteArray.empty, .slice none 0 0]), 5, 72) by kernel_rfl)
theorem append_ov {w : World} {ops : Array Oper} {rest : List Oper} {o : Oper} {act : Act} {Q : Exit → Act → World → Prop} (hgd : o.guard = none) (s x : Operand)
    (ho : o.op = .call { callee := .builtin .append, args := #[s, x], argTypes := #[23, 23] })
    (base : Nat) (v : Value) (l : List Ov) (hs : act.eval s = v) (hown : OwnOv w base v l)
    (g c : Nat) (y : Ov) (hx : act.eval x = .slice (some ⟨g, 0, none⟩) 1 c) (hc : w.heap[g]? = some (.cells (ovl y).toArray 46))
    (hN : l.length ≤ 100000000) (hbase : base ≤ w.heap.size)
    (h : ∀ v' w', OwnOv w' base v' (l ++ [y]) → w.grownBy w' v.ownBlock → wpList Tryd.prog ops Q rest (act.put o.dst v') w') :
    wpList Tryd.prog ops Q (o :: rest) act w := by
  obtain ⟨i, hi, hz, h1, h2⟩ := infoOv
  refine wpList_append_own w hgd s x 23 ho base 46 i _ 5 72 Tryd.underlying23 hi hz h1 h2 rfl (by decide) v l.length _ hs hown ⟨g, 0, none⟩ 1 c (ovl y) hx rfl ?_ (ovl_one y) (by simp only [maxLen]; omega) (by omega) hbase ?_
  · intro j u hu
    rw [add_plain, Nat.zero_add]
    simp [World.cell?, hc, hu]
  · intro v' w' hown' hg _
    refine h v' w' ?_ hg
    unfold OwnOv
    rw [List.length_append]
    have : ovs (l ++ [y]) = ovs l ++ ovl y := by simp [ovs]
    rw [this]
    exact hown'
end Go.Proofs.YthghoekkdpchnaaDoor
namespace Go.Proofs.YthghoekkdpchnaaDoor
open Go.ChangeShapes Go.WideShapes Go.ChangeAt Go.RowKit Go.Deep Go.Maps
set_option linter.unusedVariables false
set_option linter.unusedSimpArgs false
def pAt (L : List Pv) (r : Int) (res : Int) : Prop := (res = -1 ∧ ∀ x ∈ L, x.r ≠ r) ∨ ∃ (j : Nat) (x : Pv), res = (j : Int) ∧ L[j]? = some x ∧ x.r = r
set_option maxRecDepth 100000 in
set_option maxHeartbeats 4000000 in
theorem isRt_is (w : World) (q : Int) (a : Option Addr) (n c : Nat) (g : Nat) (r : Int) (hg : w.cell? ⟨g, 1, none⟩ = some (.int .i64 r)) (hgs : g < w.heap.size) :
    Calls Tryd.prog 21 #[.agg #[.int .i64 q, .slice a n c], .pointer (some ⟨g, 0, none⟩)] w fun e w' => e = .returned (.bool (q == r)) ∧ Below w.heap.size w w' := by
  have B0 : Hid (∀ o, Below w.heap.size w (w.alloc o)) := fun o => below1 _ _
  have c2 : ∀ o, (w.alloc o).cell? ⟨g, 1, none⟩ = some (.int .i64 r) := fun o => (World.cell?_of_block (a := ⟨g, 1, none⟩) (Below.heap_alloc w o g hgs)).trans hg
  clear hgs hg
  go_enter Tryd.func21, Tryd.ntmps21
  go_wp2_with fail
  go_ret
  exact ⟨rfl, B0.out _⟩
set_option maxRecDepth 100000 in
set_option maxHeartbeats 4000000 in
theorem findV_is (w : World) (a : Option Addr) (n c : Nat) (L : List Pv) (hl : InPv w a L) (hn : L.length = n) (hN : n ≤ 1000000) (g : Nat) (r : Int) (hg : w.cell? ⟨g, 1, none⟩ = some (.int .i64 r)) (hgs : g < w.heap.size) :
    Calls Tryd.prog 20 #[.slice a n c, .func (.func 21) #[] #[.pointer (some ⟨g, 0, none⟩)]] w fun e w' => ∃ res, e = .returned (.int .i64 res) ∧ pAt L r res ∧ Below w.heap.size w w' := by
  have HL : Hid (InPv w a L) := hl
  have HLN : Hid (L.length = n) := hn
  have KS : Hid (∀ W, Below w.heap.size w W → ∀ q a n c, Calls Tryd.prog 21 #[.agg #[.int .i64 q, .slice a n c], .pointer (some ⟨g, 0, none⟩)] W fun e w' => e = .returned (.bool (q == r)) ∧ Below W.heap.size W w') := fun W hW q a n c => isRt_is W q a n c g r ((World.cell?_of_block (a := ⟨g, 1, none⟩) (hW.block g hgs)).trans hg) (Nat.lt_of_lt_of_le hgs hW.size)
  clear hl hn hg hgs
  go_enter Tryd.func20, Tryd.ntmps20
  go_wp2_with fail
  go_loopg [9] n (fun q i wr => ∃ j : Nat, j ≤ n ∧ q = n - j ∧ i = .int .i64 (j : Int) ∧ Hid ((∀ x ∈ L.take j, x.r ≠ r) ∧ Below w.heap.size w wr))
  case atStart => exact ⟨0, Nat.zero_le _, rfl, rfl, (fun x hx => by simp at hx), Below.refl _ _⟩
  case round =>
    obtain ⟨j, hj, rfl, rfl, RW⟩ := hrel
    by_cases hlt : j < n
    · have j1 : decide ((j : Int) < (n : Int)) = true := by rw [decide_eq_true_eq]; omega
      obtain ⟨x, hx⟩ : ∃ x, L[j]? = some x := ⟨L[j]'(by rw [HLN.out]; exact hlt), by simp [HLN.out, hlt]⟩
      obtain ⟨b, off, rfl, hbw, hpc, _⟩ := HL.out.at hx
      have c0 : wr.cell? ⟨b, off + j * 2, none⟩ = some (.int .i64 x.r) := hpc wr RW.out.2 0 _ rfl
      have c1 : wr.cell? ⟨b, off + j * 2 + 1, none⟩ = some (.slice x.a x.n x.c) := hpc wr RW.out.2 1 _ rfl
      have HX : Hid (L[j]? = some x) := hx
      have ri : IntKind.i64.wrap ((j : Int) + 1) = (j : Int) + 1 := by rw [IntKind.wrap_i64]; omega
      clear hx hpc
      obtain ⟨pr, pa, pn, pc, pM⟩ := x
      simp only at c0 c1 HX
      have B1 : Hid (Below w.heap.size w (wr.alloc (.cells #[.int .i64 pr, .slice pa pn pc] 36))) := RW.out.2.alloc RW.out.2.size _
      go_wp2_with fail
      refine (KS.out _ B1.out pr pa pn pc).mono ?_
      rintro e w2 ⟨rfl, b2⟩
      have B2 : Hid (Below w.heap.size w w2) := B1.out.trans (b2.mono B1.out.size)
      clear b2
      by_cases he : pr = r
      · have td : (pr == r) = true := by simp [he]
        have HF : Hid (pAt L r (j : Int)) := .inr ⟨j, _, rfl, HX.out, he⟩
        rw [td]
        clear he td
        go_wp2_with fail
        go_ret
        exact ⟨_, rfl, HF.out, B2.out⟩
      · have td : (pr == r) = false := by simpa using he
        have HF : Hid (∀ x ∈ L.take (j + 1), x.r ≠ r) := fun x hx => by
          rw [List.take_add_one, HX.out] at hx
          rcases List.mem_append.1 hx with h | h
          · exact RW.out.1 x h
          · simp at h; rw [h]; exact he
        rw [td]
        clear he td
        go_wp2_with fail
        go_roundg (n - (j + 1))
        case measure => omega
        case rel => exact ⟨j + 1, by omega, rfl, rfl, HF.out, B2.out⟩
    · have j1 : decide ((j : Int) < (n : Int)) = false := by rw [decide_eq_false_iff_not]; omega
      have HF : Hid (pAt L r (-1)) := .inl ⟨rfl, fun x hx => RW.out.1 x (by rw [List.take_of_length_le (by rw [HLN.out]; omega)]; exact hx)⟩
      go_wp2_with fail
      go_ret
      exact ⟨_, rfl, HF.out, RW.out.2⟩
/-- a root's stack out of a list -/
def noS : Sk := ⟨none, 0, 0, []⟩
def stk (l : List Sk) (r : Int) : Sk := if 1 ≤ r ∧ r ≤ 6 then l.getD (r - 1).toNat noS else noS
def stkA (l : List Sk) (r : Int) : Sk := if 1 ≤ r then l.getD (r - 1).toNat noS else noS
theorem stk_ok {w : World} {l : List Sk} (h : ∀ x ∈ l, SkOk w x) (r : Int) : SkOk w (stk l r) := by
  unfold stk
  split
  · rw [List.getD_eq_getElem?_getD]
    cases e : l[(r - 1).toNat]? with
    | none => exact StAt.none w
    | some x => exact h x (List.mem_of_getElem? e)
  · exact StAt.none w
set_option maxRecDepth 100000 in
set_option maxHeartbeats 4000000 in
theorem stackOf_is (w : World) (a : Option Addr) (n c : Nat) (l : List Sk) (hl : InSk w a l) (hn : l.length = n) (hN : n ≤ 1000000) (r : Int) :
    Calls Tryd.prog 22 #[.slice a n c, .int .i64 r] w fun e w' => e = .returned (.slice (stk l r).a (stk l r).n (stk l r).c) ∧ w' = w := by
  have KI : Hid (Calls Tryd.prog 32 #[.int .i64 r] w fun e w' => e = .returned (.bool (isR6 r)) ∧ w' = w) := pisRoot_is w r
  by_cases hr : 1 ≤ r ∧ r ≤ 6
  · have e6 : isR6 r = true := by unfold isR6; simp [hr.1, hr.2]
    rw [e6] at KI
    by_cases hb : (n : Int) < r
    · have d1 : decide ((n : Int) < r) = true := by rw [decide_eq_true_eq]; exact hb
      have e : stk l r = noS := by unfold stk; rw [if_pos hr, List.getD_eq_getElem?_getD, List.getElem?_eq_none (by omega)]; rfl
      rw [e]
      clear hl hr hb e
      go_enter Tryd.func22, Tryd.ntmps22
      go_wp2_with fail
      refine KI.out.mono ?_
      rintro e w1 ⟨rfl, hw⟩
      obtain rfl := hw.symm
      clear hw
      go_wp2_with fail
      go_ret
      exact ⟨rfl, rfl⟩
    · have d1 : decide ((n : Int) < r) = false := by rw [decide_eq_false_iff_not]; exact hb
      obtain ⟨i, hi⟩ : ∃ i : Nat, r = (i : Int) + 1 := ⟨(r - 1).toNat, by omega⟩
      subst hi
      have hin : i < n := by omega
      obtain ⟨x, hx⟩ : ∃ x, l[i]? = some x := ⟨l[i]'(by omega), List.getElem?_eq_getElem _⟩
      have e : stk l ((i : Int) + 1) = x := by unfold stk; rw [if_pos hr, show ((i : Int) + 1 - 1).toNat = i by omega, List.getD_eq_getElem?_getD, hx]; rfl
      rw [e]
      obtain ⟨b, off, rfl, hbw, hpc, _⟩ := hl.at hx
      have c0 : w.cell? ⟨b, off + i, none⟩ = some (.slice x.a x.n x.c) := by have := hpc w (Below.refl _ _) 0 _ rfl; simpa using this
      have ri : IntKind.i64.wrap ((i : Int) + 1 - 1) = (i : Int) := by rw [IntKind.wrap_i64]; omega
      have ri2 : (i : Int) < (n : Int) := by omega
      obtain ⟨sa, sn, sc, sM⟩ := x
      simp only at c0 ⊢
      clear hl hr hb e hpc hx
      go_enter Tryd.func22, Tryd.ntmps22
      go_wp2_with fail
      refine KI.out.mono ?_
      rintro e w1 ⟨rfl, hw⟩
      obtain rfl := hw.symm
      clear hw
      go_wp2_with fail
      go_ret
      exact ⟨rfl, rfl⟩
  · have e6 : isR6 r = false := by
      unfold isR6
      by_cases h1 : 1 ≤ r
      · have : ¬ r ≤ 6 := fun h => hr ⟨h1, h⟩
        simp [h1, this]
      · simp [h1]
    rw [e6] at KI
    have e : stk l r = noS := if_neg hr
    rw [e]
    clear hl hr e
    go_enter Tryd.func22, Tryd.ntmps22
    go_wp2_with fail
    refine KI.out.mono ?_
    rintro e w1 ⟨rfl, hw⟩
    obtain rfl := hw.symm
    clear hw
    go_wp2_with fail
    go_ret
    exact ⟨rfl, rfl⟩
set_option maxRecDepth 100000 in
set_option maxHeartbeats 4000000 in
theorem rat_is (w : World) (a : Option Addr) (n c : Nat) (l : List Sk) (hl : InSk w a l) (hn : l.length = n) (hN : n ≤ 1000000) (r : Int) (hrr : 1 ≤ r ∧ r ≤ 6) :
    Calls Tryd.prog 28 #[.slice a n c, .int .i64 r] w fun e w' => e = .returned (.slice (stk l r).a (stk l r).n (stk l r).c) ∧ w' = w := by
  have d0 : decide (r < (1 : Int)) = false := by rw [decide_eq_false_iff_not]; omega
  by_cases hb : (n : Int) < r
  · have d1 : decide ((n : Int) < r) = true := by rw [decide_eq_true_eq]; exact hb
    have e : stk l r = noS := by unfold stk; rw [if_pos hrr, List.getD_eq_getElem?_getD, List.getElem?_eq_none (by omega)]; rfl
    rw [e]
    clear hl hb e hrr
    go_enter Tryd.func28, Tryd.ntmps28
    go_wp2_with fail
    go_ret
    exact ⟨rfl, rfl⟩
  · have d1 : decide ((n : Int) < r) = false := by rw [decide_eq_false_iff_not]; exact hb
    obtain ⟨i, hi⟩ : ∃ i : Nat, r = (i : Int) + 1 := ⟨(r - 1).toNat, by omega⟩
    subst hi
    have hin : i < n := by omega
    obtain ⟨x, hx⟩ : ∃ x, l[i]? = some x := ⟨l[i]'(by omega), List.getElem?_eq_getElem _⟩
    have e : stk l ((i : Int) + 1) = x := by unfold stk; rw [if_pos hrr, show ((i : Int) + 1 - 1).toNat = i by omega, List.getD_eq_getElem?_getD, hx]; rfl
    rw [e]
    obtain ⟨b, off, rfl, hbw, hpc, _⟩ := hl.at hx
    have c0 : w.cell? ⟨b, off + i, none⟩ = some (.slice x.a x.n x.c) := by have := hpc w (Below.refl _ _) 0 _ rfl; simpa using this
    have ri : IntKind.i64.wrap ((i : Int) + 1 - 1) = (i : Int) := by rw [IntKind.wrap_i64]; omega
    have ri2 : (i : Int) < (n : Int) := by omega
    obtain ⟨sa, sn, sc, sM⟩ := x
    simp only at c0 ⊢
    clear hl hb e hpc hx hrr
    go_enter Tryd.func28, Tryd.ntmps28
    go_wp2_with fail
    go_ret
    exact ⟨rfl, rfl⟩
end Go.Proofs.YthghoekkdpchnaaDoor
