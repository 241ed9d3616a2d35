/- Rows of bytes of one's own, in blocks apart from one another. -/
import Derived.Test.YtibgfjnddhfgpaaDrG
import Derived.Test.YtibgfjnddhfgpaaDkIm
namespace Go.Proofs.Ytibgfjnddhfgpaa
open Go.ChangeShapes Go.WideShapes Go.ChangeAt Go.RowKit Go.Deep Go.Maps
set_option linter.unusedVariables false
structure Rws (w : World) (B : Nat) (v : Value) (V : List Value) (L : List (List Int)) : Prop where
  row : w.ownsRow B 35 1 v V.length V
  len : L.length = V.length
  own : ∀ (i : Nat) (u : Value) (x : List Int), V[i]? = some u → L[i]? = some x → Owned w B u x
  apart : ∀ (i j : Nat) (u u' : Value), i ≠ j → V[i]? = some u → V[j]? = some u' → ∀ k, u.ownBlock = some k → u'.ownBlock ≠ some k
  off : ∀ u ∈ V, ∀ k, u.ownBlock = some k → v.ownBlock ≠ some k
/-- its blocks -/
def RwF (v : Value) (V : List Value) (k : Nat) : Prop := v.ownBlock = some k ∨ ∃ u ∈ V, u.ownBlock = some k
theorem Rws.nil (w : World) (B : Nat) : Rws w B (.slice none 0 0) [] [] := ⟨World.ownsRow_nil _ _ _ _, rfl, fun i u x h => by simp at h, fun i j u u' _ h => by simp at h, fun u h => by cases h⟩
theorem Rws.lt {w : World} {B : Nat} {v : Value} {V : List Value} {L : List (List Int)} (h : Rws w B v V L) (k : Nat) (hk : RwF v V k) : B ≤ k ∧ k < w.heap.size := by
  rcases hk with hk | ⟨u, hu, hk⟩
  · exact World.ownsRow.lt h.row k hk
  · obtain ⟨i, hi⟩ := List.mem_iff_getElem?.1 hu
    have hl := (List.getElem?_eq_some_iff.1 hi).1
    exact World.ownsRow.lt (h.own i u (L[i]'(by have := h.len; omega)) hi (List.getElem?_eq_getElem _)) k hk
theorem Rws.kept {w w' : World} {B : Nat} {v : Value} {V : List Value} {L : List (List Int)} (h : Rws w B v V L) (hb : ∀ k, RwF v V k → w'.heap[k]? = w.heap[k]?) : Rws w' B v V L :=
  ⟨ownsRow_kept h.row fun k hk => hb k (.inl hk), h.len, fun i u x hu hx => owned_kept (h.own i u x hu hx) fun k hk => hb k (.inr ⟨u, List.mem_of_getElem? hu, hk⟩), h.apart, h.off⟩
theorem Rws.keep {w w' : World} {B : Nat} {v : Value} {V : List Value} {L : List (List Int)} (h : Rws w B v V L) (hb : Below w.heap.size w w') : Rws w' B v V L := h.kept fun k hk => hb.block k (h.lt k hk).2
/-- one row more -/
theorem Rws.more {w w1 w' : World} {B g cap : Nat} {v u : Value} {V : List Value} {L : List (List Int)} {x : List Int} (h : Rws w B v V L) (hb : Below w.heap.size w w1) (ho : Owned w1 w.heap.size u x) (hB : B ≤ w.heap.size)
    (hrow : w'.ownsRow B 35 1 (.slice (some ⟨g, 0, none⟩) (V.length + 1) cap) (V.length + 1) (V ++ [u])) (hg : w1.grownBy w' v.ownBlock) (hat : v.ownBlock = some g ∨ g = w1.heap.size) :
    Rws w' B (.slice (some ⟨g, 0, none⟩) (V.length + 1) cap) (V ++ [u]) (L ++ [x]) := by
  have hul : ∀ k, u.ownBlock = some k → w.heap.size ≤ k ∧ k < w1.heap.size := fun k hk => World.ownsRow.lt ho k hk
  have hvl : ∀ k, v.ownBlock = some k → k < w.heap.size := fun k hk => (h.lt k (.inl hk)).2
  have hVl : ∀ y ∈ V, ∀ k, y.ownBlock = some k → k < w.heap.size := fun y hy k hk => (h.lt k (.inr ⟨y, hy, hk⟩)).2
  have hs := hb.size
  have key : ∀ (i : Nat) (y : Value), (V ++ [u])[i]? = some y → (i < V.length ∧ V[i]? = some y) ∨ (i = V.length ∧ y = u) := fun i y hy => by
    rcases Nat.lt_or_ge i V.length with hi | hi
    · rw [List.getElem?_append_left hi] at hy
      exact .inl ⟨hi, hy⟩
    · have hi2 := (List.getElem?_eq_some_iff.1 hy).1
      simp at hi2
      have e : i = V.length := by omega
      subst e
      rw [List.getElem?_append_right (Nat.le_refl _), Nat.sub_self] at hy
      exact .inr ⟨rfl, (Option.some.inj hy).symm⟩
  refine ⟨by rw [List.length_append]; exact hrow, by simp [h.len], fun i y z hy hz => ?_, fun i j y y' hij hy hy' k hk hk' => ?_, fun y hy k hk e => ?_⟩
  · rcases key i y hy with ⟨hi, hy⟩ | ⟨rfl, rfl⟩
    · rw [List.getElem?_append_left (by rw [h.len]; exact hi)] at hz
      refine owned_kept (owned_kept (h.own i y z hy hz) fun k hk => hb.block k (hVl y (List.mem_of_getElem? hy) k hk)) fun k hk => hg.block k (Nat.lt_of_lt_of_le (hVl y (List.mem_of_getElem? hy) k hk) hs) (fun e => h.off y (List.mem_of_getElem? hy) k hk e.symm)
    · rw [← h.len, List.getElem?_append_right (Nat.le_refl _), Nat.sub_self] at hz
      obtain rfl := Option.some.inj hz
      refine owned_kept (owned_low ho hB) fun k hk => hg.block k (hul k hk).2 (fun e => ?_)
      have := hvl k e.symm
      have := (hul k hk).1
      omega
  · rcases key i y hy with ⟨hi, q1⟩ | ⟨e1, e2⟩ <;> rcases key j y' hy' with ⟨hj, q2⟩ | ⟨e3, e4⟩
    · exact h.apart i j y y' hij q1 q2 k hk hk'
    · rw [e4] at hk'
      have := hVl y (List.mem_of_getElem? q1) k hk; have := (hul k hk').1; omega
    · rw [e2] at hk
      have := hVl y' (List.mem_of_getElem? q2) k hk'; have := (hul k hk).1; omega
    · omega
  · have e2 : g = k := by simpa [Value.ownBlock] using e
    subst e2
    obtain ⟨i, hi⟩ := List.mem_iff_getElem?.1 hy
    rcases key i y hi with ⟨_, hi⟩ | ⟨_, rfl⟩
    · rcases hat with e | e
      · exact h.off y (List.mem_of_getElem? hi) g hk e
      · have := hVl y (List.mem_of_getElem? hi) g hk; omega
    · rcases hat with e | e
      · have := hvl g e; have := (hul g hk).1; omega
      · have := (hul g hk).2; omega
/-- a byte of a row is set -/
theorem Rws.set {w : World} {B g n c : Nat} {v : Value} {V : List Value} {L : List (List Int)} (h : Rws w B v V L) (j : Nat) (x : List Int) (hu : V[j]? = some (.slice (some ⟨g, 0, none⟩) n c)) (hx : L[j]? = some x) (hn : x.length = n) (k : Nat) (y : Int) : Rws (w.setCell ⟨g, k, none⟩ (.int .u8 y)) B v V (L.set j (x.set k y)) := by
  have hgr := grown_set w g k (.int .u8 y)
  have hg := World.ownsRow.lt (h.own j _ x hu hx) g rfl
  refine ⟨ownsRow_kept h.row fun q hq => hgr.block q (h.lt q (.inl hq)).2 (fun e => h.off _ (List.mem_of_getElem? hu) g rfl (by rw [hq, e])), by rw [List.length_set]; exact h.len, fun i u z hi hz => ?_, h.apart, h.off⟩
  by_cases e : i = j
  · subst e
    rw [List.getElem?_set_self (List.getElem?_eq_some_iff.1 hx).1] at hz
    obtain rfl := Option.some.inj hz
    obtain rfl := Option.some.inj (hi.symm.trans hu)
    exact Owned.set (h.own i _ x hu hx) hn k y
  · rw [List.getElem?_set_ne (fun e' => e e'.symm)] at hz
    refine owned_kept (h.own i u z hi hz) fun q hq => hgr.block q (h.lt q (.inr ⟨u, List.mem_of_getElem? hi, hq⟩)).2 (fun e2 => ?_)
    have e3 : q = g := Option.some.inj e2
    subst e3
    exact h.apart i j u _ e hi hu q hq rfl
/-- such rows may be read -/
theorem Rws.in2 {w : World} {B : Nat} {a : Option Addr} {n c : Nat} {V : List Value} {L : List (List Int)} {M : Nat → List Int} (h : Rws w B (.slice a n c) V L) (hn : V.length = n) (hM : ∀ i, i < n → L[i]? = some (M i)) (hb : ∀ i, i < n → IsBytes (M i)) : ∃ Vf, In2 w a n Vf M := by
  have each : ∀ i, i < n → ∃ p : Option Addr × Nat × Nat, V[i]? = some (.slice p.1 p.2.1 p.2.2) ∧ Owned w B (.slice p.1 p.2.1 p.2.2) (M i) := fun i hi => by
    have ho := h.own i (V[i]'(by omega)) (M i) (List.getElem?_eq_getElem _) (hM i hi)
    obtain ⟨a', c', e, _⟩ := ho.slice
    rw [e] at ho
    exact ⟨(a', (M i).length, c'), by rw [← e]; exact List.getElem?_eq_getElem _, ho⟩
  letI : Inhabited (Option Addr × Nat × Nat) := ⟨(none, 0, 0)⟩
  obtain ⟨Vf, hVf⟩ := choose_lt each
  refine ⟨Vf, fun h0 => ?_, fun i hi => ?_⟩
  · rcases h.row.2 with ⟨_, e⟩ | ⟨g, cap, cur, e, _, hg, _⟩
    · omega
    · injection e with e1 e2 e3
      subst e1
      refine ⟨g, 0, rfl, (Array.getElem?_eq_some_iff.1 hg).1, fun i hi => ?_⟩
      rw [Nat.zero_add]
      have hr : w.ownsRow B 35 1 (.slice (some ⟨g, 0, none⟩) n c) n V := by have := h.row; rw [hn] at this; exact this
      rw [World.ownsRow.cellAt hr i (by omega)]
      exact (hVf i hi).1
  · obtain ⟨hu, ho⟩ := hVf i hi
    obtain ⟨h1, h2, h3⟩ := ho.holds
    refine ⟨h1, h2, hb i hi, h3, fun x hx _ => ?_, ?_, ?_⟩
    · have := (World.ownsRow.lt ho x.block (by rw [hx]; rfl)).2
      exact this
    all_goals
      rcases ho.2 with ⟨e, h0⟩ | ⟨g, cap, cur, e, _, _, h5, h6, _⟩
      · injection e with _ e2 e3
        omega
      · injection e with _ e2 e3
        simp only [maxLen] at h6
        omega
theorem append_rowR {w : World} {ops : Array Oper} {rest : List Oper} {o : Oper} {act : Act} {Q : Exit → Act → World → Prop} (hgd : o.guard = none) (s x : Operand)
    (ho : o.op = .call { callee := .builtin .append, args := #[s, x], argTypes := #[41, 41] })
    (base : Nat) (v : Value) (vs : List Value) (hs : act.eval s = v) (hown : w.ownsRow base 35 1 v vs.length vs)
    (a : Nat) (u : Value) (hu : u.oneCell' = true) (hx : act.eval x = .slice (some ⟨a, 0, none⟩) 1 1) (hc : w.cell? ⟨a, 0, none⟩ = some u)
    (hN : (vs.length + 1) * 24 ≤ 140737488355328) (hbase : base ≤ w.heap.size)
    (h : ∀ g c w', w'.ownsRow base 35 1 (.slice (some ⟨g, 0, none⟩) (vs.length + 1) c) (vs.length + 1) (vs ++ [u]) → w.grownBy w' v.ownBlock → (v.ownBlock = some g ∨ g = w.heap.size) → wpList Try.prog ops Q rest (act.put o.dst (.slice (some ⟨g, 0, none⟩) (vs.length + 1) c)) w') :
    wpList Try.prog ops Q (o :: rest) act w := by
  obtain ⟨i, hi, hz, h1, h2⟩ := infoSl
  refine wpList_append_lies w hgd s x 41 ho base 35 i _ 1 24 Try.underlying41 hi hz h1 h2 rfl (by decide) v vs.length vs hs hown ⟨a, 0, none⟩ 1 1 [u] hx rfl ?_ (by simpa using hu) (by omega) (by simp only [maxLen]; omega) hN hbase _ rfl ?_
  · intro j y hy
    have hj : j = 0 := by
      have := (List.getElem?_eq_some_iff.1 hy).1
      simpa using this
    subst hj
    obtain rfl := Option.some.inj hy
    exact hc
  · intro g c w' hown' hg hat _
    exact h g c w' hown' hg hat
end Go.Proofs.Ytibgfjnddhfgpaa
