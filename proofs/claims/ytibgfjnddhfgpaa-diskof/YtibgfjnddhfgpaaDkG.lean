/- What the law's own begun keeps: texts in boxes, slices of texts. -/
import Derived.Test.YtibgfjnddhfgpaaDkK
import Derived.Test.YtibgfjnddhfgpaaDkB
import Derived.Test.YtibgfjnddhfgpaaDkAc
import Derived.Test.YtibgfjnddhfgpaaDkTw
import Derived.Deep.AppendLies
namespace Go.Proofs.Ytibgfjnddhfgpaa
open Go.ChangeShapes Go.WideShapes Go.ChangeAt Go.RowKit Go.Deep Go.Maps
set_option linter.unusedVariables false
/-- bytes as a text -/
def sT (x : List Int) : Value := .string (strOfNums x)
def strs (L : List (List Int)) : Array Value := (L.map sT).toArray
theorem strs_size (L : List (List Int)) : (strs L).size = L.length := by simp [strs]
theorem strs_one (L : List (List Int)) : (strs L).all (·.oneCell') = true := by
  rw [Array.all_eq_true_iff_forall_mem]; intro v hv; simp [strs] at hv; obtain ⟨z, _, rfl⟩ := hv; rfl
/-- a slice of texts, of one's own -/
def RowT (w : World) (base : Nat) (v : Value) (l : List (List Int)) : Prop := w.ownsRow base 9 1 v l.length (l.map sT)
theorem RowT.nil (w : World) (base : Nat) : RowT w base (.slice none 0 0) [] := World.ownsRow_nil _ _ _ _
theorem RowT.own {w : World} {base : Nat} {v : Value} {l : List (List Int)} (h : RowT w base v l) : ∀ k, v.ownBlock = some k → base ≤ k ∧ k < w.heap.size := fun k hk => World.ownsRow.lt h k hk
theorem RowT.kept {w w' : World} {base : Nat} {v : Value} {l : List (List Int)} (h : RowT w base v l) (hb : ∀ k, v.ownBlock = some k → w'.heap[k]? = w.heap[k]?) : RowT w' base v l := ownsRow_kept h hb
theorem RowT.keep {w w' : World} {base : Nat} {v : Value} {l : List (List Int)} (h : RowT w base v l) (hb : Below w.heap.size w w') : RowT w' base v l := h.kept fun k hk => hb.block k (h.own k hk).2
theorem RowT.at {w : World} {base : Nat} {v : Value} {l : List (List Int)} (h : RowT w base v l) (k : Nat) (hk : v.ownBlock = some k) : ∃ cs, w.heap[k]? = some (.cells cs 9) := by
  rcases h.2 with ⟨rfl, _⟩ | ⟨g, cap, cur, rfl, _, hgb, _⟩
  · simp [Value.ownBlock] at hk
  · have : g = k := by simpa [Value.ownBlock] using hk
    subst this
    exact ⟨cur, hgb⟩
theorem infoS : ∃ i, Try.prog.info? 9 = some i ∧ i.zero = some (.string ⟨#[]⟩) ∧ i.size = 1 ∧ i.bytes = 16 := info_parts (show (Try.prog.info? 9).map (fun i => (i.zero, i.size, i.bytes)) = some (some (.string ⟨#[]⟩), 1, 16) by kernel_rfl)
/-- append(texts, t), at the operation -/
theorem wp_textT {w : World} {o : Oper} {act : Act} {K : Act → World → Prop} {Q : Exit → Act → World → Prop} (s x : Operand)
    (ho : o.op = .call { callee := .builtin .append, args := #[s, x], argTypes := #[46, 46] })
    (base : Nat) (v : Value) (l : List (List Int)) (hs : act.eval s = v) (hown : RowT w base v l)
    (g c : Nat) (y : List Int) (hx : act.eval x = .slice (some ⟨g, 0, none⟩) 1 c) (hc : w.cell? ⟨g, 0, none⟩ = some (sT y))
    (hN : l.length ≤ 1000000000) (hbase : base ≤ w.heap.size)
    (h : ∀ g' c' w', RowT w' base (.slice (some ⟨g', 0, none⟩) (l.length + 1) c') (l ++ [y]) → w.grownBy w' v.ownBlock → (v.ownBlock = some g' ∨ g' = w.heap.size) → K (act.put o.dst (.slice (some ⟨g', 0, none⟩) (l.length + 1) c')) w') :
    o.wp Try.prog act w K Q := by
  obtain ⟨i, hi, hz, h1, h2⟩ := infoS
  refine wp_append_lies w s x 46 ho base 9 i _ 1 16 Try.underlying46 hi hz h1 h2 rfl (by decide) v l.length _ hs hown ⟨g, 0, none⟩ 1 c [sT y] hx rfl ?_ (by intro u hu; rw [List.mem_singleton.1 hu]; rfl) (by decide) (by simp only [maxLen]; omega) (by omega) hbase _ rfl ?_
  · intro j u hu
    have hj : j = 0 := by
      have := (List.getElem?_eq_some_iff.1 hu).1
      simpa using this
    subst hj
    rw [add_plain]
    obtain rfl : sT y = u := by simpa using hu
    exact hc
  · intro g' c' w' hown' hg hat _
    refine h g' c' w' ?_ hg hat
    unfold RowT
    rw [List.length_append, List.map_append]
    exact hown'
/-- a store of one cell, at the operation -/
theorem wp_store_val {op : Oper} {a : Act} {w : World} {K : Act → World → Prop} {Q : Exit → Act → World → Prop} (ty : TypeId) (x y : Operand) (ho : op.op = .store ty x y)
    (b o : Nat) (v : Value) (hv : v.cells = #[v]) (h1 : v.oneCell' = true) (hx : a.eval x = .pointer (some ⟨b, o, none⟩)) (hy : a.eval y = v)
    (hc : (w.cell? ⟨b, o, none⟩).isSome = true) (hf : w.frozen? ⟨b, o, none⟩ = false) (hi : (Try.prog.info? ty).map (·.size) = some 1)
    (h : K (a.put op.dst undef) (w.setCell ⟨b, o, none⟩ v)) : op.wp Try.prog a w K Q := by
  have hr := run_storeCells_cells (P := Try.prog) b o [v] 0 w (fun j hj => by obtain rfl : j = 0 := (by simpa using hj); exact hc) (fun j hj => by obtain rfl : j = 0 := (by simpa using hj); exact hf) (fun u hu => by obtain rfl : u = v := (by simpa using hu); exact h1)
  cases hq : Try.prog.info? ty with
  | none => simp [hq] at hi
  | some i =>
    have hs : i.size = 1 := by simpa [hq] using hi
    have hr' : (storeCells ⟨b, o, none⟩ [v] 0).run Try.prog w = .ok () (w.setCell ⟨b, o, none⟩ v) := hr
    have hst : (storeVar ty ⟨b, o, none⟩ v).run Try.prog w = .ok () (w.setCell ⟨b, o, none⟩ v) := by
      simp [storeVar, sizeOf, typeInfo, hq, hs, hv, hr']
    unfold Oper.wp execOp
    simp only [ho, hx, hy, Instr.storeAt, Instr.sureAddr, Sem.run_bind, Sem.run_pure, Result.andThen_ok, hst]
    exact h
theorem flD_wr (D : List (List Int)) (W : Int → List (List Int)) (k : Nat) (C : List Int) : flD D (fun j => if j = (k : Int) then W j ++ [C] else W j) = (flD D W).set k C := by
  apply List.ext_getElem?
  intro i
  by_cases hi : k = i
  · subst hi
    by_cases hl : k < D.length
    · rw [List.getElem?_set_self (by rw [flD_len]; exact hl)]
      simp only [flD, List.getElem?_mapIdx, List.getElem?_eq_getElem hl]
      simp [lastOf]
    · rw [List.getElem?_eq_none (by rw [flD_len]; omega), List.getElem?_eq_none (by rw [List.length_set, flD_len]; omega)]
  · rw [List.getElem?_set_ne hi]
    simp only [flD, List.getElem?_mapIdx]
    have : ¬ ((i : Int) = (k : Int)) := by omega
    simp only [if_neg this]
theorem strs_set (L : List (List Int)) (k : Nat) (C : List Int) : (strs L).setIfInBounds k (sT C) = strs (L.set k C) := by
  simp [strs, List.map_set]
/-- eight slices, all nil -/
def nil8 : List Value := List.replicate 8 (.slice none 0 0)
/-- what begun keeps behind some acts -/
structure Bg (w wr : World) (F : Nat → Prop) (b N Bn : Nat) (s : Ds) (sl : List Value) : Prop where
  dk : Dk wr F b N s
  far : ∀ k, F k → w.heap.size + 4 ≤ k
  bel : Below w.heap.size w wr
  up : s.up = true
  fu : s.fu = -1
  l8 : s.D.length = 8
  c3 : ∃ cs, wr.heap[w.heap.size]? = some (.cells cs 45) ∧ cs.size = 8
  c4 : ∃ cs, wr.heap[w.heap.size + 1]? = some (.cells cs 47) ∧ cs.size = 8
  was : wr.heap[w.heap.size + 2]? = some (.cells (strs s.D) 45)
  sn : wr.heap[w.heap.size + 3]? = some (.cells sl.toArray 47)
  now : wr.heap[Bn]? = some (.cells (strs (flD s.D s.W)) 45)
  nF : ¬ F Bn
  hBn : w.heap.size + 4 ≤ Bn
  svl : sl.length = 8
  row : ∀ (k : Nat) (v : Value), sl[k]? = some v → RowT wr (w.heap.size + 4) v (s.W (k : Int))
  off : ∀ (k : Nat) (v : Value) (g : Nat), sl[k]? = some v → v.ownBlock = some g → ¬ F g
  apart : ∀ (j k : Nat) (u v : Value) (g : Nat), j ≠ k → sl[j]? = some u → sl[k]? = some v → u.ownBlock = some g → v.ownBlock ≠ some g
theorem nil8_at {k : Nat} {v : Value} (h : nil8[k]? = some v) : v = .slice none 0 0 := by
  have := List.mem_of_getElem? h
  exact (List.mem_replicate.1 this).2
end Go.Proofs.Ytibgfjnddhfgpaa
