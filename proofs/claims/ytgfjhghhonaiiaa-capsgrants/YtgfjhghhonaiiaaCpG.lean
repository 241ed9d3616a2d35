/- A table and the law's two arrays. -/
import Derived.Test.YtgfjhghhonaiiaaCpP
namespace Go.Proofs.Ytgfjhghhonaiiaa
open Go.ChangeShapes Go.WideShapes Go.ChangeAt Go.RowKit Go.Deep Go.Maps
set_option linter.unusedVariables false
set_option linter.unusedSimpArgs false
def mayA (G : Gm) : Array Value := Array.ofFn (n := 63) fun k => Value.bool (G (((k.val / 7 : Nat) : Int), ((k.val % 7 : Nat) : Int))).isSome
def thA (Q : Qm) : Array Value := Array.ofFn (n := 9) fun k => Value.bool (Q (k.val : Int)).isSome
theorem thA_at (Q : Qm) (n : Nat) (hn : n < 9) : (thA Q)[n]? = some (.bool (Q (n : Int)).isSome) := by
  unfold thA
  rw [Array.getElem?_ofFn, dif_pos hn]
theorem mayA_at (G : Gm) (i r : Nat) (hi : i < 9) (hr : r < 7) : (mayA G)[i * 7 + r]? = some (.bool (G ((i : Int), (r : Int))).isSome) := by
  unfold mayA
  have h1 : (i * 7 + r) / 7 = i := by omega
  have h2 : (i * 7 + r) % 7 = r := by omega
  rw [Array.getElem?_ofFn, dif_pos (by omega)]
  simp only [h1, h2]
theorem thA_size (Q : Qm) : (thA Q).size = 9 := by unfold thA; simp
theorem mayA_size (G : Gm) : (mayA G).size = 63 := by unfold mayA; simp
theorem thA_set (Q Q' : Qm) (n : Nat) (v : Bool) (hn : n < 9) (h : ∀ k : Nat, k < 9 → (Q' (k : Int)).isSome = if k = n then v else (Q (k : Int)).isSome) : (thA Q).setIfInBounds n (.bool v) = thA Q' := by
  refine Array.ext_getElem? fun k => ?_
  rw [Array.getElem?_setIfInBounds, thA_size]
  by_cases hk : k < 9
  · rw [thA_at Q' k hk, h k hk, thA_at Q k hk]
    by_cases e : n = k
    · subst e
      simp [hn]
    · rw [if_neg e, if_neg (Ne.symm e)]
  · rw [if_neg (by omega), Array.getElem?_eq_none (by rw [thA_size]; omega), Array.getElem?_eq_none (by rw [thA_size]; omega)]
theorem mayA_set (G G' : Gm) (i r : Nat) (v : Bool) (hi : i < 9) (hr : r < 7) (h : ∀ j s : Nat, j < 9 → s < 7 → (G' ((j : Int), (s : Int))).isSome = if j = i ∧ s = r then v else (G ((j : Int), (s : Int))).isSome) : (mayA G).setIfInBounds (i * 7 + r) (.bool v) = mayA G' := by
  refine Array.ext_getElem? fun k => ?_
  rw [Array.getElem?_setIfInBounds, mayA_size]
  by_cases hk : k < 63
  · obtain ⟨j, s, hj, hs, rfl⟩ : ∃ j s, j < 9 ∧ s < 7 ∧ k = j * 7 + s := ⟨k / 7, k % 7, by omega, by omega, by omega⟩
    rw [mayA_at G' j s hj hs, h j s hj hs, mayA_at G j s hj hs]
    by_cases e : j = i ∧ s = r
    · obtain ⟨rfl, rfl⟩ := e
      simp [hk]
    · rw [if_neg e, if_neg (by omega)]
  · rw [if_neg (by omega), Array.getElem?_eq_none (by rw [mayA_size]; omega), Array.getElem?_eq_none (by rw [mayA_size]; omega)]
/-- a table, and the law's two arrays (what they were last made to say: Qt, Gt) -/
structure Gs (w0 w : World) (F : Nat → Prop) (b m t N : Nat) (Q : Qm) (G : Gm) (Qt : Qm) (Gt : Gm) : Prop where
  tab : Tab w F b N Q G
  may : w.heap[m]? = some (.cells (mayA Gt) 55)
  th : w.heap[t]? = some (.cells (thA Qt) 56)
  nm : ¬ F m
  nt : ¬ F t
  ne : m ≠ t
  n1 : ∀ k, F k → w0.heap.size ≤ k
  n2 : w0.heap.size ≤ m
  n3 : w0.heap.size ≤ t
  bel : Below w0.heap.size w0 w
section
variable {w0 w w' : World} {F : Nat → Prop} {b m t N : Nat} {Q Qt : Qm} {G Gt : Gm}
theorem Gs.keep (h : Gs w0 w F b m t N Q G Qt Gt) (hb : Below w.heap.size w w') : Gs w0 w' F b m t N Q G Qt Gt := ⟨h.tab.keep hb, (hb.block m (lt_of_heapK h.may)).trans h.may, (hb.block t (lt_of_heapK h.th)).trans h.th, h.nm, h.nt, h.ne, h.n1, h.n2, h.n3, h.bel.trans (hb.mono h.bel.size)⟩
theorem Gs.more {N' : Nat} (h : Gs w0 w F b m t N Q G Qt Gt) (hN : N ≤ N') : Gs w0 w F b m t N' Q G Qt Gt := ⟨h.tab.more hN, h.may, h.th, h.nm, h.nt, h.ne, h.n1, h.n2, h.n3, h.bel⟩
theorem Gs.call {Q1 : Qm} {G1 : Gm} {N1 : Nat} (h : Gs w0 w F b m t N Q G Qt Gt) (t1 : Tab w' F b N1 Q1 G1) (ho : Off F w w') : Gs w0 w' F b m t N1 Q1 G1 Qt Gt := ⟨t1, (ho.block m (lt_of_heapK h.may) h.nm).trans h.may, (ho.block t (lt_of_heapK h.th) h.nt).trans h.th, h.nm, h.nt, h.ne, h.n1, h.n2, h.n3, h.bel.trans (ho.below h.n1 h.bel.size)⟩
theorem below_set {a v : World} {g k : Nat} {x : Value} (h : Below a.heap.size a v) (hg : a.heap.size ≤ g) : Below a.heap.size a (v.setCell ⟨g, k, none⟩ x) := h.grown (grown_setCell v g k x) h.size (fun q hq => by cases hq; exact hg)
theorem Gs.setT {Q1 : Qm} (h : Gs w0 w F b m t N Q G Qt Gt) (n : Nat) (v : Bool) (hn : n < 9) (hq : ∀ k : Nat, k < 9 → (Q1 (k : Int)).isSome = if k = n then v else (Qt (k : Int)).isSome) : Gs w0 (w.setCell ⟨t, n, none⟩ (.bool v)) F b m t N Q G Q1 Gt :=
  ⟨h.tab.kept fun k hk => set_off w t n k _ (fun e => h.nt (by rw [← e]; exact hk)), (set_off w t n m _ h.ne).trans h.may, by rw [heap_setCell_same w t n _ _ _ h.th, thA_set Qt Q1 n v hn hq], h.nm, h.nt, h.ne, h.n1, h.n2, h.n3, below_set h.bel h.n3⟩
theorem Gs.setM {G1 : Gm} (h : Gs w0 w F b m t N Q G Qt Gt) (i r : Nat) (v : Bool) (hi : i < 9) (hr : r < 7) (hq : ∀ j s : Nat, j < 9 → s < 7 → (G1 ((j : Int), (s : Int))).isSome = if j = i ∧ s = r then v else (Gt ((j : Int), (s : Int))).isSome) : Gs w0 (w.setCell ⟨m, i * 7 + r, none⟩ (.bool v)) F b m t N Q G Qt G1 :=
  ⟨h.tab.kept fun k hk => set_off w m _ k _ (fun e => h.nm (by rw [← e]; exact hk)), by rw [heap_setCell_same w m _ _ _ _ h.may, mayA_set Gt G1 i r v hi hr hq], (set_off w m _ t _ (Ne.symm h.ne)).trans h.th, h.nm, h.nt, h.ne, h.n1, h.n2, h.n3, below_set h.bel h.n2⟩
theorem Gs.as {Q1 : Qm} {G1 : Gm} (h : Gs w0 w F b m t N Q G Qt Gt) (hq : thA Qt = thA Q1) (hg : mayA Gt = mayA G1) : Gs w0 w F b m t N Q G Q1 G1 := ⟨h.tab, by rw [h.may, hg], by rw [h.th, hq], h.nm, h.nt, h.ne, h.n1, h.n2, h.n3, h.bel⟩
theorem Gs.thAt (h : Gs w0 w F b m t N Q G Qt Gt) (n : Nat) (hn : n < 9) : w.cell? ⟨t, n, none⟩ = some (.bool (Qt (n : Int)).isSome) ∧ w.frozen? ⟨t, n, none⟩ = false := by
  refine ⟨?_, ?_⟩
  · unfold World.cell?
    simp only
    rw [h.th]
    exact thA_at Qt n hn
  · simp [World.frozen?, h.th]
theorem Gs.mayAt (h : Gs w0 w F b m t N Q G Qt Gt) (i r : Nat) (hi : i < 9) (hr : r < 7) : w.cell? ⟨m, i * 7 + r, none⟩ = some (.bool (Gt ((i : Int), (r : Int))).isSome) ∧ w.frozen? ⟨m, i * 7 + r, none⟩ = false := by
  refine ⟨?_, ?_⟩
  · unfold World.cell?
    simp only
    rw [h.may]
    exact mayA_at Gt i r hi hr
  · simp [World.frozen?, h.may]
end
theorem may0 : mayA noG = #[.bool false, .bool false, .bool false, .bool false, .bool false, .bool false, .bool false, .bool false, .bool false, .bool false, .bool false, .bool false, .bool false, .bool false, .bool false, .bool false, .bool false, .bool false, .bool false, .bool false, .bool false, .bool false, .bool false, .bool false, .bool false, .bool false, .bool false, .bool false, .bool false, .bool false, .bool false, .bool false, .bool false, .bool false, .bool false, .bool false, .bool false, .bool false, .bool false, .bool false, .bool false, .bool false, .bool false, .bool false, .bool false, .bool false, .bool false, .bool false, .bool false, .bool false, .bool false, .bool false, .bool false, .bool false, .bool false, .bool false, .bool false, .bool false, .bool false, .bool false, .bool false, .bool false, .bool false] := by kernel_rfl
theorem th0 : thA noQ = #[.bool false, .bool false, .bool false, .bool false, .bool false, .bool false, .bool false, .bool false, .bool false] := by kernel_rfl
/-- what a granted or revoked root does to the array -/
theorem gr_arr {Q : Qm} {G : Gm} {n s : Nat} (h : ckE Q n s = 0) (j u : Nat) : (grG Q G (n : Int) (s : Int) ((j : Int), (u : Int))).isSome = if j = n ∧ u = s then true else (G ((j : Int), (u : Int))).isSome := by
  unfold grG
  rw [if_pos h]
  by_cases e : j = n ∧ u = s
  · obtain ⟨rfl, rfl⟩ := e
    simp
  · rw [if_neg e]
    show (if ((j : Int), (u : Int)) = ((n : Int), (s : Int)) then some () else G ((j : Int), (u : Int))).isSome = _
    rw [if_neg (fun h => e (by injection h with h1 h2; exact ⟨by omega, by omega⟩))]
theorem rv_arr {Q : Qm} {G : Gm} (hg : Gd Q G) {n s : Nat} (j u : Nat) : (rvG Q G (n : Int) (s : Int) ((j : Int), (u : Int))).isSome = if (j = n ∧ u = s) ∧ ckE Q n s = 0 then false else (G ((j : Int), (u : Int))).isSome := by
  unfold rvG
  by_cases h0 : ckE Q n s = 0
  · rw [if_pos h0]
    by_cases e : j = n ∧ u = s
    · obtain ⟨rfl, rfl⟩ := e
      simp [h0]
    · show (if ((j : Int), (u : Int)) = ((n : Int), (s : Int)) then none else G ((j : Int), (u : Int))).isSome = _
      rw [if_neg (fun h => e (by injection h with h1 h2; exact ⟨by omega, by omega⟩)), if_neg (fun h => e h.1)]
  · rw [if_neg h0, if_neg (fun h => h0 h.2)]
end Go.Proofs.Ytgfjhghhonaiiaa
