/- begun's steps: behind a flush, behind a write. -/
import Derived.Test.YtibgfjnddhfgpaaDkG
namespace Go.Proofs.Ytibgfjnddhfgpaa
open Go.ChangeShapes Go.WideShapes Go.ChangeAt Go.RowKit Go.Deep Go.Maps
set_option linter.unusedVariables false
theorem setRow_grown (w : World) (g : Nat) (cs : Array Value) : w.grownBy (w.setRow g cs) (some g) := ⟨rfl, rfl, rfl, by simp [World.setRow], fun k _ hne => setRow_other w g k cs (fun e => hne (by rw [e]))⟩
theorem lt_of_heap {w : World} {k : Nat} {o : Obj} (h : w.heap[k]? = some o) : k < w.heap.size := (Array.getElem?_eq_some_iff.1 h).1
theorem Bg.flushed {w wr w1 : World} {F F' : Nat → Prop} {b N Bn : Nat} {s : Ds} {sl : List Value} (h : Bg w wr F b N Bn s sl) (hd : Dk w1 F' b (N + 1) (s.fl).2) (hs : Step F F' wr w1) :
    Bg w ((w1.setRow (w.heap.size + 2) (strs (flD s.D s.W))).setRow (w.heap.size + 3) nil8.toArray) F' b (N + 1) Bn (s.fl).2 nil8 := by
  have e : s.fl = _ := Ds.fl_ok h.up (by rw [h.fu]; omega)
  have hz := hs.off.size
  have hB := lt_of_heap h.now
  have far' : ∀ k, F' k → w.heap.size + 4 ≤ k := fun k hk => by
    rcases hs.sub k hk with e | e
    · exact h.far k e
    · have := h.hBn; omega
  have nF' : ¬ F' Bn := fun hk => by
    rcases hs.sub _ hk with e | e
    · exact h.nF e
    · omega
  obtain ⟨k3, h3, z3⟩ := h.c3
  obtain ⟨k4, h4, z4⟩ := h.c4
  have notF : ∀ k, k < w.heap.size + 4 → ¬ F k := fun k hk hF => by have := h.far k hF; omega
  have g1 := setRow_grown w1 (w.heap.size + 2) (strs (flD s.D s.W))
  have g2 := setRow_grown (w1.setRow (w.heap.size + 2) (strs (flD s.D s.W))) (w.heap.size + 3) nil8.toArray
  have old : ∀ k, k < w1.heap.size → k ≠ w.heap.size + 2 → k ≠ w.heap.size + 3 → ((w1.setRow (w.heap.size + 2) (strs (flD s.D s.W))).setRow (w.heap.size + 3) nil8.toArray).heap[k]? = w1.heap[k]? := fun k hk n2 n3 =>
    (g2.block k (Nat.lt_of_lt_of_le hk g1.size) (by simpa using n3)).trans (g1.block k hk (by simpa using n2))
  have w3 : w1.heap[w.heap.size + 2]? = wr.heap[w.heap.size + 2]? := hs.off.block _ (lt_of_heap h.was) (notF _ (by omega))
  have w4 : w1.heap[w.heap.size + 3]? = wr.heap[w.heap.size + 3]? := hs.off.block _ (lt_of_heap h.sn) (notF _ (by omega))
  refine ⟨(hd.grown g1 (fun k e hk => by have := far' k hk; have := Option.some.inj e; omega)).grown g2 (fun k e hk => by have := far' k hk; have := Option.some.inj e; omega), far', ?_, by rw [e], by rw [e]; show lessF s.fu = -1; rw [h.fu]; rfl, by rw [e]; show (flD s.D s.W).length = 8; rw [flD_len]; exact h.l8, ⟨k3, ?_, z3⟩, ⟨k4, ?_, z4⟩, ?_, ?_, ?_, nF', h.hBn, rfl, fun k v hv => ?_, fun k v g hv hg => ?_, fun j k u v g hjk hu hv hg => ?_⟩
  · have b1 : Below w.heap.size w w1 := h.bel.trans (hs.off.below (fun k hk => by have := h.far k hk; omega) h.bel.size)
    exact (b1.grown g1 b1.size (fun k e => by have := Option.some.inj e; omega)).grown g2 (Nat.le_trans b1.size g1.size) (fun k e => by have := Option.some.inj e; omega)
  · exact (old _ (Nat.lt_of_lt_of_le (lt_of_heap h3) hz) (by omega) (by omega)).trans ((hs.off.block _ (lt_of_heap h3) (notF _ (by omega))).trans h3)
  · exact (old _ (Nat.lt_of_lt_of_le (lt_of_heap h4) hz) (by omega) (by omega)).trans ((hs.off.block _ (lt_of_heap h4) (notF _ (by omega))).trans h4)
  · rw [e]
    exact (g2.block _ (Nat.lt_of_lt_of_le (Nat.lt_of_lt_of_le (lt_of_heap h.was) hz) g1.size) (by simp)).trans (setRow_heap _ _ _ _ _ _ (w3.trans h.was))
  · exact setRow_heap _ _ _ _ _ _ ((g1.block _ (Nat.lt_of_lt_of_le (lt_of_heap h.sn) hz) (by simp)).trans (w4.trans h.sn))
  · rw [e]
    show _ = some (Obj.cells (strs (flD (flD s.D s.W) (fun _ => []))) _)
    rw [flD_nil (flD s.D s.W) (fun _ => []) (fun _ _ => rfl)]
    have := h.hBn
    exact (old _ (Nat.lt_of_lt_of_le hB hz) (by omega) (by omega)).trans ((hs.off.block _ hB h.nF).trans h.now)
  · rw [nil8_at hv, e]
    exact RowT.nil _ _
  · rw [nil8_at hv] at hg
    simp [Value.ownBlock] at hg
  · rw [nil8_at hu] at hg
    simp [Value.ownBlock] at hg
theorem setCell_grown (w : World) (b i : Nat) (v : Value) : w.grownBy (w.setCell ⟨b, i, none⟩ v) (some b) := grown_set w b i v
theorem Bg.wrote {w wr w1 w2 w4 w5 : World} {F F' : Nat → Prop} {b N Bn : Nat} {s : Ds} {sl : List Value} (h : Bg w wr F b N Bn s sl) (b1 : Below wr.heap.size wr w1) (k : Nat) (hk8 : k < 8) (C : List Int) (hC : C.length = 64) (hd : Dk w2 F' b (N + 1) (s.wr (k : Int) C).2) (hs : Step F F' w1 w2)
    (b4 : Below w2.heap.size (w2.setCell ⟨Bn, k, none⟩ (sT C)) w4) (v : Value) (hv : sl[k]? = some v) (g' c' : Nat) (o5 : RowT w5 (w.heap.size + 4) (.slice (some ⟨g', 0, none⟩) ((s.W (k : Int)).length + 1) c') (s.W (k : Int) ++ [C])) (hg5 : w4.grownBy w5 v.ownBlock) (hat : v.ownBlock = some g' ∨ g' = w4.heap.size) :
    Bg w (w5.setCell ⟨w.heap.size + 3, k, none⟩ (.slice (some ⟨g', 0, none⟩) ((s.W (k : Int)).length + 1) c')) F' b (N + 1) Bn (s.wr (k : Int) C).2 (sl.set k (.slice (some ⟨g', 0, none⟩) ((s.W (k : Int)).length + 1) c')) := by
  have e : s.wr (k : Int) C = _ := Ds.wr_ok h.up (by rw [h.l8]; omega) hC (by rw [h.fu]; omega)
  have z1 := b1.size
  have z2 := hs.off.size
  have z3 : w2.heap.size = (w2.setCell ⟨Bn, k, none⟩ (sT C)).heap.size := by simp [World.setCell]
  have z4 := b4.size
  have z5 := hg5.size
  have hB := lt_of_heap h.now
  have hBn := h.hBn
  have far' : ∀ k, F' k → w.heap.size + 4 ≤ k := fun k hk => by
    rcases hs.sub k hk with e | e
    · exact h.far k e
    · omega
  have notF' : ∀ k, k < wr.heap.size → ¬ F k → ¬ F' k := fun k hk hF hF' => by
    rcases hs.sub k hF' with e | e
    · exact hF e
    · omega
  have notF : ∀ k, k < w.heap.size + 4 → ¬ F k := fun k hk hF => by have := h.far k hF; omega
  have g3 := setCell_grown w2 Bn k (sT C)
  have g6 := setCell_grown w5 (w.heap.size + 3) k (.slice (some ⟨g', 0, none⟩) ((s.W (k : Int)).length + 1) c')
  have hvr := h.row k v hv
  have hvB : v.ownBlock ≠ some Bn := fun e => by
    obtain ⟨cs, hcs⟩ := hvr.at Bn e
    rw [h.now] at hcs
    simp at hcs
  have hv4 : ∀ g, v.ownBlock = some g → w.heap.size + 4 ≤ g ∧ g < wr.heap.size := fun g hg => hvr.own g hg
  -- a block that is nobody's of these
  have old24 : ∀ x, x < w2.heap.size → x ≠ Bn → w4.heap[x]? = w2.heap[x]? := fun x hx hn => (b4.block x (by omega)).trans (g3.block x hx (by simpa using hn))
  have old26 : ∀ x, x < w2.heap.size → x ≠ Bn → v.ownBlock ≠ some x → x ≠ w.heap.size + 3 → (w5.setCell ⟨w.heap.size + 3, k, none⟩ (.slice (some ⟨g', 0, none⟩) ((s.W (k : Int)).length + 1) c')).heap[x]? = w2.heap[x]? := fun x hx hn hv hn3 =>
    (g6.block x (by omega) (by simpa using hn3)).trans ((hg5.block x (by omega) (fun e => hv e.symm)).trans (old24 x hx hn))
  have old02 : ∀ x, x < wr.heap.size → ¬ F x → w2.heap[x]? = wr.heap[x]? := fun x hx hF => (hs.off.block x (by omega) hF).trans (b1.block x hx)
  have old : ∀ x, x < wr.heap.size → ¬ F x → x ≠ Bn → v.ownBlock ≠ some x → x ≠ w.heap.size + 3 → (w5.setCell ⟨w.heap.size + 3, k, none⟩ (.slice (some ⟨g', 0, none⟩) ((s.W (k : Int)).length + 1) c')).heap[x]? = wr.heap[x]? := fun x hx hF hn hv hn3 => (old26 x (by omega) hn hv hn3).trans (old02 x hx hF)
  have lowv : ∀ x, x < w.heap.size + 4 → v.ownBlock ≠ some x := fun x hx e => by have := (hv4 x e).1; omega
  have hg'3 : g' ≠ w.heap.size + 3 := by
    rcases hat with e | e
    · have := (hv4 g' e).1; omega
    · omega
  have hg'B : g' ≠ Bn := by
    rcases hat with e | e
    · intro e2; rw [e2] at e; exact hvB e
    · omega
  obtain ⟨k3, h3, q3⟩ := h.c3
  obtain ⟨k4, h4, q4⟩ := h.c4
  have hb26 : Below w.heap.size w (w5.setCell ⟨w.heap.size + 3, k, none⟩ (.slice (some ⟨g', 0, none⟩) ((s.W (k : Int)).length + 1) c')) := by
    have a1 : Below w.heap.size w w1 := h.bel.trans (b1.mono h.bel.size)
    have a2 : Below w.heap.size w w2 := a1.trans (hs.off.below (fun k hk => by have := h.far k hk; omega) a1.size)
    have a3 : Below w.heap.size w (w2.setCell ⟨Bn, k, none⟩ (sT C)) := a2.grown g3 a2.size (fun x e => by have := Option.some.inj e; omega)
    have a4 : Below w.heap.size w w4 := a3.trans (b4.mono (by omega))
    have a5 : Below w.heap.size w w5 := a4.grown hg5 a4.size (fun x e => by have := (hv4 x e).1; omega)
    exact a5.grown g6 a5.size (fun x e => by have := Option.some.inj e; omega)
  refine ⟨hd.kept (by have := g6.size; omega) (fun x hx => ?_) ?_ ?_ ?_, far', hb26, by rw [e], by rw [e]; show lessF s.fu = -1; rw [h.fu]; rfl, by rw [e]; exact h.l8, ⟨k3, (old _ (lt_of_heap h3) (notF _ (by omega)) (by omega) (lowv _ (by omega)) (by omega)).trans h3, q3⟩, ⟨k4, (old _ (lt_of_heap h4) (notF _ (by omega)) (by omega) (lowv _ (by omega)) (by omega)).trans h4, q4⟩, ?_, ?_, ?_, notF' Bn hB h.nF, hBn, by rw [List.length_set]; exact h.svl, fun j u hu => ?_, fun j u g hu hg => ?_, fun i j u u' g hij hu hu' hg => ?_⟩
  · refine old26 x (hd.lt x hx) (fun e => notF' Bn hB h.nF (e ▸ hx)) (fun e => ?_) (by have := far' x hx; omega)
    have := hv4 x e
    exact notF' x this.2 (h.off k v x hv e) hx
  · exact (g6.os.trans (hg5.os.trans (b4.os.trans g3.os)))
  · exact (g6.tape.trans (hg5.tape.trans (b4.tape.trans g3.tape)))
  · exact (g6.output.trans (hg5.output.trans (b4.output.trans g3.output)))
  · rw [e]
    exact (old _ (lt_of_heap h.was) (notF _ (by omega)) (by omega) (lowv _ (by omega)) (by omega)).trans h.was
  · have hx3 : w5.heap[w.heap.size + 3]? = some (.cells sl.toArray 47) := (hg5.block _ (by have := lt_of_heap h.sn; omega) (fun e => lowv _ (by omega) e.symm)).trans ((old24 _ (by have := lt_of_heap h.sn; omega) (by omega)).trans ((old02 _ (lt_of_heap h.sn) (notF _ (by omega))).trans h.sn))
    rw [set_own w5 (w.heap.size + 3) k _ _ hx3]
    simp
  · rw [e]
    show _ = some (Obj.cells (strs (flD s.D (fun j => if j = (k : Int) then s.W j ++ [C] else s.W j))) _)
    rw [flD_wr, ← strs_set]
    have hxB : (w2.setCell ⟨Bn, k, none⟩ (sT C)).heap[Bn]? = some (.cells ((strs (flD s.D s.W)).setIfInBounds k (sT C)) 45) := set_own w2 Bn k _ _ ((old02 _ hB h.nF).trans h.now) _
    exact (g6.block _ (by omega) (by simp; omega)).trans ((hg5.block _ (by omega) (fun e => hvB e.symm)).trans ((b4.block _ (by omega)).trans hxB))
  · rw [e]
    show RowT _ _ _ (if (j : Int) = (k : Int) then s.W (j : Int) ++ [C] else s.W (j : Int))
    by_cases hj : j = k
    · subst hj
      rw [List.getElem?_set_self (by rw [h.svl]; exact hk8)] at hu
      obtain rfl := Option.some.inj hu
      rw [if_pos rfl]
      refine o5.kept fun x hx => ?_
      have e : g' = x := by simpa [Value.ownBlock] using hx
      subst e
      exact g6.block _ (o5.own _ rfl).2 (by simpa using hg'3)
    · rw [List.getElem?_set_ne (fun e => hj e.symm)] at hu
      rw [if_neg (by omega)]
      refine (h.row j u hu).kept fun x hx => ?_
      have ho := (h.row j u hu).own x hx
      have hne : v.ownBlock ≠ some x := h.apart j k u v x hj hu hv hx
      refine old x ho.2 (h.off j u x hu hx) (fun e => ?_) hne (by omega)
      obtain ⟨cs, hcs⟩ := (h.row j u hu).at x hx
      rw [e, h.now] at hcs
      simp at hcs
  · by_cases hj : j = k
    · subst hj
      rw [List.getElem?_set_self (by rw [h.svl]; exact hk8)] at hu
      obtain rfl := Option.some.inj hu
      have e2 : g' = g := by simpa [Value.ownBlock] using hg
      subst e2
      rcases hat with e | e
      · exact notF' _ (hv4 g' e).2 (h.off _ v g' hv e)
      · intro hF
        have := hd.lt _ hF
        omega
    · rw [List.getElem?_set_ne (fun e => hj e.symm)] at hu
      exact notF' _ ((h.row j u hu).own g hg).2 (h.off j u g hu hg)
  · have newg : ∀ (j : Nat) (u : Value) (g : Nat), j ≠ k → sl[j]? = some u → u.ownBlock = some g → g ≠ g' := by
      intro j0 u0 g0 hj0 hu0 hg0 e2
      rcases hat with e | e
      · exact h.apart j0 k u0 v g0 hj0 hu0 hv hg0 (by rw [e2]; exact e)
      · have := ((h.row j0 u0 hu0).own _ hg0).2; omega
    by_cases hi : i = k
    · subst hi
      rw [List.getElem?_set_self (by rw [h.svl]; exact hk8)] at hu
      obtain rfl := Option.some.inj hu
      have e2 : g' = g := by simpa [Value.ownBlock] using hg
      subst e2
      rw [List.getElem?_set_ne hij] at hu'
      intro e
      exact newg j u' _ (fun e => hij e.symm) hu' e rfl
    · rw [List.getElem?_set_ne (fun e => hi e.symm)] at hu
      by_cases hj : j = k
      · subst hj
        rw [List.getElem?_set_self (by rw [h.svl]; exact hk8)] at hu'
        obtain rfl := Option.some.inj hu'
        intro e
        have e2 : g' = g := by simpa [Value.ownBlock] using e
        exact newg i u g hi hu hg e2.symm
      · rw [List.getElem?_set_ne (fun e => hj e.symm)] at hu'
        exact h.apart i j u u' g hij hu hu' hg
end Go.Proofs.Ytibgfjnddhfgpaa
