/- coord: a vote is heard (gen_coao.py). -/
import Derived.Test.YthaeidbnbgghkaaMgCzxCoAm
import Derived.Maps.AppendAt
namespace Go.Proofs.Ythaeidbnbgghkaa
open Go.ChangeShapes Go.WideShapes Go.ChangeAt Go.RowKit Go.Deep Go.Maps
set_option linter.unusedVariables false
set_option linter.unusedSimpArgs false
theorem append_int_at {w : World} {ops : Array Oper} {rest : List Oper} {o : Oper} {act : Act} {Q : Exit → Act → World → Prop} (hgd : o.guard = none) (s x : Operand)
    (ho : o.op = .call { callee := .builtin .append, args := #[s, x], argTypes := #[39, 39] })
    (base : Nat) (v : Value) (l : List Int) (hs : act.eval s = v) (hown : OwnZ w base v l)
    (g c : Nat) (y : Int) (hx : act.eval x = .slice (some ⟨g, 0, none⟩) 1 c) (hin : InZ w (some ⟨g, 0, none⟩) [y])
    (hN : l.length ≤ 1000000000) (hbase : base ≤ w.heap.size)
    (h : ∀ v' w', OwnZ w' base v' (l ++ [y]) → w.grownBy w' v.ownBlock → (v'.ownBlock = v.ownBlock ∨ v'.ownBlock = some w.heap.size) → wpList Try.prog ops Q rest (act.put o.dst v') w') :
    wpList Try.prog ops Q (o :: rest) act w := by
  obtain ⟨i, hi, hz, h1, h2⟩ := infoZ
  refine wpList_append_own_at w hgd s x 39 ho base 3 i _ 1 8 Try.underlying39 hi hz h1 h2 rfl (by decide) v l.length _ hs hown ⟨g, 0, none⟩ 1 c ([y].map zi) hx (by simp) ?_ (by simp [Value.oneCell', zi]) (by simp only [maxLen]; omega) (by omega) hbase ?_
  · intro j u hu
    rw [List.getElem?_map] at hu
    obtain ⟨y', hy, rfl⟩ := Option.map_eq_some_iff.1 hu
    obtain ⟨b, off, e, _, hc⟩ := hin.at hy
    cases e
    rw [add_plain]
    exact hc
  · intro v' w' hown' hg _ hat
    refine h v' w' ?_ hg hat
    unfold OwnZ
    rw [List.length_append, List.map_append]
    exact hown'
/-- a vote is heard -/
theorem AlR.app {w wr u : World} {F : Nat → Prop} {b m hb nb rb n : Nat} {lim : Int} {o : Option Tr} {su : Bool} {Y Y' : List Int} {yv v' : Value} {cm ab : Int} (h : AlR w wr F b m hb nb rb n lim o su Y yv cm ab) (g : wr.grownBy u yv.ownBlock) (ho : OwnZ u w.heap.size v' Y') (hat : v'.ownBlock = yv.ownBlock ∨ v'.ownBlock = some wr.heap.size) :
    u.heap[hb]? = some (.cells (hC su yv cm ab) 55) ∧ AlR w (u.setCell ⟨hb, 2, none⟩ v') F b m hb nb rb n lim o su Y' v' cm ab := by
  have lh := lt_of_heapK h.hh
  have ln := lt_of_heapK h.nn
  have lr := lt_of_heapK h.rr
  have hh' : u.heap[hb]? = some (.cells (hC su yv cm ab) 55) := (g.block _ lh (fun e => h.yh _ e.symm rfl)).trans h.hh
  have e1 := setCell_blk (i := 2) v' hh'
  have e2 : (u.setCell ⟨hb, 2, none⟩ v').heap[hb]? = some (.cells (hC su v' cm ab) 55) := by rw [e1]; simp [hC]
  have gs := grown_setCell u hb 2 v'
  have ry : ∀ k, yv.ownBlock = some k → k ≠ rb := fun k hk e => by
    obtain ⟨cs, h1⟩ := ownZ_typ h.yo hk
    rw [e, h.rr] at h1
    injection h1 with h1
    injection h1 with h2 h3
    exact absurd h3 (by decide)
  obtain ⟨B, hcd⟩ := h.cd
  have vb : ∀ k, v'.ownBlock = some k → ¬ F k ∧ k ≠ nb ∧ k ≠ hb := fun k hk => by
    rcases hat with e | e
    · rw [hk] at e
      exact ⟨(h.yf k e.symm).1, (h.yf k e.symm).2, h.yh k e.symm⟩
    · rw [hk] at e
      injection e with e
      exact ⟨fun hf => absurd (hcd.lt k hf) (by omega), by omega, by omega⟩
  have b1 : Below w.heap.size w u := h.bel.grown g h.bel.size (fun k hk => (h.yo.own k hk).1)
  refine ⟨hh', ⟨b1.grown gs b1.size (fun k hk => by cases hk; exact h.gh), (Co.grown ⟨B, hcd⟩ g (fun k hk => (h.yf k hk).1)).beside gs h.fh, h.ge, e2, ?_, h.fh, h.fn, h.gh, ho.kept fun k hk => gs.block k (ho.own k hk).2 (fun e => by injection e with e; exact (vb k hk).2.2 e), fun k hk => ⟨(vb k hk).1, (vb k hk).2.1⟩, ?_, h.fr, h.rh, h.gr⟩⟩
  · exact (gs.block _ (Nat.lt_of_lt_of_le ln g.size) (fun e => by injection e with e; exact h.hn e)).trans ((g.block _ ln (fun e => (h.yf _ e.symm).2 rfl)).trans h.nn)
  · exact (gs.block _ (Nat.lt_of_lt_of_le lr g.size) (fun e => by injection e with e; exact h.rh e)).trans ((g.block _ lr (fun e => ry _ e.symm rfl)).trans h.rr)
theorem tk_lg (o : Option Tr) (k f t : Int) (yb : Bool) (L : List Pk) : (tkO (sX o) k f t 1 yb L).lg = 0 ∨ ((tkO (sX o) k f t 1 yb L).lg = 1 ∧ k = 2 ∧ yb = true ∧ t = 0) := by
  unfold tkO
  split
  · rename_i hg
    rw [sX_at]
    cases o with
    | none =>
      unfold tkF
      simp only
      split <;> exact .inl rfl
    | some x =>
      unfold tkF
      simp only
      repeat' split
      all_goals first
        | exact .inl rfl
        | (refine .inr ⟨rfl, ?_, ?_, hg.2⟩ <;> simp_all)
  · exact .inl rfl
theorem LkV.low {z z' : Nat} {w : World} {V : Value} {kts : List (Int × Int)} (h : LkV z w V kts) (hz : z' ≤ z) : LkV z' w V kts := by
  obtain ⟨a, nD, c, D, h1, h2, h3, h4, h5, h6⟩ := h
  exact ⟨a, nD, c, D, h1, h2, h3, h4, fun q hq hD => ⟨Nat.le_trans hz (h5 q hq hD).1, (h5 q hq hD).2⟩, h6⟩
theorem LkV.keep {z : Nat} {w u : World} {V : Value} {kts : List (Int × Int)} (h : LkV z w V kts) (hb : Below w.heap.size w u) : LkV z u V kts := by
  obtain ⟨a, nD, c, D, h1, h2, h3, h4, h5, h6⟩ := h
  exact ⟨a, nD, c, D, h1, h2.kept hb.size (fun q hq hD => hb.block _ (h5 q hq hD).2), h3, h4, fun q hq hD => ⟨(h5 q hq hD).1, Nat.lt_of_lt_of_le (h5 q hq hD).2 hb.size⟩, h6⟩
theorem LkV.grown {z : Nat} {w u : World} {V : Value} {kts : List (Int × Int)} (h : LkV z w V kts) {ob : Option Nat} (hg : w.grownBy u ob) (hz : ∀ k, ob = some k → k < z) : LkV z u V kts := by
  obtain ⟨a, nD, c, D, h1, h2, h3, h4, h5, h6⟩ := h
  exact ⟨a, nD, c, D, h1, h2.kept hg.size (fun q hq hD => hg.block _ (h5 q hq hD).2 (fun e => by have := hz _ e.symm; have := (h5 q hq hD).1; omega)), h3, h4, fun q hq hD => ⟨(h5 q hq hD).1, Nat.lt_of_lt_of_le (h5 q hq hD).2 hg.size⟩, h6⟩
theorem LkV.sl {z : Nat} {w : World} {V : Value} {kts : List (Int × Int)} (h : LkV z w V kts) : ∃ a nD c, V = .slice a nD c := by
  obtain ⟨a, nD, c, D, h1, -⟩ := h
  exact ⟨a, nD, c, h1⟩
end Go.Proofs.Ythaeidbnbgghkaa
