/- frame.All: the bodies of frames one behind the other; slices of slices of bytes. -/
import Derived.Test.YtcejbinkdlbpaaaFrmQ
namespace Go.Proofs.Ytcejbinkdlbpaaa
open Go.ChangeShapes Go.WideShapes Go.ChangeAt Go.RowKit Go.Deep
set_option linter.unusedVariables false
/-- what All tells of bytes: the bodies, where the last one ends, the error; by at most so many steps -/
def al : Nat → List Int → List (List Int) × Nat × Nat
  | 0, _ => ([], 0, 0)
  | f + 1, L => if L = [] then ([], 0, 0) else if (rd L).2.2 ≠ 0 then ([], 0, (rd L).2.2) else ((rd L).1 :: (al f (L.drop (rd L).2.1)).1, (rd L).2.1 + (al f (L.drop (rd L).2.1)).2.1, (al f (L.drop (rd L).2.1)).2.2)
theorem al_nil (f : Nat) : al f [] = ([], 0, 0) := by cases f <;> simp [al]
theorem al_bad (f : Nat) (L : List Int) (h : L ≠ []) (e : (rd L).2.2 ≠ 0) : al (f + 1) L = ([], 0, (rd L).2.2) := by
  simp [al, h, e]
theorem al_step (f : Nat) (L : List Int) (h : L ≠ []) (e : (rd L).2.2 = 0) : al (f + 1) L = ((rd L).1 :: (al f (L.drop (rd L).2.1)).1, (rd L).2.1 + (al f (L.drop (rd L).2.1)).2.1, (al f (L.drop (rd L).2.1)).2.2) := by
  simp [al, h, e]
/-- what is read is there -/
theorem rd_ok (L : List Int) (e : (rd L).2.2 = 0) : 8 ≤ (rd L).2.1 ∧ (rd L).2.1 ≤ L.length ∧ (rd L).1.length + 8 = (rd L).2.1 := by
  unfold rd at e ⊢
  split at e
  · simp at e
  · rename_i h1
    rw [if_neg h1]
    split at e
    · simp at e
    · rename_i h2
      rw [if_neg h2]
      split at e
      · simp at e
      · rename_i h3
        rw [if_neg h3]
        split at e
        · simp at e
        · rename_i h4
          rw [if_neg h4]
          simp
          omega
/-- bodies in memory of one's own, one behind the other, from block lo on and below hi -/
def Bods (w : World) : Nat → List Value → List (List Int) → Nat → Prop
  | lo, [], [], hi => lo ≤ hi
  | lo, v :: vs, B :: Bs, hi => ∃ mid, lo ≤ mid ∧ (∃ a, v = .slice a B.length B.length ∧ Owned w lo v B ∧ ∀ k, v.ownBlock = some k → k < mid) ∧ Bods w mid vs Bs hi
  | _, _, _, _ => False
theorem Bods.le {w : World} : ∀ {lo hi : Nat} {vs : List Value} {Bs : List (List Int)}, Bods w lo vs Bs hi → lo ≤ hi
  | lo, hi, [], [], h => h
  | lo, hi, v :: vs, B :: Bs, ⟨mid, h1, _, h2⟩ => Nat.le_trans h1 (Bods.le h2)
  | lo, hi, [], B :: Bs, h => h.elim
  | lo, hi, v :: vs, [], h => h.elim
theorem Bods.weaken {w : World} {hi hi' : Nat} (hh : hi ≤ hi') : ∀ {lo : Nat} {vs : List Value} {Bs : List (List Int)}, Bods w lo vs Bs hi → Bods w lo vs Bs hi'
  | lo, [], [], h => Nat.le_trans h hh
  | lo, u :: vs, C :: Bs, ⟨mid, h1, h2, h3⟩ => ⟨mid, h1, h2, Bods.weaken hh h3⟩
  | lo, [], C :: Bs, h => h.elim
  | lo, u :: vs, [], h => h.elim
theorem Owned.lower {w : World} {a b : Nat} {v : Value} {A : List Int} (h : Owned w b v A) (hab : a ≤ b) : Owned w a v A := by
  refine ⟨h.1, ?_⟩
  rcases h.2 with h1 | ⟨g, cap, cur, g1, g2, r⟩
  · exact .inl h1
  · exact .inr ⟨g, cap, cur, g1, Nat.le_trans hab g2, r⟩
theorem Bods.snoc {w : World} {v : Value} {B : List Int} {a : Option Addr} {hi hi' : Nat} (hv : v = .slice a B.length B.length) (ho : Owned w hi v B) (hlt : ∀ k, v.ownBlock = some k → k < hi') (hh : hi ≤ hi') :
    ∀ {lo : Nat} {vs : List Value} {Bs : List (List Int)}, Bods w lo vs Bs hi → Bods w lo (vs ++ [v]) (Bs ++ [B]) hi'
  | lo, [], [], h => ⟨hi', Nat.le_trans h hh, ⟨a, hv, ho.lower h, hlt⟩, Nat.le_refl _⟩
  | lo, u :: vs, C :: Bs, ⟨mid, h1, h2, h3⟩ => ⟨mid, h1, h2, Bods.snoc hv ho hlt hh h3⟩
  | lo, [], C :: Bs, h => h.elim
  | lo, u :: vs, [], h => h.elim
theorem owned_same {w w' : World} {base hi : Nat} {v : Value} {A : List Int} (h : Owned w base v A) (hlt : ∀ k, v.ownBlock = some k → k < hi) (hs : ∀ g cur, base ≤ g → g < hi → w.heap[g]? = some (.cells cur 5 (0, 0)) → w'.heap[g]? = w.heap[g]?) : Owned w' base v A := by
  refine ⟨h.1, ?_⟩
  rcases h.2 with h1 | ⟨g, cap, cur, rfl, hbg, hg, rest⟩
  · exact .inl h1
  · exact .inr ⟨g, cap, cur, rfl, hbg, (hs g cur hbg (hlt g rfl) hg).trans hg, rest⟩
theorem Bods.same {w w' : World} {hi : Nat} : ∀ {lo : Nat} {vs : List Value} {Bs : List (List Int)}, Bods w lo vs Bs hi → (∀ g cur, lo ≤ g → g < hi → w.heap[g]? = some (.cells cur 5 (0, 0)) → w'.heap[g]? = w.heap[g]?) → Bods w' lo vs Bs hi
  | lo, [], [], h, _ => h
  | lo, v :: vs, B :: Bs, ⟨mid, h1, ⟨a, hv, ho, hlt⟩, h3⟩, hs =>
    ⟨mid, h1, ⟨a, hv, owned_same ho hlt (fun g cur g1 g2 => hs g cur g1 (Nat.lt_of_lt_of_le g2 h3.le)), hlt⟩, Bods.same h3 (fun g cur g1 g2 => hs g cur (Nat.le_trans h1 g1) g2)⟩
  | lo, [], C :: Bs, h, _ => h.elim
  | lo, u :: vs, [], h, _ => h.elim
theorem Bods.below {w w' : World} {lo hi B : Nat} {vs : List Value} {Bs : List (List Int)} (h : Bods w lo vs Bs hi) (hb : Below B w w') (hB : hi ≤ B) : Bods w' lo vs Bs hi :=
  h.same fun g cur _ g2 _ => hb.block g (by omega)
theorem Bods.len {w : World} : ∀ {lo hi : Nat} {vs : List Value} {Bs : List (List Int)}, Bods w lo vs Bs hi → vs.length = Bs.length
  | lo, hi, [], [], h => rfl
  | lo, hi, v :: vs, B :: Bs, ⟨mid, h1, _, h2⟩ => by simp [Bods.len h2]
  | lo, hi, [], B :: Bs, h => h.elim
  | lo, hi, v :: vs, [], h => h.elim
/-- the body at a place -/
theorem Bods.get {w : World} {hi : Nat} : ∀ {lo : Nat} {vs : List Value} {Bs : List (List Int)}, Bods w lo vs Bs hi → ∀ i (h : i < Bs.length), ∃ a, vs[i]? = some (.slice a (Bs[i]).length (Bs[i]).length) ∧ Owned w lo (.slice a (Bs[i]).length (Bs[i]).length) Bs[i] ∧ ∀ k, Value.ownBlock (.slice a (Bs[i]).length (Bs[i]).length) = some k → k < hi
  | lo, v :: vs, B :: Bs, ⟨mid, h1, ⟨a, hv, ho, hlt⟩, h3⟩, 0, _ => by
    subst hv
    exact ⟨a, rfl, ho, fun k hk => Nat.lt_of_lt_of_le (hlt k hk) h3.le⟩
  | lo, v :: vs, B :: Bs, ⟨mid, h1, ⟨a, hv, ho, hlt⟩, h3⟩, i + 1, h => by
    obtain ⟨a', e1, e2, e3⟩ := Bods.get h3 i (by simpa using h)
    exact ⟨a', by simpa using e1, e2.lower h1, e3⟩
  | lo, [], [], _, i, h => by simp at h
  | lo, [], C :: Bs, h, _, _ => h.elim
  | lo, u :: vs, [], h, _, _ => h.elim
theorem info22 : (Try.prog.info? 22).map (fun i => (i.zero, i.size, i.bytes)) = some (some (.slice none 0 0), 1, 24) := by kernel_rfl
/-- a slice of slices of bytes, of one's own -/
def Rows2 (w : World) (base : Nat) (v : Value) (vs : List Value) : Prop := w.ownsRow base 22 1 v vs.length vs
theorem Rows2.below {w w' : World} {base B : Nat} {v : Value} {vs : List Value} (h : Rows2 w base v vs) (hb : Below B w w') (hB : ∀ k, v.ownBlock = some k → k < B) : Rows2 w' base v vs := by
  refine ⟨h.1, ?_⟩
  rcases h.2 with h1 | ⟨g, cap, cur, rfl, hbg, hg, rest⟩
  · exact .inl h1
  · exact .inr ⟨g, cap, cur, rfl, hbg, (hb.block g (hB g rfl)).trans hg, rest⟩
theorem Rows2.lt {w : World} {base : Nat} {v : Value} {vs : List Value} (h : Rows2 w base v vs) : ∀ k, v.ownBlock = some k → k < w.heap.size := fun k hk => (World.ownsRow.lt h k hk).2
theorem append_row {w : World} {ops : Array Oper} {rest : List Oper} {o : Oper} {act : Act} {Q : Exit → Act → World → Prop} (hgd : o.guard = none) (s x : Operand)
    (ho : o.op = .call { callee := .builtin .append, args := #[s, x], argTypes := #[34, 34] })
    (base : Nat) (v : Value) (vs : List Value) (hs : act.eval s = v) (hown : Rows2 w base v vs)
    (a : Addr) (u : Value) (hu : u.oneCell' = true) (hx : act.eval x = .slice (some a) 1 1) (hc : w.cell? a = some u)
    (hN : vs.length ≤ 5000000000000) (hbase : base ≤ w.heap.size)
    (h : ∀ v' w', Rows2 w' base v' (vs ++ [u]) → Below base w w' → (∀ g cur, g < w.heap.size → w.heap[g]? = some (.cells cur 5 (0, 0)) → w'.heap[g]? = w.heap[g]?) → wpList Try.prog ops Q rest (act.put o.dst v') w') :
    wpList Try.prog ops Q (o :: rest) act w := by
  obtain ⟨i, hi, hz, h1, h2⟩ := info_parts info22
  refine wpList_append_own w hgd s x 34 ho base 22 i (.slice none 0 0) 1 24 Try.underlying34 hi hz h1 h2 rfl (by decide) v vs.length vs hs hown a 1 1 [u] hx rfl ?_ (by simpa using hu) (by simp only [maxLen]; omega) (by omega) hbase ?_
  · intro j y hy
    have hj : j = 0 := by
      have := (List.getElem?_eq_some_iff.1 hy).1
      simpa using this
    subst hj
    simp at hy
    subst hy
    have : a.add 0 = a := by unfold Addr.add; split <;> simp_all
    rw [this]
    exact hc
  · intro v' w' hown' hg _
    refine h v' w' (by unfold Rows2; rw [List.length_append]; exact hown') ((Below.refl base w).grown hg hbase (fun k hk => (World.ownsRow.lt hown k hk).1)) ?_
    intro g cur hgl hgc
    refine hg.block g hgl (fun e => ?_)
    rcases hown.2 with ⟨rfl, _⟩ | ⟨g', cap, cur', rfl, _, hg', _⟩
    · simp [Value.ownBlock] at e
    · simp only [Value.ownBlock, Option.some.injEq] at e
      subst e
      rw [hg'] at hgc
      simp at hgc
end Go.Proofs.Ytcejbinkdlbpaaa
