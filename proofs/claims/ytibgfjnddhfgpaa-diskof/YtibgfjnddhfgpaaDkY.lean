/- A disk behind a write: the footprint. -/
import Derived.Test.YtibgfjnddhfgpaaDkX
namespace Go.Proofs.Ytibgfjnddhfgpaa
open Go.ChangeShapes Go.WideShapes Go.ChangeAt Go.RowKit Go.Deep Go.Maps
set_option linter.unusedVariables false
/-- a write is laid to the others -/
theorem DkP.wrote {w w4 w5 w6 : World} {h b N : Nat} {D : List (List Int)} {W : Int → List (List Int)} {up : Bool} {done fuse : Int} {gd cd mb : Nat} {T : Int → Option Hd} (H : DkP w h b N D W up done fuse gd cd mb T)
    (hb : Below w.heap.size w w4) (i : Int) (hI : InI i) (C : List Int) (hC : C.length = 64 ∧ IsBytes C) (g' c' : Nat)
    (o5 : OwnB w5 h (.slice (some ⟨g', 0, none⟩) ((W i).length + 1) c') (W i ++ [C])) (hg5 : w4.grownBy w5 (hv ((T i).getD noH)).ownBlock) (hat : (hv ((T i).getD noH)).ownBlock = some g' ∨ g' = w4.heap.size)
    (S6 : Sc w6 mb (N + 1) (fun q => if q = i then some (g' + 1, (W i).length + 1, c') else T q)) (hg6 : w5.grownBy w6 (some mb)) :
    DkP w6 h b (N + 1) D (fun j => if j = i then W j ++ [C] else W j) up done fuse gd cd mb (fun q => if q = i then some (g' + 1, (W i).length + 1, c') else T q) := by
  obtain ⟨n1, n2, l1, l2, l3⟩ := H.apart3
  have keep : ∀ k, k < w.heap.size → (hv ((T i).getD noH)).ownBlock ≠ some k → k ≠ mb → w6.heap[k]? = w.heap[k]? := fun k hk hne hm =>
    have hk4 : k < w4.heap.size := Nat.lt_of_lt_of_le hk hb.size
    (hg6.block k (Nat.lt_of_lt_of_le hk4 hg5.size) (by simpa using hm)).trans ((hg5.block k hk4 (fun e => hne e.symm)).trans (hb.block k hk))
  have gm : g' ≠ mb := by
    rcases hat with e | e
    · exact (H.off i g' e).2.2.1
    · have := hb.size; omega
  have ggd : g' ≠ gd := by
    rcases hat with e | e
    · exact (H.off i g' e).2.2.2.1
    · have := hb.size; omega
  have goth : ∀ j y, j ≠ i → T j = some y → y.1 ≠ g' + 1 := by
    intro j y hj hy
    rcases hat with e | e
    · exact (H.off i g' e).2.2.2.2.2 j y hj hy
    · obtain ⟨_, ⟨g, c, rfl, _⟩, ho, _⟩ := H.row j y hy
      have := (ho.own g rfl).2
      have := hb.size
      show g + 1 ≠ g' + 1
      omega
  refine ⟨H.hb, H.hm, ?_, ?_, H.is64, S6, ?_, ?_, ?_⟩
  · exact (keep b l2 (fun e => (H.off i b e).2.1 rfl) n1).trans H.cell
  · refine H.dur.block fun k hk => ?_
    have : gd = k := by simpa [Value.ownBlock] using hk
    subst this
    exact keep gd l1 (fun e => (H.off i gd e).2.2.2.1 rfl) n2
  · intro j
    by_cases hj : j = i
    · simp [hj]
    · simp only [if_neg hj]; exact H.nil j
  · intro j x hx
    by_cases hj : j = i
    · subst hj
      simp only [if_true] at hx ⊢
      obtain rfl := Option.some.inj hx
      refine ⟨hI, ⟨g', c', by simp, ggd⟩, ?_, ?_⟩
      · refine o5.block fun k hk => ?_
        have e : g' = k := by simpa [Value.ownBlock] using hk
        subst e
        exact hg6.block g' (o5.own g' rfl).2 (by simpa using gm)
      · intro y hy
        rcases List.mem_append.1 hy with h1 | h1
        · exact (H.writes j).2 y h1
        · rw [List.mem_singleton.1 h1]; exact hC
    · simp only [if_neg hj] at hx ⊢
      obtain ⟨a1, a2, a3, a4⟩ := H.row j x hx
      refine ⟨a1, a2, a3.block fun k hk => ?_, a4⟩
      obtain ⟨g, c, rfl, hg⟩ := a2
      have e : g = k := by simpa [hv, Value.ownBlock] using hk
      subst e
      have hof := H.off j g (by rw [hx]; rfl)
      exact keep g hof.1 (fun e => (H.off i g e).2.2.2.2.2 j _ hj hx rfl) hof.2.2.1
  · intro j k x y hjk hx hy
    by_cases hj : j = i
    · by_cases hk : k = i
      · omega
      · subst hj
        simp only [if_true] at hx
        simp only [if_neg hk] at hy
        obtain rfl := Option.some.inj hx
        exact fun e => goth k y hk hy e.symm
    · by_cases hk : k = i
      · subst hk
        simp only [if_true] at hy
        simp only [if_neg hj] at hx
        obtain rfl := Option.some.inj hy
        exact goth j x hj hx
      · simp only [if_neg hj] at hx
        simp only [if_neg hk] at hy
        exact H.apart j k x y hjk hx hy
theorem fp_wrote {w w4 : World} {h b N : Nat} {D : List (List Int)} {W : Int → List (List Int)} {up : Bool} {done fuse : Int} {gd cd mb : Nat} {T : Int → Option Hd} (H : DkP w h b N D W up done fuse gd cd mb T) (i : Int) (g' c' n : Nat) (hat : (hv ((T i).getD noH)).ownBlock = some g' ∨ g' = w4.heap.size) (hs : w.heap.size ≤ w4.heap.size) (k : Nat) (hk : Fp b gd mb (fun q => if q = i then some (g' + 1, n, c') else T q) k) : Fp b gd mb T k ∨ w.heap.size ≤ k := by
  rcases hk with hk | hk | hk | ⟨j, x, hx, hk⟩
  · exact .inl (.inl hk)
  · exact .inl (.inr (.inl hk))
  · exact .inl (.inr (.inr (.inl hk)))
  · by_cases hj : j = i
    · simp only [hj, if_true] at hx
      obtain rfl := Option.some.inj hx
      have e : g' = k := by simpa using hk
      subst e
      rcases hat with e | e
      · exact .inl (H.own_fp i _ e)
      · right; omega
    · simp only [if_neg hj] at hx
      exact .inl (.inr (.inr (.inr ⟨j, x, hx, hk⟩)))
end Go.Proofs.Ytibgfjnddhfgpaa
