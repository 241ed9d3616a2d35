/- A block within a slice of blocks: read, written. -/
import Derived.Test.YtibgfjnddhfgpaaDkY
import Derived.Deep.MidRow
import Derived.Laws.OwnMore
namespace Go.Proofs.Ytibgfjnddhfgpaa
open Go.ChangeShapes Go.WideShapes Go.ChangeAt Go.RowKit Go.Deep Go.Maps
set_option linter.unusedVariables false
theorem OwnB.range {w : World} {base g n c : Nat} {B : List (List Int)} (h : OwnB w base (.slice (some ⟨g, 0, none⟩) n c) B) (h64 : Is64 B) (i : Nat) (x : List Int) (hx : B[i]? = some x) : w.rangeAt g (i * 64) (x.map (Value.int .u8)) := by
  intro j v hv
  rw [List.getElem?_map] at hv
  cases hj : x[j]? with
  | none => rw [hj] at hv; cases hv
  | some y =>
    rw [hj] at hv
    obtain rfl := Option.some.inj hv
    have hl := (h64 x (List.mem_of_getElem? hx)).1
    have hlt := (List.getElem?_eq_some_iff.1 hj).1
    rw [h.cell h64 i j x hx (by omega), List.getD_eq_getElem?_getD, hj]
    rfl
theorem OwnB.there {w : World} {base g n c : Nat} {B : List (List Int)} (h : OwnB w base (.slice (some ⟨g, 0, none⟩) n c) B) (h64 : Is64 B) (i : Nat) (x : List Int) (hx : B[i]? = some x) : w.there g (i * 64) 64 := by
  intro j hj
  rw [h.cell h64 i j x hx hj]
  refine ⟨rfl, ?_⟩
  obtain ⟨cs, hcs⟩ := h.at g rfl
  exact frozen_not hcs _
/-- cells set, one behind the other -/
def setsL : List Value → Nat → List Value → List Value
  | xs, _, [] => xs
  | xs, o, v :: vs => setsL (xs.set o v) (o + 1) vs
theorem setsL_len : ∀ (vs xs : List Value) (o : Nat), (setsL xs o vs).length = xs.length
  | [], xs, o => rfl
  | v :: vs, xs, o => by rw [setsL, setsL_len vs]; simp
theorem setsL_at : ∀ (vs xs : List Value) (o m : Nat), o + vs.length ≤ xs.length → (setsL xs o vs)[m]? = if o ≤ m ∧ m < o + vs.length then vs[m - o]? else xs[m]?
  | [], xs, o, m, _ => by rw [setsL, if_neg (fun h => by have := h.2; simp only [List.length_nil] at this; omega)]
  | v :: vs, xs, o, m, h => by
    simp only [List.length_cons] at h ⊢
    rw [setsL, setsL_at vs _ (o + 1) m (by simp; omega)]
    by_cases hm : m = o
    · subst hm
      rw [if_neg (by omega), if_pos (by omega), Nat.sub_self, List.getElem?_set_self (by omega)]
      rfl
    · by_cases hr : o + 1 ≤ m ∧ m < o + 1 + vs.length
      · rw [if_pos hr, if_pos (by omega), show m - o = (m - (o + 1)) + 1 by omega, List.getElem?_cons_succ]
      · rw [if_neg hr, if_neg (by omega), List.getElem?_set_ne (by omega)]
theorem is64_set {B : List (List Int)} (h : Is64 B) (i : Nat) (y : List Int) (hy : y.length = 64 ∧ IsBytes y) : Is64 (B.set i y) := fun x hx => by
  rcases List.mem_or_eq_of_mem_set hx with h1 | h1
  · exact h x h1
  · rw [h1]; exact hy
theorem sets_block {B : List (List Int)} (h : Is64 B) (i : Nat) (hi : i < B.length) (y : List Int) (hy : y.length = 64 ∧ IsBytes y) : setsL (bcs B) (i * 64) (y.map (Value.int .u8)) = bcs (B.set i y) := by
  have h' := is64_set h i y hy
  have l1 := flat_len h
  have l2 := flat_len h'
  rw [List.length_set] at l2
  apply List.ext_getElem?
  intro m
  rw [setsL_at _ _ _ _ (by simp only [bcs, List.length_map, l1, hy.1]; omega), List.length_map, hy.1]
  unfold bcs
  by_cases hm : m < B.length * 64
  · have e : m = m / 64 * 64 + m % 64 := by omega
    have hq : m / 64 < B.length := by omega
    have r := flat_at h' (m / 64) (m % 64) ((B.set i y)[m / 64]'(by simpa using hq)) (List.getElem?_eq_getElem (by simpa using hq)) (by omega)
    rw [← e] at r
    rw [List.getElem?_map (l := (B.set i y).flatten), r]
    by_cases hq2 : m / 64 = i
    · rw [if_pos (by omega), List.getElem?_map]
      have e2 : (B.set i y)[m / 64]'(by simpa using hq) = y := by simp [hq2]
      rw [e2, show m - i * 64 = m % 64 by omega]
    · rw [if_neg (by omega), List.getElem?_map]
      have r2 := flat_at h (m / 64) (m % 64) (B[m / 64]) (List.getElem?_eq_getElem hq) (by omega)
      rw [← e] at r2
      rw [r2]
      have e2 : (B.set i y)[m / 64]'(by simpa using hq) = B[m / 64] := by rw [List.getElem_set_ne (fun e => hq2 e.symm)]
      rw [e2]
  · rw [if_neg (by omega), List.getElem?_eq_none (by simp only [List.length_map]; omega), List.getElem?_eq_none (by simp only [List.length_map]; omega)]
theorem owns_sets {base : Nat} {e : TypeId} {size g n cap : Nat} : ∀ (vs xs : List Value) (o : Nat) (w : World), w.ownsRow base e size (.slice (some ⟨g, 0, none⟩) n cap) n xs → o + vs.length ≤ xs.length → (w.setCells g o vs).ownsRow base e size (.slice (some ⟨g, 0, none⟩) n cap) n (setsL xs o vs)
  | [], xs, o, w, h, _ => h
  | v :: vs, xs, o, w, h, hl => by
    simp only [List.length_cons] at hl
    exact owns_sets vs (xs.set o v) (o + 1) _ (h.stored o v).1 (by simp; omega)
/-- blocks[i] = y -/
theorem OwnB.put {w : World} {base g n c : Nat} {B : List (List Int)} (hn : B.length = n) (h : OwnB w base (.slice (some ⟨g, 0, none⟩) n c) B) (h64 : Is64 B) (i : Nat) (hi : i < B.length) (y : List Int) (hy : y.length = 64 ∧ IsBytes y) : OwnB (w.setCells g (i * 64) (y.map (Value.int .u8))) base (.slice (some ⟨g, 0, none⟩) n c) (B.set i y) := by
  subst hn
  unfold OwnB
  rw [List.length_set, ← sets_block h64 i hi y hy]
  exact owns_sets _ _ _ w h (by simp only [bcs, List.length_map, flat_len h64, hy.1]; omega)
end Go.Proofs.Ytibgfjnddhfgpaa
