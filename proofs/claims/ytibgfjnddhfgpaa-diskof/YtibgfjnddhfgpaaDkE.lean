/- The plain disk: what is durable, what waits. -/
import Derived.Test.YtibgfjnddhfgpaaDkH
namespace Go.Proofs.Ytibgfjnddhfgpaa
set_option linter.unusedVariables false
/-- the last of a list, or this -/
def lastOf (l : List (List Int)) (x : List Int) : List Int := l.getLast?.getD x
/-- all that waits is durable -/
def flD (D : List (List Int)) (W : Int → List (List Int)) : List (List Int) := D.mapIdx fun i x => lastOf (W (i : Int)) x
theorem flD_len (D : List (List Int)) (W : Int → List (List Int)) : (flD D W).length = D.length := by simp [flD]
theorem flD_at (D : List (List Int)) (W : Int → List (List Int)) (i : Nat) (x : List Int) (h : D[i]? = some x) : (flD D W)[i]? = some (lastOf (W (i : Int)) x) := by
  simp [flD, List.getElem?_mapIdx, h]
theorem flD_nil (D : List (List Int)) (W : Int → List (List Int)) (h : ∀ i : Nat, i < D.length → W (i : Int) = []) : flD D W = D := by
  apply List.ext_getElem?
  intro i
  simp only [flD, List.getElem?_mapIdx]
  cases hD : D[i]? with
  | none => rfl
  | some x =>
    have hi := (List.getElem?_eq_some_iff.1 hD).1
    simp [lastOf, h i hi]
theorem flD_set (D : List (List Int)) (W : Int → List (List Int)) (i : Nat) (y : List Int) (hy : (W (i : Int)).getLast? = some y) : flD (D.set i y) (fun j => if j = (i : Int) then [] else W j) = flD D W := by
  apply List.ext_getElem?
  intro k
  simp only [flD, List.getElem?_mapIdx]
  by_cases hk : k = i
  · subst hk
    by_cases hl : k < D.length
    · rw [List.getElem?_set_self hl, List.getElem?_eq_getElem hl]
      simp [lastOf, hy]
    · rw [List.getElem?_eq_none (by simp; omega), List.getElem?_eq_none (by omega)]
      rfl
  · rw [List.getElem?_set_ne (fun e => hk e.symm)]
    have : ¬ ((k : Int) = (i : Int)) := by omega
    simp only [if_neg this]
theorem lastOf_mem (l : List (List Int)) (x : List Int) : lastOf l x = x ∨ lastOf l x ∈ l := by
  unfold lastOf
  cases h : l.getLast? with
  | none => exact .inl rfl
  | some y => exact .inr (List.mem_of_getLast? h)
theorem flD_64 (D : List (List Int)) (W : Int → List (List Int)) (h : Is64 D) (hW : ∀ i, Is64 (W i)) : Is64 (flD D W) := by
  intro x hx
  obtain ⟨i, hi, rfl⟩ := List.mem_iff_getElem.1 hx
  simp only [flD, List.getElem_mapIdx]
  rw [flD_len] at hi
  rcases lastOf_mem (W (i : Int)) D[i] with e | e
  · rw [e]; exact h _ (List.getElem_mem hi)
  · exact hW _ _ e
/-- the first m writes are kept -/
def pick (l : List (List Int)) (m : Nat) (x : List Int) : List Int := if m = 0 then x else l[m - 1]?.getD x
/-- how many of a block's n writes are kept, by the k-th place of keep -/
def kp (keep : List Int) (k n : Nat) : Nat := match keep[k]? with | some m => if 0 < m then (m % ((n : Int) + 1)).toNat else 0 | none => 0
theorem kp_le (keep : List Int) (k n : Nat) : kp keep k n ≤ n := by
  unfold kp
  cases keep[k]? with
  | none => simp
  | some m =>
    simp only
    split
    · have h1 : 0 ≤ m % ((n : Int) + 1) := Int.emod_nonneg _ (by omega)
      have h2 : m % ((n : Int) + 1) < (n : Int) + 1 := Int.emod_lt_of_pos _ (by omega)
      omega
    · omega
/-- blocks one behind the other, from the k-th place of keep on -/
def crs (keep : List Int) (W : Int → List (List Int)) : List Nat → Nat → List (List Int) → List (List Int)
  | [], _, D => D
  | i :: r, k, D => crs keep W r (k + 1) (D.set i (pick (W (i : Int)) (kp keep k (W (i : Int)).length) (D[i]?.getD [])))
/-- the blocks of which writes wait, rising -/
def wb (n : Nat) (W : Int → List (List Int)) : List Nat := (List.range n).filter fun i => !(W (i : Int)).isEmpty
/-- what Waiting tells -/
def wa (n : Nat) (W : Int → List (List Int)) : List Wt := (wb n W).map fun (i : Nat) => ((i : Int), ((W (i : Int)).length : Int))
/-- what a crash leaves -/
def crD (keep : List Int) (D : List (List Int)) (W : Int → List (List Int)) : List (List Int) := crs keep W (wb D.length W) 0 D
theorem crs_len (keep : List Int) (W : Int → List (List Int)) : ∀ (l : List Nat) (k : Nat) (D : List (List Int)), (crs keep W l k D).length = D.length
  | [], _, _ => rfl
  | i :: r, k, D => by rw [crs, crs_len keep W r]; simp
theorem pick_64 {l : List (List Int)} {m : Nat} {x : List Int} (hx : x.length = 64 ∧ IsBytes x) (hl : Is64 l) : (pick l m x).length = 64 ∧ IsBytes (pick l m x) := by
  unfold pick
  split
  · exact hx
  · cases h : l[m - 1]? with
    | none => exact hx
    | some y => exact hl y (List.mem_of_getElem? h)
theorem mem_wb {n : Nat} {W : Int → List (List Int)} {i : Nat} : i ∈ wb n W ↔ i < n ∧ W (i : Int) ≠ [] := by
  simp [wb]
theorem wb_rise (n : Nat) (W : Int → List (List Int)) : (wb n W).Pairwise (· < ·) := (List.pairwise_lt_range (n := n)).filter _
/-- two rising lists of the same numbers are one -/
theorem rise_uniq : ∀ {a b : List Int}, a.Pairwise (· < ·) → b.Pairwise (· < ·) → (∀ x, x ∈ a ↔ x ∈ b) → a = b
  | [], [], _, _, _ => rfl
  | [], y :: b, _, _, h => absurd ((h y).2 (by simp)) (by simp)
  | x :: a, [], _, _, h => absurd ((h x).1 (by simp)) (by simp)
  | x :: a, y :: b, ha, hb, h => by
    rw [List.pairwise_cons] at ha hb
    have e : x = y := by
      rcases List.mem_cons.1 ((h x).1 (by simp)) with e | e
      · exact e
      · rcases List.mem_cons.1 ((h y).2 (by simp)) with e2 | e2
        · exact e2.symm
        · have := hb.1 x e
          have := ha.1 y e2
          omega
    subst e
    rw [rise_uniq ha.2 hb.2 fun z => ?_]
    constructor
    · intro hz
      rcases List.mem_cons.1 ((h z).1 (by simp [hz])) with e | e
      · subst e; have := ha.1 z hz; omega
      · exact e
    · intro hz
      rcases List.mem_cons.1 ((h z).2 (by simp [hz])) with e | e
      · subst e; have := hb.1 z hz; omega
      · exact e
end Go.Proofs.Ytibgfjnddhfgpaa
