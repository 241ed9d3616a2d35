/- A crash, block by block. -/
import Derived.Test.YtibgfjnddhfgpaaDkOn
namespace Go.Proofs.Ytibgfjnddhfgpaa
open Go.ChangeShapes Go.WideShapes Go.ChangeAt Go.RowKit Go.Deep Go.Maps
set_option linter.unusedVariables false
theorem crs_app (keep : List Int) (W : Int → List (List Int)) : ∀ (l1 l2 : List Nat) (k : Nat) (D : List (List Int)), crs keep W (l1 ++ l2) k D = crs keep W l2 (k + l1.length) (crs keep W l1 k D)
  | [], l2, k, D => rfl
  | i :: r, l2, k, D => by
    rw [List.cons_append, crs, crs, crs_app keep W r l2, List.length_cons, show k + 1 + r.length = k + (r.length + 1) by omega]
theorem crs_not (keep : List Int) (W : Int → List (List Int)) (i : Nat) : ∀ (l : List Nat) (k : Nat) (D : List (List Int)), i ∉ l → (crs keep W l k D)[i]? = D[i]?
  | [], _, _, _ => rfl
  | j :: r, k, D, h => by
    rw [crs, crs_not keep W i r _ _ (fun e => h (by simp [e])), List.getElem?_set_ne (fun e => h (by simp [e]))]
theorem wb_split (n i : Nat) (W : Int → List (List Int)) (h : i < n) : wb n W = wb i W ++ ((if (W (i : Int)).isEmpty then [] else [i]) ++ (List.range' (i + 1) (n - (i + 1))).filter fun (j : Nat) => !(W (j : Int)).isEmpty) := by
  unfold wb
  have e : List.range n = List.range i ++ (i :: List.range' (i + 1) (n - (i + 1))) := by
    have e1 : n = i + (n - (i + 1) + 1) := by omega
    conv => lhs; rw [e1, List.range_eq_range', ← List.range'_append]
    rw [List.range_eq_range']
    simp [List.range'_succ]
  rw [e, List.filter_append, List.filter_cons]
  cases hE : (W (i : Int)).isEmpty <;> simp
/-- how many blocks ahead of i have writes that wait -/
def pl (W : Int → List (List Int)) (i : Nat) : Nat := (wb i W).length
theorem pl_zero (W : Int → List (List Int)) : pl W 0 = 0 := rfl
theorem pl_succ (W : Int → List (List Int)) (i : Nat) : pl W (i + 1) = pl W i + (if W (i : Int) = [] then 0 else 1) := by
  unfold pl wb
  rw [List.range_succ, List.filter_append, List.length_append]
  by_cases h : W (i : Int) = []
  · simp [h]
  · simp [h]
theorem kp_zero (keep : List Int) (k : Nat) : kp keep k 0 = 0 := by have := kp_le keep k 0; omega
theorem crD_at (keep : List Int) (D : List (List Int)) (W : Int → List (List Int)) (i : Nat) (x : List Int) (h : D[i]? = some x) : (crD keep D W)[i]? = some (pick (W (i : Int)) (kp keep (pl W i) (W (i : Int)).length) x) := by
  have hi := (List.getElem?_eq_some_iff.1 h).1
  unfold crD
  rw [wb_split D.length i W hi, crs_app, crs_app]
  have n1 : i ∉ (List.range' (i + 1) (D.length - (i + 1))).filter fun (j : Nat) => !(W (j : Int)).isEmpty := by
    intro hm
    have := (List.mem_filter.1 hm).1
    rw [List.mem_range'_1] at this
    omega
  have n2 : i ∉ wb i W := fun hm => by have := (mem_wb.1 hm).1; omega
  rw [crs_not keep W i _ _ _ n1]
  cases hE : (W (i : Int)).isEmpty with
  | true =>
    have e : W (i : Int) = [] := by simpa using hE
    simp only [if_true, crs]
    rw [crs_not keep W i _ _ _ n2, h, e]
    simp [pick, kp_zero]
  | false =>
    simp only [Bool.false_eq_true, if_false, crs, Nat.zero_add]
    rw [List.getElem?_set_self (by rw [crs_len]; exact hi), crs_not keep W i _ _ _ n2, h]
    rfl
theorem wa_nil (n : Nat) : wa n (fun _ => []) = [] := by
  have : wb n (fun _ => []) = [] := by
    apply List.eq_nil_iff_forall_not_mem.2
    intro i hi
    exact (mem_wb.1 hi).2 rfl
  rw [wa, this]
  rfl
end Go.Proofs.Ytibgfjnddhfgpaa
