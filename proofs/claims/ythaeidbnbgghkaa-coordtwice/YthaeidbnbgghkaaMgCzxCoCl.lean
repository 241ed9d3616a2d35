/- coord: the roots that have answered, plain (gen_ccloses.py). -/
import Derived.Test.YthaeidbnbgghkaaMgCz18
import Derived.Test.YthaeidbnbgghkaaMgCz21
namespace Go.Proofs.Ythaeidbnbgghkaa
open Go.ChangeShapes Go.WideShapes Go.ChangeAt Go.RowKit Go.Deep Go.Maps
set_option linter.unusedVariables false
set_option linter.unusedSimpArgs false
def Ls (n : Nat) : List Int := (List.range n).map fun i => ((i : Nat) : Int) + 1
theorem mem_ls {n : Nat} {r : Int} : r ∈ Ls n ↔ 1 ≤ r ∧ r ≤ n := by
  unfold Ls
  rw [List.mem_map]
  constructor
  · rintro ⟨i, hi, rfl⟩
    rw [List.mem_range] at hi
    omega
  · intro h
    exact ⟨(r - 1).toNat, by rw [List.mem_range]; omega, by omega⟩
theorem ls_len (n : Nat) : (Ls n).length = n := by unfold Ls; rw [List.length_map, List.length_range]
theorem ls_step (n : Nat) : Ls (n + 1) = Ls n ++ [((n : Nat) : Int) + 1] := by unfold Ls; rw [List.range_succ, List.map_append]; rfl
theorem ls_nodup (n : Nat) : (Ls n).Nodup := by
  induction n with
  | zero => exact List.nodup_nil
  | succ n ih =>
    rw [ls_step]
    refine List.nodup_append.2 ⟨ih, by simp, fun a ha b hb e => ?_⟩
    rw [List.mem_singleton] at hb
    have := mem_ls.1 ha
    omega
theorem filter_ne_len {L : List Int} (h : L.Nodup) {a : Int} (ha : a ∈ L) : (L.filter fun z => decide (z ≠ a)).length + 1 = L.length := by
  induction L with
  | nil => cases ha
  | cons x L ih =>
    rw [List.nodup_cons] at h
    by_cases e : x = a
    · subst e
      have h1 : (L.filter fun z => decide (z ≠ x)) = L := List.filter_eq_self.2 fun z hz => by
        rw [decide_eq_true_eq]
        rintro rfl
        exact h.1 hz
      rw [List.filter_cons_of_neg (by simp), h1]
      rfl
    · have ha' : a ∈ L := by
        rcases List.mem_cons.1 ha with e' | e'
        · exact absurd e'.symm e
        · exact e'
      rw [List.filter_cons_of_pos (by simp [e]), List.length_cons, List.length_cons, ih h.2 ha']
theorem filter_not_len : ∀ (A L : List Int), L.Nodup → A.Nodup → (∀ x ∈ A, x ∈ L) → (L.filter fun z => decide (z ∉ A)).length + A.length = L.length
  | [], L, _, _, _ => by
    have : (L.filter fun z => decide (z ∉ ([] : List Int))) = L := List.filter_eq_self.2 fun z _ => by simp
    rw [this]
    rfl
  | a :: A, L, hL, hA, hs => by
    rw [List.nodup_cons] at hA
    have e : (L.filter fun z => decide (z ∉ a :: A)) = (L.filter fun z => decide (z ≠ a)).filter fun z => decide (z ∉ A) := by
      rw [List.filter_filter]
      congr 1
      funext z
      by_cases h1 : z = a <;> by_cases h2 : z ∈ A <;> simp [h1, h2]
    have h1 := filter_not_len A (L.filter fun z => decide (z ≠ a)) (hL.sublist List.filter_sublist) hA.2 (fun x hx => by
      rw [List.mem_filter, decide_eq_true_eq]
      exact ⟨hs x (List.mem_cons_of_mem _ hx), fun e => hA.1 (e ▸ hx)⟩)
    have h2 := filter_ne_len hL (hs a List.mem_cons_self)
    rw [e, List.length_cons]
    omega
/-- the roots that lack, when these have answered -/
def Rm (n : Nat) (A : List Int) : List (Int × List Pc) := ((Ls n).filter fun z => decide (z ∉ A)).map fun r => (r, ([] : List Pc))
theorem rm_nil (n : Nat) : Rm n [] = (Ls n).map fun r => (r, ([] : List Pc)) := by
  unfold Rm
  rw [List.filter_eq_self.2 fun z _ => by simp]
theorem rm_len {n : Nat} {A : List Int} (hA : A.Nodup) (hs : ∀ x ∈ A, x ∈ Ls n) : (Rm n A).length + A.length = n := by
  unfold Rm
  rw [List.length_map, filter_not_len A (Ls n) (ls_nodup n) hA hs, ls_len]
theorem rm_step (n : Nat) (A : List Int) (r : Int) : wo15 (Rm n A) r = Rm n (A ++ [r]) := by
  unfold wo15 Rm
  rw [List.filter_map, List.filter_filter]
  congr 1
  congr 1
  funext z
  by_cases h1 : z = r <;> by_cases h2 : z ∈ A <;> simp [h1, h2]
theorem rm_same {n : Nat} {A : List Int} {r : Int} (h : r ∈ A) : Rm n (A ++ [r]) = Rm n A := by
  unfold Rm
  congr 1
  congr 1
  funext z
  by_cases h1 : z = r
  · subst h1; simp [h]
  · simp [h1]
theorem rm_sub (n : Nat) (A : List Int) : ((Rm n A).map Prod.fst).Sublist (Ls n) := by
  unfold Rm
  rw [List.map_map]
  have : (Prod.fst ∘ fun r => (r, ([] : List Pc))) = (id : Int → Int) := rfl
  rw [this, List.map_id]
  exact List.filter_sublist
/-- a committed transaction of the roots 1 to n -/
def cR (n : Nat) (A : List Int) : Tr := ⟨3, 0, Ls n, Rm n A⟩
def cX (n : Nat) (A : List Int) : Int → Option Tr := setX (fun _ => none) 9 (some (cR n A))
theorem cR_ok {n : Nat} (hn : n ≤ 6) (A : List Int) : TrOk (cR n A) := ⟨ls_nodup n, by show (Ls n).length ≤ 6; rw [ls_len]; exact hn, rm_sub n A, by show (1 : Int) ≤ 3; decide, by show (3 : Int) ≤ 3; decide⟩
theorem cX_gl {n : Nat} (hn : n ≤ 6) (A : List Int) : GL 2 (cX n A) := by
  have key : ∀ q x, cX n A q = some x → x = cR n A := fun q x hx => by
    by_cases e : q = 9
    · subst e
      unfold cX at hx
      rw [setX_at] at hx
      injection hx with hx
      exact hx.symm
    · unfold cX at hx
      rw [setX_ne _ _ e] at hx
      cases hx
  refine ⟨fun q x hx => by rw [key q x hx]; exact cR_ok hn A, fun q x hx => by rw [key q x hx]; exact ⟨Int.le_refl 0, (show (0 : Int) < 2 by decide)⟩⟩
theorem one_opl {q : Int} {x : Tr} : OpL (setX (fun _ => none) q (some x)) [q] := by
  refine ⟨List.pairwise_singleton _ _, fun p => ?_⟩
  rw [List.mem_singleton]
  constructor
  · rintro rfl
    rw [setX_at]; rfl
  · intro h
    by_cases e : p = q
    · exact e
    · rw [setX_ne _ _ e] at h; cases h
theorem cX_tick {n : Nat} {A l : List Int} (hl : OpL (cX n A) l) : tkX 2 (cX n A) l = cX n A := by
  obtain rfl := opl_uniq hl one_opl
  funext p
  unfold tkX
  by_cases e : p = 9
  · subst e
    rw [if_pos (by simp)]
    unfold cX
    rw [setX_at]
    unfold tk1 cR
    simp
  · rw [if_neg (by simp [e])]
theorem wchk_ok {k r : Int} (hk : k = 5 ∨ k = 6) (h1 : 1 ≤ r) (h6 : r ≤ 6) : wchk k r 0 9 false [] = 0 := by
  have hr : isRt r = true := by unfold isRt; simp [h1, h6]
  rcases hk with rfl | rfl
  · unfold wchk; simp [hr]; decide
  · unfold wchk; simp [hr]; decide
theorem cX_ask {n : Nat} (A : List Int) {r : Int} (hr : r ∈ Ls n) (h6 : r ≤ 6) : tkO (cX n A) 6 r 0 9 false [] = to1 3 r (some (cR n A)) := by
  unfold tkO
  rw [if_pos ⟨wchk_ok (.inr rfl) (mem_ls.1 hr).1 h6, rfl⟩]
  unfold cX
  rw [setX_at]
  unfold tkF
  simp only
  rw [if_pos (show r ∈ (cR n A).rts from hr), if_neg (by decide), if_neg (by rintro ⟨e, -⟩; exact absurd e (by decide)), if_pos (show (cR n A).st = 3 from rfl)]
theorem cX_ack {n : Nat} (A : List Int) {r : Int} (hr : r ∈ Ls n) (h6 : r ≤ 6) : tkO (cX n A) 5 r 0 9 false [] = (if Rm n (A ++ [r]) = [] then ⟨0, 9, 0, 4, [], none⟩ else ⟨0, 0, 0, 4, [], some (cR n (A ++ [r]))⟩) := by
  unfold tkO
  rw [if_pos ⟨wchk_ok (.inl rfl) (mem_ls.1 hr).1 h6, rfl⟩]
  unfold cX
  rw [setX_at]
  unfold tkF
  simp only
  rw [if_pos (show r ∈ (cR n A).rts from hr), if_pos trivial, if_pos (show (cR n A).st = 3 from rfl)]
  rw [show wo15 (cR n A).lk r = Rm n (A ++ [r]) from rm_step n A r]
  rfl
theorem mod_inC (x m : Int) (hm : 0 < m) : ∃ r : Nat, Int.tmod (Int.tmod x m + m) m = (r : Int) ∧ (r : Int) < m ∧ -m < Int.tmod x m ∧ Int.tmod x m < m := by
  have g : -m < Int.tmod x m ∧ Int.tmod x m < m := by
    by_cases g : 0 ≤ x
    · rw [Int.tmod_eq_emod_of_nonneg g]
      have h0 := Int.emod_nonneg x (show m ≠ 0 by omega)
      have h1 := Int.emod_lt_of_pos x hm
      omega
    · have e : x.tmod m = -((-x).tmod m) := by rw [Int.neg_tmod, Int.neg_neg]
      rw [e, Int.tmod_eq_emod_of_nonneg (by omega)]
      have h0 := Int.emod_nonneg (-x) (show m ≠ 0 by omega)
      have h1 := Int.emod_lt_of_pos (-x) hm
      omega
  have e := Int.tmod_eq_emod_of_nonneg (a := Int.tmod x m + m) (b := m) (by omega)
  have h0 := Int.emod_nonneg (Int.tmod x m + m) (show m ≠ 0 by omega)
  have h1 := Int.emod_lt_of_pos (Int.tmod x m + m) hm
  exact ⟨(Int.tmod (Int.tmod x m + m) m).toNat, by rw [e]; omega, by rw [e]; omega, g⟩
theorem wrg_ls {n : Nat} (h1 : 1 ≤ n) (h6 : n ≤ 6) : wrgE 9 (Ls n) = 0 := by
  rcases (by omega : n = 1 ∨ n = 2 ∨ n = 3 ∨ n = 4 ∨ n = 5 ∨ n = 6) with rfl | rfl | rfl | rfl | rfl | rfl <;> decide
end Go.Proofs.Ythaeidbnbgghkaa
