/- coord: two transactions under ticks, plain (gen_coticks.py). -/
import Derived.Test.YthaeidbnbgghkaaMgCzxCoCl
namespace Go.Proofs.Ythaeidbnbgghkaa
open Go.ChangeShapes Go.WideShapes Go.ChangeAt Go.RowKit Go.Deep Go.Maps
set_option linter.unusedVariables false
set_option linter.unusedSimpArgs false
def vR (n : Nat) (A : List Int) (age : Int) : Tr := ⟨1, age, Ls n, Rm n A⟩
def twoX (x y : Tr) : Int → Option Tr := setX (setX (fun _ => none) 1 (some x)) 2 (some y)
def oneX (y : Tr) : Int → Option Tr := setX (fun _ => none) 2 (some y)
theorem two_1 (x y : Tr) : twoX x y 1 = some x := by unfold twoX; rw [setX_ne _ _ (by decide), setX_at]
theorem two_2 (x y : Tr) : twoX x y 2 = some y := setX_at _ _ _
theorem two_ne (x y : Tr) {p : Int} (h1 : p ≠ 1) (h2 : p ≠ 2) : twoX x y p = none := by unfold twoX; rw [setX_ne _ _ h2, setX_ne _ _ h1]
theorem one_2 (y : Tr) : oneX y 2 = some y := setX_at _ _ _
theorem one_ne (y : Tr) {p : Int} (h2 : p ≠ 2) : oneX y p = none := by unfold oneX; rw [setX_ne _ _ h2]
theorem two_set1 (x x' y : Tr) : setX (twoX x y) 1 (some x') = twoX x' y := by
  funext p
  by_cases e1 : p = 1
  · subst e1; rw [setX_at, two_1]
  · rw [setX_ne _ _ e1]
    by_cases e2 : p = 2
    · subst e2; rw [two_2, two_2]
    · rw [two_ne _ _ e1 e2, two_ne _ _ e1 e2]
theorem two_set2 (x y y' : Tr) : setX (twoX x y) 2 (some y') = twoX x y' := by unfold twoX; rw [setX_set]
theorem two_opl (x y : Tr) : OpL (twoX x y) [1, 2] := by
  refine ⟨by simp, fun p => ?_⟩
  by_cases e1 : p = 1
  · subst e1; rw [two_1]; simp
  · by_cases e2 : p = 2
    · subst e2; rw [two_2]; simp
    · rw [two_ne _ _ e1 e2]; simp [e1, e2]
theorem one_opl2 (y : Tr) : OpL (oneX y) [2] := one_opl
theorem vR_ok {n : Nat} (hn : n ≤ 6) (A : List Int) (age : Int) : TrOk (vR n A age) := ⟨ls_nodup n, by show (Ls n).length ≤ 6; rw [ls_len]; exact hn, rm_sub n A, Int.le_refl 1, (show (1 : Int) ≤ 3 by decide)⟩
theorem two_gl {lim : Int} {x y : Tr} (hx : TrOk x ∧ 0 ≤ x.age ∧ x.age < lim) (hy : TrOk y ∧ 0 ≤ y.age ∧ y.age < lim) : GL lim (twoX x y) := by
  have key : ∀ q t, twoX x y q = some t → t = x ∨ t = y := fun q t ht => by
    by_cases e1 : q = 1
    · subst e1; rw [two_1] at ht; injection ht with ht; exact .inl ht.symm
    · by_cases e2 : q = 2
      · subst e2; rw [two_2] at ht; injection ht with ht; exact .inr ht.symm
      · rw [two_ne _ _ e1 e2] at ht; cases ht
  refine ⟨fun q t ht => ?_, fun q t ht => ?_⟩
  · rcases key q t ht with rfl | rfl
    · exact hx.1
    · exact hy.1
  · rcases key q t ht with rfl | rfl
    · exact hx.2
    · exact hy.2
theorem one_gl {lim : Int} {y : Tr} (hy : TrOk y ∧ 0 ≤ y.age ∧ y.age < lim) : GL lim (oneX y) := by
  have key : ∀ q t, oneX y q = some t → t = y := fun q t ht => by
    by_cases e2 : q = 2
    · subst e2; rw [one_2] at ht; injection ht with ht; exact ht.symm
    · rw [one_ne _ e2] at ht; cases ht
  exact ⟨fun q t ht => by rw [key q t ht]; exact hy.1, fun q t ht => by rw [key q t ht]; exact hy.2⟩
theorem wchk_vote {q r : Int} (hq : q = 1 ∨ q = 2) (h1 : 1 ≤ r) (h6 : r ≤ 6) : wchk 2 r 0 q true [] = 0 ∧ wchk 5 r 0 q false [] = 0 := by
  have hr : isRt r = true := by unfold isRt; simp [h1, h6]
  rcases hq with rfl | rfl <;> constructor <;> unfold wchk <;> simp [hr] <;> decide
theorem two_vote {n : Nat} (A A' : List Int) {r : Int} (hr : r ∈ Ls n) (h6 : r ≤ 6) (hne : ¬ Rm n (A ++ [r]) = []) (age : Int) : tkO (twoX (vR n A age) (cR n A')) 2 r 0 1 true [] = ⟨0, 0, 0, 4, [], some (vR n (A ++ [r]) age)⟩ := by
  unfold tkO
  rw [if_pos ⟨(wchk_vote (.inl rfl) (mem_ls.1 hr).1 h6).1, rfl⟩, two_1]
  unfold tkF
  simp only
  rw [if_pos (show r ∈ (vR n A age).rts from hr), if_neg (by decide), if_pos ⟨trivial, rfl⟩]
  rw [show wo15 (vR n A age).lk r = Rm n (A ++ [r]) from rm_step n A r, if_pos trivial, if_neg hne]
  rfl
theorem two_ack {n : Nat} (x : Tr) (A : List Int) {r : Int} (hr : r ∈ Ls n) (h6 : r ≤ 6) (hne : ¬ Rm n (A ++ [r]) = []) : tkO (twoX x (cR n A)) 5 r 0 2 false [] = ⟨0, 0, 0, 4, [], some (cR n (A ++ [r]))⟩ := by
  unfold tkO
  rw [if_pos ⟨(wchk_vote (.inr rfl) (mem_ls.1 hr).1 h6).2, rfl⟩, two_2]
  unfold tkF
  simp only
  rw [if_pos (show r ∈ (cR n A).rts from hr), if_pos trivial, if_pos (show (cR n A).st = 3 from rfl)]
  rw [show wo15 (cR n A).lk r = Rm n (A ++ [r]) from rm_step n A r, if_neg hne]
  rfl
/-- behind k ticks -/
def tY (lim : Nat) (n : Nat) (A : List Int) (k : Nat) : Int → Option Tr := if k < lim then twoX (vR n A (k : Int)) (cR n A) else oneX (cR n A)
theorem tY_gl {lim n : Nat} (h1 : 1 ≤ lim) (hn : n ≤ 6) (A : List Int) (k : Nat) : GL (lim : Int) (tY lim n A k) := by
  unfold tY
  split
  · rename_i h
    exact two_gl ⟨vR_ok hn A _, by show (0 : Int) ≤ (k : Int); omega, by show (k : Int) < (lim : Int); omega⟩ ⟨cR_ok hn A, Int.le_refl 0, by show (0 : Int) < (lim : Int); omega⟩
  · exact one_gl ⟨cR_ok hn A, Int.le_refl 0, by show (0 : Int) < (lim : Int); omega⟩
def m3 (n : Nat) (A : List Int) : List (Int × Int × Int × List Pc) := (Rm n A).map fun p => (3, 2, p.1, p.2)
theorem tk_c (lim : Int) (n : Nat) (A : List Int) : tk1 lim 2 (cR n A) = ⟨m3 n A, [], some (cR n A)⟩ := by
  unfold tk1 cR m3
  simp
theorem tY_a {lim n : Nat} {A l : List Int} {k : Nat} (h : k + 1 < lim) (hl : OpL (tY lim n A k) l) : tkMs lim (tY lim n A k) l = ((Rm n A).map fun p => ((1 : Int), (1 : Int), p.1, p.2)) ++ m3 n A ∧ tkGo lim (tY lim n A k) l = [] ∧ tkX lim (tY lim n A k) l = tY lim n A (k + 1) := by
  have e : tY lim n A k = twoX (vR n A (k : Int)) (cR n A) := if_pos (by omega)
  rw [e] at hl ⊢
  obtain rfl := opl_uniq hl (two_opl _ _)
  have hv : tk1 lim 1 (vR n A (k : Int)) = ⟨(Rm n A).map fun p => ((1 : Int), (1 : Int), p.1, p.2), [], some (vR n A ((k : Int) + 1))⟩ := by
    unfold tk1 vR
    rw [if_neg (fun e => by have := e.2; simp only at this; omega)]
    simp
  refine ⟨?_, ?_, ?_⟩
  · unfold tkMs
    simp only [List.flatMap_cons, List.flatMap_nil, two_1, two_2, Option.elim, List.append_nil]
    rw [hv, tk_c]
  · unfold tkGo
    simp only [List.flatMap_cons, List.flatMap_nil, two_1, two_2, Option.elim, List.append_nil]
    rw [hv, tk_c]
    rfl
  · rw [show tY lim n A (k + 1) = twoX (vR n A ((k + 1 : Nat) : Int)) (cR n A) from if_pos h]
    funext p
    unfold tkX
    by_cases e1 : p = 1
    · subst e1
      rw [if_pos (by simp), two_1, two_1]
      show (tk1 lim 1 (vR n A (k : Int))).x = _
      rw [hv]
      push_cast
      rfl
    · by_cases e2 : p = 2
      · subst e2
        rw [if_pos (by simp), two_2, two_2]
        show (tk1 lim 2 (cR n A)).x = _
        rw [tk_c]
      · rw [if_neg (by simp [e1, e2]), two_ne _ _ e1 e2, two_ne _ _ e1 e2]
theorem tY_b {lim n : Nat} {A l : List Int} {k : Nat} (h : k + 1 = lim) (hl : OpL (tY lim n A k) l) : tkMs lim (tY lim n A k) l = ((Ls n).map fun r => ((4 : Int), (1 : Int), r, ([] : List Pc))) ++ m3 n A ∧ tkGo lim (tY lim n A k) l = [1] ∧ tkX lim (tY lim n A k) l = tY lim n A (k + 1) := by
  have e : tY lim n A k = twoX (vR n A (k : Int)) (cR n A) := if_pos (by omega)
  rw [e] at hl ⊢
  obtain rfl := opl_uniq hl (two_opl _ _)
  have hv : tk1 lim 1 (vR n A (k : Int)) = ⟨(Ls n).map fun r => ((4 : Int), (1 : Int), r, ([] : List Pc)), [1], none⟩ := by
    unfold tk1 vR
    rw [if_pos ⟨rfl, by show (k : Int) + 1 = (lim : Int); omega⟩]
  refine ⟨?_, ?_, ?_⟩
  · unfold tkMs
    simp only [List.flatMap_cons, List.flatMap_nil, two_1, two_2, Option.elim, List.append_nil]
    rw [hv, tk_c]
  · unfold tkGo
    simp only [List.flatMap_cons, List.flatMap_nil, two_1, two_2, Option.elim, List.append_nil]
    rw [hv, tk_c]
    rfl
  · rw [show tY lim n A (k + 1) = oneX (cR n A) from if_neg (by omega)]
    funext p
    unfold tkX
    by_cases e1 : p = 1
    · subst e1
      rw [if_pos (by simp), two_1, one_ne _ (by decide)]
      show (tk1 lim 1 (vR n A (k : Int))).x = _
      rw [hv]
    · by_cases e2 : p = 2
      · subst e2
        rw [if_pos (by simp), two_2, one_2]
        show (tk1 lim 2 (cR n A)).x = _
        rw [tk_c]
      · rw [if_neg (by simp [e1, e2]), two_ne _ _ e1 e2, one_ne _ e2]
theorem tY_c {lim n : Nat} {A l : List Int} {k : Nat} (h : lim ≤ k) (hl : OpL (tY lim n A k) l) : tkMs lim (tY lim n A k) l = m3 n A ∧ tkGo lim (tY lim n A k) l = [] ∧ tkX lim (tY lim n A k) l = tY lim n A (k + 1) := by
  have e : tY lim n A k = oneX (cR n A) := if_neg (by omega)
  rw [e] at hl ⊢
  obtain rfl := opl_uniq hl (one_opl2 _)
  refine ⟨?_, ?_, ?_⟩
  · unfold tkMs
    simp only [List.flatMap_cons, List.flatMap_nil, one_2, Option.elim, List.append_nil]
    rw [tk_c]
  · unfold tkGo
    simp only [List.flatMap_cons, List.flatMap_nil, one_2, Option.elim, List.append_nil]
    rw [tk_c]
  · rw [show tY lim n A (k + 1) = oneX (cR n A) from if_neg (by omega)]
    funext p
    unfold tkX
    by_cases e2 : p = 2
    · subst e2
      rw [if_pos (by simp), one_2]
      show (tk1 lim 2 (cR n A)).x = _
      rw [tk_c]
    · rw [if_neg (by simp [e2]), one_ne _ e2]
/-- how many messages are of a kind -/
def cnt (k : Int) (K : List Int) : Nat := (K.filter fun z => decide (z = k)).length
theorem cnt_app (k : Int) (K L : List Int) : cnt k (K ++ L) = cnt k K + cnt k L := by unfold cnt; rw [List.filter_append, List.length_append]
theorem cnt_same {B : Type} (k : Int) (l : List B) (f : B → Int) (h : ∀ x, f x = k) : cnt k (l.map f) = l.length := by
  unfold cnt
  rw [List.filter_eq_self.2 (fun z hz => by obtain ⟨x, _, rfl⟩ := List.mem_map.1 hz; rw [decide_eq_true_eq]; exact h x), List.length_map]
theorem cnt_none {B : Type} (k : Int) (l : List B) (f : B → Int) (h : ∀ x, f x ≠ k) : cnt k (l.map f) = 0 := by
  unfold cnt
  rw [List.filter_eq_nil_iff.2 (fun z hz => by obtain ⟨x, _, rfl⟩ := List.mem_map.1 hz; simp [h x])]
  rfl
theorem cnt_one (k y : Int) : cnt k [y] = if y = k then 1 else 0 := by
  unfold cnt
  by_cases e : y = k
  · rw [if_pos e]; simp [e]
  · rw [if_neg e]; simp [e]
def kds (L : List (Int × Int × Int × List Pc)) : List Int := L.map Prod.fst
theorem cnt_m3 (n : Nat) (A : List Int) : cnt 3 (kds (m3 n A)) = (Rm n A).length ∧ cnt 1 (kds (m3 n A)) = 0 ∧ cnt 4 (kds (m3 n A)) = 0 := by
  unfold kds m3
  rw [List.map_map]
  exact ⟨cnt_same 3 _ _ (fun _ => rfl), cnt_none 1 _ _ (fun _ => by show (3 : Int) ≠ 1; decide), cnt_none 4 _ _ (fun _ => by show (3 : Int) ≠ 4; decide)⟩
theorem cnt_a (n : Nat) (A : List Int) : cnt 3 (kds (((Rm n A).map fun p => ((1 : Int), (1 : Int), p.1, p.2)) ++ m3 n A)) = (Rm n A).length ∧ cnt 1 (kds (((Rm n A).map fun p => ((1 : Int), (1 : Int), p.1, p.2)) ++ m3 n A)) = (Rm n A).length ∧ cnt 4 (kds (((Rm n A).map fun p => ((1 : Int), (1 : Int), p.1, p.2)) ++ m3 n A)) = 0 := by
  obtain ⟨c1, c2, c3⟩ := cnt_m3 n A
  have e : kds (((Rm n A).map fun p => ((1 : Int), (1 : Int), p.1, p.2)) ++ m3 n A) = ((Rm n A).map fun _ => (1 : Int)) ++ kds (m3 n A) := by
    unfold kds
    rw [List.map_append, List.map_map]
    rfl
  rw [e, cnt_app, cnt_app, cnt_app, c1, c2, c3, cnt_none 3 _ _ (fun _ => by decide), cnt_same 1 _ _ (fun _ => rfl), cnt_none 4 _ _ (fun _ => by decide)]
  exact ⟨by omega, by omega, by omega⟩
theorem cnt_b (n : Nat) (A : List Int) : cnt 3 (kds (((Ls n).map fun r => ((4 : Int), (1 : Int), r, ([] : List Pc))) ++ m3 n A)) = (Rm n A).length ∧ cnt 1 (kds (((Ls n).map fun r => ((4 : Int), (1 : Int), r, ([] : List Pc))) ++ m3 n A)) = 0 ∧ cnt 4 (kds (((Ls n).map fun r => ((4 : Int), (1 : Int), r, ([] : List Pc))) ++ m3 n A)) = n := by
  obtain ⟨c1, c2, c3⟩ := cnt_m3 n A
  have e : kds (((Ls n).map fun r => ((4 : Int), (1 : Int), r, ([] : List Pc))) ++ m3 n A) = ((Ls n).map fun _ => (4 : Int)) ++ kds (m3 n A) := by
    unfold kds
    rw [List.map_append, List.map_map]
    rfl
  rw [e, cnt_app, cnt_app, cnt_app, c1, c2, c3, cnt_none 3 _ _ (fun _ => by decide), cnt_none 1 _ _ (fun _ => by decide), cnt_same 4 _ _ (fun _ => rfl), ls_len]
  exact ⟨by omega, by omega, by omega⟩
theorem rm_ne {n : Nat} (h1 : 1 ≤ n) {A : List Int} (h : ∀ x ∈ A, x < (n : Int)) : ¬ Rm n A = [] := by
  intro e
  have hm : ((n : Int), ([] : List Pc)) ∈ Rm n A := by
    unfold Rm
    refine List.mem_map.2 ⟨(n : Int), List.mem_filter.2 ⟨mem_ls.2 ⟨by omega, by omega⟩, ?_⟩, rfl⟩
    rw [decide_eq_true_eq]
    intro hm
    have := h _ hm
    omega
  rw [e] at hm
  cases hm
theorem wrg_lsq {n : Nat} {q : Int} (hq : q = 1 ∨ q = 2) (h1 : 1 ≤ n) (h6 : n ≤ 6) : wrgE q (Ls n) = 0 := by
  rcases hq with rfl | rfl <;> rcases (by omega : n = 1 ∨ n = 2 ∨ n = 3 ∨ n = 4 ∨ n = 5 ∨ n = 6) with rfl | rfl | rfl | rfl | rfl | rfl <;> decide
end Go.Proofs.Ythaeidbnbgghkaa
