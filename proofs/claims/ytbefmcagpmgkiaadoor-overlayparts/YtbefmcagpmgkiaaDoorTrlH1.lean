/- More on paths: Clean of a text between strokes, the text of the first parts; a slice of texts laid open. -/
import Derived.Test.YtbefmcagpmgkiaaDoorTrlG1
namespace Go.Proofs.YtbefmcagpmgkiaaDoor
open Go.ChangeShapes Go.WideShapes Go.ChangeAt Go.RowKit Go.Deep
set_option linter.unusedVariables false
theorem cl_app (l ps qs : List Tx) : cl l (ps ++ qs) = (cl l ps).bind fun m => cl m qs := by
  induction ps generalizing l with
  | nil => simp [cl]
  | cons p ps ih =>
    rw [List.cons_append, cl, cl]
    split
    · exact ih l
    · split
      · split
        · rfl
        · exact ih _
      · split
        · exact ih _
        · rfl
theorem cl_jn {l : List Tx} (h : ∀ p ∈ l, isPart p = true) : cl [] (pcs (jn l)) = some l := by
  cases l with
  | nil => rfl
  | cons x l => rw [pcs_jn x l (fun p hp => part_nosep (h p hp)), cl_all [] _ h]; rfl
theorem cln_slash {l : List Tx} (h : ∀ p ∈ l, isPart p = true) (h8 : l.length ≤ 8) : cln (47 :: (jn l ++ [47])) = (jn l, 0) := by
  unfold cln
  have e : pcs (47 :: (jn l ++ [47])) = [] :: (pcs (jn l) ++ [[]]) := by
    rw [pcs, if_pos rfl, pcs_app]
    rfl
  rw [e, cl_skip _ _ _ (.inl rfl), cl_app, cl_jn h]
  have e2 : (some l).bind (fun m => cl m [[]]) = some l := by
    show cl l [[]] = some l
    rw [cl_skip _ _ _ (.inl rfl), cl]
  rw [e2]
  simp only
  rw [if_neg (by omega)]
theorem jn_take (l : List Tx) (i : Nat) (x : Tx) (h : l[i]? = some x) : jn (l.take (i + 1)) = if i = 0 then x else jn (l.take i) ++ 47 :: x := by
  induction l generalizing i with
  | nil => simp at h
  | cons y l ih =>
    cases i with
    | zero => simp at h; subst h; simp [jn_one]
    | succ i =>
      simp only [List.getElem?_cons_succ] at h
      have := ih i h
      rw [if_neg (by omega), List.take_succ_cons, List.take_succ_cons]
      cases i with
      | zero =>
        simp only [if_true] at this
        cases l with
        | nil => simp at h
        | cons z l =>
          simp at h
          subst h
          simp [jn_cons, jn_one]
      | succ i =>
        rw [if_neg (by omega)] at this
        cases l with
        | nil => simp at h
        | cons z l =>
          rw [List.take_succ_cons, jn_cons, List.take_succ_cons, jn_cons]
          rw [List.take_succ_cons, List.take_succ_cons] at this
          rw [this]
          simp
theorem jn_take_len {l : List Tx} (h : ∀ p ∈ l, isPart p = true) (h8 : l.length ≤ 8) (i : Nat) : (jn (l.take i)).length ≤ 200 :=
  jn_le8 (fun p hp => h p (List.mem_of_mem_take hp)) (by rw [List.length_take]; omega)
theorem Sl.open {w : World} {base : Nat} {v : Value} {l : List Tx} (h : Sl w base v l) : ∃ o, v = .slice o l.length l.length ∧ ∀ j x, l[j]? = some x → ∃ g, o = some ⟨g, 0, none⟩ ∧ w.cell? ⟨g, j, none⟩ = some (.string (tx x)) := by
  rcases h with ⟨rfl, rfl⟩ | ⟨g, h1, h2, rfl, h4⟩
  · exact ⟨none, rfl, fun j x hx => by simp at hx⟩
  · exact ⟨some ⟨g, 0, none⟩, rfl, fun j x hx => ⟨g, rfl, Sl.cell (base := 0) (n := 0) (c := 0) h4 j x hx⟩⟩
end Go.Proofs.YtbefmcagpmgkiaaDoor
