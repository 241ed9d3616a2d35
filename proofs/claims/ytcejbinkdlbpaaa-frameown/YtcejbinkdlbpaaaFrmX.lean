/- Plain facts: frames one behind the other, cut off anywhere. -/
import Derived.Test.YtcejbinkdlbpaaaFrmP
import Derived.Test.YtcejbinkdlbpaaaFrmR
import Derived.Test.YtcejbinkdlbpaaaFrmU
namespace Go.Proofs.Ytcejbinkdlbpaaa
open Go.ChangeShapes Go.WideShapes Go.ChangeAt Go.RowKit Go.Deep
set_option linter.unusedVariables false
/-- frames one behind the other -/
def joinL : List (List Int) → List Int
  | [] => []
  | B :: Bs => frameL B ++ joinL Bs
theorem joinL_snoc (Bs : List (List Int)) (B : List Int) : joinL (Bs ++ [B]) = joinL Bs ++ frameL B := by
  induction Bs with
  | nil => simp [joinL]
  | cons C Bs ih => simp [joinL, ih]
theorem joinL_bytes : ∀ (Bs : List (List Int)), (∀ B ∈ Bs, IsBytes B) → IsBytes (joinL Bs)
  | [], _ => bytes_nil
  | B :: Bs, h => bytes_app (frameL_bytes (h B (by simp))) (joinL_bytes Bs (fun C hC => h C (by simp [hC])))
theorem joinL_le : ∀ (Bs : List (List Int)), (∀ B ∈ Bs, B.length ≤ 4096) → (joinL Bs).length ≤ 4104 * Bs.length
  | [], _ => by simp [joinL]
  | B :: Bs, h => by
    have h1 := joinL_le Bs (fun C hC => h C (by simp [hC]))
    have h2 := h B (by simp)
    rw [joinL, List.length_append, frameL_length, List.length_cons]
    omega
/-- how many bytes the first t frames have -/
def upTo (Bs : List (List Int)) (t : Nat) : Nat := (joinL (Bs.take t)).length
theorem upTo_zero (Bs : List (List Int)) : upTo Bs 0 = 0 := by simp [upTo, joinL]
theorem upTo_all (Bs : List (List Int)) (t : Nat) (h : Bs.length ≤ t) : upTo Bs t = (joinL Bs).length := by unfold upTo; rw [List.take_of_length_le h]
theorem upTo_cons (B : List Int) (Bs : List (List Int)) (t : Nat) : upTo (B :: Bs) (t + 1) = 8 + B.length + upTo Bs t := by
  unfold upTo
  rw [List.take_succ_cons, joinL, List.length_append, frameL_length]
theorem upTo_snoc (Bs : List (List Int)) (B : List Int) (t : Nat) (h : t ≤ Bs.length) : upTo (Bs ++ [B]) t = upTo Bs t := by
  unfold upTo
  rw [List.take_append_of_le_length h]
theorem upTo_step : ∀ (Bs : List (List Int)) (t : Nat), t < Bs.length → upTo Bs t + 8 ≤ upTo Bs (t + 1)
  | [], t, h => by simp at h
  | B :: Bs, 0, h => by
    rw [upTo_zero, upTo_cons]
    omega
  | B :: Bs, t + 1, h => by
    have := upTo_step Bs t (by simpa using h)
    rw [upTo_cons, upTo_cons]
    omega
theorem upTo_le (Bs : List (List Int)) : ∀ t, upTo Bs t ≤ (joinL Bs).length := by
  intro t
  unfold upTo
  induction Bs generalizing t with
  | nil => simp
  | cons B Bs ih =>
    cases t with
    | zero => simp [joinL]
    | succ t =>
      rw [List.take_succ_cons, joinL, joinL, List.length_append, List.length_append]
      have := ih t
      omega
/-- what was torn is no frame -/
theorem rd_torn (B M : List Int) (hl : B.length ≤ 4096) (c : Nat) (h : c < 8 + B.length) : rd ((frameL B ++ M).take c) = ([], 0, 4) := by
  have hlen : ((frameL B ++ M).take c).length = c := by rw [List.length_take, List.length_append, frameL_length]; omega
  by_cases h4 : c < 4
  · exact rd_short _ (by omega)
  · have hg : ge4 ((frameL B ++ M).take c) 0 = B.length := by
      rw [ge4_take4 ((frameL B ++ M).take c) (frameL B ++ M) (by rw [List.take_take, Nat.min_eq_left (by omega)]), ge4_frame B M hl]
    have hK : (ge4 ((frameL B ++ M).take c) 0).toNat = B.length := by rw [hg]; simp
    unfold rd
    rw [hK, hlen, if_neg h4, if_neg (by omega), if_pos (by omega)]
theorem al_cut : ∀ (Bs : List (List Int)) (f c t : Nat), (∀ B ∈ Bs, B.length ≤ 4096) → c ≤ f → c ≤ (joinL Bs).length → t ≤ Bs.length → upTo Bs t ≤ c → (t < Bs.length → c < upTo Bs (t + 1)) →
    al f ((joinL Bs).take c) = (Bs.take t, upTo Bs t, if upTo Bs t = c then 0 else 4)
  | [], f, c, t, _, hf, hc, ht, h1, _ => by
    have hc0 : c = 0 := by simpa [joinL] using hc
    have ht0 : t = 0 := by simpa using ht
    subst hc0 ht0
    simp [joinL, al_nil, upTo]
  | B :: Bs, f, c, t, hb, hf, hc, ht, h1, h2 => by
    have hB := hb B (by simp)
    by_cases hc0 : c = 0
    · subst hc0
      have ht0 : t = 0 := by
        cases t with
        | zero => rfl
        | succ t => rw [upTo_cons] at h1; omega
      subst ht0
      simp [al_nil, upTo_zero]
    · obtain ⟨f', rfl⟩ : ∃ f', f = f' + 1 := ⟨f - 1, by omega⟩
      have hne : (joinL (B :: Bs)).take c ≠ [] := List.length_pos_iff.1 (by rw [List.length_take]; omega)
      cases t with
      | zero =>
        have hlt := h2 (by simp)
        rw [Nat.zero_add, ← Nat.zero_add 1, upTo_cons, upTo_zero] at hlt
        have hr : rd ((joinL (B :: Bs)).take c) = ([], 0, 4) := by
          rw [joinL]
          exact rd_torn B (joinL Bs) hB c (by omega)
        rw [al_bad f' _ hne (by rw [hr]; decide), hr, upTo_zero, if_neg (by omega)]
        rfl
      | succ t =>
        rw [upTo_cons] at h1
        have hfl := frameL_length B
        have e1 : (joinL (B :: Bs)).take c = frameL B ++ (joinL Bs).take (c - (8 + B.length)) := by
          rw [joinL, List.take_append, List.take_of_length_le (by omega), hfl]
        have hr : rd ((joinL (B :: Bs)).take c) = (B, 8 + B.length, 0) := by rw [e1]; exact rd_frame B _ hB
        have hd : ((joinL (B :: Bs)).take c).drop (8 + B.length) = (joinL Bs).take (c - (8 + B.length)) := by
          rw [e1, ← hfl, List.drop_left]
        have ih := al_cut Bs f' (c - (8 + B.length)) t (fun C hC => hb C (by simp [hC])) (by omega) (by rw [joinL, List.length_append, hfl] at hc; omega) (by simpa using ht) (by omega)
          (fun h => by have := h2 (by simpa using h); rw [upTo_cons] at this; omega)
        rw [al_step f' _ hne (by rw [hr]), hr, hd, ih, upTo_cons]
        have e2 : (8 + B.length + upTo Bs t = c) ↔ (upTo Bs t = c - (8 + B.length)) := by omega
        simp only [e2, List.take_succ_cons]
theorem al_join (Bs : List (List Int)) (n : Nat) (hn : (joinL Bs).length = n) (hb : ∀ B ∈ Bs, B.length ≤ 4096) : al n (joinL Bs) = (Bs, n, 0) := by
  have h := al_cut Bs n n Bs.length hb (Nat.le_refl _) (by omega) (Nat.le_refl _) (by rw [upTo_all Bs _ (Nat.le_refl _)]; omega) (fun h => by omega)
  rw [List.take_of_length_le (by omega), List.take_of_length_le (Nat.le_refl _), upTo_all Bs _ (Nat.le_refl _), if_pos hn, hn] at h
  exact h
end Go.Proofs.Ytcejbinkdlbpaaa
