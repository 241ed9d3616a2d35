/- strings.Cut at a point. -/
import Derived.Test.YtlddoobomjcldaaDoorTrlA
import Derived.Test.YtlddoobomjcldaaDoorManP
namespace Go.Proofs.YtlddoobomjcldaaDoor
open Go.ChangeShapes Go.WideShapes Go.ChangeAt Go.RowKit Go.Deep
set_option linter.unusedVariables false
/-- what stands ahead of the first point, and behind it -/
def cutAD (L : Tx) : Tx := L.takeWhile (· != 46)
def cutBD (L : Tx) : Tx := (L.dropWhile (· != 46)).tail
def cutFD (L : Tx) : Bool := L.contains 46
theorem cutA_noD (L : Tx) : (46 : UInt8) ∉ cutAD L := by
  intro h
  have h2 : ∀ (M : Tx), (46 : UInt8) ∈ M.takeWhile (· != 46) → False := by
    intro M
    induction M with
    | nil => simp
    | cons b t ih =>
      intro hm
      rw [List.takeWhile_cons] at hm
      split at hm
      · rename_i hb
        simp only [List.mem_cons] at hm
        rcases hm with rfl | hm
        · simp at hb
        · exact ih hm
      · simp at hm
  exact h2 L h
theorem cut_yesD (L : Tx) (h : cutFD L = true) : L = cutAD L ++ 46 :: cutBD L := by
  induction L with
  | nil => simp [cutFD] at h
  | cons b t ih =>
    by_cases e : b = 46
    · subst e
      simp [cutAD, cutBD]
    · have ht : cutFD t = true := by
        simp only [cutFD, List.contains_cons, Bool.or_eq_true, beq_iff_eq] at h
        rcases h with h | h
        · exact absurd h.symm e
        · exact h
      have := ih ht
      have e' : (b != 46) = true := by simp [e]
      simp only [cutAD, cutBD, List.takeWhile_cons, List.dropWhile_cons, e', if_true, List.cons_append] at this ⊢
      rw [← this]
theorem cut_noD (L : Tx) (h : cutFD L = false) : cutAD L = L ∧ cutBD L = [] := by
  induction L with
  | nil => exact ⟨rfl, rfl⟩
  | cons b t ih =>
    simp only [cutFD, List.contains_cons, Bool.or_eq_false_iff, beq_eq_false_iff_ne, ne_eq] at h
    have e' : (b != 46) = true := by simp only [bne_iff_ne, ne_eq]; exact fun e => h.1 e.symm
    obtain ⟨h1, h2⟩ := ih h.2
    simp only [cutAD, cutBD, List.takeWhile_cons, List.dropWhile_cons, e', if_true] at h1 h2 ⊢
    exact ⟨by rw [h1], h2⟩
theorem index_yesD (L : Tx) (h : cutFD L = true) : Lib.indexByte L 46 = ((cutAD L).length : Nat) := by
  induction L with
  | nil => simp [cutFD] at h
  | cons b t ih =>
    by_cases e : b = 46
    · subst e
      simp [cutAD, Lib.indexByte]
    · have ht : cutFD t = true := by
        simp only [cutFD, List.contains_cons, Bool.or_eq_true, beq_iff_eq] at h
        rcases h with h | h
        · exact absurd h.symm e
        · exact h
      have := ih ht
      have e' : (b != 46) = true := by simp [e]
      simp only [cutAD, List.takeWhile_cons, e', if_true, List.length_cons] at this ⊢
      simp only [Lib.indexByte, beq_iff_eq, e, if_false]
      rw [this, if_neg (by omega)]
      omega
theorem index_noD (L : Tx) (h : cutFD L = false) : Lib.indexByte L 46 = -1 := by
  induction L with
  | nil => rfl
  | cons b t ih =>
    simp only [cutFD, List.contains_cons, Bool.or_eq_false_iff, beq_eq_false_iff_ne, ne_eq] at h
    have e : ¬ b = 46 := fun e => h.1 e.symm
    simp only [Lib.indexByte, beq_iff_eq, e, if_false]
    rw [ih h.2]
    rfl
theorem pcs_yesD (L : Tx) (h : cutFD L = true) : pcd L = cutAD L :: pcd (cutBD L) := by
  have := pcd_cut (cutAD L) (cutBD L) (cutA_noD L)
  rwa [← cut_yesD L h] at this
theorem pcs_endD (L : Tx) (h : cutFD L = false) : pcd L = [cutAD L] := by
  have := pcd_no (cutAD L) (cutA_noD L)
  rwa [(cut_noD L h).1] at this ⊢
theorem indexByteLite_isD (L : Tx) (w : World) : Calls Tryd.prog 116 #[.string (tx L), .int .u8 46] w fun e w' => e = .returned (.int .i64 (Lib.indexByte L 46)) ∧ w' = w := by
  have h : (callFunc 128 #[.string (tx L), .int .u8 46]).run Tryd.prog w = .ok (.value (.int .i64 (Lib.indexByte L 46))) w := by
    rw [run_callFunc_indexByte Tryd.func128 (by kernel_rfl) (by kernel_rfl) (by kernel_rfl) (by kernel_rfl), Lib.run_indexByteString (P := Tryd.prog) (tx L) 46 w, tx_data]
    rfl
  go_enter Tryd.func116, Tryd.ntmps116
  go_wp2
  go_ret
  exact ⟨rfl, rfl⟩
theorem index_isD (L : Tx) (w : World) : Calls Tryd.prog 104 #[.string (tx L), .string ⟨#[46]⟩] w fun e w' => e = .returned (.int .i64 (Lib.indexByte L 46)) ∧ w' = w := by
  have k : Hid (∀ w, Calls Tryd.prog 116 #[.string (tx L), .int .u8 46] w fun e w' => e = .returned (.int .i64 (Lib.indexByte L 46)) ∧ w' = w) := indexByteLite_isD L
  have ht := tx_toList L
  have hs := tx_size L
  by_cases hL : L = [46]
  · have e1 : ([46] == L) = true := by simp [hL]
    have h0 : Lib.indexByte L 46 = 0 := by rw [hL]; decide
    rw [h0]
    clear hL h0 k
    go_enter Tryd.func104, Tryd.ntmps104
    go_wp2
    go_ret
    exact ⟨rfl, rfl⟩
  · have e1 : ([46] == L) = false := by simp only [beq_eq_false_iff_ne, ne_eq]; exact fun e => hL e.symm
    clear hL
    go_enter Tryd.func104, Tryd.ntmps104
    go_wp2_with (go_at_call 116; refine (k.out _).mono ?_; rintro e w' ⟨rfl, hw⟩; obtain rfl := hw.symm; clear hw)
    go_ret
    exact ⟨rfl, rfl⟩
theorem cutLite_isD (L : Tx) (hl : L.length ≤ 281464976710656) (w : World) : Calls Tryd.prog 97 #[.string (tx L), .string ⟨#[46]⟩] w fun e w' => e = .returned (.tuple #[.string (tx (cutAD L)), .string (tx (cutBD L)), .bool (cutFD L)]) ∧ Below w.heap.size w w' := by
  have k : Hid (Calls Tryd.prog 104 #[.string (tx L), .string ⟨#[46]⟩] w fun e w' => e = .returned (.int .i64 (Lib.indexByte L 46)) ∧ w' = w) := index_isD L w
  have hs := tx_size L
  cases hf : cutFD L with
  | true =>
    have hx := cut_yesD L hf
    rw [index_yesD L hf] at k
    have hA : (tx L).extract 0 (cutAD L).length = tx (cutAD L) := by
      rw [tx_extract]
      congr 1
      generalize cutAD L = A at *
      generalize cutBD L = B at *
      rw [hx]
      simp
    have hB : (tx L).extract ((cutAD L).length + 1) L.length = tx (cutBD L) := by
      rw [tx_extract]
      congr 1
      generalize cutAD L = A at *
      generalize cutBD L = B at *
      rw [hx]
      have : List.drop (A.length + 1) (A ++ 46 :: B) = B := by
        have := List.drop_append (l₁ := A) (l₂ := 46 :: B) (i := A.length + 1)
        rw [this, List.drop_of_length_le (by omega), show A.length + 1 - A.length = 1 by omega]
        rfl
      rw [this, List.take_of_length_le (by simp; omega)]
    have hlen : (cutAD L).length + 1 ≤ L.length := by
      have := congrArg List.length hx
      simp at this
      omega
    generalize tx (cutAD L) = SA at *
    generalize tx (cutBD L) = SB at *
    generalize (cutAD L).length = m at *
    clear hx hf
    have i1 : (0 : Int) ≤ (m : Int) := by omega
    generalize tx L = S at *
    go_enter Tryd.func97, Tryd.ntmps97
    go_wp2_with (go_at_call 104; refine k.out.mono ?_; rintro e w' ⟨rfl, hw⟩; obtain rfl := hw.symm; clear hw)
    go_quiet (fail)
    go_wp2
    go_ret3
    exact ⟨rfl, below_drewN (Below.refl _ _) _⟩
  | false =>
    obtain ⟨h1, h2⟩ := cut_noD L hf
    rw [index_noD L hf] at k
    rw [h1, h2]
    go_enter Tryd.func97, Tryd.ntmps97
    go_wp2_with (go_at_call 104; refine k.out.mono ?_; rintro e w' ⟨rfl, hw⟩; obtain rfl := hw.symm; clear hw)
    go_ret3
    exact ⟨rfl, Below.refl _ _⟩
theorem cut_isD (L : Tx) (hl : L.length ≤ 281464976710656) (w : World) : Calls Tryd.prog 83 #[.string (tx L), .string ⟨#[46]⟩] w fun e w' => e = .returned (.tuple #[.string (tx (cutAD L)), .string (tx (cutBD L)), .bool (cutFD L)]) ∧ Below w.heap.size w w' := by
  have k : Hid (Calls Tryd.prog 97 #[.string (tx L), .string ⟨#[46]⟩] w fun e w' => e = .returned (.tuple #[.string (tx (cutAD L)), .string (tx (cutBD L)), .bool (cutFD L)]) ∧ Below w.heap.size w w') := cutLite_isD L hl w
  go_enter Tryd.func83, Tryd.ntmps83
  go_wp2_with (go_at_call 97; refine k.out.mono ?_; rintro e w' ⟨rfl, hw⟩)
  go_ret3
  exact ⟨rfl, hw⟩
end Go.Proofs.YtlddoobomjcldaaDoor
