/- Texts in the model; strings.Cut at one stroke. -/
import Derived.Test.YtbefmcagpmgkiaaDoorTrlM
import Derived.Test.YtbefmcagpmgkiaaDoorBase
import Derived.WalkSpells
import Derived.WalkLawsBesides
import Derived.Outline
import Derived.LoopTactic
import Derived.Deep.LoopGhost
import Derived.Deep.OwnRows
import Derived.Lib.Bytealg
import Derived.Laws.StandIn
import Derived.Laws.Strings3
import Derived.Deep.QuietTactic
import Derived.BigQuiet
namespace Go.Proofs.YtbefmcagpmgkiaaDoor
open Go.ChangeShapes Go.WideShapes Go.ChangeAt Go.RowKit Go.Deep
set_option linter.unusedVariables false
/-- a text of these bytes -/
def tx (L : Tx) : ByteArray := ⟨L.toArray⟩
theorem tx_size (L : Tx) : (tx L).size = L.length := by simp [tx, ByteArray.size]
theorem tx_data (L : Tx) : (tx L).data.toList = L := by simp [tx]
theorem tx_toList (L : Tx) : (tx L).toList = L := by rw [ByteArray.toList_eq, tx_data]
theorem tx_mk (S : ByteArray) : S = tx S.data.toList := by simp [tx]
theorem tx_extract (L : Tx) (a b : Nat) : (tx L).extract a b = tx ((L.drop a).take (b - a)) := ByteArray.extract_mk L a b
theorem tx_append (A B : Tx) : tx A ++ tx B = tx (A ++ B) := by
  apply ByteArray.ext
  rw [ByteArray.data_append]
  simp [tx]
theorem tx_inj {A B : Tx} (h : tx A = tx B) : A = B := by rw [← tx_data A, h, tx_data]
theorem tx_eq (A B : Tx) : ((tx A).toList == (tx B).toList) = decide (A = B) := by
  rw [tx_toList, tx_toList, Bool.eq_iff_iff, beq_iff_eq, decide_eq_true_iff]
theorem bytesLess_lt (A B : Tx) : Op.bytesLess A B = ltB A B := by
  induction A generalizing B with
  | nil => cases B <;> rfl
  | cons a A ih => cases B with
    | nil => rfl
    | cons b B =>
      simp only [Op.bytesLess, ltB, ih]
      by_cases e : a = b
      · subst e
        simp
      · rw [if_neg e, Bool.eq_iff_iff]
        simp only [Bool.or_eq_true, decide_eq_true_eq, Bool.and_eq_true, beq_iff_eq, e, false_and, or_false]
        exact UInt8.lt_iff_toNat_lt
/-- what stands ahead of the first stroke, and behind it -/
def cutA (L : Tx) : Tx := L.takeWhile (· != 47)
def cutB (L : Tx) : Tx := (L.dropWhile (· != 47)).tail
def cutF (L : Tx) : Bool := L.contains 47
theorem cutA_no (L : Tx) : (47 : UInt8) ∉ cutA L := by
  intro h
  have h2 : ∀ (M : Tx), (47 : UInt8) ∈ M.takeWhile (· != 47) → False := by
    intro M
    induction M with
    | nil => simp
    | cons b t ih =>
      intro hm
      rw [List.takeWhile_cons] at hm
      split at hm
      · rename_i hb
        simp only [List.mem_cons] at hm
        rcases hm with rfl | hm
        · simp at hb
        · exact ih hm
      · simp at hm
  exact h2 L h
theorem cut_yes (L : Tx) (h : cutF L = true) : L = cutA L ++ 47 :: cutB L := by
  induction L with
  | nil => simp [cutF] at h
  | cons b t ih =>
    by_cases e : b = 47
    · subst e
      simp [cutA, cutB]
    · have ht : cutF t = true := by
        simp only [cutF, List.contains_cons, Bool.or_eq_true, beq_iff_eq] at h
        rcases h with h | h
        · exact absurd h.symm e
        · exact h
      have := ih ht
      have e' : (b != 47) = true := by simp [e]
      simp only [cutA, cutB, List.takeWhile_cons, List.dropWhile_cons, e', if_true, List.cons_append] at this ⊢
      rw [← this]
theorem cut_no (L : Tx) (h : cutF L = false) : cutA L = L ∧ cutB L = [] := by
  induction L with
  | nil => exact ⟨rfl, rfl⟩
  | cons b t ih =>
    simp only [cutF, List.contains_cons, Bool.or_eq_false_iff, beq_eq_false_iff_ne, ne_eq] at h
    have e' : (b != 47) = true := by simp only [bne_iff_ne, ne_eq]; exact fun e => h.1 e.symm
    obtain ⟨h1, h2⟩ := ih h.2
    simp only [cutA, cutB, List.takeWhile_cons, List.dropWhile_cons, e', if_true] at h1 h2 ⊢
    exact ⟨by rw [h1], h2⟩
theorem index_yes (L : Tx) (h : cutF L = true) : Lib.indexByte L 47 = ((cutA L).length : Nat) := by
  induction L with
  | nil => simp [cutF] at h
  | cons b t ih =>
    by_cases e : b = 47
    · subst e
      simp [cutA, Lib.indexByte]
    · have ht : cutF t = true := by
        simp only [cutF, List.contains_cons, Bool.or_eq_true, beq_iff_eq] at h
        rcases h with h | h
        · exact absurd h.symm e
        · exact h
      have := ih ht
      have e' : (b != 47) = true := by simp [e]
      simp only [cutA, List.takeWhile_cons, e', if_true, List.length_cons] at this ⊢
      simp only [Lib.indexByte, beq_iff_eq, e, if_false]
      rw [this, if_neg (by omega)]
      omega
theorem index_no (L : Tx) (h : cutF L = false) : Lib.indexByte L 47 = -1 := by
  induction L with
  | nil => rfl
  | cons b t ih =>
    simp only [cutF, List.contains_cons, Bool.or_eq_false_iff, beq_eq_false_iff_ne, ne_eq] at h
    have e : ¬ b = 47 := fun e => h.1 e.symm
    simp only [Lib.indexByte, beq_iff_eq, e, if_false]
    rw [ih h.2]
    rfl
theorem pcs_yes (L : Tx) (h : cutF L = true) : pcs L = cutA L :: pcs (cutB L) := by
  have := pcs_cut (cutA L) (cutB L) (cutA_no L)
  rwa [← cut_yes L h] at this
theorem pcs_end (L : Tx) (h : cutF L = false) : pcs L = [cutA L] := by
  have := pcs_no (cutA L) (cutA_no L)
  rwa [(cut_no L h).1] at this ⊢
theorem cutF_nil : cutF [] = false := rfl
theorem indexByteLite_is (L : Tx) (w : World) : Calls Tryd.prog 99 #[.string (tx L), .int .u8 47] w fun e w' => e = .returned (.int .i64 (Lib.indexByte L 47)) ∧ w' = w := by
  have h : (callFunc 105 #[.string (tx L), .int .u8 47]).run Tryd.prog w = .ok (.value (.int .i64 (Lib.indexByte L 47))) w := by
    rw [run_callFunc_indexByte Tryd.func105 (by kernel_rfl) (by kernel_rfl) (by kernel_rfl) (by kernel_rfl), Lib.run_indexByteString (P := Tryd.prog) (tx L) 47 w, tx_data]
    rfl
  go_enter Tryd.func99, Tryd.ntmps99
  go_wp2
  go_ret
  exact ⟨rfl, rfl⟩
theorem index_is (L : Tx) (w : World) : Calls Tryd.prog 87 #[.string (tx L), .string ⟨#[47]⟩] w fun e w' => e = .returned (.int .i64 (Lib.indexByte L 47)) ∧ w' = w := by
  have k : Hid (∀ w, Calls Tryd.prog 99 #[.string (tx L), .int .u8 47] w fun e w' => e = .returned (.int .i64 (Lib.indexByte L 47)) ∧ w' = w) := indexByteLite_is L
  have ht := tx_toList L
  have hs := tx_size L
  by_cases hL : L = [47]
  · have e1 : ([47] == L) = true := by simp [hL]
    have h0 : Lib.indexByte L 47 = 0 := by rw [hL]; decide
    rw [h0]
    clear hL h0 k
    go_enter Tryd.func87, Tryd.ntmps87
    go_wp2
    go_ret
    exact ⟨rfl, rfl⟩
  · have e1 : ([47] == L) = false := by simp only [beq_eq_false_iff_ne, ne_eq]; exact fun e => hL e.symm
    clear hL
    go_enter Tryd.func87, Tryd.ntmps87
    go_wp2_with (go_at_call 99; refine (k.out _).mono ?_; rintro e w' ⟨rfl, hw⟩; obtain rfl := hw.symm; clear hw)
    go_ret
    exact ⟨rfl, rfl⟩
theorem cutLite_is (L : Tx) (hl : L.length ≤ 281474976710656) (w : World) : Calls Tryd.prog 69 #[.string (tx L), .string ⟨#[47]⟩] w fun e w' => e = .returned (.tuple #[.string (tx (cutA L)), .string (tx (cutB L)), .bool (cutF L)]) ∧ Below w.heap.size w w' := by
  have k : Hid (Calls Tryd.prog 87 #[.string (tx L), .string ⟨#[47]⟩] w fun e w' => e = .returned (.int .i64 (Lib.indexByte L 47)) ∧ w' = w) := index_is L w
  have hs := tx_size L
  cases hf : cutF L with
  | true =>
    have hx := cut_yes L hf
    rw [index_yes L hf] at k
    have hA : (tx L).extract 0 (cutA L).length = tx (cutA L) := by
      rw [tx_extract]
      congr 1
      generalize cutA L = A at *
      generalize cutB L = B at *
      rw [hx]
      simp
    have hB : (tx L).extract ((cutA L).length + 1) L.length = tx (cutB L) := by
      rw [tx_extract]
      congr 1
      generalize cutA L = A at *
      generalize cutB L = B at *
      rw [hx]
      have : List.drop (A.length + 1) (A ++ 47 :: B) = B := by
        have := List.drop_append (l₁ := A) (l₂ := 47 :: B) (i := A.length + 1)
        rw [this, List.drop_of_length_le (by omega), show A.length + 1 - A.length = 1 by omega]
        rfl
      rw [this, List.take_of_length_le (by simp; omega)]
    have hlen : (cutA L).length + 1 ≤ L.length := by
      have := congrArg List.length hx
      simp at this
      omega
    generalize tx (cutA L) = SA at *
    generalize tx (cutB L) = SB at *
    generalize (cutA L).length = m at *
    clear hx hf
    have i1 : (0 : Int) ≤ (m : Int) := by omega
    generalize tx L = S at *
    go_enter Tryd.func69, Tryd.ntmps69
    go_wp2_with (go_at_call 87; refine k.out.mono ?_; rintro e w' ⟨rfl, hw⟩; obtain rfl := hw.symm; clear hw)
    go_quiet (fail)
    go_wp2
    go_ret3
    exact ⟨rfl, below_drewN (Below.refl _ _) _⟩
  | false =>
    obtain ⟨h1, h2⟩ := cut_no L hf
    rw [index_no L hf] at k
    rw [h1, h2]
    go_enter Tryd.func69, Tryd.ntmps69
    go_wp2_with (go_at_call 87; refine k.out.mono ?_; rintro e w' ⟨rfl, hw⟩; obtain rfl := hw.symm; clear hw)
    go_ret3
    exact ⟨rfl, Below.refl _ _⟩
theorem cut_is (L : Tx) (hl : L.length ≤ 281474976710656) (w : World) : Calls Tryd.prog 54 #[.string (tx L), .string ⟨#[47]⟩] w fun e w' => e = .returned (.tuple #[.string (tx (cutA L)), .string (tx (cutB L)), .bool (cutF L)]) ∧ Below w.heap.size w w' := by
  have k : Hid (Calls Tryd.prog 69 #[.string (tx L), .string ⟨#[47]⟩] w fun e w' => e = .returned (.tuple #[.string (tx (cutA L)), .string (tx (cutB L)), .bool (cutF L)]) ∧ Below w.heap.size w w') := cutLite_is L hl w
  go_enter Tryd.func54, Tryd.ntmps54
  go_wp2_with (go_at_call 69; refine k.out.mono ?_; rintro e w' ⟨rfl, hw⟩)
  go_ret3
  exact ⟨rfl, hw⟩
theorem hasPrefixLite_is (Q P : Tx) (w : World) : Calls Tryd.prog 93 #[.string (tx Q), .string (tx P)] w fun e w' => e = .returned (.bool (P.isPrefixOf Q)) ∧ w' = w := by
  have h1 := tx_size Q
  have h2 := tx_size P
  by_cases hl : P.length ≤ Q.length
  · have i1 : ((P.length : Nat) : Int) ≤ ((Q.length : Nat) : Int) := by omega
    have x1 : (tx Q).extract 0 P.length = tx (Q.take P.length) := by rw [tx_extract]; simp
    have e1 : ((tx (Q.take P.length)).toList == (tx P).toList) = P.isPrefixOf Q := by
      rw [tx_eq, Bool.eq_iff_iff, decide_eq_true_iff, List.isPrefixOf_iff_prefix]
      constructor
      · intro h; exact ⟨Q.drop P.length, by rw [← h, List.length_take, Nat.min_eq_left hl]; exact List.take_append_drop _ _⟩
      · rintro ⟨t, rfl⟩; simp
    generalize tx (Q.take P.length) = SA at *
    generalize P.isPrefixOf Q = B at *
    go_enter Tryd.func93, Tryd.ntmps93
    go_wp2
    go_ret
    exact ⟨rfl, rfl⟩
  · have i1 : ¬ ((P.length : Nat) : Int) ≤ ((Q.length : Nat) : Int) := by omega
    have e1 : P.isPrefixOf Q = false := by
      rw [Bool.eq_false_iff]
      intro h
      rw [List.isPrefixOf_iff_prefix] at h
      exact hl h.length_le
    rw [e1]
    go_enter Tryd.func93, Tryd.ntmps93
    go_wp2
    go_ret
    exact ⟨rfl, rfl⟩
theorem hasPrefix_is (Q P : Tx) (w : World) : Calls Tryd.prog 75 #[.string (tx Q), .string (tx P)] w fun e w' => e = .returned (.bool (P.isPrefixOf Q)) ∧ w' = w := by
  have k : Hid (Calls Tryd.prog 93 #[.string (tx Q), .string (tx P)] w fun e w' => e = .returned (.bool (P.isPrefixOf Q)) ∧ w' = w) := hasPrefixLite_is Q P w
  go_enter Tryd.func75, Tryd.ntmps75
  go_wp2_with (go_at_call 93; refine k.out.mono ?_; rintro e w' ⟨rfl, hw⟩; obtain rfl := hw.symm; clear hw)
  go_ret
  exact ⟨rfl, rfl⟩
end Go.Proofs.YtbefmcagpmgkiaaDoor
