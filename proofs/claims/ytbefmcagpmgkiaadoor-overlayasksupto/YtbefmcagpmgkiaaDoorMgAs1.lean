/- Texts in the model; strings.Cut at one stroke. trail.In, trail.mayStand, trail.Less. strings.Join, by the library's own contract: the numbers of its closure in this program. -/
import Derived.Test.YtbefmcagpmgkiaaDoorMgAs0
import Derived.WalkSpells
import Derived.WalkLawsBesides
import Derived.Outline
import Derived.LoopTactic
import Derived.Deep.LoopGhost
import Derived.Deep.OwnRows
import Derived.Lib.Bytealg
import Derived.Laws.StandIn
import Derived.Laws.Strings3
import Derived.Deep.QuietTactic
import Derived.BigQuiet
import Derived.Shelf.Strings.OnBuilder
namespace Go.Proofs.YtbefmcagpmgkiaaDoor
open Go.ChangeShapes Go.WideShapes Go.ChangeAt Go.RowKit Go.Deep
set_option linter.unusedVariables false
/-- a text of these bytes -/
def tx (L : Tx) : ByteArray := ⟨L.toArray⟩
theorem tx_size (L : Tx) : (tx L).size = L.length := by simp [tx, ByteArray.size]
theorem tx_data (L : Tx) : (tx L).data.toList = L := by simp [tx]
theorem tx_toList (L : Tx) : (tx L).toList = L := by rw [ByteArray.toList_eq, tx_data]
theorem tx_mk (S : ByteArray) : S = tx S.data.toList := by simp [tx]
theorem tx_extract (L : Tx) (a b : Nat) : (tx L).extract a b = tx ((L.drop a).take (b - a)) := ByteArray.extract_mk L a b
theorem tx_append (A B : Tx) : tx A ++ tx B = tx (A ++ B) := by
  apply ByteArray.ext
  rw [ByteArray.data_append]
  simp [tx]
theorem tx_inj {A B : Tx} (h : tx A = tx B) : A = B := by rw [← tx_data A, h, tx_data]
theorem tx_eq (A B : Tx) : ((tx A).toList == (tx B).toList) = decide (A = B) := by
  rw [tx_toList, tx_toList, Bool.eq_iff_iff, beq_iff_eq, decide_eq_true_iff]
theorem bytesLess_lt (A B : Tx) : Op.bytesLess A B = ltB A B := by
  induction A generalizing B with
  | nil => cases B <;> rfl
  | cons a A ih => cases B with
    | nil => rfl
    | cons b B =>
      simp only [Op.bytesLess, ltB, ih]
      by_cases e : a = b
      · subst e
        simp
      · rw [if_neg e, Bool.eq_iff_iff]
        simp only [Bool.or_eq_true, decide_eq_true_eq, Bool.and_eq_true, beq_iff_eq, e, false_and, or_false]
        exact UInt8.lt_iff_toNat_lt
/-- what stands ahead of the first stroke, and behind it -/
def cutA (L : Tx) : Tx := L.takeWhile (· != 47)
def cutB (L : Tx) : Tx := (L.dropWhile (· != 47)).tail
def cutF (L : Tx) : Bool := L.contains 47
theorem cutA_no (L : Tx) : (47 : UInt8) ∉ cutA L := by
  intro h
  have h2 : ∀ (M : Tx), (47 : UInt8) ∈ M.takeWhile (· != 47) → False := by
    intro M
    induction M with
    | nil => simp
    | cons b t ih =>
      intro hm
      rw [List.takeWhile_cons] at hm
      split at hm
      · rename_i hb
        simp only [List.mem_cons] at hm
        rcases hm with rfl | hm
        · simp at hb
        · exact ih hm
      · simp at hm
  exact h2 L h
theorem cut_yes (L : Tx) (h : cutF L = true) : L = cutA L ++ 47 :: cutB L := by
  induction L with
  | nil => simp [cutF] at h
  | cons b t ih =>
    by_cases e : b = 47
    · subst e
      simp [cutA, cutB]
    · have ht : cutF t = true := by
        simp only [cutF, List.contains_cons, Bool.or_eq_true, beq_iff_eq] at h
        rcases h with h | h
        · exact absurd h.symm e
        · exact h
      have := ih ht
      have e' : (b != 47) = true := by simp [e]
      simp only [cutA, cutB, List.takeWhile_cons, List.dropWhile_cons, e', if_true, List.cons_append] at this ⊢
      rw [← this]
theorem cut_no (L : Tx) (h : cutF L = false) : cutA L = L ∧ cutB L = [] := by
  induction L with
  | nil => exact ⟨rfl, rfl⟩
  | cons b t ih =>
    simp only [cutF, List.contains_cons, Bool.or_eq_false_iff, beq_eq_false_iff_ne, ne_eq] at h
    have e' : (b != 47) = true := by simp only [bne_iff_ne, ne_eq]; exact fun e => h.1 e.symm
    obtain ⟨h1, h2⟩ := ih h.2
    simp only [cutA, cutB, List.takeWhile_cons, List.dropWhile_cons, e', if_true] at h1 h2 ⊢
    exact ⟨by rw [h1], h2⟩
theorem index_yes (L : Tx) (h : cutF L = true) : Lib.indexByte L 47 = ((cutA L).length : Nat) := by
  induction L with
  | nil => simp [cutF] at h
  | cons b t ih =>
    by_cases e : b = 47
    · subst e
      simp [cutA, Lib.indexByte]
    · have ht : cutF t = true := by
        simp only [cutF, List.contains_cons, Bool.or_eq_true, beq_iff_eq] at h
        rcases h with h | h
        · exact absurd h.symm e
        · exact h
      have := ih ht
      have e' : (b != 47) = true := by simp [e]
      simp only [cutA, List.takeWhile_cons, e', if_true, List.length_cons] at this ⊢
      simp only [Lib.indexByte, beq_iff_eq, e, if_false]
      rw [this, if_neg (by omega)]
      omega
theorem index_no (L : Tx) (h : cutF L = false) : Lib.indexByte L 47 = -1 := by
  induction L with
  | nil => rfl
  | cons b t ih =>
    simp only [cutF, List.contains_cons, Bool.or_eq_false_iff, beq_eq_false_iff_ne, ne_eq] at h
    have e : ¬ b = 47 := fun e => h.1 e.symm
    simp only [Lib.indexByte, beq_iff_eq, e, if_false]
    rw [ih h.2]
    rfl
theorem pcs_yes (L : Tx) (h : cutF L = true) : pcs L = cutA L :: pcs (cutB L) := by
  have := pcs_cut (cutA L) (cutB L) (cutA_no L)
  rwa [← cut_yes L h] at this
theorem pcs_end (L : Tx) (h : cutF L = false) : pcs L = [cutA L] := by
  have := pcs_no (cutA L) (cutA_no L)
  rwa [(cut_no L h).1] at this ⊢
theorem cutF_nil : cutF [] = false := rfl
theorem indexByteLite_is (L : Tx) (w : World) : Calls Tryd.prog 99 #[.string (tx L), .int .u8 47] w fun e w' => e = .returned (.int .i64 (Lib.indexByte L 47)) ∧ w' = w := by
  have h : (callFunc 105 #[.string (tx L), .int .u8 47]).run Tryd.prog w = .ok (.value (.int .i64 (Lib.indexByte L 47))) w := by
    rw [run_callFunc_indexByte Tryd.func105 (by kernel_rfl) (by kernel_rfl) (by kernel_rfl) (by kernel_rfl), Lib.run_indexByteString (P := Tryd.prog) (tx L) 47 w, tx_data]
    rfl
  go_enter Tryd.func99, Tryd.ntmps99
  go_wp2
  go_ret
  exact ⟨rfl, rfl⟩
theorem index_is (L : Tx) (w : World) : Calls Tryd.prog 87 #[.string (tx L), .string ⟨#[47]⟩] w fun e w' => e = .returned (.int .i64 (Lib.indexByte L 47)) ∧ w' = w := by
  have k : Hid (∀ w, Calls Tryd.prog 99 #[.string (tx L), .int .u8 47] w fun e w' => e = .returned (.int .i64 (Lib.indexByte L 47)) ∧ w' = w) := indexByteLite_is L
  have ht := tx_toList L
  have hs := tx_size L
  by_cases hL : L = [47]
  · have e1 : ([47] == L) = true := by simp [hL]
    have h0 : Lib.indexByte L 47 = 0 := by rw [hL]; decide
    rw [h0]
    clear hL h0 k
    go_enter Tryd.func87, Tryd.ntmps87
    go_wp2
    go_ret
    exact ⟨rfl, rfl⟩
  · have e1 : ([47] == L) = false := by simp only [beq_eq_false_iff_ne, ne_eq]; exact fun e => hL e.symm
    clear hL
    go_enter Tryd.func87, Tryd.ntmps87
    go_wp2_with (go_at_call 99; refine (k.out _).mono ?_; rintro e w' ⟨rfl, hw⟩; obtain rfl := hw.symm; clear hw)
    go_ret
    exact ⟨rfl, rfl⟩
theorem cutLite_is (L : Tx) (hl : L.length ≤ 281474976710656) (w : World) : Calls Tryd.prog 69 #[.string (tx L), .string ⟨#[47]⟩] w fun e w' => e = .returned (.tuple #[.string (tx (cutA L)), .string (tx (cutB L)), .bool (cutF L)]) ∧ Below w.heap.size w w' := by
  have k : Hid (Calls Tryd.prog 87 #[.string (tx L), .string ⟨#[47]⟩] w fun e w' => e = .returned (.int .i64 (Lib.indexByte L 47)) ∧ w' = w) := index_is L w
  have hs := tx_size L
  cases hf : cutF L with
  | true =>
    have hx := cut_yes L hf
    rw [index_yes L hf] at k
    have hA : (tx L).extract 0 (cutA L).length = tx (cutA L) := by
      rw [tx_extract]
      congr 1
      generalize cutA L = A at *
      generalize cutB L = B at *
      rw [hx]
      simp
    have hB : (tx L).extract ((cutA L).length + 1) L.length = tx (cutB L) := by
      rw [tx_extract]
      congr 1
      generalize cutA L = A at *
      generalize cutB L = B at *
      rw [hx]
      have : List.drop (A.length + 1) (A ++ 47 :: B) = B := by
        have := List.drop_append (l₁ := A) (l₂ := 47 :: B) (i := A.length + 1)
        rw [this, List.drop_of_length_le (by omega), show A.length + 1 - A.length = 1 by omega]
        rfl
      rw [this, List.take_of_length_le (by simp; omega)]
    have hlen : (cutA L).length + 1 ≤ L.length := by
      have := congrArg List.length hx
      simp at this
      omega
    generalize tx (cutA L) = SA at *
    generalize tx (cutB L) = SB at *
    generalize (cutA L).length = m at *
    clear hx hf
    have i1 : (0 : Int) ≤ (m : Int) := by omega
    generalize tx L = S at *
    go_enter Tryd.func69, Tryd.ntmps69
    go_wp2_with (go_at_call 87; refine k.out.mono ?_; rintro e w' ⟨rfl, hw⟩; obtain rfl := hw.symm; clear hw)
    go_quiet (fail)
    go_wp2
    go_ret3
    exact ⟨rfl, below_drewN (Below.refl _ _) _⟩
  | false =>
    obtain ⟨h1, h2⟩ := cut_no L hf
    rw [index_no L hf] at k
    rw [h1, h2]
    go_enter Tryd.func69, Tryd.ntmps69
    go_wp2_with (go_at_call 87; refine k.out.mono ?_; rintro e w' ⟨rfl, hw⟩; obtain rfl := hw.symm; clear hw)
    go_ret3
    exact ⟨rfl, Below.refl _ _⟩
theorem cut_is (L : Tx) (hl : L.length ≤ 281474976710656) (w : World) : Calls Tryd.prog 54 #[.string (tx L), .string ⟨#[47]⟩] w fun e w' => e = .returned (.tuple #[.string (tx (cutA L)), .string (tx (cutB L)), .bool (cutF L)]) ∧ Below w.heap.size w w' := by
  have k : Hid (Calls Tryd.prog 69 #[.string (tx L), .string ⟨#[47]⟩] w fun e w' => e = .returned (.tuple #[.string (tx (cutA L)), .string (tx (cutB L)), .bool (cutF L)]) ∧ Below w.heap.size w w') := cutLite_is L hl w
  go_enter Tryd.func54, Tryd.ntmps54
  go_wp2_with (go_at_call 69; refine k.out.mono ?_; rintro e w' ⟨rfl, hw⟩)
  go_ret3
  exact ⟨rfl, hw⟩
theorem hasPrefixLite_is (Q P : Tx) (w : World) : Calls Tryd.prog 93 #[.string (tx Q), .string (tx P)] w fun e w' => e = .returned (.bool (P.isPrefixOf Q)) ∧ w' = w := by
  have h1 := tx_size Q
  have h2 := tx_size P
  by_cases hl : P.length ≤ Q.length
  · have i1 : ((P.length : Nat) : Int) ≤ ((Q.length : Nat) : Int) := by omega
    have x1 : (tx Q).extract 0 P.length = tx (Q.take P.length) := by rw [tx_extract]; simp
    have e1 : ((tx (Q.take P.length)).toList == (tx P).toList) = P.isPrefixOf Q := by
      rw [tx_eq, Bool.eq_iff_iff, decide_eq_true_iff, List.isPrefixOf_iff_prefix]
      constructor
      · intro h; exact ⟨Q.drop P.length, by rw [← h, List.length_take, Nat.min_eq_left hl]; exact List.take_append_drop _ _⟩
      · rintro ⟨t, rfl⟩; simp
    generalize tx (Q.take P.length) = SA at *
    generalize P.isPrefixOf Q = B at *
    go_enter Tryd.func93, Tryd.ntmps93
    go_wp2
    go_ret
    exact ⟨rfl, rfl⟩
  · have i1 : ¬ ((P.length : Nat) : Int) ≤ ((Q.length : Nat) : Int) := by omega
    have e1 : P.isPrefixOf Q = false := by
      rw [Bool.eq_false_iff]
      intro h
      rw [List.isPrefixOf_iff_prefix] at h
      exact hl h.length_le
    rw [e1]
    go_enter Tryd.func93, Tryd.ntmps93
    go_wp2
    go_ret
    exact ⟨rfl, rfl⟩
theorem hasPrefix_is (Q P : Tx) (w : World) : Calls Tryd.prog 75 #[.string (tx Q), .string (tx P)] w fun e w' => e = .returned (.bool (P.isPrefixOf Q)) ∧ w' = w := by
  have k : Hid (Calls Tryd.prog 93 #[.string (tx Q), .string (tx P)] w fun e w' => e = .returned (.bool (P.isPrefixOf Q)) ∧ w' = w) := hasPrefixLite_is Q P w
  go_enter Tryd.func75, Tryd.ntmps75
  go_wp2_with (go_at_call 93; refine k.out.mono ?_; rintro e w' ⟨rfl, hw⟩; obtain rfl := hw.symm; clear hw)
  go_ret
  exact ⟨rfl, rfl⟩
end Go.Proofs.YtbefmcagpmgkiaaDoor
namespace Go.Proofs.YtbefmcagpmgkiaaDoor
open Go.ChangeShapes Go.WideShapes Go.ChangeAt Go.RowKit Go.Deep
set_option linter.unusedVariables false
theorem in_is (P Q : Tx) (hp : P.length ≤ 281474976710656) (w : World) : Calls Tryd.prog 65 #[.string (tx P), .string (tx Q)] w fun e w' => e = .returned (.bool (inn P Q)) ∧ Below w.heap.size w w' := by
  have K : Hid (∀ w, Calls Tryd.prog 75 #[.string (tx Q), .string (tx (P ++ [47]))] w fun e w' => e = .returned (.bool ((P ++ [47]).isPrefixOf Q)) ∧ w' = w) := hasPrefix_is Q (P ++ [47])
  have h1 := tx_toList P
  have h2 := tx_toList Q
  have h3 := tx_size P
  have a1 : tx P ++ ⟨#[47]⟩ = tx (P ++ [47]) := tx_append P [47]
  have EI : Hid (inn P Q = (decide (P = []) || decide (Q = P) || (P ++ [47]).isPrefixOf Q)) := rfl
  rw [EI.out]
  go_enter Tryd.func65, Tryd.ntmps65
  go_wp2_with (go_at_call 75; refine (K.out _).mono ?_; rintro e w' ⟨rfl, hw⟩; obtain rfl := hw.symm; clear hw)
  · have h : P = [] := by assumption
    go_ret
    refine ⟨?_, Below.refl _ _⟩
    rw [decide_eq_true h]
    rfl
  · have h : Q = P := by assumption
    go_ret
    refine ⟨?_, Below.refl _ _⟩
    rw [decide_eq_true h, Bool.or_true]
    rfl
  · have n1 : ¬ P = [] := by assumption
    have n2 : ¬ Q = P := by assumption
    go_ret
    refine ⟨?_, Below.refl _ _⟩
    show Ending.returned (Value.bool _) = _
    congr 2
    rw [Bool.eq_iff_iff]
    simp [n1, n2]
theorem may_eq (b : UInt8) : may b = ((decide (97 ≤ (b.toNat : Int)) && decide ((b.toNat : Int) ≤ 122)) || (decide (48 ≤ (b.toNat : Int)) && decide ((b.toNat : Int) ≤ 57)) || decide ((b.toNat : Int) = 95) || decide ((b.toNat : Int) = 45) || decide ((b.toNat : Int) = 46)) := by
  have h (k : UInt8) : (b == k) = decide ((b.toNat : Int) = (k.toNat : Int)) := by
    rw [Bool.eq_iff_iff, beq_iff_eq, decide_eq_true_iff]
    constructor
    · rintro rfl; rfl
    · intro e; exact UInt8.toNat_inj.1 (by omega)
  unfold may
  rw [h 95, h 45, h 46, Bool.eq_iff_iff]
  simp only [Bool.or_eq_true, Bool.and_eq_true, decide_eq_true_eq]
  have e1 : (UInt8.toNat 95 : Int) = 95 := rfl
  have e2 : (UInt8.toNat 45 : Int) = 45 := rfl
  have e3 : (UInt8.toNat 46 : Int) = 46 := rfl
  rw [e1, e2, e3]
  omega
theorem mayStand_is (b : UInt8) (w : World) : Calls Tryd.prog 55 #[.int .u8 (b.toNat : Int)] w fun e w' => e = .returned (.bool (may b)) ∧ w' = w := by
  go_enter Tryd.func55, Tryd.ntmps55
  go_wp2
  all_goals (
    go_ret
    refine ⟨?_, rfl⟩
    rw [may_eq]
    show Ending.returned (Value.bool _) = _
    congr 2
    first
      | (simp_all; done)
      | (simp_all; omega)
      | (rw [Bool.eq_iff_iff]; simp; omega))
theorem les_ne (A B : Tx) (h : cutA A ≠ cutA B) : les A B = ltB (cutA A) (cutA B) := by
  unfold les
  have hA : ∃ r, pcs A = cutA A :: r := by
    cases hf : cutF A with
    | true => exact ⟨_, pcs_yes A hf⟩
    | false => exact ⟨_, pcs_end A hf⟩
  have hB : ∃ r, pcs B = cutA B :: r := by
    cases hf : cutF B with
    | true => exact ⟨_, pcs_yes B hf⟩
    | false => exact ⟨_, pcs_end B hf⟩
  obtain ⟨r, hr⟩ := hA
  obtain ⟨t, ht⟩ := hB
  rw [hr, ht, ltP, if_neg h]
theorem les_on (A B : Tx) (h : cutA A = cutA B) (hA : cutF A = true) (hB : cutF B = true) : les A B = les (cutB A) (cutB B) := by
  unfold les
  rw [pcs_yes A hA, pcs_yes B hB, ltP, if_pos h]
theorem les_end (A B : Tx) (h : cutA A = cutA B) (hf : cutF A = false ∨ cutF B = false) : les A B = cutF B := by
  unfold les
  cases hA : cutF A with
  | false =>
    rw [pcs_end A hA]
    cases hB : cutF B with
    | false => rw [pcs_end B hB, ltP, if_pos h]; rfl
    | true =>
      rw [pcs_yes B hB, ltP, if_pos h]
      cases hp : pcs (cutB B) with
      | nil => exact absurd hp (pcs_ne _)
      | cons x xs => rfl
  | true =>
    have hB : cutF B = false := by
      rcases hf with h1 | h1
      · rw [h1] at hA; simp at hA
      · exact h1
    rw [pcs_yes A hA, pcs_end B hB, ltP, if_pos h, hB]
    cases hp : pcs (cutB A) with
    | nil => rfl
    | cons x xs => rfl
theorem cutB_len (L : Tx) (h : cutF L = true) : (cutB L).length + 1 ≤ L.length := by
  have := congrArg List.length (cut_yes L h)
  simp at this
  omega
theorem cutB_le (L : Tx) : (cutB L).length ≤ L.length := by
  cases h : cutF L with
  | true => have := cutB_len L h; omega
  | false => rw [(cut_no L h).2]; simp
theorem cutA_le (L : Tx) : (cutA L).length ≤ L.length := by
  cases h : cutF L with
  | true =>
    have := congrArg List.length (cut_yes L h)
    simp at this
    omega
  | false => rw [(cut_no L h).1]; omega
set_option maxHeartbeats 1000000 in
theorem less_is (P Q : Tx) (hp : P.length ≤ 281474976710656) (hq : Q.length ≤ 281474976710656) (w : World) : Calls Tryd.prog 59 #[.string (tx P), .string (tx Q)] w fun e w' => e = .returned (.bool (les P Q)) ∧ Below w.heap.size w w' := by
  go_enter Tryd.func59, Tryd.ntmps59
  go_wp2
  go_loopg [0, 1] P.length (fun g p q wr => ∃ A B : Tx, p = .string (tx A) ∧ q = .string (tx B) ∧ g = A.length ∧ A.length ≤ P.length ∧ B.length ≤ Q.length ∧ Hid (les P Q = les A B) ∧ Hid (Below w.heap.size w wr))
  case atStart => exact ⟨P, Q, rfl, rfl, rfl, Nat.le_refl _, Nat.le_refl _, rfl, Below.refl _ _⟩
  case round =>
    obtain ⟨A, B, rfl, rfl, rfl, hA, hB, HL, HW⟩ := hrel
    have hsz := HW.out.size
    have KA : Hid (Calls Tryd.prog 54 #[.string (tx A), .string ⟨#[47]⟩] wr fun e w' => e = .returned (.tuple #[.string (tx (cutA A)), .string (tx (cutB A)), .bool (cutF A)]) ∧ Below wr.heap.size wr w') := cut_is A (by omega) wr
    have KB : Hid (∀ w, Calls Tryd.prog 54 #[.string (tx B), .string ⟨#[47]⟩] w fun e w' => e = .returned (.tuple #[.string (tx (cutA B)), .string (tx (cutB B)), .bool (cutF B)]) ∧ Below w.heap.size w w') := cut_is B (by omega)
    go_wp2_with fail
    refine KA.out.mono ?_
    rintro e w1 ⟨rfl, hb1⟩
    have B1 : Hid (Below w.heap.size w w1) := HW.out.trans (hb1.mono hsz)
    clear hb1 KA HW
    go_wp2_with fail
    refine (KB.out _).mono ?_
    rintro e w2 ⟨rfl, hb2⟩
    have B2 : Hid (Below w.heap.size w w2) := B1.out.trans (hb2.mono B1.out.size)
    clear hb2 KB B1
    have t1 := tx_toList (cutA A)
    have t2 := tx_toList (cutA B)
    have T3 : Hid (Op.bytesLess (cutA A) (cutA B) = ltB (cutA A) (cutA B)) := bytesLess_lt _ _
    have lB := cutB_le B
    have HC : Hid (cutA A ≠ cutA B → les A B = ltB (cutA A) (cutA B)) := les_ne A B
    have HD : Hid (cutA A = cutA B → cutF A = true → cutF B = true → les A B = les (cutB A) (cutB B)) := les_on A B
    have HE : Hid (cutA A = cutA B → cutF A = false ∨ cutF B = false → les A B = cutF B) := les_end A B
    have HF : Hid (cutF A = true → (cutB A).length + 1 ≤ A.length) := cutB_len A
    generalize cutA A = a at *
    generalize cutA B = b at *
    generalize cutB A = A' at *
    generalize cutB B = B' at *
    generalize cutF A = fa at *
    generalize cutF B = fb at *
    by_cases hab : a = b
    · subst hab
      clear T3 HC
      cases fa with
      | false =>
        have HE2 : Hid (les A B = fb) := HE.out rfl (.inl rfl)
        clear HE HD HF
        go_wp2_with fail
        go_ret
        refine ⟨?_, B2.out⟩
        rw [HL.out, HE2.out]
        rfl
      | true =>
        cases fb with
        | false =>
          have HE2 : Hid (les A B = false) := HE.out rfl (.inr rfl)
          clear HE HD HF
          go_wp2_with fail
          go_ret
          refine ⟨?_, B2.out⟩
          rw [HL.out, HE2.out]
          rfl
        | true =>
          have hlt := HF.out rfl
          have HL2 : Hid (les P Q = les A' B') := HL.out.trans (HD.out rfl rfl rfl)
          go_wp2_with fail
          go_roundg A'.length
          case measure => omega
          case rel => exact ⟨A', B', rfl, rfl, rfl, by omega, by omega, HL2, B2⟩
    · have e1 : (a == b) = false := by simp [hab]
      have t3 := T3.out
      go_wp2_with fail
      go_ret
      refine ⟨?_, B2.out⟩
      rw [HL.out, HC.out hab]
      rfl
end Go.Proofs.YtbefmcagpmgkiaaDoor
namespace Go.Proofs.YtbefmcagpmgkiaaDoor
open Go.Shelf Go.RowKit
set_option linter.unusedVariables false
def jnRen : Go.Shelf.Ren := ⟨fun | 156 => 41 | 165 => 61 | 166 => 62 | 169 => 63 | 240 => 70 | 241 => 71 | 276 => 88 | 277 => 89 | n => n, fun | 31 => 39 | 9 => 9 | 3 => 3 | 4 => 4 | 0 => 0 | 20 => 20 | 72 => 91 | 76 => 95 | 70 => 88 | 37 => 89 | 75 => 94 | 127 => 105 | 164 => 120 | 5 => 5 | 80 => 97 | n => n, fun | n => n⟩
theorem jnLays : Go.Proofs.Lays.n156 Tryd.prog jnRen := {
  mixed := by kernel_rfl
  f156 := Tryd.func41.trans (congrArg some (by kernel_rfl))
  f165 := Tryd.func61.trans (congrArg some (by kernel_rfl))
  f166 := Tryd.func62.trans (congrArg some (by kernel_rfl))
  f169 := Tryd.func63.trans (congrArg some (by kernel_rfl))
  f240 := Tryd.func70.trans (congrArg some (by kernel_rfl))
  f241 := Tryd.func71.trans (congrArg some (by kernel_rfl))
  f276 := Tryd.func88.trans (congrArg some (by kernel_rfl))
  f277 := Tryd.func89.trans (congrArg some (by kernel_rfl))
  t0 := Tryd.underlying0
  a0 := Tryd.isAgg0
  z0 := Tryd.sizeOf0
  v0 := Tryd.zeroValue0
  t3 := Tryd.underlying3
  a3 := Tryd.isAgg3
  z3 := Tryd.sizeOf3
  v3 := Tryd.zeroValue3
  t4 := Tryd.underlying4
  a4 := Tryd.isAgg4
  z4 := Tryd.sizeOf4
  v4 := Tryd.zeroValue4
  t9 := Tryd.underlying9
  a9 := Tryd.isAgg9
  z9 := Tryd.sizeOf9
  v9 := Tryd.zeroValue9
  t20 := Tryd.underlying20
  a20 := Tryd.isAgg20
  z20 := Tryd.sizeOf20
  v20 := Tryd.zeroValue20
  t31 := Tryd.underlying39
  a31 := Tryd.isAgg39
  z31 := Tryd.sizeOf39
  v31 := Tryd.zeroValue39
  t37 := Tryd.underlying89
  a37 := Tryd.isAgg89
  z37 := Tryd.sizeOf89
  v37 := Tryd.zeroValue89
  t70 := Tryd.underlying88
  a70 := Tryd.isAgg88
  z70 := Tryd.sizeOf88
  v70 := Tryd.zeroValue88
  t72 := Tryd.underlying91
  a72 := Tryd.isAgg91
  z72 := Tryd.sizeOf91
  v72 := Tryd.zeroValue91
  t75 := Tryd.underlying94
  a75 := Tryd.isAgg94
  z75 := Tryd.sizeOf94
  v75 := Tryd.zeroValue94
  t76 := Tryd.underlying95
  a76 := Tryd.isAgg95
  z76 := Tryd.sizeOf95
  v76 := Tryd.zeroValue95
  t127 := Tryd.underlying105
  a127 := Tryd.isAgg105
  z127 := Tryd.sizeOf105
  v127 := Tryd.zeroValue105
  t164 := Tryd.underlying120
  a164 := Tryd.isAgg120
  z164 := Tryd.sizeOf120
  v164 := Tryd.zeroValue120 }
theorem jnExtra : Builder.Extra Tryd.prog jnRen := {
  sizeBuilder := by kernel_rfl
  liesBuilder := by kernel_rfl
  t5 := Tryd.underlying5
  a5 := Tryd.isAgg5
  z5 := Tryd.sizeOf5
  v5 := Tryd.zeroValue5
  infoByte := by kernel_rfl
  cellsByte := by kernel_rfl
  sizeByte := by kernel_rfl
  neB5 := by decide }
/-- no part: the empty text -/
theorem join_none (a : Option Addr) (c : Nat) (w : World) :
    Calls Tryd.prog 41 #[.slice a 0 c, .string ⟨#[47]⟩] w fun e w' => e = .returned (.string (tx [])) ∧ w' = w := Any.strings_Join_none jnLays jnExtra a c ⟨#[47]⟩ w
theorem join_is (bk o c : Nat) (l : List Tx) (n : Nat) (hn : l.length = n) (w : World) (hcells : ∀ (j : Nat) x, l[j]? = some x → w.cell? ⟨bk, o + j, none⟩ = some (.string (tx x))) (hbk : bk < w.heap.size) (hN : n ≤ 140737488355328) (hcap : n ≤ c) (hlen : (jn l).length ≤ 140737488355328) :
    Calls Tryd.prog 41 #[.slice (some ⟨bk, o, none⟩) n c, .string ⟨#[47]⟩] w fun e w' => e = .returned (.string (tx (jn l))) ∧ Below w.heap.size w w' := by
  have em : (l.map tx).map (·.data.toList) = l := by
    rw [List.map_map]
    conv => rhs; rw [← List.map_id l]
    apply List.map_congr_left
    intro x _
    exact tx_data x
  have hl : (l.map tx).length = n := by rw [List.length_map, hn]
  have hj : Lib.join ((l.map tx).map (·.data.toList)) (⟨#[47]⟩ : ByteArray).data.toList = jn l := by rw [em]; rfl
  have := Any.strings_Join jnLays jnExtra bk o c (l.map tx) ⟨#[47]⟩ w (fun j x hx => by
    rw [List.getElem?_map] at hx
    cases h : l[j]? with
    | none => rw [h] at hx; simp at hx
    | some y =>
      rw [h] at hx
      simp only [Option.map_some, Option.some.injEq] at hx
      rw [← hx]
      exact hcells j y h) hbk (by rw [hl]; exact hN) (by rw [hl]; exact hcap) (by rw [hj]; exact hlen)
  rw [hl, hj] at this
  exact this
end Go.Proofs.YtbefmcagpmgkiaaDoor
