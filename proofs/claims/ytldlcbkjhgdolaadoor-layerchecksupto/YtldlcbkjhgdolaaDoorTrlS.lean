/- The document's own Part and Text. -/
import Derived.Test.YtldlcbkjhgdolaaDoorTrlR
namespace Go.Proofs.YtldlcbkjhgdolaaDoor
open Go.ChangeShapes Go.WideShapes Go.ChangeAt Go.RowKit Go.Deep
set_option linter.unusedVariables false
/-- the signs that a part may have -/
def sg : Tx := [97, 98, 99, 100, 101, 102, 103, 104, 105, 106, 107, 108, 109, 110, 111, 112, 113, 114, 115, 116, 117, 118, 119, 120, 121, 122, 48, 49, 50, 51, 52, 53, 54, 55, 56, 57, 95, 45, 46]
theorem sg_all : ∀ n : Fin 256, sg.contains (UInt8.ofNat n.val) = may (UInt8.ofNat n.val) := by decide +kernel
theorem sg_may (b : UInt8) : sg.contains b = may b := by
  have := sg_all ⟨b.toNat, b.toNat_lt⟩
  simpa using this
theorem sg_step (k : Nat) (b : UInt8) (h : k < 39) : (sg.take (k + 1)).contains b = ((sg.take k).contains b || decide (((sg.getD k 0).toNat : Int) = (b.toNat : Int))) := by
  have hk : k < sg.length := h
  rw [List.take_add_one, List.getElem?_eq_getElem hk]
  have e : sg.getD k 0 = sg[k] := getD_at sg k hk
  rw [e, Bool.eq_iff_iff]
  simp only [Option.toList_some, List.contains_eq_mem, List.mem_append, List.mem_singleton, decide_eq_true_eq, Bool.or_eq_true]
  constructor
  · rintro (h1 | h1)
    · exact .inl h1
    · exact .inr (by rw [h1])
  · rintro (h1 | h1)
    · exact .inl h1
    · exact .inr (UInt8.toNat_inj.1 (by omega))
set_option maxHeartbeats 4000000 in
theorem rpart_is (a : Tx) (hl : a.length ≤ 1000000000) (w : World) :
    Calls Tryd.prog 84 #[.string (tx a)] w fun e w' => e = .returned (.bool (isPart a)) ∧ Below w.heap.size w w' := by
  have hs := tx_size a
  have t1 := tx_toList a
  go_enter Tryd.func84, Tryd.ntmps84
  go_wp2
  go_loopg [3] a.length (fun g ii wr => ∃ i : Nat, ii = .int .i64 i ∧ i ≤ a.length ∧ g = a.length - i ∧ Hid (∀ j, j < i → may (a.getD j 0) = true) ∧ Hid (Below w.heap.size w wr))
  case atStart => exact ⟨0, rfl, Nat.zero_le _, rfl, fun j hj => by omega, Below.refl _ _⟩
  case round =>
    obtain ⟨i, rfl, hi, rfl, HY, HW⟩ := hrel
    by_cases hlt : i < a.length
    · have j1 : (i : Int) < ((a.length : Nat) : Int) := by omega
      have ix := run_index_tx a i hlt
      have HY2 : Hid (may (a.getD i 0) = true → ∀ j, j < i + 1 → may (a.getD j 0) = true) := fun hm j hj => by
        rcases (by omega : j < i ∨ j = i) with h | rfl
        · exact HY.out j h
        · exact hm
      have HF : Hid (may (a.getD i 0) = false → isPart a = false) := part_no2 i hlt
      have HG : Hid (sg.contains (a.getD i 0) = may (a.getD i 0)) := sg_may _
      generalize a.getD i 0 = y at *
      rename World => wo
      go_wp2_with fail
      go_loopg [4, 5] 39 (fun g ok kk wr => ∃ k : Nat, ok = .bool ((sg.take k).contains y) ∧ kk = .int .i64 k ∧ k ≤ 39 ∧ g = 39 - k ∧ Hid (Below w.heap.size w wr))
      case atStart => exact ⟨0, rfl, rfl, Nat.zero_le _, rfl, HW⟩
      case round =>
        obtain ⟨k, rfl, rfl, hk, rfl, HW2⟩ := hrel
        by_cases hk39 : k < 39
        · have j2 : (k : Int) < 39 := by omega
          have iy : ∀ w, (Instr.index 9 (.string ⟨#[97, 98, 99, 100, 101, 102, 103, 104, 105, 106, 107, 108, 109, 110, 111, 112, 113, 114, 115, 116, 117, 118, 119, 120, 121, 122, 48, 49, 50, 51, 52, 53, 54, 55, 56, 57, 95, 45, 46]⟩) (.int .i64 (k : Int))).run Tryd.prog w = .ok (.int .u8 ((sg.getD k 0).toNat : Int)) w := run_index_tx sg k hk39
          have HS : Hid ((sg.take (k + 1)).contains y = ((sg.take k).contains y || decide (((sg.getD k 0).toNat : Int) = (y.toNat : Int)))) := sg_step k y hk39
          generalize (sg.take k).contains y = ok at *
          generalize ((sg.getD k 0).toNat : Int) = z at *
          generalize hyy : (y.toNat : Int) = yy at *
          have HYY : Hid ((y.toNat : Int) = yy) := hyy
          clear hyy
          cases ok with
          | true =>
            have HS2 : Hid ((sg.take (k + 1)).contains y = true) := by show _ = _; rw [HS.out]; rfl
            clear HS
            go_wp2_with fail
            go_quiet (fail)
            go_wp2_with fail
            go_roundg (39 - (k + 1))
            case measure => omega
            case rel => exact ⟨k + 1, by rw [HS2.out], by go_num, by omega, rfl, below_drewN HW2.out _⟩
          | false =>
            have HS2 : Hid ((sg.take (k + 1)).contains y = decide (z = yy)) := by show _ = _; rw [HS.out]; rfl
            have ezy : (z == yy) = decide (z = yy) := by rw [Bool.eq_iff_iff, beq_iff_eq, decide_eq_true_iff]
            clear HS
            go_wp2_with fail
            go_quiet (fail)
            go_wp2_with fail
            go_roundg (39 - (k + 1))
            case measure => omega
            case rel => exact ⟨k + 1, by rw [HS2.out], by go_num, by omega, rfl, below_drewN HW2.out _⟩
        · have ek : k = 39 := by omega
          subst ek
          have j2 : ¬ ((39 : Nat) : Int) < 39 := by omega
          have e39 : (sg.take 39).contains y = may y := by rw [List.take_of_length_le (by decide)]; exact HG.out
          rw [e39]
          cases hm : may y with
          | true =>
            have HY3 : Hid (∀ j, j < i + 1 → may (a.getD j 0) = true) := HY2.out hm
            clear e39 HY2 HF
            go_wp2_with fail
            go_roundg (a.length - (i + 1))
            case measure => omega
            case rel => exact ⟨i + 1, by go_num, by omega, rfl, HY3, HW2⟩
          | false =>
            have HF2 : Hid (isPart a = false) := HF.out hm
            clear e39 HY2 HF
            go_wp2_with fail
            go_ret
            exact ⟨by rw [HF2.out]; rfl, HW2.out⟩
    · have e : i = a.length := by omega
      subst e
      have j1 : ¬ ((a.length : Nat) : Int) < ((a.length : Nat) : Int) := by omega
      have HA : Hid (isPart a = (decide (1 ≤ ((a.length : Nat) : Int)) && decide (((a.length : Nat) : Int) ≤ 24) && !(a == [46]) && !(a == [46, 46]))) := by
        show _ = _
        have : a.all may = true := List.all_eq_true.2 fun b hb => by
          obtain ⟨j, hj, rfl⟩ := List.getElem_of_mem hb
          have := HY.out j hj
          rwa [getD_at a j hj] at this
        rw [isPart, this, Bool.eq_iff_iff]
        simp
        omega
      have H46 : Hid (isPart [46] = false) := by show _ = _; decide
      clear HY
      go_wp2_with fail
      · go_ret
        refine ⟨?_, HW.out⟩
        rw [H46.out]
        rfl
      · have a1 : (1 : Int) ≤ ((a.length : Nat) : Int) := by assumption
        have a2 : ((a.length : Nat) : Int) ≤ 24 := by assumption
        go_ret
        refine ⟨?_, HW.out⟩
        rw [HA.out, decide_eq_true a1, decide_eq_true a2]
        rfl
      · have a2 : (24 : Int) < ((a.length : Nat) : Int) := by assumption
        go_ret
        refine ⟨?_, HW.out⟩
        rw [HA.out, decide_eq_false (show ¬ ((a.length : Nat) : Int) ≤ 24 by omega), Bool.and_false]
        rfl
      · have a2 : ((a.length : Nat) : Int) < 1 := by assumption
        go_ret
        refine ⟨?_, HW.out⟩
        rw [HA.out, decide_eq_false (show ¬ (1 : Int) ≤ ((a.length : Nat) : Int) by omega)]
        rfl
theorem jn_grow (l : List Tx) (i : Nat) : (jn (l.take i)).length ≤ (jn l).length := by
  induction l generalizing i with
  | nil => simp
  | cons x l ih =>
    cases i with
    | zero => simp [jn_nil]
    | succ i =>
      rw [List.take_succ_cons]
      cases l with
      | nil => simp
      | cons y l =>
        cases i with
        | zero => rw [List.take_zero, jn_one, jn_cons]; simp
        | succ i =>
          have := ih (i + 1)
          rw [List.take_succ_cons] at this ⊢
          rw [jn_cons, jn_cons]
          simp only [List.length_append, List.length_cons]
          omega
theorem jn_take' (l : List Tx) (i : Nat) (x : Tx) (h : l[i]? = some x) : jn (l.take (i + 1)) = if i = 0 then x else jn (l.take i) ++ 47 :: x := by
  induction l generalizing i with
  | nil => simp at h
  | cons y l ih =>
    cases i with
    | zero => simp at h; subst h; simp [jn_one]
    | succ i =>
      simp only [List.getElem?_cons_succ] at h
      have := ih i h
      rw [if_neg (by omega), List.take_succ_cons, List.take_succ_cons]
      cases i with
      | zero =>
        simp only [if_true] at this
        cases l with
        | nil => simp at h
        | cons z l =>
          simp at h
          subst h
          simp [jn_cons, jn_one]
      | succ i =>
        rw [if_neg (by omega)] at this
        cases l with
        | nil => simp at h
        | cons z l =>
          rw [List.take_succ_cons, jn_cons, List.take_succ_cons, jn_cons]
          rw [List.take_succ_cons, List.take_succ_cons] at this
          rw [this]
          simp
theorem part_le_jn (l : List Tx) (i : Nat) (x : Tx) (h : l[i]? = some x) : x.length ≤ (jn l).length := by
  have h1 := jn_take' l i x h
  have h2 := jn_grow l (i + 1)
  rw [h1] at h2
  split at h2
  · exact h2
  · simp at h2; omega
end Go.Proofs.YtldlcbkjhgdolaaDoor
