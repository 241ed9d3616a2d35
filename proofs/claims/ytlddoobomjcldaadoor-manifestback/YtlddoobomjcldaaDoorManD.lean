/- strings.TrimLeft at a nought; manifest.orderOfNumbers, orderOfPieces. -/
import Derived.Test.YtlddoobomjcldaaDoorManA
namespace Go.Proofs.YtlddoobomjcldaaDoor
open Go.ChangeShapes Go.WideShapes Go.ChangeAt Go.RowKit Go.Deep
set_option linter.unusedVariables false
theorem strip_len (S : Tx) : (strip S).length ≤ S.length := by
  induction S with
  | nil => simp [strip]
  | cons b S ih => simp only [strip, List.dropWhile_cons] at ih ⊢; split <;> simp <;> omega
set_option maxHeartbeats 2000000 in
theorem trimByte_is (S : Tx) (hl : S.length ≤ 140737488355328) (w : World) : Calls Tryd.prog 105 #[.string (tx S), .int .u8 48] w fun e w' => e = .returned (.string (tx (strip S))) ∧ w' = w := by
  obtain ⟨R, hR⟩ : ∃ R, R = strip S := ⟨_, rfl⟩
  rw [← hR]
  have HR : Hid (strip S = R) := hR.symm
  have HL : Hid (S.length ≤ 140737488355328) := hl
  clear hR hl
  go_enter Tryd.func105, Tryd.ntmps105
  go_wp2_with fail
  go_loopg [0] S.length (fun g v wr => ∃ (T : Tx), v = .string (tx T) ∧ g = T.length ∧ Hid (strip T = R) ∧ Hid (T.length ≤ 140737488355328) ∧ wr = w)
  case atStart => exact ⟨S, rfl, rfl, HR, HL, rfl⟩
  case round =>
    obtain ⟨T, rfl, rfl, HT, HTL, rfl⟩ := hrel
    cases T with
    | nil =>
      have hs : (tx []).size = 0 := rfl
      have HF : Hid (tx [] = tx R) := by show _ = _; rw [← HT.out]; rfl
      generalize tx [] = S0 at *
      go_wp2_with fail
      go_ret
      refine ⟨?_, rfl⟩
      rw [← HF.out]
      rfl
    | cons b T =>
      have hs : (tx (b :: T)).size = T.length + 1 := by rw [tx_size]; rfl
      have hx : ∀ h : 0 < (tx (b :: T)).size, (tx (b :: T))[0]'h = b := fun h => rfl
      have ht : (b :: T : Tx).length - 1 = T.length := by simp
      have ex : (tx (b :: T)).extract 1 (T.length + 1) = tx T := by rw [tx_extract]; simp
      have HTL2 : Hid (T.length ≤ 140737488355328) := by have := HTL.out; simp at this; show _ ≤ _; omega
      have hlm := HTL2.out
      have HLT : Hid (T.length < (b :: T : Tx).length) := by show _ < _; simp
      obtain ⟨m, hm⟩ : ∃ m, m = T.length := ⟨_, rfl⟩
      obtain ⟨S1, hS1⟩ : ∃ S1, S1 = tx T := ⟨_, rfl⟩
      rw [← hm] at hs ex hlm
      rw [← hS1] at ex
      have HM : Hid (m = T.length) := hm
      have HS1 : Hid (S1 = tx T) := hS1
      clear hm ht hS1
      have i0 : (0 : Int) < ((m + 1 : Nat) : Int) := by omega
      have i1 : (1 : Int) ≤ ((m + 1 : Nat) : Int) := by omega
      by_cases hb : b = 48
      · have HT2 : Hid (strip T = R) := by show _ = _; rw [← HT.out, hb]; rfl
        have e48 : (((b.toNat : Nat) : Int) == 48) = true := by rw [hb]; rfl
        clear hb
        generalize tx (b :: T) = S0 at *
        go_wp2_with fail
        go_roundg m
        case measure => have := HLT.out; rw [HM.out]; exact this
        case rel => exact ⟨T, by rw [← HS1.out], HM.out, HT2, HTL2, rfl⟩
      · have HF : Hid (tx (b :: T) = tx R) := by
          show _ = _
          rw [← HT.out]
          have : strip (b :: T) = b :: T := by simp [strip, hb]
          rw [this]
        have e48 : (((b.toNat : Nat) : Int) == 48) = false := by
          rw [beq_eq_false_iff_ne]
          intro e
          refine hb (UInt8.toNat_inj.1 ?_)
          show b.toNat = 48
          omega
        clear hb
        generalize tx (b :: T) = S0 at *
        go_wp2_with fail
        go_ret
        refine ⟨?_, rfl⟩
        rw [← HF.out]
        rfl
set_option maxRecDepth 100000 in
set_option maxHeartbeats 2000000 in
theorem trim_is (S : Tx) (hl : S.length ≤ 140737488355328) (w : World) : Calls Tryd.prog 98 #[.string (tx S), .string ⟨#[48]⟩] w fun e w' => e = .returned (.string (tx (strip S))) ∧ w' = w := by
  have K : Hid (∀ w, Calls Tryd.prog 105 #[.string (tx S), .int .u8 48] w fun e w' => e = .returned (.string (tx (strip S))) ∧ w' = w) := trimByte_is S hl
  have t1 := tx_toList S
  by_cases h0 : S = []
  · have e1 : (S == []) = true := by simp [h0]
    have HF : Hid (tx S = tx (strip S)) := by show _ = _; rw [h0]; rfl
    generalize tx (strip S) = R at *
    clear h0
    go_enter Tryd.func98, Tryd.ntmps98
    go_wp2_with fail
    go_ret
    refine ⟨?_, rfl⟩
    rw [← HF.out]
    rfl
  · have e1 : (S == []) = false := by simp [h0]
    clear h0
    go_enter Tryd.func98, Tryd.ntmps98
    go_wp2_with fail
    refine (K.out _).mono ?_
    rintro e w' ⟨rfl, hw⟩
    obtain rfl := hw.symm
    clear hw
    go_wp2_with fail
    go_ret
    exact ⟨rfl, rfl⟩
theorem ordNumbers_is (A B : Tx) (ha : A.length ≤ 140737488355328) (hb : B.length ≤ 140737488355328) (w : World) : Calls Tryd.prog 85 #[.string (tx A), .string (tx B)] w fun e w' => e = .returned (.int .i64 (cN A B)) ∧ w' = w := by
  have K1 : Hid (∀ w, Calls Tryd.prog 98 #[.string (tx A), .string ⟨#[48]⟩] w fun e w' => e = .returned (.string (tx (strip A))) ∧ w' = w) := trim_is A ha
  have K2 : Hid (∀ w, Calls Tryd.prog 98 #[.string (tx B), .string ⟨#[48]⟩] w fun e w' => e = .returned (.string (tx (strip B))) ∧ w' = w) := trim_is B hb
  have K3 : Hid (∀ w, Calls Tryd.prog 86 #[.string (tx (strip A)), .string (tx (strip B))] w fun e w' => e = .returned (.int .i64 (cB (strip A) (strip B))) ∧ w' = w) := compare_is _ _
  have K4 : Hid (∀ w, Calls Tryd.prog 66 #[.int .i64 ((strip A).length : Nat), .int .i64 ((strip B).length : Nat)] w fun e w' => e = .returned (.int .i64 (cI ((strip A).length : Nat) ((strip B).length : Nat))) ∧ w' = w) := cmpInt_is _ _
  have s1 := tx_size (strip A)
  have s2 := tx_size (strip B)
  have l1 := strip_len A
  have l2 := strip_len B
  have HC : Hid (cN A B = if (strip A).length ≠ (strip B).length then cI ((strip A).length : Nat) ((strip B).length : Nat) else cB (strip A) (strip B)) := rfl
  generalize cN A B = r at *
  generalize hr1 : cI ((strip A).length : Nat) ((strip B).length : Nat) = r1 at *
  generalize hr2 : cB (strip A) (strip B) = r2 at *
  generalize tx (strip A) = SA at *
  generalize tx (strip B) = SB at *
  generalize (strip A).length = m at *
  generalize (strip B).length = n at *
  clear hr1 hr2
  by_cases hmn : m = n
  · have i1 : (m : Int) = (n : Int) := by omega
    have HR : Hid (r = r2) := by show _ = _; rw [HC.out, if_neg (fun h => h hmn)]
    subst hmn
    rw [HR.out]
    clear HC HR i1
    go_enter Tryd.func85, Tryd.ntmps85
    go_wp2_with fail
    refine (K1.out _).mono ?_
    rintro e w' ⟨rfl, hw⟩
    obtain rfl := hw.symm
    clear hw
    go_wp2_with fail
    refine (K2.out _).mono ?_
    rintro e w' ⟨rfl, hw⟩
    obtain rfl := hw.symm
    clear hw
    go_wp2_with fail
    refine (K3.out _).mono ?_
    rintro e w' ⟨rfl, hw⟩
    obtain rfl := hw.symm
    clear hw
    go_wp2_with fail
    go_ret
    exact ⟨rfl, rfl⟩
  · have i1 : ¬ (m : Int) = (n : Int) := by omega
    have HR : Hid (r = r1) := by show _ = _; rw [HC.out, if_pos hmn]
    rw [HR.out]
    clear HC HR hmn
    go_enter Tryd.func85, Tryd.ntmps85
    go_wp2_with fail
    refine (K1.out _).mono ?_
    rintro e w' ⟨rfl, hw⟩
    obtain rfl := hw.symm
    clear hw
    go_wp2_with fail
    refine (K2.out _).mono ?_
    rintro e w' ⟨rfl, hw⟩
    obtain rfl := hw.symm
    clear hw
    go_wp2_with fail
    refine (K4.out _).mono ?_
    rintro e w' ⟨rfl, hw⟩
    obtain rfl := hw.symm
    clear hw
    go_wp2_with fail
    go_ret
    exact ⟨rfl, rfl⟩
theorem ordPieces_is (A B : Tx) (ha : A.length ≤ 140737488355328) (hb : B.length ≤ 140737488355328) (w : World) : Calls Tryd.prog 65 #[.string (tx A), .string (tx B)] w fun e w' => e = .returned (.int .i64 (cP A B)) ∧ w' = w := by
  have K1 : Hid (∀ w, Calls Tryd.prog 84 #[.string (tx A)] w fun e w' => e = .returned (.bool (isN A)) ∧ w' = w) := isNumber_is A ha
  have K2 : Hid (∀ w, Calls Tryd.prog 84 #[.string (tx B)] w fun e w' => e = .returned (.bool (isN B)) ∧ w' = w) := isNumber_is B hb
  have K3 : Hid (∀ w, Calls Tryd.prog 86 #[.string (tx A), .string (tx B)] w fun e w' => e = .returned (.int .i64 (cB A B)) ∧ w' = w) := compare_is _ _
  have K4 : Hid (∀ w, Calls Tryd.prog 85 #[.string (tx A), .string (tx B)] w fun e w' => e = .returned (.int .i64 (cN A B)) ∧ w' = w) := ordNumbers_is A B ha hb
  have HC : Hid (cP A B = if isN A = true ∧ isN B = false then -1 else if isN B = true ∧ isN A = false then 1 else if isN A = true ∧ cN A B ≠ 0 then cN A B else cB A B) := rfl
  generalize cP A B = r at *
  generalize cN A B = r1 at *
  generalize cB A B = r2 at *
  generalize tx A = SA at *
  generalize tx B = SB at *
  generalize isN A = p at *
  generalize isN B = q at *
  clear ha hb
  go_enter Tryd.func65, Tryd.ntmps65
  go_wp2_with fail
  refine (K1.out _).mono ?_
  rintro e w' ⟨rfl, hw⟩
  obtain rfl := hw.symm
  clear hw
  go_wp2_with fail
  refine (K2.out _).mono ?_
  rintro e w' ⟨rfl, hw⟩
  obtain rfl := hw.symm
  clear hw
  cases p with
  | true =>
    cases q with
    | false =>
      have HR : Hid (r = -1) := by show _ = _; rw [HC.out, if_pos ⟨rfl, rfl⟩]
      go_wp2_with fail
      go_ret
      refine ⟨?_, rfl⟩
      rw [HR.out]
      rfl
    | true =>
      by_cases h0 : r1 = 0
      · have HR : Hid (r = r2) := by show _ = _; rw [HC.out]; simp [h0]
        rw [h0] at K4
        clear h0
        go_wp2_with fail
        refine (K4.out _).mono ?_
        rintro e w' ⟨rfl, hw⟩
        obtain rfl := hw.symm
        clear hw
        go_wp2_with fail
        refine (K3.out _).mono ?_
        rintro e w' ⟨rfl, hw⟩
        obtain rfl := hw.symm
        clear hw
        go_wp2_with fail
        go_ret
        refine ⟨?_, rfl⟩
        rw [HR.out]
        rfl
      · have HR : Hid (r = r1) := by show _ = _; rw [HC.out]; simp [h0]
        go_wp2_with fail
        refine (K4.out _).mono ?_
        rintro e w' ⟨rfl, hw⟩
        obtain rfl := hw.symm
        clear hw
        go_wp2_with fail
        go_ret
        refine ⟨?_, rfl⟩
        rw [HR.out]
        rfl
  | false =>
    cases q with
    | true =>
      have HR : Hid (r = 1) := by show _ = _; rw [HC.out]; simp
      go_wp2_with fail
      go_ret
      refine ⟨?_, rfl⟩
      rw [HR.out]
      rfl
    | false =>
      have HR : Hid (r = r2) := by show _ = _; rw [HC.out]; simp
      go_wp2_with fail
      refine (K3.out _).mono ?_
      rintro e w' ⟨rfl, hw⟩
      obtain rfl := hw.symm
      clear hw
      go_wp2_with fail
      go_ret
      refine ⟨?_, rfl⟩
      rw [HR.out]
      rfl
end Go.Proofs.YtlddoobomjcldaaDoor
