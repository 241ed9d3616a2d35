/- wire.Check of any message (gen_wsc.py). -/
import Derived.Test.YthaeidbnbgghkaaMgCz4
namespace Go.Proofs.Ythaeidbnbgghkaa
open Go.ChangeShapes Go.WideShapes Go.ChangeAt Go.RowKit Go.Deep Go.Maps
set_option linter.unusedVariables false
set_option linter.unusedSimpArgs false
def isRt (x : Int) : Bool := decide (1 ≤ x) && decide (x ≤ 6)
/-- what Check tells of a message with these packages -/
def wchk (k f t x : Int) (y : Bool) (L : List Pk) : Int :=
  if k < 1 ∨ 6 < k then 13
  else if (if k = 1 ∨ k = 3 ∨ k = 4 then (f = 0 ∧ isRt t = true) else (t = 0 ∧ isRt f = true)) ∧ 1 ≤ x ∧ x ≤ 1099511627776 then
    (if (y = true ∧ k ≠ 2) ∨ (L ≠ [] ∧ k ≠ 1) then 5 else pchk L)
  else 2
set_option maxRecDepth 100000 in
set_option maxHeartbeats 4000000 in
theorem isRoot_is (w : World) (x : Int) : Calls Try.prog 48 #[.int .i64 x] w fun e w' => e = .returned (.bool (isRt x)) ∧ w' = w := by
  unfold isRt
  by_cases h1 : 1 ≤ x
  · have d1 : decide ((1 : Int) ≤ x) = true := by rw [decide_eq_true_eq]; omega
    rw [d1, Bool.true_and]
    generalize hd : decide (x ≤ (6 : Int)) = d
    go_enter Try.func48, Try.ntmps48
    go_wp2_with fail
    go_ret
    exact ⟨rfl, rfl⟩
  · have d1 : decide ((1 : Int) ≤ x) = false := by rw [decide_eq_false_iff_not]; omega
    rw [d1, Bool.false_and]
    go_enter Try.func48, Try.ntmps48
    go_wp2_with fail
    go_ret
    exact ⟨rfl, rfl⟩

set_option maxRecDepth 100000 in
set_option maxHeartbeats 8000000 in
theorem check_1 (w : World) (f t x : Int) (y : Bool) (a : Option Addr) (n c : Nat) (L : List Pk) (hn : L.length = n) (hL : InPk w a L) (hc : n ≤ c) (hc9 : c ≤ 9223372036854775807) (hN : n ≤ 1000000) :
    Calls Try.prog 34 #[.agg #[.int .i64 1, .int .i64 f, .int .i64 t, .int .i64 x, .bool y, .slice a n c]] w fun e w' => e = .returned (.int .i64 (wchk 1 f t x y L)) ∧ Below w.heap.size w w' := by
  have KD : Hid (∀ W, Below w.heap.size w W → Calls Try.prog 27 #[.slice a n c] W fun e w' => e = .returned (.int .i64 (pchk L)) ∧ Below W.heap.size W w') := fun W hW => dbcheck_is W a n c L (hL.keep hW) hn hc hc9 hN
  have B0 : Hid (∀ o, Below w.heap.size w (w.alloc o)) := fun o => below1 _ _
  obtain ⟨R, hR⟩ : ∃ R, wchk 1 f t x y L = R := ⟨_, rfl⟩
  have HR : Hid (wchk 1 f t x y L = R) := hR
  have HN : Hid (L.length = n) := hn
  rw [hR]
  clear hL hR hn
  obtain ⟨r, hr⟩ : ∃ r, isRt t = r := ⟨_, rfl⟩
  have HRT : Hid (isRt t = r) := hr
  have KR : Hid (∀ (W : World), Calls Try.prog 48 #[.int .i64 t] W fun e w' => e = .returned (.bool r) ∧ w' = W) := fun W => by
    have := isRoot_is W t
    rwa [hr] at this
  clear hr
  go_enter Try.func34, Try.ntmps34
  by_cases h0 : f = 0
  · subst h0
    go_wp2_with fail
    refine (KR.out _).mono ?_
    rintro e w1 ⟨rfl, hw⟩
    obtain rfl := hw.symm
    clear hw KR
    cases r with
    | false =>
      have HF : Hid ((2 : Int) = R) := by
        have := HR.out
        unfold wchk at this
        rw [HRT.out] at this
        show (2 : Int) = R
        simpa using this
      go_wp2_with fail
      go_ret
      exact ⟨congrArg (fun z => Ending.returned (.int .i64 z)) HF.out, B0.out _⟩
    | true =>
      by_cases hx1 : x < 1
      · have d1 : decide (x < (1 : Int)) = true := by rw [decide_eq_true_eq]; omega
        have HF : Hid ((2 : Int) = R) := by
          have := HR.out
          unfold wchk at this
          rwa [if_neg (by omega), if_neg (by omega)] at this
        go_wp2_with fail
        go_ret
        exact ⟨congrArg (fun z => Ending.returned (.int .i64 z)) HF.out, B0.out _⟩
      · have d1 : decide (x < (1 : Int)) = false := by rw [decide_eq_false_iff_not]; omega
        by_cases hx2 : 1099511627776 < x
        · have d2 : decide ((1099511627776 : Int) < x) = true := by rw [decide_eq_true_eq]; omega
          have HF : Hid ((2 : Int) = R) := by
            have := HR.out
            unfold wchk at this
            rwa [if_neg (by omega), if_neg (by omega)] at this
          go_wp2_with fail
          go_ret
          exact ⟨congrArg (fun z => Ending.returned (.int .i64 z)) HF.out, B0.out _⟩
        · have d2 : decide ((1099511627776 : Int) < x) = false := by rw [decide_eq_false_iff_not]; omega
          have HR2 : Hid ((if (y = true ∧ (1 : Int) ≠ 2) ∨ (L ≠ [] ∧ (1 : Int) ≠ 1) then 5 else pchk L) = R) := by
            have := HR.out
            unfold wchk at this
            rwa [if_neg (by omega), if_pos ⟨by simp [HRT.out], by omega, by omega⟩] at this
          clear HR
          cases y with
          | true =>
            have HF : Hid ((5 : Int) = R) := by have := HR2.out; rwa [if_pos (.inl ⟨rfl, by decide⟩)] at this
            try clear hL0
            try clear hn0
            clear HR2
            go_wp2_with fail
            go_ret
            exact ⟨congrArg (fun z => Ending.returned (.int .i64 z)) HF.out, B0.out _⟩
          | false =>
            by_cases hn0 : n = 0
            · have d3 : decide ((0 : Int) < (n : Int)) = false := by rw [decide_eq_false_iff_not]; omega
              have d4 : decide (0 < n) = false := by rw [decide_eq_false_iff_not]; omega
              have HF : Hid (pchk L = R) := by have := HR2.out; rwa [if_neg (fun hq => hq.elim (fun h => by cases h.1) (fun h => h.2 rfl))] at this
              try clear hL0
              try clear hn0
              clear HR2
              go_wp2_with fail
              refine (KD.out _ (B0.out _)).mono ?_
              rintro e w2 ⟨rfl, hb2⟩
              have B2 : Hid (Below w.heap.size w w2) := (B0.out _).trans (hb2.mono (B0.out _).size)
              clear hb2
              go_wp2_with fail
              go_ret
              exact ⟨congrArg (fun z => Ending.returned (.int .i64 z)) HF.out, B2.out⟩
            · have d3 : decide ((0 : Int) < (n : Int)) = true := by rw [decide_eq_true_eq]; omega
              have d4 : decide (0 < n) = true := by rw [decide_eq_true_eq]; omega
              have HF : Hid (pchk L = R) := by have := HR2.out; rwa [if_neg (fun hq => hq.elim (fun h => by cases h.1) (fun h => h.2 rfl))] at this
              try clear hL0
              try clear hn0
              clear HR2
              go_wp2_with fail
              refine (KD.out _ (B0.out _)).mono ?_
              rintro e w2 ⟨rfl, hb2⟩
              have B2 : Hid (Below w.heap.size w w2) := (B0.out _).trans (hb2.mono (B0.out _).size)
              clear hb2
              go_wp2_with fail
              go_ret
              exact ⟨congrArg (fun z => Ending.returned (.int .i64 z)) HF.out, B2.out⟩
  · have d0 : decide (f = (0 : Int)) = false := by rw [decide_eq_false_iff_not]; exact h0
    have HF : Hid ((2 : Int) = R) := by
      have := HR.out
      unfold wchk at this
      rwa [if_neg (by omega), if_neg (by simp [h0])] at this

    go_wp2_with fail
    go_ret
    exact ⟨congrArg (fun z => Ending.returned (.int .i64 z)) HF.out, B0.out _⟩
set_option maxRecDepth 100000 in
set_option maxHeartbeats 8000000 in
theorem check_2 (w : World) (f t x : Int) (y : Bool) (a : Option Addr) (n c : Nat) (L : List Pk) (hn : L.length = n) (hL : InPk w a L) (hc : n ≤ c) (hc9 : c ≤ 9223372036854775807) (hN : n ≤ 1000000) :
    Calls Try.prog 34 #[.agg #[.int .i64 2, .int .i64 f, .int .i64 t, .int .i64 x, .bool y, .slice a n c]] w fun e w' => e = .returned (.int .i64 (wchk 2 f t x y L)) ∧ Below w.heap.size w w' := by
  have KD : Hid (∀ W, Below w.heap.size w W → Calls Try.prog 27 #[.slice a n c] W fun e w' => e = .returned (.int .i64 (pchk L)) ∧ Below W.heap.size W w') := fun W hW => dbcheck_is W a n c L (hL.keep hW) hn hc hc9 hN
  have B0 : Hid (∀ o, Below w.heap.size w (w.alloc o)) := fun o => below1 _ _
  obtain ⟨R, hR⟩ : ∃ R, wchk 2 f t x y L = R := ⟨_, rfl⟩
  have HR : Hid (wchk 2 f t x y L = R) := hR
  have HN : Hid (L.length = n) := hn
  rw [hR]
  clear hL hR hn
  obtain ⟨r, hr⟩ : ∃ r, isRt f = r := ⟨_, rfl⟩
  have HRT : Hid (isRt f = r) := hr
  have KR : Hid (∀ (W : World), Calls Try.prog 48 #[.int .i64 f] W fun e w' => e = .returned (.bool r) ∧ w' = W) := fun W => by
    have := isRoot_is W f
    rwa [hr] at this
  clear hr
  go_enter Try.func34, Try.ntmps34
  by_cases h0 : t = 0
  · subst h0
    go_wp2_with fail
    refine (KR.out _).mono ?_
    rintro e w1 ⟨rfl, hw⟩
    obtain rfl := hw.symm
    clear hw KR
    cases r with
    | false =>
      have HF : Hid ((2 : Int) = R) := by
        have := HR.out
        unfold wchk at this
        rw [HRT.out] at this
        show (2 : Int) = R
        simpa using this
      go_wp2_with fail
      go_ret
      exact ⟨congrArg (fun z => Ending.returned (.int .i64 z)) HF.out, B0.out _⟩
    | true =>
      by_cases hx1 : x < 1
      · have d1 : decide (x < (1 : Int)) = true := by rw [decide_eq_true_eq]; omega
        have HF : Hid ((2 : Int) = R) := by
          have := HR.out
          unfold wchk at this
          rwa [if_neg (by omega), if_neg (by omega)] at this
        go_wp2_with fail
        go_ret
        exact ⟨congrArg (fun z => Ending.returned (.int .i64 z)) HF.out, B0.out _⟩
      · have d1 : decide (x < (1 : Int)) = false := by rw [decide_eq_false_iff_not]; omega
        by_cases hx2 : 1099511627776 < x
        · have d2 : decide ((1099511627776 : Int) < x) = true := by rw [decide_eq_true_eq]; omega
          have HF : Hid ((2 : Int) = R) := by
            have := HR.out
            unfold wchk at this
            rwa [if_neg (by omega), if_neg (by omega)] at this
          go_wp2_with fail
          go_ret
          exact ⟨congrArg (fun z => Ending.returned (.int .i64 z)) HF.out, B0.out _⟩
        · have d2 : decide ((1099511627776 : Int) < x) = false := by rw [decide_eq_false_iff_not]; omega
          have HR2 : Hid ((if (y = true ∧ (2 : Int) ≠ 2) ∨ (L ≠ [] ∧ (2 : Int) ≠ 1) then 5 else pchk L) = R) := by
            have := HR.out
            unfold wchk at this
            rwa [if_neg (by omega), if_pos ⟨by simp [HRT.out], by omega, by omega⟩] at this
          clear HR
          cases y with
          | true =>
            by_cases hn0 : n = 0
            · have hL0 : L = [] := List.length_eq_zero_iff.1 (HN.out.trans hn0)
              have d3 : decide ((0 : Int) < (n : Int)) = false := by rw [decide_eq_false_iff_not]; omega
              have d4 : decide (0 < n) = false := by rw [decide_eq_false_iff_not]; omega
              have HF : Hid (pchk L = R) := by have := HR2.out; rwa [if_neg (fun hq => hq.elim (fun h => h.2 rfl) (fun h => h.1 hL0))] at this
              try clear hL0
              try clear hn0
              clear HR2
              go_wp2_with fail
              refine (KD.out _ (B0.out _)).mono ?_
              rintro e w2 ⟨rfl, hb2⟩
              have B2 : Hid (Below w.heap.size w w2) := (B0.out _).trans (hb2.mono (B0.out _).size)
              clear hb2
              go_wp2_with fail
              go_ret
              exact ⟨congrArg (fun z => Ending.returned (.int .i64 z)) HF.out, B2.out⟩
            · have hL0 : L ≠ [] := fun e => hn0 (by rw [← HN.out, e]; rfl)
              have d3 : decide ((0 : Int) < (n : Int)) = true := by rw [decide_eq_true_eq]; omega
              have d4 : decide (0 < n) = true := by rw [decide_eq_true_eq]; omega
              have HF : Hid ((5 : Int) = R) := by have := HR2.out; rwa [if_pos (.inr ⟨hL0, by decide⟩)] at this
              try clear hL0
              try clear hn0
              clear HR2
              go_wp2_with fail
              go_ret
              exact ⟨congrArg (fun z => Ending.returned (.int .i64 z)) HF.out, B0.out _⟩
          | false =>
            by_cases hn0 : n = 0
            · have hL0 : L = [] := List.length_eq_zero_iff.1 (HN.out.trans hn0)
              have d3 : decide ((0 : Int) < (n : Int)) = false := by rw [decide_eq_false_iff_not]; omega
              have d4 : decide (0 < n) = false := by rw [decide_eq_false_iff_not]; omega
              have HF : Hid (pchk L = R) := by have := HR2.out; rwa [if_neg (fun hq => hq.elim (fun h => by cases h.1) (fun h => h.1 hL0))] at this
              try clear hL0
              try clear hn0
              clear HR2
              go_wp2_with fail
              refine (KD.out _ (B0.out _)).mono ?_
              rintro e w2 ⟨rfl, hb2⟩
              have B2 : Hid (Below w.heap.size w w2) := (B0.out _).trans (hb2.mono (B0.out _).size)
              clear hb2
              go_wp2_with fail
              go_ret
              exact ⟨congrArg (fun z => Ending.returned (.int .i64 z)) HF.out, B2.out⟩
            · have hL0 : L ≠ [] := fun e => hn0 (by rw [← HN.out, e]; rfl)
              have d3 : decide ((0 : Int) < (n : Int)) = true := by rw [decide_eq_true_eq]; omega
              have d4 : decide (0 < n) = true := by rw [decide_eq_true_eq]; omega
              have HF : Hid ((5 : Int) = R) := by have := HR2.out; rwa [if_pos (.inr ⟨hL0, by decide⟩)] at this
              try clear hL0
              try clear hn0
              clear HR2
              go_wp2_with fail
              go_ret
              exact ⟨congrArg (fun z => Ending.returned (.int .i64 z)) HF.out, B0.out _⟩
  · have d0 : decide (t = (0 : Int)) = false := by rw [decide_eq_false_iff_not]; exact h0
    have HF : Hid ((2 : Int) = R) := by
      have := HR.out
      unfold wchk at this
      rwa [if_neg (by omega), if_neg (by simp [h0])] at this

    go_wp2_with fail
    refine (KR.out _).mono ?_
    rintro e w1 ⟨rfl, hw⟩
    obtain rfl := hw.symm
    clear hw KR
    cases r with
    | true =>
      go_wp2_with fail
      go_ret
      exact ⟨congrArg (fun z => Ending.returned (.int .i64 z)) HF.out, B0.out _⟩
    | false =>
      go_wp2_with fail
      go_ret
      exact ⟨congrArg (fun z => Ending.returned (.int .i64 z)) HF.out, B0.out _⟩
set_option maxRecDepth 100000 in
set_option maxHeartbeats 8000000 in
theorem check_3 (w : World) (f t x : Int) (y : Bool) (a : Option Addr) (n c : Nat) (L : List Pk) (hn : L.length = n) (hL : InPk w a L) (hc : n ≤ c) (hc9 : c ≤ 9223372036854775807) (hN : n ≤ 1000000) :
    Calls Try.prog 34 #[.agg #[.int .i64 3, .int .i64 f, .int .i64 t, .int .i64 x, .bool y, .slice a n c]] w fun e w' => e = .returned (.int .i64 (wchk 3 f t x y L)) ∧ Below w.heap.size w w' := by
  have KD : Hid (∀ W, Below w.heap.size w W → Calls Try.prog 27 #[.slice a n c] W fun e w' => e = .returned (.int .i64 (pchk L)) ∧ Below W.heap.size W w') := fun W hW => dbcheck_is W a n c L (hL.keep hW) hn hc hc9 hN
  have B0 : Hid (∀ o, Below w.heap.size w (w.alloc o)) := fun o => below1 _ _
  obtain ⟨R, hR⟩ : ∃ R, wchk 3 f t x y L = R := ⟨_, rfl⟩
  have HR : Hid (wchk 3 f t x y L = R) := hR
  have HN : Hid (L.length = n) := hn
  rw [hR]
  clear hL hR hn
  obtain ⟨r, hr⟩ : ∃ r, isRt t = r := ⟨_, rfl⟩
  have HRT : Hid (isRt t = r) := hr
  have KR : Hid (∀ (W : World), Calls Try.prog 48 #[.int .i64 t] W fun e w' => e = .returned (.bool r) ∧ w' = W) := fun W => by
    have := isRoot_is W t
    rwa [hr] at this
  clear hr
  go_enter Try.func34, Try.ntmps34
  by_cases h0 : f = 0
  · subst h0
    go_wp2_with fail
    refine (KR.out _).mono ?_
    rintro e w1 ⟨rfl, hw⟩
    obtain rfl := hw.symm
    clear hw KR
    cases r with
    | false =>
      have HF : Hid ((2 : Int) = R) := by
        have := HR.out
        unfold wchk at this
        rw [HRT.out] at this
        show (2 : Int) = R
        simpa using this
      go_wp2_with fail
      go_ret
      exact ⟨congrArg (fun z => Ending.returned (.int .i64 z)) HF.out, B0.out _⟩
    | true =>
      by_cases hx1 : x < 1
      · have d1 : decide (x < (1 : Int)) = true := by rw [decide_eq_true_eq]; omega
        have HF : Hid ((2 : Int) = R) := by
          have := HR.out
          unfold wchk at this
          rwa [if_neg (by omega), if_neg (by omega)] at this
        go_wp2_with fail
        go_ret
        exact ⟨congrArg (fun z => Ending.returned (.int .i64 z)) HF.out, B0.out _⟩
      · have d1 : decide (x < (1 : Int)) = false := by rw [decide_eq_false_iff_not]; omega
        by_cases hx2 : 1099511627776 < x
        · have d2 : decide ((1099511627776 : Int) < x) = true := by rw [decide_eq_true_eq]; omega
          have HF : Hid ((2 : Int) = R) := by
            have := HR.out
            unfold wchk at this
            rwa [if_neg (by omega), if_neg (by omega)] at this
          go_wp2_with fail
          go_ret
          exact ⟨congrArg (fun z => Ending.returned (.int .i64 z)) HF.out, B0.out _⟩
        · have d2 : decide ((1099511627776 : Int) < x) = false := by rw [decide_eq_false_iff_not]; omega
          have HR2 : Hid ((if (y = true ∧ (3 : Int) ≠ 2) ∨ (L ≠ [] ∧ (3 : Int) ≠ 1) then 5 else pchk L) = R) := by
            have := HR.out
            unfold wchk at this
            rwa [if_neg (by omega), if_pos ⟨by simp [HRT.out], by omega, by omega⟩] at this
          clear HR
          cases y with
          | true =>
            have HF : Hid ((5 : Int) = R) := by have := HR2.out; rwa [if_pos (.inl ⟨rfl, by decide⟩)] at this
            try clear hL0
            try clear hn0
            clear HR2
            go_wp2_with fail
            go_ret
            exact ⟨congrArg (fun z => Ending.returned (.int .i64 z)) HF.out, B0.out _⟩
          | false =>
            by_cases hn0 : n = 0
            · have hL0 : L = [] := List.length_eq_zero_iff.1 (HN.out.trans hn0)
              have d3 : decide ((0 : Int) < (n : Int)) = false := by rw [decide_eq_false_iff_not]; omega
              have d4 : decide (0 < n) = false := by rw [decide_eq_false_iff_not]; omega
              have HF : Hid (pchk L = R) := by have := HR2.out; rwa [if_neg (fun hq => hq.elim (fun h => by cases h.1) (fun h => h.1 hL0))] at this
              try clear hL0
              try clear hn0
              clear HR2
              go_wp2_with fail
              refine (KD.out _ (B0.out _)).mono ?_
              rintro e w2 ⟨rfl, hb2⟩
              have B2 : Hid (Below w.heap.size w w2) := (B0.out _).trans (hb2.mono (B0.out _).size)
              clear hb2
              go_wp2_with fail
              go_ret
              exact ⟨congrArg (fun z => Ending.returned (.int .i64 z)) HF.out, B2.out⟩
            · have hL0 : L ≠ [] := fun e => hn0 (by rw [← HN.out, e]; rfl)
              have d3 : decide ((0 : Int) < (n : Int)) = true := by rw [decide_eq_true_eq]; omega
              have d4 : decide (0 < n) = true := by rw [decide_eq_true_eq]; omega
              have HF : Hid ((5 : Int) = R) := by have := HR2.out; rwa [if_pos (.inr ⟨hL0, by decide⟩)] at this
              try clear hL0
              try clear hn0
              clear HR2
              go_wp2_with fail
              go_ret
              exact ⟨congrArg (fun z => Ending.returned (.int .i64 z)) HF.out, B0.out _⟩
  · have d0 : decide (f = (0 : Int)) = false := by rw [decide_eq_false_iff_not]; exact h0
    have HF : Hid ((2 : Int) = R) := by
      have := HR.out
      unfold wchk at this
      rwa [if_neg (by omega), if_neg (by simp [h0])] at this

    go_wp2_with fail
    go_ret
    exact ⟨congrArg (fun z => Ending.returned (.int .i64 z)) HF.out, B0.out _⟩
set_option maxRecDepth 100000 in
set_option maxHeartbeats 8000000 in
theorem check_4 (w : World) (f t x : Int) (y : Bool) (a : Option Addr) (n c : Nat) (L : List Pk) (hn : L.length = n) (hL : InPk w a L) (hc : n ≤ c) (hc9 : c ≤ 9223372036854775807) (hN : n ≤ 1000000) :
    Calls Try.prog 34 #[.agg #[.int .i64 4, .int .i64 f, .int .i64 t, .int .i64 x, .bool y, .slice a n c]] w fun e w' => e = .returned (.int .i64 (wchk 4 f t x y L)) ∧ Below w.heap.size w w' := by
  have KD : Hid (∀ W, Below w.heap.size w W → Calls Try.prog 27 #[.slice a n c] W fun e w' => e = .returned (.int .i64 (pchk L)) ∧ Below W.heap.size W w') := fun W hW => dbcheck_is W a n c L (hL.keep hW) hn hc hc9 hN
  have B0 : Hid (∀ o, Below w.heap.size w (w.alloc o)) := fun o => below1 _ _
  obtain ⟨R, hR⟩ : ∃ R, wchk 4 f t x y L = R := ⟨_, rfl⟩
  have HR : Hid (wchk 4 f t x y L = R) := hR
  have HN : Hid (L.length = n) := hn
  rw [hR]
  clear hL hR hn
  obtain ⟨r, hr⟩ : ∃ r, isRt t = r := ⟨_, rfl⟩
  have HRT : Hid (isRt t = r) := hr
  have KR : Hid (∀ (W : World), Calls Try.prog 48 #[.int .i64 t] W fun e w' => e = .returned (.bool r) ∧ w' = W) := fun W => by
    have := isRoot_is W t
    rwa [hr] at this
  clear hr
  go_enter Try.func34, Try.ntmps34
  by_cases h0 : f = 0
  · subst h0
    go_wp2_with fail
    refine (KR.out _).mono ?_
    rintro e w1 ⟨rfl, hw⟩
    obtain rfl := hw.symm
    clear hw KR
    cases r with
    | false =>
      have HF : Hid ((2 : Int) = R) := by
        have := HR.out
        unfold wchk at this
        rw [HRT.out] at this
        show (2 : Int) = R
        simpa using this
      go_wp2_with fail
      go_ret
      exact ⟨congrArg (fun z => Ending.returned (.int .i64 z)) HF.out, B0.out _⟩
    | true =>
      by_cases hx1 : x < 1
      · have d1 : decide (x < (1 : Int)) = true := by rw [decide_eq_true_eq]; omega
        have HF : Hid ((2 : Int) = R) := by
          have := HR.out
          unfold wchk at this
          rwa [if_neg (by omega), if_neg (by omega)] at this
        go_wp2_with fail
        go_ret
        exact ⟨congrArg (fun z => Ending.returned (.int .i64 z)) HF.out, B0.out _⟩
      · have d1 : decide (x < (1 : Int)) = false := by rw [decide_eq_false_iff_not]; omega
        by_cases hx2 : 1099511627776 < x
        · have d2 : decide ((1099511627776 : Int) < x) = true := by rw [decide_eq_true_eq]; omega
          have HF : Hid ((2 : Int) = R) := by
            have := HR.out
            unfold wchk at this
            rwa [if_neg (by omega), if_neg (by omega)] at this
          go_wp2_with fail
          go_ret
          exact ⟨congrArg (fun z => Ending.returned (.int .i64 z)) HF.out, B0.out _⟩
        · have d2 : decide ((1099511627776 : Int) < x) = false := by rw [decide_eq_false_iff_not]; omega
          have HR2 : Hid ((if (y = true ∧ (4 : Int) ≠ 2) ∨ (L ≠ [] ∧ (4 : Int) ≠ 1) then 5 else pchk L) = R) := by
            have := HR.out
            unfold wchk at this
            rwa [if_neg (by omega), if_pos ⟨by simp [HRT.out], by omega, by omega⟩] at this
          clear HR
          cases y with
          | true =>
            have HF : Hid ((5 : Int) = R) := by have := HR2.out; rwa [if_pos (.inl ⟨rfl, by decide⟩)] at this
            try clear hL0
            try clear hn0
            clear HR2
            go_wp2_with fail
            go_ret
            exact ⟨congrArg (fun z => Ending.returned (.int .i64 z)) HF.out, B0.out _⟩
          | false =>
            by_cases hn0 : n = 0
            · have hL0 : L = [] := List.length_eq_zero_iff.1 (HN.out.trans hn0)
              have d3 : decide ((0 : Int) < (n : Int)) = false := by rw [decide_eq_false_iff_not]; omega
              have d4 : decide (0 < n) = false := by rw [decide_eq_false_iff_not]; omega
              have HF : Hid (pchk L = R) := by have := HR2.out; rwa [if_neg (fun hq => hq.elim (fun h => by cases h.1) (fun h => h.1 hL0))] at this
              try clear hL0
              try clear hn0
              clear HR2
              go_wp2_with fail
              refine (KD.out _ (B0.out _)).mono ?_
              rintro e w2 ⟨rfl, hb2⟩
              have B2 : Hid (Below w.heap.size w w2) := (B0.out _).trans (hb2.mono (B0.out _).size)
              clear hb2
              go_wp2_with fail
              go_ret
              exact ⟨congrArg (fun z => Ending.returned (.int .i64 z)) HF.out, B2.out⟩
            · have hL0 : L ≠ [] := fun e => hn0 (by rw [← HN.out, e]; rfl)
              have d3 : decide ((0 : Int) < (n : Int)) = true := by rw [decide_eq_true_eq]; omega
              have d4 : decide (0 < n) = true := by rw [decide_eq_true_eq]; omega
              have HF : Hid ((5 : Int) = R) := by have := HR2.out; rwa [if_pos (.inr ⟨hL0, by decide⟩)] at this
              try clear hL0
              try clear hn0
              clear HR2
              go_wp2_with fail
              go_ret
              exact ⟨congrArg (fun z => Ending.returned (.int .i64 z)) HF.out, B0.out _⟩
  · have d0 : decide (f = (0 : Int)) = false := by rw [decide_eq_false_iff_not]; exact h0
    have HF : Hid ((2 : Int) = R) := by
      have := HR.out
      unfold wchk at this
      rwa [if_neg (by omega), if_neg (by simp [h0])] at this

    go_wp2_with fail
    go_ret
    exact ⟨congrArg (fun z => Ending.returned (.int .i64 z)) HF.out, B0.out _⟩
set_option maxRecDepth 100000 in
set_option maxHeartbeats 8000000 in
theorem check_5 (w : World) (f t x : Int) (y : Bool) (a : Option Addr) (n c : Nat) (L : List Pk) (hn : L.length = n) (hL : InPk w a L) (hc : n ≤ c) (hc9 : c ≤ 9223372036854775807) (hN : n ≤ 1000000) :
    Calls Try.prog 34 #[.agg #[.int .i64 5, .int .i64 f, .int .i64 t, .int .i64 x, .bool y, .slice a n c]] w fun e w' => e = .returned (.int .i64 (wchk 5 f t x y L)) ∧ Below w.heap.size w w' := by
  have KD : Hid (∀ W, Below w.heap.size w W → Calls Try.prog 27 #[.slice a n c] W fun e w' => e = .returned (.int .i64 (pchk L)) ∧ Below W.heap.size W w') := fun W hW => dbcheck_is W a n c L (hL.keep hW) hn hc hc9 hN
  have B0 : Hid (∀ o, Below w.heap.size w (w.alloc o)) := fun o => below1 _ _
  obtain ⟨R, hR⟩ : ∃ R, wchk 5 f t x y L = R := ⟨_, rfl⟩
  have HR : Hid (wchk 5 f t x y L = R) := hR
  have HN : Hid (L.length = n) := hn
  rw [hR]
  clear hL hR hn
  obtain ⟨r, hr⟩ : ∃ r, isRt f = r := ⟨_, rfl⟩
  have HRT : Hid (isRt f = r) := hr
  have KR : Hid (∀ (W : World), Calls Try.prog 48 #[.int .i64 f] W fun e w' => e = .returned (.bool r) ∧ w' = W) := fun W => by
    have := isRoot_is W f
    rwa [hr] at this
  clear hr
  go_enter Try.func34, Try.ntmps34
  by_cases h0 : t = 0
  · subst h0
    go_wp2_with fail
    refine (KR.out _).mono ?_
    rintro e w1 ⟨rfl, hw⟩
    obtain rfl := hw.symm
    clear hw KR
    cases r with
    | false =>
      have HF : Hid ((2 : Int) = R) := by
        have := HR.out
        unfold wchk at this
        rw [HRT.out] at this
        show (2 : Int) = R
        simpa using this
      go_wp2_with fail
      go_ret
      exact ⟨congrArg (fun z => Ending.returned (.int .i64 z)) HF.out, B0.out _⟩
    | true =>
      by_cases hx1 : x < 1
      · have d1 : decide (x < (1 : Int)) = true := by rw [decide_eq_true_eq]; omega
        have HF : Hid ((2 : Int) = R) := by
          have := HR.out
          unfold wchk at this
          rwa [if_neg (by omega), if_neg (by omega)] at this
        go_wp2_with fail
        go_ret
        exact ⟨congrArg (fun z => Ending.returned (.int .i64 z)) HF.out, B0.out _⟩
      · have d1 : decide (x < (1 : Int)) = false := by rw [decide_eq_false_iff_not]; omega
        by_cases hx2 : 1099511627776 < x
        · have d2 : decide ((1099511627776 : Int) < x) = true := by rw [decide_eq_true_eq]; omega
          have HF : Hid ((2 : Int) = R) := by
            have := HR.out
            unfold wchk at this
            rwa [if_neg (by omega), if_neg (by omega)] at this
          go_wp2_with fail
          go_ret
          exact ⟨congrArg (fun z => Ending.returned (.int .i64 z)) HF.out, B0.out _⟩
        · have d2 : decide ((1099511627776 : Int) < x) = false := by rw [decide_eq_false_iff_not]; omega
          have HR2 : Hid ((if (y = true ∧ (5 : Int) ≠ 2) ∨ (L ≠ [] ∧ (5 : Int) ≠ 1) then 5 else pchk L) = R) := by
            have := HR.out
            unfold wchk at this
            rwa [if_neg (by omega), if_pos ⟨by simp [HRT.out], by omega, by omega⟩] at this
          clear HR
          cases y with
          | true =>
            have HF : Hid ((5 : Int) = R) := by have := HR2.out; rwa [if_pos (.inl ⟨rfl, by decide⟩)] at this
            try clear hL0
            try clear hn0
            clear HR2
            go_wp2_with fail
            go_ret
            exact ⟨congrArg (fun z => Ending.returned (.int .i64 z)) HF.out, B0.out _⟩
          | false =>
            by_cases hn0 : n = 0
            · have hL0 : L = [] := List.length_eq_zero_iff.1 (HN.out.trans hn0)
              have d3 : decide ((0 : Int) < (n : Int)) = false := by rw [decide_eq_false_iff_not]; omega
              have d4 : decide (0 < n) = false := by rw [decide_eq_false_iff_not]; omega
              have HF : Hid (pchk L = R) := by have := HR2.out; rwa [if_neg (fun hq => hq.elim (fun h => by cases h.1) (fun h => h.1 hL0))] at this
              try clear hL0
              try clear hn0
              clear HR2
              go_wp2_with fail
              refine (KD.out _ (B0.out _)).mono ?_
              rintro e w2 ⟨rfl, hb2⟩
              have B2 : Hid (Below w.heap.size w w2) := (B0.out _).trans (hb2.mono (B0.out _).size)
              clear hb2
              go_wp2_with fail
              go_ret
              exact ⟨congrArg (fun z => Ending.returned (.int .i64 z)) HF.out, B2.out⟩
            · have hL0 : L ≠ [] := fun e => hn0 (by rw [← HN.out, e]; rfl)
              have d3 : decide ((0 : Int) < (n : Int)) = true := by rw [decide_eq_true_eq]; omega
              have d4 : decide (0 < n) = true := by rw [decide_eq_true_eq]; omega
              have HF : Hid ((5 : Int) = R) := by have := HR2.out; rwa [if_pos (.inr ⟨hL0, by decide⟩)] at this
              try clear hL0
              try clear hn0
              clear HR2
              go_wp2_with fail
              go_ret
              exact ⟨congrArg (fun z => Ending.returned (.int .i64 z)) HF.out, B0.out _⟩
  · have d0 : decide (t = (0 : Int)) = false := by rw [decide_eq_false_iff_not]; exact h0
    have HF : Hid ((2 : Int) = R) := by
      have := HR.out
      unfold wchk at this
      rwa [if_neg (by omega), if_neg (by simp [h0])] at this

    go_wp2_with fail
    refine (KR.out _).mono ?_
    rintro e w1 ⟨rfl, hw⟩
    obtain rfl := hw.symm
    clear hw KR
    cases r with
    | true =>
      go_wp2_with fail
      go_ret
      exact ⟨congrArg (fun z => Ending.returned (.int .i64 z)) HF.out, B0.out _⟩
    | false =>
      go_wp2_with fail
      go_ret
      exact ⟨congrArg (fun z => Ending.returned (.int .i64 z)) HF.out, B0.out _⟩
set_option maxRecDepth 100000 in
set_option maxHeartbeats 8000000 in
theorem check_6 (w : World) (f t x : Int) (y : Bool) (a : Option Addr) (n c : Nat) (L : List Pk) (hn : L.length = n) (hL : InPk w a L) (hc : n ≤ c) (hc9 : c ≤ 9223372036854775807) (hN : n ≤ 1000000) :
    Calls Try.prog 34 #[.agg #[.int .i64 6, .int .i64 f, .int .i64 t, .int .i64 x, .bool y, .slice a n c]] w fun e w' => e = .returned (.int .i64 (wchk 6 f t x y L)) ∧ Below w.heap.size w w' := by
  have KD : Hid (∀ W, Below w.heap.size w W → Calls Try.prog 27 #[.slice a n c] W fun e w' => e = .returned (.int .i64 (pchk L)) ∧ Below W.heap.size W w') := fun W hW => dbcheck_is W a n c L (hL.keep hW) hn hc hc9 hN
  have B0 : Hid (∀ o, Below w.heap.size w (w.alloc o)) := fun o => below1 _ _
  obtain ⟨R, hR⟩ : ∃ R, wchk 6 f t x y L = R := ⟨_, rfl⟩
  have HR : Hid (wchk 6 f t x y L = R) := hR
  have HN : Hid (L.length = n) := hn
  rw [hR]
  clear hL hR hn
  obtain ⟨r, hr⟩ : ∃ r, isRt f = r := ⟨_, rfl⟩
  have HRT : Hid (isRt f = r) := hr
  have KR : Hid (∀ (W : World), Calls Try.prog 48 #[.int .i64 f] W fun e w' => e = .returned (.bool r) ∧ w' = W) := fun W => by
    have := isRoot_is W f
    rwa [hr] at this
  clear hr
  go_enter Try.func34, Try.ntmps34
  by_cases h0 : t = 0
  · subst h0
    go_wp2_with fail
    refine (KR.out _).mono ?_
    rintro e w1 ⟨rfl, hw⟩
    obtain rfl := hw.symm
    clear hw KR
    cases r with
    | false =>
      have HF : Hid ((2 : Int) = R) := by
        have := HR.out
        unfold wchk at this
        rw [HRT.out] at this
        show (2 : Int) = R
        simpa using this
      go_wp2_with fail
      go_ret
      exact ⟨congrArg (fun z => Ending.returned (.int .i64 z)) HF.out, B0.out _⟩
    | true =>
      by_cases hx1 : x < 1
      · have d1 : decide (x < (1 : Int)) = true := by rw [decide_eq_true_eq]; omega
        have HF : Hid ((2 : Int) = R) := by
          have := HR.out
          unfold wchk at this
          rwa [if_neg (by omega), if_neg (by omega)] at this
        go_wp2_with fail
        go_ret
        exact ⟨congrArg (fun z => Ending.returned (.int .i64 z)) HF.out, B0.out _⟩
      · have d1 : decide (x < (1 : Int)) = false := by rw [decide_eq_false_iff_not]; omega
        by_cases hx2 : 1099511627776 < x
        · have d2 : decide ((1099511627776 : Int) < x) = true := by rw [decide_eq_true_eq]; omega
          have HF : Hid ((2 : Int) = R) := by
            have := HR.out
            unfold wchk at this
            rwa [if_neg (by omega), if_neg (by omega)] at this
          go_wp2_with fail
          go_ret
          exact ⟨congrArg (fun z => Ending.returned (.int .i64 z)) HF.out, B0.out _⟩
        · have d2 : decide ((1099511627776 : Int) < x) = false := by rw [decide_eq_false_iff_not]; omega
          have HR2 : Hid ((if (y = true ∧ (6 : Int) ≠ 2) ∨ (L ≠ [] ∧ (6 : Int) ≠ 1) then 5 else pchk L) = R) := by
            have := HR.out
            unfold wchk at this
            rwa [if_neg (by omega), if_pos ⟨by simp [HRT.out], by omega, by omega⟩] at this
          clear HR
          cases y with
          | true =>
            have HF : Hid ((5 : Int) = R) := by have := HR2.out; rwa [if_pos (.inl ⟨rfl, by decide⟩)] at this
            try clear hL0
            try clear hn0
            clear HR2
            go_wp2_with fail
            go_ret
            exact ⟨congrArg (fun z => Ending.returned (.int .i64 z)) HF.out, B0.out _⟩
          | false =>
            by_cases hn0 : n = 0
            · have hL0 : L = [] := List.length_eq_zero_iff.1 (HN.out.trans hn0)
              have d3 : decide ((0 : Int) < (n : Int)) = false := by rw [decide_eq_false_iff_not]; omega
              have d4 : decide (0 < n) = false := by rw [decide_eq_false_iff_not]; omega
              have HF : Hid (pchk L = R) := by have := HR2.out; rwa [if_neg (fun hq => hq.elim (fun h => by cases h.1) (fun h => h.1 hL0))] at this
              try clear hL0
              try clear hn0
              clear HR2
              go_wp2_with fail
              refine (KD.out _ (B0.out _)).mono ?_
              rintro e w2 ⟨rfl, hb2⟩
              have B2 : Hid (Below w.heap.size w w2) := (B0.out _).trans (hb2.mono (B0.out _).size)
              clear hb2
              go_wp2_with fail
              go_ret
              exact ⟨congrArg (fun z => Ending.returned (.int .i64 z)) HF.out, B2.out⟩
            · have hL0 : L ≠ [] := fun e => hn0 (by rw [← HN.out, e]; rfl)
              have d3 : decide ((0 : Int) < (n : Int)) = true := by rw [decide_eq_true_eq]; omega
              have d4 : decide (0 < n) = true := by rw [decide_eq_true_eq]; omega
              have HF : Hid ((5 : Int) = R) := by have := HR2.out; rwa [if_pos (.inr ⟨hL0, by decide⟩)] at this
              try clear hL0
              try clear hn0
              clear HR2
              go_wp2_with fail
              go_ret
              exact ⟨congrArg (fun z => Ending.returned (.int .i64 z)) HF.out, B0.out _⟩
  · have d0 : decide (t = (0 : Int)) = false := by rw [decide_eq_false_iff_not]; exact h0
    have HF : Hid ((2 : Int) = R) := by
      have := HR.out
      unfold wchk at this
      rwa [if_neg (by omega), if_neg (by simp [h0])] at this

    go_wp2_with fail
    refine (KR.out _).mono ?_
    rintro e w1 ⟨rfl, hw⟩
    obtain rfl := hw.symm
    clear hw KR
    cases r with
    | true =>
      go_wp2_with fail
      go_ret
      exact ⟨congrArg (fun z => Ending.returned (.int .i64 z)) HF.out, B0.out _⟩
    | false =>
      go_wp2_with fail
      go_ret
      exact ⟨congrArg (fun z => Ending.returned (.int .i64 z)) HF.out, B0.out _⟩
set_option maxRecDepth 100000 in
set_option maxHeartbeats 8000000 in
theorem wcheck_is (w : World) (k f t x : Int) (y : Bool) (a : Option Addr) (n c : Nat) (L : List Pk) (hn : L.length = n) (hL : InPk w a L) (hc : n ≤ c) (hc9 : c ≤ 9223372036854775807) (hN : n ≤ 1000000) :
    Calls Try.prog 34 #[.agg #[.int .i64 k, .int .i64 f, .int .i64 t, .int .i64 x, .bool y, .slice a n c]] w fun e w' => e = .returned (.int .i64 (wchk k f t x y L)) ∧ Below w.heap.size w w' := by
  by_cases hk : k < 1 ∨ 6 < k
  · have B0 : Hid (∀ o, Below w.heap.size w (w.alloc o)) := fun o => below1 _ _
    have hw : wchk k f t x y L = 13 := by unfold wchk; rw [if_pos hk]
    rw [hw]
    have e1 : (k == (1 : Int)) = false := by rw [beq_eq_false_iff_ne]; omega
    have e2 : (k == (2 : Int)) = false := by rw [beq_eq_false_iff_ne]; omega
    have e3 : (k == (3 : Int)) = false := by rw [beq_eq_false_iff_ne]; omega
    have e4 : (k == (4 : Int)) = false := by rw [beq_eq_false_iff_ne]; omega
    have e5 : (k == (5 : Int)) = false := by rw [beq_eq_false_iff_ne]; omega
    have e6 : (k == (6 : Int)) = false := by rw [beq_eq_false_iff_ne]; omega
    clear hL hw hk
    go_enter Try.func34, Try.ntmps34
    go_wp2_with fail
    go_ret
    exact ⟨rfl, B0.out _⟩
  · rcases (by omega : k = 1 ∨ k = 2 ∨ k = 3 ∨ k = 4 ∨ k = 5 ∨ k = 6) with rfl | rfl | rfl | rfl | rfl | rfl
    · exact check_1 w f t x y a n c L hn hL hc hc9 hN
    · exact check_2 w f t x y a n c L hn hL hc hc9 hN
    · exact check_3 w f t x y a n c L hn hL hc hc9 hN
    · exact check_4 w f t x y a n c L hn hL hc hc9 hN
    · exact check_5 w f t x y a n c L hn hL hc hc9 hN
    · exact check_6 w f t x y a n c L hn hL hc hc9 hN
end Go.Proofs.Ythaeidbnbgghkaa
