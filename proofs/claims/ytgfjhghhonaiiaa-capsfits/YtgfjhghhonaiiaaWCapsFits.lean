/- CapsFits: the walk. -/
import Derived.Test.YtgfjhghhonaiiaaCpE
namespace Go.Proofs.Ytgfjhghhonaiiaa
open Go.ChangeShapes Go.WideShapes Go.ChangeAt Go.RowKit Go.Deep Go.Maps
set_option linter.unusedVariables false
set_option linter.unusedSimpArgs false
theorem cf_at (q : Int) (hq : 0 ≤ q) : tnE noQ 3 q = 0 := by
  unfold tnE
  rw [if_neg (by omega)]
  rfl
theorem cf_ft (q u m : Int) (hq : 0 ≤ q) : ftE (tnQ noQ 3 q) 3 u m = (if u < 0 ∨ m < 0 then 2 else if q - u < m then 17 else 0) := by
  unfold ftE tnQ
  rw [if_pos (cf_at q hq)]
  rfl
set_option maxRecDepth 100000 in
set_option maxHeartbeats 4000000 in
theorem cf_neg (q u m : Int) (w : World) (hq : InI q) (hu : InI u) (hm : InI m) (h0 : q < 0) : Calls Try.prog 5 #[.int .i64 q, .int .i64 u, .int .i64 m] w fun e w' => e = .returned (.bool true) ∧ Below w.heap.size w w' := by
  have KN : Hid (Calls Try.prog 8 #[] w fun e w' => ∃ b F, e = .returned (.pointer (some ⟨b, 0, none⟩)) ∧ Tab w' F b 0 noQ noG ∧ Below w.heap.size w w' ∧ ∀ k, F k → w.heap.size ≤ k) := new_is w
  have KW : Hid (∀ W : World, Calls Try.prog 14 #[] W fun e w' => e = .returned (.bool true) ∧ Below W.heap.size W w') := cworks_true
  have HQ : Hid (InI q ∧ InI u ∧ InI m) := ⟨hq, hu, hm⟩
  have E1 : Hid (tnE noQ 3 q = 2) := by show _ = _; unfold tnE; rw [if_pos (by omega)]
  have d1 : decide (q < 0) = true := decide_eq_true h0
  clear hq hu hm h0
  go_enter Try.func5, Try.ntmps5
  go_wp2_with fail
  refine KN.out.mono ?_
  rintro e w1 ⟨b, F, rfl, t1, b1, f1⟩
  have HF : Hid (∀ k, F k → w.heap.size ≤ k) := f1
  have HB : Hid (Below w.heap.size w w1) := b1
  have K1 : Hid (Calls Try.prog 10 #[.pointer (some ⟨b, 0, none⟩), .int .i64 3, .int .i64 q] w1 fun e w' => e = .returned (.int .i64 2) ∧ Tab w' F b 1 (tnQ noQ 3 q) noG ∧ Off F w1 w') := by
    have := tenant_is w1 F b 0 noQ noG t1 (by omega) 3 q HQ.out.1
    rwa [E1.out] at this
  clear t1 b1 f1 KN
  go_wp2_with fail
  refine K1.out.mono ?_
  rintro e w2 ⟨rfl, t2, o2⟩
  have B2 : Hid (Below w.heap.size w w2) := (o2.below (fun k hk => HF.out k hk) HB.out.size |> HB.out.trans)
  have T2 : Hid (Tab w2 F b 1 (tnQ noQ 3 q) noG) := t2
  clear t2 o2 K1
  go_wp2_with fail
  refine (KW.out _).mono ?_
  rintro e w9 ⟨rfl, b9⟩
  have B9 : Hid (Below w.heap.size w w9) := B2.out.trans (b9.mono B2.out.size)
  clear b9
  go_wp2_with fail
  go_ret
  exact ⟨rfl, B9.out⟩
set_option maxRecDepth 100000 in
set_option maxHeartbeats 4000000 in
theorem cf_u (q u m : Int) (w : World) (hq : InI q) (hu : InI u) (hm : InI m) (h0 : 0 ≤ q) (h1 : u < 0) : Calls Try.prog 5 #[.int .i64 q, .int .i64 u, .int .i64 m] w fun e w' => e = .returned (.bool true) ∧ Below w.heap.size w w' := by
  have KN : Hid (Calls Try.prog 8 #[] w fun e w' => ∃ b F, e = .returned (.pointer (some ⟨b, 0, none⟩)) ∧ Tab w' F b 0 noQ noG ∧ Below w.heap.size w w' ∧ ∀ k, F k → w.heap.size ≤ k) := new_is w
  have KW : Hid (∀ W : World, Calls Try.prog 14 #[] W fun e w' => e = .returned (.bool true) ∧ Below W.heap.size W w') := cworks_true
  have HQ : Hid (InI q ∧ InI u ∧ InI m) := ⟨hq, hu, hm⟩
  have E1 : Hid (tnE noQ 3 q = 0) := cf_at q h0
  have V3 : Hid (InI u ∧ InI (m) ∧ ftE (tnQ noQ 3 q) 3 u (m) = 2) := ⟨by have := hq; have := hu; have := hm; unfold InI at *; omega, by have := hq; have := hu; have := hm; unfold InI at *; omega, by rw [cf_ft q _ _ h0]; rw [if_pos (by omega)]⟩
  have d1 : decide (u < 0) = true := decide_eq_true h1
  clear hq hu hm h0 h1
  go_enter Try.func5, Try.ntmps5
  go_wp2_with fail
  refine KN.out.mono ?_
  rintro e w1 ⟨b, F, rfl, t1, b1, f1⟩
  have HF : Hid (∀ k, F k → w.heap.size ≤ k) := f1
  have HB : Hid (Below w.heap.size w w1) := b1
  have K1 : Hid (Calls Try.prog 10 #[.pointer (some ⟨b, 0, none⟩), .int .i64 3, .int .i64 q] w1 fun e w' => e = .returned (.int .i64 0) ∧ Tab w' F b 1 (tnQ noQ 3 q) noG ∧ Off F w1 w') := by
    have := tenant_is w1 F b 0 noQ noG t1 (by omega) 3 q HQ.out.1
    rwa [E1.out] at this
  clear t1 b1 f1 KN
  go_wp2_with fail
  refine K1.out.mono ?_
  rintro e w2 ⟨rfl, t2, o2⟩
  have B2 : Hid (Below w.heap.size w w2) := (o2.below (fun k hk => HF.out k hk) HB.out.size |> HB.out.trans)
  have T2 : Hid (Tab w2 F b 1 (tnQ noQ 3 q) noG) := t2
  clear t2 o2 K1
  have K3 : Hid (Calls Try.prog 18 #[.pointer (some ⟨b, 0, none⟩), .int .i64 3, .int .i64 u, .int .i64 (m)] w2 fun e w' => e = .returned (.int .i64 2) ∧ w' = w2) := by
    have := fits_is w2 F b 1 (tnQ noQ 3 q) noG T2.out 3 u (m) (by unfold InI; omega) (V3.out.1) (V3.out.2.1)
    rwa [V3.out.2.2] at this
  go_wp2_with fail
  refine K3.out.mono ?_
  rintro e w3 ⟨rfl, hw⟩
  obtain rfl := hw.symm
  clear hw
  go_wp2_with fail
  refine (KW.out _).mono ?_
  rintro e w9 ⟨rfl, b9⟩
  have B9 : Hid (Below w.heap.size w w9) := B2.out.trans (b9.mono B2.out.size)
  clear b9
  go_wp2_with fail
  go_ret
  exact ⟨rfl, B9.out⟩
set_option maxRecDepth 100000 in
set_option maxHeartbeats 4000000 in
theorem cf_m (q u m : Int) (w : World) (hq : InI q) (hu : InI u) (hm : InI m) (h0 : 0 ≤ q) (h1 : 0 ≤ u) (h2 : m < 0) : Calls Try.prog 5 #[.int .i64 q, .int .i64 u, .int .i64 m] w fun e w' => e = .returned (.bool true) ∧ Below w.heap.size w w' := by
  have KN : Hid (Calls Try.prog 8 #[] w fun e w' => ∃ b F, e = .returned (.pointer (some ⟨b, 0, none⟩)) ∧ Tab w' F b 0 noQ noG ∧ Below w.heap.size w w' ∧ ∀ k, F k → w.heap.size ≤ k) := new_is w
  have KW : Hid (∀ W : World, Calls Try.prog 14 #[] W fun e w' => e = .returned (.bool true) ∧ Below W.heap.size W w') := cworks_true
  have HQ : Hid (InI q ∧ InI u ∧ InI m) := ⟨hq, hu, hm⟩
  have E1 : Hid (tnE noQ 3 q = 0) := cf_at q h0
  have V3 : Hid (InI u ∧ InI (m) ∧ ftE (tnQ noQ 3 q) 3 u (m) = 2) := ⟨by have := hq; have := hu; have := hm; unfold InI at *; omega, by have := hq; have := hu; have := hm; unfold InI at *; omega, by rw [cf_ft q _ _ h0]; rw [if_pos (by omega)]⟩
  have d1 : decide (u < 0) = false := by rw [decide_eq_false_iff_not]; omega
  have d2 : decide (m < 0) = true := decide_eq_true h2
  clear hq hu hm h0 h1 h2
  go_enter Try.func5, Try.ntmps5
  go_wp2_with fail
  refine KN.out.mono ?_
  rintro e w1 ⟨b, F, rfl, t1, b1, f1⟩
  have HF : Hid (∀ k, F k → w.heap.size ≤ k) := f1
  have HB : Hid (Below w.heap.size w w1) := b1
  have K1 : Hid (Calls Try.prog 10 #[.pointer (some ⟨b, 0, none⟩), .int .i64 3, .int .i64 q] w1 fun e w' => e = .returned (.int .i64 0) ∧ Tab w' F b 1 (tnQ noQ 3 q) noG ∧ Off F w1 w') := by
    have := tenant_is w1 F b 0 noQ noG t1 (by omega) 3 q HQ.out.1
    rwa [E1.out] at this
  clear t1 b1 f1 KN
  go_wp2_with fail
  refine K1.out.mono ?_
  rintro e w2 ⟨rfl, t2, o2⟩
  have B2 : Hid (Below w.heap.size w w2) := (o2.below (fun k hk => HF.out k hk) HB.out.size |> HB.out.trans)
  have T2 : Hid (Tab w2 F b 1 (tnQ noQ 3 q) noG) := t2
  clear t2 o2 K1
  have K3 : Hid (Calls Try.prog 18 #[.pointer (some ⟨b, 0, none⟩), .int .i64 3, .int .i64 u, .int .i64 (m)] w2 fun e w' => e = .returned (.int .i64 2) ∧ w' = w2) := by
    have := fits_is w2 F b 1 (tnQ noQ 3 q) noG T2.out 3 u (m) (by unfold InI; omega) (V3.out.1) (V3.out.2.1)
    rwa [V3.out.2.2] at this
  go_wp2_with fail
  refine K3.out.mono ?_
  rintro e w3 ⟨rfl, hw⟩
  obtain rfl := hw.symm
  clear hw
  go_wp2_with fail
  refine (KW.out _).mono ?_
  rintro e w9 ⟨rfl, b9⟩
  have B9 : Hid (Below w.heap.size w w9) := B2.out.trans (b9.mono B2.out.size)
  clear b9
  go_wp2_with fail
  go_ret
  exact ⟨rfl, B9.out⟩
set_option maxRecDepth 100000 in
set_option maxHeartbeats 4000000 in
theorem cf_big (q u m : Int) (w : World) (hq : InI q) (hu : InI u) (hm : InI m) (h0 : 0 ≤ q) (h1 : 0 ≤ u) (h2 : 0 ≤ m) (h3 : q < u) : Calls Try.prog 5 #[.int .i64 q, .int .i64 u, .int .i64 m] w fun e w' => e = .returned (.bool true) ∧ Below w.heap.size w w' := by
  have KN : Hid (Calls Try.prog 8 #[] w fun e w' => ∃ b F, e = .returned (.pointer (some ⟨b, 0, none⟩)) ∧ Tab w' F b 0 noQ noG ∧ Below w.heap.size w w' ∧ ∀ k, F k → w.heap.size ≤ k) := new_is w
  have KW : Hid (∀ W : World, Calls Try.prog 14 #[] W fun e w' => e = .returned (.bool true) ∧ Below W.heap.size W w') := cworks_true
  have HQ : Hid (InI q ∧ InI u ∧ InI m) := ⟨hq, hu, hm⟩
  have E1 : Hid (tnE noQ 3 q = 0) := cf_at q h0
  have V3 : Hid (InI u ∧ InI (m) ∧ ftE (tnQ noQ 3 q) 3 u (m) = 17) := ⟨by have := hq; have := hu; have := hm; unfold InI at *; omega, by have := hq; have := hu; have := hm; unfold InI at *; omega, by rw [cf_ft q _ _ h0]; rw [if_neg (by omega), if_pos (by omega)]⟩
  have d1 : decide (u < 0) = false := by rw [decide_eq_false_iff_not]; omega
  have d2 : decide (m < 0) = false := by rw [decide_eq_false_iff_not]; omega
  have d3 : decide (q < u) = true := decide_eq_true h3
  clear hq hu hm h0 h1 h2 h3
  go_enter Try.func5, Try.ntmps5
  go_wp2_with fail
  refine KN.out.mono ?_
  rintro e w1 ⟨b, F, rfl, t1, b1, f1⟩
  have HF : Hid (∀ k, F k → w.heap.size ≤ k) := f1
  have HB : Hid (Below w.heap.size w w1) := b1
  have K1 : Hid (Calls Try.prog 10 #[.pointer (some ⟨b, 0, none⟩), .int .i64 3, .int .i64 q] w1 fun e w' => e = .returned (.int .i64 0) ∧ Tab w' F b 1 (tnQ noQ 3 q) noG ∧ Off F w1 w') := by
    have := tenant_is w1 F b 0 noQ noG t1 (by omega) 3 q HQ.out.1
    rwa [E1.out] at this
  clear t1 b1 f1 KN
  go_wp2_with fail
  refine K1.out.mono ?_
  rintro e w2 ⟨rfl, t2, o2⟩
  have B2 : Hid (Below w.heap.size w w2) := (o2.below (fun k hk => HF.out k hk) HB.out.size |> HB.out.trans)
  have T2 : Hid (Tab w2 F b 1 (tnQ noQ 3 q) noG) := t2
  clear t2 o2 K1
  have K3 : Hid (Calls Try.prog 18 #[.pointer (some ⟨b, 0, none⟩), .int .i64 3, .int .i64 u, .int .i64 (m)] w2 fun e w' => e = .returned (.int .i64 17) ∧ w' = w2) := by
    have := fits_is w2 F b 1 (tnQ noQ 3 q) noG T2.out 3 u (m) (by unfold InI; omega) (V3.out.1) (V3.out.2.1)
    rwa [V3.out.2.2] at this
  go_wp2_with fail
  refine K3.out.mono ?_
  rintro e w3 ⟨rfl, hw⟩
  obtain rfl := hw.symm
  clear hw
  go_wp2_with fail
  refine (KW.out _).mono ?_
  rintro e w9 ⟨rfl, b9⟩
  have B9 : Hid (Below w.heap.size w w9) := B2.out.trans (b9.mono B2.out.size)
  clear b9
  go_wp2_with fail
  go_ret
  exact ⟨rfl, B9.out⟩
set_option maxRecDepth 100000 in
set_option maxHeartbeats 4000000 in
theorem cf_a (q u m : Int) (w : World) (hq : InI q) (hu : InI u) (hm : InI m) (h0 : 0 ≤ q) (h1 : 0 ≤ u) (h2 : 0 ≤ m) (h3 : ¬ q < u) (h4 : q - u < 4611686018427387904) (h5 : m ≤ q - u) : Calls Try.prog 5 #[.int .i64 q, .int .i64 u, .int .i64 m] w fun e w' => e = .returned (.bool true) ∧ Below w.heap.size w w' := by
  have KN : Hid (Calls Try.prog 8 #[] w fun e w' => ∃ b F, e = .returned (.pointer (some ⟨b, 0, none⟩)) ∧ Tab w' F b 0 noQ noG ∧ Below w.heap.size w w' ∧ ∀ k, F k → w.heap.size ≤ k) := new_is w
  have KW : Hid (∀ W : World, Calls Try.prog 14 #[] W fun e w' => e = .returned (.bool true) ∧ Below W.heap.size W w') := cworks_true
  have HQ : Hid (InI q ∧ InI u ∧ InI m) := ⟨hq, hu, hm⟩
  have E1 : Hid (tnE noQ 3 q = 0) := cf_at q h0
  have V3 : Hid (InI u ∧ InI (q - u) ∧ ftE (tnQ noQ 3 q) 3 u (q - u) = 0) := ⟨by have := hq; have := hu; have := hm; unfold InI at *; omega, by have := hq; have := hu; have := hm; unfold InI at *; omega, by rw [cf_ft q _ _ h0]; rw [if_neg (by omega), if_neg (by omega)]⟩
  have V4 : Hid (InI u ∧ InI (q - u + 1) ∧ ftE (tnQ noQ 3 q) 3 u (q - u + 1) = 17) := ⟨by have := hq; have := hu; have := hm; unfold InI at *; omega, by have := hq; have := hu; have := hm; unfold InI at *; omega, by rw [cf_ft q _ _ h0]; rw [if_neg (by omega), if_pos (by omega)]⟩
  have V5 : Hid (InI u ∧ InI (m) ∧ ftE (tnQ noQ 3 q) 3 u (m) = 0) := ⟨by have := hq; have := hu; have := hm; unfold InI at *; omega, by have := hq; have := hu; have := hm; unfold InI at *; omega, by rw [cf_ft q _ _ h0]; rw [if_neg (by omega), if_neg (by omega)]⟩
  have V6 : Hid (InI m ∧ InI (u) ∧ ftE (tnQ noQ 3 q) 3 m (u) = 0) := ⟨by have := hq; have := hu; have := hm; unfold InI at *; omega, by have := hq; have := hu; have := hm; unfold InI at *; omega, by rw [cf_ft q _ _ h0]; rw [if_neg (by omega), if_neg (by omega)]⟩
  have d1 : decide (u < 0) = false := by rw [decide_eq_false_iff_not]; omega
  have d2 : decide (m < 0) = false := by rw [decide_eq_false_iff_not]; omega
  have d3 : decide (q < u) = false := decide_eq_false h3
  have d4 : decide (q - u < 4611686018427387904) = true := decide_eq_true h4
  have d5 : decide (m ≤ q - u) = true := decide_eq_true h5
  have r1 : IntKind.i64.wrap (q - u) = q - u := by unfold InI at *; rw [IntKind.wrap_i64]; omega
  have r2 : IntKind.i64.wrap (q - u + 1) = q - u + 1 := by unfold InI at *; rw [IntKind.wrap_i64]; omega
  clear hq hu hm h0 h1 h2 h3 h4 h5
  go_enter Try.func5, Try.ntmps5
  go_wp2_with fail
  refine KN.out.mono ?_
  rintro e w1 ⟨b, F, rfl, t1, b1, f1⟩
  have HF : Hid (∀ k, F k → w.heap.size ≤ k) := f1
  have HB : Hid (Below w.heap.size w w1) := b1
  have K1 : Hid (Calls Try.prog 10 #[.pointer (some ⟨b, 0, none⟩), .int .i64 3, .int .i64 q] w1 fun e w' => e = .returned (.int .i64 0) ∧ Tab w' F b 1 (tnQ noQ 3 q) noG ∧ Off F w1 w') := by
    have := tenant_is w1 F b 0 noQ noG t1 (by omega) 3 q HQ.out.1
    rwa [E1.out] at this
  clear t1 b1 f1 KN
  go_wp2_with fail
  refine K1.out.mono ?_
  rintro e w2 ⟨rfl, t2, o2⟩
  have B2 : Hid (Below w.heap.size w w2) := (o2.below (fun k hk => HF.out k hk) HB.out.size |> HB.out.trans)
  have T2 : Hid (Tab w2 F b 1 (tnQ noQ 3 q) noG) := t2
  clear t2 o2 K1
  have K3 : Hid (Calls Try.prog 18 #[.pointer (some ⟨b, 0, none⟩), .int .i64 3, .int .i64 u, .int .i64 (q - u)] w2 fun e w' => e = .returned (.int .i64 0) ∧ w' = w2) := by
    have := fits_is w2 F b 1 (tnQ noQ 3 q) noG T2.out 3 u (q - u) (by unfold InI; omega) (V3.out.1) (V3.out.2.1)
    rwa [V3.out.2.2] at this
  have K4 : Hid (Calls Try.prog 18 #[.pointer (some ⟨b, 0, none⟩), .int .i64 3, .int .i64 u, .int .i64 (q - u + 1)] w2 fun e w' => e = .returned (.int .i64 17) ∧ w' = w2) := by
    have := fits_is w2 F b 1 (tnQ noQ 3 q) noG T2.out 3 u (q - u + 1) (by unfold InI; omega) (V4.out.1) (V4.out.2.1)
    rwa [V4.out.2.2] at this
  have K5 : Hid (Calls Try.prog 18 #[.pointer (some ⟨b, 0, none⟩), .int .i64 3, .int .i64 u, .int .i64 (m)] w2 fun e w' => e = .returned (.int .i64 0) ∧ w' = w2) := by
    have := fits_is w2 F b 1 (tnQ noQ 3 q) noG T2.out 3 u (m) (by unfold InI; omega) (V5.out.1) (V5.out.2.1)
    rwa [V5.out.2.2] at this
  have K6 : Hid (Calls Try.prog 18 #[.pointer (some ⟨b, 0, none⟩), .int .i64 3, .int .i64 m, .int .i64 (u)] w2 fun e w' => e = .returned (.int .i64 0) ∧ w' = w2) := by
    have := fits_is w2 F b 1 (tnQ noQ 3 q) noG T2.out 3 m (u) (by unfold InI; omega) (V6.out.1) (V6.out.2.1)
    rwa [V6.out.2.2] at this
  go_wp2_with fail
  refine K3.out.mono ?_
  rintro e w3 ⟨rfl, hw⟩
  obtain rfl := hw.symm
  clear hw
  go_wp2_with fail
  refine K4.out.mono ?_
  rintro e w3 ⟨rfl, hw⟩
  obtain rfl := hw.symm
  clear hw
  go_wp2_with fail
  refine K5.out.mono ?_
  rintro e w3 ⟨rfl, hw⟩
  obtain rfl := hw.symm
  clear hw
  go_wp2_with fail
  refine K6.out.mono ?_
  rintro e w3 ⟨rfl, hw⟩
  obtain rfl := hw.symm
  clear hw
  go_wp2_with fail
  refine (KW.out _).mono ?_
  rintro e w9 ⟨rfl, b9⟩
  have B9 : Hid (Below w.heap.size w w9) := B2.out.trans (b9.mono B2.out.size)
  clear b9
  go_wp2_with fail
  go_ret
  exact ⟨rfl, B9.out⟩
set_option maxRecDepth 100000 in
set_option maxHeartbeats 4000000 in
theorem cf_b (q u m : Int) (w : World) (hq : InI q) (hu : InI u) (hm : InI m) (h0 : 0 ≤ q) (h1 : 0 ≤ u) (h2 : 0 ≤ m) (h3 : ¬ q < u) (h4 : q - u < 4611686018427387904) (h5 : ¬ m ≤ q - u) : Calls Try.prog 5 #[.int .i64 q, .int .i64 u, .int .i64 m] w fun e w' => e = .returned (.bool true) ∧ Below w.heap.size w w' := by
  have KN : Hid (Calls Try.prog 8 #[] w fun e w' => ∃ b F, e = .returned (.pointer (some ⟨b, 0, none⟩)) ∧ Tab w' F b 0 noQ noG ∧ Below w.heap.size w w' ∧ ∀ k, F k → w.heap.size ≤ k) := new_is w
  have KW : Hid (∀ W : World, Calls Try.prog 14 #[] W fun e w' => e = .returned (.bool true) ∧ Below W.heap.size W w') := cworks_true
  have HQ : Hid (InI q ∧ InI u ∧ InI m) := ⟨hq, hu, hm⟩
  have E1 : Hid (tnE noQ 3 q = 0) := cf_at q h0
  have V3 : Hid (InI u ∧ InI (q - u) ∧ ftE (tnQ noQ 3 q) 3 u (q - u) = 0) := ⟨by have := hq; have := hu; have := hm; unfold InI at *; omega, by have := hq; have := hu; have := hm; unfold InI at *; omega, by rw [cf_ft q _ _ h0]; rw [if_neg (by omega), if_neg (by omega)]⟩
  have V4 : Hid (InI u ∧ InI (q - u + 1) ∧ ftE (tnQ noQ 3 q) 3 u (q - u + 1) = 17) := ⟨by have := hq; have := hu; have := hm; unfold InI at *; omega, by have := hq; have := hu; have := hm; unfold InI at *; omega, by rw [cf_ft q _ _ h0]; rw [if_neg (by omega), if_pos (by omega)]⟩
  have V5 : Hid (InI u ∧ InI (m) ∧ ftE (tnQ noQ 3 q) 3 u (m) = 17) := ⟨by have := hq; have := hu; have := hm; unfold InI at *; omega, by have := hq; have := hu; have := hm; unfold InI at *; omega, by rw [cf_ft q _ _ h0]; rw [if_neg (by omega), if_pos (by omega)]⟩
  have V6 : Hid (InI m ∧ InI (u) ∧ ftE (tnQ noQ 3 q) 3 m (u) = 17) := ⟨by have := hq; have := hu; have := hm; unfold InI at *; omega, by have := hq; have := hu; have := hm; unfold InI at *; omega, by rw [cf_ft q _ _ h0]; rw [if_neg (by omega), if_pos (by omega)]⟩
  have d1 : decide (u < 0) = false := by rw [decide_eq_false_iff_not]; omega
  have d2 : decide (m < 0) = false := by rw [decide_eq_false_iff_not]; omega
  have d3 : decide (q < u) = false := decide_eq_false h3
  have d4 : decide (q - u < 4611686018427387904) = true := decide_eq_true h4
  have d5 : decide (m ≤ q - u) = false := decide_eq_false h5
  have r1 : IntKind.i64.wrap (q - u) = q - u := by unfold InI at *; rw [IntKind.wrap_i64]; omega
  have r2 : IntKind.i64.wrap (q - u + 1) = q - u + 1 := by unfold InI at *; rw [IntKind.wrap_i64]; omega
  clear hq hu hm h0 h1 h2 h3 h4 h5
  go_enter Try.func5, Try.ntmps5
  go_wp2_with fail
  refine KN.out.mono ?_
  rintro e w1 ⟨b, F, rfl, t1, b1, f1⟩
  have HF : Hid (∀ k, F k → w.heap.size ≤ k) := f1
  have HB : Hid (Below w.heap.size w w1) := b1
  have K1 : Hid (Calls Try.prog 10 #[.pointer (some ⟨b, 0, none⟩), .int .i64 3, .int .i64 q] w1 fun e w' => e = .returned (.int .i64 0) ∧ Tab w' F b 1 (tnQ noQ 3 q) noG ∧ Off F w1 w') := by
    have := tenant_is w1 F b 0 noQ noG t1 (by omega) 3 q HQ.out.1
    rwa [E1.out] at this
  clear t1 b1 f1 KN
  go_wp2_with fail
  refine K1.out.mono ?_
  rintro e w2 ⟨rfl, t2, o2⟩
  have B2 : Hid (Below w.heap.size w w2) := (o2.below (fun k hk => HF.out k hk) HB.out.size |> HB.out.trans)
  have T2 : Hid (Tab w2 F b 1 (tnQ noQ 3 q) noG) := t2
  clear t2 o2 K1
  have K3 : Hid (Calls Try.prog 18 #[.pointer (some ⟨b, 0, none⟩), .int .i64 3, .int .i64 u, .int .i64 (q - u)] w2 fun e w' => e = .returned (.int .i64 0) ∧ w' = w2) := by
    have := fits_is w2 F b 1 (tnQ noQ 3 q) noG T2.out 3 u (q - u) (by unfold InI; omega) (V3.out.1) (V3.out.2.1)
    rwa [V3.out.2.2] at this
  have K4 : Hid (Calls Try.prog 18 #[.pointer (some ⟨b, 0, none⟩), .int .i64 3, .int .i64 u, .int .i64 (q - u + 1)] w2 fun e w' => e = .returned (.int .i64 17) ∧ w' = w2) := by
    have := fits_is w2 F b 1 (tnQ noQ 3 q) noG T2.out 3 u (q - u + 1) (by unfold InI; omega) (V4.out.1) (V4.out.2.1)
    rwa [V4.out.2.2] at this
  have K5 : Hid (Calls Try.prog 18 #[.pointer (some ⟨b, 0, none⟩), .int .i64 3, .int .i64 u, .int .i64 (m)] w2 fun e w' => e = .returned (.int .i64 17) ∧ w' = w2) := by
    have := fits_is w2 F b 1 (tnQ noQ 3 q) noG T2.out 3 u (m) (by unfold InI; omega) (V5.out.1) (V5.out.2.1)
    rwa [V5.out.2.2] at this
  have K6 : Hid (Calls Try.prog 18 #[.pointer (some ⟨b, 0, none⟩), .int .i64 3, .int .i64 m, .int .i64 (u)] w2 fun e w' => e = .returned (.int .i64 17) ∧ w' = w2) := by
    have := fits_is w2 F b 1 (tnQ noQ 3 q) noG T2.out 3 m (u) (by unfold InI; omega) (V6.out.1) (V6.out.2.1)
    rwa [V6.out.2.2] at this
  go_wp2_with fail
  refine K3.out.mono ?_
  rintro e w3 ⟨rfl, hw⟩
  obtain rfl := hw.symm
  clear hw
  go_wp2_with fail
  refine K4.out.mono ?_
  rintro e w3 ⟨rfl, hw⟩
  obtain rfl := hw.symm
  clear hw
  go_wp2_with fail
  refine K5.out.mono ?_
  rintro e w3 ⟨rfl, hw⟩
  obtain rfl := hw.symm
  clear hw
  go_wp2_with fail
  refine K6.out.mono ?_
  rintro e w3 ⟨rfl, hw⟩
  obtain rfl := hw.symm
  clear hw
  go_wp2_with fail
  refine (KW.out _).mono ?_
  rintro e w9 ⟨rfl, b9⟩
  have B9 : Hid (Below w.heap.size w w9) := B2.out.trans (b9.mono B2.out.size)
  clear b9
  go_wp2_with fail
  go_ret
  exact ⟨rfl, B9.out⟩
set_option maxRecDepth 100000 in
set_option maxHeartbeats 4000000 in
theorem cf_c (q u m : Int) (w : World) (hq : InI q) (hu : InI u) (hm : InI m) (h0 : 0 ≤ q) (h1 : 0 ≤ u) (h2 : 0 ≤ m) (h3 : ¬ q < u) (h4 : ¬ q - u < 4611686018427387904) (h5 : m ≤ q - u) : Calls Try.prog 5 #[.int .i64 q, .int .i64 u, .int .i64 m] w fun e w' => e = .returned (.bool true) ∧ Below w.heap.size w w' := by
  have KN : Hid (Calls Try.prog 8 #[] w fun e w' => ∃ b F, e = .returned (.pointer (some ⟨b, 0, none⟩)) ∧ Tab w' F b 0 noQ noG ∧ Below w.heap.size w w' ∧ ∀ k, F k → w.heap.size ≤ k) := new_is w
  have KW : Hid (∀ W : World, Calls Try.prog 14 #[] W fun e w' => e = .returned (.bool true) ∧ Below W.heap.size W w') := cworks_true
  have HQ : Hid (InI q ∧ InI u ∧ InI m) := ⟨hq, hu, hm⟩
  have E1 : Hid (tnE noQ 3 q = 0) := cf_at q h0
  have V3 : Hid (InI u ∧ InI (q - u) ∧ ftE (tnQ noQ 3 q) 3 u (q - u) = 0) := ⟨by have := hq; have := hu; have := hm; unfold InI at *; omega, by have := hq; have := hu; have := hm; unfold InI at *; omega, by rw [cf_ft q _ _ h0]; rw [if_neg (by omega), if_neg (by omega)]⟩
  have V5 : Hid (InI u ∧ InI (m) ∧ ftE (tnQ noQ 3 q) 3 u (m) = 0) := ⟨by have := hq; have := hu; have := hm; unfold InI at *; omega, by have := hq; have := hu; have := hm; unfold InI at *; omega, by rw [cf_ft q _ _ h0]; rw [if_neg (by omega), if_neg (by omega)]⟩
  have V6 : Hid (InI m ∧ InI (u) ∧ ftE (tnQ noQ 3 q) 3 m (u) = 0) := ⟨by have := hq; have := hu; have := hm; unfold InI at *; omega, by have := hq; have := hu; have := hm; unfold InI at *; omega, by rw [cf_ft q _ _ h0]; rw [if_neg (by omega), if_neg (by omega)]⟩
  have d1 : decide (u < 0) = false := by rw [decide_eq_false_iff_not]; omega
  have d2 : decide (m < 0) = false := by rw [decide_eq_false_iff_not]; omega
  have d3 : decide (q < u) = false := decide_eq_false h3
  have d4 : decide (q - u < 4611686018427387904) = false := decide_eq_false h4
  have d5 : decide (m ≤ q - u) = true := decide_eq_true h5
  have r1 : IntKind.i64.wrap (q - u) = q - u := by unfold InI at *; rw [IntKind.wrap_i64]; omega
  clear hq hu hm h0 h1 h2 h3 h4 h5
  go_enter Try.func5, Try.ntmps5
  go_wp2_with fail
  refine KN.out.mono ?_
  rintro e w1 ⟨b, F, rfl, t1, b1, f1⟩
  have HF : Hid (∀ k, F k → w.heap.size ≤ k) := f1
  have HB : Hid (Below w.heap.size w w1) := b1
  have K1 : Hid (Calls Try.prog 10 #[.pointer (some ⟨b, 0, none⟩), .int .i64 3, .int .i64 q] w1 fun e w' => e = .returned (.int .i64 0) ∧ Tab w' F b 1 (tnQ noQ 3 q) noG ∧ Off F w1 w') := by
    have := tenant_is w1 F b 0 noQ noG t1 (by omega) 3 q HQ.out.1
    rwa [E1.out] at this
  clear t1 b1 f1 KN
  go_wp2_with fail
  refine K1.out.mono ?_
  rintro e w2 ⟨rfl, t2, o2⟩
  have B2 : Hid (Below w.heap.size w w2) := (o2.below (fun k hk => HF.out k hk) HB.out.size |> HB.out.trans)
  have T2 : Hid (Tab w2 F b 1 (tnQ noQ 3 q) noG) := t2
  clear t2 o2 K1
  have K3 : Hid (Calls Try.prog 18 #[.pointer (some ⟨b, 0, none⟩), .int .i64 3, .int .i64 u, .int .i64 (q - u)] w2 fun e w' => e = .returned (.int .i64 0) ∧ w' = w2) := by
    have := fits_is w2 F b 1 (tnQ noQ 3 q) noG T2.out 3 u (q - u) (by unfold InI; omega) (V3.out.1) (V3.out.2.1)
    rwa [V3.out.2.2] at this
  have K5 : Hid (Calls Try.prog 18 #[.pointer (some ⟨b, 0, none⟩), .int .i64 3, .int .i64 u, .int .i64 (m)] w2 fun e w' => e = .returned (.int .i64 0) ∧ w' = w2) := by
    have := fits_is w2 F b 1 (tnQ noQ 3 q) noG T2.out 3 u (m) (by unfold InI; omega) (V5.out.1) (V5.out.2.1)
    rwa [V5.out.2.2] at this
  have K6 : Hid (Calls Try.prog 18 #[.pointer (some ⟨b, 0, none⟩), .int .i64 3, .int .i64 m, .int .i64 (u)] w2 fun e w' => e = .returned (.int .i64 0) ∧ w' = w2) := by
    have := fits_is w2 F b 1 (tnQ noQ 3 q) noG T2.out 3 m (u) (by unfold InI; omega) (V6.out.1) (V6.out.2.1)
    rwa [V6.out.2.2] at this
  go_wp2_with fail
  refine K3.out.mono ?_
  rintro e w3 ⟨rfl, hw⟩
  obtain rfl := hw.symm
  clear hw
  go_wp2_with fail
  refine K5.out.mono ?_
  rintro e w3 ⟨rfl, hw⟩
  obtain rfl := hw.symm
  clear hw
  go_wp2_with fail
  refine K6.out.mono ?_
  rintro e w3 ⟨rfl, hw⟩
  obtain rfl := hw.symm
  clear hw
  go_wp2_with fail
  refine (KW.out _).mono ?_
  rintro e w9 ⟨rfl, b9⟩
  have B9 : Hid (Below w.heap.size w w9) := B2.out.trans (b9.mono B2.out.size)
  clear b9
  go_wp2_with fail
  go_ret
  exact ⟨rfl, B9.out⟩
set_option maxRecDepth 100000 in
set_option maxHeartbeats 4000000 in
theorem cf_d (q u m : Int) (w : World) (hq : InI q) (hu : InI u) (hm : InI m) (h0 : 0 ≤ q) (h1 : 0 ≤ u) (h2 : 0 ≤ m) (h3 : ¬ q < u) (h4 : ¬ q - u < 4611686018427387904) (h5 : ¬ m ≤ q - u) : Calls Try.prog 5 #[.int .i64 q, .int .i64 u, .int .i64 m] w fun e w' => e = .returned (.bool true) ∧ Below w.heap.size w w' := by
  have KN : Hid (Calls Try.prog 8 #[] w fun e w' => ∃ b F, e = .returned (.pointer (some ⟨b, 0, none⟩)) ∧ Tab w' F b 0 noQ noG ∧ Below w.heap.size w w' ∧ ∀ k, F k → w.heap.size ≤ k) := new_is w
  have KW : Hid (∀ W : World, Calls Try.prog 14 #[] W fun e w' => e = .returned (.bool true) ∧ Below W.heap.size W w') := cworks_true
  have HQ : Hid (InI q ∧ InI u ∧ InI m) := ⟨hq, hu, hm⟩
  have E1 : Hid (tnE noQ 3 q = 0) := cf_at q h0
  have V3 : Hid (InI u ∧ InI (q - u) ∧ ftE (tnQ noQ 3 q) 3 u (q - u) = 0) := ⟨by have := hq; have := hu; have := hm; unfold InI at *; omega, by have := hq; have := hu; have := hm; unfold InI at *; omega, by rw [cf_ft q _ _ h0]; rw [if_neg (by omega), if_neg (by omega)]⟩
  have V5 : Hid (InI u ∧ InI (m) ∧ ftE (tnQ noQ 3 q) 3 u (m) = 17) := ⟨by have := hq; have := hu; have := hm; unfold InI at *; omega, by have := hq; have := hu; have := hm; unfold InI at *; omega, by rw [cf_ft q _ _ h0]; rw [if_neg (by omega), if_pos (by omega)]⟩
  have V6 : Hid (InI m ∧ InI (u) ∧ ftE (tnQ noQ 3 q) 3 m (u) = 17) := ⟨by have := hq; have := hu; have := hm; unfold InI at *; omega, by have := hq; have := hu; have := hm; unfold InI at *; omega, by rw [cf_ft q _ _ h0]; rw [if_neg (by omega), if_pos (by omega)]⟩
  have d1 : decide (u < 0) = false := by rw [decide_eq_false_iff_not]; omega
  have d2 : decide (m < 0) = false := by rw [decide_eq_false_iff_not]; omega
  have d3 : decide (q < u) = false := decide_eq_false h3
  have d4 : decide (q - u < 4611686018427387904) = false := decide_eq_false h4
  have d5 : decide (m ≤ q - u) = false := decide_eq_false h5
  have r1 : IntKind.i64.wrap (q - u) = q - u := by unfold InI at *; rw [IntKind.wrap_i64]; omega
  clear hq hu hm h0 h1 h2 h3 h4 h5
  go_enter Try.func5, Try.ntmps5
  go_wp2_with fail
  refine KN.out.mono ?_
  rintro e w1 ⟨b, F, rfl, t1, b1, f1⟩
  have HF : Hid (∀ k, F k → w.heap.size ≤ k) := f1
  have HB : Hid (Below w.heap.size w w1) := b1
  have K1 : Hid (Calls Try.prog 10 #[.pointer (some ⟨b, 0, none⟩), .int .i64 3, .int .i64 q] w1 fun e w' => e = .returned (.int .i64 0) ∧ Tab w' F b 1 (tnQ noQ 3 q) noG ∧ Off F w1 w') := by
    have := tenant_is w1 F b 0 noQ noG t1 (by omega) 3 q HQ.out.1
    rwa [E1.out] at this
  clear t1 b1 f1 KN
  go_wp2_with fail
  refine K1.out.mono ?_
  rintro e w2 ⟨rfl, t2, o2⟩
  have B2 : Hid (Below w.heap.size w w2) := (o2.below (fun k hk => HF.out k hk) HB.out.size |> HB.out.trans)
  have T2 : Hid (Tab w2 F b 1 (tnQ noQ 3 q) noG) := t2
  clear t2 o2 K1
  have K3 : Hid (Calls Try.prog 18 #[.pointer (some ⟨b, 0, none⟩), .int .i64 3, .int .i64 u, .int .i64 (q - u)] w2 fun e w' => e = .returned (.int .i64 0) ∧ w' = w2) := by
    have := fits_is w2 F b 1 (tnQ noQ 3 q) noG T2.out 3 u (q - u) (by unfold InI; omega) (V3.out.1) (V3.out.2.1)
    rwa [V3.out.2.2] at this
  have K5 : Hid (Calls Try.prog 18 #[.pointer (some ⟨b, 0, none⟩), .int .i64 3, .int .i64 u, .int .i64 (m)] w2 fun e w' => e = .returned (.int .i64 17) ∧ w' = w2) := by
    have := fits_is w2 F b 1 (tnQ noQ 3 q) noG T2.out 3 u (m) (by unfold InI; omega) (V5.out.1) (V5.out.2.1)
    rwa [V5.out.2.2] at this
  have K6 : Hid (Calls Try.prog 18 #[.pointer (some ⟨b, 0, none⟩), .int .i64 3, .int .i64 m, .int .i64 (u)] w2 fun e w' => e = .returned (.int .i64 17) ∧ w' = w2) := by
    have := fits_is w2 F b 1 (tnQ noQ 3 q) noG T2.out 3 m (u) (by unfold InI; omega) (V6.out.1) (V6.out.2.1)
    rwa [V6.out.2.2] at this
  go_wp2_with fail
  refine K3.out.mono ?_
  rintro e w3 ⟨rfl, hw⟩
  obtain rfl := hw.symm
  clear hw
  go_wp2_with fail
  refine K5.out.mono ?_
  rintro e w3 ⟨rfl, hw⟩
  obtain rfl := hw.symm
  clear hw
  go_wp2_with fail
  refine K6.out.mono ?_
  rintro e w3 ⟨rfl, hw⟩
  obtain rfl := hw.symm
  clear hw
  go_wp2_with fail
  refine (KW.out _).mono ?_
  rintro e w9 ⟨rfl, b9⟩
  have B9 : Hid (Below w.heap.size w w9) := B2.out.trans (b9.mono B2.out.size)
  clear b9
  go_wp2_with fail
  go_ret
  exact ⟨rfl, B9.out⟩
theorem capsFits_walk (q u m : Int) (hq : (Lit.int .i64 q).wf = true) (hu : (Lit.int .i64 u).wf = true) (hm : (Lit.int .i64 m).wf = true) (w : World) : Calls Try.prog 5 #[.int .i64 q, .int .i64 u, .int .i64 m] w fun e w' => e = .returned (.bool true) ∧ Below w.heap.size w w' := by
  have h1 : InI q := wf_i64 hq
  have h2 : InI u := wf_i64 hu
  have h3 : InI m := wf_i64 hm
  by_cases c0 : q < 0
  · exact cf_neg q u m w h1 h2 h3 c0
  by_cases c1 : u < 0
  · exact cf_u q u m w h1 h2 h3 (by omega) c1
  by_cases c2 : m < 0
  · exact cf_m q u m w h1 h2 h3 (by omega) (by omega) c2
  by_cases c3 : q < u
  · exact cf_big q u m w h1 h2 h3 (by omega) (by omega) (by omega) c3
  by_cases c4 : q - u < 4611686018427387904
  · by_cases c5 : m ≤ q - u
    · exact cf_a q u m w h1 h2 h3 (by omega) (by omega) (by omega) c3 c4 c5
    · exact cf_b q u m w h1 h2 h3 (by omega) (by omega) (by omega) c3 c4 c5
  · by_cases c5 : m ≤ q - u
    · exact cf_c q u m w h1 h2 h3 (by omega) (by omega) (by omega) c3 c4 c5
    · exact cf_d q u m w h1 h2 h3 (by omega) (by omega) (by omega) c3 c4 c5
end Go.Proofs.Ytgfjhghhonaiiaa
