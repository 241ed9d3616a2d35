/- Contracts of Tenant, check, Grant, Revoke, May, Quota, Fits. -/
import Derived.Test.YtgfjhghhonaiiaaCpB
namespace Go.Proofs.Ytgfjhghhonaiiaa
open Go.ChangeShapes Go.WideShapes Go.ChangeAt Go.RowKit Go.Deep Go.Maps
set_option linter.unusedVariables false
set_option linter.unusedSimpArgs false
set_option maxRecDepth 100000 in
set_option maxHeartbeats 2000000 in
theorem tenant_arg (w : World) (F : Nat → Prop) (b N : Nat) (Q : Qm) (G : Gm) (h : Tab w F b N Q G) (i q : Int) (hbad : i < 1 ∨ 8 < i ∨ q < 0) : Calls Try.prog 10 #[.pointer (some ⟨b, 0, none⟩), .int .i64 i, .int .i64 q] w fun e w' => e = .returned (.int .i64 2) ∧ w' = w := by
  have KN : Hid (∀ W, W = w → Calls Try.prog 22 #[.pointer (some ⟨b, 0, none⟩)] W fun e w' => e = .returned (.bool false) ∧ w' = W) := fun W hW => by rw [hW]; exact none_is w F b N Q G h
  by_cases hi : 1 ≤ i ∧ i ≤ 8
  · have hvT : (decide (1 ≤ i) && decide (i ≤ 8)) = true := by simp [hi.1, hi.2]
    have d1 : decide (q < 0) = true := by rw [decide_eq_true_eq]; omega
    have KT : Hid (∀ W : World, Calls Try.prog 24 #[.int .i64 i] W fun e w' => e = .returned (.bool true) ∧ w' = W) := fun W => by
      have := isTenant_is W i
      rwa [hvT] at this
    clear h hbad hi hvT
    go_enter Try.func10, Try.ntmps10
    go_wp2_with fail
    refine (KN.out _ rfl).mono ?_
    rintro e w1 ⟨rfl, hw⟩
    obtain rfl := hw.symm
    clear hw
    go_wp2_with fail
    refine (KT.out _).mono ?_
    rintro e w1 ⟨rfl, hw⟩
    obtain rfl := hw.symm
    clear hw
    go_wp2_with fail
    go_ret
    exact ⟨rfl, rfl⟩
  · have hvT : (decide (1 ≤ i) && decide (i ≤ 8)) = false := by
      by_cases h1 : 1 ≤ i
      · have : ¬ i ≤ 8 := fun h2 => hi ⟨h1, h2⟩
        simp [this]
      · simp [h1]
    have KT : Hid (∀ W : World, Calls Try.prog 24 #[.int .i64 i] W fun e w' => e = .returned (.bool false) ∧ w' = W) := fun W => by
      have := isTenant_is W i
      rwa [hvT] at this
    clear h hbad hi hvT
    go_enter Try.func10, Try.ntmps10
    go_wp2_with fail
    refine (KN.out _ rfl).mono ?_
    rintro e w1 ⟨rfl, hw⟩
    obtain rfl := hw.symm
    clear hw
    go_wp2_with fail
    refine (KT.out _).mono ?_
    rintro e w1 ⟨rfl, hw⟩
    obtain rfl := hw.symm
    clear hw
    go_wp2_with fail
    go_ret
    exact ⟨rfl, rfl⟩
set_option maxRecDepth 100000 in
set_option maxHeartbeats 2000000 in
theorem tenant_there (w : World) (F : Nat → Prop) (b N : Nat) (Q : Qm) (G : Gm) (h : Tab w F b N Q G) (i q : Int) (hi : 1 ≤ i ∧ i ≤ 8) (hq : 0 ≤ q) (hs : (Q i).isSome = true) : Calls Try.prog 10 #[.pointer (some ⟨b, 0, none⟩), .int .i64 i, .int .i64 q] w fun e w' => e = .returned (.int .i64 8) ∧ w' = w := by
  have KN : Hid (∀ W, W = w → Calls Try.prog 22 #[.pointer (some ⟨b, 0, none⟩)] W fun e w' => e = .returned (.bool false) ∧ w' = W) := fun W hW => by rw [hW]; exact none_is w F b N Q G h
  have hvT : (decide (1 ≤ i) && decide (i ≤ 8)) = true := by simp [hi.1, hi.2]
  have d1 : decide (q < 0) = false := by rw [decide_eq_false_iff_not]; omega
  have hI : InI i := by unfold InI; omega
  have KT : Hid (∀ W : World, Calls Try.prog 24 #[.int .i64 i] W fun e w' => e = .returned (.bool true) ∧ w' = W) := fun W => by
    have := isTenant_is W i
    rwa [hvT] at this
  obtain ⟨mq, mg, h1, hF⟩ := h
  obtain ⟨c0, c1⟩ := tab_cells h1.box
  have lk := h1.sq.look2 i hI
  rw [hs] at lk
  generalize (Q i).getD 0 = x at lk
  clear h1 hF hI hvT hs hi hq
  go_enter Try.func10, Try.ntmps10
  go_wp2_with fail
  refine (KN.out _ rfl).mono ?_
  rintro e w1 ⟨rfl, hw⟩
  obtain rfl := hw.symm
  clear hw
  go_wp2_with fail
  refine (KT.out _).mono ?_
  rintro e w1 ⟨rfl, hw⟩
  obtain rfl := hw.symm
  clear hw
  go_wp2_with fail
  go_ret
  exact ⟨rfl, rfl⟩
set_option maxRecDepth 100000 in
set_option maxHeartbeats 2000000 in
theorem tenant_new (w : World) (F : Nat → Prop) (b N : Nat) (Q : Qm) (G : Gm) (h : Tab w F b N Q G) (hN : N < 4611686018427387904) (i q : Int) (hi : 1 ≤ i ∧ i ≤ 8) (hq : 0 ≤ q) (hq9 : q ≤ 9223372036854775807) (hs : Q i = none) : Calls Try.prog 10 #[.pointer (some ⟨b, 0, none⟩), .int .i64 i, .int .i64 q] w fun e w' => e = .returned (.int .i64 0) ∧ Tab w' F b (N + 1) (fun k => if k = i then some q else Q k) G ∧ Off F w w' := by
  have KN : Hid (∀ W, W = w → Calls Try.prog 22 #[.pointer (some ⟨b, 0, none⟩)] W fun e w' => e = .returned (.bool false) ∧ w' = W) := fun W hW => by rw [hW]; exact none_is w F b N Q G h
  have hvT : (decide (1 ≤ i) && decide (i ≤ 8)) = true := by simp [hi.1, hi.2]
  have d1 : decide (q < 0) = false := by rw [decide_eq_false_iff_not]; omega
  have hI : InI i := by unfold InI; omega
  have KT : Hid (∀ W : World, Calls Try.prog 24 #[.int .i64 i] W fun e w' => e = .returned (.bool true) ∧ w' = W) := fun W => by
    have := isTenant_is W i
    rwa [hvT] at this
  have hgd : Gd (fun k => if k = i then some q else Q k) G := by
    have := h.gd.tn i q ⟨by omega, hq9⟩
    have h0 : tnE Q i q = 0 := by
      unfold tnE
      rw [if_neg (by omega), hs]
      rfl
    unfold tnQ at this
    rw [if_pos h0] at this
    exact this
  obtain ⟨mq, mg, h1, hF⟩ := h
  obtain ⟨c0, c1⟩ := tab_cells h1.box
  have lk := h1.sq.look2 i hI
  rw [hs] at lk
  simp only [Option.getD_none, Option.isSome_none] at lk
  have H1 : Hid (Tb w b mq mg N Q G ∧ (∀ k, F k ↔ TF b mq mg k) ∧ InI i ∧ N < 4611686018427387904) := ⟨h1, hF, hI, hN⟩
  have HG : Hid (Gd (fun k => if k = i then some q else Q k) G) := hgd
  clear h1 hF hI hvT hs hi hq hgd hN hq9
  go_enter Try.func10, Try.ntmps10
  go_wp2_with fail
  refine (KN.out _ rfl).mono ?_
  rintro e w1 ⟨rfl, hw⟩
  obtain rfl := hw.symm
  clear hw
  go_wp2_with fail
  refine (KT.out _).mono ?_
  rintro e w1 ⟨rfl, hw⟩
  obtain rfl := hw.symm
  clear hw
  go_wp2_with (first | (at_mapUpdate; refine wpList_put_scq rfl (.tmp 33) (.tmp 34) (.tmp 35) rfl mq N Q rfl H1.out.1.sq H1.out.2.2.2 i H1.out.2.2.1 q rfl rfl ?_; intro u5 s5 g5; have S5 : Hid (ScQ u5 mq (N + 1) (fun k => if k = i then some q else Q k) ∧ w.grownBy u5 (some mq)) := ⟨s5, g5⟩; clear s5 g5))
  go_ret
  obtain ⟨s5, g5⟩ := S5.out
  obtain ⟨t1, f1, _, _⟩ := H1.out
  refine ⟨rfl, ⟨mq, mg, ⟨?_, s5, ?_, t1.ne, HG.out⟩, f1⟩, (Off.refl F w).grown g5 (fun k hk => by cases hk; exact .inl ((f1 mq).2 (.inr (.inl rfl))))⟩
  · rw [g5.block b (lt_of_heapK t1.box) (fun e => t1.ne.1 (Option.some.inj e))]
    exact t1.box
  · exact (t1.sg.blk (g5.block mg t1.sg.lt (fun e => t1.ne.2.2 (Option.some.inj e).symm))).mono (Nat.le_succ _)
theorem tenant_is (w : World) (F : Nat → Prop) (b N : Nat) (Q : Qm) (G : Gm) (h : Tab w F b N Q G) (hN : N < 4611686018427387904) (i q : Int) (hq : InI q) : Calls Try.prog 10 #[.pointer (some ⟨b, 0, none⟩), .int .i64 i, .int .i64 q] w fun e w' => e = .returned (.int .i64 (tnE Q i q)) ∧ Tab w' F b (N + 1) (tnQ Q i q) G ∧ Off F w w' := by
  unfold tnQ tnE
  by_cases hb : i < 1 ∨ 8 < i ∨ q < 0
  · simp only [if_pos hb]
    rw [if_neg (by omega)]
    refine (tenant_arg w F b N Q G h i q hb).mono ?_
    rintro e w' ⟨rfl, rfl⟩
    exact ⟨rfl, h.more (Nat.le_succ _), Off.refl _ _⟩
  · simp only [if_neg hb]
    cases hs : Q i with
    | none =>
      simp only [Option.isSome_none, Bool.false_eq_true, if_false, if_true]
      exact tenant_new w F b N Q G h hN i q (by omega) (by omega) hq.2 hs
    | some x =>
      simp only [Option.isSome_some, if_true]
      rw [if_neg (by omega)]
      refine (tenant_there w F b N Q G h i q (by omega) (by omega) (by rw [hs]; rfl)).mono ?_
      rintro e w' ⟨rfl, rfl⟩
      exact ⟨rfl, h.more (Nat.le_succ _), Off.refl _ _⟩
set_option maxRecDepth 100000 in
set_option maxHeartbeats 2000000 in
theorem check_tn (w : World) (F : Nat → Prop) (b N : Nat) (Q : Qm) (G : Gm) (h : Tab w F b N Q G) (i r : Int) (hi : ¬ (1 ≤ i ∧ i ≤ 8)) : Calls Try.prog 25 #[.pointer (some ⟨b, 0, none⟩), .int .i64 i, .int .i64 r] w fun e w' => e = .returned (.int .i64 2) ∧ w' = w := by
  have KN : Hid (∀ W, W = w → Calls Try.prog 22 #[.pointer (some ⟨b, 0, none⟩)] W fun e w' => e = .returned (.bool false) ∧ w' = W) := fun W hW => by rw [hW]; exact none_is w F b N Q G h
  have hvT : (decide (1 ≤ i) && decide (i ≤ 8)) = false := by
    by_cases h1 : 1 ≤ i
    · have : ¬ i ≤ 8 := fun h2 => hi ⟨h1, h2⟩
      simp [this]
    · simp [h1]
  have KT : Hid (∀ W : World, Calls Try.prog 24 #[.int .i64 i] W fun e w' => e = .returned (.bool false) ∧ w' = W) := fun W => by
    have := isTenant_is W i
    rwa [hvT] at this
  clear h hi hvT
  go_enter Try.func25, Try.ntmps25
  go_wp2_with fail
  refine (KN.out _ rfl).mono ?_
  rintro e w1 ⟨rfl, hw⟩
  obtain rfl := hw.symm
  clear hw
  go_wp2_with fail
  refine (KT.out _).mono ?_
  rintro e w1 ⟨rfl, hw⟩
  obtain rfl := hw.symm
  clear hw
  go_wp2_with fail
  go_ret
  exact ⟨rfl, rfl⟩
set_option maxRecDepth 100000 in
set_option maxHeartbeats 2000000 in
theorem check_rt (w : World) (F : Nat → Prop) (b N : Nat) (Q : Qm) (G : Gm) (h : Tab w F b N Q G) (i r : Int) (hi : 1 ≤ i ∧ i ≤ 8) (hr : ¬ (1 ≤ r ∧ r ≤ 6)) : Calls Try.prog 25 #[.pointer (some ⟨b, 0, none⟩), .int .i64 i, .int .i64 r] w fun e w' => e = .returned (.int .i64 2) ∧ w' = w := by
  have KN : Hid (∀ W, W = w → Calls Try.prog 22 #[.pointer (some ⟨b, 0, none⟩)] W fun e w' => e = .returned (.bool false) ∧ w' = W) := fun W hW => by rw [hW]; exact none_is w F b N Q G h
  have hvT : (decide (1 ≤ i) && decide (i ≤ 8)) = true := by simp [hi.1, hi.2]
  have hvR : (decide (1 ≤ r) && decide (r ≤ 6)) = false := by
    by_cases h1 : 1 ≤ r
    · have : ¬ r ≤ 6 := fun h2 => hr ⟨h1, h2⟩
      simp [this]
    · simp [h1]
  have KT : Hid (∀ W : World, Calls Try.prog 24 #[.int .i64 i] W fun e w' => e = .returned (.bool true) ∧ w' = W) := fun W => by
    have := isTenant_is W i
    rwa [hvT] at this
  have KR : Hid (∀ W : World, Calls Try.prog 35 #[.int .i64 r] W fun e w' => e = .returned (.bool false) ∧ w' = W) := fun W => by
    have := isRoot_is W r
    rwa [hvR] at this
  clear h hi hr hvT hvR
  go_enter Try.func25, Try.ntmps25
  go_wp2_with fail
  refine (KN.out _ rfl).mono ?_
  rintro e w1 ⟨rfl, hw⟩
  obtain rfl := hw.symm
  clear hw
  go_wp2_with fail
  refine (KT.out _).mono ?_
  rintro e w1 ⟨rfl, hw⟩
  obtain rfl := hw.symm
  clear hw
  go_wp2_with fail
  refine (KR.out _).mono ?_
  rintro e w1 ⟨rfl, hw⟩
  obtain rfl := hw.symm
  clear hw
  go_wp2_with fail
  go_ret
  exact ⟨rfl, rfl⟩
set_option maxRecDepth 100000 in
set_option maxHeartbeats 2000000 in
theorem check_no (w : World) (F : Nat → Prop) (b N : Nat) (Q : Qm) (G : Gm) (h : Tab w F b N Q G) (i r : Int) (hi : 1 ≤ i ∧ i ≤ 8) (hr : 1 ≤ r ∧ r ≤ 6) (hs : (Q i).isSome = false) : Calls Try.prog 25 #[.pointer (some ⟨b, 0, none⟩), .int .i64 i, .int .i64 r] w fun e w' => e = .returned (.int .i64 9) ∧ w' = w := by
  have KN : Hid (∀ W, W = w → Calls Try.prog 22 #[.pointer (some ⟨b, 0, none⟩)] W fun e w' => e = .returned (.bool false) ∧ w' = W) := fun W hW => by rw [hW]; exact none_is w F b N Q G h
  have hvT : (decide (1 ≤ i) && decide (i ≤ 8)) = true := by simp [hi.1, hi.2]
  have hvR : (decide (1 ≤ r) && decide (r ≤ 6)) = true := by simp [hr.1, hr.2]
  have hI : InI i := by unfold InI; omega
  have KT : Hid (∀ W : World, Calls Try.prog 24 #[.int .i64 i] W fun e w' => e = .returned (.bool true) ∧ w' = W) := fun W => by
    have := isTenant_is W i
    rwa [hvT] at this
  have KR : Hid (∀ W : World, Calls Try.prog 35 #[.int .i64 r] W fun e w' => e = .returned (.bool true) ∧ w' = W) := fun W => by
    have := isRoot_is W r
    rwa [hvR] at this
  obtain ⟨mq, mg, h1, hF⟩ := h
  obtain ⟨c0, c1⟩ := tab_cells h1.box
  have lk := h1.sq.look2 i hI
  rw [hs] at lk
  generalize (Q i).getD 0 = x at lk
  clear h1 hF hI hvT hvR hs hi hr
  go_enter Try.func25, Try.ntmps25
  go_wp2_with fail
  refine (KN.out _ rfl).mono ?_
  rintro e w1 ⟨rfl, hw⟩
  obtain rfl := hw.symm
  clear hw
  go_wp2_with fail
  refine (KT.out _).mono ?_
  rintro e w1 ⟨rfl, hw⟩
  obtain rfl := hw.symm
  clear hw
  go_wp2_with fail
  refine (KR.out _).mono ?_
  rintro e w1 ⟨rfl, hw⟩
  obtain rfl := hw.symm
  clear hw
  go_wp2_with fail
  go_ret
  exact ⟨rfl, rfl⟩
set_option maxRecDepth 100000 in
set_option maxHeartbeats 2000000 in
theorem check_yes (w : World) (F : Nat → Prop) (b N : Nat) (Q : Qm) (G : Gm) (h : Tab w F b N Q G) (i r : Int) (hi : 1 ≤ i ∧ i ≤ 8) (hr : 1 ≤ r ∧ r ≤ 6) (hs : (Q i).isSome = true) : Calls Try.prog 25 #[.pointer (some ⟨b, 0, none⟩), .int .i64 i, .int .i64 r] w fun e w' => e = .returned (.int .i64 0) ∧ w' = w := by
  have KN : Hid (∀ W, W = w → Calls Try.prog 22 #[.pointer (some ⟨b, 0, none⟩)] W fun e w' => e = .returned (.bool false) ∧ w' = W) := fun W hW => by rw [hW]; exact none_is w F b N Q G h
  have hvT : (decide (1 ≤ i) && decide (i ≤ 8)) = true := by simp [hi.1, hi.2]
  have hvR : (decide (1 ≤ r) && decide (r ≤ 6)) = true := by simp [hr.1, hr.2]
  have hI : InI i := by unfold InI; omega
  have KT : Hid (∀ W : World, Calls Try.prog 24 #[.int .i64 i] W fun e w' => e = .returned (.bool true) ∧ w' = W) := fun W => by
    have := isTenant_is W i
    rwa [hvT] at this
  have KR : Hid (∀ W : World, Calls Try.prog 35 #[.int .i64 r] W fun e w' => e = .returned (.bool true) ∧ w' = W) := fun W => by
    have := isRoot_is W r
    rwa [hvR] at this
  obtain ⟨mq, mg, h1, hF⟩ := h
  obtain ⟨c0, c1⟩ := tab_cells h1.box
  have lk := h1.sq.look2 i hI
  rw [hs] at lk
  generalize (Q i).getD 0 = x at lk
  clear h1 hF hI hvT hvR hs hi hr
  go_enter Try.func25, Try.ntmps25
  go_wp2_with fail
  refine (KN.out _ rfl).mono ?_
  rintro e w1 ⟨rfl, hw⟩
  obtain rfl := hw.symm
  clear hw
  go_wp2_with fail
  refine (KT.out _).mono ?_
  rintro e w1 ⟨rfl, hw⟩
  obtain rfl := hw.symm
  clear hw
  go_wp2_with fail
  refine (KR.out _).mono ?_
  rintro e w1 ⟨rfl, hw⟩
  obtain rfl := hw.symm
  clear hw
  go_wp2_with fail
  go_ret
  exact ⟨rfl, rfl⟩
theorem check_is (w : World) (F : Nat → Prop) (b N : Nat) (Q : Qm) (G : Gm) (h : Tab w F b N Q G) (i r : Int) : Calls Try.prog 25 #[.pointer (some ⟨b, 0, none⟩), .int .i64 i, .int .i64 r] w fun e w' => e = .returned (.int .i64 (ckE Q i r)) ∧ w' = w := by
  unfold ckE
  by_cases hb : i < 1 ∨ 8 < i ∨ r < 1 ∨ 6 < r
  · rw [if_pos hb]
    by_cases hi : 1 ≤ i ∧ i ≤ 8
    · exact check_rt w F b N Q G h i r hi (by omega)
    · exact check_tn w F b N Q G h i r hi
  · rw [if_neg hb]
    cases hs : (Q i).isSome with
    | false => exact check_no w F b N Q G h i r (by omega) (by omega) hs
    | true => exact check_yes w F b N Q G h i r (by omega) (by omega) hs
set_option maxRecDepth 100000 in
set_option maxHeartbeats 2000000 in
theorem gr_no (w : World) (F : Nat → Prop) (b N : Nat) (Q : Qm) (G : Gm) (h : Tab w F b N Q G) (i r x : Int) (hc : ckE Q i r = x) (hx : x ≠ 0) : Calls Try.prog 11 #[.pointer (some ⟨b, 0, none⟩), .int .i64 i, .int .i64 r] w fun e w' => e = .returned (.int .i64 x) ∧ w' = w := by
  have KC : Hid (∀ W, W = w → Calls Try.prog 25 #[.pointer (some ⟨b, 0, none⟩), .int .i64 i, .int .i64 r] W fun e w' => e = .returned (.int .i64 x) ∧ w' = W) := fun W hW => by
    rw [hW]
    have := check_is w F b N Q G h i r
    rwa [hc] at this
  have d1 : (x == 0) = false := by simpa using hx
  clear h hc hx
  go_enter Try.func11, Try.ntmps11
  go_wp2_with fail
  refine (KC.out _ rfl).mono ?_
  rintro e w1 ⟨rfl, hw⟩
  obtain rfl := hw.symm
  clear hw
  go_wp2_with fail
  go_ret
  exact ⟨rfl, rfl⟩
set_option maxRecDepth 100000 in
set_option maxHeartbeats 2000000 in
theorem gr_yes (w : World) (F : Nat → Prop) (b N : Nat) (Q : Qm) (G : Gm) (h : Tab w F b N Q G) (hN : N < 4611686018427387904) (i r : Int) (hc : ckE Q i r = 0) : Calls Try.prog 11 #[.pointer (some ⟨b, 0, none⟩), .int .i64 i, .int .i64 r] w fun e w' => e = .returned (.int .i64 0) ∧ Tab w' F b (N + 1) (Q) (fun k => if k = (i, r) then some () else G k) ∧ Off F w w' := by
  have KC : Hid (∀ W, W = w → Calls Try.prog 25 #[.pointer (some ⟨b, 0, none⟩), .int .i64 i, .int .i64 r] W fun e w' => e = .returned (.int .i64 0) ∧ w' = W) := fun W hW => by
    rw [hW]
    have := check_is w F b N Q G h i r
    rwa [hc] at this
  have hgd : Gd Q (fun k => if k = (i, r) then some () else G k) := by
    have := h.gd.gr i r
    unfold grG at this
    rw [if_pos hc] at this
    exact this
  have hI : InL (i, r) := by
    have := ckE_zero hc
    unfold InL InI
    simp only
    omega
  obtain ⟨mq, mg, h1, hF⟩ := h
  obtain ⟨c0, c1⟩ := tab_cells h1.box
  have H1 : Hid (Tb w b mq mg N Q G ∧ (∀ k, F k ↔ TF b mq mg k) ∧ InL (i, r) ∧ N < 4611686018427387904) := ⟨h1, hF, hI, hN⟩
  have HG : Hid (Gd Q (fun k => if k = (i, r) then some () else G k)) := hgd
  clear h1 hF hI hgd hN hc
  go_enter Try.func11, Try.ntmps11
  go_wp2_with fail
  refine (KC.out _ rfl).mono ?_
  rintro e w1 ⟨rfl, hw⟩
  obtain rfl := hw.symm
  clear hw
  go_wp2_with (first | (at_mapUpdate; refine wpList_put_scg rfl (.tmp 18) (.tmp 21) (.tmp 22) rfl mg N G rfl H1.out.1.sg H1.out.2.2.2 (i, r) H1.out.2.2.1 () rfl rfl ?_; intro u5 s5 g5; have S5 : Hid (ScG u5 mg (N + 1) (fun k => if k = (i, r) then some () else G k) ∧ w.grownBy u5 (some mg)) := ⟨s5, g5⟩; clear s5 g5))
  go_ret
  obtain ⟨s5, g5⟩ := S5.out
  obtain ⟨t1, f1, _, _⟩ := H1.out
  refine ⟨rfl, ⟨mq, mg, ⟨?_, ?_, s5, t1.ne, HG.out⟩, f1⟩, (Off.refl F w).grown g5 (fun k hk => by cases hk; exact .inl ((f1 mg).2 (.inr (.inr rfl))))⟩
  · rw [g5.block b (lt_of_heapK t1.box) (fun e => t1.ne.2.1 (Option.some.inj e))]
    exact t1.box
  · exact (t1.sq.blk (g5.block mq t1.sq.lt (fun e => t1.ne.2.2 (Option.some.inj e)))).mono (by omega)
theorem grant_is (w : World) (F : Nat → Prop) (b N : Nat) (Q : Qm) (G : Gm) (h : Tab w F b N Q G) (hN : N < 4611686018427387904) (i r : Int) : Calls Try.prog 11 #[.pointer (some ⟨b, 0, none⟩), .int .i64 i, .int .i64 r] w fun e w' => e = .returned (.int .i64 (ckE Q i r)) ∧ Tab w' F b (N + 1) Q (grG Q G i r) ∧ Off F w w' := by
  unfold grG
  by_cases hc : ckE Q i r = 0
  · rw [if_pos hc, hc]
    refine (gr_yes w F b N Q G h hN i r hc).mono ?_
    rintro e w' ⟨rfl, t1, o1⟩
    exact ⟨rfl, t1.more (by omega), o1⟩
  · rw [if_neg hc]
    refine (gr_no w F b N Q G h i r _ rfl hc).mono ?_
    rintro e w' ⟨rfl, rfl⟩
    exact ⟨rfl, h.more (Nat.le_succ _), Off.refl _ _⟩
set_option maxRecDepth 100000 in
set_option maxHeartbeats 2000000 in
theorem rv_no (w : World) (F : Nat → Prop) (b N : Nat) (Q : Qm) (G : Gm) (h : Tab w F b N Q G) (i r x : Int) (hc : ckE Q i r = x) (hx : x ≠ 0) : Calls Try.prog 16 #[.pointer (some ⟨b, 0, none⟩), .int .i64 i, .int .i64 r] w fun e w' => e = .returned (.int .i64 x) ∧ w' = w := by
  have KC : Hid (∀ W, W = w → Calls Try.prog 25 #[.pointer (some ⟨b, 0, none⟩), .int .i64 i, .int .i64 r] W fun e w' => e = .returned (.int .i64 x) ∧ w' = W) := fun W hW => by
    rw [hW]
    have := check_is w F b N Q G h i r
    rwa [hc] at this
  have d1 : (x == 0) = false := by simpa using hx
  clear h hc hx
  go_enter Try.func16, Try.ntmps16
  go_wp2_with fail
  refine (KC.out _ rfl).mono ?_
  rintro e w1 ⟨rfl, hw⟩
  obtain rfl := hw.symm
  clear hw
  go_wp2_with fail
  go_ret
  exact ⟨rfl, rfl⟩
set_option maxRecDepth 100000 in
set_option maxHeartbeats 2000000 in
theorem rv_yes (w : World) (F : Nat → Prop) (b N : Nat) (Q : Qm) (G : Gm) (h : Tab w F b N Q G) (hN : N < 4611686018427387904) (i r : Int) (hc : ckE Q i r = 0) : Calls Try.prog 16 #[.pointer (some ⟨b, 0, none⟩), .int .i64 i, .int .i64 r] w fun e w' => e = .returned (.int .i64 0) ∧ Tab w' F b (N) (Q) (fun k => if k = (i, r) then none else G k) ∧ Off F w w' := by
  have KC : Hid (∀ W, W = w → Calls Try.prog 25 #[.pointer (some ⟨b, 0, none⟩), .int .i64 i, .int .i64 r] W fun e w' => e = .returned (.int .i64 0) ∧ w' = W) := fun W hW => by
    rw [hW]
    have := check_is w F b N Q G h i r
    rwa [hc] at this
  have hgd : Gd Q (fun k => if k = (i, r) then none else G k) := by
    have := h.gd.rv i r
    unfold rvG at this
    rw [if_pos hc] at this
    exact this
  have hI : InL (i, r) := by
    have := ckE_zero hc
    unfold InL InI
    simp only
    omega
  obtain ⟨mq, mg, h1, hF⟩ := h
  obtain ⟨c0, c1⟩ := tab_cells h1.box
  have H1 : Hid (Tb w b mq mg N Q G ∧ (∀ k, F k ↔ TF b mq mg k) ∧ InL (i, r) ∧ N < 4611686018427387904) := ⟨h1, hF, hI, hN⟩
  have HG : Hid (Gd Q (fun k => if k = (i, r) then none else G k)) := hgd
  clear h1 hF hI hgd hN hc
  go_enter Try.func16, Try.ntmps16
  go_wp2_with fail
  refine (KC.out _ rfl).mono ?_
  rintro e w1 ⟨rfl, hw⟩
  obtain rfl := hw.symm
  clear hw
  go_wp2_with (first | (at_delete; refine wpList_del_scg rfl (.tmp 18) (.tmp 21) rfl mg N G rfl H1.out.1.sg (i, r) H1.out.2.2.1 rfl ?_; intro u5 s5 g5; have S5 : Hid (ScG u5 mg N (fun k => if k = (i, r) then none else G k) ∧ w.grownBy u5 (some mg)) := ⟨s5, g5⟩; clear s5 g5))
  go_ret
  obtain ⟨s5, g5⟩ := S5.out
  obtain ⟨t1, f1, _, _⟩ := H1.out
  refine ⟨rfl, ⟨mq, mg, ⟨?_, ?_, s5, t1.ne, HG.out⟩, f1⟩, (Off.refl F w).grown g5 (fun k hk => by cases hk; exact .inl ((f1 mg).2 (.inr (.inr rfl))))⟩
  · rw [g5.block b (lt_of_heapK t1.box) (fun e => t1.ne.2.1 (Option.some.inj e))]
    exact t1.box
  · exact (t1.sq.blk (g5.block mq t1.sq.lt (fun e => t1.ne.2.2 (Option.some.inj e)))).mono (by omega)
theorem revoke_is (w : World) (F : Nat → Prop) (b N : Nat) (Q : Qm) (G : Gm) (h : Tab w F b N Q G) (hN : N < 4611686018427387904) (i r : Int) : Calls Try.prog 16 #[.pointer (some ⟨b, 0, none⟩), .int .i64 i, .int .i64 r] w fun e w' => e = .returned (.int .i64 (ckE Q i r)) ∧ Tab w' F b (N + 1) Q (rvG Q G i r) ∧ Off F w w' := by
  unfold rvG
  by_cases hc : ckE Q i r = 0
  · rw [if_pos hc, hc]
    refine (rv_yes w F b N Q G h hN i r hc).mono ?_
    rintro e w' ⟨rfl, t1, o1⟩
    exact ⟨rfl, t1.more (by omega), o1⟩
  · rw [if_neg hc]
    refine (rv_no w F b N Q G h i r _ rfl hc).mono ?_
    rintro e w' ⟨rfl, rfl⟩
    exact ⟨rfl, h.more (Nat.le_succ _), Off.refl _ _⟩
set_option maxRecDepth 100000 in
set_option maxHeartbeats 2000000 in
theorem may_is (w : World) (F : Nat → Prop) (b N : Nat) (Q : Qm) (G : Gm) (h : Tab w F b N Q G) (i r : Int) (hi : InI i) (hr : InI r) : Calls Try.prog 17 #[.pointer (some ⟨b, 0, none⟩), .int .i64 i, .int .i64 r] w fun e w' => e = .returned (.bool (G (i, r)).isSome) ∧ Below w.heap.size w w' := by
  have KN : Hid (∀ W, W = w → Calls Try.prog 22 #[.pointer (some ⟨b, 0, none⟩)] W fun e w' => e = .returned (.bool false) ∧ w' = W) := fun W hW => by rw [hW]; exact none_is w F b N Q G h
  obtain ⟨mq, mg, h1, hF⟩ := h
  obtain ⟨c0, c1⟩ := tab_cells h1.box
  have lk := h1.sg.look2 (i, r) ⟨hi, hr⟩
  unfold lkV uv at lk
  simp only at lk
  generalize (G (i, r)).isSome = x at *
  have HB : Hid (∀ o, Below w.heap.size w (w.alloc o)) := fun o => below1 w o
  clear h1 hF hi hr
  go_enter Try.func17, Try.ntmps17
  go_wp2_with fail
  refine (KN.out _ rfl).mono ?_
  rintro e w1 ⟨rfl, hw⟩
  obtain rfl := hw.symm
  clear hw
  go_wp2_with fail
  go_ret
  exact ⟨rfl, HB.out _⟩
set_option maxRecDepth 100000 in
set_option maxHeartbeats 2000000 in
theorem quota_is (w : World) (F : Nat → Prop) (b N : Nat) (Q : Qm) (G : Gm) (h : Tab w F b N Q G) (i : Int) (hi : InI i) : Calls Try.prog 15 #[.pointer (some ⟨b, 0, none⟩), .int .i64 i] w fun e w' => e = .returned (.tuple #[.int .i64 ((Q i).getD 0), .bool (Q i).isSome]) ∧ w' = w := by
  have KN : Hid (∀ W, W = w → Calls Try.prog 22 #[.pointer (some ⟨b, 0, none⟩)] W fun e w' => e = .returned (.bool false) ∧ w' = W) := fun W hW => by rw [hW]; exact none_is w F b N Q G h
  obtain ⟨mq, mg, h1, hF⟩ := h
  obtain ⟨c0, c1⟩ := tab_cells h1.box
  have lk := h1.sq.look2 i hi
  generalize (Q i).isSome = x at *
  generalize (Q i).getD 0 = y at *
  clear h1 hF hi
  go_enter Try.func15, Try.ntmps15
  go_wp2_with fail
  refine (KN.out _ rfl).mono ?_
  rintro e w1 ⟨rfl, hw⟩
  obtain rfl := hw.symm
  clear hw
  go_wp2_with fail
  go_ret2
  exact ⟨rfl, rfl⟩
set_option maxRecDepth 100000 in
set_option maxHeartbeats 2000000 in
theorem ft_none (w : World) (F : Nat → Prop) (b N : Nat) (Q : Qm) (G : Gm) (h : Tab w F b N Q G) (i u m : Int) (hi : InI i) (hs : Q i = none) : Calls Try.prog 18 #[.pointer (some ⟨b, 0, none⟩), .int .i64 i, .int .i64 u, .int .i64 m] w fun e w' => e = .returned (.int .i64 9) ∧ w' = w := by
  have KN : Hid (∀ W, W = w → Calls Try.prog 22 #[.pointer (some ⟨b, 0, none⟩)] W fun e w' => e = .returned (.bool false) ∧ w' = W) := fun W hW => by rw [hW]; exact none_is w F b N Q G h
  obtain ⟨mq, mg, h1, hF⟩ := h
  obtain ⟨c0, c1⟩ := tab_cells h1.box
  have lk := h1.sq.look2 i hi
  rw [hs] at lk
  simp only [Option.getD_none, Option.isSome_none] at lk
  clear h1 hF hi hs
  go_enter Try.func18, Try.ntmps18
  go_wp2_with fail
  refine (KN.out _ rfl).mono ?_
  rintro e w1 ⟨rfl, hw⟩
  obtain rfl := hw.symm
  clear hw
  go_wp2_with fail
  go_ret
  exact ⟨rfl, rfl⟩
set_option maxRecDepth 100000 in
set_option maxHeartbeats 2000000 in
theorem ft_neg1 (w : World) (F : Nat → Prop) (b N : Nat) (Q : Qm) (G : Gm) (h : Tab w F b N Q G) (i u m : Int) (hi : InI i) (q : Int) (hs : Q i = some q) (hu : u < 0) : Calls Try.prog 18 #[.pointer (some ⟨b, 0, none⟩), .int .i64 i, .int .i64 u, .int .i64 m] w fun e w' => e = .returned (.int .i64 2) ∧ w' = w := by
  have KN : Hid (∀ W, W = w → Calls Try.prog 22 #[.pointer (some ⟨b, 0, none⟩)] W fun e w' => e = .returned (.bool false) ∧ w' = W) := fun W hW => by rw [hW]; exact none_is w F b N Q G h
  obtain ⟨mq, mg, h1, hF⟩ := h
  obtain ⟨c0, c1⟩ := tab_cells h1.box
  have lk := h1.sq.look2 i hi
  rw [hs] at lk
  simp only [Option.getD_some, Option.isSome_some] at lk
  have d1 : decide (u < 0) = true := decide_eq_true hu
  clear h1 hF hi hs hu
  go_enter Try.func18, Try.ntmps18
  go_wp2_with fail
  refine (KN.out _ rfl).mono ?_
  rintro e w1 ⟨rfl, hw⟩
  obtain rfl := hw.symm
  clear hw
  go_wp2_with fail
  go_ret
  exact ⟨rfl, rfl⟩
set_option maxRecDepth 100000 in
set_option maxHeartbeats 2000000 in
theorem ft_neg2 (w : World) (F : Nat → Prop) (b N : Nat) (Q : Qm) (G : Gm) (h : Tab w F b N Q G) (i u m : Int) (hi : InI i) (q : Int) (hs : Q i = some q) (hu : 0 ≤ u) (hm : m < 0) : Calls Try.prog 18 #[.pointer (some ⟨b, 0, none⟩), .int .i64 i, .int .i64 u, .int .i64 m] w fun e w' => e = .returned (.int .i64 2) ∧ w' = w := by
  have KN : Hid (∀ W, W = w → Calls Try.prog 22 #[.pointer (some ⟨b, 0, none⟩)] W fun e w' => e = .returned (.bool false) ∧ w' = W) := fun W hW => by rw [hW]; exact none_is w F b N Q G h
  obtain ⟨mq, mg, h1, hF⟩ := h
  obtain ⟨c0, c1⟩ := tab_cells h1.box
  have lk := h1.sq.look2 i hi
  rw [hs] at lk
  simp only [Option.getD_some, Option.isSome_some] at lk
  have d1 : decide (u < 0) = false := by rw [decide_eq_false_iff_not]; omega
  have d2 : decide (m < 0) = true := decide_eq_true hm
  clear h1 hF hi hs hu hm
  go_enter Try.func18, Try.ntmps18
  go_wp2_with fail
  refine (KN.out _ rfl).mono ?_
  rintro e w1 ⟨rfl, hw⟩
  obtain rfl := hw.symm
  clear hw
  go_wp2_with fail
  go_ret
  exact ⟨rfl, rfl⟩
set_option maxRecDepth 100000 in
set_option maxHeartbeats 2000000 in
theorem ft_big (w : World) (F : Nat → Prop) (b N : Nat) (Q : Qm) (G : Gm) (h : Tab w F b N Q G) (i u m : Int) (hi : InI i) (q : Int) (hs : Q i = some q) (hu : 0 ≤ u) (hm : 0 ≤ m) (hu9 : u ≤ 9223372036854775807) (hb : q - u < m) : Calls Try.prog 18 #[.pointer (some ⟨b, 0, none⟩), .int .i64 i, .int .i64 u, .int .i64 m] w fun e w' => e = .returned (.int .i64 17) ∧ w' = w := by
  have KN : Hid (∀ W, W = w → Calls Try.prog 22 #[.pointer (some ⟨b, 0, none⟩)] W fun e w' => e = .returned (.bool false) ∧ w' = W) := fun W hW => by rw [hW]; exact none_is w F b N Q G h
  obtain ⟨mq, mg, h1, hF⟩ := h
  obtain ⟨c0, c1⟩ := tab_cells h1.box
  have lk := h1.sq.look2 i hi
  rw [hs] at lk
  simp only [Option.getD_some, Option.isSome_some] at lk
  have d1 : decide (u < 0) = false := by rw [decide_eq_false_iff_not]; omega
  have d2 : decide (m < 0) = false := by rw [decide_eq_false_iff_not]; omega
  have hw : IntKind.i64.wrap (q - u) = q - u := by
    have := h1.gd.q i q hs
    rw [IntKind.wrap_i64]; omega
  have d3 : decide (q - u < m) = true := decide_eq_true hb
  clear h1 hF hi hs hu hm hu9 hb
  go_enter Try.func18, Try.ntmps18
  go_wp2_with fail
  refine (KN.out _ rfl).mono ?_
  rintro e w1 ⟨rfl, hw⟩
  obtain rfl := hw.symm
  clear hw
  go_wp2_with fail
  go_ret
  exact ⟨rfl, rfl⟩
set_option maxRecDepth 100000 in
set_option maxHeartbeats 2000000 in
theorem ft_ok (w : World) (F : Nat → Prop) (b N : Nat) (Q : Qm) (G : Gm) (h : Tab w F b N Q G) (i u m : Int) (hi : InI i) (q : Int) (hs : Q i = some q) (hu : 0 ≤ u) (hm : 0 ≤ m) (hu9 : u ≤ 9223372036854775807) (hb : ¬ q - u < m) : Calls Try.prog 18 #[.pointer (some ⟨b, 0, none⟩), .int .i64 i, .int .i64 u, .int .i64 m] w fun e w' => e = .returned (.int .i64 0) ∧ w' = w := by
  have KN : Hid (∀ W, W = w → Calls Try.prog 22 #[.pointer (some ⟨b, 0, none⟩)] W fun e w' => e = .returned (.bool false) ∧ w' = W) := fun W hW => by rw [hW]; exact none_is w F b N Q G h
  obtain ⟨mq, mg, h1, hF⟩ := h
  obtain ⟨c0, c1⟩ := tab_cells h1.box
  have lk := h1.sq.look2 i hi
  rw [hs] at lk
  simp only [Option.getD_some, Option.isSome_some] at lk
  have d1 : decide (u < 0) = false := by rw [decide_eq_false_iff_not]; omega
  have d2 : decide (m < 0) = false := by rw [decide_eq_false_iff_not]; omega
  have hw : IntKind.i64.wrap (q - u) = q - u := by
    have := h1.gd.q i q hs
    rw [IntKind.wrap_i64]; omega
  have d3 : decide (q - u < m) = false := decide_eq_false hb
  clear h1 hF hi hs hu hm hu9 hb
  go_enter Try.func18, Try.ntmps18
  go_wp2_with fail
  refine (KN.out _ rfl).mono ?_
  rintro e w1 ⟨rfl, hw⟩
  obtain rfl := hw.symm
  clear hw
  go_wp2_with fail
  go_ret
  exact ⟨rfl, rfl⟩
theorem fits_is (w : World) (F : Nat → Prop) (b N : Nat) (Q : Qm) (G : Gm) (h : Tab w F b N Q G) (i u m : Int) (hi : InI i) (hu : InI u) (hm : InI m) : Calls Try.prog 18 #[.pointer (some ⟨b, 0, none⟩), .int .i64 i, .int .i64 u, .int .i64 m] w fun e w' => e = .returned (.int .i64 (ftE Q i u m)) ∧ w' = w := by
  unfold ftE
  cases hs : Q i with
  | none => exact ft_none w F b N Q G h i u m hi hs
  | some q =>
    simp only
    by_cases h1 : u < 0 ∨ m < 0
    · rw [if_pos h1]
      by_cases h2 : u < 0
      · exact ft_neg1 w F b N Q G h i u m hi q hs h2
      · exact ft_neg2 w F b N Q G h i u m hi q hs (by omega) (by omega)
    · rw [if_neg h1]
      by_cases h2 : q - u < m
      · rw [if_pos h2]
        exact ft_big w F b N Q G h i u m hi q hs (by omega) (by omega) hu.2 h2
      · rw [if_neg h2]
        exact ft_ok w F b N Q G h i u m hi q hs (by omega) (by omega) hu.2 h2
end Go.Proofs.Ytgfjhghhonaiiaa
