/- Send of one message without packages; works. -/
import Derived.Test.YtokakhlkanakcaaWrV
namespace Go.Proofs.Ytokakhlkanakcaa
open Go.ChangeShapes Go.WideShapes Go.ChangeAt Go.RowKit Go.Deep Go.Maps
set_option linter.unusedVariables false
set_option linter.unusedSimpArgs false
def askM : Mv := ⟨6, 2, 0, 7, false, none, 0, 0⟩
theorem inI2 : InI 2 := by unfold InI; omega
theorem inI0 : InI 0 := by unfold InI; omega
set_option maxRecDepth 100000 in
set_option maxHeartbeats 4000000 in
theorem send_ask (w : World) (F : Nat → Prop) (b N : Nat) (T : Pl → List Mv) (h : Net w F b N T) (hN : N < 1000000000) (hL : (T (.inl (2, 0))).length < 64) :
    Calls Try.prog 16 #[.pointer (some ⟨b, 0, none⟩), .agg #[.int .i64 6, .int .i64 2, .int .i64 0, .int .i64 7, .bool false, .slice none 0 0]] w fun e w' => e = .returned (.int .i64 0) ∧ ∃ F', Net w' F' b (N + 1) (putT T (.inl (2, 0)) (T (.inl (2, 0)) ++ [askM])) ∧ Step F F' w w' := by
  have KN : Hid (∀ W, Below w.heap.size w W → Calls Try.prog 29 #[.pointer (some ⟨b, 0, none⟩)] W fun e w' => e = .returned (.bool false) ∧ w' = W) := fun W hW => none_is W F b N T (h.keep hW)
  have KK : Hid (∀ W : World, Calls Try.prog 39 #[.agg #[.int .i64 6, .int .i64 2, .int .i64 0, .int .i64 7, .bool false, .slice none 0 0]] W fun e w' => e = .returned (.int .i64 0) ∧ Below W.heap.size W w') := check_ask
  have KC : Hid (∀ W : World, Calls Try.prog 41 #[.agg #[.int .i64 6, .int .i64 2, .int .i64 0, .int .i64 7, .bool false, .slice none 0 0]] W fun e w' => e = .returned (.agg #[.int .i64 6, .int .i64 2, .int .i64 0, .int .i64 7, .bool false, .slice none 0 0]) ∧ Below W.heap.size W w') := fun W => copied_bare W askM ⟨rfl, rfl, rfl⟩
  have KL : Hid (∀ W, Below w.heap.size w W → Calls Try.prog 40 #[.pointer (some ⟨b, 0, none⟩), .agg #[.int .i64 6, .int .i64 2, .int .i64 0, .int .i64 7, .bool false, .slice none 0 0]] W fun e w' => e = .returned (.int .i64 0) ∧ ∃ F', Net w' F' b (N + 1) (putT T (.inl (2, 0)) (T (.inl (2, 0)) ++ [askM])) ∧ Step F F' w w') := fun W hW => by
    refine (letGo_is W F b N T (h.keep hW) hN askM inI2 inI0 hL).mono ?_
    rintro e w' ⟨rfl, F', h1, h2⟩
    exact ⟨rfl, F', h1, (Step.below hW).trans h2⟩
  have B0 : Hid (∀ o, Below w.heap.size w (w.alloc o)) := fun o => below1 _ _
  clear h hN hL
  go_enter Try.func16, Try.ntmps16
  go_wp2_with fail
  refine (KN.out _ (B0.out _)).mono ?_
  rintro e w1 ⟨rfl, hw⟩
  obtain rfl := hw.symm
  clear hw
  go_wp2_with fail
  refine (KK.out _).mono ?_
  rintro e w2 ⟨rfl, hb2⟩
  have B2 : Hid (Below w.heap.size w w2) := (B0.out _).trans (hb2.mono (B0.out _).size)
  have hM : w2.heap[w.heap.size]? = some (.cells (mC askM) 31) := (hb2.block _ (by simp)).trans (heap_alloc_new w _)
  obtain ⟨c0, c1, c2, c3, c4, c5⟩ := mc_cells hM
  simp only [askM] at c0 c1 c2 c3 c4 c5
  clear hb2 hM
  go_wp2_with fail
  refine (KC.out _).mono ?_
  rintro e w3 ⟨rfl, hb3⟩
  have B3 : Hid (Below w.heap.size w w3) := B2.out.trans (hb3.mono B2.out.size)
  clear hb3 c0 c1 c2 c3 c4 c5
  go_wp2_with fail
  refine (KL.out _ B3.out).mono ?_
  rintro e w4 ⟨rfl, F', h1, h2⟩
  have H4 : Hid (Net w4 F' b (N + 1) (putT T (.inl (2, 0)) (T (.inl (2, 0)) ++ [askM])) ∧ Step F F' w w4) := ⟨h1, h2⟩
  clear h1 h2
  go_wp2_with fail
  go_ret
  exact ⟨rfl, F', H4.out⟩
set_option maxRecDepth 100000 in
set_option maxHeartbeats 4000000 in
theorem wworks_true (w : World) : Calls Try.prog 14 #[] w fun e w' => e = .returned (.bool true) ∧ Below w.heap.size w w' := by
  have KN : Hid (Calls Try.prog 8 #[] w fun e w' => ∃ b F, e = .returned (.pointer (some ⟨b, 0, none⟩)) ∧ Net w' F b 0 (fun _ => []) ∧ Below w.heap.size w w' ∧ ∀ k, F k → w.heap.size ≤ k) := new_is w
  go_enter Try.func14, Try.ntmps14
  go_wp2_with fail
  refine KN.out.mono ?_
  rintro e w1 ⟨b, F1, rfl, n1, b1, f1⟩
  have H1 : Hid (Net w1 F1 b 0 (fun _ => []) ∧ Below w.heap.size w w1 ∧ ∀ k, F1 k → w.heap.size ≤ k) := ⟨n1, b1, f1⟩
  have K1 : Hid (Calls Try.prog 16 #[.pointer (some ⟨b, 0, none⟩), .agg #[.int .i64 6, .int .i64 2, .int .i64 0, .int .i64 7, .bool false, .slice none 0 0]] w1 fun e w' => e = .returned (.int .i64 0) ∧ ∃ F', Net w' F' b 1 (putT (fun _ => []) (.inl (2, 0)) [askM]) ∧ Step F1 F' w1 w') := send_ask w1 F1 b 0 (fun _ => []) n1 (by omega) (by simp)
  clear n1 b1 f1 KN
  go_wp2_with fail
  refine K1.out.mono ?_
  rintro e w2 ⟨rfl, F2, n2, s2⟩
  obtain ⟨T2, hT2⟩ : ∃ T2, putT (fun _ => []) (.inl (2, 0)) [askM] = T2 := ⟨_, rfl⟩
  rw [hT2] at n2
  have t2 : T2 (.inl (2, 0)) = [askM] ∧ T2 (.inr 0) = [] := by
    subst hT2
    unfold putT
    exact ⟨if_pos rfl, if_neg fun e => by cases e⟩
  have H2 : Hid (Step F1 F2 w1 w2) := s2
  have K2 : Hid (Calls Try.prog 18 #[.pointer (some ⟨b, 0, none⟩), .int .i64 2, .int .i64 0, .int .i64 0] w2 fun e w' => e = .returned (.int .i64 0) ∧ ∃ F', Net w' F' b 2 (putT T2 (.inl (2, 0)) [askM, askM]) ∧ Step F2 F' w2 w') := by
    have q := double_yes w2 F2 b 1 T2 n2 (by omega) 2 0 0 askM (by rw [t2.1]; rfl) rfl rfl inI2 inI0 (by rw [t2.1]; simp)
    rw [t2.1] at q
    exact q
  have HT2 : Hid (T2 (.inr 0) = []) := t2.2
  clear hT2 n2 s2 t2 K1
  go_wp2_with fail
  refine K2.out.mono ?_
  rintro e w3 ⟨rfl, F3, n3, s3⟩
  obtain ⟨T3, hT3⟩ : ∃ T3, putT T2 (.inl (2, 0)) [askM, askM] = T3 := ⟨_, rfl⟩
  rw [hT3] at n3
  have t3 : T3 (.inl (2, 0)) = [askM, askM] ∧ T3 (.inr 0) = [] := by
    subst hT3
    unfold putT
    exact ⟨if_pos rfl, (if_neg fun e => by cases e).trans HT2.out⟩
  have H3 : Hid (Step F1 F3 w1 w3) := H2.out.trans s3
  have K3 : Hid (Calls Try.prog 20 #[.pointer (some ⟨b, 0, none⟩), .int .i64 2, .int .i64 0, .int .i64 1] w3 fun e w' => e = .returned (.int .i64 0) ∧ ∃ F', Net w' F' b 4 (putT (putT T3 (.inl (2, 0)) [askM]) (.inr 0) [askM]) ∧ Step F3 F' w3 w') := by
    have q := deliver_yes w3 F3 b 2 T3 n3 (by omega) 2 0 1 askM (by rw [t3.1]; rfl) (by rw [t3.1]; simp) (by rw [t3.2]; simp) inI2 inI0
    rw [t3.1, t3.2] at q
    exact q
  clear hT3 n3 s3 t3 K2 H2 HT2
  go_wp2_with fail
  refine K3.out.mono ?_
  rintro e w4 ⟨rfl, F4, n4, s4⟩
  obtain ⟨T4, hT4⟩ : ∃ T4, putT (putT T3 (.inl (2, 0)) [askM]) (.inr 0) [askM] = T4 := ⟨_, rfl⟩
  rw [hT4] at n4
  have t4 : T4 (.inl (2, 0)) = [askM] ∧ T4 (.inr 0) = [askM] := by
    subst hT4
    unfold putT
    exact ⟨(if_neg fun e => by cases e).trans (if_pos rfl), if_pos rfl⟩
  have H4 : Hid (Below w.heap.size w w4) := by
    have s := H3.out.trans s4
    have o := s.off
    have b1 := H1.out.2.1
    refine b1.trans ⟨o.os, o.tape, o.output, o.size, fun k hk => o.block k (Nat.lt_of_lt_of_le hk b1.size) fun e => ?_⟩
    have := H1.out.2.2 k e
    omega
  have BA : ∀ m ∈ [askM], Bare m := fun m hm => by rw [List.mem_singleton.1 hm]; exact ⟨rfl, rfl, rfl⟩
  have N4 : Hid (Net w4 F4 b 4 T4) := n4
  have K4 : Hid (Calls Try.prog 24 #[.pointer (some ⟨b, 0, none⟩), .int .i64 2, .int .i64 0] w4 fun e w' => ∃ v, e = .returned v ∧ OwnM w' w4.heap.size v [askM] ∧ Below w4.heap.size w4 w') := by
    have q := link_bare w4 F4 b 4 T4 n4 2 0 inI2 inI0 (by rw [t4.1]; simp) (by rw [t4.1]; exact BA)
    rw [t4.1] at q
    exact q
  have K5 : Hid (∀ W, Net W F4 b 4 T4 → Calls Try.prog 26 #[.pointer (some ⟨b, 0, none⟩), .int .i64 0] W fun e w' => ∃ v, e = .returned v ∧ OwnM w' W.heap.size v [askM] ∧ Below W.heap.size W w') := fun W hW => by
    have q := box_bare W F4 b 4 T4 hW 0 inI0 (by rw [t4.2]; simp) (by rw [t4.2]; exact BA)
    rw [t4.2] at q
    exact q
  clear hT4 n4 s4 t4 K3 H3 BA
  go_wp2_with fail
  refine K4.out.mono ?_
  rintro e w5 ⟨v5, rfl, o5, b5⟩
  obtain ⟨a5, c5, rfl, _⟩ := o5.slice
  have N5 : Hid (Net w5 F4 b 4 T4) := N4.out.keep b5
  have H5 : Hid (Below w.heap.size w w5) := H4.out.trans (b5.mono H4.out.size)
  clear o5 b5
  simp only [List.length_singleton]
  go_wp2_with fail
  refine (K5.out _ N5.out).mono ?_
  rintro e w6 ⟨v6, rfl, o6, b6⟩
  obtain ⟨a6, c6, rfl, _⟩ := o6.slice
  have H6 : Hid (Below w.heap.size w w6) := H5.out.trans (b6.mono H5.out.size)
  clear o6 b6
  simp only [List.length_singleton]
  go_wp2_with fail
  go_ret
  exact ⟨rfl, H6.out⟩
end Go.Proofs.Ytokakhlkanakcaa
