/- Tenants, Roots, SameNumbers, works. -/
import Derived.Test.YtgfjhghhonaiiaaCpC
import Derived.BigQuiet
namespace Go.Proofs.Ytgfjhghhonaiiaa
open Go.ChangeShapes Go.WideShapes Go.ChangeAt Go.RowKit Go.Deep Go.Maps
set_option linter.unusedVariables false
set_option linter.unusedSimpArgs false
/-- the numbers from 1 to j that are -/
def sel (T : Int → Bool) : Nat → List Int
  | 0 => []
  | j + 1 => sel T j ++ (if T ((j : Int) + 1) then [(j : Int) + 1] else [])
theorem sel_len (T : Int → Bool) (j : Nat) : (sel T j).length ≤ j := by
  induction j with
  | zero => exact Nat.le_refl _
  | succ j ih =>
    unfold sel
    rw [List.length_append]
    split <;> simp <;> omega
theorem sel_congr {T U : Int → Bool} (j : Nat) (h : ∀ k : Int, 1 ≤ k → k ≤ j → T k = U k) : sel T j = sel U j := by
  induction j with
  | zero => rfl
  | succ j ih =>
    unfold sel
    rw [ih (fun k h1 h2 => h k h1 (by omega)), h ((j : Int) + 1) (by omega) (by omega)]
theorem inZ_one (w : World) (x : Int) : InZ (w.alloc (.cells #[.int .i64 x] 3)) (some ⟨w.heap.size, 0, none⟩) [x] := by
  refine .inr ⟨w.heap.size, 0, rfl, by simp, fun i y hy => ?_⟩
  cases i with
  | zero =>
    cases hy
    unfold World.cell?
    simp only [Nat.zero_add]
    rw [heap_alloc_new]
    rfl
  | succ i => cases hy
set_option maxRecDepth 100000 in
set_option maxHeartbeats 4000000 in
theorem tenants_is (w : World) (F : Nat → Prop) (b N : Nat) (Q : Qm) (G : Gm) (h : Tab w F b N Q G) : Calls Try.prog 19 #[.pointer (some ⟨b, 0, none⟩)] w fun e w' => ∃ v, e = .returned v ∧ OwnZ w' w.heap.size v (sel (fun k => (Q k).isSome) 8) ∧ Below w.heap.size w w' := by
  have KQ : Hid (∀ W k, Below w.heap.size w W → InI k → Calls Try.prog 15 #[.pointer (some ⟨b, 0, none⟩), .int .i64 k] W fun e w' => e = .returned (.tuple #[.int .i64 ((Q k).getD 0), .bool (Q k).isSome]) ∧ w' = W) := fun W k hW hk => quota_is W F b N Q G (h.keep hW) k hk
  clear h
  have HO : Hid (OwnZ w w.heap.size (.slice none 0 0) []) := OwnZ.nil _ _
  obtain ⟨T, hT⟩ : ∃ T : Int → Bool, T = (fun k => (Q k).isSome) := ⟨_, rfl⟩
  rw [← hT]
  have HT : Hid (T = (fun k => (Q k).isSome)) := hT
  clear hT
  go_enter Try.func19, Try.ntmps19
  go_wp2_with fail
  go_loopg [3, 4] 8 (fun g V i wr => ∃ j : Nat, j ≤ 8 ∧ g = 8 - j ∧ i = .int .i64 ((j : Int) + 1) ∧ Hid (OwnZ wr w.heap.size V (sel T j) ∧ Below w.heap.size w wr))
  case atStart => exact ⟨0, Nat.zero_le _, rfl, rfl, HO.out, Below.refl _ _⟩
  obtain ⟨j, hj, rfl, rfl, RW⟩ := hrel
  generalize u3 = V1 at *
  by_cases hlt : j < 8
  · have j1 : decide ((j : Int) + 1 ≤ 8) = true := by rw [decide_eq_true_eq]; omega
    have ri : IntKind.i64.wrap ((j : Int) + 1 + 1) = (j : Int) + 1 + 1 := by rw [IntKind.wrap_i64]; omega
    have hsl : (sel T j).length ≤ j := sel_len T j
    have N2 : Hid ((sel T j).length + 1 ≤ 17592186044416) := by show _ ≤ _; omega
    clear hsl
    have hjI : InI ((j : Int) + 1) := by unfold InI; omega
    obtain ⟨x, hx⟩ : ∃ x : Int, x = (j : Int) + 1 := ⟨_, rfl⟩
    have HX : Hid (x = (j : Int) + 1) := hx
    go_wp2_with fail
    refine (KQ.out _ _ RW.out.2 hjI).mono ?_
    rintro e w1 ⟨rfl, hw⟩
    obtain rfl := hw.symm
    clear hw hjI
    have R1 : Hid (OwnZ wr w.heap.size V1 (sel T j) ∧ Below w.heap.size w wr) := RW.out
    generalize (Q ((j : Int) + 1)).getD 0 = y at *
    cases ht : T ((j : Int) + 1) with
    | false =>
      have E : Hid (sel T (j + 1) = sel T j) := by show sel T j ++ _ = _; rw [ht]; simp
      have et : (fun k => (Q k).isSome) ((j : Int) + 1) = false := by rw [← HT.out]; exact ht
      simp only at et
      rw [et]
      clear ht et hx
      go_wp2_with fail
      go_roundg (8 - (j + 1))
      case measure => omega
      case rel => exact ⟨j + 1, by omega, rfl, by push_cast; rfl, by rw [E.out]; exact R1.out.1, R1.out.2⟩
    | true =>
      have E : Hid (sel T (j + 1) = sel T j ++ [(j : Int) + 1]) := by show sel T j ++ _ = _; rw [ht]; simp
      have et : (fun k => (Q k).isSome) ((j : Int) + 1) = true := by rw [← HT.out]; exact ht
      simp only at et
      rw [et]
      clear ht et hx
      have O2 : Hid (OwnZ (wr.alloc (.cells #[.int .i64 ((j : Int) + 1)] 3)) w.heap.size V1 (sel T j) ∧ InZ (wr.alloc (.cells #[.int .i64 ((j : Int) + 1)] 3)) (some ⟨wr.heap.size, 0, none⟩) [(j : Int) + 1] ∧ w.heap.size ≤ (wr.alloc (.cells #[.int .i64 ((j : Int) + 1)] 3)).heap.size ∧ Below w.heap.size w (wr.alloc (.cells #[.int .i64 ((j : Int) + 1)] 3))) := ⟨R1.out.1.keep (below1 _ _), inZ_one _ _, by have := R1.out.2.size; simp; omega, R1.out.2.alloc (by exact R1.out.2.size) _⟩
      go_wp2_with (at_builtin; refine append_ints rfl (.tmp 18) (.tmp 20) rfl w.heap.size V1 (sel T j) rfl O2.out.1 (some ⟨wr.heap.size, 0, none⟩) 1 1 [(j : Int) + 1] rfl rfl O2.out.2.1 (fun e => by cases e) N2.out O2.out.2.2.1 ?_; intro v5 u5 o5 g5; have O5 : Hid (OwnZ u5 w.heap.size v5 (sel T (j + 1)) ∧ Below w.heap.size w u5) := ⟨by rw [E.out]; exact o5, O2.out.2.2.2.grown g5 O2.out.2.2.1 (fun k hk => (O2.out.1.own k hk).1)⟩; clear o5 g5)
      go_roundg (8 - (j + 1))
      case measure => omega
      case rel => exact ⟨j + 1, by omega, rfl, by push_cast; rfl, O5.out⟩
  · have j1 : decide ((j : Int) + 1 ≤ 8) = false := by rw [decide_eq_false_iff_not]; omega
    obtain rfl : j = 8 := by omega
    go_wp2_with fail
    go_ret
    exact ⟨V1, rfl, RW.out⟩
set_option maxRecDepth 100000 in
set_option maxHeartbeats 4000000 in
theorem roots_is (w : World) (F : Nat → Prop) (b N : Nat) (Q : Qm) (G : Gm) (h : Tab w F b N Q G) (i : Int) (hi : InI i) : Calls Try.prog 20 #[.pointer (some ⟨b, 0, none⟩), .int .i64 i] w fun e w' => ∃ v, e = .returned v ∧ OwnZ w' w.heap.size v (sel (fun k => (G (i, k)).isSome) 6) ∧ Below w.heap.size w w' := by
  have KQ : Hid (∀ W k, Below w.heap.size w W → InI k → Calls Try.prog 17 #[.pointer (some ⟨b, 0, none⟩), .int .i64 i, .int .i64 k] W fun e w' => e = .returned (.bool (G (i, k)).isSome) ∧ Below W.heap.size W w') := fun W k hW hk => may_is W F b N Q G (h.keep hW) i k hi hk
  clear h hi
  have HO : Hid (OwnZ w w.heap.size (.slice none 0 0) []) := OwnZ.nil _ _
  obtain ⟨T, hT⟩ : ∃ T : Int → Bool, T = (fun k => (G (i, k)).isSome) := ⟨_, rfl⟩
  rw [← hT]
  have HT : Hid (T = (fun k => (G (i, k)).isSome)) := hT
  clear hT
  go_enter Try.func20, Try.ntmps20
  go_wp2_with fail
  go_loopg [5, 6] 6 (fun g V i wr => ∃ j : Nat, j ≤ 6 ∧ g = 6 - j ∧ i = .int .i64 ((j : Int) + 1) ∧ Hid (OwnZ wr w.heap.size V (sel T j) ∧ Below w.heap.size w wr))
  case atStart => exact ⟨0, Nat.zero_le _, rfl, rfl, HO.out, Below.refl _ _⟩
  obtain ⟨j, hj, rfl, rfl, RW⟩ := hrel
  generalize u5 = V1 at *
  by_cases hlt : j < 6
  · have j1 : decide ((j : Int) + 1 ≤ 6) = true := by rw [decide_eq_true_eq]; omega
    have ri : IntKind.i64.wrap ((j : Int) + 1 + 1) = (j : Int) + 1 + 1 := by rw [IntKind.wrap_i64]; omega
    have hsl : (sel T j).length ≤ j := sel_len T j
    have N2 : Hid ((sel T j).length + 1 ≤ 17592186044416) := by show _ ≤ _; omega
    clear hsl
    have hjI : InI ((j : Int) + 1) := by unfold InI; omega
    obtain ⟨x, hx⟩ : ∃ x : Int, x = (j : Int) + 1 := ⟨_, rfl⟩
    have HX : Hid (x = (j : Int) + 1) := hx
    go_wp2_with fail
    refine (KQ.out _ _ RW.out.2 hjI).mono ?_
    rintro e w1 ⟨rfl, hb1⟩
    have R1 : Hid (OwnZ w1 w.heap.size V1 (sel T j) ∧ Below w.heap.size w w1) := ⟨RW.out.1.keep hb1, RW.out.2.trans (hb1.mono RW.out.2.size)⟩
    clear hb1 hjI
    cases ht : T ((j : Int) + 1) with
    | false =>
      have E : Hid (sel T (j + 1) = sel T j) := by show sel T j ++ _ = _; rw [ht]; simp
      have et : (fun k => (G (i, k)).isSome) ((j : Int) + 1) = false := by rw [← HT.out]; exact ht
      simp only at et
      rw [et]
      clear ht et hx
      go_wp2_with fail
      go_roundg (6 - (j + 1))
      case measure => omega
      case rel => exact ⟨j + 1, by omega, rfl, by push_cast; rfl, by rw [E.out]; exact R1.out.1, R1.out.2⟩
    | true =>
      have E : Hid (sel T (j + 1) = sel T j ++ [(j : Int) + 1]) := by show sel T j ++ _ = _; rw [ht]; simp
      have et : (fun k => (G (i, k)).isSome) ((j : Int) + 1) = true := by rw [← HT.out]; exact ht
      simp only at et
      rw [et]
      clear ht et hx
      have O2 : Hid (OwnZ (w1.alloc (.cells #[.int .i64 ((j : Int) + 1)] 3)) w.heap.size V1 (sel T j) ∧ InZ (w1.alloc (.cells #[.int .i64 ((j : Int) + 1)] 3)) (some ⟨w1.heap.size, 0, none⟩) [(j : Int) + 1] ∧ w.heap.size ≤ (w1.alloc (.cells #[.int .i64 ((j : Int) + 1)] 3)).heap.size ∧ Below w.heap.size w (w1.alloc (.cells #[.int .i64 ((j : Int) + 1)] 3))) := ⟨R1.out.1.keep (below1 _ _), inZ_one _ _, by have := R1.out.2.size; simp; omega, R1.out.2.alloc (by exact R1.out.2.size) _⟩
      go_wp2_with (at_builtin; refine append_ints rfl (.tmp 15) (.tmp 17) rfl w.heap.size V1 (sel T j) rfl O2.out.1 (some ⟨w1.heap.size, 0, none⟩) 1 1 [(j : Int) + 1] rfl rfl O2.out.2.1 (fun e => by cases e) N2.out O2.out.2.2.1 ?_; intro v5 u5 o5 g5; have O5 : Hid (OwnZ u5 w.heap.size v5 (sel T (j + 1)) ∧ Below w.heap.size w u5) := ⟨by rw [E.out]; exact o5, O2.out.2.2.2.grown g5 O2.out.2.2.1 (fun k hk => (O2.out.1.own k hk).1)⟩; clear o5 g5)
      go_roundg (6 - (j + 1))
      case measure => omega
      case rel => exact ⟨j + 1, by omega, rfl, by push_cast; rfl, O5.out⟩
  · have j1 : decide ((j : Int) + 1 ≤ 6) = false := by rw [decide_eq_false_iff_not]; omega
    obtain rfl : j = 6 := by omega
    go_wp2_with fail
    go_ret
    exact ⟨V1, rfl, RW.out⟩
set_option maxRecDepth 100000 in
theorem samen_true (w : World) (a b : Option Addr) (n c c2 : Nat) (D : List Int) (hn : D.length = n) (ha : InZ w a D) (hb : InZ w b D) (hN : n ≤ 1000000) :
    Calls Try.prog 21 #[.slice a n c, .slice b n c2] w fun e w' => e = .returned (.bool true) ∧ Below w.heap.size w w' := by
  have HL : Hid (InZ w a D ∧ InZ w b D ∧ D.length = n) := ⟨ha, hb, hn⟩
  clear hn ha hb
  go_enter Try.func21, Try.ntmps21
  go_wp2_with fail
  go_loopg [5] n (fun g i wr => ∃ j : Nat, j ≤ n ∧ g = n - j ∧ i = .int .i64 (j : Int) ∧ Hid (Below w.heap.size w wr))
  case atStart => exact ⟨0, Nat.zero_le _, rfl, rfl, Below.refl _ _⟩
  obtain ⟨j, hj, rfl, rfl, RW⟩ := hrel
  by_cases hlt : j < n
  · have j1 : decide ((j : Int) < (n : Int)) = true := by rw [decide_eq_true_eq]; omega
    obtain ⟨y, hy⟩ : ∃ y, D[j]? = some y := ⟨D[j]'(by rw [HL.out.2.2]; exact hlt), by simp [HL.out.2.2, hlt]⟩
    obtain ⟨b1, o1, rfl, _, c1⟩ := (HL.out.1.keep RW.out).at hy
    obtain ⟨b2, o2, rfl, _, d1⟩ := (HL.out.2.1.keep RW.out).at hy
    have ri : IntKind.i64.wrap ((j : Int) + 1) = (j : Int) + 1 := by rw [IntKind.wrap_i64]; omega
    clear hy
    go_wp2_with fail
    go_quiet (fail)
    have B1 : Hid (Below w.heap.size w (wr.drewN nq)) := below_drewN RW.out nq
    go_wp2_with fail
    go_roundg (n - (j + 1))
    case measure => omega
    case rel => exact ⟨j + 1, by omega, rfl, rfl, B1.out⟩
  · have j1 : decide ((j : Int) < (n : Int)) = false := by rw [decide_eq_false_iff_not]; omega
    go_wp2_with fail
    go_ret
    exact ⟨rfl, RW.out⟩
end Go.Proofs.Ytgfjhghhonaiiaa
