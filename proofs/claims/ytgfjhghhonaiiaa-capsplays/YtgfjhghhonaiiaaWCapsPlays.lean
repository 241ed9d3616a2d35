/- CapsPlays: the walk (gen_cplays.py). -/
import Derived.Test.YtgfjhghhonaiiaaCpZ
namespace Go.Proofs.Ytgfjhghhonaiiaa
open Go.ChangeShapes Go.WideShapes Go.ChangeAt Go.RowKit Go.Deep Go.Maps
set_option linter.unusedVariables false
set_option linter.unusedSimpArgs false
set_option maxRecDepth 100000 in
set_option maxHeartbeats 16000000 in
theorem capsPlays_walk (a0 : Option Addr) (len cap : Nat) (A : Nat → Ca) (w : World) (hin : InCa w a0 len A) : Calls Try.prog 3 #[.slice a0 len cap] w fun e w' => e = .returned (.bool true) ∧ Below w.heap.size w w' := by
  have KN : Hid (∀ W : World, Calls Try.prog 8 #[] W fun e w' => ∃ b F, e = .returned (.pointer (some ⟨b, 0, none⟩)) ∧ Tab w' F b 0 noQ noG ∧ Below W.heap.size W w' ∧ ∀ k, F k → W.heap.size ≤ k) := new_is
  have KW : Hid (∀ W : World, Calls Try.prog 14 #[] W fun e w' => e = .returned (.bool true) ∧ Below W.heap.size W w') := cworks_true
  have HI : Hid (InCa w a0 len A) := hin
  have HL : Hid (len ≤ 2932031007402) := hin.2.2
  clear hin
  go_enter Try.func3, Try.ntmps3
  go_wp2_with fail
  refine (KN.out _).mono ?_
  rintro e w1 ⟨b1, F1, rfl, t1, bb1, f1⟩
  have H2 : Hid (Tr w (w1.alloc (.cells #[.slice none 0 0] 28)) F1 (fun k => k = w1.heap.size) b1 w1.heap.size 0 noQ noG noQ noG) := ⟨t1.keep (below1 _ _), rt_new w1, fun k h1 h2 => by have := t1.lt k h1; omega, f1, fun k hk => by have := bb1.size; omega, bb1.alloc bb1.size _⟩
  obtain ⟨b2, hb2⟩ : ∃ b2, b2 = w1.heap.size := ⟨_, rfl⟩
  clear t1 bb1 f1 KN hb2
  go_wp2_with fail
  go_loopg [3, 5] 80 (fun g V i wr => ∃ (j : Nat) (b1 : Nat) (F1 F2 : Nat → Prop) (Q : Qm) (G : Gm), j ≤ 80 ∧ j ≤ len ∧ g = 80 - j ∧ V = .pointer (some ⟨b1, 0, none⟩) ∧ i = .int .i64 (j : Int) ∧ Hid (Tr w wr F1 F2 b1 w1.heap.size j Q G Q G))
  case atStart => exact ⟨0, b1, F1, _, noQ, noG, Nat.zero_le _, Nat.zero_le _, rfl, rfl, rfl, H2.out⟩
  clear H2
  obtain ⟨j, c1, E1, F2, Q, G, hj, hjl, rfl, rfl, rfl, RW⟩ := hrel
  by_cases hlt : j < len ∧ j < 80
  · have j1 : decide ((j : Int) < (len : Int)) = true := by rw [decide_eq_true_eq]; omega
    have j2 : decide ((j : Int) < 80) = true := by rw [decide_eq_true_eq]; omega
    have j3 : (j : Int) < (len : Int) := by omega
    have j4 : j < len := by omega
    have ri : IntKind.i64.wrap ((j : Int) + 1) = (j : Int) + 1 := by rw [IntKind.wrap_i64]; omega
    obtain ⟨gb, off, rfl, hgb, hc⟩ := (HI.out.below RW.out.bel).at hlt.1
    have hok := HI.out.2.1 j hlt.1
    obtain ⟨ca, hca⟩ : ∃ ca, ca = A j := ⟨_, rfl⟩
    rw [← hca] at hc hok
    clear hca
    obtain ⟨ak, ai, ar, aq, au, am⟩ := ca
    obtain ⟨d0, d1, d2, d3, d4, d5⟩ := hc
    simp only at d0 d1 d2 d3 d4 d5
    have HOK : Hid (Ca.ok ⟨ak, ai, ar, aq, au, am⟩) := hok
    rename World => wo
    clear hok hgb
    have HA : Hid (Tr w (wo.alloc (.cells #[.int .i64 ak, .int .i64 ai, .int .i64 ar, .int .i64 aq, .int .i64 au, .int .i64 am] 30)) E1 F2 c1 w1.heap.size j Q G Q G ∧ (wo.alloc (.cells #[.int .i64 ak, .int .i64 ai, .int .i64 ar, .int .i64 aq, .int .i64 au, .int .i64 am] 30)).heap[wo.heap.size]? = some (.cells #[.int .i64 ak, .int .i64 ai, .int .i64 ar, .int .i64 aq, .int .i64 au, .int .i64 am] 30)) := ⟨RW.out.keep (below1 _ _), heap_alloc_new wo _⟩
    have HFF : Hid (¬ E1 wo.heap.size ∧ ¬ F2 wo.heap.size) := ⟨fun h => by have := RW.out.l.lt _ h; omega, fun h => by have := RW.out.r.lt _ h; omega⟩
    have HJ : Hid (j < len ∧ j < 80) := hlt
    clear hlt
    by_cases hk : ak = 3
    · have t3 : (ak == 3) = true := by simp [hk]
      clear hk
      go_wp2_with fail
      refine (copy_is _ E1 c1 j Q G HA.out.1.l).mono ?_
      rintro e w4 ⟨c2, E2, rfl, t4, b4, f4⟩
      have H4 : Hid (Tab w4 E2 c2 j Q G ∧ Below (wo.alloc (.cells #[.int .i64 ak, .int .i64 ai, .int .i64 ar, .int .i64 aq, .int .i64 au, .int .i64 am] 30)).heap.size (wo.alloc (.cells #[.int .i64 ak, .int .i64 ai, .int .i64 ar, .int .i64 aq, .int .i64 au, .int .i64 am] 30)) w4 ∧ (∀ k, E2 k → (wo.alloc (.cells #[.int .i64 ak, .int .i64 ai, .int .i64 ar, .int .i64 aq, .int .i64 au, .int .i64 am] 30)).heap.size ≤ k) ∧ Tr w w4 E1 F2 c1 w1.heap.size j Q G Q G ∧ w4.heap[wo.heap.size]? = some (.cells #[.int .i64 ak, .int .i64 ai, .int .i64 ar, .int .i64 aq, .int .i64 au, .int .i64 am] 30)) := ⟨t4, b4, f4, HA.out.1.keep b4, (b4.block _ (by simp)).trans HA.out.2⟩
      clear t4 b4 f4 d0 d1 d2 d3 d4 d5
      obtain ⟨d0, d1, d2, d3, d4, d5⟩ := act_cells H4.out.2.2.2.2
      go_wp2_with fail
      refine (tenant_is _ E1 c1 j Q G H4.out.2.2.2.1.l (by omega) ai aq HOK.out.2.2.2.1).mono ?_
      rintro e w5 ⟨rfl, t5, o5⟩
      have H5 : Hid (Tab w5 E1 c1 (j + 1) (tnQ Q ai aq) G ∧ Off E1 w4 w5 ∧ w5.heap[wo.heap.size]? = some (.cells #[.int .i64 ak, .int .i64 ai, .int .i64 ar, .int .i64 aq, .int .i64 au, .int .i64 am] 30)) := ⟨t5, o5, (o5.block _ (lt_of_heapK H4.out.2.2.2.2) HFF.out.1).trans H4.out.2.2.2.2⟩
      clear t5 o5 d0 d1 d2 d3 d4 d5
      obtain ⟨d0, d1, d2, d3, d4, d5⟩ := act_cells H5.out.2.2
      go_wp2_with fail
      refine (grant_is _ E1 c1 (j + 1) (tnQ Q ai aq) G H5.out.1 (by omega) ai ar).mono ?_
      rintro e w6 ⟨rfl, t6, o6⟩
      have z1 : (wo.alloc (.cells #[.int .i64 ak, .int .i64 ai, .int .i64 ar, .int .i64 aq, .int .i64 au, .int .i64 am] 30)).heap.size = wo.heap.size + 1 := by simp
      have o46 : Off E1 w4 w6 := H5.out.2.1.trans o6 (fun k hk => .inl hk)
      have dj : ∀ k, E2 k → ¬ E1 k := fun k h2 h1 => by have := H4.out.2.2.1 k h2; have := HA.out.1.l.lt k h1; omega
      have H6 : Hid (Tr w w6 E2 F2 c2 w1.heap.size j Q G Q G ∧ w6.heap[wo.heap.size]? = some (.cells #[.int .i64 ak, .int .i64 ai, .int .i64 ar, .int .i64 aq, .int .i64 au, .int .i64 am] 30) ∧ ¬ E2 wo.heap.size) := by
        refine ⟨⟨H4.out.1.apart o46 dj, H4.out.2.2.2.1.r.apart o46 (fun k h2 h1 => H4.out.2.2.2.1.ap k h1 h2), fun k h1 h2 => ?_, fun k hk => ?_, H4.out.2.2.2.1.n2, H4.out.2.2.2.1.bel.trans (o46.below H4.out.2.2.2.1.n1 H4.out.2.2.2.1.bel.size)⟩, (o6.block _ (lt_of_heapK H5.out.2.2) HFF.out.1).trans H5.out.2.2, fun h => ?_⟩
        · have := H4.out.2.2.1 k h1
          have := HA.out.1.r.lt k h2
          omega
        · have := H4.out.2.2.1 k hk
          have := HA.out.1.bel.size
          omega
        · have := H4.out.2.2.1 _ h
          omega
      clear t6 o6 o46 dj z1 d0 d1 d2 d3 d4 d5
      obtain ⟨d0, d1, d2, d3, d4, d5⟩ := act_cells H6.out.2.1
      go_wp2_with fail
      refine (does_is w _ E2 F2 c2 w1.heap.size j Q G H6.out.1 (by have := HJ.out; omega) ak ai ar aq au am HOK.out).mono ?_
      rintro e w7 ⟨rfl, F3, t7, r7⟩
      have H7 : Hid (Tr w w7 E2 F3 c2 w1.heap.size (j + 1) (stQ Q ⟨ak, ai, ar, aq, au, am⟩) (stG Q G ⟨ak, ai, ar, aq, au, am⟩) (stQ Q ⟨ak, ai, ar, aq, au, am⟩) (stG Q G ⟨ak, ai, ar, aq, au, am⟩) ∧ w7.heap[wo.heap.size]? = some (.cells #[.int .i64 ak, .int .i64 ai, .int .i64 ar, .int .i64 aq, .int .i64 au, .int .i64 am] 30)) := ⟨t7, (r7.1 _ (lt_of_heapK H6.out.2.1) H6.out.2.2 HFF.out.2).trans H6.out.2.1⟩
      clear t7 r7 d0 d1 d2 d3 d4 d5
      obtain ⟨d0, d1, d2, d3, d4, d5⟩ := act_cells H7.out.2
      go_wp2_with fail
      refine (same_is w _ E2 F3 c2 w1.heap.size (j + 1) _ _ H7.out.1 (by have := HJ.out; omega) ak ai ar aq au am HOK.out).mono ?_
      rintro e w8 ⟨rfl, b8⟩
      have H8 : Hid (Tr w w8 E2 F3 c2 w1.heap.size (j + 1) (stQ Q ⟨ak, ai, ar, aq, au, am⟩) (stG Q G ⟨ak, ai, ar, aq, au, am⟩) (stQ Q ⟨ak, ai, ar, aq, au, am⟩) (stG Q G ⟨ak, ai, ar, aq, au, am⟩)) := H7.out.1.keep b8
      clear b8 d0 d1 d2 d3 d4 d5
      go_wp2_with fail
      go_roundg (80 - (j + 1))
      case measure => have := HJ.out; omega
      case rel => exact ⟨j + 1, c2, E2, F3, _, _, by have := HJ.out; omega, by have := HJ.out; omega, rfl, rfl, by push_cast; rfl, H8.out⟩
    · have t3 : (ak == 3) = false := by simpa using hk
      clear hk
      go_wp2_with fail
      refine (does_is w _ E1 F2 c1 w1.heap.size j Q G HA.out.1 (by have := HJ.out; omega) ak ai ar aq au am HOK.out).mono ?_
      rintro e w7 ⟨rfl, F3, t7, r7⟩
      have H7 : Hid (Tr w w7 E1 F3 c1 w1.heap.size (j + 1) (stQ Q ⟨ak, ai, ar, aq, au, am⟩) (stG Q G ⟨ak, ai, ar, aq, au, am⟩) (stQ Q ⟨ak, ai, ar, aq, au, am⟩) (stG Q G ⟨ak, ai, ar, aq, au, am⟩) ∧ w7.heap[wo.heap.size]? = some (.cells #[.int .i64 ak, .int .i64 ai, .int .i64 ar, .int .i64 aq, .int .i64 au, .int .i64 am] 30)) := ⟨t7, (r7.1 _ (lt_of_heapK HA.out.2) HFF.out.1 HFF.out.2).trans HA.out.2⟩
      clear t7 r7 d0 d1 d2 d3 d4 d5
      obtain ⟨d0, d1, d2, d3, d4, d5⟩ := act_cells H7.out.2
      go_wp2_with fail
      refine (same_is w _ E1 F3 c1 w1.heap.size (j + 1) _ _ H7.out.1 (by have := HJ.out; omega) ak ai ar aq au am HOK.out).mono ?_
      rintro e w8 ⟨rfl, b8⟩
      have H8 : Hid (Tr w w8 E1 F3 c1 w1.heap.size (j + 1) (stQ Q ⟨ak, ai, ar, aq, au, am⟩) (stG Q G ⟨ak, ai, ar, aq, au, am⟩) (stQ Q ⟨ak, ai, ar, aq, au, am⟩) (stG Q G ⟨ak, ai, ar, aq, au, am⟩)) := H7.out.1.keep b8
      clear b8 d0 d1 d2 d3 d4 d5
      go_wp2_with fail
      go_roundg (80 - (j + 1))
      case measure => have := HJ.out; omega
      case rel => exact ⟨j + 1, c1, E1, F3, _, _, by have := HJ.out; omega, by have := HJ.out; omega, rfl, rfl, by push_cast; rfl, H8.out⟩
  · rcases (by omega : ¬ (j < len) ∨ (j < len ∧ ¬ (j < 80))) with hjj | hjj
    · have j1 : decide ((j : Int) < (len : Int)) = false := by rw [decide_eq_false_iff_not]; omega
      clear hlt
      go_wp2_with fail
      refine (KW.out _).mono ?_
      rintro e w9 ⟨rfl, b9⟩
      have B9 : Hid (Below w.heap.size w w9) := RW.out.bel.trans (b9.mono RW.out.bel.size)
      clear b9
      go_wp2_with fail
      go_ret
      exact ⟨rfl, B9.out⟩
    · have j1 : decide ((j : Int) < (len : Int)) = true := by rw [decide_eq_true_eq]; omega
      have j2 : decide ((j : Int) < 80) = false := by rw [decide_eq_false_iff_not]; omega
      clear hlt
      go_wp2_with fail
      refine (KW.out _).mono ?_
      rintro e w9 ⟨rfl, b9⟩
      have B9 : Hid (Below w.heap.size w w9) := RW.out.bel.trans (b9.mono RW.out.bel.size)
      clear b9
      go_wp2_with fail
      go_ret
      exact ⟨rfl, B9.out⟩
end Go.Proofs.Ytgfjhghhonaiiaa
