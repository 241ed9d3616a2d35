/- CapsApart: the walk (gen_capart.py). -/
import Derived.Test.YtgfjhghhonaiiaaCpP
namespace Go.Proofs.Ytgfjhghhonaiiaa
open Go.ChangeShapes Go.WideShapes Go.ChangeAt Go.RowKit Go.Deep Go.Maps
set_option linter.unusedVariables false
set_option linter.unusedSimpArgs false
set_option maxRecDepth 100000 in
set_option maxHeartbeats 16000000 in
theorem capsApart_walk (a0 : Option Addr) (len cap : Nat) (A : Nat → Ca) (x0 : Int) (w : World) (hin : InCa w a0 len A) (hx0 : (Lit.int .i64 x0).wf = true) : Calls Try.prog 6 #[.slice a0 len cap, .int .i64 x0] w fun e w' => e = .returned (.bool true) ∧ Below w.heap.size w w' := by
  have KN : Hid (∀ W : World, Calls Try.prog 8 #[] W fun e w' => ∃ b F, e = .returned (.pointer (some ⟨b, 0, none⟩)) ∧ Tab w' F b 0 noQ noG ∧ Below W.heap.size W w' ∧ ∀ k, F k → W.heap.size ≤ k) := new_is
  have KW : Hid (∀ W : World, Calls Try.prog 14 #[] W fun e w' => e = .returned (.bool true) ∧ Below W.heap.size W w') := cworks_true
  obtain ⟨r, hr, hr8, hm1, hm2⟩ := mod_in8 x0
  have s1 : IntKind.i64.wrap (Int.tmod x0 8) = Int.tmod x0 8 := by rw [IntKind.wrap_i64]; omega
  have s2 : IntKind.i64.wrap (Int.tmod x0 8 + 8) = Int.tmod x0 8 + 8 := by rw [IntKind.wrap_i64]; omega
  have s3 : IntKind.i64.wrap (r : Int) = (r : Int) := by rw [IntKind.wrap_i64]; omega
  have s4 : IntKind.i64.wrap (1 + (r : Int)) = 1 + (r : Int) := by rw [IntKind.wrap_i64]; omega
  have HI : Hid (InCa w a0 len A) := hin
  have HL : Hid (len ≤ 2932031007402) := hin.2.2
  have HID : Hid (InI (1 + (r : Int))) := by show InI _; unfold InI; omega
  clear hin hx0
  go_enter Try.func6, Try.ntmps6
  go_wp2_with fail
  refine (KN.out _).mono ?_
  rintro e w1 ⟨b1, F1, rfl, t1, bb1, f1⟩
  have H1 : Hid (Tab w1 F1 b1 0 noQ noG ∧ Below w.heap.size w w1 ∧ ∀ k, F1 k → w.heap.size ≤ k) := ⟨t1, bb1, f1⟩
  clear t1 bb1 f1
  go_wp2_with fail
  refine (KN.out _).mono ?_
  rintro e w2 ⟨b2, F2, rfl, t2, bb2, f2⟩
  have H2 : Hid (Tw w w2 F1 F2 b1 b2 0 noQ noG noQ noG) := ⟨H1.out.1.keep bb2, t2, fun k h1 h2 => by have := H1.out.1.lt k h1; have := f2 k h2; omega, H1.out.2.2, fun k hk => Nat.le_trans H1.out.2.1.size (f2 k hk), H1.out.2.1.trans (bb2.mono H1.out.2.1.size)⟩
  clear t2 bb2 f2 H1 KN s1 s2 s3 s4 hr hm1 hm2
  obtain ⟨id, hid⟩ : ∃ id : Int, id = 1 + (r : Int) := ⟨_, rfl⟩
  rw [← hid] at HID
  rw [← hid]
  clear hid hr8
  go_wp2_with fail
  go_loopg [7] 80 (fun g i wr => ∃ (j : Nat) (Q : Qm) (G : Gm) (Q' : Qm) (G' : Gm), j ≤ 80 ∧ j ≤ len ∧ g = 80 - j ∧ i = .int .i64 (j : Int) ∧ Hid (Tw w wr F1 F2 b1 b2 (2 * j) Q G Q' G' ∧ Rel id Q G Q' G'))
  case atStart => exact ⟨0, noQ, noG, noQ, noG, Nat.zero_le _, Nat.zero_le _, rfl, rfl, H2.out, rfl, fun _ => rfl⟩
  obtain ⟨j, Q, G, Q', G', hj, hjl, rfl, rfl, RW⟩ := hrel
  by_cases hlt : j < len ∧ j < 80
  · have j1 : decide ((j : Int) < (len : Int)) = true := by rw [decide_eq_true_eq]; omega
    have j2 : decide ((j : Int) < 80) = true := by rw [decide_eq_true_eq]; omega
    have j3 : (j : Int) < (len : Int) := by omega
    have j4 : j < len := by omega
    have ri : IntKind.i64.wrap ((j : Int) + 1) = (j : Int) + 1 := by rw [IntKind.wrap_i64]; omega
    obtain ⟨gb, off, rfl, hgb, hc⟩ := (HI.out.below RW.out.1.bel).at hlt.1
    have hok := HI.out.2.1 j hlt.1
    obtain ⟨ca, hca⟩ : ∃ ca, ca = A j := ⟨_, rfl⟩
    rw [← hca] at hc hok
    clear hca
    obtain ⟨ak, ai, ar, aq, au, am⟩ := ca
    obtain ⟨c0, c1, c2, c3, c4, c5⟩ := hc
    simp only at c0 c1 c2 c3 c4 c5
    have HOK : Hid (Ca.ok ⟨ak, ai, ar, aq, au, am⟩) := hok
    rename World => wo
    clear hok hgb
    obtain ⟨W2, hW2⟩ : ∃ W2, W2 = (wo.alloc (.cells #[.int .i64 ak, .int .i64 ai, .int .i64 ar, .int .i64 aq, .int .i64 au, .int .i64 am] 30)).alloc (.cells #[.pointer (some ⟨b1, 0, none⟩), .pointer (some ⟨b2, 0, none⟩)] 23) := ⟨_, rfl⟩
    have HW2 : Hid (W2 = (wo.alloc (.cells #[.int .i64 ak, .int .i64 ai, .int .i64 ar, .int .i64 aq, .int .i64 au, .int .i64 am] 30)).alloc (.cells #[.pointer (some ⟨b1, 0, none⟩), .pointer (some ⟨b2, 0, none⟩)] 23)) := hW2
    have z1 : (wo.alloc (.cells #[.int .i64 ak, .int .i64 ai, .int .i64 ar, .int .i64 aq, .int .i64 au, .int .i64 am] 30)).heap.size = wo.heap.size + 1 := by simp
    have T2 : Hid (Tw w W2 F1 F2 b1 b2 (2 * j) Q G Q' G') := by rw [hW2]; exact (RW.out.1.keep (below1 _ _)).keep (below1 _ _)
    have e1 : W2.heap[wo.heap.size]? = some (.cells #[.int .i64 ak, .int .i64 ai, .int .i64 ar, .int .i64 aq, .int .i64 au, .int .i64 am] 30) := by rw [hW2]; exact (Below.heap_alloc _ _ _ (by omega)).trans (heap_alloc_new wo _)
    have e2 : W2.heap[wo.heap.size + 1]? = some (.cells #[.pointer (some ⟨b1, 0, none⟩), .pointer (some ⟨b2, 0, none⟩)] 23) := by
      rw [hW2]
      have := heap_alloc_new (wo.alloc (.cells #[.int .i64 ak, .int .i64 ai, .int .i64 ar, .int .i64 aq, .int .i64 au, .int .i64 am] 30)) (.cells #[.pointer (some ⟨b1, 0, none⟩), .pointer (some ⟨b2, 0, none⟩)] 23)
      rwa [z1] at this
    have E12 : Hid (W2.heap[wo.heap.size]? = some (.cells #[.int .i64 ak, .int .i64 ai, .int .i64 ar, .int .i64 aq, .int .i64 au, .int .i64 am] 30) ∧ W2.heap[wo.heap.size + 1]? = some (.cells #[.pointer (some ⟨b1, 0, none⟩), .pointer (some ⟨b2, 0, none⟩)] 23)) := ⟨e1, e2⟩
    have HF : Hid (¬ F1 wo.heap.size ∧ ¬ F2 wo.heap.size ∧ ¬ F1 (wo.heap.size + 1) ∧ ¬ F2 (wo.heap.size + 1)) := ⟨fun h => by have := RW.out.1.l.lt _ h; omega, fun h => by have := RW.out.1.r.lt _ h; omega, fun h => by have := RW.out.1.l.lt _ h; omega, fun h => by have := RW.out.1.r.lt _ h; omega⟩
    have HJ : Hid (j < len ∧ j < 80) := hlt
    clear hW2 e1 e2 z1 hlt
    go_wp2_with fail
    go_loopg [46] 2 (fun g i wi => ∃ (j2 : Nat) (Qa : Qm) (Ga : Gm) (Qb : Qm) (Gb : Gm), j2 ≤ 2 ∧ g = 2 - j2 ∧ i = .int .i64 (j2 : Int) ∧ Hid (Tw w wi F1 F2 b1 b2 (2 * j + j2) Qa Ga Qb Gb ∧ wi.heap[wo.heap.size]? = some (.cells #[.int .i64 ak, .int .i64 ai, .int .i64 ar, .int .i64 aq, .int .i64 au, .int .i64 am] 30) ∧ wi.heap[wo.heap.size + 1]? = some (.cells #[.pointer (some ⟨b1, 0, none⟩), .pointer (some ⟨b2, 0, none⟩)] 23) ∧ ((j2 = 0 ∧ Rel id Qa Ga Qb Gb) ∨ (j2 = 1 ∧ ∃ Q0 G0, Qa = stQ Q0 ⟨ak, ai, ar, aq, au, am⟩ ∧ Ga = stG Q0 G0 ⟨ak, ai, ar, aq, au, am⟩ ∧ Rel id Q0 G0 Qb Gb) ∨ (j2 = 2 ∧ Rel id Qa Ga Qb Gb))))
    case atStart =>
      refine ⟨0, Q, G, Q', G', Nat.zero_le _, rfl, rfl, ?_⟩
      rw [← HW2.out]
      exact ⟨T2.out, E12.out.1, E12.out.2, .inl ⟨rfl, RW.out.2⟩⟩
    case round =>
      obtain ⟨q2, Qa, Ga, Qb, Gb, hq2, rfl, rfl, RI⟩ := hrel
      rename World => wi
      obtain ⟨m0, m1, m2, m3, m4, m5⟩ : wi.cell? ⟨wo.heap.size, 0, none⟩ = some (.int .i64 ak) ∧ wi.cell? ⟨wo.heap.size, 1, none⟩ = some (.int .i64 ai) ∧ wi.cell? ⟨wo.heap.size, 2, none⟩ = some (.int .i64 ar) ∧ wi.cell? ⟨wo.heap.size, 3, none⟩ = some (.int .i64 aq) ∧ wi.cell? ⟨wo.heap.size + 1, 0, none⟩ = some (.pointer (some ⟨b1, 0, none⟩)) ∧ wi.cell? ⟨wo.heap.size + 1, 1, none⟩ = some (.pointer (some ⟨b2, 0, none⟩)) := by
        refine ⟨?_, ?_, ?_, ?_, ?_, ?_⟩
        · simp [World.cell?, RI.out.2.1]
        · simp [World.cell?, RI.out.2.1]
        · simp [World.cell?, RI.out.2.1]
        · simp [World.cell?, RI.out.2.1]
        · simp [World.cell?, RI.out.2.2.1]
        · simp [World.cell?, RI.out.2.2.1]
      obtain ⟨q12, q22⟩ := RI.out.1.eqs
      clear HW2 E12 T2 c0 c1 c2 c3 c4 c5 KW
      rcases (by omega : q2 = 0 ∨ q2 = 1 ∨ q2 = 2) with rfl | rfl | rfl
      · by_cases hk0 : ak = 0
        · have t0 : (ak == 0) = true := by simp [hk0]
          have K0 : Hid (Calls Try.prog 10 #[.pointer (some ⟨b1, 0, none⟩), .int .i64 ai, .int .i64 aq] wi fun e w' => (∃ x, e = .returned (.int .i64 x)) ∧ Tab w' F1 b1 ((2 * j + 0) + 1) (stQ Qa ⟨ak, ai, ar, aq, au, am⟩) (stG Qa Ga ⟨ak, ai, ar, aq, au, am⟩) ∧ Off F1 wi w') := by
            refine (tenant_is wi F1 b1 (2 * j + 0) Qa Ga RI.out.1.l (by omega) ai aq HOK.out.2.2.2.1).mono ?_
            rintro e w' ⟨rfl, t1, o1⟩
            exact ⟨⟨_, rfl⟩, by unfold stQ stG; simp only [hk0]; exact t1, o1⟩
          clear hk0
          go_wp2_with fail
          refine K0.out.mono ?_
          rintro e w5 ⟨⟨x, rfl⟩, t5, o5⟩
          have T5 : Hid (Tab w5 F1 b1 ((2 * j + 0) + 1) (stQ Qa ⟨ak, ai, ar, aq, au, am⟩) (stG Qa Ga ⟨ak, ai, ar, aq, au, am⟩) ∧ Off F1 wi w5) := ⟨t5, o5⟩
          clear t5 o5 m0 m1 m2 m3 m4 m5 q12 q22
          go_wp2_with fail
          go_roundg 1
          case measure => omega
          case rel =>
            refine ⟨1, _, _, Qb, Gb, by omega, rfl, by go_num, RI.out.1.left T5.out.1 T5.out.2, (T5.out.2.block _ (lt_of_heapK RI.out.2.1) HF.out.1).trans RI.out.2.1, (T5.out.2.block _ (lt_of_heapK RI.out.2.2.1) HF.out.2.2.1).trans RI.out.2.2.1, .inr (.inl ⟨rfl, Qa, Ga, rfl, rfl, ?_⟩)⟩
            rcases RI.out.2.2.2 with ⟨_, h⟩ | ⟨h, _⟩ | ⟨h, _⟩
            · exact h
            · omega
            · omega
        have t0 : (ak == 0) = false := by simpa using hk0
        by_cases hk1 : ak = 1
        · have t1 : (ak == 1) = true := by simp [hk1]
          have K1 : Hid (Calls Try.prog 11 #[.pointer (some ⟨b1, 0, none⟩), .int .i64 ai, .int .i64 ar] wi fun e w' => (∃ x, e = .returned (.int .i64 x)) ∧ Tab w' F1 b1 ((2 * j + 0) + 1) (stQ Qa ⟨ak, ai, ar, aq, au, am⟩) (stG Qa Ga ⟨ak, ai, ar, aq, au, am⟩) ∧ Off F1 wi w') := by
            refine (grant_is wi F1 b1 (2 * j + 0) Qa Ga RI.out.1.l (by omega) ai ar).mono ?_
            rintro e w' ⟨rfl, t1, o1⟩
            exact ⟨⟨_, rfl⟩, by unfold stQ stG; simp only [hk1]; exact t1, o1⟩
          clear hk1
          go_wp2_with fail
          refine K1.out.mono ?_
          rintro e w5 ⟨⟨x, rfl⟩, t5, o5⟩
          have T5 : Hid (Tab w5 F1 b1 ((2 * j + 0) + 1) (stQ Qa ⟨ak, ai, ar, aq, au, am⟩) (stG Qa Ga ⟨ak, ai, ar, aq, au, am⟩) ∧ Off F1 wi w5) := ⟨t5, o5⟩
          clear t5 o5 m0 m1 m2 m3 m4 m5 q12 q22
          go_wp2_with fail
          go_roundg 1
          case measure => omega
          case rel =>
            refine ⟨1, _, _, Qb, Gb, by omega, rfl, by go_num, RI.out.1.left T5.out.1 T5.out.2, (T5.out.2.block _ (lt_of_heapK RI.out.2.1) HF.out.1).trans RI.out.2.1, (T5.out.2.block _ (lt_of_heapK RI.out.2.2.1) HF.out.2.2.1).trans RI.out.2.2.1, .inr (.inl ⟨rfl, Qa, Ga, rfl, rfl, ?_⟩)⟩
            rcases RI.out.2.2.2 with ⟨_, h⟩ | ⟨h, _⟩ | ⟨h, _⟩
            · exact h
            · omega
            · omega
        have t1 : (ak == 1) = false := by simpa using hk1
        by_cases hk2 : ak = 2
        · have t2 : (ak == 2) = true := by simp [hk2]
          have K2 : Hid (Calls Try.prog 16 #[.pointer (some ⟨b1, 0, none⟩), .int .i64 ai, .int .i64 ar] wi fun e w' => (∃ x, e = .returned (.int .i64 x)) ∧ Tab w' F1 b1 ((2 * j + 0) + 1) (stQ Qa ⟨ak, ai, ar, aq, au, am⟩) (stG Qa Ga ⟨ak, ai, ar, aq, au, am⟩) ∧ Off F1 wi w') := by
            refine (revoke_is wi F1 b1 (2 * j + 0) Qa Ga RI.out.1.l (by omega) ai ar).mono ?_
            rintro e w' ⟨rfl, t1, o1⟩
            exact ⟨⟨_, rfl⟩, by unfold stQ stG; simp only [hk2]; exact t1, o1⟩
          clear hk2
          go_wp2_with fail
          refine K2.out.mono ?_
          rintro e w5 ⟨⟨x, rfl⟩, t5, o5⟩
          have T5 : Hid (Tab w5 F1 b1 ((2 * j + 0) + 1) (stQ Qa ⟨ak, ai, ar, aq, au, am⟩) (stG Qa Ga ⟨ak, ai, ar, aq, au, am⟩) ∧ Off F1 wi w5) := ⟨t5, o5⟩
          clear t5 o5 m0 m1 m2 m3 m4 m5 q12 q22
          go_wp2_with fail
          go_roundg 1
          case measure => omega
          case rel =>
            refine ⟨1, _, _, Qb, Gb, by omega, rfl, by go_num, RI.out.1.left T5.out.1 T5.out.2, (T5.out.2.block _ (lt_of_heapK RI.out.2.1) HF.out.1).trans RI.out.2.1, (T5.out.2.block _ (lt_of_heapK RI.out.2.2.1) HF.out.2.2.1).trans RI.out.2.2.1, .inr (.inl ⟨rfl, Qa, Ga, rfl, rfl, ?_⟩)⟩
            rcases RI.out.2.2.2 with ⟨_, h⟩ | ⟨h, _⟩ | ⟨h, _⟩
            · exact h
            · omega
            · omega
        have t2 : (ak == 2) = false := by simpa using hk2
        have hst : ∀ (Qz : Qm) (Gz : Gm), stQ Qz ⟨ak, ai, ar, aq, au, am⟩ = Qz ∧ stG Qz Gz ⟨ak, ai, ar, aq, au, am⟩ = Gz := fun Qz Gz => ⟨by unfold stQ; exact if_neg hk0, by unfold stG; rw [if_neg hk1, if_neg hk2]⟩
        have HST : Hid (∀ (Qz : Qm) (Gz : Gm), stQ Qz ⟨ak, ai, ar, aq, au, am⟩ = Qz ∧ stG Qz Gz ⟨ak, ai, ar, aq, au, am⟩ = Gz) := hst
        clear hst hk0 hk1 hk2
        go_wp2_with fail
        go_roundg 1
        case measure => omega
        case rel =>
          refine ⟨1, Qa, Ga, Qb, Gb, by omega, rfl, by go_num, RI.out.1.more (by omega), RI.out.2.1, RI.out.2.2.1, .inr (.inl ⟨rfl, Qa, Ga, (HST.out Qa Ga).1.symm, (HST.out Qa Ga).2.symm, ?_⟩)⟩
          rcases RI.out.2.2.2 with ⟨_, h⟩ | ⟨h, _⟩ | ⟨h, _⟩
          · exact h
          · omega
          · omega
      · have HMD : Hid (∃ Q0 G0, Qa = stQ Q0 ⟨ak, ai, ar, aq, au, am⟩ ∧ Ga = stG Q0 G0 ⟨ak, ai, ar, aq, au, am⟩ ∧ Rel id Q0 G0 Qb Gb) := by
          rcases RI.out.2.2.2 with ⟨h, _⟩ | ⟨_, h⟩ | ⟨h, _⟩
          · omega
          · exact h
          · omega
        by_cases hai : ai = id
        · have HAI : Hid (ai = id) := hai
          have u0 : (ai != id) = false := by simp [hai]
          clear hai
          by_cases hk0 : ak = 0
          · have t0 : (ak == 0) = true := by simp [hk0]
            have K0 : Hid (Calls Try.prog 10 #[.pointer (some ⟨b2, 0, none⟩), .int .i64 ai, .int .i64 aq] wi fun e w' => (∃ x, e = .returned (.int .i64 x)) ∧ Tab w' F2 b2 ((2 * j + 1) + 1) (stQ Qb ⟨ak, ai, ar, aq, au, am⟩) (stG Qb Gb ⟨ak, ai, ar, aq, au, am⟩) ∧ Off F2 wi w') := by
              refine (tenant_is wi F2 b2 (2 * j + 1) Qb Gb RI.out.1.r (by omega) ai aq HOK.out.2.2.2.1).mono ?_
              rintro e w' ⟨rfl, t1, o1⟩
              exact ⟨⟨_, rfl⟩, by unfold stQ stG; simp only [hk0]; exact t1, o1⟩
            clear hk0
            go_wp2_with fail
            refine K0.out.mono ?_
            rintro e w5 ⟨⟨x, rfl⟩, t5, o5⟩
            have T5 : Hid (Tab w5 F2 b2 ((2 * j + 1) + 1) (stQ Qb ⟨ak, ai, ar, aq, au, am⟩) (stG Qb Gb ⟨ak, ai, ar, aq, au, am⟩) ∧ Off F2 wi w5) := ⟨t5, o5⟩
            clear t5 o5 m0 m1 m2 m3 m4 m5 q12 q22
            go_wp2_with fail
            go_roundg 0
            case measure => omega
            case rel =>
              refine ⟨2, Qa, Ga, _, _, by omega, rfl, by go_num, RI.out.1.right T5.out.1 T5.out.2, (T5.out.2.block _ (lt_of_heapK RI.out.2.1) HF.out.2.1).trans RI.out.2.1, (T5.out.2.block _ (lt_of_heapK RI.out.2.2.1) HF.out.2.2.2).trans RI.out.2.2.1, .inr (.inr ⟨rfl, ?_⟩)⟩
              obtain ⟨Q0, G0, rfl, rfl, hrl⟩ := HMD.out
              exact rel_on hrl _ HAI.out
          have t0 : (ak == 0) = false := by simpa using hk0
          by_cases hk1 : ak = 1
          · have t1 : (ak == 1) = true := by simp [hk1]
            have K1 : Hid (Calls Try.prog 11 #[.pointer (some ⟨b2, 0, none⟩), .int .i64 ai, .int .i64 ar] wi fun e w' => (∃ x, e = .returned (.int .i64 x)) ∧ Tab w' F2 b2 ((2 * j + 1) + 1) (stQ Qb ⟨ak, ai, ar, aq, au, am⟩) (stG Qb Gb ⟨ak, ai, ar, aq, au, am⟩) ∧ Off F2 wi w') := by
              refine (grant_is wi F2 b2 (2 * j + 1) Qb Gb RI.out.1.r (by omega) ai ar).mono ?_
              rintro e w' ⟨rfl, t1, o1⟩
              exact ⟨⟨_, rfl⟩, by unfold stQ stG; simp only [hk1]; exact t1, o1⟩
            clear hk1
            go_wp2_with fail
            refine K1.out.mono ?_
            rintro e w5 ⟨⟨x, rfl⟩, t5, o5⟩
            have T5 : Hid (Tab w5 F2 b2 ((2 * j + 1) + 1) (stQ Qb ⟨ak, ai, ar, aq, au, am⟩) (stG Qb Gb ⟨ak, ai, ar, aq, au, am⟩) ∧ Off F2 wi w5) := ⟨t5, o5⟩
            clear t5 o5 m0 m1 m2 m3 m4 m5 q12 q22
            go_wp2_with fail
            go_roundg 0
            case measure => omega
            case rel =>
              refine ⟨2, Qa, Ga, _, _, by omega, rfl, by go_num, RI.out.1.right T5.out.1 T5.out.2, (T5.out.2.block _ (lt_of_heapK RI.out.2.1) HF.out.2.1).trans RI.out.2.1, (T5.out.2.block _ (lt_of_heapK RI.out.2.2.1) HF.out.2.2.2).trans RI.out.2.2.1, .inr (.inr ⟨rfl, ?_⟩)⟩
              obtain ⟨Q0, G0, rfl, rfl, hrl⟩ := HMD.out
              exact rel_on hrl _ HAI.out
          have t1 : (ak == 1) = false := by simpa using hk1
          by_cases hk2 : ak = 2
          · have t2 : (ak == 2) = true := by simp [hk2]
            have K2 : Hid (Calls Try.prog 16 #[.pointer (some ⟨b2, 0, none⟩), .int .i64 ai, .int .i64 ar] wi fun e w' => (∃ x, e = .returned (.int .i64 x)) ∧ Tab w' F2 b2 ((2 * j + 1) + 1) (stQ Qb ⟨ak, ai, ar, aq, au, am⟩) (stG Qb Gb ⟨ak, ai, ar, aq, au, am⟩) ∧ Off F2 wi w') := by
              refine (revoke_is wi F2 b2 (2 * j + 1) Qb Gb RI.out.1.r (by omega) ai ar).mono ?_
              rintro e w' ⟨rfl, t1, o1⟩
              exact ⟨⟨_, rfl⟩, by unfold stQ stG; simp only [hk2]; exact t1, o1⟩
            clear hk2
            go_wp2_with fail
            refine K2.out.mono ?_
            rintro e w5 ⟨⟨x, rfl⟩, t5, o5⟩
            have T5 : Hid (Tab w5 F2 b2 ((2 * j + 1) + 1) (stQ Qb ⟨ak, ai, ar, aq, au, am⟩) (stG Qb Gb ⟨ak, ai, ar, aq, au, am⟩) ∧ Off F2 wi w5) := ⟨t5, o5⟩
            clear t5 o5 m0 m1 m2 m3 m4 m5 q12 q22
            go_wp2_with fail
            go_roundg 0
            case measure => omega
            case rel =>
              refine ⟨2, Qa, Ga, _, _, by omega, rfl, by go_num, RI.out.1.right T5.out.1 T5.out.2, (T5.out.2.block _ (lt_of_heapK RI.out.2.1) HF.out.2.1).trans RI.out.2.1, (T5.out.2.block _ (lt_of_heapK RI.out.2.2.1) HF.out.2.2.2).trans RI.out.2.2.1, .inr (.inr ⟨rfl, ?_⟩)⟩
              obtain ⟨Q0, G0, rfl, rfl, hrl⟩ := HMD.out
              exact rel_on hrl _ HAI.out
          have t2 : (ak == 2) = false := by simpa using hk2
          have hst : ∀ (Qz : Qm) (Gz : Gm), stQ Qz ⟨ak, ai, ar, aq, au, am⟩ = Qz ∧ stG Qz Gz ⟨ak, ai, ar, aq, au, am⟩ = Gz := fun Qz Gz => ⟨by unfold stQ; exact if_neg hk0, by unfold stG; rw [if_neg hk1, if_neg hk2]⟩
          have HST : Hid (∀ (Qz : Qm) (Gz : Gm), stQ Qz ⟨ak, ai, ar, aq, au, am⟩ = Qz ∧ stG Qz Gz ⟨ak, ai, ar, aq, au, am⟩ = Gz) := hst
          clear hst hk0 hk1 hk2
          go_wp2_with fail
          go_roundg 0
          case measure => omega
          case rel =>
            refine ⟨2, Qa, Ga, Qb, Gb, by omega, rfl, by go_num, RI.out.1.more (by omega), RI.out.2.1, RI.out.2.2.1, .inr (.inr ⟨rfl, ?_⟩)⟩
            obtain ⟨Q0, G0, e1, e2, hrl⟩ := HMD.out
            rw [e1, e2, (HST.out Q0 G0).1, (HST.out Q0 G0).2]
            exact hrl
        · have HAI : Hid (ai ≠ id) := hai
          have u0 : (ai != id) = true := by simpa using hai
          clear hai
          go_wp2_with fail
          go_roundg 0
          case measure => omega
          case rel =>
            refine ⟨2, Qa, Ga, Qb, Gb, by omega, rfl, by go_num, RI.out.1.more (by omega), RI.out.2.1, RI.out.2.2.1, .inr (.inr ⟨rfl, ?_⟩)⟩
            obtain ⟨Q0, G0, rfl, rfl, hrl⟩ := HMD.out
            exact rel_off hrl _ HAI.out
      · have HR2 : Hid (Rel id Qa Ga Qb Gb) := by
          rcases RI.out.2.2.2 with ⟨h, _⟩ | ⟨h, _⟩ | ⟨_, h⟩
          · omega
          · omega
          · exact h
        clear m0 m1 m2 m3 m4 m5 q12 q22
        go_wp2_with fail
        go_roundg (80 - (j + 1))
        case measure => have := HJ.out; omega
        case rel => exact ⟨j + 1, Qa, Ga, Qb, Gb, by have := HJ.out; omega, by have := HJ.out; omega, rfl, by push_cast; rfl, RI.out.1.more (by omega), HR2.out⟩
  · have HQQ : Hid (∃ (x : Bool) (y : Int) (L : List Int) (nL : Nat), (L.length = nL ∧ nL ≤ 6) ∧ (∀ W, Below wr.heap.size wr W → Calls Try.prog 15 #[.pointer (some ⟨b1, 0, none⟩), .int .i64 id] W fun e w' => e = .returned (.tuple #[.int .i64 y, .bool x]) ∧ w' = W) ∧ (∀ W, Below wr.heap.size wr W → Calls Try.prog 15 #[.pointer (some ⟨b2, 0, none⟩), .int .i64 id] W fun e w' => e = .returned (.tuple #[.int .i64 y, .bool x]) ∧ w' = W) ∧ (∀ W, Below wr.heap.size wr W → Calls Try.prog 20 #[.pointer (some ⟨b1, 0, none⟩), .int .i64 id] W fun e w' => ∃ a c, e = .returned (.slice a nL c) ∧ InZ w' a L ∧ Below W.heap.size W w') ∧ (∀ W, Below wr.heap.size wr W → Calls Try.prog 20 #[.pointer (some ⟨b2, 0, none⟩), .int .i64 id] W fun e w' => ∃ a c, e = .returned (.slice a nL c) ∧ InZ w' a L ∧ Below W.heap.size W w')) := by
      refine ⟨(Q id).isSome, (Q id).getD 0, sel (fun k => (G (id, k)).isSome) 6, _, ⟨rfl, sel_len _ _⟩, fun W hW => quota_is W F1 b1 _ Q G (RW.out.1.l.keep hW) id HID.out, fun W hW => ?_, fun W hW => ?_, fun W hW => ?_⟩
      · rw [RW.out.2.1]
        exact quota_is W F2 b2 _ Q' G' (RW.out.1.r.keep hW) id HID.out
      · refine (roots_is W F1 b1 _ Q G (RW.out.1.l.keep hW) id HID.out).mono ?_
        rintro e w' ⟨v, rfl, hz, hb⟩
        obtain ⟨a, c, rfl, hi, _⟩ := hz.slice
        exact ⟨a, c, rfl, hi, hb⟩
      · rw [sel_congr (U := fun k => (G' (id, k)).isSome) 6 (fun k _ _ => by show (G (id, k)).isSome = (G' (id, k)).isSome; rw [RW.out.2.2 k])]
        refine (roots_is W F2 b2 _ Q' G' (RW.out.1.r.keep hW) id HID.out).mono ?_
        rintro e w' ⟨v, rfl, hz, hb⟩
        obtain ⟨a, c, rfl, hi, _⟩ := hz.slice
        exact ⟨a, c, rfl, hi, hb⟩
    have HB : Hid (Below w.heap.size w wr) := RW.out.1.bel
    obtain ⟨x, y, L, nL, hL6, K1, K2, K3, K4⟩ := HQQ.out
    have KA : Hid (∀ W, Below wr.heap.size wr W → Calls Try.prog 15 #[.pointer (some ⟨b1, 0, none⟩), .int .i64 id] W fun e w' => e = .returned (.tuple #[.int .i64 y, .bool x]) ∧ w' = W) := K1
    have KB : Hid (∀ W, Below wr.heap.size wr W → Calls Try.prog 15 #[.pointer (some ⟨b2, 0, none⟩), .int .i64 id] W fun e w' => e = .returned (.tuple #[.int .i64 y, .bool x]) ∧ w' = W) := K2
    have KC : Hid (∀ W, Below wr.heap.size wr W → Calls Try.prog 20 #[.pointer (some ⟨b1, 0, none⟩), .int .i64 id] W fun e w' => ∃ a c, e = .returned (.slice a nL c) ∧ InZ w' a L ∧ Below W.heap.size W w') := K3
    have KD : Hid (∀ W, Below wr.heap.size wr W → Calls Try.prog 20 #[.pointer (some ⟨b2, 0, none⟩), .int .i64 id] W fun e w' => ∃ a c, e = .returned (.slice a nL c) ∧ InZ w' a L ∧ Below W.heap.size W w') := K4
    have HL6 : Hid (L.length = nL ∧ nL ≤ 6) := hL6
    clear K1 K2 K3 K4 HQQ hL6 RW
    rcases (by omega : ¬ (j < len) ∨ (j < len ∧ ¬ (j < 80))) with hjj | hjj
    · have j1 : decide ((j : Int) < (len : Int)) = false := by rw [decide_eq_false_iff_not]; omega
      clear hlt
      go_wp2_with fail
      refine (KA.out _ (Below.refl _ _)).mono ?_
      rintro e w5 ⟨rfl, hw⟩
      obtain rfl := hw.symm
      clear hw
      go_wp2_with fail
      refine (KB.out _ (Below.refl _ _)).mono ?_
      rintro e w5 ⟨rfl, hw⟩
      obtain rfl := hw.symm
      clear hw
      go_wp2_with fail
      refine (KC.out _ (Below.refl _ _)).mono ?_
      rintro e w6 ⟨a1, c1, rfl, i1, b6⟩
      have I6 : Hid (InZ w6 a1 L ∧ Below wr.heap.size wr w6) := ⟨i1, b6⟩
      clear i1 b6
      go_wp2_with fail
      refine (KD.out _ I6.out.2).mono ?_
      rintro e w7 ⟨a2, c2, rfl, i2, b7⟩
      have I7 : Hid (InZ w7 a1 L ∧ InZ w7 a2 L ∧ Below w.heap.size w w7) := ⟨I6.out.1.keep b7, i2, HB.out.trans ((I6.out.2.trans (b7.mono I6.out.2.size)).mono HB.out.size)⟩
      clear i2 b7
      go_wp2_with fail
      refine (samen_true _ a1 a2 nL c1 c2 L HL6.out.1 I7.out.1 I7.out.2.1 (by have := HL6.out.2; omega)).mono ?_
      rintro e w8 ⟨rfl, b8⟩
      have B8 : Hid (Below w.heap.size w w8) := I7.out.2.2.trans (b8.mono I7.out.2.2.size)
      clear b8
      go_wp2_with fail
      refine (KW.out _).mono ?_
      rintro e w9 ⟨rfl, b9⟩
      have B9 : Hid (Below w.heap.size w w9) := B8.out.trans (b9.mono B8.out.size)
      clear b9
      go_wp2_with fail
      go_ret
      exact ⟨rfl, B9.out⟩
    · have j1 : decide ((j : Int) < (len : Int)) = true := by rw [decide_eq_true_eq]; omega
      have j2 : decide ((j : Int) < 80) = false := by rw [decide_eq_false_iff_not]; omega
      clear hlt
      go_wp2_with fail
      refine (KA.out _ (Below.refl _ _)).mono ?_
      rintro e w5 ⟨rfl, hw⟩
      obtain rfl := hw.symm
      clear hw
      go_wp2_with fail
      refine (KB.out _ (Below.refl _ _)).mono ?_
      rintro e w5 ⟨rfl, hw⟩
      obtain rfl := hw.symm
      clear hw
      go_wp2_with fail
      refine (KC.out _ (Below.refl _ _)).mono ?_
      rintro e w6 ⟨a1, c1, rfl, i1, b6⟩
      have I6 : Hid (InZ w6 a1 L ∧ Below wr.heap.size wr w6) := ⟨i1, b6⟩
      clear i1 b6
      go_wp2_with fail
      refine (KD.out _ I6.out.2).mono ?_
      rintro e w7 ⟨a2, c2, rfl, i2, b7⟩
      have I7 : Hid (InZ w7 a1 L ∧ InZ w7 a2 L ∧ Below w.heap.size w w7) := ⟨I6.out.1.keep b7, i2, HB.out.trans ((I6.out.2.trans (b7.mono I6.out.2.size)).mono HB.out.size)⟩
      clear i2 b7
      go_wp2_with fail
      refine (samen_true _ a1 a2 nL c1 c2 L HL6.out.1 I7.out.1 I7.out.2.1 (by have := HL6.out.2; omega)).mono ?_
      rintro e w8 ⟨rfl, b8⟩
      have B8 : Hid (Below w.heap.size w w8) := I7.out.2.2.trans (b8.mono I7.out.2.2.size)
      clear b8
      go_wp2_with fail
      refine (KW.out _).mono ?_
      rintro e w9 ⟨rfl, b9⟩
      have B9 : Hid (Below w.heap.size w w9) := B8.out.trans (b9.mono B8.out.size)
      clear b9
      go_wp2_with fail
      go_ret
      exact ⟨rfl, B9.out⟩
end Go.Proofs.Ytgfjhghhonaiiaa
