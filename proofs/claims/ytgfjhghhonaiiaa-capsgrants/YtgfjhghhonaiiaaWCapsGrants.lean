/- CapsGrants: the walk (gen_cgrants.py). -/
import Derived.Test.YtgfjhghhonaiiaaCpG
import Derived.Deep.RegionWith
namespace Go.Proofs.Ytgfjhghhonaiiaa
open Go.ChangeShapes Go.WideShapes Go.ChangeAt Go.RowKit Go.Deep Go.Maps
set_option linter.unusedVariables false
set_option linter.unusedSimpArgs false
set_option maxRecDepth 100000 in
set_option maxHeartbeats 16000000 in
theorem capsGrants_walk (a0 : Option Addr) (len cap : Nat) (A : Nat → Ca) (w : World) (hin : InCa w a0 len A) : Calls Try.prog 7 #[.slice a0 len cap] w fun e w' => e = .returned (.bool true) ∧ Below w.heap.size w w' := by
  have KN : Hid (∀ W : World, Calls Try.prog 8 #[] W fun e w' => ∃ b F, e = .returned (.pointer (some ⟨b, 0, none⟩)) ∧ Tab w' F b 0 noQ noG ∧ Below W.heap.size W w' ∧ ∀ k, F k → W.heap.size ≤ k) := new_is
  have KW : Hid (∀ W : World, Calls Try.prog 14 #[] W fun e w' => e = .returned (.bool true) ∧ Below W.heap.size W w') := cworks_true
  have HI : Hid (InCa w a0 len A) := hin
  have HL : Hid (len ≤ 2932031007402) := hin.2.2
  clear hin
  go_enter Try.func7, Try.ntmps7
  go_wp2_with fail
  refine (KN.out _).mono ?_
  rintro e w1 ⟨b, F, rfl, t1, bb1, f1⟩
  have z1 : (w1.alloc (.cells (mayA noG) 55)).heap.size = w1.heap.size + 1 := by simp
  have H2 : Hid (Gs w ((w1.alloc (.cells (mayA noG) 55)).alloc (.cells (thA noQ) 56)) F b w1.heap.size (w1.heap.size + 1) 0 noQ noG noQ noG) := by
    refine ⟨(t1.keep (below1 _ _)).keep (below1 _ _), (Below.heap_alloc _ _ _ (by omega)).trans (heap_alloc_new w1 _), ?_, fun h => by have := t1.lt _ h; omega, fun h => by have := t1.lt _ h; omega, by omega, f1, bb1.size, by have := bb1.size; omega, (bb1.alloc (by exact bb1.size) _).alloc (by have := bb1.size; rw [z1]; omega) _⟩
    have := heap_alloc_new (w1.alloc (.cells (mayA noG) 55)) (.cells (thA noQ) 56)
    rwa [z1] at this
  rw [may0, th0] at H2
  clear t1 bb1 f1 KN z1
  obtain ⟨mm, hmm⟩ : ∃ mm, mm = w1.heap.size := ⟨_, rfl⟩
  go_wp2_with fail
  go_loopg [6] 80 (fun g i wr => ∃ (j : Nat) (Q : Qm) (G : Gm), j ≤ 80 ∧ j ≤ len ∧ g = 80 - j ∧ i = .int .i64 (j : Int) ∧ Hid (Gs w wr F b w1.heap.size (w1.heap.size + 1) (2 * j) Q G Q G))
  case atStart => exact ⟨0, noQ, noG, Nat.zero_le _, Nat.zero_le _, rfl, rfl, H2.out.as (by first | rfl | rw [th0]) (by first | rfl | rw [may0])⟩
  obtain ⟨j, Q, G, hj, hjl, rfl, rfl, RW⟩ := hrel
  clear H2
  by_cases hlt : j < len ∧ j < 80
  · have j1 : decide ((j : Int) < (len : Int)) = true := by rw [decide_eq_true_eq]; omega
    have j2 : decide ((j : Int) < 80) = true := by rw [decide_eq_true_eq]; omega
    have j3 : (j : Int) < (len : Int) := by omega
    have j4 : j < len := by omega
    have ri : IntKind.i64.wrap ((j : Int) + 1) = (j : Int) + 1 := by rw [IntKind.wrap_i64]; omega
    obtain ⟨gb, off, rfl, hgb, hc⟩ := (HI.out.below RW.out.bel).at hlt.1
    have hok := HI.out.2.1 j hlt.1
    obtain ⟨ca, hca⟩ : ∃ ca, ca = A j := ⟨_, rfl⟩
    rw [← hca] at hc hok
    clear hca
    obtain ⟨ak, ai, ar, aq, au, am⟩ := ca
    obtain ⟨c0, c1, c2, c3, c4, c5⟩ := hc
    simp only at c0 c1 c2 c3 c4 c5
    have HOK : Hid (Ca.ok ⟨ak, ai, ar, aq, au, am⟩) := hok
    rename World => wo
    clear hok hgb hmm
    have HA : Hid (Gs w (wo.alloc (.cells #[.int .i64 ak, .int .i64 ai, .int .i64 ar, .int .i64 aq, .int .i64 au, .int .i64 am] 30)) F b w1.heap.size (w1.heap.size + 1) (2 * j) Q G Q G ∧ (wo.alloc (.cells #[.int .i64 ak, .int .i64 ai, .int .i64 ar, .int .i64 aq, .int .i64 au, .int .i64 am] 30)).heap[wo.heap.size]? = some (.cells #[.int .i64 ak, .int .i64 ai, .int .i64 ar, .int .i64 aq, .int .i64 au, .int .i64 am] 30)) := ⟨RW.out.keep (below1 _ _), heap_alloc_new wo _⟩
    have HF : Hid (¬ F wo.heap.size ∧ wo.heap.size ≠ w1.heap.size ∧ wo.heap.size ≠ w1.heap.size + 1) := ⟨fun h => by have := RW.out.tab.lt _ h; omega, by have := lt_of_heapK RW.out.may; omega, by have := lt_of_heapK RW.out.th; omega⟩
    have HJ : Hid (j < len ∧ j < 80) := hlt
    clear hlt
    by_cases hi : 1 ≤ ai ∧ ai ≤ 8
    · obtain ⟨n, rfl⟩ : ∃ n : Nat, ai = (n : Int) := ⟨ai.toNat, by omega⟩
      have i1 : decide (1 ≤ (n : Int)) = true := decide_eq_true hi.1
      have i2 : decide ((n : Int) ≤ 8) = true := decide_eq_true hi.2
      by_cases hr : 1 ≤ ar ∧ ar ≤ 6
      · obtain ⟨s, rfl⟩ : ∃ s : Nat, ar = (s : Int) := ⟨ar.toNat, by omega⟩
        have i3 : decide (1 ≤ (s : Int)) = true := decide_eq_true hr.1
        have i4 : decide ((s : Int) ≤ 6) = true := decide_eq_true hr.2
        have HNI : Hid (1 ≤ (n : Int) ∧ (n : Int) ≤ 8 ∧ 1 ≤ (s : Int) ∧ (s : Int) ≤ 6) := ⟨hi.1, hi.2, hr.1, hr.2⟩
        clear hi hr
        go_wp2_with fail
        clear c0 c1 c2 c3 c4 c5
        go_loopg [48] 2 (fun g i wi => ∃ (q2 : Nat) (Qa : Qm) (Ga : Gm), q2 ≤ 2 ∧ g = 2 - q2 ∧ i = .int .i64 (q2 : Int) ∧ Hid (Gs w wi F b w1.heap.size (w1.heap.size + 1) (2 * j + q2) Qa Ga Qa Ga ∧ wi.heap[wo.heap.size]? = some (.cells #[.int .i64 ak, .int .i64 (n : Int), .int .i64 (s : Int), .int .i64 aq, .int .i64 au, .int .i64 am] 30)))
        case atStart => exact ⟨0, Q, G, Nat.zero_le _, rfl, rfl, HA.out⟩
        case round =>
          obtain ⟨q2, Qa, Ga, hq2, rfl, rfl, RI⟩ := hrel
          rename World => wi
          by_cases hl2 : q2 < 2
          · have l1 : decide ((q2 : Int) < 2) = true := by rw [decide_eq_true_eq]; omega
            have rq : IntKind.i64.wrap ((q2 : Int) + 1) = (q2 : Int) + 1 := by rw [IntKind.wrap_i64]; omega
            obtain ⟨m0, m1, m2, m3⟩ : wi.cell? ⟨wo.heap.size, 0, none⟩ = some (.int .i64 ak) ∧ wi.cell? ⟨wo.heap.size, 1, none⟩ = some (.int .i64 (n : Int)) ∧ wi.cell? ⟨wo.heap.size, 2, none⟩ = some (.int .i64 (s : Int)) ∧ wi.cell? ⟨wo.heap.size, 3, none⟩ = some (.int .i64 aq) := by
              refine ⟨?_, ?_, ?_, ?_⟩ <;> simp [World.cell?, RI.out.2]
            by_cases hk0 : ak = 0
            · have t0 : (ak == 0) = true := by simp [hk0]
              clear hk0
              have K0 : Hid (Calls Try.prog 10 #[.pointer (some ⟨b, 0, none⟩), .int .i64 (n : Int), .int .i64 aq] wi fun e w' => e = .returned (.int .i64 (tnE Qa (n : Int) aq)) ∧ Tab w' F b ((2 * j + q2) + 1) (tnQ Qa (n : Int) aq) (Ga) ∧ Off F wi w') := by
                refine (tenant_is wi F b (2 * j + q2) Qa Ga RI.out.1.tab (by omega) (n : Int) aq HOK.out.2.2.2.1).mono ?_
                rintro e w' ⟨rfl, t1, o1⟩
                exact ⟨rfl, t1, o1⟩
              generalize tnE Qa (n : Int) aq = x5 at K0
              go_wp2_with fail
              refine K0.out.mono ?_
              rintro e w5 ⟨rfl, t5, o5⟩
              have G5 : Hid (Gs w w5 F b w1.heap.size (w1.heap.size + 1) (2 * j + q2 + 1) (tnQ Qa (n : Int) aq) (Ga) Qa Ga ∧ w5.heap[wo.heap.size]? = some (.cells #[.int .i64 ak, .int .i64 (n : Int), .int .i64 (s : Int), .int .i64 aq, .int .i64 au, .int .i64 am] 30)) := ⟨RI.out.1.call t5 o5, (o5.block _ (lt_of_heapK RI.out.2) HF.out.1).trans RI.out.2⟩
              obtain ⟨m0, m1, m2, m3⟩ : w5.cell? ⟨wo.heap.size, 0, none⟩ = some (.int .i64 ak) ∧ w5.cell? ⟨wo.heap.size, 1, none⟩ = some (.int .i64 (n : Int)) ∧ w5.cell? ⟨wo.heap.size, 2, none⟩ = some (.int .i64 (s : Int)) ∧ w5.cell? ⟨wo.heap.size, 3, none⟩ = some (.int .i64 aq) := by
                refine ⟨?_, ?_, ?_, ?_⟩ <;> simp [World.cell?, G5.out.2]
              clear t5 o5 K0
              by_cases hq0 : 0 ≤ aq
              · have d0 : decide (0 ≤ aq) = true := decide_eq_true hq0
                have ES : Hid (∀ k : Nat, k < 9 → ((tnQ Qa (n : Int) aq) (k : Int)).isSome = if k = n then true else (Qa (k : Int)).isSome) := by
                  intro k hk
                  unfold tnQ
                  by_cases e : tnE Qa (n : Int) aq = 0
                  · rw [if_pos e]
                    show (if (k : Int) = (n : Int) then some aq else Qa (k : Int)).isSome = _
                    by_cases e2 : k = n
                    · rw [if_pos (by omega), if_pos e2]; rfl
                    · rw [if_neg (by omega), if_neg e2]
                  · rw [if_neg e]
                    by_cases e2 : k = n
                    · rw [if_pos e2, e2]
                      unfold tnE at e
                      rw [if_neg (by have := HNI.out; omega)] at e
                      by_cases e3 : (Qa (n : Int)).isSome = true
                      · exact e3
                      · rw [if_neg e3] at e; exact absurd rfl e
                    · rw [if_neg e2]
                have GT : Hid (Gs w (w5.setCell ⟨w1.heap.size + 1, n, none⟩ (.bool true)) F b w1.heap.size (w1.heap.size + 1) (2 * j + q2 + 1) (tnQ Qa (n : Int) aq) Ga (tnQ Qa (n : Int) aq) Ga ∧ (w5.setCell ⟨w1.heap.size + 1, n, none⟩ (.bool true)).heap[wo.heap.size]? = some (.cells #[.int .i64 ak, .int .i64 (n : Int), .int .i64 (s : Int), .int .i64 aq, .int .i64 au, .int .i64 am] 30)) := ⟨G5.out.1.setT n true (by have := HNI.out; omega) ES.out, (set_off w5 _ _ _ _ HF.out.2.2).trans G5.out.2⟩
                obtain ⟨h1, h2⟩ := G5.out.1.thAt n (by have := HNI.out; omega)
                have x1 : (0 : Int) ≤ (n : Int) := by omega
                have x2 : (n : Int) < 9 := by have := HNI.out; omega
                have x3 : n < 9 := by have := HNI.out; omega
                generalize (Qa (n : Int)).isSome = yb at h1
                clear hq0 ES
                go_wp2_with fail
                go_roundg (2 - (q2 + 1))
                case measure => omega
                case rel => exact ⟨q2 + 1, _, _, by omega, rfl, by push_cast; rfl, GT.out⟩
              · have d0 : decide (0 ≤ aq) = false := decide_eq_false hq0
                have EQ : Hid (tnQ Qa (n : Int) aq = Qa) := by show _ = _; unfold tnQ tnE; rw [if_neg (by rw [if_pos (by omega)]; decide)]
                clear hq0
                go_wp2_with fail
                go_roundg (2 - (q2 + 1))
                case measure => omega
                case rel => exact ⟨q2 + 1, _, _, by omega, rfl, by push_cast; rfl, by have := G5.out.1; rw [EQ.out] at this; exact this, G5.out.2⟩
            have t0 : (ak == 0) = false := by simpa using hk0
            by_cases hk1 : ak = 1
            · have t1 : (ak == 1) = true := by simp [hk1]
              clear hk0 hk1
              cases hs : (Qa (n : Int)).isSome with
              | false =>
                have EC : Hid (ckE Qa (n : Int) (s : Int) = 9) := by show _ = _; unfold ckE; rw [if_neg (by have := HNI.out; omega), hs]; rfl
                have K1 : Hid (Calls Try.prog 11 #[.pointer (some ⟨b, 0, none⟩), .int .i64 (n : Int), .int .i64 (s : Int)] wi fun e w' => e = .returned (.int .i64 9) ∧ Tab w' F b ((2 * j + q2) + 1) (Qa) (Ga) ∧ Off F wi w') := by
                  refine (grant_is wi F b (2 * j + q2) Qa Ga RI.out.1.tab (by omega) (n : Int) (s : Int)).mono ?_
                  rintro e w' ⟨rfl, t1, o1⟩
                  refine ⟨by rw [EC.out], ?_, o1⟩
                  unfold grG at t1
                  rwa [if_neg (by rw [EC.out]; decide)] at t1
                go_wp2_with fail
                refine K1.out.mono ?_
                rintro e w5 ⟨rfl, t5, o5⟩
                have G5 : Hid (Gs w w5 F b w1.heap.size (w1.heap.size + 1) (2 * j + q2 + 1) (Qa) (Ga) Qa Ga ∧ w5.heap[wo.heap.size]? = some (.cells #[.int .i64 ak, .int .i64 (n : Int), .int .i64 (s : Int), .int .i64 aq, .int .i64 au, .int .i64 am] 30)) := ⟨RI.out.1.call t5 o5, (o5.block _ (lt_of_heapK RI.out.2) HF.out.1).trans RI.out.2⟩
                obtain ⟨m0, m1, m2, m3⟩ : w5.cell? ⟨wo.heap.size, 0, none⟩ = some (.int .i64 ak) ∧ w5.cell? ⟨wo.heap.size, 1, none⟩ = some (.int .i64 (n : Int)) ∧ w5.cell? ⟨wo.heap.size, 2, none⟩ = some (.int .i64 (s : Int)) ∧ w5.cell? ⟨wo.heap.size, 3, none⟩ = some (.int .i64 aq) := by
                  refine ⟨?_, ?_, ?_, ?_⟩ <;> simp [World.cell?, G5.out.2]
                clear t5 o5 K1
                obtain ⟨h1, h2⟩ := G5.out.1.thAt n (by have := HNI.out; omega)
                rw [hs] at h1
                clear hs h2
                have x1 : (0 : Int) ≤ (n : Int) := by omega
                have x2 : (n : Int) < 9 := by have := HNI.out; omega
                have x3 : n < 9 := by have := HNI.out; omega
                go_wp2_with fail
                go_roundg (2 - (q2 + 1))
                case measure => omega
                case rel => exact ⟨q2 + 1, _, _, by omega, rfl, by push_cast; rfl, G5.out⟩
              | true =>
                have EC : Hid (ckE Qa (n : Int) (s : Int) = 0) := by show _ = _; unfold ckE; rw [if_neg (by have := HNI.out; omega), hs]; rfl
                have K1 : Hid (Calls Try.prog 11 #[.pointer (some ⟨b, 0, none⟩), .int .i64 (n : Int), .int .i64 (s : Int)] wi fun e w' => e = .returned (.int .i64 0) ∧ Tab w' F b ((2 * j + q2) + 1) (Qa) (grG Qa Ga (n : Int) (s : Int)) ∧ Off F wi w') := by
                  refine (grant_is wi F b (2 * j + q2) Qa Ga RI.out.1.tab (by omega) (n : Int) (s : Int)).mono ?_
                  rintro e w' ⟨rfl, t1, o1⟩
                  exact ⟨by rw [EC.out], t1, o1⟩
                go_wp2_with fail
                refine K1.out.mono ?_
                rintro e w5 ⟨rfl, t5, o5⟩
                have G5 : Hid (Gs w w5 F b w1.heap.size (w1.heap.size + 1) (2 * j + q2 + 1) (Qa) (grG Qa Ga (n : Int) (s : Int)) Qa Ga ∧ w5.heap[wo.heap.size]? = some (.cells #[.int .i64 ak, .int .i64 (n : Int), .int .i64 (s : Int), .int .i64 aq, .int .i64 au, .int .i64 am] 30)) := ⟨RI.out.1.call t5 o5, (o5.block _ (lt_of_heapK RI.out.2) HF.out.1).trans RI.out.2⟩
                obtain ⟨m0, m1, m2, m3⟩ : w5.cell? ⟨wo.heap.size, 0, none⟩ = some (.int .i64 ak) ∧ w5.cell? ⟨wo.heap.size, 1, none⟩ = some (.int .i64 (n : Int)) ∧ w5.cell? ⟨wo.heap.size, 2, none⟩ = some (.int .i64 (s : Int)) ∧ w5.cell? ⟨wo.heap.size, 3, none⟩ = some (.int .i64 aq) := by
                  refine ⟨?_, ?_, ?_, ?_⟩ <;> simp [World.cell?, G5.out.2]
                clear t5 o5 K1
                obtain ⟨h1, h2⟩ := G5.out.1.thAt n (by have := HNI.out; omega)
                rw [hs] at h1
                clear hs h2
                have x1 : (0 : Int) ≤ (n : Int) := by omega
                have x2 : (n : Int) < 9 := by have := HNI.out; omega
                have x3 : n < 9 := by have := HNI.out; omega
                have x4 : (0 : Int) ≤ (s : Int) := by omega
                have x5 : (s : Int) < 7 := by have := HNI.out; omega
                have x6 : s < 7 := by have := HNI.out; omega
                obtain ⟨h3, h4⟩ := G5.out.1.mayAt n s (by have := HNI.out; omega) (by have := HNI.out; omega)
                generalize (Ga ((n : Int), (s : Int))).isSome = yb at h3
                have GT : Hid (∀ k, Gs w ((w5.drewN k).setCell ⟨w1.heap.size, n * 7 + s, none⟩ (.bool true)) F b w1.heap.size (w1.heap.size + 1) (2 * j + q2 + 1) Qa (grG Qa Ga (n : Int) (s : Int)) Qa (grG Qa Ga (n : Int) (s : Int)) ∧ ((w5.drewN k).setCell ⟨w1.heap.size, n * 7 + s, none⟩ (.bool true)).heap[wo.heap.size]? = some (.cells #[.int .i64 ak, .int .i64 (n : Int), .int .i64 (s : Int), .int .i64 aq, .int .i64 au, .int .i64 am] 30)) := fun k => ⟨(G5.out.1.keep (below_drewN (Below.refl _ _) k)).setM n s true (by have := HNI.out; omega) (by have := HNI.out; omega) (fun j u _ _ => gr_arr EC.out j u), (set_off _ _ _ _ _ HF.out.2.1).trans G5.out.2⟩
                go_wp2_with fail
                go_region
                go_wp2_with fail
                go_roundg (2 - (q2 + 1))
                case measure => omega
                case rel => exact ⟨q2 + 1, _, _, by omega, rfl, by push_cast; rfl, GT.out _⟩
            have t1 : (ak == 1) = false := by simpa using hk1
            by_cases hk2 : ak = 2
            · have t2 : (ak == 2) = true := by simp [hk2]
              clear hk0 hk1 hk2
              have HGD : Hid (Gd Qa Ga) := RI.out.1.tab.gd
              have K2 : Hid (Calls Try.prog 16 #[.pointer (some ⟨b, 0, none⟩), .int .i64 (n : Int), .int .i64 (s : Int)] wi fun e w' => e = .returned (.int .i64 (ckE Qa (n : Int) (s : Int))) ∧ Tab w' F b ((2 * j + q2) + 1) (Qa) (rvG Qa Ga (n : Int) (s : Int)) ∧ Off F wi w') := by
                refine (revoke_is wi F b (2 * j + q2) Qa Ga RI.out.1.tab (by omega) (n : Int) (s : Int)).mono ?_
                rintro e w' ⟨rfl, t1, o1⟩
                exact ⟨rfl, t1, o1⟩
              generalize ckE Qa (n : Int) (s : Int) = x5 at K2
              go_wp2_with fail
              refine K2.out.mono ?_
              rintro e w5 ⟨rfl, t5, o5⟩
              have G5 : Hid (Gs w w5 F b w1.heap.size (w1.heap.size + 1) (2 * j + q2 + 1) (Qa) (rvG Qa Ga (n : Int) (s : Int)) Qa Ga ∧ w5.heap[wo.heap.size]? = some (.cells #[.int .i64 ak, .int .i64 (n : Int), .int .i64 (s : Int), .int .i64 aq, .int .i64 au, .int .i64 am] 30)) := ⟨RI.out.1.call t5 o5, (o5.block _ (lt_of_heapK RI.out.2) HF.out.1).trans RI.out.2⟩
              obtain ⟨m0, m1, m2, m3⟩ : w5.cell? ⟨wo.heap.size, 0, none⟩ = some (.int .i64 ak) ∧ w5.cell? ⟨wo.heap.size, 1, none⟩ = some (.int .i64 (n : Int)) ∧ w5.cell? ⟨wo.heap.size, 2, none⟩ = some (.int .i64 (s : Int)) ∧ w5.cell? ⟨wo.heap.size, 3, none⟩ = some (.int .i64 aq) := by
                refine ⟨?_, ?_, ?_, ?_⟩ <;> simp [World.cell?, G5.out.2]
              clear t5 o5 K2
              have x1 : (0 : Int) ≤ (n : Int) := by omega
              have x2 : (n : Int) < 9 := by have := HNI.out; omega
              have x3 : n < 9 := by have := HNI.out; omega
              have x4 : (0 : Int) ≤ (s : Int) := by omega
              have x5 : (s : Int) < 7 := by have := HNI.out; omega
              have x6 : s < 7 := by have := HNI.out; omega
              obtain ⟨h3, h4⟩ := G5.out.1.mayAt n s (by have := HNI.out; omega) (by have := HNI.out; omega)
              generalize (Ga ((n : Int), (s : Int))).isSome = yb at h3
              have ER : Hid (∀ j u : Nat, j < 9 → u < 7 → (rvG Qa Ga (n : Int) (s : Int) ((j : Int), (u : Int))).isSome = if j = n ∧ u = s then false else (Ga ((j : Int), (u : Int))).isSome) := by
                intro j u _ _
                rw [rv_arr HGD.out]
                by_cases e : j = n ∧ u = s
                · rw [if_pos e]
                  by_cases e2 : ckE Qa (n : Int) (s : Int) = 0
                  · rw [if_pos ⟨e, e2⟩]
                  · rw [if_neg (fun h => e2 h.2), e.1, e.2]
                    cases hg : Ga ((n : Int), (s : Int)) with
                    | none => rfl
                    | some y =>
                      exfalso
                      have h5 := HGD.out.g n s hg
                      apply e2
                      unfold ckE
                      rw [if_neg (by omega), h5.2.2.2.2]
                      rfl
                · rw [if_neg e, if_neg (fun h => e h.1)]
              have GT : Hid (∀ k, Gs w ((w5.drewN k).setCell ⟨w1.heap.size, n * 7 + s, none⟩ (.bool false)) F b w1.heap.size (w1.heap.size + 1) (2 * j + q2 + 1) Qa (rvG Qa Ga (n : Int) (s : Int)) Qa (rvG Qa Ga (n : Int) (s : Int)) ∧ ((w5.drewN k).setCell ⟨w1.heap.size, n * 7 + s, none⟩ (.bool false)).heap[wo.heap.size]? = some (.cells #[.int .i64 ak, .int .i64 (n : Int), .int .i64 (s : Int), .int .i64 aq, .int .i64 au, .int .i64 am] 30)) := fun k => ⟨(G5.out.1.keep (below_drewN (Below.refl _ _) k)).setM n s false (by have := HNI.out; omega) (by have := HNI.out; omega) ER.out, (set_off _ _ _ _ _ HF.out.2.1).trans G5.out.2⟩
              clear ER
              go_wp2_with fail
              go_region
              go_wp2_with fail
              go_roundg (2 - (q2 + 1))
              case measure => omega
              case rel => exact ⟨q2 + 1, _, _, by omega, rfl, by push_cast; rfl, GT.out _⟩
            have t2 : (ak == 2) = false := by simpa using hk2
            clear hk0 hk1 hk2
            go_wp2_with fail
            go_roundg (2 - (q2 + 1))
            case measure => omega
            case rel => exact ⟨q2 + 1, _, _, by omega, rfl, by push_cast; rfl, RI.out.1.more (by omega), RI.out.2⟩
          · have l1 : decide ((q2 : Int) < 2) = false := by rw [decide_eq_false_iff_not]; omega
            obtain rfl : q2 = 2 := by omega
            go_wp2_with fail
            go_roundg (80 - (j + 1))
            case measure => have := HJ.out; omega
            case rel => exact ⟨j + 1, Qa, Ga, by have := HJ.out; omega, by have := HJ.out; omega, rfl, by push_cast; rfl, RI.out.1.more (by omega)⟩
      · have HNI : Hid (1 ≤ (n : Int) ∧ (n : Int) ≤ 8 ∧ (ar < 1 ∨ 6 < ar)) := ⟨hi.1, hi.2, by omega⟩
        by_cases hr1 : 1 ≤ ar
        · have i3 : decide (1 ≤ ar) = true := decide_eq_true hr1
          have i4 : decide (ar ≤ 6) = false := by rw [decide_eq_false_iff_not]; omega
          clear hi hr hr1
          go_wp2_with fail
          clear c0 c1 c2 c3 c4 c5
          go_loopg [48] 2 (fun g i wi => ∃ (q2 : Nat) (Qa : Qm) (Ga : Gm), q2 ≤ 2 ∧ g = 2 - q2 ∧ i = .int .i64 (q2 : Int) ∧ Hid (Gs w wi F b w1.heap.size (w1.heap.size + 1) (2 * j + q2) Qa Ga Qa Ga ∧ wi.heap[wo.heap.size]? = some (.cells #[.int .i64 ak, .int .i64 (n : Int), .int .i64 ar, .int .i64 aq, .int .i64 au, .int .i64 am] 30)))
          case atStart => exact ⟨0, Q, G, Nat.zero_le _, rfl, rfl, HA.out⟩
          case round =>
            obtain ⟨q2, Qa, Ga, hq2, rfl, rfl, RI⟩ := hrel
            rename World => wi
            by_cases hl2 : q2 < 2
            · have l1 : decide ((q2 : Int) < 2) = true := by rw [decide_eq_true_eq]; omega
              have rq : IntKind.i64.wrap ((q2 : Int) + 1) = (q2 : Int) + 1 := by rw [IntKind.wrap_i64]; omega
              obtain ⟨m0, m1, m2, m3⟩ : wi.cell? ⟨wo.heap.size, 0, none⟩ = some (.int .i64 ak) ∧ wi.cell? ⟨wo.heap.size, 1, none⟩ = some (.int .i64 (n : Int)) ∧ wi.cell? ⟨wo.heap.size, 2, none⟩ = some (.int .i64 ar) ∧ wi.cell? ⟨wo.heap.size, 3, none⟩ = some (.int .i64 aq) := by
                refine ⟨?_, ?_, ?_, ?_⟩ <;> simp [World.cell?, RI.out.2]
              by_cases hk0 : ak = 0
              · have t0 : (ak == 0) = true := by simp [hk0]
                clear hk0
                have K0 : Hid (Calls Try.prog 10 #[.pointer (some ⟨b, 0, none⟩), .int .i64 (n : Int), .int .i64 aq] wi fun e w' => e = .returned (.int .i64 (tnE Qa (n : Int) aq)) ∧ Tab w' F b ((2 * j + q2) + 1) (tnQ Qa (n : Int) aq) (Ga) ∧ Off F wi w') := by
                  refine (tenant_is wi F b (2 * j + q2) Qa Ga RI.out.1.tab (by omega) (n : Int) aq HOK.out.2.2.2.1).mono ?_
                  rintro e w' ⟨rfl, t1, o1⟩
                  exact ⟨rfl, t1, o1⟩
                generalize tnE Qa (n : Int) aq = x5 at K0
                go_wp2_with fail
                refine K0.out.mono ?_
                rintro e w5 ⟨rfl, t5, o5⟩
                have G5 : Hid (Gs w w5 F b w1.heap.size (w1.heap.size + 1) (2 * j + q2 + 1) (tnQ Qa (n : Int) aq) (Ga) Qa Ga ∧ w5.heap[wo.heap.size]? = some (.cells #[.int .i64 ak, .int .i64 (n : Int), .int .i64 ar, .int .i64 aq, .int .i64 au, .int .i64 am] 30)) := ⟨RI.out.1.call t5 o5, (o5.block _ (lt_of_heapK RI.out.2) HF.out.1).trans RI.out.2⟩
                obtain ⟨m0, m1, m2, m3⟩ : w5.cell? ⟨wo.heap.size, 0, none⟩ = some (.int .i64 ak) ∧ w5.cell? ⟨wo.heap.size, 1, none⟩ = some (.int .i64 (n : Int)) ∧ w5.cell? ⟨wo.heap.size, 2, none⟩ = some (.int .i64 ar) ∧ w5.cell? ⟨wo.heap.size, 3, none⟩ = some (.int .i64 aq) := by
                  refine ⟨?_, ?_, ?_, ?_⟩ <;> simp [World.cell?, G5.out.2]
                clear t5 o5 K0
                by_cases hq0 : 0 ≤ aq
                · have d0 : decide (0 ≤ aq) = true := decide_eq_true hq0
                  have ES : Hid (∀ k : Nat, k < 9 → ((tnQ Qa (n : Int) aq) (k : Int)).isSome = if k = n then true else (Qa (k : Int)).isSome) := by
                    intro k hk
                    unfold tnQ
                    by_cases e : tnE Qa (n : Int) aq = 0
                    · rw [if_pos e]
                      show (if (k : Int) = (n : Int) then some aq else Qa (k : Int)).isSome = _
                      by_cases e2 : k = n
                      · rw [if_pos (by omega), if_pos e2]; rfl
                      · rw [if_neg (by omega), if_neg e2]
                    · rw [if_neg e]
                      by_cases e2 : k = n
                      · rw [if_pos e2, e2]
                        unfold tnE at e
                        rw [if_neg (by have := HNI.out; omega)] at e
                        by_cases e3 : (Qa (n : Int)).isSome = true
                        · exact e3
                        · rw [if_neg e3] at e; exact absurd rfl e
                      · rw [if_neg e2]
                  have GT : Hid (Gs w (w5.setCell ⟨w1.heap.size + 1, n, none⟩ (.bool true)) F b w1.heap.size (w1.heap.size + 1) (2 * j + q2 + 1) (tnQ Qa (n : Int) aq) Ga (tnQ Qa (n : Int) aq) Ga ∧ (w5.setCell ⟨w1.heap.size + 1, n, none⟩ (.bool true)).heap[wo.heap.size]? = some (.cells #[.int .i64 ak, .int .i64 (n : Int), .int .i64 ar, .int .i64 aq, .int .i64 au, .int .i64 am] 30)) := ⟨G5.out.1.setT n true (by have := HNI.out; omega) ES.out, (set_off w5 _ _ _ _ HF.out.2.2).trans G5.out.2⟩
                  obtain ⟨h1, h2⟩ := G5.out.1.thAt n (by have := HNI.out; omega)
                  have x1 : (0 : Int) ≤ (n : Int) := by omega
                  have x2 : (n : Int) < 9 := by have := HNI.out; omega
                  have x3 : n < 9 := by have := HNI.out; omega
                  generalize (Qa (n : Int)).isSome = yb at h1
                  clear hq0 ES
                  go_wp2_with fail
                  go_roundg (2 - (q2 + 1))
                  case measure => omega
                  case rel => exact ⟨q2 + 1, _, _, by omega, rfl, by push_cast; rfl, GT.out⟩
                · have d0 : decide (0 ≤ aq) = false := decide_eq_false hq0
                  have EQ : Hid (tnQ Qa (n : Int) aq = Qa) := by show _ = _; unfold tnQ tnE; rw [if_neg (by rw [if_pos (by omega)]; decide)]
                  clear hq0
                  go_wp2_with fail
                  go_roundg (2 - (q2 + 1))
                  case measure => omega
                  case rel => exact ⟨q2 + 1, _, _, by omega, rfl, by push_cast; rfl, by have := G5.out.1; rw [EQ.out] at this; exact this, G5.out.2⟩
              have t0 : (ak == 0) = false := by simpa using hk0
              by_cases hk1 : ak = 1
              · have t1 : (ak == 1) = true := by simp [hk1]
                clear hk0 hk1
                have EC : Hid (ckE Qa (n : Int) ar = 2) := by show _ = _; unfold ckE; rw [if_pos (by have := HNI.out; omega)]
                have K1 : Hid (Calls Try.prog 11 #[.pointer (some ⟨b, 0, none⟩), .int .i64 (n : Int), .int .i64 ar] wi fun e w' => e = .returned (.int .i64 2) ∧ Tab w' F b ((2 * j + q2) + 1) (Qa) (Ga) ∧ Off F wi w') := by
                  refine (grant_is wi F b (2 * j + q2) Qa Ga RI.out.1.tab (by omega) (n : Int) ar).mono ?_
                  rintro e w' ⟨rfl, t1, o1⟩
                  refine ⟨by rw [EC.out], ?_, o1⟩
                  unfold grG at t1
                  rwa [if_neg (by rw [EC.out]; decide)] at t1
                go_wp2_with fail
                refine K1.out.mono ?_
                rintro e w5 ⟨rfl, t5, o5⟩
                have G5 : Hid (Gs w w5 F b w1.heap.size (w1.heap.size + 1) (2 * j + q2 + 1) (Qa) (Ga) Qa Ga ∧ w5.heap[wo.heap.size]? = some (.cells #[.int .i64 ak, .int .i64 (n : Int), .int .i64 ar, .int .i64 aq, .int .i64 au, .int .i64 am] 30)) := ⟨RI.out.1.call t5 o5, (o5.block _ (lt_of_heapK RI.out.2) HF.out.1).trans RI.out.2⟩
                obtain ⟨m0, m1, m2, m3⟩ : w5.cell? ⟨wo.heap.size, 0, none⟩ = some (.int .i64 ak) ∧ w5.cell? ⟨wo.heap.size, 1, none⟩ = some (.int .i64 (n : Int)) ∧ w5.cell? ⟨wo.heap.size, 2, none⟩ = some (.int .i64 ar) ∧ w5.cell? ⟨wo.heap.size, 3, none⟩ = some (.int .i64 aq) := by
                  refine ⟨?_, ?_, ?_, ?_⟩ <;> simp [World.cell?, G5.out.2]
                clear t5 o5 K1
                clear m0 m1 m2 m3
                go_wp2_with fail
                go_roundg (2 - (q2 + 1))
                case measure => omega
                case rel => exact ⟨q2 + 1, _, _, by omega, rfl, by push_cast; rfl, G5.out⟩
              have t1 : (ak == 1) = false := by simpa using hk1
              by_cases hk2 : ak = 2
              · have t2 : (ak == 2) = true := by simp [hk2]
                clear hk0 hk1 hk2
                have EC : Hid (ckE Qa (n : Int) ar = 2) := by show _ = _; unfold ckE; rw [if_pos (by have := HNI.out; omega)]
                have K2 : Hid (Calls Try.prog 16 #[.pointer (some ⟨b, 0, none⟩), .int .i64 (n : Int), .int .i64 ar] wi fun e w' => e = .returned (.int .i64 2) ∧ Tab w' F b ((2 * j + q2) + 1) (Qa) (Ga) ∧ Off F wi w') := by
                  refine (revoke_is wi F b (2 * j + q2) Qa Ga RI.out.1.tab (by omega) (n : Int) ar).mono ?_
                  rintro e w' ⟨rfl, t1, o1⟩
                  refine ⟨by rw [EC.out], ?_, o1⟩
                  unfold rvG at t1
                  rwa [if_neg (by rw [EC.out]; decide)] at t1
                go_wp2_with fail
                refine K2.out.mono ?_
                rintro e w5 ⟨rfl, t5, o5⟩
                have G5 : Hid (Gs w w5 F b w1.heap.size (w1.heap.size + 1) (2 * j + q2 + 1) (Qa) (Ga) Qa Ga ∧ w5.heap[wo.heap.size]? = some (.cells #[.int .i64 ak, .int .i64 (n : Int), .int .i64 ar, .int .i64 aq, .int .i64 au, .int .i64 am] 30)) := ⟨RI.out.1.call t5 o5, (o5.block _ (lt_of_heapK RI.out.2) HF.out.1).trans RI.out.2⟩
                obtain ⟨m0, m1, m2, m3⟩ : w5.cell? ⟨wo.heap.size, 0, none⟩ = some (.int .i64 ak) ∧ w5.cell? ⟨wo.heap.size, 1, none⟩ = some (.int .i64 (n : Int)) ∧ w5.cell? ⟨wo.heap.size, 2, none⟩ = some (.int .i64 ar) ∧ w5.cell? ⟨wo.heap.size, 3, none⟩ = some (.int .i64 aq) := by
                  refine ⟨?_, ?_, ?_, ?_⟩ <;> simp [World.cell?, G5.out.2]
                clear t5 o5 K2
                clear m0 m1 m2 m3
                go_wp2_with fail
                go_roundg (2 - (q2 + 1))
                case measure => omega
                case rel => exact ⟨q2 + 1, _, _, by omega, rfl, by push_cast; rfl, G5.out⟩
              have t2 : (ak == 2) = false := by simpa using hk2
              clear hk0 hk1 hk2
              go_wp2_with fail
              go_roundg (2 - (q2 + 1))
              case measure => omega
              case rel => exact ⟨q2 + 1, _, _, by omega, rfl, by push_cast; rfl, RI.out.1.more (by omega), RI.out.2⟩
            · have l1 : decide ((q2 : Int) < 2) = false := by rw [decide_eq_false_iff_not]; omega
              obtain rfl : q2 = 2 := by omega
              go_wp2_with fail
              go_roundg (80 - (j + 1))
              case measure => have := HJ.out; omega
              case rel => exact ⟨j + 1, Qa, Ga, by have := HJ.out; omega, by have := HJ.out; omega, rfl, by push_cast; rfl, RI.out.1.more (by omega)⟩
        · have i3 : decide (1 ≤ ar) = false := decide_eq_false hr1
          clear hi hr hr1
          go_wp2_with fail
          clear c0 c1 c2 c3 c4 c5
          go_loopg [48] 2 (fun g i wi => ∃ (q2 : Nat) (Qa : Qm) (Ga : Gm), q2 ≤ 2 ∧ g = 2 - q2 ∧ i = .int .i64 (q2 : Int) ∧ Hid (Gs w wi F b w1.heap.size (w1.heap.size + 1) (2 * j + q2) Qa Ga Qa Ga ∧ wi.heap[wo.heap.size]? = some (.cells #[.int .i64 ak, .int .i64 (n : Int), .int .i64 ar, .int .i64 aq, .int .i64 au, .int .i64 am] 30)))
          case atStart => exact ⟨0, Q, G, Nat.zero_le _, rfl, rfl, HA.out⟩
          case round =>
            obtain ⟨q2, Qa, Ga, hq2, rfl, rfl, RI⟩ := hrel
            rename World => wi
            by_cases hl2 : q2 < 2
            · have l1 : decide ((q2 : Int) < 2) = true := by rw [decide_eq_true_eq]; omega
              have rq : IntKind.i64.wrap ((q2 : Int) + 1) = (q2 : Int) + 1 := by rw [IntKind.wrap_i64]; omega
              obtain ⟨m0, m1, m2, m3⟩ : wi.cell? ⟨wo.heap.size, 0, none⟩ = some (.int .i64 ak) ∧ wi.cell? ⟨wo.heap.size, 1, none⟩ = some (.int .i64 (n : Int)) ∧ wi.cell? ⟨wo.heap.size, 2, none⟩ = some (.int .i64 ar) ∧ wi.cell? ⟨wo.heap.size, 3, none⟩ = some (.int .i64 aq) := by
                refine ⟨?_, ?_, ?_, ?_⟩ <;> simp [World.cell?, RI.out.2]
              by_cases hk0 : ak = 0
              · have t0 : (ak == 0) = true := by simp [hk0]
                clear hk0
                have K0 : Hid (Calls Try.prog 10 #[.pointer (some ⟨b, 0, none⟩), .int .i64 (n : Int), .int .i64 aq] wi fun e w' => e = .returned (.int .i64 (tnE Qa (n : Int) aq)) ∧ Tab w' F b ((2 * j + q2) + 1) (tnQ Qa (n : Int) aq) (Ga) ∧ Off F wi w') := by
                  refine (tenant_is wi F b (2 * j + q2) Qa Ga RI.out.1.tab (by omega) (n : Int) aq HOK.out.2.2.2.1).mono ?_
                  rintro e w' ⟨rfl, t1, o1⟩
                  exact ⟨rfl, t1, o1⟩
                generalize tnE Qa (n : Int) aq = x5 at K0
                go_wp2_with fail
                refine K0.out.mono ?_
                rintro e w5 ⟨rfl, t5, o5⟩
                have G5 : Hid (Gs w w5 F b w1.heap.size (w1.heap.size + 1) (2 * j + q2 + 1) (tnQ Qa (n : Int) aq) (Ga) Qa Ga ∧ w5.heap[wo.heap.size]? = some (.cells #[.int .i64 ak, .int .i64 (n : Int), .int .i64 ar, .int .i64 aq, .int .i64 au, .int .i64 am] 30)) := ⟨RI.out.1.call t5 o5, (o5.block _ (lt_of_heapK RI.out.2) HF.out.1).trans RI.out.2⟩
                obtain ⟨m0, m1, m2, m3⟩ : w5.cell? ⟨wo.heap.size, 0, none⟩ = some (.int .i64 ak) ∧ w5.cell? ⟨wo.heap.size, 1, none⟩ = some (.int .i64 (n : Int)) ∧ w5.cell? ⟨wo.heap.size, 2, none⟩ = some (.int .i64 ar) ∧ w5.cell? ⟨wo.heap.size, 3, none⟩ = some (.int .i64 aq) := by
                  refine ⟨?_, ?_, ?_, ?_⟩ <;> simp [World.cell?, G5.out.2]
                clear t5 o5 K0
                by_cases hq0 : 0 ≤ aq
                · have d0 : decide (0 ≤ aq) = true := decide_eq_true hq0
                  have ES : Hid (∀ k : Nat, k < 9 → ((tnQ Qa (n : Int) aq) (k : Int)).isSome = if k = n then true else (Qa (k : Int)).isSome) := by
                    intro k hk
                    unfold tnQ
                    by_cases e : tnE Qa (n : Int) aq = 0
                    · rw [if_pos e]
                      show (if (k : Int) = (n : Int) then some aq else Qa (k : Int)).isSome = _
                      by_cases e2 : k = n
                      · rw [if_pos (by omega), if_pos e2]; rfl
                      · rw [if_neg (by omega), if_neg e2]
                    · rw [if_neg e]
                      by_cases e2 : k = n
                      · rw [if_pos e2, e2]
                        unfold tnE at e
                        rw [if_neg (by have := HNI.out; omega)] at e
                        by_cases e3 : (Qa (n : Int)).isSome = true
                        · exact e3
                        · rw [if_neg e3] at e; exact absurd rfl e
                      · rw [if_neg e2]
                  have GT : Hid (Gs w (w5.setCell ⟨w1.heap.size + 1, n, none⟩ (.bool true)) F b w1.heap.size (w1.heap.size + 1) (2 * j + q2 + 1) (tnQ Qa (n : Int) aq) Ga (tnQ Qa (n : Int) aq) Ga ∧ (w5.setCell ⟨w1.heap.size + 1, n, none⟩ (.bool true)).heap[wo.heap.size]? = some (.cells #[.int .i64 ak, .int .i64 (n : Int), .int .i64 ar, .int .i64 aq, .int .i64 au, .int .i64 am] 30)) := ⟨G5.out.1.setT n true (by have := HNI.out; omega) ES.out, (set_off w5 _ _ _ _ HF.out.2.2).trans G5.out.2⟩
                  obtain ⟨h1, h2⟩ := G5.out.1.thAt n (by have := HNI.out; omega)
                  have x1 : (0 : Int) ≤ (n : Int) := by omega
                  have x2 : (n : Int) < 9 := by have := HNI.out; omega
                  have x3 : n < 9 := by have := HNI.out; omega
                  generalize (Qa (n : Int)).isSome = yb at h1
                  clear hq0 ES
                  go_wp2_with fail
                  go_roundg (2 - (q2 + 1))
                  case measure => omega
                  case rel => exact ⟨q2 + 1, _, _, by omega, rfl, by push_cast; rfl, GT.out⟩
                · have d0 : decide (0 ≤ aq) = false := decide_eq_false hq0
                  have EQ : Hid (tnQ Qa (n : Int) aq = Qa) := by show _ = _; unfold tnQ tnE; rw [if_neg (by rw [if_pos (by omega)]; decide)]
                  clear hq0
                  go_wp2_with fail
                  go_roundg (2 - (q2 + 1))
                  case measure => omega
                  case rel => exact ⟨q2 + 1, _, _, by omega, rfl, by push_cast; rfl, by have := G5.out.1; rw [EQ.out] at this; exact this, G5.out.2⟩
              have t0 : (ak == 0) = false := by simpa using hk0
              by_cases hk1 : ak = 1
              · have t1 : (ak == 1) = true := by simp [hk1]
                clear hk0 hk1
                have EC : Hid (ckE Qa (n : Int) ar = 2) := by show _ = _; unfold ckE; rw [if_pos (by have := HNI.out; omega)]
                have K1 : Hid (Calls Try.prog 11 #[.pointer (some ⟨b, 0, none⟩), .int .i64 (n : Int), .int .i64 ar] wi fun e w' => e = .returned (.int .i64 2) ∧ Tab w' F b ((2 * j + q2) + 1) (Qa) (Ga) ∧ Off F wi w') := by
                  refine (grant_is wi F b (2 * j + q2) Qa Ga RI.out.1.tab (by omega) (n : Int) ar).mono ?_
                  rintro e w' ⟨rfl, t1, o1⟩
                  refine ⟨by rw [EC.out], ?_, o1⟩
                  unfold grG at t1
                  rwa [if_neg (by rw [EC.out]; decide)] at t1
                go_wp2_with fail
                refine K1.out.mono ?_
                rintro e w5 ⟨rfl, t5, o5⟩
                have G5 : Hid (Gs w w5 F b w1.heap.size (w1.heap.size + 1) (2 * j + q2 + 1) (Qa) (Ga) Qa Ga ∧ w5.heap[wo.heap.size]? = some (.cells #[.int .i64 ak, .int .i64 (n : Int), .int .i64 ar, .int .i64 aq, .int .i64 au, .int .i64 am] 30)) := ⟨RI.out.1.call t5 o5, (o5.block _ (lt_of_heapK RI.out.2) HF.out.1).trans RI.out.2⟩
                obtain ⟨m0, m1, m2, m3⟩ : w5.cell? ⟨wo.heap.size, 0, none⟩ = some (.int .i64 ak) ∧ w5.cell? ⟨wo.heap.size, 1, none⟩ = some (.int .i64 (n : Int)) ∧ w5.cell? ⟨wo.heap.size, 2, none⟩ = some (.int .i64 ar) ∧ w5.cell? ⟨wo.heap.size, 3, none⟩ = some (.int .i64 aq) := by
                  refine ⟨?_, ?_, ?_, ?_⟩ <;> simp [World.cell?, G5.out.2]
                clear t5 o5 K1
                clear m0 m1 m2 m3
                go_wp2_with fail
                go_roundg (2 - (q2 + 1))
                case measure => omega
                case rel => exact ⟨q2 + 1, _, _, by omega, rfl, by push_cast; rfl, G5.out⟩
              have t1 : (ak == 1) = false := by simpa using hk1
              by_cases hk2 : ak = 2
              · have t2 : (ak == 2) = true := by simp [hk2]
                clear hk0 hk1 hk2
                have EC : Hid (ckE Qa (n : Int) ar = 2) := by show _ = _; unfold ckE; rw [if_pos (by have := HNI.out; omega)]
                have K2 : Hid (Calls Try.prog 16 #[.pointer (some ⟨b, 0, none⟩), .int .i64 (n : Int), .int .i64 ar] wi fun e w' => e = .returned (.int .i64 2) ∧ Tab w' F b ((2 * j + q2) + 1) (Qa) (Ga) ∧ Off F wi w') := by
                  refine (revoke_is wi F b (2 * j + q2) Qa Ga RI.out.1.tab (by omega) (n : Int) ar).mono ?_
                  rintro e w' ⟨rfl, t1, o1⟩
                  refine ⟨by rw [EC.out], ?_, o1⟩
                  unfold rvG at t1
                  rwa [if_neg (by rw [EC.out]; decide)] at t1
                go_wp2_with fail
                refine K2.out.mono ?_
                rintro e w5 ⟨rfl, t5, o5⟩
                have G5 : Hid (Gs w w5 F b w1.heap.size (w1.heap.size + 1) (2 * j + q2 + 1) (Qa) (Ga) Qa Ga ∧ w5.heap[wo.heap.size]? = some (.cells #[.int .i64 ak, .int .i64 (n : Int), .int .i64 ar, .int .i64 aq, .int .i64 au, .int .i64 am] 30)) := ⟨RI.out.1.call t5 o5, (o5.block _ (lt_of_heapK RI.out.2) HF.out.1).trans RI.out.2⟩
                obtain ⟨m0, m1, m2, m3⟩ : w5.cell? ⟨wo.heap.size, 0, none⟩ = some (.int .i64 ak) ∧ w5.cell? ⟨wo.heap.size, 1, none⟩ = some (.int .i64 (n : Int)) ∧ w5.cell? ⟨wo.heap.size, 2, none⟩ = some (.int .i64 ar) ∧ w5.cell? ⟨wo.heap.size, 3, none⟩ = some (.int .i64 aq) := by
                  refine ⟨?_, ?_, ?_, ?_⟩ <;> simp [World.cell?, G5.out.2]
                clear t5 o5 K2
                clear m0 m1 m2 m3
                go_wp2_with fail
                go_roundg (2 - (q2 + 1))
                case measure => omega
                case rel => exact ⟨q2 + 1, _, _, by omega, rfl, by push_cast; rfl, G5.out⟩
              have t2 : (ak == 2) = false := by simpa using hk2
              clear hk0 hk1 hk2
              go_wp2_with fail
              go_roundg (2 - (q2 + 1))
              case measure => omega
              case rel => exact ⟨q2 + 1, _, _, by omega, rfl, by push_cast; rfl, RI.out.1.more (by omega), RI.out.2⟩
            · have l1 : decide ((q2 : Int) < 2) = false := by rw [decide_eq_false_iff_not]; omega
              obtain rfl : q2 = 2 := by omega
              go_wp2_with fail
              go_roundg (80 - (j + 1))
              case measure => have := HJ.out; omega
              case rel => exact ⟨j + 1, Qa, Ga, by have := HJ.out; omega, by have := HJ.out; omega, rfl, by push_cast; rfl, RI.out.1.more (by omega)⟩
    · have HNI : Hid (ai < 1 ∨ 8 < ai) := by show _ ∨ _; omega
      by_cases hi1 : 1 ≤ ai
      · have i1 : decide (1 ≤ ai) = true := decide_eq_true hi1
        have i2 : decide (ai ≤ 8) = false := by rw [decide_eq_false_iff_not]; omega
        clear hi hi1
        go_wp2_with fail
        clear c0 c1 c2 c3 c4 c5
        go_loopg [48] 2 (fun g i wi => ∃ (q2 : Nat) (Qa : Qm) (Ga : Gm), q2 ≤ 2 ∧ g = 2 - q2 ∧ i = .int .i64 (q2 : Int) ∧ Hid (Gs w wi F b w1.heap.size (w1.heap.size + 1) (2 * j + q2) Qa Ga Qa Ga ∧ wi.heap[wo.heap.size]? = some (.cells #[.int .i64 ak, .int .i64 ai, .int .i64 ar, .int .i64 aq, .int .i64 au, .int .i64 am] 30)))
        case atStart => exact ⟨0, Q, G, Nat.zero_le _, rfl, rfl, HA.out⟩
        case round =>
          obtain ⟨q2, Qa, Ga, hq2, rfl, rfl, RI⟩ := hrel
          rename World => wi
          by_cases hl2 : q2 < 2
          · have l1 : decide ((q2 : Int) < 2) = true := by rw [decide_eq_true_eq]; omega
            have rq : IntKind.i64.wrap ((q2 : Int) + 1) = (q2 : Int) + 1 := by rw [IntKind.wrap_i64]; omega
            obtain ⟨m0, m1, m2, m3⟩ : wi.cell? ⟨wo.heap.size, 0, none⟩ = some (.int .i64 ak) ∧ wi.cell? ⟨wo.heap.size, 1, none⟩ = some (.int .i64 ai) ∧ wi.cell? ⟨wo.heap.size, 2, none⟩ = some (.int .i64 ar) ∧ wi.cell? ⟨wo.heap.size, 3, none⟩ = some (.int .i64 aq) := by
              refine ⟨?_, ?_, ?_, ?_⟩ <;> simp [World.cell?, RI.out.2]
            by_cases hk0 : ak = 0
            · have t0 : (ak == 0) = true := by simp [hk0]
              clear hk0
              have K0 : Hid (Calls Try.prog 10 #[.pointer (some ⟨b, 0, none⟩), .int .i64 ai, .int .i64 aq] wi fun e w' => e = .returned (.int .i64 (tnE Qa ai aq)) ∧ Tab w' F b ((2 * j + q2) + 1) (tnQ Qa ai aq) (Ga) ∧ Off F wi w') := by
                refine (tenant_is wi F b (2 * j + q2) Qa Ga RI.out.1.tab (by omega) ai aq HOK.out.2.2.2.1).mono ?_
                rintro e w' ⟨rfl, t1, o1⟩
                exact ⟨rfl, t1, o1⟩
              generalize tnE Qa ai aq = x5 at K0
              go_wp2_with fail
              refine K0.out.mono ?_
              rintro e w5 ⟨rfl, t5, o5⟩
              have G5 : Hid (Gs w w5 F b w1.heap.size (w1.heap.size + 1) (2 * j + q2 + 1) (tnQ Qa ai aq) (Ga) Qa Ga ∧ w5.heap[wo.heap.size]? = some (.cells #[.int .i64 ak, .int .i64 ai, .int .i64 ar, .int .i64 aq, .int .i64 au, .int .i64 am] 30)) := ⟨RI.out.1.call t5 o5, (o5.block _ (lt_of_heapK RI.out.2) HF.out.1).trans RI.out.2⟩
              obtain ⟨m0, m1, m2, m3⟩ : w5.cell? ⟨wo.heap.size, 0, none⟩ = some (.int .i64 ak) ∧ w5.cell? ⟨wo.heap.size, 1, none⟩ = some (.int .i64 ai) ∧ w5.cell? ⟨wo.heap.size, 2, none⟩ = some (.int .i64 ar) ∧ w5.cell? ⟨wo.heap.size, 3, none⟩ = some (.int .i64 aq) := by
                refine ⟨?_, ?_, ?_, ?_⟩ <;> simp [World.cell?, G5.out.2]
              clear t5 o5 K0
              have EQ : Hid (tnQ Qa ai aq = Qa) := by show _ = _; unfold tnQ tnE; rw [if_neg (by rw [if_pos (by have := HNI.out; omega)]; decide)]
              clear m0 m1 m2 m3
              go_wp2_with fail
              go_roundg (2 - (q2 + 1))
              case measure => omega
              case rel => exact ⟨q2 + 1, _, _, by omega, rfl, by push_cast; rfl, by have := G5.out.1; rw [EQ.out] at this; exact this, G5.out.2⟩
            have t0 : (ak == 0) = false := by simpa using hk0
            by_cases hk1 : ak = 1
            · have t1 : (ak == 1) = true := by simp [hk1]
              clear hk0 hk1
              have EC : Hid (ckE Qa ai ar = 2) := by show _ = _; unfold ckE; rw [if_pos (by have := HNI.out; omega)]
              have K1 : Hid (Calls Try.prog 11 #[.pointer (some ⟨b, 0, none⟩), .int .i64 ai, .int .i64 ar] wi fun e w' => e = .returned (.int .i64 2) ∧ Tab w' F b ((2 * j + q2) + 1) (Qa) (Ga) ∧ Off F wi w') := by
                refine (grant_is wi F b (2 * j + q2) Qa Ga RI.out.1.tab (by omega) ai ar).mono ?_
                rintro e w' ⟨rfl, t1, o1⟩
                refine ⟨by rw [EC.out], ?_, o1⟩
                unfold grG at t1
                rwa [if_neg (by rw [EC.out]; decide)] at t1
              go_wp2_with fail
              refine K1.out.mono ?_
              rintro e w5 ⟨rfl, t5, o5⟩
              have G5 : Hid (Gs w w5 F b w1.heap.size (w1.heap.size + 1) (2 * j + q2 + 1) (Qa) (Ga) Qa Ga ∧ w5.heap[wo.heap.size]? = some (.cells #[.int .i64 ak, .int .i64 ai, .int .i64 ar, .int .i64 aq, .int .i64 au, .int .i64 am] 30)) := ⟨RI.out.1.call t5 o5, (o5.block _ (lt_of_heapK RI.out.2) HF.out.1).trans RI.out.2⟩
              obtain ⟨m0, m1, m2, m3⟩ : w5.cell? ⟨wo.heap.size, 0, none⟩ = some (.int .i64 ak) ∧ w5.cell? ⟨wo.heap.size, 1, none⟩ = some (.int .i64 ai) ∧ w5.cell? ⟨wo.heap.size, 2, none⟩ = some (.int .i64 ar) ∧ w5.cell? ⟨wo.heap.size, 3, none⟩ = some (.int .i64 aq) := by
                refine ⟨?_, ?_, ?_, ?_⟩ <;> simp [World.cell?, G5.out.2]
              clear t5 o5 K1
              clear m0 m1 m2 m3
              go_wp2_with fail
              go_roundg (2 - (q2 + 1))
              case measure => omega
              case rel => exact ⟨q2 + 1, _, _, by omega, rfl, by push_cast; rfl, G5.out⟩
            have t1 : (ak == 1) = false := by simpa using hk1
            by_cases hk2 : ak = 2
            · have t2 : (ak == 2) = true := by simp [hk2]
              clear hk0 hk1 hk2
              have EC : Hid (ckE Qa ai ar = 2) := by show _ = _; unfold ckE; rw [if_pos (by have := HNI.out; omega)]
              have K2 : Hid (Calls Try.prog 16 #[.pointer (some ⟨b, 0, none⟩), .int .i64 ai, .int .i64 ar] wi fun e w' => e = .returned (.int .i64 2) ∧ Tab w' F b ((2 * j + q2) + 1) (Qa) (Ga) ∧ Off F wi w') := by
                refine (revoke_is wi F b (2 * j + q2) Qa Ga RI.out.1.tab (by omega) ai ar).mono ?_
                rintro e w' ⟨rfl, t1, o1⟩
                refine ⟨by rw [EC.out], ?_, o1⟩
                unfold rvG at t1
                rwa [if_neg (by rw [EC.out]; decide)] at t1
              go_wp2_with fail
              refine K2.out.mono ?_
              rintro e w5 ⟨rfl, t5, o5⟩
              have G5 : Hid (Gs w w5 F b w1.heap.size (w1.heap.size + 1) (2 * j + q2 + 1) (Qa) (Ga) Qa Ga ∧ w5.heap[wo.heap.size]? = some (.cells #[.int .i64 ak, .int .i64 ai, .int .i64 ar, .int .i64 aq, .int .i64 au, .int .i64 am] 30)) := ⟨RI.out.1.call t5 o5, (o5.block _ (lt_of_heapK RI.out.2) HF.out.1).trans RI.out.2⟩
              obtain ⟨m0, m1, m2, m3⟩ : w5.cell? ⟨wo.heap.size, 0, none⟩ = some (.int .i64 ak) ∧ w5.cell? ⟨wo.heap.size, 1, none⟩ = some (.int .i64 ai) ∧ w5.cell? ⟨wo.heap.size, 2, none⟩ = some (.int .i64 ar) ∧ w5.cell? ⟨wo.heap.size, 3, none⟩ = some (.int .i64 aq) := by
                refine ⟨?_, ?_, ?_, ?_⟩ <;> simp [World.cell?, G5.out.2]
              clear t5 o5 K2
              clear m0 m1 m2 m3
              go_wp2_with fail
              go_roundg (2 - (q2 + 1))
              case measure => omega
              case rel => exact ⟨q2 + 1, _, _, by omega, rfl, by push_cast; rfl, G5.out⟩
            have t2 : (ak == 2) = false := by simpa using hk2
            clear hk0 hk1 hk2
            go_wp2_with fail
            go_roundg (2 - (q2 + 1))
            case measure => omega
            case rel => exact ⟨q2 + 1, _, _, by omega, rfl, by push_cast; rfl, RI.out.1.more (by omega), RI.out.2⟩
          · have l1 : decide ((q2 : Int) < 2) = false := by rw [decide_eq_false_iff_not]; omega
            obtain rfl : q2 = 2 := by omega
            go_wp2_with fail
            go_roundg (80 - (j + 1))
            case measure => have := HJ.out; omega
            case rel => exact ⟨j + 1, Qa, Ga, by have := HJ.out; omega, by have := HJ.out; omega, rfl, by push_cast; rfl, RI.out.1.more (by omega)⟩
      · have i1 : decide (1 ≤ ai) = false := decide_eq_false hi1
        clear hi hi1
        go_wp2_with fail
        clear c0 c1 c2 c3 c4 c5
        go_loopg [48] 2 (fun g i wi => ∃ (q2 : Nat) (Qa : Qm) (Ga : Gm), q2 ≤ 2 ∧ g = 2 - q2 ∧ i = .int .i64 (q2 : Int) ∧ Hid (Gs w wi F b w1.heap.size (w1.heap.size + 1) (2 * j + q2) Qa Ga Qa Ga ∧ wi.heap[wo.heap.size]? = some (.cells #[.int .i64 ak, .int .i64 ai, .int .i64 ar, .int .i64 aq, .int .i64 au, .int .i64 am] 30)))
        case atStart => exact ⟨0, Q, G, Nat.zero_le _, rfl, rfl, HA.out⟩
        case round =>
          obtain ⟨q2, Qa, Ga, hq2, rfl, rfl, RI⟩ := hrel
          rename World => wi
          by_cases hl2 : q2 < 2
          · have l1 : decide ((q2 : Int) < 2) = true := by rw [decide_eq_true_eq]; omega
            have rq : IntKind.i64.wrap ((q2 : Int) + 1) = (q2 : Int) + 1 := by rw [IntKind.wrap_i64]; omega
            obtain ⟨m0, m1, m2, m3⟩ : wi.cell? ⟨wo.heap.size, 0, none⟩ = some (.int .i64 ak) ∧ wi.cell? ⟨wo.heap.size, 1, none⟩ = some (.int .i64 ai) ∧ wi.cell? ⟨wo.heap.size, 2, none⟩ = some (.int .i64 ar) ∧ wi.cell? ⟨wo.heap.size, 3, none⟩ = some (.int .i64 aq) := by
              refine ⟨?_, ?_, ?_, ?_⟩ <;> simp [World.cell?, RI.out.2]
            by_cases hk0 : ak = 0
            · have t0 : (ak == 0) = true := by simp [hk0]
              clear hk0
              have K0 : Hid (Calls Try.prog 10 #[.pointer (some ⟨b, 0, none⟩), .int .i64 ai, .int .i64 aq] wi fun e w' => e = .returned (.int .i64 (tnE Qa ai aq)) ∧ Tab w' F b ((2 * j + q2) + 1) (tnQ Qa ai aq) (Ga) ∧ Off F wi w') := by
                refine (tenant_is wi F b (2 * j + q2) Qa Ga RI.out.1.tab (by omega) ai aq HOK.out.2.2.2.1).mono ?_
                rintro e w' ⟨rfl, t1, o1⟩
                exact ⟨rfl, t1, o1⟩
              generalize tnE Qa ai aq = x5 at K0
              go_wp2_with fail
              refine K0.out.mono ?_
              rintro e w5 ⟨rfl, t5, o5⟩
              have G5 : Hid (Gs w w5 F b w1.heap.size (w1.heap.size + 1) (2 * j + q2 + 1) (tnQ Qa ai aq) (Ga) Qa Ga ∧ w5.heap[wo.heap.size]? = some (.cells #[.int .i64 ak, .int .i64 ai, .int .i64 ar, .int .i64 aq, .int .i64 au, .int .i64 am] 30)) := ⟨RI.out.1.call t5 o5, (o5.block _ (lt_of_heapK RI.out.2) HF.out.1).trans RI.out.2⟩
              obtain ⟨m0, m1, m2, m3⟩ : w5.cell? ⟨wo.heap.size, 0, none⟩ = some (.int .i64 ak) ∧ w5.cell? ⟨wo.heap.size, 1, none⟩ = some (.int .i64 ai) ∧ w5.cell? ⟨wo.heap.size, 2, none⟩ = some (.int .i64 ar) ∧ w5.cell? ⟨wo.heap.size, 3, none⟩ = some (.int .i64 aq) := by
                refine ⟨?_, ?_, ?_, ?_⟩ <;> simp [World.cell?, G5.out.2]
              clear t5 o5 K0
              have EQ : Hid (tnQ Qa ai aq = Qa) := by show _ = _; unfold tnQ tnE; rw [if_neg (by rw [if_pos (by have := HNI.out; omega)]; decide)]
              clear m0 m1 m2 m3
              go_wp2_with fail
              go_roundg (2 - (q2 + 1))
              case measure => omega
              case rel => exact ⟨q2 + 1, _, _, by omega, rfl, by push_cast; rfl, by have := G5.out.1; rw [EQ.out] at this; exact this, G5.out.2⟩
            have t0 : (ak == 0) = false := by simpa using hk0
            by_cases hk1 : ak = 1
            · have t1 : (ak == 1) = true := by simp [hk1]
              clear hk0 hk1
              have EC : Hid (ckE Qa ai ar = 2) := by show _ = _; unfold ckE; rw [if_pos (by have := HNI.out; omega)]
              have K1 : Hid (Calls Try.prog 11 #[.pointer (some ⟨b, 0, none⟩), .int .i64 ai, .int .i64 ar] wi fun e w' => e = .returned (.int .i64 2) ∧ Tab w' F b ((2 * j + q2) + 1) (Qa) (Ga) ∧ Off F wi w') := by
                refine (grant_is wi F b (2 * j + q2) Qa Ga RI.out.1.tab (by omega) ai ar).mono ?_
                rintro e w' ⟨rfl, t1, o1⟩
                refine ⟨by rw [EC.out], ?_, o1⟩
                unfold grG at t1
                rwa [if_neg (by rw [EC.out]; decide)] at t1
              go_wp2_with fail
              refine K1.out.mono ?_
              rintro e w5 ⟨rfl, t5, o5⟩
              have G5 : Hid (Gs w w5 F b w1.heap.size (w1.heap.size + 1) (2 * j + q2 + 1) (Qa) (Ga) Qa Ga ∧ w5.heap[wo.heap.size]? = some (.cells #[.int .i64 ak, .int .i64 ai, .int .i64 ar, .int .i64 aq, .int .i64 au, .int .i64 am] 30)) := ⟨RI.out.1.call t5 o5, (o5.block _ (lt_of_heapK RI.out.2) HF.out.1).trans RI.out.2⟩
              obtain ⟨m0, m1, m2, m3⟩ : w5.cell? ⟨wo.heap.size, 0, none⟩ = some (.int .i64 ak) ∧ w5.cell? ⟨wo.heap.size, 1, none⟩ = some (.int .i64 ai) ∧ w5.cell? ⟨wo.heap.size, 2, none⟩ = some (.int .i64 ar) ∧ w5.cell? ⟨wo.heap.size, 3, none⟩ = some (.int .i64 aq) := by
                refine ⟨?_, ?_, ?_, ?_⟩ <;> simp [World.cell?, G5.out.2]
              clear t5 o5 K1
              clear m0 m1 m2 m3
              go_wp2_with fail
              go_roundg (2 - (q2 + 1))
              case measure => omega
              case rel => exact ⟨q2 + 1, _, _, by omega, rfl, by push_cast; rfl, G5.out⟩
            have t1 : (ak == 1) = false := by simpa using hk1
            by_cases hk2 : ak = 2
            · have t2 : (ak == 2) = true := by simp [hk2]
              clear hk0 hk1 hk2
              have EC : Hid (ckE Qa ai ar = 2) := by show _ = _; unfold ckE; rw [if_pos (by have := HNI.out; omega)]
              have K2 : Hid (Calls Try.prog 16 #[.pointer (some ⟨b, 0, none⟩), .int .i64 ai, .int .i64 ar] wi fun e w' => e = .returned (.int .i64 2) ∧ Tab w' F b ((2 * j + q2) + 1) (Qa) (Ga) ∧ Off F wi w') := by
                refine (revoke_is wi F b (2 * j + q2) Qa Ga RI.out.1.tab (by omega) ai ar).mono ?_
                rintro e w' ⟨rfl, t1, o1⟩
                refine ⟨by rw [EC.out], ?_, o1⟩
                unfold rvG at t1
                rwa [if_neg (by rw [EC.out]; decide)] at t1
              go_wp2_with fail
              refine K2.out.mono ?_
              rintro e w5 ⟨rfl, t5, o5⟩
              have G5 : Hid (Gs w w5 F b w1.heap.size (w1.heap.size + 1) (2 * j + q2 + 1) (Qa) (Ga) Qa Ga ∧ w5.heap[wo.heap.size]? = some (.cells #[.int .i64 ak, .int .i64 ai, .int .i64 ar, .int .i64 aq, .int .i64 au, .int .i64 am] 30)) := ⟨RI.out.1.call t5 o5, (o5.block _ (lt_of_heapK RI.out.2) HF.out.1).trans RI.out.2⟩
              obtain ⟨m0, m1, m2, m3⟩ : w5.cell? ⟨wo.heap.size, 0, none⟩ = some (.int .i64 ak) ∧ w5.cell? ⟨wo.heap.size, 1, none⟩ = some (.int .i64 ai) ∧ w5.cell? ⟨wo.heap.size, 2, none⟩ = some (.int .i64 ar) ∧ w5.cell? ⟨wo.heap.size, 3, none⟩ = some (.int .i64 aq) := by
                refine ⟨?_, ?_, ?_, ?_⟩ <;> simp [World.cell?, G5.out.2]
              clear t5 o5 K2
              clear m0 m1 m2 m3
              go_wp2_with fail
              go_roundg (2 - (q2 + 1))
              case measure => omega
              case rel => exact ⟨q2 + 1, _, _, by omega, rfl, by push_cast; rfl, G5.out⟩
            have t2 : (ak == 2) = false := by simpa using hk2
            clear hk0 hk1 hk2
            go_wp2_with fail
            go_roundg (2 - (q2 + 1))
            case measure => omega
            case rel => exact ⟨q2 + 1, _, _, by omega, rfl, by push_cast; rfl, RI.out.1.more (by omega), RI.out.2⟩
          · have l1 : decide ((q2 : Int) < 2) = false := by rw [decide_eq_false_iff_not]; omega
            obtain rfl : q2 = 2 := by omega
            go_wp2_with fail
            go_roundg (80 - (j + 1))
            case measure => have := HJ.out; omega
            case rel => exact ⟨j + 1, Qa, Ga, by have := HJ.out; omega, by have := HJ.out; omega, rfl, by push_cast; rfl, RI.out.1.more (by omega)⟩
  · rcases (by omega : ¬ (j < len) ∨ (j < len ∧ ¬ (j < 80))) with hjj | hjj
    · have j1 : decide ((j : Int) < (len : Int)) = false := by rw [decide_eq_false_iff_not]; omega
      clear hlt
      go_wp2_with fail
      go_loopg [115] 9 (fun g i wj => ∃ q : Nat, q ≤ 9 ∧ g = 9 - q ∧ i = .int .i64 (q : Int) ∧ Hid (Gs w wj F b w1.heap.size (w1.heap.size + 1) (2 * j) Q G Q G))
      case atStart => exact ⟨0, Nat.zero_le _, rfl, rfl, RW.out⟩
      case round =>
        obtain ⟨q, hq, rfl, rfl, RJ⟩ := hrel
        clear RW
        rename World => wj
        by_cases hq9 : q < 9
        · have l1 : decide ((q : Int) < 9) = true := by rw [decide_eq_true_eq]; omega
          have l2 : (q : Int) < 9 := by omega
          have rq : IntKind.i64.wrap ((q : Int) + 1) = (q : Int) + 1 := by rw [IntKind.wrap_i64]; omega
          go_wp2_with fail
          go_loopg [118] 7 (fun g i wk => ∃ u : Nat, u ≤ 7 ∧ g = 7 - u ∧ i = .int .i64 (u : Int) ∧ Hid (Gs w wk F b w1.heap.size (w1.heap.size + 1) (2 * j) Q G Q G))
          case atStart => exact ⟨0, Nat.zero_le _, rfl, rfl, RJ.out⟩
          case round =>
            obtain ⟨u, hu, rfl, rfl, RK⟩ := hrel
            clear RJ
            rename World => wk
            by_cases hu7 : u < 7
            · have l3 : decide ((u : Int) < 7) = true := by rw [decide_eq_true_eq]; omega
              have l4 : (u : Int) < 7 := by omega
              have ru : IntKind.i64.wrap ((u : Int) + 1) = (u : Int) + 1 := by rw [IntKind.wrap_i64]; omega
              obtain ⟨yb, hyb⟩ : ∃ yb, yb = (G ((q : Int), (u : Int))).isSome := ⟨_, rfl⟩
              have KM : Hid (∀ W, Below wk.heap.size wk W → Calls Try.prog 17 #[.pointer (some ⟨b, 0, none⟩), .int .i64 (q : Int), .int .i64 (u : Int)] W fun e w' => e = .returned (.bool yb) ∧ Below W.heap.size W w') := fun W hW => by
                rw [hyb]
                exact may_is W F b _ Q G (RK.out.tab.keep hW) q u (by unfold InI; omega) (by unfold InI; omega)
              have KC : Hid (∀ W, Below wk.heap.size wk W → W.cell? ⟨w1.heap.size, q * 7 + u, none⟩ = some (.bool yb)) := fun W hW => by
                rw [hyb]
                exact ((RK.out.keep hW).mayAt q u hq9 hu7).1
              have kc := KC.out wk (Below.refl _ _)
              have BD : Hid (∀ k, Below wk.heap.size wk (wk.drewN k)) := fun k => below_drewN (Below.refl _ _) k
              clear hyb
              go_wp2_with fail
              go_region_with (go_at_call 17; refine (KM.out _ (by first | exact Below.refl _ _ | exact BD.out _)).mono ?_; rintro e w6 ⟨rfl, hb6⟩; have B6 : Hid (Below wk.heap.size wk w6) := (by first | exact hb6 | exact (BD.out _).trans (hb6.mono (BD.out _).size)); have kd := KC.out w6 B6.out; clear hb6)
              all_goals
                go_wp2_with fail
                go_roundg (7 - (u + 1))
                case measure => omega
                case rel => exact ⟨u + 1, by omega, rfl, by push_cast; rfl, (by first | exact RK.out.keep B6.out | exact (RK.out.keep B6.out).keep (below_drewN (Below.refl _ _) _))⟩
            · have l3 : decide ((u : Int) < 7) = false := by rw [decide_eq_false_iff_not]; omega
              go_wp2_with fail
              go_roundg (9 - (q + 1))
              case measure => omega
              case rel => exact ⟨q + 1, by omega, rfl, by push_cast; rfl, RK.out⟩
        · have l1 : decide ((q : Int) < 9) = false := by rw [decide_eq_false_iff_not]; omega
          go_wp2_with fail
          refine (KW.out _).mono ?_
          rintro e w9 ⟨rfl, b9⟩
          have B9 : Hid (Below w.heap.size w w9) := RJ.out.bel.trans (b9.mono RJ.out.bel.size)
          clear b9
          go_wp2_with fail
          go_ret
          exact ⟨rfl, B9.out⟩
    · have j1 : decide ((j : Int) < (len : Int)) = true := by rw [decide_eq_true_eq]; omega
      have j2 : decide ((j : Int) < 80) = false := by rw [decide_eq_false_iff_not]; omega
      clear hlt
      go_wp2_with fail
      go_loopg [115] 9 (fun g i wj => ∃ q : Nat, q ≤ 9 ∧ g = 9 - q ∧ i = .int .i64 (q : Int) ∧ Hid (Gs w wj F b w1.heap.size (w1.heap.size + 1) (2 * j) Q G Q G))
      case atStart => exact ⟨0, Nat.zero_le _, rfl, rfl, RW.out⟩
      case round =>
        obtain ⟨q, hq, rfl, rfl, RJ⟩ := hrel
        clear RW
        rename World => wj
        by_cases hq9 : q < 9
        · have l1 : decide ((q : Int) < 9) = true := by rw [decide_eq_true_eq]; omega
          have l2 : (q : Int) < 9 := by omega
          have rq : IntKind.i64.wrap ((q : Int) + 1) = (q : Int) + 1 := by rw [IntKind.wrap_i64]; omega
          go_wp2_with fail
          go_loopg [118] 7 (fun g i wk => ∃ u : Nat, u ≤ 7 ∧ g = 7 - u ∧ i = .int .i64 (u : Int) ∧ Hid (Gs w wk F b w1.heap.size (w1.heap.size + 1) (2 * j) Q G Q G))
          case atStart => exact ⟨0, Nat.zero_le _, rfl, rfl, RJ.out⟩
          case round =>
            obtain ⟨u, hu, rfl, rfl, RK⟩ := hrel
            clear RJ
            rename World => wk
            by_cases hu7 : u < 7
            · have l3 : decide ((u : Int) < 7) = true := by rw [decide_eq_true_eq]; omega
              have l4 : (u : Int) < 7 := by omega
              have ru : IntKind.i64.wrap ((u : Int) + 1) = (u : Int) + 1 := by rw [IntKind.wrap_i64]; omega
              obtain ⟨yb, hyb⟩ : ∃ yb, yb = (G ((q : Int), (u : Int))).isSome := ⟨_, rfl⟩
              have KM : Hid (∀ W, Below wk.heap.size wk W → Calls Try.prog 17 #[.pointer (some ⟨b, 0, none⟩), .int .i64 (q : Int), .int .i64 (u : Int)] W fun e w' => e = .returned (.bool yb) ∧ Below W.heap.size W w') := fun W hW => by
                rw [hyb]
                exact may_is W F b _ Q G (RK.out.tab.keep hW) q u (by unfold InI; omega) (by unfold InI; omega)
              have KC : Hid (∀ W, Below wk.heap.size wk W → W.cell? ⟨w1.heap.size, q * 7 + u, none⟩ = some (.bool yb)) := fun W hW => by
                rw [hyb]
                exact ((RK.out.keep hW).mayAt q u hq9 hu7).1
              have kc := KC.out wk (Below.refl _ _)
              have BD : Hid (∀ k, Below wk.heap.size wk (wk.drewN k)) := fun k => below_drewN (Below.refl _ _) k
              clear hyb
              go_wp2_with fail
              go_region_with (go_at_call 17; refine (KM.out _ (by first | exact Below.refl _ _ | exact BD.out _)).mono ?_; rintro e w6 ⟨rfl, hb6⟩; have B6 : Hid (Below wk.heap.size wk w6) := (by first | exact hb6 | exact (BD.out _).trans (hb6.mono (BD.out _).size)); have kd := KC.out w6 B6.out; clear hb6)
              all_goals
                go_wp2_with fail
                go_roundg (7 - (u + 1))
                case measure => omega
                case rel => exact ⟨u + 1, by omega, rfl, by push_cast; rfl, (by first | exact RK.out.keep B6.out | exact (RK.out.keep B6.out).keep (below_drewN (Below.refl _ _) _))⟩
            · have l3 : decide ((u : Int) < 7) = false := by rw [decide_eq_false_iff_not]; omega
              go_wp2_with fail
              go_roundg (9 - (q + 1))
              case measure => omega
              case rel => exact ⟨q + 1, by omega, rfl, by push_cast; rfl, RK.out⟩
        · have l1 : decide ((q : Int) < 9) = false := by rw [decide_eq_false_iff_not]; omega
          go_wp2_with fail
          refine (KW.out _).mono ?_
          rintro e w9 ⟨rfl, b9⟩
          have B9 : Hid (Below w.heap.size w w9) := RJ.out.bel.trans (b9.mono RJ.out.bel.size)
          clear b9
          go_wp2_with fail
          go_ret
          exact ⟨rfl, B9.out⟩
end Go.Proofs.Ytgfjhghhonaiiaa
