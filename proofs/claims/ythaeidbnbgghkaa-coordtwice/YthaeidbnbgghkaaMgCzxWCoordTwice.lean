/- CoordTwice's walk (gen_ctwice.py). -/
import Derived.Test.YthaeidbnbgghkaaMgCzxCoTw
import Derived.Test.YthaeidbnbgghkaaMgCz21
import Derived.Deep.CutRange
import Derived.BigQuiet
namespace Go.Proofs.Ythaeidbnbgghkaa
open Go.ChangeShapes Go.WideShapes Go.ChangeAt Go.RowKit Go.Deep Go.Maps
set_option linter.unusedVariables false
set_option linter.unusedSimpArgs false
set_option maxRecDepth 100000 in
set_option maxHeartbeats 16000000 in
theorem coordTwice_walk0 (l0 : Int) (ac : Option Addr) (len cap : Nat) (A : Nat → Ac) (k0 f0 t0 q0 : Int) (y0 : Bool) (a0 : Option Addr) (n0 cp : Nat) (L0 : List Pk) (w : World) (hA : InAc w ac len A) (hm : MsIn w k0 f0 t0 q0 a0 n0 cp L0) (hc9 : cp ≤ 9223372036854775807) :
    Calls Try.prog 7 #[.int .i64 l0, .slice ac len cap, .agg #[.int .i64 k0, .int .i64 f0, .int .i64 t0, .int .i64 q0, .bool y0, .slice a0 n0 cp]] w fun e w' => e = .returned (.bool true) ∧ Below w.heap.size w w' := by
  obtain ⟨⟨ik, jf, it, iq⟩, hl0, hn0c, hz0, hp0, -, -⟩ := hm
  obtain ⟨e0, ha, ha1, ha2, ha3⟩ := mod_inG l0 20 (by decide)
  have s1 : IntKind.i64.wrap (Int.tmod l0 20) = Int.tmod l0 20 := by rw [IntKind.wrap_i64]; omega
  have s2 : IntKind.i64.wrap (Int.tmod l0 20 + 20) = Int.tmod l0 20 + 20 := by rw [IntKind.wrap_i64]; omega
  have s3 : IntKind.i64.wrap (e0 : Int) = (e0 : Int) := by rw [IntKind.wrap_i64]; omega
  have s4 : IntKind.i64.wrap (1 + (e0 : Int)) = 1 + (e0 : Int) := by rw [IntKind.wrap_i64]; omega
  obtain ⟨lim, hlim⟩ : ∃ n : Nat, n = 1 + e0 := ⟨_, rfl⟩
  have hnI : Hid (1 + (e0 : Int) = (lim : Int)) := by
    show _ = _
    omega
  have HN : Hid (1 ≤ lim ∧ lim ≤ 20) := ⟨by omega, by omega⟩
  have HM : Hid (InPk w a0 L0 ∧ L0.length = n0 ∧ n0 ≤ cp ∧ cp ≤ 9223372036854775807 ∧ InI q0) := ⟨hp0, hl0, hn0c, hc9, iq⟩
  have HA : Hid (InAc w ac len A) := hA
  clear ik jf it iq hz0 hp0 hl0 hn0c hc9 hA ha1 ha2 ha3 hlim
  have bb := below1 w (.cells #[.int .i64 k0, .int .i64 f0, .int .i64 t0, .int .i64 q0, .bool y0, .slice a0 n0 cp] 25)
  go_enter Try.func7, Try.ntmps7
  go_upto_region 2 with fail
  rw [hnI.out]
  clear s1 s2 s3 s4 ha hnI
  go_wp2_with fail
  refine (new_ok _ (lim : Int) ⟨by have := HN.out.1; omega, by have := HN.out.2; omega⟩).mono ?_
  rintro e w1 ⟨b, m, F, rfl, h1, b1, hF⟩
  have R1 : Hid (TwR w w1 b m (lim : Int) #[.int .i64 k0, .int .i64 f0, .int .i64 t0, .int .i64 q0, .bool y0, .slice a0 n0 cp] 0) := ⟨F, 0, _, Nat.le_refl _, GL.none _, ⟨bb.trans (b1.mono bb.size), (b1.block _ (by simp)).trans (heap_alloc_new w _), ⟨_, h1⟩, fun k hk => by have := hF k hk; simpa using this⟩⟩
  clear bb h1 b1 hF
  go_upto_region 6 with fail
  go_loopg [8] (min len 40) (fun g i wr => ∃ j : Nat, j ≤ min len 40 ∧ g = min len 40 - j ∧ i = .int .i64 (j : Int) ∧ Hid (TwR w wr b m (lim : Int) #[.int .i64 k0, .int .i64 f0, .int .i64 t0, .int .i64 q0, .bool y0, .slice a0 n0 cp] j))
  case atStart => exact ⟨0, Nat.zero_le _, rfl, rfl, R1.out⟩
  case round =>
    obtain ⟨j, hj, rfl, rfl, RW⟩ := hrel
    by_cases hlt : j < len ∧ j < 40
    · have j1 : decide ((j : Int) < (len : Int)) = true := by rw [decide_eq_true_eq]; omega
      have j3 : decide (j < len) = true := by rw [decide_eq_true_eq]; omega
      have j4 : (j : Int) < (len : Int) := by omega
      have j5 : decide ((j : Int) < (40 : Int)) = true := by rw [decide_eq_true_eq]; omega
      have j6 : decide (j < 40) = true := by rw [decide_eq_true_eq]; omega
      have ri : IntKind.i64.wrap ((j : Int) + 1) = (j : Int) + 1 := by rw [IntKind.wrap_i64]; omega
      have HJ : Hid (j < min len 40 ∧ j ≤ 100) := ⟨by omega, by omega⟩
      have hAw := HA.out.keep RW.out.bel
      obtain ⟨bo, oo, rfl, hbo, hcl⟩ := hAw.1 (by omega)
      have hcj := hcl j hlt.1
      have HOK : Hid ((A j).ok wr) := hAw.2.1 j hlt.1
      have HBO : Hid (bo < wr.heap.size) := hbo
      clear hAw hcl hbo hlt
      generalize A j = v at hcj HOK
      obtain ⟨ak, ax, apa, apn, apc, aP, k, f, t, q, y, ma, mn, mc, mL⟩ := v
      have c0 : wr.cell? ⟨bo, oo + j * 9, none⟩ = some (.int .i64 ak) := hcj 0 _ rfl
      have c1 : wr.cell? ⟨bo, oo + j * 9 + 1, none⟩ = some (.int .i64 ax) := hcj 1 _ rfl
      have c2 : wr.cell? ⟨bo, oo + j * 9 + 2, none⟩ = some (.slice apa apn apc) := hcj 2 _ rfl
      have c3 : wr.cell? ⟨bo, oo + j * 9 + 3, none⟩ = some (.int .i64 k) := hcj 3 _ rfl
      have c4 : wr.cell? ⟨bo, oo + j * 9 + 4, none⟩ = some (.int .i64 f) := hcj 4 _ rfl
      have c5 : wr.cell? ⟨bo, oo + j * 9 + 5, none⟩ = some (.int .i64 t) := hcj 5 _ rfl
      have c6 : wr.cell? ⟨bo, oo + j * 9 + 6, none⟩ = some (.int .i64 q) := hcj 6 _ rfl
      have c7 : wr.cell? ⟨bo, oo + j * 9 + 7, none⟩ = some (.bool y) := hcj 7 _ rfl
      have c8 : wr.cell? ⟨bo, oo + j * 9 + 8, none⟩ = some (.slice ma mn mc) := hcj 8 _ rfl
      have bA := below1 wr (.cells #[.int .i64 ak, .int .i64 ax, .slice apa apn apc, .int .i64 k, .int .i64 f, .int .i64 t, .int .i64 q, .bool y, .slice ma mn mc] 27)
      have HC : Hid (TwR w (wr.alloc (.cells #[.int .i64 ak, .int .i64 ax, .slice apa apn apc, .int .i64 k, .int .i64 f, .int .i64 t, .int .i64 q, .bool y, .slice ma mn mc] 27)) b m (lim : Int) #[.int .i64 k0, .int .i64 f0, .int .i64 t0, .int .i64 q0, .bool y0, .slice a0 n0 cp] j ∧ (wr.alloc (.cells #[.int .i64 ak, .int .i64 ax, .slice apa apn apc, .int .i64 k, .int .i64 f, .int .i64 t, .int .i64 q, .bool y, .slice ma mn mc] 27)).heap[wr.heap.size]? = some (.cells #[.int .i64 ak, .int .i64 ax, .slice apa apn apc, .int .i64 k, .int .i64 f, .int .i64 t, .int .i64 q, .bool y, .slice ma mn mc] 27) ∧ InPk (wr.alloc (.cells #[.int .i64 ak, .int .i64 ax, .slice apa apn apc, .int .i64 k, .int .i64 f, .int .i64 t, .int .i64 q, .bool y, .slice ma mn mc] 27)) ma mL ∧ InVr (wr.alloc (.cells #[.int .i64 ak, .int .i64 ax, .slice apa apn apc, .int .i64 k, .int .i64 f, .int .i64 t, .int .i64 q, .bool y, .slice ma mn mc] 27)) apa aP) := ⟨RW.out.keep bA, heap_alloc_new wr _, HOK.out.ms.2.2.2.2.1.keep bA, HOK.out.pl.2.2.keep bA⟩
      have HO : Hid (mn ≤ mc ∧ mc ≤ 9223372036854775807 ∧ mL.length = mn ∧ aP.length = apn ∧ InI ax ∧ apn ≤ 4398046511104) := ⟨HOK.out.ms.2.2.1, HOK.out.c9, HOK.out.ms.2.1, HOK.out.pl.1, HOK.out.ix, HOK.out.pb⟩
      have HF : Hid (∃ F n X, n ≤ j ∧ GL (lim : Int) X ∧ TwB w (wr.alloc (.cells #[.int .i64 ak, .int .i64 ax, .slice apa apn apc, .int .i64 k, .int .i64 f, .int .i64 t, .int .i64 q, .bool y, .slice ma mn mc] 27)) F b (lim : Int) n m X #[.int .i64 k0, .int .i64 f0, .int .i64 t0, .int .i64 q0, .bool y0, .slice a0 n0 cp] ∧ ¬ F wr.heap.size) := by
        obtain ⟨F, n, X, h1, h2, h3⟩ := RW.out
        refine ⟨F, n, X, h1, h2, h3.keep bA, fun e => ?_⟩
        obtain ⟨B9, h9⟩ := h3.cd
        exact absurd (h9.lt _ e) (Nat.lt_irrefl _)
      clear hcj HOK bA RW
      go_upto_region 9 with fail
      clear c0 c1 c2 c3 c4 c5 c6 c7 c8 HBO
      generalize (wr.alloc (.cells #[.int .i64 ak, .int .i64 ax, .slice apa apn apc, .int .i64 k, .int .i64 f, .int .i64 t, .int .i64 q, .bool y, .slice ma mn mc] 27)) = wa at *
      generalize wr.heap.size = za at *
      obtain ⟨c0, c1, c2, c3, c4, c5, c6, c7, c8⟩ := cells9 HC.out.2.1
      by_cases hk0 : ak = 0
      · have hk := hk0
        have e0 : (ak == (0 : Int)) = true := by simp [hk]
        have e1 : (ak == (1 : Int)) = false := by simp [hk]
        have e2 : (ak == (2 : Int)) = false := by simp [hk]
        have e3 : (ak == (3 : Int)) = false := by simp [hk]
        have e5 : (ak == (5 : Int)) = false := by simp [hk]
        clear hk hk0
        go_upto_region 11 with fail
        refine wp_region_noPanic ?_
        refine wp_region_held_drew (S := (fun W : World => W.heap[za]? = some (.cells #[.int .i64 ak, .int .i64 ax, .slice apa apn apc, .int .i64 k, .int .i64 f, .int .i64 t, .int .i64 q, .bool y, .slice ma mn mc] 27))) (by kernel_rfl) ?hSaq0 (fun hHeld => ?restaq0)
        case hSaq0 => exact HC.out.2.1
        case restaq0 =>
          refine wpAnyH_take (i := 0) (v := .pointer (some ⟨b, 0, none⟩)) rfl (by kernel_rfl) (by kernel_rfl) (by kernel_rfl) (fun _ _ _ h => h) (Or.inl ⟨by kernel_rfl, ?hy0q0⟩) hHeld ?rest0q0
          case hy0q0 => (intro w' hSw; (try dsimp only at hSw); go_simp; try with_reducible rfl)
          try simp only [Act.put, List.setIfInBounds_toArray, List.set_cons_zero, List.set_cons_succ, List.getElem_toArray, List.getElem_cons_zero, List.getElem_cons_succ]
          refine wpAnyH_take (i := 1) (v := .pointer (some ⟨za, 1, none⟩)) rfl (by kernel_rfl) (by kernel_rfl) (by kernel_rfl) (fun _ _ _ h => h) (Or.inl ⟨by kernel_rfl, ?hy1q0⟩) hHeld ?rest1q0
          case hy1q0 => (intro w' hSw; (try dsimp only at hSw); go_simp; try with_reducible rfl)
          try simp only [Act.put, List.setIfInBounds_toArray, List.set_cons_zero, List.set_cons_succ, List.getElem_toArray, List.getElem_cons_zero, List.getElem_cons_succ]
          refine wpAnyH_take (i := 2) (v := .int .i64 ax) rfl (by kernel_rfl) (by kernel_rfl) (by kernel_rfl) (fun _ _ _ h => h) (Or.inl ⟨by kernel_rfl, ?hy2q0⟩) hHeld ?rest2q0
          case hy2q0 => (intro w' hSw; (try dsimp only at hSw); obtain ⟨c0, c1, c2, c3, c4, c5, c6, c7, c8⟩ := cells9 hSw; go_simp; try with_reducible rfl)
          try simp only [Act.put, List.setIfInBounds_toArray, List.set_cons_zero, List.set_cons_succ, List.getElem_toArray, List.getElem_cons_zero, List.getElem_cons_succ]
          refine wpAnyH_take (i := 3) (v := .pointer (some ⟨za, 2, none⟩)) rfl (by kernel_rfl) (by kernel_rfl) (by kernel_rfl) (fun _ _ _ h => h) (Or.inl ⟨by kernel_rfl, ?hy3q0⟩) hHeld ?rest3q0
          case hy3q0 => (intro w' hSw; (try dsimp only at hSw); go_simp; try with_reducible rfl)
          try simp only [Act.put, List.setIfInBounds_toArray, List.set_cons_zero, List.set_cons_succ, List.getElem_toArray, List.getElem_cons_zero, List.getElem_cons_succ]
          refine wpAnyH_take (i := 4) (v := .slice apa apn apc) rfl (by kernel_rfl) (by kernel_rfl) (by kernel_rfl) (fun _ _ _ h => h) (Or.inl ⟨by kernel_rfl, ?hy4q0⟩) hHeld ?rest4q0
          case hy4q0 => (intro w' hSw; (try dsimp only at hSw); obtain ⟨c0, c1, c2, c3, c4, c5, c6, c7, c8⟩ := cells9 hSw; go_simp; try with_reducible rfl)
          try simp only [Act.put, List.setIfInBounds_toArray, List.set_cons_zero, List.set_cons_succ, List.getElem_toArray, List.getElem_cons_zero, List.getElem_cons_succ]
          refine wpAnyH_ready (rs := [5]) (by kernel_rfl) (by simp) ?_
          refine AllReadyH.cons rfl (fun K hK => ?_) AllReadyH.nil
          go_simp
          refine (few15_is _ apa apn apc aP HO.out.2.2.2.1 (HC.out.2.2.2.keep (Below.refl wa.heap.size wa).drew)).mono ?_
          rintro e5 w5 ⟨V5, Q5, rfl, o5, n5, q5, b5⟩
          have B5 : Hid (Below wa.heap.size wa w5) := (Below.refl wa.heap.size wa).drew.trans b5
          obtain ⟨va, vc, rfl, i5, -⟩ := o5.slice (fun x hx => (n5 x hx).st)
          have P5 : Hid (InPv w5 va Q5 ∧ (∀ x ∈ Q5, PvOk w5 x) ∧ Q5.length ≤ 10) := ⟨i5, fun x hx => (n5 x hx).st, by have h := congrArg List.length q5; rw [List.length_map, List.length_map, List.length_take] at h; omega⟩
          obtain ⟨nq, hnq⟩ : ∃ n : Nat, n = Q5.length := ⟨_, rfl⟩
          rw [← hnq]
          have HQ : Hid (Q5.length = nq) := hnq.symm
          clear hnq i5 q5 n5 o5 b5
          refine hK.out _ _ ?hS5q0 (fun hHeld => ?rest5q0)
          case hS5q0 => exact (B5.out.block _ (lt_of_heapK HC.out.2.1)).trans HC.out.2.1
          clear hK K
          try simp only [Act.put, List.setIfInBounds_toArray, List.set_cons_zero, List.set_cons_succ, List.getElem_toArray, List.getElem_cons_zero, List.getElem_cons_succ]
          refine wpAnyH_ready (rs := [6]) (by kernel_rfl) (by simp) ?_
          refine AllReadyH.cons rfl (fun K hK => ?_) AllReadyH.nil
          go_simp
          obtain ⟨F, n, X, h1, h2, h3, h4⟩ := HF.out
          refine (tw_begin w w5 b m (lim : Int) _ j h1 h2 (h3.keep B5.out) HJ.out.2 (by have := HN.out.1; omega) ax HO.out.2.2.2.2.1 va nq vc Q5 P5.out.1 HQ.out (by have := P5.out.2.2; have := HQ.out; omega) P5.out.2.1).mono ?_
          rintro e6 w6 ⟨V6, E6, rfl, r6, g6⟩
          have R4 : Hid (TwR w w6 b m (lim : Int) #[.int .i64 k0, .int .i64 f0, .int .i64 t0, .int .i64 q0, .bool y0, .slice a0 n0 cp] (j + 1)) := r6
          have G6 : Hid (w6.heap[za]? = some (.cells #[.int .i64 ak, .int .i64 ax, .slice apa apn apc, .int .i64 k, .int .i64 f, .int .i64 t, .int .i64 q, .bool y, .slice ma mn mc] 27)) := (g6 za (Nat.lt_of_lt_of_le (lt_of_heapK HC.out.2.1) B5.out.size) h4).trans ((B5.out.block _ (lt_of_heapK HC.out.2.1)).trans HC.out.2.1)
          clear r6 g6 h1 h2 h3 h4
          refine hK.out _ _ ?hS6q0 (fun hHeld => ?rest6q0)
          case hS6q0 => exact G6.out
          clear hK K
          try simp only [Act.put, List.setIfInBounds_toArray, List.set_cons_zero, List.set_cons_succ, List.getElem_toArray, List.getElem_cons_zero, List.getElem_cons_succ]
          refine wpAnyH_done (by kernel_rfl) ?_ _
          refine NoPanic.normal ?_
          try go_wp2_with fail
          go_roundg (min len 40 - (j + 1))
          case measure => have := HJ.out.1; omega
          case rel => exact ⟨j + 1, by have := HJ.out.1; omega, rfl, by go_num, R4.out⟩
      · skip
        by_cases hk1 : ak = 1
        · have hk := hk1
          have e0 : (ak == (0 : Int)) = false := by simp [hk]
          have e1 : (ak == (1 : Int)) = true := by simp [hk]
          have e2 : (ak == (2 : Int)) = false := by simp [hk]
          have e3 : (ak == (3 : Int)) = false := by simp [hk]
          have e5 : (ak == (5 : Int)) = false := by simp [hk]
          clear hk hk0 hk1
          go_upto_region 13 with fail
          refine wp_region_noPanic ?_
          refine wp_region_held_drew (S := (fun W : World => W.heap[za]? = some (.cells #[.int .i64 ak, .int .i64 ax, .slice apa apn apc, .int .i64 k, .int .i64 f, .int .i64 t, .int .i64 q, .bool y, .slice ma mn mc] 27))) (by kernel_rfl) ?hSaq1 (fun hHeld => ?restaq1)
          case hSaq1 => exact HC.out.2.1
          case restaq1 =>
            refine wpAnyH_take (i := 0) (v := .pointer (some ⟨b, 0, none⟩)) rfl (by kernel_rfl) (by kernel_rfl) (by kernel_rfl) (fun _ _ _ h => h) (Or.inl ⟨by kernel_rfl, ?hy0q1⟩) hHeld ?rest0q1
            case hy0q1 => (intro w' hSw; (try dsimp only at hSw); go_simp; try with_reducible rfl)
            try simp only [Act.put, List.setIfInBounds_toArray, List.set_cons_zero, List.set_cons_succ, List.getElem_toArray, List.getElem_cons_zero, List.getElem_cons_succ]
            refine wpAnyH_take (i := 1) (v := .pointer (some ⟨za, 1, none⟩)) rfl (by kernel_rfl) (by kernel_rfl) (by kernel_rfl) (fun _ _ _ h => h) (Or.inl ⟨by kernel_rfl, ?hy1q1⟩) hHeld ?rest1q1
            case hy1q1 => (intro w' hSw; (try dsimp only at hSw); go_simp; try with_reducible rfl)
            try simp only [Act.put, List.setIfInBounds_toArray, List.set_cons_zero, List.set_cons_succ, List.getElem_toArray, List.getElem_cons_zero, List.getElem_cons_succ]
            refine wpAnyH_take (i := 2) (v := .int .i64 ax) rfl (by kernel_rfl) (by kernel_rfl) (by kernel_rfl) (fun _ _ _ h => h) (Or.inl ⟨by kernel_rfl, ?hy2q1⟩) hHeld ?rest2q1
            case hy2q1 => (intro w' hSw; (try dsimp only at hSw); obtain ⟨c0, c1, c2, c3, c4, c5, c6, c7, c8⟩ := cells9 hSw; go_simp; try with_reducible rfl)
            try simp only [Act.put, List.setIfInBounds_toArray, List.set_cons_zero, List.set_cons_succ, List.getElem_toArray, List.getElem_cons_zero, List.getElem_cons_succ]
            refine wpAnyH_take (i := 3) (v := .pointer (some ⟨za, 2, none⟩)) rfl (by kernel_rfl) (by kernel_rfl) (by kernel_rfl) (fun _ _ _ h => h) (Or.inl ⟨by kernel_rfl, ?hy3q1⟩) hHeld ?rest3q1
            case hy3q1 => (intro w' hSw; (try dsimp only at hSw); go_simp; try with_reducible rfl)
            try simp only [Act.put, List.setIfInBounds_toArray, List.set_cons_zero, List.set_cons_succ, List.getElem_toArray, List.getElem_cons_zero, List.getElem_cons_succ]
            refine wpAnyH_take (i := 4) (v := .slice apa apn apc) rfl (by kernel_rfl) (by kernel_rfl) (by kernel_rfl) (fun _ _ _ h => h) (Or.inl ⟨by kernel_rfl, ?hy4q1⟩) hHeld ?rest4q1
            case hy4q1 => (intro w' hSw; (try dsimp only at hSw); obtain ⟨c0, c1, c2, c3, c4, c5, c6, c7, c8⟩ := cells9 hSw; go_simp; try with_reducible rfl)
            try simp only [Act.put, List.setIfInBounds_toArray, List.set_cons_zero, List.set_cons_succ, List.getElem_toArray, List.getElem_cons_zero, List.getElem_cons_succ]
            refine wpAnyH_ready (rs := [5]) (by kernel_rfl) (by simp) ?_
            refine AllReadyH.cons rfl (fun K hK => ?_) AllReadyH.nil
            go_simp
            refine (lroots_is _ apa apn apc (aP.map vrRl) (HC.out.2.2.2.keep (Below.refl wa.heap.size wa).drew).rl (by rw [List.length_map]; exact HO.out.2.2.2.1) (Nat.le_trans HO.out.2.2.2.2.2 (by decide))).mono ?_
            rintro e5 w5 ⟨V5, rfl, o5, b5⟩
            have B5 : Hid (Below wa.heap.size wa w5) := (Below.refl wa.heap.size wa).drew.trans b5
            obtain ⟨Q5, hQ5⟩ : ∃ Q : List Int, Q = ((aP.map vrRl).take 10).map Rl.r := ⟨_, rfl⟩
            rw [← hQ5] at o5
            obtain ⟨va, vc, rfl, i5, -⟩ := o5.slice
            have P5 : Hid (InZ w5 va Q5 ∧ Q5.length ≤ 10) := ⟨i5, by rw [hQ5, List.length_map, List.length_take]; omega⟩
            obtain ⟨nq, hnq⟩ : ∃ n : Nat, n = Q5.length := ⟨_, rfl⟩
            rw [← hnq]
            have HQ : Hid (Q5.length = nq) := hnq.symm
            clear hnq i5 hQ5 o5 b5
            refine hK.out _ _ ?hS5q1 (fun hHeld => ?rest5q1)
            case hS5q1 => exact (B5.out.block _ (lt_of_heapK HC.out.2.1)).trans HC.out.2.1
            clear hK K
            try simp only [Act.put, List.setIfInBounds_toArray, List.set_cons_zero, List.set_cons_succ, List.getElem_toArray, List.getElem_cons_zero, List.getElem_cons_succ]
            refine wpAnyH_ready (rs := [6]) (by kernel_rfl) (by simp) ?_
            refine AllReadyH.cons rfl (fun K hK => ?_) AllReadyH.nil
            go_simp
            obtain ⟨F, n, X, h1, h2, h3, h4⟩ := HF.out
            refine (tw_recall w w5 b m (lim : Int) _ j h1 h2 (h3.keep B5.out) HJ.out.2 (by have := HN.out.1; omega) ax HO.out.2.2.2.2.1 va nq vc Q5 P5.out.1 HQ.out (by have := P5.out.2; have := HQ.out; omega)).mono ?_
            rintro e6 w6 ⟨V6, E6, rfl, r6, g6⟩
            have R4 : Hid (TwR w w6 b m (lim : Int) #[.int .i64 k0, .int .i64 f0, .int .i64 t0, .int .i64 q0, .bool y0, .slice a0 n0 cp] (j + 1)) := r6
            have G6 : Hid (w6.heap[za]? = some (.cells #[.int .i64 ak, .int .i64 ax, .slice apa apn apc, .int .i64 k, .int .i64 f, .int .i64 t, .int .i64 q, .bool y, .slice ma mn mc] 27)) := (g6 za (Nat.lt_of_lt_of_le (lt_of_heapK HC.out.2.1) B5.out.size) h4).trans ((B5.out.block _ (lt_of_heapK HC.out.2.1)).trans HC.out.2.1)
            clear r6 g6 h1 h2 h3 h4
            refine hK.out _ _ ?hS6q1 (fun hHeld => ?rest6q1)
            case hS6q1 => exact G6.out
            clear hK K
            try simp only [Act.put, List.setIfInBounds_toArray, List.set_cons_zero, List.set_cons_succ, List.getElem_toArray, List.getElem_cons_zero, List.getElem_cons_succ]
            refine wpAnyH_done (by kernel_rfl) ?_ _
            refine NoPanic.normal ?_
            try go_wp2_with fail
            go_roundg (min len 40 - (j + 1))
            case measure => have := HJ.out.1; omega
            case rel => exact ⟨j + 1, by have := HJ.out.1; omega, rfl, by go_num, R4.out⟩
        · skip
          by_cases hk2 : ak = 2
          · have hk := hk2
            have e0 : (ak == (0 : Int)) = false := by simp [hk]
            have e1 : (ak == (1 : Int)) = false := by simp [hk]
            have e2 : (ak == (2 : Int)) = true := by simp [hk]
            have e3 : (ak == (3 : Int)) = false := by simp [hk]
            have e5 : (ak == (5 : Int)) = false := by simp [hk]
            clear hk hk0 hk1 hk2
            go_wp2_with fail
            refine (short_is _ k f t q y ma mn mc HO.out.1).mono ?_
            rintro e w3 ⟨rfl, b3⟩
            obtain ⟨n', hn'⟩ : ∃ n' : Nat, n' = min mn 3 := ⟨_, rfl⟩
            rw [← hn']
            have KT : Hid (Calls Try.prog 16 #[.pointer (some ⟨b, 0, none⟩), .agg #[.int .i64 k, .int .i64 f, .int .i64 t, .int .i64 q, .bool y, .slice ma n' mc]] w3 fun e w' => ∃ V lg cl gn, e = .returned (sd V lg cl gn) ∧ TwR w w' b m (lim : Int) #[.int .i64 k0, .int .i64 f0, .int .i64 t0, .int .i64 q0, .bool y0, .slice a0 n0 cp] (j + 1)) := tw_take w w3 b m (lim : Int) _ j (HC.out.1.keep b3) k f t q ma n' mc (mL.take 3) (by rw [List.length_take, HO.out.2.2.1, hn']; omega) ((HC.out.2.2.1.keep b3).take 3) (by have := HO.out.1; omega) HO.out.2.1 (by omega) y
            clear hn' b3 c0 c1 c2 c3 c4 c5 c6 c7 c8
            go_wp2_with fail
            refine KT.out.mono ?_
            rintro e w4 ⟨V, lg, cl, gn, rfl, r4⟩
            have R4 : Hid (TwR w w4 b m (lim : Int) #[.int .i64 k0, .int .i64 f0, .int .i64 t0, .int .i64 q0, .bool y0, .slice a0 n0 cp] (j + 1)) := r4
            clear r4 KT
            unfold sd
            go_wp2_with fail
            go_roundg (min len 40 - (j + 1))
            case measure => have := HJ.out.1; omega
            case rel => exact ⟨j + 1, by have := HJ.out.1; omega, rfl, by go_num, R4.out⟩
          · skip
            by_cases hk3 : ak = 3
            · have hk := hk3
              have e0 : (ak == (0 : Int)) = false := by simp [hk]
              have e1 : (ak == (1 : Int)) = false := by simp [hk]
              have e2 : (ak == (2 : Int)) = false := by simp [hk]
              have e3 : (ak == (3 : Int)) = true := by simp [hk]
              have e5 : (ak == (5 : Int)) = false := by simp [hk]
              clear hk hk0 hk1 hk2 hk3
              go_wp2_with fail
              refine (tw_sure w wa b m (lim : Int) _ j HC.out.1 ax HO.out.2.2.2.2.1).mono ?_
              rintro e w4 ⟨V, E, rfl, r4⟩
              have R4 : Hid (TwR w w4 b m (lim : Int) #[.int .i64 k0, .int .i64 f0, .int .i64 t0, .int .i64 q0, .bool y0, .slice a0 n0 cp] (j + 1)) := r4
              clear r4
              go_wp2_with fail
              go_roundg (min len 40 - (j + 1))
              case measure => have := HJ.out.1; omega
              case rel => exact ⟨j + 1, by have := HJ.out.1; omega, rfl, by go_num, R4.out⟩
            · skip
              by_cases hk5 : ak = 5
              · have hk := hk5
                have e0 : (ak == (0 : Int)) = false := by simp [hk]
                have e1 : (ak == (1 : Int)) = false := by simp [hk]
                have e2 : (ak == (2 : Int)) = false := by simp [hk]
                have e3 : (ak == (3 : Int)) = false := by simp [hk]
                have e5 : (ak == (5 : Int)) = true := by simp [hk]
                clear hk hk0 hk1 hk2 hk3 hk5
                go_wp2_with fail
                refine (tw_tick w wa b m (lim : Int) _ j HC.out.1 HJ.out.2 (by have := HN.out.2; omega)).mono ?_
                rintro e w4 ⟨V, G, rfl, r4⟩
                have R4 : Hid (TwR w w4 b m (lim : Int) #[.int .i64 k0, .int .i64 f0, .int .i64 t0, .int .i64 q0, .bool y0, .slice a0 n0 cp] (j + 1)) := r4
                clear r4
                go_wp2_with fail
                go_roundg (min len 40 - (j + 1))
                case measure => have := HJ.out.1; omega
                case rel => exact ⟨j + 1, by have := HJ.out.1; omega, rfl, by go_num, R4.out⟩
              · have hk := And.intro hk0 (And.intro hk1 (And.intro hk2 (And.intro hk3 hk5)))
                have e0 : (ak == (0 : Int)) = false := by simp [hk]
                have e1 : (ak == (1 : Int)) = false := by simp [hk]
                have e2 : (ak == (2 : Int)) = false := by simp [hk]
                have e3 : (ak == (3 : Int)) = false := by simp [hk]
                have e5 : (ak == (5 : Int)) = false := by simp [hk]
                clear hk hk0 hk1 hk2 hk3 hk5
                have R4 : Hid (TwR w wa b m (lim : Int) #[.int .i64 k0, .int .i64 f0, .int .i64 t0, .int .i64 q0, .bool y0, .slice a0 n0 cp] (j + 1)) := HC.out.1.more
                go_wp2_with fail
                go_roundg (min len 40 - (j + 1))
                case measure => have := HJ.out.1; omega
                case rel => exact ⟨j + 1, by have := HJ.out.1; omega, rfl, by go_num, R4.out⟩
    · have HX : Hid (TwR w wr b m (lim : Int) #[.int .i64 k0, .int .i64 f0, .int .i64 t0, .int .i64 q0, .bool y0, .slice a0 n0 cp] j ∧ j ≤ 40) := ⟨RW.out, by omega⟩
      by_cases hl1 : j < len
      · have t1 : decide ((j : Int) < (len : Int)) = true := by rw [decide_eq_true_eq]; omega
        have t2 : decide ((j : Int) < (40 : Int)) = false := by rw [decide_eq_false_iff_not]; omega
        have t3 : decide (j < len) = true := by rw [decide_eq_true_eq]; omega
        have t4 : decide (j < 40) = false := by rw [decide_eq_false_iff_not]; omega
        clear hl1 hlt RW R1
        obtain ⟨F, n, X, h1, h2, h3⟩ := HX.out.1
        have P1 : Hid (TwB w wr F b (lim : Int) n m X #[.int .i64 k0, .int .i64 f0, .int .i64 t0, .int .i64 q0, .bool y0, .slice a0 n0 cp] ∧ GL (lim : Int) X ∧ n ≤ 40) := ⟨h3, h2, by have := HX.out.2; omega⟩
        clear h1 h2 h3 HX
        obtain ⟨d0, d1, d2, d3, d4, d5⟩ := cells6 P1.out.1.box
        go_wp2_with fail
        refine (short_is _ k0 f0 t0 q0 y0 a0 n0 cp HM.out.2.2.1).mono ?_
        rintro e w2 ⟨rfl, b2⟩
        have P2 : Hid (TwB w w2 F b (lim : Int) n m X #[.int .i64 k0, .int .i64 f0, .int .i64 t0, .int .i64 q0, .bool y0, .slice a0 n0 cp] ∧ GL (lim : Int) X ∧ n ≤ 40) := ⟨P1.out.1.keep b2, P1.out.2⟩
        clear b2 d0 d1 d2 d3 d4 d5 P1
        obtain ⟨n', hn'⟩ : ∃ n' : Nat, n' = min n0 3 := ⟨_, rfl⟩
        rw [← hn']
        obtain ⟨L, hL⟩ : ∃ L, L = L0.take 3 := ⟨_, rfl⟩
        have HL : Hid (L.length = n' ∧ InPk w a0 L ∧ n' ≤ cp ∧ cp ≤ 9223372036854775807 ∧ n' ≤ 1000000) := by
          have h1 : L.length = n' := by rw [hL, List.length_take, HM.out.2.1, hn']; omega
          exact ⟨h1, by rw [hL]; exact HM.out.1.take 3, by have := HM.out.2.2.1; omega, HM.out.2.2.2.1, by omega⟩
        clear hn' hL
        obtain ⟨d0, d1, d2, d3, d4, d5⟩ := cells6 P2.out.1.box
        have z0 := frozen_blk P2.out.1.box 0
        have z1 := frozen_blk P2.out.1.box 1
        have z2 := frozen_blk P2.out.1.box 2
        have z3 := frozen_blk P2.out.1.box 3
        have z4 := frozen_blk P2.out.1.box 4
        have z5 := frozen_blk P2.out.1.box 5
        obtain ⟨g1, g2⟩ := chain6 (a' := .int .i64 k0) (b' := .int .i64 f0) (c' := .int .i64 t0) (d' := .int .i64 q0) (e' := .bool y0) (f' := .slice a0 n' cp) P2.out.1.box
        go_upto_region 21 with fail
        generalize hw3 : (((((w2.setCell ⟨w.heap.size, 0, none⟩ (.int .i64 k0)).setCell ⟨w.heap.size, 1, none⟩ (.int .i64 f0)).setCell ⟨w.heap.size, 2, none⟩ (.int .i64 t0)).setCell ⟨w.heap.size, 3, none⟩ (.int .i64 q0)).setCell ⟨w.heap.size, 4, none⟩ (.bool y0)).setCell ⟨w.heap.size, 5, none⟩ (.slice a0 n' cp) = w3 at *
        have P3 : Hid (TwB w w3 F b (lim : Int) n m X #[.int .i64 k0, .int .i64 f0, .int .i64 t0, .int .i64 q0, .bool y0, .slice a0 n' cp] ∧ GL (lim : Int) X ∧ n ≤ 40) := ⟨P2.out.1.put g2 g1, P2.out.2⟩
        clear g1 g2 d0 d1 d2 d3 d4 d5 z0 z1 z2 z3 z4 z5 hw3 P2
        obtain ⟨d0, d1, d2, d3, d4, d5⟩ := cells6 P3.out.1.box
        obtain ⟨X1, hX1⟩ : ∃ X1 : Int → Option Tr, X1 = setX X q0 (tkO X k0 f0 t0 q0 y0 L).x := ⟨_, rfl⟩
        have KT : Hid (Calls Try.prog 16 #[.pointer (some ⟨b, 0, none⟩), .agg #[.int .i64 k0, .int .i64 f0, .int .i64 t0, .int .i64 q0, .bool y0, .slice a0 n' cp]] w3 fun e w' => ∃ V lg cl gn, e = .returned (sd V lg cl gn) ∧ Co w' F b (lim : Int) n m X1 ∧ Stp F F w3 w') := by
          obtain ⟨B3, hB3⟩ := P3.out.1.cd
          refine (take_is w3 F b (lim : Int) n m B3 X hB3 P3.out.2.1.1 k0 f0 t0 q0 a0 n' cp L HL.out.1 (HL.out.2.1.keep P3.out.1.bel) HL.out.2.2.1 HL.out.2.2.2.1 HL.out.2.2.2.2 y0).mono fun e w' ⟨V, Q, e1, _, _, c1, s1⟩ => ⟨V, _, _, _, e1, ?_, s1⟩
          rw [hX1]
          exact c1
        have TW : Hid (((tkO X1 k0 f0 t0 q0 y0 L).lg = 0 ∧ (tkO X1 k0 f0 t0 q0 y0 L).cl = 0 ∧ (tkO X1 k0 f0 t0 q0 y0 L).gn = 0 ∧ ((tkO X1 k0 f0 t0 q0 y0 L).to = [] ∨ (tkO X1 k0 f0 t0 q0 y0 L).to = [f0]) ∧ setX X1 q0 (tkO X1 k0 f0 t0 q0 y0 L).x = X1) ∧ GL (lim : Int) X1) := by
          obtain ⟨t1, t2, t3, t4, t5⟩ := tkO_twice X k0 f0 t0 q0 y0 L
          have t6 := P3.out.2.1.took k0 f0 t0 q0 y0 L
          rw [← hX1] at t1 t2 t3 t4 t5 t6
          refine ⟨⟨t1, t2, t3, t4, ?_⟩, t6⟩
          rw [t5]
          rw [hX1, setX_set]
        clear hX1
        go_wp2_with fail
        refine KT.out.mono ?_
        rintro e w4 ⟨V4, lg, cl, gn, rfl, c4, s4⟩
        have P4 : Hid (TwB w w4 F b (lim : Int) n m X1 #[.int .i64 k0, .int .i64 f0, .int .i64 t0, .int .i64 q0, .bool y0, .slice a0 n' cp] ∧ GL (lim : Int) X1 ∧ n ≤ 40) := ⟨P3.out.1.step s4 c4, TW.out.2, P3.out.2.2⟩
        clear c4 s4 KT P3 d0 d1 d2 d3 d4 d5
        unfold sd
        go_upto_region 22 with fail
        refine wp_region_noPanic ?_
        refine wp_region_held_drew (S := (fun W : World => Below w4.heap.size w4 W)) (by kernel_rfl) ?hSapa (fun hHeld => ?restapa)
        case hSapa => exact (Below.refl w4.heap.size w4).drew
        case restapa =>
          refine wpAnyH_take (i := 0) (v := .pointer (some ⟨b, 0, none⟩)) rfl (by kernel_rfl) (by kernel_rfl) (by kernel_rfl) (fun _ _ _ h => h) (Or.inl ⟨by kernel_rfl, ?hy0pa⟩) hHeld ?rest0pa
          case hy0pa => (intro w' hSw; (try dsimp only at hSw); go_simp; try with_reducible rfl)
          try simp only [Act.put, List.setIfInBounds_toArray, List.set_cons_zero, List.set_cons_succ, List.getElem_toArray, List.getElem_cons_zero, List.getElem_cons_succ]
          refine wpAnyH_take (i := 2) (v := .pointer (some ⟨b, 0, none⟩)) rfl (by kernel_rfl) (by kernel_rfl) (by kernel_rfl) (fun _ _ _ h => h) (Or.inl ⟨by kernel_rfl, ?hy2pa⟩) hHeld ?rest2pa
          case hy2pa => (intro w' hSw; (try dsimp only at hSw); go_simp; try with_reducible rfl)
          try simp only [Act.put, List.setIfInBounds_toArray, List.set_cons_zero, List.set_cons_succ, List.getElem_toArray, List.getElem_cons_zero, List.getElem_cons_succ]
          refine wpAnyH_take (i := 3) (v := .pointer (some ⟨w.heap.size, 3, none⟩)) rfl (by kernel_rfl) (by kernel_rfl) (by kernel_rfl) (fun _ _ _ h => h) (Or.inl ⟨by kernel_rfl, ?hy3pa⟩) hHeld ?rest3pa
          case hy3pa => (intro w' hSw; (try dsimp only at hSw); go_simp; try with_reducible rfl)
          try simp only [Act.put, List.setIfInBounds_toArray, List.set_cons_zero, List.set_cons_succ, List.getElem_toArray, List.getElem_cons_zero, List.getElem_cons_succ]
          refine wpAnyH_take (i := 4) (v := .int .i64 q0) rfl (by kernel_rfl) (by kernel_rfl) (by kernel_rfl) (fun _ _ _ h => h) (Or.inl ⟨by kernel_rfl, ?hy4pa⟩) hHeld ?rest4pa
          case hy4pa => (intro w' hSw; (try dsimp only at hSw); obtain ⟨d0, d1, d2, d3, d4, d5⟩ := cells6 ((hSw.block _ (lt_of_heapK P4.out.1.box)).trans P4.out.1.box); go_simp; try with_reducible rfl)
          try simp only [Act.put, List.setIfInBounds_toArray, List.set_cons_zero, List.set_cons_succ, List.getElem_toArray, List.getElem_cons_zero, List.getElem_cons_succ]
          refine wpAnyH_take (i := 6) (v := .pointer (some ⟨b, 0, none⟩)) rfl (by kernel_rfl) (by kernel_rfl) (by kernel_rfl) (fun _ _ _ h => h) (Or.inl ⟨by kernel_rfl, ?hy6pa⟩) hHeld ?rest6pa
          case hy6pa => (intro w' hSw; (try dsimp only at hSw); go_simp; try with_reducible rfl)
          try simp only [Act.put, List.setIfInBounds_toArray, List.set_cons_zero, List.set_cons_succ, List.getElem_toArray, List.getElem_cons_zero, List.getElem_cons_succ]
          refine wpAnyH_take (i := 7) (v := .pointer (some ⟨w.heap.size, 3, none⟩)) rfl (by kernel_rfl) (by kernel_rfl) (by kernel_rfl) (fun _ _ _ h => h) (Or.inl ⟨by kernel_rfl, ?hy7pa⟩) hHeld ?rest7pa
          case hy7pa => (intro w' hSw; (try dsimp only at hSw); go_simp; try with_reducible rfl)
          try simp only [Act.put, List.setIfInBounds_toArray, List.set_cons_zero, List.set_cons_succ, List.getElem_toArray, List.getElem_cons_zero, List.getElem_cons_succ]
          refine wpAnyH_take (i := 8) (v := .int .i64 q0) rfl (by kernel_rfl) (by kernel_rfl) (by kernel_rfl) (fun _ _ _ h => h) (Or.inl ⟨by kernel_rfl, ?hy8pa⟩) hHeld ?rest8pa
          case hy8pa => (intro w' hSw; (try dsimp only at hSw); obtain ⟨d0, d1, d2, d3, d4, d5⟩ := cells6 ((hSw.block _ (lt_of_heapK P4.out.1.box)).trans P4.out.1.box); go_simp; try with_reducible rfl)
          try simp only [Act.put, List.setIfInBounds_toArray, List.set_cons_zero, List.set_cons_succ, List.getElem_toArray, List.getElem_cons_zero, List.getElem_cons_succ]
          refine wpAnyH_ready (rs := [1]) (by kernel_rfl) (by simp) ?_
          refine AllReadyH.cons rfl (fun K hK => ?_) AllReadyH.nil
          go_simp
          obtain ⟨B4, hB4⟩ := P4.out.1.cd
          refine (opened_is _ F b (lim : Int) n m B4 X1 (hB4.keep (Below.refl w4.heap.size w4).drew) (by have := P4.out.2.2; omega)).mono ?_
          rintro e5 w5 ⟨V5, l5, rfl, o5, ol5, ln5, b5⟩
          have B5 : Hid (Below w4.heap.size w4 w5) := (Below.refl w4.heap.size w4).drew.trans b5
          obtain ⟨a5, k5, rfl, -⟩ := o5.slice
          obtain ⟨n5, hn5⟩ : ∃ n : Nat, n = l5.length := ⟨_, rfl⟩
          rw [← hn5] at o5
          rw [← hn5]
          have O5 : Hid (OwnZ w5 w4.heap.size (.slice a5 n5 k5) l5 ∧ OpL X1 l5 ∧ l5.length ≤ 40 ∧ l5.length = n5) := ⟨o5, ol5, by have := P4.out.2.2; omega, hn5.symm⟩
          clear o5 ol5 ln5 b5 hn5
          refine hK.out _ _ ?hS1pa (fun hHeld => ?rest1pa)
          case hS1pa => exact B5.out
          clear hK K
          try simp only [Act.put, List.setIfInBounds_toArray, List.set_cons_zero, List.set_cons_succ, List.getElem_toArray, List.getElem_cons_zero, List.getElem_cons_succ]
          refine wpAnyH_ready (rs := [5]) (by kernel_rfl) (by simp) ?_
          refine AllReadyH.cons rfl (fun K hK => ?_) AllReadyH.nil
          go_simp
          obtain ⟨st, hst⟩ : ∃ st, st = (X1 q0).elim 0 Tr.st := ⟨_, rfl⟩
          have KS : Hid (∀ W : World, Below w4.heap.size w4 W → Calls Try.prog 18 #[.pointer (some ⟨b, 0, none⟩), .int .i64 q0] W fun e w' => e = .returned (.int .i64 st) ∧ w' = W) := fun W hW => by
            rw [hst]
            exact state_is W F b (lim : Int) n m B4 X1 (hB4.keep hW) q0 HM.out.2.2.2.2
          refine (KS.out w5 B5.out).mono ?_
          rintro e6 w6 ⟨rfl, h6⟩
          subst h6
          have HST : Hid (st = (X1 q0).elim 0 Tr.st) := hst
          clear hst KS
          refine hK.out _ _ ?hS5pa (fun hHeld => ?rest5pa)
          case hS5pa => exact B5.out
          clear hK K
          try simp only [Act.put, List.setIfInBounds_toArray, List.set_cons_zero, List.set_cons_succ, List.getElem_toArray, List.getElem_cons_zero, List.getElem_cons_succ]
          refine wpAnyH_ready (rs := [9]) (by kernel_rfl) (by simp) ?_
          refine AllReadyH.cons rfl (fun K hK => ?_) AllReadyH.nil
          go_simp
          refine (lacks_is w6 F b (lim : Int) n m B4 X1 (hB4.keep B5.out) q0 HM.out.2.2.2.2 (fun x hx => Nat.le_trans (P4.out.2.1.1 q0 x hx).llen (by decide))).mono ?_
          rintro e7 w7 ⟨V7, rfl, o7, b7⟩
          obtain ⟨l7, hl7⟩ : ∃ l : List Int, l = (X1 q0).elim [] fun x => x.lk.map Prod.fst := ⟨_, rfl⟩
          rw [← hl7] at o7
          obtain ⟨a7, k7, rfl, -⟩ := o7.slice
          obtain ⟨n7, hn7⟩ : ∃ n : Nat, n = l7.length := ⟨_, rfl⟩
          rw [← hn7] at o7
          rw [← hn7]
          have O7 : Hid (OwnZ w7 w4.heap.size (.slice a7 n7 k7) l7 ∧ l7 = ((X1 q0).elim [] fun x => x.lk.map Prod.fst) ∧ l7.length ≤ 6 ∧ l7.length = n7 ∧ OwnZ w7 w4.heap.size (.slice a5 n5 k5) l5 ∧ Below w4.heap.size w4 w7) := by
            refine ⟨o7.base B5.out.size, hl7, ?_, hn7.symm, O5.out.1.keep b7, B5.out.trans (b7.mono B5.out.size)⟩
            rw [hl7]
            cases hx : X1 q0 with
            | none => exact Nat.zero_le _
            | some x => show (x.lk.map Prod.fst).length ≤ 6; rw [List.length_map]; exact (P4.out.2.1.1 q0 x hx).llen
          clear o7 hl7 hn7 b7 hB4
          refine hK.out _ _ ?hS9pa (fun hHeld => ?rest9pa)
          case hS9pa => exact O7.out.2.2.2.2.2
          clear hK K
          try simp only [Act.put, List.setIfInBounds_toArray, List.set_cons_zero, List.set_cons_succ, List.getElem_toArray, List.getElem_cons_zero, List.getElem_cons_succ]
          refine wpAnyH_take (i := 10) (v := .slice a5 n5 k5) rfl (by kernel_rfl) (by kernel_rfl) (by kernel_rfl) (fun _ _ _ h => h) (Or.inl ⟨by kernel_rfl, ?hy10pa⟩) hHeld ?rest10pa
          case hy10pa => (intro w' hSw; (try dsimp only at hSw); go_simp; try with_reducible rfl)
          try simp only [Act.put, List.setIfInBounds_toArray, List.set_cons_zero, List.set_cons_succ, List.getElem_toArray, List.getElem_cons_zero, List.getElem_cons_succ]
          refine wpAnyH_take (i := 11) (v := .int .i64 st) rfl (by kernel_rfl) (by kernel_rfl) (by kernel_rfl) (fun _ _ _ h => h) (Or.inl ⟨by kernel_rfl, ?hy11pa⟩) hHeld ?rest11pa
          case hy11pa => (intro w' hSw; (try dsimp only at hSw); go_simp; try with_reducible rfl)
          try simp only [Act.put, List.setIfInBounds_toArray, List.set_cons_zero, List.set_cons_succ, List.getElem_toArray, List.getElem_cons_zero, List.getElem_cons_succ]
          refine wpAnyH_take (i := 12) (v := .slice a7 n7 k7) rfl (by kernel_rfl) (by kernel_rfl) (by kernel_rfl) (fun _ _ _ h => h) (Or.inl ⟨by kernel_rfl, ?hy12pa⟩) hHeld ?rest12pa
          case hy12pa => (intro w' hSw; (try dsimp only at hSw); go_simp; try with_reducible rfl)
          try simp only [Act.put, List.setIfInBounds_toArray, List.set_cons_zero, List.set_cons_succ, List.getElem_toArray, List.getElem_cons_zero, List.getElem_cons_succ]
          refine wpAnyH_done (by kernel_rfl) ?_ _
          refine NoPanic.normal ?_
          have P7 : Hid (TwB w w7 F b (lim : Int) n m X1 #[.int .i64 k0, .int .i64 f0, .int .i64 t0, .int .i64 q0, .bool y0, .slice a0 n' cp]) := P4.out.1.keep O7.out.2.2.2.2.2
          obtain ⟨d0, d1, d2, d3, d4, d5⟩ := cells6 P7.out.box
          have KT2 : Hid (Calls Try.prog 16 #[.pointer (some ⟨b, 0, none⟩), .agg #[.int .i64 k0, .int .i64 f0, .int .i64 t0, .int .i64 q0, .bool y0, .slice a0 n' cp]] w7 fun e w' => ∃ va nv vc, e = .returned (sd (.slice va nv vc) 0 0 0) ∧ (nv = 0 ∨ nv = 1 ∧ ∃ mb off, va = some ⟨mb, off, none⟩ ∧ mb < w'.heap.size ∧ w'.cell? ⟨mb, off + 2, none⟩ = some (.int .i64 f0)) ∧ Co w' F b (lim : Int) n m X1 ∧ Stp F F w7 w') := by
            obtain ⟨B7, hB7⟩ := P7.out.cd
            refine (take_is w7 F b (lim : Int) n m B7 X1 hB7 P4.out.2.1.1 k0 f0 t0 q0 a0 n' cp L HL.out.1 (HL.out.2.1.keep P7.out.bel) HL.out.2.2.1 HL.out.2.2.2.1 HL.out.2.2.2.2 y0).mono fun e w' ⟨V, Q, e1, l1, q1, c1, s1⟩ => ?_
            obtain ⟨⟨t1, t2, t3, t4, t5⟩, -⟩ := TW.out
            rw [t1, t2, t3] at e1
            rw [t5] at c1
            obtain ⟨va, vc, rfl, m1, -⟩ := l1.own.slice
            refine ⟨va, _, vc, e1, ?_, c1, s1⟩
            rcases t4 with t4 | t4
            · rw [t4] at q1
              have h := congrArg List.length q1
              rw [List.length_map] at h
              exact .inl (by rw [List.length_map, h]; rfl)
            · rw [t4] at q1
              have h := congrArg List.length q1
              rw [List.length_map] at h
              have h1 : Q.length = 1 := h
              refine .inr ⟨by rw [List.length_map, h1], ?_⟩
              match Q, h1, q1, m1 with
              | [p], _, q1, m1 =>
                rcases m1 with m1 | ⟨mb, off, h2, h3, h4⟩
                · exact absurd m1 (by simp)
                · have h5 := h4 0 _ rfl
                  have hpr : p.r = f0 := by
                    have : [(p.r, p.co)] = [(f0, ([] : List Pc))] := q1
                    simp at this
                    exact this.1
                  refine ⟨mb, off, h2, h3, ?_⟩
                  have h6 : w'.cell? ⟨mb, off + 0 * 6 + 2, none⟩ = some (.int .i64 p.r) := h5.2.2.1
                  rw [← hpr]
                  simpa using h6
          go_wp2_with fail
          refine KT2.out.mono ?_
          rintro e w8 ⟨va, nv, vc, rfl, hnv, c8, s8⟩
          unfold sd
          have bS := below1 w8 (.cells #[.slice va nv vc, .int .i64 0, .int .i64 0, .int .i64 0] 46)
          have P9 : Hid (TwB w (w8.alloc (.cells #[.slice va nv vc, .int .i64 0, .int .i64 0, .int .i64 0] 46)) F b (lim : Int) n m X1 #[.int .i64 k0, .int .i64 f0, .int .i64 t0, .int .i64 q0, .bool y0, .slice a0 n' cp] ∧ OwnZ (w8.alloc (.cells #[.slice va nv vc, .int .i64 0, .int .i64 0, .int .i64 0] 46)) w4.heap.size (.slice a5 n5 k5) l5 ∧ OwnZ (w8.alloc (.cells #[.slice va nv vc, .int .i64 0, .int .i64 0, .int .i64 0] 46)) w4.heap.size (.slice a7 n7 k7) l7 ∧ (w8.alloc (.cells #[.slice va nv vc, .int .i64 0, .int .i64 0, .int .i64 0] 46)).heap[w8.heap.size]? = some (.cells #[.slice va nv vc, .int .i64 0, .int .i64 0, .int .i64 0] 46)) := by
            obtain ⟨B4, hB4⟩ := P4.out.1.cd
            have p8 : TwB w w8 F b (lim : Int) n m X1 #[.int .i64 k0, .int .i64 f0, .int .i64 t0, .int .i64 q0, .bool y0, .slice a0 n' cp] := P7.out.step s8 c8
            refine ⟨p8.keep bS, (O7.out.2.2.2.2.1.kept fun k hk => ?_).keep bS, (O7.out.1.kept fun k hk => ?_).keep bS, heap_alloc_new _ _⟩
            · obtain ⟨h1, h2⟩ := O7.out.2.2.2.2.1.own k hk
              exact s8.off.block k h2 (fun e => absurd (hB4.lt k e) (by omega))
            · obtain ⟨h1, h2⟩ := O7.out.1.own k hk
              exact s8.off.block k h2 (fun e => absurd (hB4.lt k e) (by omega))
          have hnv9 : nv = 0 ∨ nv = 1 ∧ ∃ mb off, va = some ⟨mb, off, none⟩ ∧ (w8.alloc (.cells #[.slice va nv vc, .int .i64 0, .int .i64 0, .int .i64 0] 46)).cell? ⟨mb, off + 2, none⟩ = some (.int .i64 f0) := by
            rcases hnv with h | ⟨h, mb, off, h1, h2, h3⟩
            · exact .inl h
            · exact .inr ⟨h, mb, off, h1, (bS.cell (p := ⟨mb, off + 2, none⟩) h2).trans h3⟩
          clear bS hnv c8 s8 KT2 P7 d0 d1 d2 d3 d4 d5
          go_upto_region 24 with fail
          generalize (w8.alloc (.cells #[.slice va nv vc, .int .i64 0, .int .i64 0, .int .i64 0] 46)) = w9 at *
          generalize w8.heap.size = zs at *
          obtain ⟨x0, x1, x2, x3⟩ := cells4 P9.out.2.2.2
          obtain ⟨d0, d1, d2, d3, d4, d5⟩ := cells6 P9.out.1.box
          have HN9 : Hid (∀ W : World, Below w9.heap.size w9 W → TwB w W F b (lim : Int) n m X1 #[.int .i64 k0, .int .i64 f0, .int .i64 t0, .int .i64 q0, .bool y0, .slice a0 n' cp] ∧ InZ W a5 l5 ∧ InZ W a7 l7) := fun W hW => by
            refine ⟨P9.out.1.keep hW, ?_, ?_⟩
            · obtain ⟨a', c', he, iz, -⟩ := (P9.out.2.1.keep hW).slice
              injection he with h1 h2 h3
              rw [h1]
              exact iz
            · obtain ⟨a', c', he, iz, -⟩ := (P9.out.2.2.1.keep hW).slice
              injection he with h1 h2 h3
              rw [h1]
              exact iz
          rcases hnv9 with rfl | ⟨rfl, mb, off, rfl, hmc⟩
          · go_quiet (fail)
            have b10 := below_drewN (Below.refl w9.heap.size w9) nq
            have Q10 : Hid (TwB w (w9.drewN nq) F b (lim : Int) n m X1 #[.int .i64 k0, .int .i64 f0, .int .i64 t0, .int .i64 q0, .bool y0, .slice a0 n' cp] ∧ InZ (w9.drewN nq) a5 l5 ∧ InZ (w9.drewN nq) a7 l7) := HN9.out _ b10
            clear b10 HN9 P9 x0 x1 x2 x3 d0 d1 d2 d3 d4 d5
            generalize w9.drewN nq = w10 at *
            obtain ⟨d0, d1, d2, d3, d4, d5⟩ := cells6 Q10.out.1.box
            have KO : Hid (Calls Try.prog 17 #[.pointer (some ⟨b, 0, none⟩)] w10 fun e w' => ∃ a c, e = .returned (.slice a n5 c) ∧ InZ w' a l5 ∧ Below w10.heap.size w10 w') := by
              obtain ⟨B9, hB9⟩ := Q10.out.1.cd
              refine (opened_is w10 F b (lim : Int) n m B9 X1 hB9 (by have := P4.out.2.2; omega)).mono fun e w' ⟨V, l, e1, o1, ol, _, b1⟩ => ?_
              obtain rfl := opl_uniq ol O5.out.2.1
              obtain ⟨a, c, rfl, iz, -⟩ := o1.slice
              rw [O5.out.2.2.2] at e1
              exact ⟨a, c, e1, iz, b1⟩
            go_wp2_with fail
            refine KO.out.mono ?_
            rintro e w11 ⟨a11, c11, rfl, i11, b11⟩
            have Q11 : Hid (TwB w w11 F b (lim : Int) n m X1 #[.int .i64 k0, .int .i64 f0, .int .i64 t0, .int .i64 q0, .bool y0, .slice a0 n' cp] ∧ InZ w11 a5 l5 ∧ InZ w11 a7 l7 ∧ InZ w11 a11 l5) := ⟨Q10.out.1.keep b11, Q10.out.2.1.keep b11, Q10.out.2.2.keep b11, i11⟩
            clear KO i11 b11 d0 d1 d2 d3 d4 d5 Q10
            obtain ⟨d0, d1, d2, d3, d4, d5⟩ := cells6 Q11.out.1.box
            go_wp2_with fail
            refine (samen_true w11 a11 a5 n5 c11 k5 l5 O5.out.2.2.2 Q11.out.2.2.2 Q11.out.2.1 (by have := O5.out.2.2.1; have := O5.out.2.2.2; omega)).mono ?_
            rintro e w12 ⟨rfl, b12⟩
            have Q12 : Hid (TwB w w12 F b (lim : Int) n m X1 #[.int .i64 k0, .int .i64 f0, .int .i64 t0, .int .i64 q0, .bool y0, .slice a0 n' cp] ∧ InZ w12 a7 l7) := ⟨Q11.out.1.keep b12, Q11.out.2.2.1.keep b12⟩
            clear b12 d0 d1 d2 d3 d4 d5 Q11
            obtain ⟨d0, d1, d2, d3, d4, d5⟩ := cells6 Q12.out.1.box
            have KS : Hid (Calls Try.prog 18 #[.pointer (some ⟨b, 0, none⟩), .int .i64 q0] w12 fun e w' => e = .returned (.int .i64 st) ∧ w' = w12) := by
              obtain ⟨B9, hB9⟩ := Q12.out.1.cd
              rw [HST.out]
              exact state_is w12 F b (lim : Int) n m B9 X1 hB9 q0 HM.out.2.2.2.2
            have est : (st == st) = true := by simp
            go_wp2_with fail
            refine KS.out.mono ?_
            rintro e w13 ⟨rfl, h13⟩
            obtain rfl := h13.symm
            clear h13 KS
            go_wp2_with fail
            have KL : Hid (Calls Try.prog 19 #[.pointer (some ⟨b, 0, none⟩), .int .i64 q0] w12 fun e w' => ∃ a c, e = .returned (.slice a n7 c) ∧ InZ w' a l7 ∧ Below w12.heap.size w12 w') := by
              obtain ⟨B9, hB9⟩ := Q12.out.1.cd
              refine (lacks_is w12 F b (lim : Int) n m B9 X1 hB9 q0 HM.out.2.2.2.2 (fun x hx => Nat.le_trans (P4.out.2.1.1 q0 x hx).llen (by decide))).mono fun e w' ⟨V, e1, o1, b1⟩ => ?_
              rw [← O7.out.2.1] at o1
              obtain ⟨a, c, rfl, iz, -⟩ := o1.slice
              rw [O7.out.2.2.2.1] at e1
              exact ⟨a, c, e1, iz, b1⟩
            refine KL.out.mono ?_
            rintro e w14 ⟨a14, c14, rfl, i14, b14⟩
            have Q14 : Hid (Below w.heap.size w w14 ∧ InZ w14 a7 l7 ∧ InZ w14 a14 l7) := ⟨Q12.out.1.bel.trans (b14.mono Q12.out.1.bel.size), Q12.out.2.keep b14, i14⟩
            clear KL i14 b14 d0 d1 d2 d3 d4 d5 est Q12
            go_wp2_with fail
            refine (samen_true w14 a14 a7 n7 c14 k7 l7 O7.out.2.2.2.1 Q14.out.2.2 Q14.out.2.1 (by have := O7.out.2.2.1; have := O7.out.2.2.2.1; omega)).mono ?_
            rintro e w15 ⟨rfl, b15⟩
            have Q15 : Hid (Below w.heap.size w w15) := Q14.out.1.trans (b15.mono Q14.out.1.size)
            clear b15 Q14
            go_wp2_with fail
            refine (works15_is _).mono ?_
            rintro e w16 ⟨rfl, b16⟩
            have Q16 : Hid (Below w.heap.size w w16) := Q15.out.trans (b16.mono Q15.out.size)
            clear b16
            go_wp2_with fail
            go_ret
            exact ⟨rfl, Q16.out⟩
          · go_quiet (fail)
            have b10 := below_drewN (Below.refl w9.heap.size w9) nq
            have Q10 : Hid (TwB w (w9.drewN nq) F b (lim : Int) n m X1 #[.int .i64 k0, .int .i64 f0, .int .i64 t0, .int .i64 q0, .bool y0, .slice a0 n' cp] ∧ InZ (w9.drewN nq) a5 l5 ∧ InZ (w9.drewN nq) a7 l7) := HN9.out _ b10
            clear b10 HN9 P9 x0 x1 x2 x3 d0 d1 d2 d3 d4 d5
            generalize w9.drewN nq = w10 at *
            obtain ⟨d0, d1, d2, d3, d4, d5⟩ := cells6 Q10.out.1.box
            have KO : Hid (Calls Try.prog 17 #[.pointer (some ⟨b, 0, none⟩)] w10 fun e w' => ∃ a c, e = .returned (.slice a n5 c) ∧ InZ w' a l5 ∧ Below w10.heap.size w10 w') := by
              obtain ⟨B9, hB9⟩ := Q10.out.1.cd
              refine (opened_is w10 F b (lim : Int) n m B9 X1 hB9 (by have := P4.out.2.2; omega)).mono fun e w' ⟨V, l, e1, o1, ol, _, b1⟩ => ?_
              obtain rfl := opl_uniq ol O5.out.2.1
              obtain ⟨a, c, rfl, iz, -⟩ := o1.slice
              rw [O5.out.2.2.2] at e1
              exact ⟨a, c, e1, iz, b1⟩
            go_wp2_with fail
            refine KO.out.mono ?_
            rintro e w11 ⟨a11, c11, rfl, i11, b11⟩
            have Q11 : Hid (TwB w w11 F b (lim : Int) n m X1 #[.int .i64 k0, .int .i64 f0, .int .i64 t0, .int .i64 q0, .bool y0, .slice a0 n' cp] ∧ InZ w11 a5 l5 ∧ InZ w11 a7 l7 ∧ InZ w11 a11 l5) := ⟨Q10.out.1.keep b11, Q10.out.2.1.keep b11, Q10.out.2.2.keep b11, i11⟩
            clear KO i11 b11 d0 d1 d2 d3 d4 d5 Q10
            obtain ⟨d0, d1, d2, d3, d4, d5⟩ := cells6 Q11.out.1.box
            go_wp2_with fail
            refine (samen_true w11 a11 a5 n5 c11 k5 l5 O5.out.2.2.2 Q11.out.2.2.2 Q11.out.2.1 (by have := O5.out.2.2.1; have := O5.out.2.2.2; omega)).mono ?_
            rintro e w12 ⟨rfl, b12⟩
            have Q12 : Hid (TwB w w12 F b (lim : Int) n m X1 #[.int .i64 k0, .int .i64 f0, .int .i64 t0, .int .i64 q0, .bool y0, .slice a0 n' cp] ∧ InZ w12 a7 l7) := ⟨Q11.out.1.keep b12, Q11.out.2.2.1.keep b12⟩
            clear b12 d0 d1 d2 d3 d4 d5 Q11
            obtain ⟨d0, d1, d2, d3, d4, d5⟩ := cells6 Q12.out.1.box
            have KS : Hid (Calls Try.prog 18 #[.pointer (some ⟨b, 0, none⟩), .int .i64 q0] w12 fun e w' => e = .returned (.int .i64 st) ∧ w' = w12) := by
              obtain ⟨B9, hB9⟩ := Q12.out.1.cd
              rw [HST.out]
              exact state_is w12 F b (lim : Int) n m B9 X1 hB9 q0 HM.out.2.2.2.2
            have est : (st == st) = true := by simp
            go_wp2_with fail
            refine KS.out.mono ?_
            rintro e w13 ⟨rfl, h13⟩
            obtain rfl := h13.symm
            clear h13 KS
            go_wp2_with fail
            have KL : Hid (Calls Try.prog 19 #[.pointer (some ⟨b, 0, none⟩), .int .i64 q0] w12 fun e w' => ∃ a c, e = .returned (.slice a n7 c) ∧ InZ w' a l7 ∧ Below w12.heap.size w12 w') := by
              obtain ⟨B9, hB9⟩ := Q12.out.1.cd
              refine (lacks_is w12 F b (lim : Int) n m B9 X1 hB9 q0 HM.out.2.2.2.2 (fun x hx => Nat.le_trans (P4.out.2.1.1 q0 x hx).llen (by decide))).mono fun e w' ⟨V, e1, o1, b1⟩ => ?_
              rw [← O7.out.2.1] at o1
              obtain ⟨a, c, rfl, iz, -⟩ := o1.slice
              rw [O7.out.2.2.2.1] at e1
              exact ⟨a, c, e1, iz, b1⟩
            refine KL.out.mono ?_
            rintro e w14 ⟨a14, c14, rfl, i14, b14⟩
            have Q14 : Hid (Below w.heap.size w w14 ∧ InZ w14 a7 l7 ∧ InZ w14 a14 l7) := ⟨Q12.out.1.bel.trans (b14.mono Q12.out.1.bel.size), Q12.out.2.keep b14, i14⟩
            clear KL i14 b14 d0 d1 d2 d3 d4 d5 est Q12
            go_wp2_with fail
            refine (samen_true w14 a14 a7 n7 c14 k7 l7 O7.out.2.2.2.1 Q14.out.2.2 Q14.out.2.1 (by have := O7.out.2.2.1; have := O7.out.2.2.2.1; omega)).mono ?_
            rintro e w15 ⟨rfl, b15⟩
            have Q15 : Hid (Below w.heap.size w w15) := Q14.out.1.trans (b15.mono Q14.out.1.size)
            clear b15 Q14
            go_wp2_with fail
            refine (works15_is _).mono ?_
            rintro e w16 ⟨rfl, b16⟩
            have Q16 : Hid (Below w.heap.size w w16) := Q15.out.trans (b16.mono Q15.out.size)
            clear b16
            go_wp2_with fail
            go_ret
            exact ⟨rfl, Q16.out⟩
      · have t1 : decide ((j : Int) < (len : Int)) = false := by rw [decide_eq_false_iff_not]; omega
        have t3 : decide (j < len) = false := by rw [decide_eq_false_iff_not]; omega
        clear hl1 hlt RW R1
        obtain ⟨F, n, X, h1, h2, h3⟩ := HX.out.1
        have P1 : Hid (TwB w wr F b (lim : Int) n m X #[.int .i64 k0, .int .i64 f0, .int .i64 t0, .int .i64 q0, .bool y0, .slice a0 n0 cp] ∧ GL (lim : Int) X ∧ n ≤ 40) := ⟨h3, h2, by have := HX.out.2; omega⟩
        clear h1 h2 h3 HX
        obtain ⟨d0, d1, d2, d3, d4, d5⟩ := cells6 P1.out.1.box
        go_wp2_with fail
        refine (short_is _ k0 f0 t0 q0 y0 a0 n0 cp HM.out.2.2.1).mono ?_
        rintro e w2 ⟨rfl, b2⟩
        have P2 : Hid (TwB w w2 F b (lim : Int) n m X #[.int .i64 k0, .int .i64 f0, .int .i64 t0, .int .i64 q0, .bool y0, .slice a0 n0 cp] ∧ GL (lim : Int) X ∧ n ≤ 40) := ⟨P1.out.1.keep b2, P1.out.2⟩
        clear b2 d0 d1 d2 d3 d4 d5 P1
        obtain ⟨n', hn'⟩ : ∃ n' : Nat, n' = min n0 3 := ⟨_, rfl⟩
        rw [← hn']
        obtain ⟨L, hL⟩ : ∃ L, L = L0.take 3 := ⟨_, rfl⟩
        have HL : Hid (L.length = n' ∧ InPk w a0 L ∧ n' ≤ cp ∧ cp ≤ 9223372036854775807 ∧ n' ≤ 1000000) := by
          have h1 : L.length = n' := by rw [hL, List.length_take, HM.out.2.1, hn']; omega
          exact ⟨h1, by rw [hL]; exact HM.out.1.take 3, by have := HM.out.2.2.1; omega, HM.out.2.2.2.1, by omega⟩
        clear hn' hL
        obtain ⟨d0, d1, d2, d3, d4, d5⟩ := cells6 P2.out.1.box
        have z0 := frozen_blk P2.out.1.box 0
        have z1 := frozen_blk P2.out.1.box 1
        have z2 := frozen_blk P2.out.1.box 2
        have z3 := frozen_blk P2.out.1.box 3
        have z4 := frozen_blk P2.out.1.box 4
        have z5 := frozen_blk P2.out.1.box 5
        obtain ⟨g1, g2⟩ := chain6 (a' := .int .i64 k0) (b' := .int .i64 f0) (c' := .int .i64 t0) (d' := .int .i64 q0) (e' := .bool y0) (f' := .slice a0 n' cp) P2.out.1.box
        go_upto_region 21 with fail
        generalize hw3 : (((((w2.setCell ⟨w.heap.size, 0, none⟩ (.int .i64 k0)).setCell ⟨w.heap.size, 1, none⟩ (.int .i64 f0)).setCell ⟨w.heap.size, 2, none⟩ (.int .i64 t0)).setCell ⟨w.heap.size, 3, none⟩ (.int .i64 q0)).setCell ⟨w.heap.size, 4, none⟩ (.bool y0)).setCell ⟨w.heap.size, 5, none⟩ (.slice a0 n' cp) = w3 at *
        have P3 : Hid (TwB w w3 F b (lim : Int) n m X #[.int .i64 k0, .int .i64 f0, .int .i64 t0, .int .i64 q0, .bool y0, .slice a0 n' cp] ∧ GL (lim : Int) X ∧ n ≤ 40) := ⟨P2.out.1.put g2 g1, P2.out.2⟩
        clear g1 g2 d0 d1 d2 d3 d4 d5 z0 z1 z2 z3 z4 z5 hw3 P2
        obtain ⟨d0, d1, d2, d3, d4, d5⟩ := cells6 P3.out.1.box
        obtain ⟨X1, hX1⟩ : ∃ X1 : Int → Option Tr, X1 = setX X q0 (tkO X k0 f0 t0 q0 y0 L).x := ⟨_, rfl⟩
        have KT : Hid (Calls Try.prog 16 #[.pointer (some ⟨b, 0, none⟩), .agg #[.int .i64 k0, .int .i64 f0, .int .i64 t0, .int .i64 q0, .bool y0, .slice a0 n' cp]] w3 fun e w' => ∃ V lg cl gn, e = .returned (sd V lg cl gn) ∧ Co w' F b (lim : Int) n m X1 ∧ Stp F F w3 w') := by
          obtain ⟨B3, hB3⟩ := P3.out.1.cd
          refine (take_is w3 F b (lim : Int) n m B3 X hB3 P3.out.2.1.1 k0 f0 t0 q0 a0 n' cp L HL.out.1 (HL.out.2.1.keep P3.out.1.bel) HL.out.2.2.1 HL.out.2.2.2.1 HL.out.2.2.2.2 y0).mono fun e w' ⟨V, Q, e1, _, _, c1, s1⟩ => ⟨V, _, _, _, e1, ?_, s1⟩
          rw [hX1]
          exact c1
        have TW : Hid (((tkO X1 k0 f0 t0 q0 y0 L).lg = 0 ∧ (tkO X1 k0 f0 t0 q0 y0 L).cl = 0 ∧ (tkO X1 k0 f0 t0 q0 y0 L).gn = 0 ∧ ((tkO X1 k0 f0 t0 q0 y0 L).to = [] ∨ (tkO X1 k0 f0 t0 q0 y0 L).to = [f0]) ∧ setX X1 q0 (tkO X1 k0 f0 t0 q0 y0 L).x = X1) ∧ GL (lim : Int) X1) := by
          obtain ⟨t1, t2, t3, t4, t5⟩ := tkO_twice X k0 f0 t0 q0 y0 L
          have t6 := P3.out.2.1.took k0 f0 t0 q0 y0 L
          rw [← hX1] at t1 t2 t3 t4 t5 t6
          refine ⟨⟨t1, t2, t3, t4, ?_⟩, t6⟩
          rw [t5]
          rw [hX1, setX_set]
        clear hX1
        go_wp2_with fail
        refine KT.out.mono ?_
        rintro e w4 ⟨V4, lg, cl, gn, rfl, c4, s4⟩
        have P4 : Hid (TwB w w4 F b (lim : Int) n m X1 #[.int .i64 k0, .int .i64 f0, .int .i64 t0, .int .i64 q0, .bool y0, .slice a0 n' cp] ∧ GL (lim : Int) X1 ∧ n ≤ 40) := ⟨P3.out.1.step s4 c4, TW.out.2, P3.out.2.2⟩
        clear c4 s4 KT P3 d0 d1 d2 d3 d4 d5
        unfold sd
        go_upto_region 22 with fail
        refine wp_region_noPanic ?_
        refine wp_region_held_drew (S := (fun W : World => Below w4.heap.size w4 W)) (by kernel_rfl) ?hSapb (fun hHeld => ?restapb)
        case hSapb => exact (Below.refl w4.heap.size w4).drew
        case restapb =>
          refine wpAnyH_take (i := 0) (v := .pointer (some ⟨b, 0, none⟩)) rfl (by kernel_rfl) (by kernel_rfl) (by kernel_rfl) (fun _ _ _ h => h) (Or.inl ⟨by kernel_rfl, ?hy0pb⟩) hHeld ?rest0pb
          case hy0pb => (intro w' hSw; (try dsimp only at hSw); go_simp; try with_reducible rfl)
          try simp only [Act.put, List.setIfInBounds_toArray, List.set_cons_zero, List.set_cons_succ, List.getElem_toArray, List.getElem_cons_zero, List.getElem_cons_succ]
          refine wpAnyH_take (i := 2) (v := .pointer (some ⟨b, 0, none⟩)) rfl (by kernel_rfl) (by kernel_rfl) (by kernel_rfl) (fun _ _ _ h => h) (Or.inl ⟨by kernel_rfl, ?hy2pb⟩) hHeld ?rest2pb
          case hy2pb => (intro w' hSw; (try dsimp only at hSw); go_simp; try with_reducible rfl)
          try simp only [Act.put, List.setIfInBounds_toArray, List.set_cons_zero, List.set_cons_succ, List.getElem_toArray, List.getElem_cons_zero, List.getElem_cons_succ]
          refine wpAnyH_take (i := 3) (v := .pointer (some ⟨w.heap.size, 3, none⟩)) rfl (by kernel_rfl) (by kernel_rfl) (by kernel_rfl) (fun _ _ _ h => h) (Or.inl ⟨by kernel_rfl, ?hy3pb⟩) hHeld ?rest3pb
          case hy3pb => (intro w' hSw; (try dsimp only at hSw); go_simp; try with_reducible rfl)
          try simp only [Act.put, List.setIfInBounds_toArray, List.set_cons_zero, List.set_cons_succ, List.getElem_toArray, List.getElem_cons_zero, List.getElem_cons_succ]
          refine wpAnyH_take (i := 4) (v := .int .i64 q0) rfl (by kernel_rfl) (by kernel_rfl) (by kernel_rfl) (fun _ _ _ h => h) (Or.inl ⟨by kernel_rfl, ?hy4pb⟩) hHeld ?rest4pb
          case hy4pb => (intro w' hSw; (try dsimp only at hSw); obtain ⟨d0, d1, d2, d3, d4, d5⟩ := cells6 ((hSw.block _ (lt_of_heapK P4.out.1.box)).trans P4.out.1.box); go_simp; try with_reducible rfl)
          try simp only [Act.put, List.setIfInBounds_toArray, List.set_cons_zero, List.set_cons_succ, List.getElem_toArray, List.getElem_cons_zero, List.getElem_cons_succ]
          refine wpAnyH_take (i := 6) (v := .pointer (some ⟨b, 0, none⟩)) rfl (by kernel_rfl) (by kernel_rfl) (by kernel_rfl) (fun _ _ _ h => h) (Or.inl ⟨by kernel_rfl, ?hy6pb⟩) hHeld ?rest6pb
          case hy6pb => (intro w' hSw; (try dsimp only at hSw); go_simp; try with_reducible rfl)
          try simp only [Act.put, List.setIfInBounds_toArray, List.set_cons_zero, List.set_cons_succ, List.getElem_toArray, List.getElem_cons_zero, List.getElem_cons_succ]
          refine wpAnyH_take (i := 7) (v := .pointer (some ⟨w.heap.size, 3, none⟩)) rfl (by kernel_rfl) (by kernel_rfl) (by kernel_rfl) (fun _ _ _ h => h) (Or.inl ⟨by kernel_rfl, ?hy7pb⟩) hHeld ?rest7pb
          case hy7pb => (intro w' hSw; (try dsimp only at hSw); go_simp; try with_reducible rfl)
          try simp only [Act.put, List.setIfInBounds_toArray, List.set_cons_zero, List.set_cons_succ, List.getElem_toArray, List.getElem_cons_zero, List.getElem_cons_succ]
          refine wpAnyH_take (i := 8) (v := .int .i64 q0) rfl (by kernel_rfl) (by kernel_rfl) (by kernel_rfl) (fun _ _ _ h => h) (Or.inl ⟨by kernel_rfl, ?hy8pb⟩) hHeld ?rest8pb
          case hy8pb => (intro w' hSw; (try dsimp only at hSw); obtain ⟨d0, d1, d2, d3, d4, d5⟩ := cells6 ((hSw.block _ (lt_of_heapK P4.out.1.box)).trans P4.out.1.box); go_simp; try with_reducible rfl)
          try simp only [Act.put, List.setIfInBounds_toArray, List.set_cons_zero, List.set_cons_succ, List.getElem_toArray, List.getElem_cons_zero, List.getElem_cons_succ]
          refine wpAnyH_ready (rs := [1]) (by kernel_rfl) (by simp) ?_
          refine AllReadyH.cons rfl (fun K hK => ?_) AllReadyH.nil
          go_simp
          obtain ⟨B4, hB4⟩ := P4.out.1.cd
          refine (opened_is _ F b (lim : Int) n m B4 X1 (hB4.keep (Below.refl w4.heap.size w4).drew) (by have := P4.out.2.2; omega)).mono ?_
          rintro e5 w5 ⟨V5, l5, rfl, o5, ol5, ln5, b5⟩
          have B5 : Hid (Below w4.heap.size w4 w5) := (Below.refl w4.heap.size w4).drew.trans b5
          obtain ⟨a5, k5, rfl, -⟩ := o5.slice
          obtain ⟨n5, hn5⟩ : ∃ n : Nat, n = l5.length := ⟨_, rfl⟩
          rw [← hn5] at o5
          rw [← hn5]
          have O5 : Hid (OwnZ w5 w4.heap.size (.slice a5 n5 k5) l5 ∧ OpL X1 l5 ∧ l5.length ≤ 40 ∧ l5.length = n5) := ⟨o5, ol5, by have := P4.out.2.2; omega, hn5.symm⟩
          clear o5 ol5 ln5 b5 hn5
          refine hK.out _ _ ?hS1pb (fun hHeld => ?rest1pb)
          case hS1pb => exact B5.out
          clear hK K
          try simp only [Act.put, List.setIfInBounds_toArray, List.set_cons_zero, List.set_cons_succ, List.getElem_toArray, List.getElem_cons_zero, List.getElem_cons_succ]
          refine wpAnyH_ready (rs := [5]) (by kernel_rfl) (by simp) ?_
          refine AllReadyH.cons rfl (fun K hK => ?_) AllReadyH.nil
          go_simp
          obtain ⟨st, hst⟩ : ∃ st, st = (X1 q0).elim 0 Tr.st := ⟨_, rfl⟩
          have KS : Hid (∀ W : World, Below w4.heap.size w4 W → Calls Try.prog 18 #[.pointer (some ⟨b, 0, none⟩), .int .i64 q0] W fun e w' => e = .returned (.int .i64 st) ∧ w' = W) := fun W hW => by
            rw [hst]
            exact state_is W F b (lim : Int) n m B4 X1 (hB4.keep hW) q0 HM.out.2.2.2.2
          refine (KS.out w5 B5.out).mono ?_
          rintro e6 w6 ⟨rfl, h6⟩
          subst h6
          have HST : Hid (st = (X1 q0).elim 0 Tr.st) := hst
          clear hst KS
          refine hK.out _ _ ?hS5pb (fun hHeld => ?rest5pb)
          case hS5pb => exact B5.out
          clear hK K
          try simp only [Act.put, List.setIfInBounds_toArray, List.set_cons_zero, List.set_cons_succ, List.getElem_toArray, List.getElem_cons_zero, List.getElem_cons_succ]
          refine wpAnyH_ready (rs := [9]) (by kernel_rfl) (by simp) ?_
          refine AllReadyH.cons rfl (fun K hK => ?_) AllReadyH.nil
          go_simp
          refine (lacks_is w6 F b (lim : Int) n m B4 X1 (hB4.keep B5.out) q0 HM.out.2.2.2.2 (fun x hx => Nat.le_trans (P4.out.2.1.1 q0 x hx).llen (by decide))).mono ?_
          rintro e7 w7 ⟨V7, rfl, o7, b7⟩
          obtain ⟨l7, hl7⟩ : ∃ l : List Int, l = (X1 q0).elim [] fun x => x.lk.map Prod.fst := ⟨_, rfl⟩
          rw [← hl7] at o7
          obtain ⟨a7, k7, rfl, -⟩ := o7.slice
          obtain ⟨n7, hn7⟩ : ∃ n : Nat, n = l7.length := ⟨_, rfl⟩
          rw [← hn7] at o7
          rw [← hn7]
          have O7 : Hid (OwnZ w7 w4.heap.size (.slice a7 n7 k7) l7 ∧ l7 = ((X1 q0).elim [] fun x => x.lk.map Prod.fst) ∧ l7.length ≤ 6 ∧ l7.length = n7 ∧ OwnZ w7 w4.heap.size (.slice a5 n5 k5) l5 ∧ Below w4.heap.size w4 w7) := by
            refine ⟨o7.base B5.out.size, hl7, ?_, hn7.symm, O5.out.1.keep b7, B5.out.trans (b7.mono B5.out.size)⟩
            rw [hl7]
            cases hx : X1 q0 with
            | none => exact Nat.zero_le _
            | some x => show (x.lk.map Prod.fst).length ≤ 6; rw [List.length_map]; exact (P4.out.2.1.1 q0 x hx).llen
          clear o7 hl7 hn7 b7 hB4
          refine hK.out _ _ ?hS9pb (fun hHeld => ?rest9pb)
          case hS9pb => exact O7.out.2.2.2.2.2
          clear hK K
          try simp only [Act.put, List.setIfInBounds_toArray, List.set_cons_zero, List.set_cons_succ, List.getElem_toArray, List.getElem_cons_zero, List.getElem_cons_succ]
          refine wpAnyH_take (i := 10) (v := .slice a5 n5 k5) rfl (by kernel_rfl) (by kernel_rfl) (by kernel_rfl) (fun _ _ _ h => h) (Or.inl ⟨by kernel_rfl, ?hy10pb⟩) hHeld ?rest10pb
          case hy10pb => (intro w' hSw; (try dsimp only at hSw); go_simp; try with_reducible rfl)
          try simp only [Act.put, List.setIfInBounds_toArray, List.set_cons_zero, List.set_cons_succ, List.getElem_toArray, List.getElem_cons_zero, List.getElem_cons_succ]
          refine wpAnyH_take (i := 11) (v := .int .i64 st) rfl (by kernel_rfl) (by kernel_rfl) (by kernel_rfl) (fun _ _ _ h => h) (Or.inl ⟨by kernel_rfl, ?hy11pb⟩) hHeld ?rest11pb
          case hy11pb => (intro w' hSw; (try dsimp only at hSw); go_simp; try with_reducible rfl)
          try simp only [Act.put, List.setIfInBounds_toArray, List.set_cons_zero, List.set_cons_succ, List.getElem_toArray, List.getElem_cons_zero, List.getElem_cons_succ]
          refine wpAnyH_take (i := 12) (v := .slice a7 n7 k7) rfl (by kernel_rfl) (by kernel_rfl) (by kernel_rfl) (fun _ _ _ h => h) (Or.inl ⟨by kernel_rfl, ?hy12pb⟩) hHeld ?rest12pb
          case hy12pb => (intro w' hSw; (try dsimp only at hSw); go_simp; try with_reducible rfl)
          try simp only [Act.put, List.setIfInBounds_toArray, List.set_cons_zero, List.set_cons_succ, List.getElem_toArray, List.getElem_cons_zero, List.getElem_cons_succ]
          refine wpAnyH_done (by kernel_rfl) ?_ _
          refine NoPanic.normal ?_
          have P7 : Hid (TwB w w7 F b (lim : Int) n m X1 #[.int .i64 k0, .int .i64 f0, .int .i64 t0, .int .i64 q0, .bool y0, .slice a0 n' cp]) := P4.out.1.keep O7.out.2.2.2.2.2
          obtain ⟨d0, d1, d2, d3, d4, d5⟩ := cells6 P7.out.box
          have KT2 : Hid (Calls Try.prog 16 #[.pointer (some ⟨b, 0, none⟩), .agg #[.int .i64 k0, .int .i64 f0, .int .i64 t0, .int .i64 q0, .bool y0, .slice a0 n' cp]] w7 fun e w' => ∃ va nv vc, e = .returned (sd (.slice va nv vc) 0 0 0) ∧ (nv = 0 ∨ nv = 1 ∧ ∃ mb off, va = some ⟨mb, off, none⟩ ∧ mb < w'.heap.size ∧ w'.cell? ⟨mb, off + 2, none⟩ = some (.int .i64 f0)) ∧ Co w' F b (lim : Int) n m X1 ∧ Stp F F w7 w') := by
            obtain ⟨B7, hB7⟩ := P7.out.cd
            refine (take_is w7 F b (lim : Int) n m B7 X1 hB7 P4.out.2.1.1 k0 f0 t0 q0 a0 n' cp L HL.out.1 (HL.out.2.1.keep P7.out.bel) HL.out.2.2.1 HL.out.2.2.2.1 HL.out.2.2.2.2 y0).mono fun e w' ⟨V, Q, e1, l1, q1, c1, s1⟩ => ?_
            obtain ⟨⟨t1, t2, t3, t4, t5⟩, -⟩ := TW.out
            rw [t1, t2, t3] at e1
            rw [t5] at c1
            obtain ⟨va, vc, rfl, m1, -⟩ := l1.own.slice
            refine ⟨va, _, vc, e1, ?_, c1, s1⟩
            rcases t4 with t4 | t4
            · rw [t4] at q1
              have h := congrArg List.length q1
              rw [List.length_map] at h
              exact .inl (by rw [List.length_map, h]; rfl)
            · rw [t4] at q1
              have h := congrArg List.length q1
              rw [List.length_map] at h
              have h1 : Q.length = 1 := h
              refine .inr ⟨by rw [List.length_map, h1], ?_⟩
              match Q, h1, q1, m1 with
              | [p], _, q1, m1 =>
                rcases m1 with m1 | ⟨mb, off, h2, h3, h4⟩
                · exact absurd m1 (by simp)
                · have h5 := h4 0 _ rfl
                  have hpr : p.r = f0 := by
                    have : [(p.r, p.co)] = [(f0, ([] : List Pc))] := q1
                    simp at this
                    exact this.1
                  refine ⟨mb, off, h2, h3, ?_⟩
                  have h6 : w'.cell? ⟨mb, off + 0 * 6 + 2, none⟩ = some (.int .i64 p.r) := h5.2.2.1
                  rw [← hpr]
                  simpa using h6
          go_wp2_with fail
          refine KT2.out.mono ?_
          rintro e w8 ⟨va, nv, vc, rfl, hnv, c8, s8⟩
          unfold sd
          have bS := below1 w8 (.cells #[.slice va nv vc, .int .i64 0, .int .i64 0, .int .i64 0] 46)
          have P9 : Hid (TwB w (w8.alloc (.cells #[.slice va nv vc, .int .i64 0, .int .i64 0, .int .i64 0] 46)) F b (lim : Int) n m X1 #[.int .i64 k0, .int .i64 f0, .int .i64 t0, .int .i64 q0, .bool y0, .slice a0 n' cp] ∧ OwnZ (w8.alloc (.cells #[.slice va nv vc, .int .i64 0, .int .i64 0, .int .i64 0] 46)) w4.heap.size (.slice a5 n5 k5) l5 ∧ OwnZ (w8.alloc (.cells #[.slice va nv vc, .int .i64 0, .int .i64 0, .int .i64 0] 46)) w4.heap.size (.slice a7 n7 k7) l7 ∧ (w8.alloc (.cells #[.slice va nv vc, .int .i64 0, .int .i64 0, .int .i64 0] 46)).heap[w8.heap.size]? = some (.cells #[.slice va nv vc, .int .i64 0, .int .i64 0, .int .i64 0] 46)) := by
            obtain ⟨B4, hB4⟩ := P4.out.1.cd
            have p8 : TwB w w8 F b (lim : Int) n m X1 #[.int .i64 k0, .int .i64 f0, .int .i64 t0, .int .i64 q0, .bool y0, .slice a0 n' cp] := P7.out.step s8 c8
            refine ⟨p8.keep bS, (O7.out.2.2.2.2.1.kept fun k hk => ?_).keep bS, (O7.out.1.kept fun k hk => ?_).keep bS, heap_alloc_new _ _⟩
            · obtain ⟨h1, h2⟩ := O7.out.2.2.2.2.1.own k hk
              exact s8.off.block k h2 (fun e => absurd (hB4.lt k e) (by omega))
            · obtain ⟨h1, h2⟩ := O7.out.1.own k hk
              exact s8.off.block k h2 (fun e => absurd (hB4.lt k e) (by omega))
          have hnv9 : nv = 0 ∨ nv = 1 ∧ ∃ mb off, va = some ⟨mb, off, none⟩ ∧ (w8.alloc (.cells #[.slice va nv vc, .int .i64 0, .int .i64 0, .int .i64 0] 46)).cell? ⟨mb, off + 2, none⟩ = some (.int .i64 f0) := by
            rcases hnv with h | ⟨h, mb, off, h1, h2, h3⟩
            · exact .inl h
            · exact .inr ⟨h, mb, off, h1, (bS.cell (p := ⟨mb, off + 2, none⟩) h2).trans h3⟩
          clear bS hnv c8 s8 KT2 P7 d0 d1 d2 d3 d4 d5
          go_upto_region 24 with fail
          generalize (w8.alloc (.cells #[.slice va nv vc, .int .i64 0, .int .i64 0, .int .i64 0] 46)) = w9 at *
          generalize w8.heap.size = zs at *
          obtain ⟨x0, x1, x2, x3⟩ := cells4 P9.out.2.2.2
          obtain ⟨d0, d1, d2, d3, d4, d5⟩ := cells6 P9.out.1.box
          have HN9 : Hid (∀ W : World, Below w9.heap.size w9 W → TwB w W F b (lim : Int) n m X1 #[.int .i64 k0, .int .i64 f0, .int .i64 t0, .int .i64 q0, .bool y0, .slice a0 n' cp] ∧ InZ W a5 l5 ∧ InZ W a7 l7) := fun W hW => by
            refine ⟨P9.out.1.keep hW, ?_, ?_⟩
            · obtain ⟨a', c', he, iz, -⟩ := (P9.out.2.1.keep hW).slice
              injection he with h1 h2 h3
              rw [h1]
              exact iz
            · obtain ⟨a', c', he, iz, -⟩ := (P9.out.2.2.1.keep hW).slice
              injection he with h1 h2 h3
              rw [h1]
              exact iz
          rcases hnv9 with rfl | ⟨rfl, mb, off, rfl, hmc⟩
          · go_quiet (fail)
            have b10 := below_drewN (Below.refl w9.heap.size w9) nq
            have Q10 : Hid (TwB w (w9.drewN nq) F b (lim : Int) n m X1 #[.int .i64 k0, .int .i64 f0, .int .i64 t0, .int .i64 q0, .bool y0, .slice a0 n' cp] ∧ InZ (w9.drewN nq) a5 l5 ∧ InZ (w9.drewN nq) a7 l7) := HN9.out _ b10
            clear b10 HN9 P9 x0 x1 x2 x3 d0 d1 d2 d3 d4 d5
            generalize w9.drewN nq = w10 at *
            obtain ⟨d0, d1, d2, d3, d4, d5⟩ := cells6 Q10.out.1.box
            have KO : Hid (Calls Try.prog 17 #[.pointer (some ⟨b, 0, none⟩)] w10 fun e w' => ∃ a c, e = .returned (.slice a n5 c) ∧ InZ w' a l5 ∧ Below w10.heap.size w10 w') := by
              obtain ⟨B9, hB9⟩ := Q10.out.1.cd
              refine (opened_is w10 F b (lim : Int) n m B9 X1 hB9 (by have := P4.out.2.2; omega)).mono fun e w' ⟨V, l, e1, o1, ol, _, b1⟩ => ?_
              obtain rfl := opl_uniq ol O5.out.2.1
              obtain ⟨a, c, rfl, iz, -⟩ := o1.slice
              rw [O5.out.2.2.2] at e1
              exact ⟨a, c, e1, iz, b1⟩
            go_wp2_with fail
            refine KO.out.mono ?_
            rintro e w11 ⟨a11, c11, rfl, i11, b11⟩
            have Q11 : Hid (TwB w w11 F b (lim : Int) n m X1 #[.int .i64 k0, .int .i64 f0, .int .i64 t0, .int .i64 q0, .bool y0, .slice a0 n' cp] ∧ InZ w11 a5 l5 ∧ InZ w11 a7 l7 ∧ InZ w11 a11 l5) := ⟨Q10.out.1.keep b11, Q10.out.2.1.keep b11, Q10.out.2.2.keep b11, i11⟩
            clear KO i11 b11 d0 d1 d2 d3 d4 d5 Q10
            obtain ⟨d0, d1, d2, d3, d4, d5⟩ := cells6 Q11.out.1.box
            go_wp2_with fail
            refine (samen_true w11 a11 a5 n5 c11 k5 l5 O5.out.2.2.2 Q11.out.2.2.2 Q11.out.2.1 (by have := O5.out.2.2.1; have := O5.out.2.2.2; omega)).mono ?_
            rintro e w12 ⟨rfl, b12⟩
            have Q12 : Hid (TwB w w12 F b (lim : Int) n m X1 #[.int .i64 k0, .int .i64 f0, .int .i64 t0, .int .i64 q0, .bool y0, .slice a0 n' cp] ∧ InZ w12 a7 l7) := ⟨Q11.out.1.keep b12, Q11.out.2.2.1.keep b12⟩
            clear b12 d0 d1 d2 d3 d4 d5 Q11
            obtain ⟨d0, d1, d2, d3, d4, d5⟩ := cells6 Q12.out.1.box
            have KS : Hid (Calls Try.prog 18 #[.pointer (some ⟨b, 0, none⟩), .int .i64 q0] w12 fun e w' => e = .returned (.int .i64 st) ∧ w' = w12) := by
              obtain ⟨B9, hB9⟩ := Q12.out.1.cd
              rw [HST.out]
              exact state_is w12 F b (lim : Int) n m B9 X1 hB9 q0 HM.out.2.2.2.2
            have est : (st == st) = true := by simp
            go_wp2_with fail
            refine KS.out.mono ?_
            rintro e w13 ⟨rfl, h13⟩
            obtain rfl := h13.symm
            clear h13 KS
            go_wp2_with fail
            have KL : Hid (Calls Try.prog 19 #[.pointer (some ⟨b, 0, none⟩), .int .i64 q0] w12 fun e w' => ∃ a c, e = .returned (.slice a n7 c) ∧ InZ w' a l7 ∧ Below w12.heap.size w12 w') := by
              obtain ⟨B9, hB9⟩ := Q12.out.1.cd
              refine (lacks_is w12 F b (lim : Int) n m B9 X1 hB9 q0 HM.out.2.2.2.2 (fun x hx => Nat.le_trans (P4.out.2.1.1 q0 x hx).llen (by decide))).mono fun e w' ⟨V, e1, o1, b1⟩ => ?_
              rw [← O7.out.2.1] at o1
              obtain ⟨a, c, rfl, iz, -⟩ := o1.slice
              rw [O7.out.2.2.2.1] at e1
              exact ⟨a, c, e1, iz, b1⟩
            refine KL.out.mono ?_
            rintro e w14 ⟨a14, c14, rfl, i14, b14⟩
            have Q14 : Hid (Below w.heap.size w w14 ∧ InZ w14 a7 l7 ∧ InZ w14 a14 l7) := ⟨Q12.out.1.bel.trans (b14.mono Q12.out.1.bel.size), Q12.out.2.keep b14, i14⟩
            clear KL i14 b14 d0 d1 d2 d3 d4 d5 est Q12
            go_wp2_with fail
            refine (samen_true w14 a14 a7 n7 c14 k7 l7 O7.out.2.2.2.1 Q14.out.2.2 Q14.out.2.1 (by have := O7.out.2.2.1; have := O7.out.2.2.2.1; omega)).mono ?_
            rintro e w15 ⟨rfl, b15⟩
            have Q15 : Hid (Below w.heap.size w w15) := Q14.out.1.trans (b15.mono Q14.out.1.size)
            clear b15 Q14
            go_wp2_with fail
            refine (works15_is _).mono ?_
            rintro e w16 ⟨rfl, b16⟩
            have Q16 : Hid (Below w.heap.size w w16) := Q15.out.trans (b16.mono Q15.out.size)
            clear b16
            go_wp2_with fail
            go_ret
            exact ⟨rfl, Q16.out⟩
          · go_quiet (fail)
            have b10 := below_drewN (Below.refl w9.heap.size w9) nq
            have Q10 : Hid (TwB w (w9.drewN nq) F b (lim : Int) n m X1 #[.int .i64 k0, .int .i64 f0, .int .i64 t0, .int .i64 q0, .bool y0, .slice a0 n' cp] ∧ InZ (w9.drewN nq) a5 l5 ∧ InZ (w9.drewN nq) a7 l7) := HN9.out _ b10
            clear b10 HN9 P9 x0 x1 x2 x3 d0 d1 d2 d3 d4 d5
            generalize w9.drewN nq = w10 at *
            obtain ⟨d0, d1, d2, d3, d4, d5⟩ := cells6 Q10.out.1.box
            have KO : Hid (Calls Try.prog 17 #[.pointer (some ⟨b, 0, none⟩)] w10 fun e w' => ∃ a c, e = .returned (.slice a n5 c) ∧ InZ w' a l5 ∧ Below w10.heap.size w10 w') := by
              obtain ⟨B9, hB9⟩ := Q10.out.1.cd
              refine (opened_is w10 F b (lim : Int) n m B9 X1 hB9 (by have := P4.out.2.2; omega)).mono fun e w' ⟨V, l, e1, o1, ol, _, b1⟩ => ?_
              obtain rfl := opl_uniq ol O5.out.2.1
              obtain ⟨a, c, rfl, iz, -⟩ := o1.slice
              rw [O5.out.2.2.2] at e1
              exact ⟨a, c, e1, iz, b1⟩
            go_wp2_with fail
            refine KO.out.mono ?_
            rintro e w11 ⟨a11, c11, rfl, i11, b11⟩
            have Q11 : Hid (TwB w w11 F b (lim : Int) n m X1 #[.int .i64 k0, .int .i64 f0, .int .i64 t0, .int .i64 q0, .bool y0, .slice a0 n' cp] ∧ InZ w11 a5 l5 ∧ InZ w11 a7 l7 ∧ InZ w11 a11 l5) := ⟨Q10.out.1.keep b11, Q10.out.2.1.keep b11, Q10.out.2.2.keep b11, i11⟩
            clear KO i11 b11 d0 d1 d2 d3 d4 d5 Q10
            obtain ⟨d0, d1, d2, d3, d4, d5⟩ := cells6 Q11.out.1.box
            go_wp2_with fail
            refine (samen_true w11 a11 a5 n5 c11 k5 l5 O5.out.2.2.2 Q11.out.2.2.2 Q11.out.2.1 (by have := O5.out.2.2.1; have := O5.out.2.2.2; omega)).mono ?_
            rintro e w12 ⟨rfl, b12⟩
            have Q12 : Hid (TwB w w12 F b (lim : Int) n m X1 #[.int .i64 k0, .int .i64 f0, .int .i64 t0, .int .i64 q0, .bool y0, .slice a0 n' cp] ∧ InZ w12 a7 l7) := ⟨Q11.out.1.keep b12, Q11.out.2.2.1.keep b12⟩
            clear b12 d0 d1 d2 d3 d4 d5 Q11
            obtain ⟨d0, d1, d2, d3, d4, d5⟩ := cells6 Q12.out.1.box
            have KS : Hid (Calls Try.prog 18 #[.pointer (some ⟨b, 0, none⟩), .int .i64 q0] w12 fun e w' => e = .returned (.int .i64 st) ∧ w' = w12) := by
              obtain ⟨B9, hB9⟩ := Q12.out.1.cd
              rw [HST.out]
              exact state_is w12 F b (lim : Int) n m B9 X1 hB9 q0 HM.out.2.2.2.2
            have est : (st == st) = true := by simp
            go_wp2_with fail
            refine KS.out.mono ?_
            rintro e w13 ⟨rfl, h13⟩
            obtain rfl := h13.symm
            clear h13 KS
            go_wp2_with fail
            have KL : Hid (Calls Try.prog 19 #[.pointer (some ⟨b, 0, none⟩), .int .i64 q0] w12 fun e w' => ∃ a c, e = .returned (.slice a n7 c) ∧ InZ w' a l7 ∧ Below w12.heap.size w12 w') := by
              obtain ⟨B9, hB9⟩ := Q12.out.1.cd
              refine (lacks_is w12 F b (lim : Int) n m B9 X1 hB9 q0 HM.out.2.2.2.2 (fun x hx => Nat.le_trans (P4.out.2.1.1 q0 x hx).llen (by decide))).mono fun e w' ⟨V, e1, o1, b1⟩ => ?_
              rw [← O7.out.2.1] at o1
              obtain ⟨a, c, rfl, iz, -⟩ := o1.slice
              rw [O7.out.2.2.2.1] at e1
              exact ⟨a, c, e1, iz, b1⟩
            refine KL.out.mono ?_
            rintro e w14 ⟨a14, c14, rfl, i14, b14⟩
            have Q14 : Hid (Below w.heap.size w w14 ∧ InZ w14 a7 l7 ∧ InZ w14 a14 l7) := ⟨Q12.out.1.bel.trans (b14.mono Q12.out.1.bel.size), Q12.out.2.keep b14, i14⟩
            clear KL i14 b14 d0 d1 d2 d3 d4 d5 est Q12
            go_wp2_with fail
            refine (samen_true w14 a14 a7 n7 c14 k7 l7 O7.out.2.2.2.1 Q14.out.2.2 Q14.out.2.1 (by have := O7.out.2.2.1; have := O7.out.2.2.2.1; omega)).mono ?_
            rintro e w15 ⟨rfl, b15⟩
            have Q15 : Hid (Below w.heap.size w w15) := Q14.out.1.trans (b15.mono Q14.out.1.size)
            clear b15 Q14
            go_wp2_with fail
            refine (works15_is _).mono ?_
            rintro e w16 ⟨rfl, b16⟩
            have Q16 : Hid (Below w.heap.size w w16) := Q15.out.trans (b16.mono Q15.out.size)
            clear b16
            go_wp2_with fail
            go_ret
            exact ⟨rfl, Q16.out⟩
theorem coordTwice_walk (l0 : Int) (ac : Option Addr) (len cap : Nat) (A : Nat → Ac) (k0 f0 t0 q0 : Int) (y0 : Bool) (a0 : Option Addr) (n0 cp : Nat) (L0 : List Pk) (w : World) (h0 : (Lit.int .i64 l0).wf = true) (hA : InAc w ac len A) (hm : MsIn w k0 f0 t0 q0 a0 n0 cp L0 ∧ cp ≤ 9223372036854775807) :
    Calls Try.prog 7 #[.int .i64 l0, .slice ac len cap, .agg #[.int .i64 k0, .int .i64 f0, .int .i64 t0, .int .i64 q0, .bool y0, .slice a0 n0 cp]] w fun e w' => e = .returned (.bool true) ∧ Below w.heap.size w w' := coordTwice_walk0 l0 ac len cap A k0 f0 t0 q0 y0 a0 n0 cp L0 w hA hm.1 hm.2
end Go.Proofs.Ythaeidbnbgghkaa
