/- The document's Tree. -/
import Derived.Test.YtbefmcagpmgkiaaDoorMgMe16
import Derived.Test.YtbefmcagpmgkiaaDoorMgMe18
import Derived.Deep.RegionHeld3
import Derived.BigQuiet
namespace Go.Proofs.YtbefmcagpmgkiaaDoor
open Go.ChangeShapes Go.WideShapes Go.ChangeAt Go.RowKit Go.Deep Go.Maps
set_option linter.unusedVariables false
theorem rise_snoc {l : List En} {x z : En} {j : Nat} (h : (l.take (j + 1)).Pairwise (fun x y => les x.p y.p = true)) (hz : l[j]? = some z) (hx : l[j + 1]? = some x) (hl : les z.p x.p = true) : (l.take (j + 1 + 1)).Pairwise (fun x y => les x.p y.p = true) := by
  rw [List.take_add_one, hx]
  rw [List.pairwise_append]
  refine ⟨h, by simp [Option.toList], fun a ha b hb => ?_⟩
  simp [Option.toList] at hb
  subst hb
  rw [List.take_add_one, hz] at h ha
  rw [List.pairwise_append] at h
  simp only [Option.toList, List.mem_append, List.mem_singleton] at ha
  rcases ha with ha | rfl
  · exact les_trans _ _ _ (h.2.2 a ha z (by simp [Option.toList])) hl
  · exact hl
theorem rise_one {l : List En} {x : En} (hx : l[0]? = some x) : (l.take 1).Pairwise (fun x y => les x.p y.p = true) := by
  rw [List.take_add_one, hx]
  simp [Option.toList]
theorem InE.takeR {w : World} {a : Option Addr} {l : List En} (h : InE w a l) (k : Nat) : InE w a (l.take k) := by
  rcases h with rfl | ⟨b, off, h1, h2, h3⟩
  · left; simp
  · refine .inr ⟨b, off, h1, h2, fun i x hi => h3 i x ?_⟩
    rw [List.getElem?_take] at hi
    split at hi
    · exact hi
    · cases hi
theorem oA_ent {pre : List En} (h : pre.Pairwise (fun x y => les x.p y.p = true)) (q : Tx) : oA (scT pre) q = (decide (upP q = []) || decide (((ent pre (upP q)).getD noE).k = 2)) := by
  unfold oA kd
  rw [scT_at _ pre rfl h]
set_option maxRecDepth 100000 in
set_option maxHeartbeats 16000000 in
theorem rtree_is (l : List En) (n : Nat) (hn : l.length = n) (hn62 : n ≤ 1000) (hf : Brief l) (a : Option Addr) (c : Nat) (hnc : n ≤ c) (w : World) (hl : InE w a l) :
    Calls Tryd.prog 21 #[.slice a n c] w fun e w' => e = .returned (.bool (isTr l)) ∧ Below w.heap.size w w' := by
  have HF : Hid (Brief l) := hf
  have HL : Hid (InE w a l) := hl
  have HN : Hid (l.length = n) := hn
  have HR : Hid (trF (fun _ => none) [] l = isTr l) := rfl
  generalize isTr l = R at *
  clear hf hl hn
  go_enter Tryd.func21, Tryd.ntmps21
  go_wp2_with fail
  go_loopg [3] n (fun g i wr => ∃ (j : Nat) (u : Tx), j ≤ n ∧ g = n - j ∧ i = .int .i64 j ∧ Hid (trF (scT (l.take j)) u (l.drop j) = R) ∧ Hid ((l.take j).Pairwise (fun x y => les x.p y.p = true)) ∧ Hid ((j = 0 ∧ u = []) ∨ ∃ jm z, j = jm + 1 ∧ l[jm]? = some z ∧ z.p = u) ∧ Hid (Below w.heap.size w wr))
  case atStart => exact ⟨0, [], Nat.zero_le _, rfl, rfl, HR, (by show List.Pairwise _ (l.take 0); simp), .inl ⟨rfl, rfl⟩, Below.refl _ _⟩
  case round =>
    obtain ⟨j, u, hj, rfl, rfl, TR, RS, HU, BW⟩ := hrel
    have hszw := BW.out.size
    by_cases hlt : j < n
    · have j1 : (j : Int) < (n : Int) := by omega
      obtain ⟨x, hx⟩ : ∃ x, l[j]? = some x := ⟨l[j]'(by rw [HN.out]; exact hlt), by simp [HN.out, hlt]⟩
      have HXL : Hid (l[j]? = some x) := hx
      obtain ⟨b, off, rfl, hbw, hr⟩ := HL.out.at hx
      have hbr := HF.out x (List.mem_of_getElem? hx)
      have hxp := hbr.1
      have HBR : Hid (Brief [x]) := fun y hy => by simp at hy; subst hy; exact hbr
      have HD : l.drop j = x :: l.drop (j + 1) := by
        have hj2 : j < l.length := by rw [HN.out]; exact hlt
        rw [List.drop_eq_getElem_cons hj2]
        congr 1
        have := List.getElem?_eq_getElem hj2
        rw [this] at hx
        exact Option.some.inj hx
      have MX : Hid (scT (l.take (j + 1)) = setE (scT (l.take j)) x) := scT_take l j x hx
      have TR2 : Hid ((mS x && les u x.p && oA (scT (l.take j)) x.p && trF (setE (scT (l.take j)) x) x.p (l.drop (j + 1))) = R) := by have := TR.out; rw [HD] at this; exact this
      have HXC : Hid (Ec w b (off + j * 4) x) := hr
      obtain ⟨c0, c1, c2, c3⟩ := hr.below BW.out hbw
      have OE : Hid (oA (scT (l.take j)) x.p = (decide (upP x.p = []) || decide (((ent (l.take j) (upP x.p)).getD noE).k = 2))) := oA_ent RS.out x.p
      obtain ⟨w1, hw1⟩ : ∃ w1, w1 = wr.alloc (.cells #[.string (tx x.p), .int .i64 x.k, .int .i64 x.m, .string (tx x.b)] 34) := ⟨_, rfl⟩
      have W1 : Hid (w1 = wr.alloc (.cells #[.string (tx x.p), .int .i64 x.k, .int .i64 x.m, .string (tx x.b)] 34)) := hw1
      have b1 : Below wr.heap.size wr w1 := by rw [hw1]; exact (Below.refl _ _).alloc (Nat.le_refl _) _
      have I1 : InE w1 (some ⟨wr.heap.size, 0, none⟩) [x] := by
        refine .inr ⟨wr.heap.size, 0, rfl, by rw [hw1]; simp, fun i y hy => ?_⟩
        have hi : i = 0 := by
          have := (List.getElem?_eq_some_iff.1 hy).1
          simpa using this
        subst hi
        simp at hy
        subst hy
        exact ec_cells (w := w1) (g := wr.heap.size) (t := 34) (by rw [hw1]; exact heap_alloc_new wr _)
      have KC : Hid (Calls Tryd.prog 29 #[.slice (some ⟨wr.heap.size, 0, none⟩) 1 1] w1 fun e w' => e = .returned (.tuple #[.int .i64 ((chk [x]).1 : Nat), .int .i64 (chk [x]).2]) ∧ Below w1.heap.size w1 w') := rcheck_is [x] 1 rfl (by omega) HBR.out _ 1 w1 I1
      have CO : Hid ((chk [x]).2 = 0 ↔ fo x = 0) := chk_one x
      have B1 : Hid (Below w.heap.size w w1) := BW.out.trans (b1.mono hszw)
      generalize (chk [x]).1 = ck at *
      generalize hE : (chk [x]).2 = E at *
      clear hx hr hw1 b1 I1 hE HD TR hbr BW
      go_wp2_with fail
      rw [show wr.alloc _ = w1 from W1.out.symm]
      refine KC.out.mono ?_
      rintro e w2 ⟨rfl, hb2⟩
      have B2 : Hid (Below w.heap.size w w2) := B1.out.trans (hb2.mono B1.out.size)
      clear hb2 KC c0 c1 c2 c3 B1 W1
      obtain ⟨c0, c1, c2, c3⟩ := HXC.out.below B2.out hbw
      by_cases hE : E = 0
      · have HFO : Hid (fo x = 0) := CO.out.1 hE
        subst hE
        by_cases hk2 : 2 < x.k
        · have e2 : decide ((2 : Int) < x.k) = true := by simpa using hk2
          have HRF : Hid (R = false) := by
            show _ = _
            rw [← TR2.out]
            have : mS x = false := mS_no (by omega)
            rw [this]
            rfl
          go_wp2_with fail
          go_ret
          refine ⟨?_, B2.out⟩
          rw [HRF.out]
          rfl
        · have e2 : decide ((2 : Int) < x.k) = false := by simpa using hk2
          have hkk := (fo_all HFO.out).2.1
          have HMS : Hid (mS x = true) := by
            show _ = _
            unfold mS
            rw [decide_eq_true HFO.out, Bool.and_true]
            rcases (by omega : x.k = 1 ∨ x.k = 2) with e | e <;> rw [e] <;> rfl
          have KU : Hid (∀ W, Calls Tryd.prog 36 #[.string (tx x.p)] W fun e w' => e = .returned (.tuple #[.string (tx (upP x.p)), .bool (!(prt x.p).isEmpty)]) ∧ Below W.heap.size W w') := fun W => rup_is x.p (by omega) W
          have KH : Hid (∀ W, InE W (some ⟨b, off, none⟩) (l.take j) → Calls Tryd.prog 35 #[.slice (some ⟨b, off, none⟩) j c, .string (tx (upP x.p))] W fun e w' => ∃ r, e = .returned (.int .i64 r) ∧ w' = W ∧ HasR (l.take j) (upP x.p) r) := fun W h => rhas_is (l.take j) j (by rw [List.length_take, HN.out]; omega) (by omega) _ c (upP x.p) W h
          rcases HU.out with ⟨hj0, hu0⟩ | ⟨jm, z, hjm, hz, hzu⟩
          · subst hj0 hu0
            have HLE : Hid (les [] x.p = true) := les_nil (fo_path HFO.out).1
            have RS2 : Hid ((l.take (0 + 1)).Pairwise (fun x y => les x.p y.p = true)) := rise_one HXL.out
            go_wp2_with fail
            go_quiet (fail)
            simp only [Nat.zero_mul, Nat.add_zero] at c0 c1 c2 c3
            have B3 : Hid (Below w.heap.size w (w2.drewN nq)) := below_drewN B2.out _
            go_wp2_with fail
            refine (KU.out _).mono ?_
            rintro e w5 ⟨rfl, hb5⟩
            have B5 : Hid (Below w.heap.size w w5) := B3.out.trans (hb5.mono B3.out.size)
            clear hb5 KU c0 c1 c2 c3
            have hul := upP_len x.p
            have s0 : (0 : Int) ≤ ((0 : Nat) : Int) := by omega
            have s1 : ((0 : Nat) : Int) ≤ (c : Int) := by omega
            have s2 : ((0 : Nat) : Int) ≤ (n : Int) := by omega
            generalize upP x.p = up at *
            go_wp2_with fail
            refine (KH.out w5 ((HL.out.keep B5.out).takeR (0))).mono ?_
            rintro e w6 ⟨r, rfl, hw6, hr⟩
            obtain rfl := hw6.symm
            clear hw6 KH
            by_cases hu : up = []
            · have HOA : Hid (oA (scT (l.take 0)) x.p = true) := by show _ = _; rw [OE.out, decide_eq_true hu]; rfl
              subst hu
              have e0 : (tx []).toList = [] := tx_toList []
              have TR3 : Hid (trF (scT (l.take (0 + 1))) x.p (l.drop (0 + 1)) = R) := by show _ = _; rw [MX.out, ← TR2.out, HMS.out, HLE.out, HOA.out]; rfl
              clear hr
              go_wp2_with fail
              go_roundg (n - (0 + 1))
              case measure => omega
              case rel => exact ⟨0 + 1, x.p, by omega, rfl, by go_num, TR3, RS2, .inr ⟨0, x, rfl, HXL.out, rfl⟩, B5⟩
            · have hte := tx_toList up
              have hue : up.isEmpty = false := by simpa using hu
              rcases hr with ⟨rfl, he⟩ | ⟨i, y, rfl, hi, hyp, he⟩
              · have HRF : Hid (R = false) := by
                  show _ = _
                  rw [← TR2.out, OE.out, decide_eq_false hu, he]
                  simp [noE, En.k]
                clear he
                go_wp2_with fail
                go_ret
                refine ⟨?_, B5.out⟩
                rw [HRF.out]
                rfl
              · simp at hi
          · subst hjm
            have j2 : (0 : Int) < ((jm + 1 : Nat) : Int) := by omega
            have j3 : (((jm + 1 : Nat) : Int)) - 1 = (jm : Int) := by omega
            have j4 : (jm : Int) < (n : Int) := by omega
            have hzr : Ec w b (off + jm * 4) z := by
              obtain ⟨b', off', e, _, h⟩ := HL.out.at hz
              cases e
              exact h
            subst hzu
            have HZ : Hid (Ec w b (off + jm * 4) z) := hzr
            have z0 := (hzr.below B2.out hbw).1
            have hwj : IntKind.i64.wrap (jm : Int) = (jm : Int) := by simp [IntKind.wrap, IntKind.signed, IntKind.bits]; omega
            have KL : Hid (∀ W, Calls Tryd.prog 39 #[.string (tx z.p), .string (tx x.p)] W fun e w' => e = .returned (.bool (les z.p x.p)) ∧ Below W.heap.size W w') := fun W => rless_is z.p x.p (by have := (HF.out z (List.mem_of_getElem? hz)).1; omega) (by omega) W
            have HZL : Hid (l[jm]? = some z) := hz
            have B3 : Hid (Below w.heap.size w w2) := B2
            clear hz hzr
            cases hle : les z.p x.p with
            | false =>
              have HRF : Hid (R = false) := by show _ = _; rw [← TR2.out, hle]; simp
              rw [hle] at KL
              go_wp2_with fail
              refine wp_region_noPanic ?_
              refine wp_region_held_drew (S := (fun W : World => W.cell? ⟨b, off + jm * 4, none⟩ = some (.string (tx z.p)) ∧ W.cell? ⟨b, off + (jm + 1) * 4, none⟩ = some (.string (tx x.p)))) (by kernel_rfl) ?hSaa (fun hHeld => ?restaa)
              case hSaa => exact ⟨z0, c0⟩
              case restaa =>
                refine wpAnyH_take (i := 0) (v := ?v0a) rfl (by kernel_rfl) (by kernel_rfl) (by kernel_rfl) (fun _ _ _ h => h) (Or.inl ⟨by rfl, ?hy0a⟩) hHeld ?rest0a
                case hy0a => (intro w hSw; (try dsimp only at hSw); go_simp; try with_reducible rfl)
                try simp only [Act.put, List.setIfInBounds_toArray, List.set_cons_zero, List.set_cons_succ, List.getElem_toArray, List.getElem_cons_zero]
                refine wpAnyH_take (i := 1) (v := ?v1a) rfl (by kernel_rfl) (by kernel_rfl) (by kernel_rfl) (fun _ _ _ h => h) (Or.inl ⟨by rfl, ?hy1a⟩) hHeld ?rest1a
                case hy1a => (intro w hSw; (try dsimp only at hSw); go_simp; try with_reducible rfl)
                try simp only [Act.put, List.setIfInBounds_toArray, List.set_cons_zero, List.set_cons_succ, List.getElem_toArray, List.getElem_cons_zero, List.getElem_cons_succ]
                refine wpAnyH_take (i := 2) (v := ?v2a) rfl (by kernel_rfl) (by kernel_rfl) (by kernel_rfl) (fun _ _ _ h => h) (Or.inl ⟨by rfl, ?hy2a⟩) hHeld ?rest2a
                case hy2a => (intro w hSw; (try dsimp only at hSw); go_simp; try with_reducible rfl)
                try simp only [Act.put, List.setIfInBounds_toArray, List.set_cons_zero, List.set_cons_succ, List.getElem_toArray, List.getElem_cons_zero, List.getElem_cons_succ]
                refine wpAnyH_take (i := 3) (v := ?v3a) rfl (by kernel_rfl) (by kernel_rfl) (by kernel_rfl) (fun _ _ _ h => h) (Or.inl ⟨by rfl, ?hy3a⟩) hHeld ?rest3a
                case hy3a => (intro w hSw; (try dsimp only at hSw); go_simp; try with_reducible rfl)
                try simp only [Act.put, List.setIfInBounds_toArray, List.set_cons_zero, List.set_cons_succ, List.getElem_toArray, List.getElem_cons_zero, List.getElem_cons_succ]
                refine wpAnyH_take (i := 4) (v := ?v4a) rfl (by kernel_rfl) (by kernel_rfl) (by kernel_rfl) (fun _ _ _ h => h) (Or.inl ⟨by rfl, ?hy4a⟩) hHeld ?rest4a
                case hy4a => (intro w hSw; (try dsimp only at hSw); go_simp; try with_reducible rfl)
                try simp only [Act.put, List.setIfInBounds_toArray, List.set_cons_zero, List.set_cons_succ, List.getElem_toArray, List.getElem_cons_zero, List.getElem_cons_succ]
                refine wpAnyH_take (i := 5) (v := .int .i64 (jm : Int)) rfl (by kernel_rfl) (by kernel_rfl) (by kernel_rfl) (fun _ _ _ h => h) (Or.inl ⟨by rfl, ?hy5a⟩) hHeld ?rest5a
                case hy5a => (intro w hSw; (try dsimp only at hSw); go_simp; (try rw [hwj]); (try with_reducible rfl))
                try simp only [Act.put, List.setIfInBounds_toArray, List.set_cons_zero, List.set_cons_succ, List.getElem_toArray, List.getElem_cons_zero, List.getElem_cons_succ]
                refine wpAnyH_take (i := 6) (v := ?v6a) rfl (by kernel_rfl) (by kernel_rfl) (by kernel_rfl) (fun _ _ _ h => h) (Or.inl ⟨by rfl, ?hy6a⟩) hHeld ?rest6a
                case hy6a => (intro w hSw; (try dsimp only at hSw); go_simp; first | (with_reducible rfl) | (rw [if_pos (by omega)]; done) | (rw [if_pos (by omega)]; with_reducible rfl))
                try simp only [Act.put, List.setIfInBounds_toArray, List.set_cons_zero, List.set_cons_succ, List.getElem_toArray, List.getElem_cons_zero, List.getElem_cons_succ]
                refine wpAnyH_take (i := 7) (v := ?v7a) rfl (by kernel_rfl) (by kernel_rfl) (by kernel_rfl) (fun _ _ _ h => h) (Or.inl ⟨by rfl, ?hy7a⟩) hHeld ?rest7a
                case hy7a => (intro w hSw; (try dsimp only at hSw); go_simp; try with_reducible rfl)
                try simp only [Act.put, List.setIfInBounds_toArray, List.set_cons_zero, List.set_cons_succ, List.getElem_toArray, List.getElem_cons_zero, List.getElem_cons_succ]
                refine wpAnyH_take (i := 8) (v := ?v8a) rfl (by kernel_rfl) (by kernel_rfl) (by kernel_rfl) (fun _ _ _ h => h) (Or.inl ⟨by rfl, ?hy8a⟩) hHeld ?rest8a
                case hy8a => (intro w hSw; (try dsimp only at hSw); go_simp; try with_reducible rfl)
                try simp only [Act.put, List.setIfInBounds_toArray, List.set_cons_zero, List.set_cons_succ, List.getElem_toArray, List.getElem_cons_zero, List.getElem_cons_succ]
                refine wpAnyH_take (i := 9) (v := ?v9a) rfl (by kernel_rfl) (by kernel_rfl) (by kernel_rfl) (fun _ _ _ h => h) (Or.inl ⟨by rfl, ?hy9a⟩) hHeld ?rest9a
                case hy9a => (intro w hSw; (try dsimp only at hSw); go_simp; try with_reducible rfl)
                try simp only [Act.put, List.setIfInBounds_toArray, List.set_cons_zero, List.set_cons_succ, List.getElem_toArray, List.getElem_cons_zero, List.getElem_cons_succ]
                refine wpAnyH_take (i := 10) (v := ?v10a) rfl (by kernel_rfl) (by kernel_rfl) (by kernel_rfl) (fun _ _ _ h => h) (Or.inl ⟨by rfl, ?hy10a⟩) hHeld ?rest10a
                case hy10a => (intro w hSw; (try dsimp only at hSw); go_simp; try with_reducible rfl)
                try simp only [Act.put, List.setIfInBounds_toArray, List.set_cons_zero, List.set_cons_succ, List.getElem_toArray, List.getElem_cons_zero, List.getElem_cons_succ]
                refine wpAnyH_take (i := 11) (v := ?v11a) rfl (by kernel_rfl) (by kernel_rfl) (by kernel_rfl) (fun _ _ _ h => h) (Or.inl ⟨by rfl, ?hy11a⟩) hHeld ?rest11a
                case hy11a => (intro w hSw; (try dsimp only at hSw); go_simp; first | (with_reducible rfl) | (rw [if_pos (by omega)]; done) | (rw [if_pos (by omega)]; with_reducible rfl))
                try simp only [Act.put, List.setIfInBounds_toArray, List.set_cons_zero, List.set_cons_succ, List.getElem_toArray, List.getElem_cons_zero, List.getElem_cons_succ]
                refine wpAnyH_take (i := 12) (v := ?v12a) rfl (by kernel_rfl) (by kernel_rfl) (by kernel_rfl) (fun _ _ _ h => h) (Or.inl ⟨by rfl, ?hy12a⟩) hHeld ?rest12a
                case hy12a => (intro w hSw; (try dsimp only at hSw); go_simp; try with_reducible rfl)
                try simp only [Act.put, List.setIfInBounds_toArray, List.set_cons_zero, List.set_cons_succ, List.getElem_toArray, List.getElem_cons_zero, List.getElem_cons_succ]
                refine wpAnyH_take (i := 13) (v := ?v13a) rfl (by kernel_rfl) (by kernel_rfl) (by kernel_rfl) (fun _ _ _ h => h) (Or.inl ⟨by rfl, ?hy13a⟩) hHeld ?rest13a
                case hy13a => (intro w hSw; (try dsimp only at hSw); go_simp; try with_reducible rfl)
                try simp only [Act.put, List.setIfInBounds_toArray, List.set_cons_zero, List.set_cons_succ, List.getElem_toArray, List.getElem_cons_zero, List.getElem_cons_succ]
                refine wpAnyH_ready (rs := [14]) (by kernel_rfl) (by simp) ?_
                refine AllReadyH.cons rfl (fun K hK => ?_) AllReadyH.nil
                go_simp; refine (KL.out _).mono ?_; rintro e w4 ⟨rfl, hb4⟩; have B4 : Hid (Below w.heap.size w w4) := (below_drewN B3.out 1).trans (hb4.mono B3.out.size); clear hb4; go_wp2_with fail
                refine hK.out _ _ ?hS14a (fun hHeld => ?rest14a)
                case hS14a => exact ⟨(B4.out.cell (p := ⟨b, off + jm * 4, none⟩) hbw).trans HZ.out.1, (B4.out.cell (p := ⟨b, off + (jm + 1) * 4, none⟩) hbw).trans HXC.out.1⟩
                clear hK K
                try simp only [Act.put, List.setIfInBounds_toArray, List.set_cons_zero, List.set_cons_succ, List.getElem_toArray, List.getElem_cons_zero, List.getElem_cons_succ]
                refine wpAnyH_take (i := 15) (v := ?v15a) rfl (by kernel_rfl) (by kernel_rfl) (by kernel_rfl) (fun _ _ _ h => h) (Or.inl ⟨by rfl, ?hy15a⟩) hHeld ?rest15a
                case hy15a => (intro w hSw; (try dsimp only at hSw); go_simp; try with_reducible rfl)
                try simp only [Act.put, List.setIfInBounds_toArray, List.set_cons_zero, List.set_cons_succ, List.getElem_toArray, List.getElem_cons_zero, List.getElem_cons_succ]
                refine wpAnyH_take (i := 16) (v := ?v16a) rfl (by kernel_rfl) (by kernel_rfl) (by kernel_rfl) (fun _ _ _ h => h) (Or.inl ⟨by rfl, ?hy16a⟩) hHeld ?rest16a
                case hy16a => (intro w hSw; (try dsimp only at hSw); go_simp; try with_reducible rfl)
                try simp only [Act.put, List.setIfInBounds_toArray, List.set_cons_zero, List.set_cons_succ, List.getElem_toArray, List.getElem_cons_zero, List.getElem_cons_succ]
                refine wpAnyH_done (by kernel_rfl) ?_ _
                refine NoPanic.normal ?_
                go_wp2_with fail
                go_ret
                refine ⟨?_, B4.out⟩
                rw [HRF.out]
                rfl
            | true =>
              have HLE : Hid (les z.p x.p = true) := hle
              have RS2 : Hid ((l.take (jm + 1 + 1)).Pairwise (fun x y => les x.p y.p = true)) := rise_snoc RS.out HZL.out HXL.out hle
              rw [hle] at KL
              go_wp2_with fail
              refine wp_region_noPanic ?_
              refine wp_region_held_drew (S := (fun W : World => W.cell? ⟨b, off + jm * 4, none⟩ = some (.string (tx z.p)) ∧ W.cell? ⟨b, off + (jm + 1) * 4, none⟩ = some (.string (tx x.p)))) (by kernel_rfl) ?hSab (fun hHeld => ?restab)
              case hSab => exact ⟨z0, c0⟩
              case restab =>
                refine wpAnyH_take (i := 0) (v := ?v0b) rfl (by kernel_rfl) (by kernel_rfl) (by kernel_rfl) (fun _ _ _ h => h) (Or.inl ⟨by rfl, ?hy0b⟩) hHeld ?rest0b
                case hy0b => (intro w hSw; (try dsimp only at hSw); go_simp; try with_reducible rfl)
                try simp only [Act.put, List.setIfInBounds_toArray, List.set_cons_zero, List.set_cons_succ, List.getElem_toArray, List.getElem_cons_zero]
                refine wpAnyH_take (i := 1) (v := ?v1b) rfl (by kernel_rfl) (by kernel_rfl) (by kernel_rfl) (fun _ _ _ h => h) (Or.inl ⟨by rfl, ?hy1b⟩) hHeld ?rest1b
                case hy1b => (intro w hSw; (try dsimp only at hSw); go_simp; try with_reducible rfl)
                try simp only [Act.put, List.setIfInBounds_toArray, List.set_cons_zero, List.set_cons_succ, List.getElem_toArray, List.getElem_cons_zero, List.getElem_cons_succ]
                refine wpAnyH_take (i := 2) (v := ?v2b) rfl (by kernel_rfl) (by kernel_rfl) (by kernel_rfl) (fun _ _ _ h => h) (Or.inl ⟨by rfl, ?hy2b⟩) hHeld ?rest2b
                case hy2b => (intro w hSw; (try dsimp only at hSw); go_simp; try with_reducible rfl)
                try simp only [Act.put, List.setIfInBounds_toArray, List.set_cons_zero, List.set_cons_succ, List.getElem_toArray, List.getElem_cons_zero, List.getElem_cons_succ]
                refine wpAnyH_take (i := 3) (v := ?v3b) rfl (by kernel_rfl) (by kernel_rfl) (by kernel_rfl) (fun _ _ _ h => h) (Or.inl ⟨by rfl, ?hy3b⟩) hHeld ?rest3b
                case hy3b => (intro w hSw; (try dsimp only at hSw); go_simp; try with_reducible rfl)
                try simp only [Act.put, List.setIfInBounds_toArray, List.set_cons_zero, List.set_cons_succ, List.getElem_toArray, List.getElem_cons_zero, List.getElem_cons_succ]
                refine wpAnyH_take (i := 4) (v := ?v4b) rfl (by kernel_rfl) (by kernel_rfl) (by kernel_rfl) (fun _ _ _ h => h) (Or.inl ⟨by rfl, ?hy4b⟩) hHeld ?rest4b
                case hy4b => (intro w hSw; (try dsimp only at hSw); go_simp; try with_reducible rfl)
                try simp only [Act.put, List.setIfInBounds_toArray, List.set_cons_zero, List.set_cons_succ, List.getElem_toArray, List.getElem_cons_zero, List.getElem_cons_succ]
                refine wpAnyH_take (i := 5) (v := .int .i64 (jm : Int)) rfl (by kernel_rfl) (by kernel_rfl) (by kernel_rfl) (fun _ _ _ h => h) (Or.inl ⟨by rfl, ?hy5b⟩) hHeld ?rest5b
                case hy5b => (intro w hSw; (try dsimp only at hSw); go_simp; (try rw [hwj]); (try with_reducible rfl))
                try simp only [Act.put, List.setIfInBounds_toArray, List.set_cons_zero, List.set_cons_succ, List.getElem_toArray, List.getElem_cons_zero, List.getElem_cons_succ]
                refine wpAnyH_take (i := 6) (v := ?v6b) rfl (by kernel_rfl) (by kernel_rfl) (by kernel_rfl) (fun _ _ _ h => h) (Or.inl ⟨by rfl, ?hy6b⟩) hHeld ?rest6b
                case hy6b => (intro w hSw; (try dsimp only at hSw); go_simp; first | (with_reducible rfl) | (rw [if_pos (by omega)]; done) | (rw [if_pos (by omega)]; with_reducible rfl))
                try simp only [Act.put, List.setIfInBounds_toArray, List.set_cons_zero, List.set_cons_succ, List.getElem_toArray, List.getElem_cons_zero, List.getElem_cons_succ]
                refine wpAnyH_take (i := 7) (v := ?v7b) rfl (by kernel_rfl) (by kernel_rfl) (by kernel_rfl) (fun _ _ _ h => h) (Or.inl ⟨by rfl, ?hy7b⟩) hHeld ?rest7b
                case hy7b => (intro w hSw; (try dsimp only at hSw); go_simp; try with_reducible rfl)
                try simp only [Act.put, List.setIfInBounds_toArray, List.set_cons_zero, List.set_cons_succ, List.getElem_toArray, List.getElem_cons_zero, List.getElem_cons_succ]
                refine wpAnyH_take (i := 8) (v := ?v8b) rfl (by kernel_rfl) (by kernel_rfl) (by kernel_rfl) (fun _ _ _ h => h) (Or.inl ⟨by rfl, ?hy8b⟩) hHeld ?rest8b
                case hy8b => (intro w hSw; (try dsimp only at hSw); go_simp; try with_reducible rfl)
                try simp only [Act.put, List.setIfInBounds_toArray, List.set_cons_zero, List.set_cons_succ, List.getElem_toArray, List.getElem_cons_zero, List.getElem_cons_succ]
                refine wpAnyH_take (i := 9) (v := ?v9b) rfl (by kernel_rfl) (by kernel_rfl) (by kernel_rfl) (fun _ _ _ h => h) (Or.inl ⟨by rfl, ?hy9b⟩) hHeld ?rest9b
                case hy9b => (intro w hSw; (try dsimp only at hSw); go_simp; try with_reducible rfl)
                try simp only [Act.put, List.setIfInBounds_toArray, List.set_cons_zero, List.set_cons_succ, List.getElem_toArray, List.getElem_cons_zero, List.getElem_cons_succ]
                refine wpAnyH_take (i := 10) (v := ?v10b) rfl (by kernel_rfl) (by kernel_rfl) (by kernel_rfl) (fun _ _ _ h => h) (Or.inl ⟨by rfl, ?hy10b⟩) hHeld ?rest10b
                case hy10b => (intro w hSw; (try dsimp only at hSw); go_simp; try with_reducible rfl)
                try simp only [Act.put, List.setIfInBounds_toArray, List.set_cons_zero, List.set_cons_succ, List.getElem_toArray, List.getElem_cons_zero, List.getElem_cons_succ]
                refine wpAnyH_take (i := 11) (v := ?v11b) rfl (by kernel_rfl) (by kernel_rfl) (by kernel_rfl) (fun _ _ _ h => h) (Or.inl ⟨by rfl, ?hy11b⟩) hHeld ?rest11b
                case hy11b => (intro w hSw; (try dsimp only at hSw); go_simp; first | (with_reducible rfl) | (rw [if_pos (by omega)]; done) | (rw [if_pos (by omega)]; with_reducible rfl))
                try simp only [Act.put, List.setIfInBounds_toArray, List.set_cons_zero, List.set_cons_succ, List.getElem_toArray, List.getElem_cons_zero, List.getElem_cons_succ]
                refine wpAnyH_take (i := 12) (v := ?v12b) rfl (by kernel_rfl) (by kernel_rfl) (by kernel_rfl) (fun _ _ _ h => h) (Or.inl ⟨by rfl, ?hy12b⟩) hHeld ?rest12b
                case hy12b => (intro w hSw; (try dsimp only at hSw); go_simp; try with_reducible rfl)
                try simp only [Act.put, List.setIfInBounds_toArray, List.set_cons_zero, List.set_cons_succ, List.getElem_toArray, List.getElem_cons_zero, List.getElem_cons_succ]
                refine wpAnyH_take (i := 13) (v := ?v13b) rfl (by kernel_rfl) (by kernel_rfl) (by kernel_rfl) (fun _ _ _ h => h) (Or.inl ⟨by rfl, ?hy13b⟩) hHeld ?rest13b
                case hy13b => (intro w hSw; (try dsimp only at hSw); go_simp; try with_reducible rfl)
                try simp only [Act.put, List.setIfInBounds_toArray, List.set_cons_zero, List.set_cons_succ, List.getElem_toArray, List.getElem_cons_zero, List.getElem_cons_succ]
                refine wpAnyH_ready (rs := [14]) (by kernel_rfl) (by simp) ?_
                refine AllReadyH.cons rfl (fun K hK => ?_) AllReadyH.nil
                go_simp; refine (KL.out _).mono ?_; rintro e w4 ⟨rfl, hb4⟩; have B4 : Hid (Below w.heap.size w w4) := (below_drewN B3.out 1).trans (hb4.mono B3.out.size); clear hb4; go_wp2_with fail
                refine hK.out _ _ ?hS14b (fun hHeld => ?rest14b)
                case hS14b => exact ⟨(B4.out.cell (p := ⟨b, off + jm * 4, none⟩) hbw).trans HZ.out.1, (B4.out.cell (p := ⟨b, off + (jm + 1) * 4, none⟩) hbw).trans HXC.out.1⟩
                clear hK K
                try simp only [Act.put, List.setIfInBounds_toArray, List.set_cons_zero, List.set_cons_succ, List.getElem_toArray, List.getElem_cons_zero, List.getElem_cons_succ]
                refine wpAnyH_take (i := 15) (v := ?v15b) rfl (by kernel_rfl) (by kernel_rfl) (by kernel_rfl) (fun _ _ _ h => h) (Or.inl ⟨by rfl, ?hy15b⟩) hHeld ?rest15b
                case hy15b => (intro w hSw; (try dsimp only at hSw); go_simp; try with_reducible rfl)
                try simp only [Act.put, List.setIfInBounds_toArray, List.set_cons_zero, List.set_cons_succ, List.getElem_toArray, List.getElem_cons_zero, List.getElem_cons_succ]
                refine wpAnyH_take (i := 16) (v := ?v16b) rfl (by kernel_rfl) (by kernel_rfl) (by kernel_rfl) (fun _ _ _ h => h) (Or.inl ⟨by rfl, ?hy16b⟩) hHeld ?rest16b
                case hy16b => (intro w hSw; (try dsimp only at hSw); go_simp; try with_reducible rfl)
                try simp only [Act.put, List.setIfInBounds_toArray, List.set_cons_zero, List.set_cons_succ, List.getElem_toArray, List.getElem_cons_zero, List.getElem_cons_succ]
                refine wpAnyH_done (by kernel_rfl) ?_ _
                refine NoPanic.normal ?_
                have c0 := (HXC.out.below B4.out hbw).1
                have c1 := (HXC.out.below B4.out hbw).2.1
                have c2 := (HXC.out.below B4.out hbw).2.2.1
                have c3 := (HXC.out.below B4.out hbw).2.2.2
                go_wp2_with fail
                refine (KU.out _).mono ?_
                rintro e w5 ⟨rfl, hb5⟩
                have B5 : Hid (Below w.heap.size w w5) := B4.out.trans (hb5.mono B4.out.size)
                clear hb5 KU c0 c1 c2 c3
                have hul := upP_len x.p
                have s0 : (0 : Int) ≤ (((jm + 1) : Nat) : Int) := by omega
                have s1 : (((jm + 1) : Nat) : Int) ≤ (c : Int) := by omega
                have s2 : (((jm + 1) : Nat) : Int) ≤ (n : Int) := by omega
                generalize upP x.p = up at *
                go_wp2_with fail
                refine (KH.out w5 ((HL.out.keep B5.out).takeR ((jm + 1)))).mono ?_
                rintro e w6 ⟨r, rfl, hw6, hr⟩
                obtain rfl := hw6.symm
                clear hw6 KH
                by_cases hu : up = []
                · have HOA : Hid (oA (scT (l.take (jm + 1))) x.p = true) := by show _ = _; rw [OE.out, decide_eq_true hu]; rfl
                  subst hu
                  have e0 : (tx []).toList = [] := tx_toList []
                  have TR3 : Hid (trF (scT (l.take ((jm + 1) + 1))) x.p (l.drop ((jm + 1) + 1)) = R) := by show _ = _; rw [MX.out, ← TR2.out, HMS.out, HLE.out, HOA.out]; rfl
                  clear hr
                  go_wp2_with fail
                  go_roundg (n - ((jm + 1) + 1))
                  case measure => omega
                  case rel => exact ⟨(jm + 1) + 1, x.p, by omega, rfl, by go_num, TR3, RS2, .inr ⟨(jm + 1), x, rfl, HXL.out, rfl⟩, B5⟩
                · have hte := tx_toList up
                  have hue : up.isEmpty = false := by simpa using hu
                  rcases hr with ⟨rfl, he⟩ | ⟨i, y, rfl, hi, hyp, he⟩
                  · have HRF : Hid (R = false) := by
                      show _ = _
                      rw [← TR2.out, OE.out, decide_eq_false hu, he]
                      simp [noE, En.k]
                    clear he
                    go_wp2_with fail
                    go_ret
                    refine ⟨?_, B5.out⟩
                    rw [HRF.out]
                    rfl
                  · have hil : i < (jm + 1) := by
                      have := (List.getElem?_eq_some_iff.1 hi).1
                      rw [List.length_take] at this
                      omega
                    have hil2 : l[i]? = some y := by rw [List.getElem?_take_of_lt hil] at hi; exact hi
                    have i1 : (i : Int) < (n : Int) := by omega
                    have i2 : ¬ (i : Int) < 0 := by omega
                    have i3 : decide ((i : Int) < 0) = false := by simp
                    have hyr : Ec w b (off + i * 4) y := by
                      obtain ⟨b', off', e, _, h⟩ := HL.out.at hil2
                      cases e
                      exact h
                    obtain ⟨y0, y1, y2, y3⟩ := hyr.below B5.out hbw
                    clear hi hil2 hyr
                    by_cases hy2 : y.k = 2
                    · have HOA : Hid (oA (scT (l.take (jm + 1))) x.p = true) := by show _ = _; rw [OE.out, he]; simp [hy2]
                      have TR3 : Hid (trF (scT (l.take ((jm + 1) + 1))) x.p (l.drop ((jm + 1) + 1)) = R) := by show _ = _; rw [MX.out, ← TR2.out, HMS.out, HLE.out, HOA.out]; rfl
                      rw [hy2] at y1
                      clear he
                      go_wp2_with fail
                      go_roundg (n - ((jm + 1) + 1))
                      case measure => omega
                      case rel => exact ⟨(jm + 1) + 1, x.p, by omega, rfl, by go_num, TR3, RS2, .inr ⟨(jm + 1), x, rfl, HXL.out, rfl⟩, B5⟩
                    · have HRF : Hid (R = false) := by
                        show _ = _
                        rw [← TR2.out, OE.out, decide_eq_false hu, he]
                        simp [hy2]
                      have hy3 : (y.k != 2) = true := by simpa using hy2
                      clear he
                      go_wp2_with fail
                      go_ret
                      refine ⟨?_, B5.out⟩
                      rw [HRF.out]
                      rfl
      · have hE2 : (E != 0) = true := by simpa using hE
        have HRF : Hid (R = false) := by
          show _ = _
          rw [← TR2.out]
          have : mS x = false := by
            unfold mS
            rw [decide_eq_false (fun h => hE (CO.out.2 h)), Bool.and_false]
          rw [this]
          rfl
        go_wp2_with fail
        go_ret
        refine ⟨?_, B2.out⟩
        rw [HRF.out]
        rfl
    · have ej : j = n := by omega
      subst ej
      have j1 : ¬ (j : Int) < (j : Int) := by omega
      have HRT : Hid (R = true) := by show _ = _; rw [← TR.out, ← HN.out, List.drop_length]; rfl
      go_wp2_with fail
      go_ret
      refine ⟨?_, BW.out⟩
      rw [HRT.out]
      rfl
end Go.Proofs.YtbefmcagpmgkiaaDoor
