/- PlanPuts. -/
import Derived.Test.YthghoekkdpchnaaDoorMgPqxPmS
import Derived.Test.YthghoekkdpchnaaDoorMgPq24
import Derived.Test.YthghoekkdpchnaaDoorMgPq17
namespace Go.Proofs.YthghoekkdpchnaaDoor
open Go.ChangeShapes Go.WideShapes Go.ChangeAt Go.RowKit Go.Deep Go.Maps
set_option linter.unusedVariables false
set_option linter.unusedSimpArgs false
/-- plans of one's own, under way -/
structure OwP (z : Nat) (wr : World) (V : Value) (P : List Pv) : Prop where
  own : OwnPv wr z V P
  each : ∀ p ∈ P, NewSt wr z p.a p.n p.c p.M
theorem OwP.keep {z : Nat} {w w' : World} {V : Value} {P : List Pv} (h : OwP z w V P) (hb : Below w.heap.size w w') : OwP z w' V P := ⟨h.own.keep hb, fun p hp => (h.each p hp).keep hb⟩
theorem OwP.more {z : Nat} {w2 w3 : World} {V v3 : Value} {P : List Pv} {p : Pv} (h : OwP z w2 V P) (ho : OwnPv w3 z v3 (P ++ [p])) (hg : w2.grownBy w3 V.ownBlock) (hp : NewSt w2 z p.a p.n p.c p.M) : OwP z w3 v3 (P ++ [p]) := by
  have hoff := ownV_off h.own hg
  refine ⟨ho, fun x hx => ?_⟩
  rcases List.mem_append.1 hx with hx | hx
  · exact (h.each x hx).kept hg.size hoff
  · rw [List.mem_singleton.1 hx]
    exact hp.kept hg.size hoff
theorem stk_map {S S' : List Sk} (h : S.map Sk.co = S'.map Sk.co) : (fun r => (stk S r).co) = fun r => (stk S' r).co := by
  funext r
  unfold stk
  split
  · have e : (S.map Sk.co)[(r - 1).toNat]? = (S'.map Sk.co)[(r - 1).toNat]? := by rw [h]
    rw [List.getElem?_map, List.getElem?_map] at e
    rw [List.getD_eq_getElem?_getD, List.getD_eq_getElem?_getD]
    cases e1 : S[(r - 1).toNat]? <;> cases e2 : S'[(r - 1).toNat]? <;> rw [e1, e2] at e <;> simp_all
  · rfl
set_option maxRecDepth 100000 in
set_option maxHeartbeats 16000000 in
theorem planPuts_walk (a : Option Addr) (n c : Nat) (L : List Sr) (pa : Option Addr) (pn pc : Nat) (LP : List Vr) (ow : Int) (w : World) (h0 : SrsIn w a n c L) (h1 : VrsIn w pa pn pc LP) :
    Calls Tryd.prog 4 #[.slice a n c, .slice pa pn pc, .int .i64 ow] w fun e w' => e = .returned (.bool true) ∧ Below w.heap.size w w' := by
  have KW : Hid (∀ W, Calls Tryd.prog 14 #[] W fun e w' => e = .returned (.bool true) ∧ Below W.heap.size W w') := pworks_true
  have KS : Hid (∀ W, Below w.heap.size w W → Calls Tryd.prog 7 #[.slice a n c] W fun e w' => ∃ a' n' c' S, e = .returned (.slice a' n' c') ∧ InSk w' a' S ∧ S.length = n' ∧ n' ≤ 9 ∧ (∀ x ∈ S, SkOk w' x) ∧ S.map Sk.co = stacksC L ∧ Below W.heap.size W w') := fun W hW => by
    refine (stacksOf_is W a n c L ⟨h0.1, h0.2.1, h0.2.2.keep hW⟩).mono ?_
    rintro e w' ⟨a', n', c', S, rfl, h1, h2, h3, h4, h5, h6, h7, h8⟩
    exact ⟨a', n', c', S, rfl, h5, h1, h2, fun x hx => (h6 x hx).ok, h7, h8⟩
  have HP0 : Hid (LP.length = pn ∧ pn ≤ pc ∧ InVr w pa LP) := h1
  clear h0 h1
  go_enter Tryd.func4, Tryd.ntmps4
  -- the first ten plans
  obtain ⟨m, hm⟩ : ∃ m, m = min pn 10 := ⟨_, rfl⟩
  have HM : Hid (m = min pn 10) := hm
  go_upto_if 16 with fail
  go_cut [1] from 16 to 18 (fun s1 wx => s1 = .slice pa m pc ∧ wx = w)
  case first =>
    by_cases h10 : 10 < pn
    · have d1 : decide ((10 : Int) < (pn : Int)) = true := by rw [decide_eq_true_eq]; omega
      have d2 : decide (10 < pn) = true := decide_eq_true h10
      have q1 : (10 : Int) ≤ (pc : Int) := by have := HP0.out.2.1; omega
      have h10' : (10 : Int) < (pn : Int) := by omega
      have HE : Hid (m = 10) := by show _ = _; omega
      clear hm
      go_wp2_with fail
      go_meet
      case rel => exact ⟨by rw [HE.out], rfl⟩
    · have d1 : decide ((10 : Int) < (pn : Int)) = false := by rw [decide_eq_false_iff_not]; omega
      have d2 : decide (10 < pn) = false := decide_eq_false h10
      have h10' : ¬ (10 : Int) < (pn : Int) := by omega
      have HE : Hid (m = pn) := by show _ = _; omega
      clear hm
      go_wp2_with fail
      go_meet
      case rel => exact ⟨by rw [HE.out], rfl⟩
  obtain ⟨rfl, hwc⟩ := hcut
  obtain rfl := hwc.symm
  clear hwc hm
  have HP : Hid ((LP.take m).length = m ∧ m ≤ 10 ∧ m ≤ pc ∧ InVr w pa (LP.take m)) := by
    have := HM.out
    have h2 := HP0.out
    refine ⟨by rw [List.length_take, h2.1]; omega, by omega, by omega, h2.2.2.take m⟩
  go_wp2_with fail
  go_loopg [7, 21] m (fun g V i wr => ∃ (j : Nat) (P : List Pv), j ≤ m ∧ g = m - j ∧ i = .int .i64 (j : Int) ∧ Hid (OwP w.heap.size wr V P ∧ P.length = j ∧ Below w.heap.size w wr))
  case atStart => exact ⟨0, [], Nat.zero_le _, rfl, rfl, ⟨OwnPv.nil _ _, fun p hp => by cases hp⟩, rfl, Below.refl _ _⟩
  case round =>
    obtain ⟨j, P, hj, rfl, rfl, RW⟩ := hrel
    by_cases hlt : j < m
    · have j1 : decide ((j : Int) < (m : Int)) = true := by rw [decide_eq_true_eq]; omega
      have j3 : decide (j < m) = true := by rw [decide_eq_true_eq]; omega
      have j4 : (j : Int) < (m : Int) := by omega
      have ri : IntKind.i64.wrap ((j : Int) + 1) = (j : Int) + 1 := by rw [IntKind.wrap_i64]; have := HP.out.2.1; omega
      obtain ⟨x, hx⟩ : ∃ x, (LP.take m)[j]? = some x := ⟨(LP.take m)[j]'(by rw [HP.out.1]; exact hlt), List.getElem?_eq_getElem _⟩
      obtain ⟨b, off, rfl, hbw, hpc, hok⟩ := HP.out.2.2.2.at hx
      have HC : Hid (∀ W, Below w.heap.size w W → W.cell? ⟨b, off + j * 2, none⟩ = some (.int .i64 x.r) ∧ W.cell? ⟨b, off + j * 2 + 1, none⟩ = some (.slice x.a x.n x.c)) := fun W hW => ⟨by simpa using hpc W hW 0 _ rfl, hpc W hW 1 _ rfl⟩
      have KP : Hid (∀ W, Below w.heap.size w W → Calls Tryd.prog 15 #[.slice x.a x.n x.c] W fun e w' => ∃ a' n' c' M, e = .returned (.slice a' n' c') ∧ NewSt w' W.heap.size a' n' c' M ∧ M.map co = packsC x.M ∧ Below W.heap.size W w') := fun W hW => by
        have h := hok.keep hW
        exact packs_is W x.a x.n x.c x.M h.1 h.2.2.1 h.2.1 h.2.2.2
      obtain ⟨xr, xa, xn, xc, xM⟩ := x
      simp only at HC KP
      clear hx hpc hok
      go_wp2_with fail
      refine wp_region_noPanic ?_
      refine wp_region_held_drew (S := (fun W : World => Below w.heap.size w W)) (by kernel_rfl) ?hSap (fun hHeld => ?restap)
      case hSap => exact below_drewM RW.out.2.2
      case restap =>
        refine wpAnyH_take (i := 0) (v := u7) rfl (by kernel_rfl) (by kernel_rfl) (by kernel_rfl) (fun _ _ _ h => h) (Or.inl ⟨by kernel_rfl, ?hy0p⟩) hHeld ?rest0p
        case hy0p => (intro w' hSw; (try dsimp only at hSw); go_simp; try with_reducible rfl)
        try simp only [Act.put, List.setIfInBounds_toArray, List.set_cons_zero, List.set_cons_succ, List.getElem_toArray, List.getElem_cons_zero, List.getElem_cons_succ]
        refine wpAnyH_take (i := 1) (v := .slice (some ⟨b, off, none⟩) m pc) rfl (by kernel_rfl) (by kernel_rfl) (by kernel_rfl) (fun _ _ _ h => h) (Or.inl ⟨by kernel_rfl, ?hy1p⟩) hHeld ?rest1p
        case hy1p => (intro w' hSw; (try dsimp only at hSw); go_simp; try with_reducible rfl)
        try simp only [Act.put, List.setIfInBounds_toArray, List.set_cons_zero, List.set_cons_succ, List.getElem_toArray, List.getElem_cons_zero, List.getElem_cons_succ]
        refine wpAnyH_take (i := 2) (v := .int .i64 (j : Int)) rfl (by kernel_rfl) (by kernel_rfl) (by kernel_rfl) (fun _ _ _ h => h) (Or.inl ⟨by kernel_rfl, ?hy2p⟩) hHeld ?rest2p
        case hy2p => (intro w' hSw; (try dsimp only at hSw); go_simp; try with_reducible rfl)
        try simp only [Act.put, List.setIfInBounds_toArray, List.set_cons_zero, List.set_cons_succ, List.getElem_toArray, List.getElem_cons_zero, List.getElem_cons_succ]
        refine wpAnyH_take (i := 3) (v := .pointer (some ⟨b, off + j * 2, none⟩)) rfl (by kernel_rfl) (by kernel_rfl) (by kernel_rfl) (fun _ _ _ h => h) (Or.inl ⟨by kernel_rfl, ?hy3p⟩) hHeld ?rest3p
        case hy3p => (intro w' hSw; (try dsimp only at hSw); go_simp; try with_reducible rfl)
        try simp only [Act.put, List.setIfInBounds_toArray, List.set_cons_zero, List.set_cons_succ, List.getElem_toArray, List.getElem_cons_zero, List.getElem_cons_succ]
        refine wpAnyH_take (i := 4) (v := .pointer (some ⟨b, off + j * 2, none⟩)) rfl (by kernel_rfl) (by kernel_rfl) (by kernel_rfl) (fun _ _ _ h => h) (Or.inl ⟨by kernel_rfl, ?hy4p⟩) hHeld ?rest4p
        case hy4p => (intro w' hSw; (try dsimp only at hSw); go_simp; try with_reducible rfl)
        try simp only [Act.put, List.setIfInBounds_toArray, List.set_cons_zero, List.set_cons_succ, List.getElem_toArray, List.getElem_cons_zero, List.getElem_cons_succ]
        refine wpAnyH_take (i := 5) (v := .int .i64 xr) rfl (by kernel_rfl) (by kernel_rfl) (by kernel_rfl) (fun _ _ _ h => h) (Or.inl ⟨by kernel_rfl, ?hy5p⟩) hHeld ?rest5p
        case hy5p => (intro w' hSw; (try dsimp only at hSw); obtain ⟨p0, p1⟩ := HC.out _ hSw; go_simp; try with_reducible rfl)
        try simp only [Act.put, List.setIfInBounds_toArray, List.set_cons_zero, List.set_cons_succ, List.getElem_toArray, List.getElem_cons_zero, List.getElem_cons_succ]
        refine wpAnyH_take (i := 6) (v := .slice (some ⟨b, off, none⟩) m pc) rfl (by kernel_rfl) (by kernel_rfl) (by kernel_rfl) (fun _ _ _ h => h) (Or.inl ⟨by kernel_rfl, ?hy6p⟩) hHeld ?rest6p
        case hy6p => (intro w' hSw; (try dsimp only at hSw); go_simp; try with_reducible rfl)
        try simp only [Act.put, List.setIfInBounds_toArray, List.set_cons_zero, List.set_cons_succ, List.getElem_toArray, List.getElem_cons_zero, List.getElem_cons_succ]
        refine wpAnyH_take (i := 7) (v := .int .i64 (j : Int)) rfl (by kernel_rfl) (by kernel_rfl) (by kernel_rfl) (fun _ _ _ h => h) (Or.inl ⟨by kernel_rfl, ?hy7p⟩) hHeld ?rest7p
        case hy7p => (intro w' hSw; (try dsimp only at hSw); go_simp; try with_reducible rfl)
        try simp only [Act.put, List.setIfInBounds_toArray, List.set_cons_zero, List.set_cons_succ, List.getElem_toArray, List.getElem_cons_zero, List.getElem_cons_succ]
        refine wpAnyH_take (i := 8) (v := .pointer (some ⟨b, off + j * 2, none⟩)) rfl (by kernel_rfl) (by kernel_rfl) (by kernel_rfl) (fun _ _ _ h => h) (Or.inl ⟨by kernel_rfl, ?hy8p⟩) hHeld ?rest8p
        case hy8p => (intro w' hSw; (try dsimp only at hSw); go_simp; try with_reducible rfl)
        try simp only [Act.put, List.setIfInBounds_toArray, List.set_cons_zero, List.set_cons_succ, List.getElem_toArray, List.getElem_cons_zero, List.getElem_cons_succ]
        refine wpAnyH_take (i := 9) (v := .pointer (some ⟨b, off + j * 2 + 1, none⟩)) rfl (by kernel_rfl) (by kernel_rfl) (by kernel_rfl) (fun _ _ _ h => h) (Or.inl ⟨by kernel_rfl, ?hy9p⟩) hHeld ?rest9p
        case hy9p => (intro w' hSw; (try dsimp only at hSw); go_simp; try with_reducible rfl)
        try simp only [Act.put, List.setIfInBounds_toArray, List.set_cons_zero, List.set_cons_succ, List.getElem_toArray, List.getElem_cons_zero, List.getElem_cons_succ]
        refine wpAnyH_take (i := 10) (v := .slice xa xn xc) rfl (by kernel_rfl) (by kernel_rfl) (by kernel_rfl) (fun _ _ _ h => h) (Or.inl ⟨by kernel_rfl, ?hy10p⟩) hHeld ?rest10p
        case hy10p => (intro w' hSw; (try dsimp only at hSw); obtain ⟨p0, p1⟩ := HC.out _ hSw; go_simp; try with_reducible rfl)
        try simp only [Act.put, List.setIfInBounds_toArray, List.set_cons_zero, List.set_cons_succ, List.getElem_toArray, List.getElem_cons_zero, List.getElem_cons_succ]
        refine wpAnyH_ready (rs := [11]) (by kernel_rfl) (by simp) ?_
        refine AllReadyH.cons rfl (fun K hK => ?_) AllReadyH.nil
        go_simp
        refine (KP.out _ (below_drewM RW.out.2.2)).mono ?_
        rintro e5 w5 ⟨a2, n2, c2, M2, rfl, s2, m2, b5⟩
        have X5 : Hid (NewSt w5 w.heap.size a2 n2 c2 M2 ∧ Below wr.heap.size wr w5 ∧ OwP w.heap.size w5 u7 P) := ⟨NewSt.base s2 RW.out.2.2.size, ((Below.refl _ wr).drew).trans b5, RW.out.1.keep (((Below.refl _ wr).drew).trans b5)⟩
        clear s2 m2 b5
        go_wp2_with fail
        refine hK.out _ _ ?hS11p (fun hHeld => ?rest11p)
        case hS11p => exact RW.out.2.2.trans (X5.out.2.1.mono RW.out.2.2.size)
        clear hK K
        try simp only [Act.put, List.setIfInBounds_toArray, List.set_cons_zero, List.set_cons_succ, List.getElem_toArray, List.getElem_cons_zero, List.getElem_cons_succ]
        refine wpAnyH_take (i := 12) (v := .agg #[.int .i64 xr, .slice a2 n2 c2]) rfl (by kernel_rfl) (by kernel_rfl) (by kernel_rfl) (fun _ _ _ h => h) (Or.inl ⟨by kernel_rfl, ?hy12p⟩) hHeld ?rest12p
        case hy12p => (intro w' hSw; (try dsimp only at hSw); go_simp; try with_reducible rfl)
        try simp only [Act.put, List.setIfInBounds_toArray, List.set_cons_zero, List.set_cons_succ, List.getElem_toArray, List.getElem_cons_zero, List.getElem_cons_succ]
        have A6 : Hid (Below wr.heap.size wr (w5.alloc (.cells #[.int .i64 xr, .slice a2 n2 c2] 36)) ∧ NewSt (w5.alloc (.cells #[.int .i64 xr, .slice a2 n2 c2] 36)) w.heap.size a2 n2 c2 M2 ∧ OwP w.heap.size (w5.alloc (.cells #[.int .i64 xr, .slice a2 n2 c2] 36)) u7 P ∧ (w5.alloc (.cells #[.int .i64 xr, .slice a2 n2 c2] 36)).heap[w5.heap.size]? = some (.cells #[.int .i64 xr, .slice a2 n2 c2] 36)) := ⟨X5.out.2.1.alloc X5.out.2.1.size _, X5.out.1.keep (below1 w5 _), X5.out.2.2.keep (below1 w5 _), heap_alloc_new w5 _⟩
        refine wpAnyH_ready (rs := [13]) (by kernel_rfl) (by simp) ?_
        refine AllReadyH.cons rfl (fun K hK => ?_) AllReadyH.nil
        go_wp2_with fail
        refine hK.out _ _ ?hS13p (fun hHeld => ?rest13p)
        case hS13p => exact RW.out.2.2.trans (A6.out.1.mono RW.out.2.2.size)
        clear hK K
        try simp only [Act.put, List.setIfInBounds_toArray, List.set_cons_zero, List.set_cons_succ, List.getElem_toArray, List.getElem_cons_zero, List.getElem_cons_succ]
        refine wpAnyH_ready (rs := [14]) (by kernel_rfl) (by simp) ?_
        refine AllReadyH.cons rfl (fun K hK => ?_) AllReadyH.nil
        first | rw [if_pos (by kernel_rfl)] | skip
        refine wp_append_pv (.tmp 24) (.tmp 37) rfl w.heap.size _ P rfl A6.out.2.2.1.own w5.heap.size 1 ⟨xr, a2, n2, c2, M2⟩ rfl A6.out.2.2.2 (by have := RW.out.2.1; have := HP.out.2.1; omega) (by have h1 := RW.out.2.2.size; have h2 := A6.out.1.size; exact Nat.le_trans h1 h2) ?_
        intro v9 w9 o9 g9
        have O9 : Hid (OwP w.heap.size w9 v9 (P ++ [⟨xr, a2, n2, c2, M2⟩]) ∧ Below w.heap.size w w9) := ⟨A6.out.2.2.1.more o9 g9 A6.out.2.1, (RW.out.2.2.trans (A6.out.1.mono RW.out.2.2.size)).grown g9 (by have h1 := RW.out.2.2.size; have h2 := A6.out.1.size; exact Nat.le_trans h1 h2) (fun q hq => (A6.out.2.2.1.own.own q hq).1)⟩
        clear o9 g9
        refine hK.out _ _ ?hS14p (fun hHeld => ?rest14p)
        case hS14p => exact O9.out.2
        clear hK K
        try simp only [Act.put, List.setIfInBounds_toArray, List.set_cons_zero, List.set_cons_succ, List.getElem_toArray, List.getElem_cons_zero, List.getElem_cons_succ]
        refine wpAnyH_take (i := 15) (v := v9) rfl (by kernel_rfl) (by kernel_rfl) (by kernel_rfl) (fun _ _ _ h => h) (Or.inl ⟨by kernel_rfl, ?hy15p⟩) hHeld ?rest15p
        case hy15p => (intro w' hSw; (try dsimp only at hSw); go_simp; try with_reducible rfl)
        try simp only [Act.put, List.setIfInBounds_toArray, List.set_cons_zero, List.set_cons_succ, List.getElem_toArray, List.getElem_cons_zero, List.getElem_cons_succ]
        refine wpAnyH_done (by kernel_rfl) ?_ _
        refine NoPanic.normal ?_
        try go_wp2_with fail
        go_roundg (m - (j + 1))
        case measure => omega
        case rel => exact ⟨j + 1, P ++ [⟨xr, a2, n2, c2, M2⟩], by omega, rfl, by push_cast; rfl, O9.out.1, by rw [List.length_append, RW.out.2.1]; rfl, O9.out.2⟩
    · obtain rfl : j = m := by omega
      have j1 : decide ((j : Int) < (j : Int)) = false := by rw [decide_eq_false_iff_not]; omega
      have j3 : decide (j < j) = false := by rw [decide_eq_false_iff_not]; omega
      obtain ⟨wo, hwo⟩ : ∃ wo, wo = wr := ⟨_, rfl⟩
      rw [← hwo] at RW ⊢
      clear hwo
      have HF : Hid (∃ a' c', u7 = .slice a' j c' ∧ InPv wo a' P ∧ j ≤ c' ∧ c' ≤ 9223372036854775807) := by
        obtain ⟨a', c', hv, h1, h2, h3, _⟩ := RW.out.1.own.slice (fun x hx => (RW.out.1.each x hx).st)
        rw [RW.out.2.1] at hv h2
        exact ⟨a', c', hv, h1, h2, h3⟩
      go_wp2_with fail
      obtain ⟨oa, oc, hu7, hin, hoc, hoc9⟩ := HF.out
      subst hu7
      have HO : Hid (InPv wo oa P ∧ P.length = j ∧ j ≤ 10 ∧ j ≤ oc ∧ (∀ p ∈ P, PvOk wo p) ∧ Below w.heap.size w wo) := ⟨hin, RW.out.2.1, HP.out.2.1, hoc, fun p hp => (RW.out.1.each p hp).st, RW.out.2.2⟩
      clear hin hoc hoc9 HF RW HP0 HP HM
      have KMO : Hid (∀ W (A : Sk) (B : Pv), SkOk W A → PvOk W B → Calls Tryd.prog 18 #[.slice A.a A.n A.c, .slice B.a B.n B.c, .int .i64 ow] W fun e w' => e = .returned (.int .i64 (moreE ow A.M B.M)) ∧ Below W.heap.size W w') := fun W A B hA hB => more_is W A.a A.n A.c A.M hA B.a B.n B.c B.M hB ow
      have KRM : Hid (∀ W (A : Sk) (B : Pv), SkOk W A → PvOk W B → Calls Tryd.prog 19 #[.slice A.a A.n A.c, .slice B.a B.n B.c, .int .i64 ow] W fun e w' => e = .returned (.int .i64 (moreE ow A.M B.M)) ∧ Below W.heap.size W w') := fun W A B hA hB => rmore_is W A.a A.n A.c A.M hA B.a B.n B.c B.M hB ow
      refine (KS.out wo HO.out.2.2.2.2.2).mono ?_
      rintro e w1 ⟨a1, n1, c1, S, rfl, s1, s2, s3, s4, s5, b1⟩
      have B1 : Hid (Below w.heap.size w w1 ∧ Below wo.heap.size wo w1) := ⟨HO.out.2.2.2.2.2.trans (b1.mono HO.out.2.2.2.2.2.size), b1⟩
      have HS : Hid (InSk w1 a1 S ∧ S.length = n1 ∧ n1 ≤ 9 ∧ (∀ x ∈ S, SkOk w1 x) ∧ S.map Sk.co = stacksC L) := ⟨s1, s2, s3, s4, s5⟩
      have KPU : Hid (Calls Tryd.prog 16 #[.slice a1 n1 c1, .slice oa j oc] w1 fun e w' => ∃ g T, e = .returned (.slice (some ⟨g, 0, none⟩) 6 6) ∧ Ar w' g w1.heap.size T ∧ T.map Sk.co = putC (fun r => (stk S r).co) (P.map fun x => (x.r, x.co)) ∧ Below w1.heap.size w1 w') := by
        refine (put_is w1 a1 n1 c1 S s1 s2 s4 (by omega) oa j oc P (HO.out.1.keep b1) HO.out.2.1 (by have := HO.out.2.2.1; omega) _ rfl).mono ?_
        rintro e w' ⟨g, T, rfl, _, h1, h2, h3⟩
        exact ⟨g, T, rfl, h1, h2, h3⟩
      clear s1 s2 s3 s4 s5 b1
      go_wp2_with fail
      refine KPU.out.mono ?_
      rintro e w2 ⟨g, T, rfl, t1, t2, b2⟩
      have HT : Hid (Ar w2 g w1.heap.size T ∧ T.map Sk.co = putC (fun r => (stk S r).co) (P.map fun x => (x.r, x.co)) ∧ Below w1.heap.size w1 w2) := ⟨t1, t2, b2⟩
      have B2 : Hid (Below w.heap.size w w2) := B1.out.1.trans (b2.mono B1.out.1.size)
      clear t1 t2 b2 KPU
      go_wp2_with fail
      refine (KS.out w2 B2.out).mono ?_
      rintro e w3 ⟨a3, n3, c3, S3, rfl, s1, s2, s3, s4, s5, b3⟩
      have B3 : Hid (Below w.heap.size w w3 ∧ Below w2.heap.size w2 w3) := ⟨B2.out.trans (b3.mono B2.out.size), b3⟩
      have BO3 : Hid (Below wo.heap.size wo w3) := B1.out.2.trans ((HT.out.2.2.trans (b3.mono HT.out.2.2.size)).mono B1.out.2.size)
      have HS3 : Hid (S3.map Sk.co = S.map Sk.co) := s5.trans HS.out.2.2.2.2.symm
      have KRP : Hid (Calls Tryd.prog 17 #[.slice a3 n3 c3, .slice oa j oc] w3 fun e w' => ∃ a' c', e = .returned (.slice a' 6 c') ∧ InSk w' a' (sixR S3 P 6) ∧ Below w3.heap.size w3 w') := by
        refine (rput_is w3 a3 n3 c3 S3 s1 s2 s4 (by omega) oa j oc P (HO.out.1.keep BO3.out) (fun x hx => (HO.out.2.2.2.2.1 x hx).keep BO3.out) HO.out.2.1 (by have := HO.out.2.2.1; omega)).mono ?_
        rintro e w' ⟨a', c', rfl, _, _, h1, h2⟩
        exact ⟨a', c', rfl, h1, h2⟩
      clear s1 s2 s3 s4 s5 b3
      go_wp2_with fail
      refine KRP.out.mono ?_
      rintro e w4 ⟨a4, c4, rfl, i4, b4⟩
      have B24 : Hid (Below w2.heap.size w2 w4) := B3.out.2.trans (b4.mono B3.out.2.size)
      have KSS : Hid (Calls Tryd.prog 13 #[.slice (some ⟨g, 0, none⟩) 6 6, .slice a4 6 c4] w4 fun e w' => e = .returned (.bool true) ∧ Below w4.heap.size w4 w') :=
        rsamest_true w4 _ _ 6 6 c4 T (sixR S3 P 6) HT.out.1.1 (ar_in (ar_keep HT.out.1 B24.out)) i4 (by rw [HT.out.2.1, sixR_co, stk_map HS3.out]) (by omega)
      clear i4 b4 KRP
      go_wp2_with fail
      refine KSS.out.mono ?_
      rintro e w5 ⟨rfl, b5⟩
      have B25 : Hid (Below w2.heap.size w2 w5) := B24.out.trans (b5.mono B24.out.size)
      have B15 : Hid (Below w1.heap.size w1 w5) := HT.out.2.2.trans (B25.out.mono HT.out.2.2.size)
      have HT5 : Hid (Ar w5 g w1.heap.size T) := ar_keep HT.out.1 B25.out
      clear b5 KSS
      go_wp2_with fail
      have KSP : Hid (∀ W (k : Nat), Soft w1.heap.size w5 W → k < 6 → ∃ a n c, W.cell? ⟨g, k, none⟩ = some (.slice a n c) ∧ SpO W w1.heap.size a n ∧ n ≤ 20) := fun W k hW hk => by
        obtain ⟨x, hx⟩ : ∃ x, T[k]? = some x := ⟨T[k]'(by rw [HT.out.1.1]; exact hk), List.getElem?_eq_getElem _⟩
        have hn := HT5.out.2.2 x (List.mem_of_getElem? hx)
        refine ⟨x.a, x.n, x.c, hW.slice ?_, (new_spo hn).soft hW, (NewSt.st hn).big⟩
        have := sks_get T k x hx
        simp [World.cell?, HT5.out.2.1, this]
      go_loopg [53] 6 (fun gg i wr => ∃ (k : Nat), k ≤ 6 ∧ gg = 6 - k ∧ i = .int .i64 (k : Int) ∧ Hid (Soft w1.heap.size w5 wr))
      case atStart => exact ⟨0, by omega, rfl, rfl, ⟨by have h := B15.out.size; exact (Below.refl _ w5).mono h, fun _ => .inl rfl, fun k cs t h => ⟨cs, h⟩⟩⟩
      case round =>
        obtain ⟨k, hk, rfl, rfl, RS⟩ := hrel
        by_cases hlt : k < 6
        · have j1 : decide ((k : Int) < 6) = true := by rw [decide_eq_true_eq]; omega
          have j3 : decide (k < 6) = true := by rw [decide_eq_true_eq]; omega
          have j4 : (k : Int) < 6 := by omega
          have ri : IntKind.i64.wrap ((k : Int) + 1) = (k : Int) + 1 := by rw [IntKind.wrap_i64]; omega
          obtain ⟨a6, n6, c6, hc6, hs6, hn6⟩ := KSP.out wr k RS.out hlt
          have KK : Hid (Calls Tryd.prog 12 #[.slice a6 n6 c6] wr fun e w' => e = .returned (.tuple #[]) ∧ Soft w1.heap.size wr w') := spoil_is wr w1.heap.size a6 n6 c6 hs6 (by have h1 := B15.out.size; have h2 := RS.out.bel.size; omega) (by omega)
          clear hs6 hn6
          go_wp2_with fail
          refine KK.out.mono ?_
          rintro e w6 ⟨rfl, sf⟩
          have R6 : Hid (Soft w1.heap.size w5 w6) := RS.out.trans sf
          clear sf KK hc6
          go_wp2_with fail
          go_roundg (6 - (k + 1))
          case measure => omega
          case rel => exact ⟨k + 1, by omega, rfl, by push_cast; rfl, R6⟩
        · obtain rfl : k = 6 := by omega
          have j1 : decide (((6 : Nat) : Int) < 6) = false := by decide
          have j3 : decide ((6 : Nat) < 6) = false := by decide
          obtain ⟨w6, hw6⟩ : ∃ w6, w6 = wr := ⟨_, rfl⟩
          rw [← hw6] at RS ⊢
          clear hw6
          have B16 : Hid (Below w1.heap.size w1 w6) := B15.out.trans RS.out.bel
          have B6 : Hid (Below w.heap.size w w6) := B1.out.1.trans (B16.out.mono B1.out.1.size)
          clear RS KSP HT5 HT B25 B15 B24 B3 BO3
          go_wp2_with fail
          refine (KS.out w6 B6.out).mono ?_
          rintro e w7 ⟨a7, n7, c7, S7, rfl, s1, s2, s3, s4, s5, b7⟩
          have B17 : Hid (Below w1.heap.size w1 w7) := B16.out.trans (b7.mono B16.out.size)
          have hn7 : n7 = n1 := by rw [← s2, ← HS.out.2.1, ← List.length_map (f := Sk.co), s5, ← HS.out.2.2.2.2, List.length_map]
          subst hn7
          have KSS : Hid (Calls Tryd.prog 13 #[.slice a1 n7 c1, .slice a7 n7 c7] w7 fun e w' => e = .returned (.bool true) ∧ Below w7.heap.size w7 w') :=
            rsamest_true w7 _ _ n7 c1 c7 S S7 HS.out.2.1 (HS.out.1.keep B17.out) s1 (HS.out.2.2.2.2.trans s5.symm) (by omega)
          clear s1 s2 s3 s4 s5 b7
          go_wp2_with fail
          refine KSS.out.mono ?_
          rintro e w8 ⟨rfl, b8⟩
          have B18 : Hid (Below w1.heap.size w1 w8) := B17.out.trans (b8.mono B17.out.size)
          clear b8 KSS
          go_wp2_with fail
          go_loopg [73] j (fun gg i wr => ∃ (k : Nat), k ≤ j ∧ gg = j - k ∧ i = .int .i64 (k : Int) ∧ Hid (Below w1.heap.size w1 wr))
          case atStart => exact ⟨0, Nat.zero_le _, rfl, rfl, B18.out⟩
          case round =>
            obtain ⟨k, hk, rfl, rfl, RQ⟩ := hrel
            by_cases hlt : k < j
            · have j1 : decide ((k : Int) < (j : Int)) = true := by rw [decide_eq_true_eq]; omega
              have j3 : decide (k < j) = true := by rw [decide_eq_true_eq]; omega
              have j4 : (k : Int) < (j : Int) := by omega
              have ri : IntKind.i64.wrap ((k : Int) + 1) = (k : Int) + 1 := by rw [IntKind.wrap_i64]; have := HO.out.2.2.1; omega
              by_cases hin : k < n7
              · have k1 : decide ((k : Int) < (n7 : Int)) = true := by rw [decide_eq_true_eq]; omega
                have k3 : decide (k < n7) = true := by rw [decide_eq_true_eq]; omega
                have k4 : (k : Int) < (n7 : Int) := by omega
                obtain ⟨A, hA⟩ : ∃ x, S[k]? = some x := ⟨S[k]'(by rw [HS.out.2.1]; exact hin), List.getElem?_eq_getElem _⟩
                obtain ⟨Bp, hB⟩ : ∃ x, P[k]? = some x := ⟨P[k]'(by rw [HO.out.2.1]; exact hlt), List.getElem?_eq_getElem _⟩
                obtain ⟨b2, off2, rfl, _, hpa, hoa⟩ := HS.out.1.at hA
                obtain ⟨b3, off3, rfl, _, hpb, hob⟩ := HO.out.1.at hB
                have HC : Hid (∀ W, Below w1.heap.size w1 W → W.cell? ⟨b2, off2 + k, none⟩ = some (.slice A.a A.n A.c) ∧ W.cell? ⟨b3, off3 + k * 2 + 1, none⟩ = some (.slice Bp.a Bp.n Bp.c)) := fun W hW => ⟨by simpa using hpa W hW 0 _ rfl, hpb W (B1.out.2.trans (hW.mono B1.out.2.size)) 1 _ rfl⟩
                have K1 : Hid (∀ W, Below w1.heap.size w1 W → Calls Tryd.prog 18 #[.slice A.a A.n A.c, .slice Bp.a Bp.n Bp.c, .int .i64 ow] W fun e w' => e = .returned (.int .i64 (moreE ow A.M Bp.M)) ∧ Below W.heap.size W w') := fun W hW => KMO.out W A Bp (hoa.keep hW) (hob.keep (B1.out.2.trans (hW.mono B1.out.2.size)))
                have K2 : Hid (∀ W, Below w1.heap.size w1 W → Calls Tryd.prog 19 #[.slice A.a A.n A.c, .slice Bp.a Bp.n Bp.c, .int .i64 ow] W fun e w' => e = .returned (.int .i64 (moreE ow A.M Bp.M)) ∧ Below W.heap.size W w') := fun W hW => KRM.out W A Bp (hoa.keep hW) (hob.keep (B1.out.2.trans (hW.mono B1.out.2.size)))
                generalize moreE ow A.M Bp.M = z at K1 K2
                have zz : (z != z) = false := by simp
                obtain ⟨Aa, An, Ac, AM⟩ := A
                obtain ⟨Br, Ba, Bn, Bc, BM⟩ := Bp
                simp only at HC K1 K2
                clear hA hB hpa hpb hoa hob hin KMO KRM
                go_wp2_with fail
                refine wp_region_noPanic ?_
                refine wp_region_held_drew (S := (fun W : World => Below w1.heap.size w1 W)) (by kernel_rfl) ?hSaq (fun hHeld => ?restaq)
                case hSaq => exact below_drewM RQ.out
                case restaq =>
                  refine wpAnyH_take (i := 0) (v := .int .i64 (k : Int)) rfl (by kernel_rfl) (by kernel_rfl) (by kernel_rfl) (fun _ _ _ h => h) (Or.inl ⟨by kernel_rfl, ?hy0q⟩) hHeld ?rest0q
                  case hy0q => (intro w' hSw; (try dsimp only at hSw); go_simp; try with_reducible rfl)
                  try simp only [Act.put, List.setIfInBounds_toArray, List.set_cons_zero, List.set_cons_succ, List.getElem_toArray, List.getElem_cons_zero, List.getElem_cons_succ]
                  refine wpAnyH_take (i := 1) (v := .slice (some ⟨b2, off2, none⟩) n7 c1) rfl (by kernel_rfl) (by kernel_rfl) (by kernel_rfl) (fun _ _ _ h => h) (Or.inl ⟨by kernel_rfl, ?hy1q⟩) hHeld ?rest1q
                  case hy1q => (intro w' hSw; (try dsimp only at hSw); go_simp; try with_reducible rfl)
                  try simp only [Act.put, List.setIfInBounds_toArray, List.set_cons_zero, List.set_cons_succ, List.getElem_toArray, List.getElem_cons_zero, List.getElem_cons_succ]
                  refine wpAnyH_take (i := 2) (v := .int .i64 (n7 : Int)) rfl (by kernel_rfl) (by kernel_rfl) (by kernel_rfl) (fun _ _ _ h => h) (Or.inl ⟨by kernel_rfl, ?hy2q⟩) hHeld ?rest2q
                  case hy2q => (intro w' hSw; (try dsimp only at hSw); go_simp; try with_reducible rfl)
                  try simp only [Act.put, List.setIfInBounds_toArray, List.set_cons_zero, List.set_cons_succ, List.getElem_toArray, List.getElem_cons_zero, List.getElem_cons_succ]
                  refine wpAnyH_take (i := 3) (v := .bool true) rfl (by kernel_rfl) (by kernel_rfl) (by kernel_rfl) (fun _ _ _ h => h) (Or.inl ⟨by kernel_rfl, ?hy3q⟩) hHeld ?rest3q
                  case hy3q => (intro w' hSw; (try dsimp only at hSw); go_simp; try with_reducible rfl)
                  try simp only [Act.put, List.setIfInBounds_toArray, List.set_cons_zero, List.set_cons_succ, List.getElem_toArray, List.getElem_cons_zero, List.getElem_cons_succ]
                  refine wpAnyH_take (i := 4) (v := .bool true) rfl (by kernel_rfl) (by kernel_rfl) (by kernel_rfl) (fun _ _ _ h => h) (Or.inl ⟨by kernel_rfl, ?hy4q⟩) hHeld ?rest4q
                  case hy4q => (intro w' hSw; (try dsimp only at hSw); go_simp; try with_reducible rfl)
                  try simp only [Act.put, List.setIfInBounds_toArray, List.set_cons_zero, List.set_cons_succ, List.getElem_toArray, List.getElem_cons_zero, List.getElem_cons_succ]
                  refine wpAnyH_take (i := 5) (v := .slice (some ⟨b2, off2, none⟩) n7 c1) rfl (by kernel_rfl) (by kernel_rfl) (by kernel_rfl) (fun _ _ _ h => h) (Or.inl ⟨by kernel_rfl, ?hy5q⟩) hHeld ?rest5q
                  case hy5q => (intro w' hSw; (try dsimp only at hSw); go_simp; try with_reducible rfl)
                  try simp only [Act.put, List.setIfInBounds_toArray, List.set_cons_zero, List.set_cons_succ, List.getElem_toArray, List.getElem_cons_zero, List.getElem_cons_succ]
                  refine wpAnyH_take (i := 6) (v := .int .i64 (k : Int)) rfl (by kernel_rfl) (by kernel_rfl) (by kernel_rfl) (fun _ _ _ h => h) (Or.inl ⟨by kernel_rfl, ?hy6q⟩) hHeld ?rest6q
                  case hy6q => (intro w' hSw; (try dsimp only at hSw); go_simp; try with_reducible rfl)
                  try simp only [Act.put, List.setIfInBounds_toArray, List.set_cons_zero, List.set_cons_succ, List.getElem_toArray, List.getElem_cons_zero, List.getElem_cons_succ]
                  refine wpAnyH_take (i := 7) (v := .pointer (some ⟨b2, off2 + k, none⟩)) rfl (by kernel_rfl) (by kernel_rfl) (by kernel_rfl) (fun _ _ _ h => h) (Or.inl ⟨by kernel_rfl, ?hy7q⟩) hHeld ?rest7q
                  case hy7q => (intro w' hSw; (try dsimp only at hSw); go_simp; try with_reducible rfl)
                  try simp only [Act.put, List.setIfInBounds_toArray, List.set_cons_zero, List.set_cons_succ, List.getElem_toArray, List.getElem_cons_zero, List.getElem_cons_succ]
                  refine wpAnyH_take (i := 8) (v := .slice Aa An Ac) rfl (by kernel_rfl) (by kernel_rfl) (by kernel_rfl) (fun _ _ _ h => h) (Or.inl ⟨by kernel_rfl, ?hy8q⟩) hHeld ?rest8q
                  case hy8q => (intro w' hSw; (try dsimp only at hSw); obtain ⟨p0, p1⟩ := HC.out _ hSw; go_simp; try with_reducible rfl)
                  try simp only [Act.put, List.setIfInBounds_toArray, List.set_cons_zero, List.set_cons_succ, List.getElem_toArray, List.getElem_cons_zero, List.getElem_cons_succ]
                  refine wpAnyH_take (i := 9) (v := .slice (some ⟨b3, off3, none⟩) j oc) rfl (by kernel_rfl) (by kernel_rfl) (by kernel_rfl) (fun _ _ _ h => h) (Or.inl ⟨by kernel_rfl, ?hy9q⟩) hHeld ?rest9q
                  case hy9q => (intro w' hSw; (try dsimp only at hSw); go_simp; try with_reducible rfl)
                  try simp only [Act.put, List.setIfInBounds_toArray, List.set_cons_zero, List.set_cons_succ, List.getElem_toArray, List.getElem_cons_zero, List.getElem_cons_succ]
                  refine wpAnyH_take (i := 10) (v := .int .i64 (k : Int)) rfl (by kernel_rfl) (by kernel_rfl) (by kernel_rfl) (fun _ _ _ h => h) (Or.inl ⟨by kernel_rfl, ?hy10q⟩) hHeld ?rest10q
                  case hy10q => (intro w' hSw; (try dsimp only at hSw); go_simp; try with_reducible rfl)
                  try simp only [Act.put, List.setIfInBounds_toArray, List.set_cons_zero, List.set_cons_succ, List.getElem_toArray, List.getElem_cons_zero, List.getElem_cons_succ]
                  refine wpAnyH_take (i := 11) (v := .pointer (some ⟨b3, off3 + k * 2, none⟩)) rfl (by kernel_rfl) (by kernel_rfl) (by kernel_rfl) (fun _ _ _ h => h) (Or.inl ⟨by kernel_rfl, ?hy11q⟩) hHeld ?rest11q
                  case hy11q => (intro w' hSw; (try dsimp only at hSw); go_simp; try with_reducible rfl)
                  try simp only [Act.put, List.setIfInBounds_toArray, List.set_cons_zero, List.set_cons_succ, List.getElem_toArray, List.getElem_cons_zero, List.getElem_cons_succ]
                  refine wpAnyH_take (i := 12) (v := .pointer (some ⟨b3, off3 + k * 2 + 1, none⟩)) rfl (by kernel_rfl) (by kernel_rfl) (by kernel_rfl) (fun _ _ _ h => h) (Or.inl ⟨by kernel_rfl, ?hy12q⟩) hHeld ?rest12q
                  case hy12q => (intro w' hSw; (try dsimp only at hSw); go_simp; try with_reducible rfl)
                  try simp only [Act.put, List.setIfInBounds_toArray, List.set_cons_zero, List.set_cons_succ, List.getElem_toArray, List.getElem_cons_zero, List.getElem_cons_succ]
                  refine wpAnyH_take (i := 13) (v := .slice Ba Bn Bc) rfl (by kernel_rfl) (by kernel_rfl) (by kernel_rfl) (fun _ _ _ h => h) (Or.inl ⟨by kernel_rfl, ?hy13q⟩) hHeld ?rest13q
                  case hy13q => (intro w' hSw; (try dsimp only at hSw); obtain ⟨p0, p1⟩ := HC.out _ hSw; go_simp; try with_reducible rfl)
                  try simp only [Act.put, List.setIfInBounds_toArray, List.set_cons_zero, List.set_cons_succ, List.getElem_toArray, List.getElem_cons_zero, List.getElem_cons_succ]
                  refine wpAnyH_take (i := 14) (v := .int .i64 ow) rfl (by kernel_rfl) (by kernel_rfl) (by kernel_rfl) (fun _ _ _ h => h) (Or.inl ⟨by kernel_rfl, ?hy14q⟩) hHeld ?rest14q
                  case hy14q => (intro w' hSw; (try dsimp only at hSw); go_simp; try with_reducible rfl)
                  try simp only [Act.put, List.setIfInBounds_toArray, List.set_cons_zero, List.set_cons_succ, List.getElem_toArray, List.getElem_cons_zero, List.getElem_cons_succ]
                  refine wpAnyH_take (i := 16) (v := .slice (some ⟨b2, off2, none⟩) n7 c1) rfl (by kernel_rfl) (by kernel_rfl) (by kernel_rfl) (fun _ _ _ h => h) (Or.inl ⟨by kernel_rfl, ?hy16q⟩) hHeld ?rest16q
                  case hy16q => (intro w' hSw; (try dsimp only at hSw); go_simp; try with_reducible rfl)
                  try simp only [Act.put, List.setIfInBounds_toArray, List.set_cons_zero, List.set_cons_succ, List.getElem_toArray, List.getElem_cons_zero, List.getElem_cons_succ]
                  refine wpAnyH_take (i := 17) (v := .int .i64 (k : Int)) rfl (by kernel_rfl) (by kernel_rfl) (by kernel_rfl) (fun _ _ _ h => h) (Or.inl ⟨by kernel_rfl, ?hy17q⟩) hHeld ?rest17q
                  case hy17q => (intro w' hSw; (try dsimp only at hSw); go_simp; try with_reducible rfl)
                  try simp only [Act.put, List.setIfInBounds_toArray, List.set_cons_zero, List.set_cons_succ, List.getElem_toArray, List.getElem_cons_zero, List.getElem_cons_succ]
                  refine wpAnyH_take (i := 18) (v := .pointer (some ⟨b2, off2 + k, none⟩)) rfl (by kernel_rfl) (by kernel_rfl) (by kernel_rfl) (fun _ _ _ h => h) (Or.inl ⟨by kernel_rfl, ?hy18q⟩) hHeld ?rest18q
                  case hy18q => (intro w' hSw; (try dsimp only at hSw); go_simp; try with_reducible rfl)
                  try simp only [Act.put, List.setIfInBounds_toArray, List.set_cons_zero, List.set_cons_succ, List.getElem_toArray, List.getElem_cons_zero, List.getElem_cons_succ]
                  refine wpAnyH_take (i := 19) (v := .slice Aa An Ac) rfl (by kernel_rfl) (by kernel_rfl) (by kernel_rfl) (fun _ _ _ h => h) (Or.inl ⟨by kernel_rfl, ?hy19q⟩) hHeld ?rest19q
                  case hy19q => (intro w' hSw; (try dsimp only at hSw); obtain ⟨p0, p1⟩ := HC.out _ hSw; go_simp; try with_reducible rfl)
                  try simp only [Act.put, List.setIfInBounds_toArray, List.set_cons_zero, List.set_cons_succ, List.getElem_toArray, List.getElem_cons_zero, List.getElem_cons_succ]
                  refine wpAnyH_take (i := 20) (v := .slice (some ⟨b3, off3, none⟩) j oc) rfl (by kernel_rfl) (by kernel_rfl) (by kernel_rfl) (fun _ _ _ h => h) (Or.inl ⟨by kernel_rfl, ?hy20q⟩) hHeld ?rest20q
                  case hy20q => (intro w' hSw; (try dsimp only at hSw); go_simp; try with_reducible rfl)
                  try simp only [Act.put, List.setIfInBounds_toArray, List.set_cons_zero, List.set_cons_succ, List.getElem_toArray, List.getElem_cons_zero, List.getElem_cons_succ]
                  refine wpAnyH_take (i := 21) (v := .int .i64 (k : Int)) rfl (by kernel_rfl) (by kernel_rfl) (by kernel_rfl) (fun _ _ _ h => h) (Or.inl ⟨by kernel_rfl, ?hy21q⟩) hHeld ?rest21q
                  case hy21q => (intro w' hSw; (try dsimp only at hSw); go_simp; try with_reducible rfl)
                  try simp only [Act.put, List.setIfInBounds_toArray, List.set_cons_zero, List.set_cons_succ, List.getElem_toArray, List.getElem_cons_zero, List.getElem_cons_succ]
                  refine wpAnyH_take (i := 22) (v := .pointer (some ⟨b3, off3 + k * 2, none⟩)) rfl (by kernel_rfl) (by kernel_rfl) (by kernel_rfl) (fun _ _ _ h => h) (Or.inl ⟨by kernel_rfl, ?hy22q⟩) hHeld ?rest22q
                  case hy22q => (intro w' hSw; (try dsimp only at hSw); go_simp; try with_reducible rfl)
                  try simp only [Act.put, List.setIfInBounds_toArray, List.set_cons_zero, List.set_cons_succ, List.getElem_toArray, List.getElem_cons_zero, List.getElem_cons_succ]
                  refine wpAnyH_take (i := 23) (v := .pointer (some ⟨b3, off3 + k * 2 + 1, none⟩)) rfl (by kernel_rfl) (by kernel_rfl) (by kernel_rfl) (fun _ _ _ h => h) (Or.inl ⟨by kernel_rfl, ?hy23q⟩) hHeld ?rest23q
                  case hy23q => (intro w' hSw; (try dsimp only at hSw); go_simp; try with_reducible rfl)
                  try simp only [Act.put, List.setIfInBounds_toArray, List.set_cons_zero, List.set_cons_succ, List.getElem_toArray, List.getElem_cons_zero, List.getElem_cons_succ]
                  refine wpAnyH_take (i := 24) (v := .slice Ba Bn Bc) rfl (by kernel_rfl) (by kernel_rfl) (by kernel_rfl) (fun _ _ _ h => h) (Or.inl ⟨by kernel_rfl, ?hy24q⟩) hHeld ?rest24q
                  case hy24q => (intro w' hSw; (try dsimp only at hSw); obtain ⟨p0, p1⟩ := HC.out _ hSw; go_simp; try with_reducible rfl)
                  try simp only [Act.put, List.setIfInBounds_toArray, List.set_cons_zero, List.set_cons_succ, List.getElem_toArray, List.getElem_cons_zero, List.getElem_cons_succ]
                  refine wpAnyH_take (i := 25) (v := .int .i64 ow) rfl (by kernel_rfl) (by kernel_rfl) (by kernel_rfl) (fun _ _ _ h => h) (Or.inl ⟨by kernel_rfl, ?hy25q⟩) hHeld ?rest25q
                  case hy25q => (intro w' hSw; (try dsimp only at hSw); go_simp; try with_reducible rfl)
                  try simp only [Act.put, List.setIfInBounds_toArray, List.set_cons_zero, List.set_cons_succ, List.getElem_toArray, List.getElem_cons_zero, List.getElem_cons_succ]
                  refine wpAnyH_ready (rs := [15]) (by kernel_rfl) (by simp) ?_
                  refine AllReadyH.cons rfl (fun K hK => ?_) AllReadyH.nil
                  go_simp
                  refine (K1.out _ (below_drewM RQ.out)).mono ?_
                  rintro e5 w9 ⟨rfl, b5⟩
                  have R1 : Hid (Below w1.heap.size w1 w9) := (below_drewM RQ.out).trans (b5.mono (below_drewM RQ.out).size)
                  clear b5
                  go_wp2_with fail
                  refine hK.out _ _ ?hS15q (fun hHeld => ?rest15q)
                  case hS15q => exact R1.out
                  clear hK K
                  try simp only [Act.put, List.setIfInBounds_toArray, List.set_cons_zero, List.set_cons_succ, List.getElem_toArray, List.getElem_cons_zero, List.getElem_cons_succ]
                  refine wpAnyH_ready (rs := [26]) (by kernel_rfl) (by simp) ?_
                  refine AllReadyH.cons rfl (fun K hK => ?_) AllReadyH.nil
                  go_simp
                  refine (K2.out _ R1.out).mono ?_
                  rintro e6 w10 ⟨rfl, b6⟩
                  have R2 : Hid (Below w1.heap.size w1 w10) := R1.out.trans (b6.mono R1.out.size)
                  clear b6
                  go_wp2_with fail
                  refine hK.out _ _ ?hS26q (fun hHeld => ?rest26q)
                  case hS26q => exact R2.out
                  clear hK K
                  try simp only [Act.put, List.setIfInBounds_toArray, List.set_cons_zero, List.set_cons_succ, List.getElem_toArray, List.getElem_cons_zero, List.getElem_cons_succ]
                  refine wpAnyH_take (i := 27) (v := .bool false) rfl (by kernel_rfl) (by kernel_rfl) (by kernel_rfl) (fun _ _ _ h => h) (Or.inl ⟨by kernel_rfl, ?hy27q⟩) hHeld ?rest27q
                  case hy27q => (intro w' hSw; (try dsimp only at hSw); go_simp; try with_reducible rfl)
                  try simp only [Act.put, List.setIfInBounds_toArray, List.set_cons_zero, List.set_cons_succ, List.getElem_toArray, List.getElem_cons_zero, List.getElem_cons_succ]
                  refine wpAnyH_take (i := 28) (v := .bool false) rfl (by kernel_rfl) (by kernel_rfl) (by kernel_rfl) (fun _ _ _ h => h) (Or.inl ⟨by kernel_rfl, ?hy28q⟩) hHeld ?rest28q
                  case hy28q => (intro w' hSw; (try dsimp only at hSw); go_simp; try with_reducible rfl)
                  try simp only [Act.put, List.setIfInBounds_toArray, List.set_cons_zero, List.set_cons_succ, List.getElem_toArray, List.getElem_cons_zero, List.getElem_cons_succ]
                  refine wpAnyH_done (by kernel_rfl) ?_ _
                  refine NoPanic.normal ?_
                  try go_wp2_with fail
                  go_roundg (j - (k + 1))
                  case measure => omega
                  case rel => exact ⟨k + 1, by omega, rfl, by push_cast; rfl, R2⟩
              · have k1 : decide ((k : Int) < (n7 : Int)) = false := by rw [decide_eq_false_iff_not]; omega
                have k3 : decide (k < n7) = false := by rw [decide_eq_false_iff_not]; omega
                have k4 : ¬ (k : Int) < (n7 : Int) := by omega
                clear hin
                go_wp2_with fail
                go_quiet (fail)
                have R2 : Hid (Below w1.heap.size w1 (wr.drewN nq)) := below_drewN RQ.out nq
                go_wp2_with fail
                go_roundg (j - (k + 1))
                case measure => omega
                case rel => exact ⟨k + 1, by omega, rfl, by push_cast; rfl, R2⟩
            · obtain rfl : k = j := by omega
              have j1 : decide ((k : Int) < (k : Int)) = false := by rw [decide_eq_false_iff_not]; omega
              have j3 : decide (k < k) = false := by rw [decide_eq_false_iff_not]; omega
              have B9 : Hid (Below w.heap.size w wr) := B1.out.1.trans (RQ.out.mono B1.out.1.size)
              go_wp2_with fail
              refine (KW.out _).mono ?_
              rintro e w9 ⟨rfl, b9⟩
              have B10 : Hid (Below w.heap.size w w9) := B9.out.trans (b9.mono B9.out.size)
              clear b9
              go_wp2_with fail
              go_ret
              exact ⟨rfl, B10.out⟩
end Go.Proofs.YthghoekkdpchnaaDoor
