/- plan.All (gen_poo.py). -/
import Derived.Test.YthghoekkdpchnaaDoorMgPq13
namespace Go.Proofs.YthghoekkdpchnaaDoor
open Go.ChangeShapes Go.WideShapes Go.ChangeAt Go.RowKit Go.Deep Go.Maps
set_option linter.unusedVariables false
set_option linter.unusedSimpArgs false
theorem wp_append_pv {w : World} {o : Oper} {act : Act} {K : Act → World → Prop} {Q : Exit → Act → World → Prop} (s x : Operand)
    (ho : o.op = .call { callee := .builtin .append, args := #[s, x], argTypes := #[25, 25] })
    (base : Nat) (v : Value) (l : List Pv) (hs : act.eval s = v) (hown : OwnPv w base v l)
    (g c : Nat) (y : Pv) (hx : act.eval x = .slice (some ⟨g, 0, none⟩) 1 c) (hc : w.heap[g]? = some (.cells (pvl y).toArray 36))
    (hN : l.length ≤ 100000000) (hbase : base ≤ w.heap.size)
    (h : ∀ v' w', OwnPv w' base v' (l ++ [y]) → w.grownBy w' v.ownBlock → K (act.put o.dst v') w') :
    o.wp Tryd.prog act w K Q := by
  obtain ⟨i, hi, hz, h1, h2⟩ := infoPv
  refine wp_append_own w s x 25 ho base 36 i _ 2 32 Tryd.underlying25 hi hz h1 h2 rfl (by decide) v l.length _ hs hown ⟨g, 0, none⟩ 1 c (pvl y) hx rfl ?_ (pvl_one y) (by simp only [maxLen]; omega) (by omega) hbase ?_
  · intro j u hu
    rw [add_plain, Nat.zero_add]
    simp [World.cell?, hc, hu]
  · intro v' w' hown' hg _
    refine h v' w' ?_ hg
    unfold OwnPv
    rw [List.length_append]
    have : pvs (l ++ [y]) = pvs l ++ pvl y := by simp [pvs]
    rw [this]
    exact hown'
theorem AllSt.ok {w wr : World} {vp : Value} {P : List Pv} {st stj : Int → List Pc} {D : List Op5} (h : AllSt w wr vp P st stj D) : ∀ x ∈ P, PvOk wr x := fun x hx => (h.each x hx).1.st
theorem AllMd.ok {w wr : World} {vp : Value} {P : List Pv} {q : Nat} {st stj : Int → List Pc} {D : List Op5} {o : Op5} (h : AllMd w wr vp P q st stj D o) : ∀ x ∈ P, PvOk wr x := fun x hx => by
  obtain ⟨i, hi⟩ := List.getElem?_of_mem hx
  by_cases e : i = q
  · obtain ⟨p, hp, _, h2, _⟩ := h.here
    rw [e, hp] at hi
    cases hi
    exact h2
  · exact (h.each i x hi e).1.st
/-- what All tells -/
def AllSaid (w w' : World) (st : Int → List Pc) (ow : Int) (ops : List Op5) (V : Value) : Prop :=
  ((allR ow st ops).1.2 ≠ 0 → V = .slice none 0 0) ∧ ((allR ow st ops).1.2 = 0 → ∃ a n c P, V = .slice a n c ∧ InPv w' a P ∧ P.length = n ∧ n ≤ c ∧ c ≤ 9223372036854775807 ∧ n ≤ 6 ∧ (a = none → n = 0 ∧ c = 0) ∧ P.map Pv.r = rts ops ∧ (∀ p ∈ P, NewSt w' w.heap.size p.a p.n p.c p.M ∧ p.co = (allR ow st ops).2 p.r) ∧ ∀ q, a = some q → w.heap.size ≤ q.block) ∧ Below w.heap.size w w'
theorem own_someV {w : World} {z : Nat} {a : Option Addr} {n c : Nat} {P : List Pv} (h : OwnPv w z (.slice a n c) P) (hn : 0 < n) : ∃ g, a = some ⟨g, 0, none⟩ ∧ z ≤ g ∧ ∃ cur, w.heap[g]? = some (.cells cur 36) := by
  rcases h.2 with ⟨h1, _⟩ | ⟨g, cap, cur, h1, hz, hc, _⟩
  · injection h1 with _ h2 h3
    omega
  · injection h1 with h2
    exact ⟨g, h2, hz, cur, hc⟩
theorem pw_to {α : Type} {R S : α → α → Prop} {l : List α} (h : l.Pairwise R) (f : ∀ a b, R a b → S a b) : l.Pairwise S := by
  induction h with
  | nil => exact .nil
  | cons hd _ ih => exact .cons (fun x hx => f _ _ (hd x hx)) ih
set_option maxRecDepth 100000 in
set_option maxHeartbeats 16000000 in
theorem all_is (w : World) (a : Option Addr) (n c : Nat) (S : List Sk) (hS : InSk w a S) (hn : S.length = n) (hok : ∀ x ∈ S, SkOk w x) (hN : n ≤ 1000) (ow : Int) (oa : Option Addr) (on oc : Nat) (L : List Ov) (hL : InOv w oa L) (hLn : L.length = on) (hoN : on ≤ 1000) (st : Int → List Pc) (hst : st = fun r => (stk S r).co) :
    Calls Tryd.prog 8 #[.slice a n c, .int .i64 ow, .slice oa on oc] w fun e w' => ∃ V, e = .returned (.tuple #[V, .int .i64 ((allR ow st (L.map Ov.o)).1.1 : Int), .int .i64 (allR ow st (L.map Ov.o)).1.2]) ∧ AllSaid w w' st ow (L.map Ov.o) V := by
  obtain ⟨Os, hOs⟩ : ∃ Os, Os = L.map Ov.o := ⟨_, rfl⟩
  rw [← hOs]
  have HOS : Hid (Os = L.map Ov.o ∧ Os.length = on) := ⟨hOs, by rw [hOs, List.length_map, hLn]⟩
  obtain ⟨RES, hRES⟩ : ∃ RES, allR ow st Os = RES := ⟨_, rfl⟩
  have HRES : Hid (allR ow st Os = RES) := hRES
  have HI : Hid (InSk w a S ∧ S.length = n ∧ (∀ x ∈ S, SkOk w x) ∧ InOv w oa L ∧ L.length = on) := ⟨hS, hn, hok, hL, hLn⟩
  have HST : Hid (st = fun r => (stk S r).co) := hst
  rw [hRES]
  unfold AllSaid
  rw [hRES]
  clear hOs hRES hS hn hok hL hLn hst
  go_enter Tryd.func8, Tryd.ntmps8
  by_cases h0 : on = 0
  · have e0 : ((on : Int) == 0) = true := by simp [h0]
    have HF : Hid (RES = ((0, 9), st)) := by rw [← HRES.out]; exact if_pos (List.length_eq_zero_iff.1 (HOS.out.2.trans h0))
    clear h0
    go_wp2_with fail
    go_ret3
    rw [HF.out]
    exact ⟨_, rfl, fun _ => rfl, (fun h => by cases h), Below.refl _ _⟩
  have e0 : ((on : Int) == 0) = false := by rw [beq_eq_false_iff_ne]; omega
  have HP0 : Hid (0 < on) := Nat.pos_of_ne_zero h0
  have hO0 : Os ≠ [] := fun e => h0 (by rw [← HOS.out.2, e]; rfl)
  clear h0
  by_cases h8 : 8 < on
  · have e8 : decide ((8 : Int) < (on : Int)) = true := by rw [decide_eq_true_eq]; omega
    have HF : Hid (RES = ((0, 3), st)) := by show _ = _; rw [← HRES.out]; unfold allR; rw [if_neg hO0, if_pos (by rw [HOS.out.2]; exact h8)]
    clear h8 hO0
    go_wp2_with fail
    go_ret3
    rw [HF.out]
    exact ⟨_, rfl, fun _ => rfl, (fun h => by cases h), Below.refl _ _⟩
  have e8 : decide ((8 : Int) < (on : Int)) = false := by rw [decide_eq_false_iff_not]; omega
  have HG : Hid (goA ow st Os 0 = RES) := by have := HRES.out; unfold allR at this; rwa [if_neg hO0, if_neg (by rw [HOS.out.2]; exact h8)] at this
  have H8 : Hid (on ≤ 8) := by show _ ≤ _; omega
  clear h8 hO0
  go_wp2_with fail
  go_loopg [9, 25] on (fun g vp i wr => ∃ (j : Nat) (P : List Pv) (stj : Int → List Pc), j ≤ on ∧ g = on - j ∧ i = .int .i64 (j : Int) ∧ Hid (AllSt w wr vp P st stj (Os.take j) ∧ goA ow stj (Os.drop j) j = RES))
  case atStart => exact ⟨0, [], st, Nat.zero_le _, rfl, rfl, ⟨OwnPv.nil _ _, (fun p hp => by cases hp), by simp, (fun r => by simp), (fun _ _ => rfl), by simp, Below.refl _ _⟩, HG.out⟩
  case round =>
    obtain ⟨j, P, stj, hj, rfl, rfl, RW⟩ := hrel
    have LP : Hid (P.length ≤ 8) := by have h := RW.out.1.len; rw [List.length_take] at h; have := H8.out; show _ ≤ _; omega
    obtain ⟨pa, pc, hvp, hin, hpc1, hpc2, hpnil, _⟩ := RW.out.1.own.slice RW.out.1.ok
    obtain ⟨pn, hpn⟩ : ∃ pn, pn = P.length := ⟨_, rfl⟩
    rw [← hpn] at hvp hpc1 hpnil
    subst hvp
    have HPN : Hid (P.length = pn ∧ InPv wr pa P ∧ pn ≤ pc) := ⟨hpn.symm, hin, hpc1⟩
    clear hin hpc1 hpc2 hpnil hpn
    by_cases hlt : j < on
    · have j1 : decide ((j : Int) < (on : Int)) = true := by rw [decide_eq_true_eq]; omega
      obtain ⟨x, hx⟩ : ∃ x, L[j]? = some x := ⟨L[j]'(by rw [HI.out.2.2.2.2]; exact hlt), List.getElem?_eq_getElem _⟩
      have hHX := HI.out.2.2.2.1.at hx
      obtain ⟨⟨k, r, nm, v, l⟩, la, ln, lc⟩ := x
      obtain ⟨b', off, rfl, hb', hpc, hox⟩ := hHX
      have y0 : wr.cell? ⟨b', off + j * 5, none⟩ = some (.int .i64 k) := hpc wr RW.out.1.bel 0 _ rfl
      have y1 : wr.cell? ⟨b', off + j * 5 + 1, none⟩ = some (.int .i64 r) := hpc wr RW.out.1.bel 1 _ rfl
      have y2 : wr.cell? ⟨b', off + j * 5 + 2, none⟩ = some (.string (tx nm)) := hpc wr RW.out.1.bel 2 _ rfl
      have y3 : wr.cell? ⟨b', off + j * 5 + 3, none⟩ = some (.string (tx v)) := hpc wr RW.out.1.bel 3 _ rfl
      have y4 : wr.cell? ⟨b', off + j * 5 + 4, none⟩ = some (.slice la ln lc) := hpc wr RW.out.1.bel 4 _ rfl
      have HOX : Hid (OpAt w ⟨k, r, nm, v, l⟩ la ln lc) := hox
      have hOj : Os[j]? = some ⟨k, r, nm, v, l⟩ := by rw [HOS.out.1, List.getElem?_map, hx]; rfl
      have HOJ : Hid (Os[j]? = some ⟨k, r, nm, v, l⟩ ∧ Os.take (j + 1) = Os.take j ++ [⟨k, r, nm, v, l⟩]) := ⟨hOj, by rw [List.take_add_one, hOj]; rfl⟩
      have HGA : Hid ((if doE (stj r) ow ⟨k, r, nm, v, l⟩ ≠ 0 then ((j, doE (stj r) ow ⟨k, r, nm, v, l⟩), stj) else goA ow (upd stj r (nxt (stj r) ow ⟨k, r, nm, v, l⟩)) (Os.drop (j + 1)) (j + 1)) = RES) := by have h := RW.out.2; rw [goA_at hOj] at h; exact h
      have ri : IntKind.i64.wrap ((j : Int) + 1) = (j : Int) + 1 := by rw [IntKind.wrap_i64]; have := H8.out; omega
      obtain ⟨W1, hW1⟩ : ∃ W1, W1 = wr.alloc (.cells #[.int .i64 k, .int .i64 r, .string (tx nm), .string (tx v), .slice la ln lc] 46) := ⟨_, rfl⟩
      have HE : Hid (W1 = wr.alloc (.cells #[.int .i64 k, .int .i64 r, .string (tx nm), .string (tx v), .slice la ln lc] 46)) := hW1
      have hb1 : Below wr.heap.size wr W1 := by rw [hW1]; exact below1 wr _
      have hz1 : W1.heap.size = wr.heap.size + 1 := by rw [hW1]; simp
      have hq1 : W1.heap[wr.heap.size]? = some (.cells #[.int .i64 k, .int .i64 r, .string (tx nm), .string (tx v), .slice la ln lc] 46) := by rw [hW1]; exact heap_alloc_new wr _
      have HB1 : Hid (Below wr.heap.size wr W1 ∧ W1.heap.size = wr.heap.size + 1 ∧ W1.heap[wr.heap.size]? = some (.cells #[.int .i64 k, .int .i64 r, .string (tx nm), .string (tx v), .slice la ln lc] 46)) := ⟨hb1, hz1, hq1⟩
      have KB : Hid (∀ u, Below W1.heap.size W1 u → u.cell? ⟨wr.heap.size, 0, none⟩ = some (.int .i64 k) ∧ u.cell? ⟨wr.heap.size, 1, none⟩ = some (.int .i64 r) ∧ u.cell? ⟨wr.heap.size, 2, none⟩ = some (.string (tx nm)) ∧ u.cell? ⟨wr.heap.size, 3, none⟩ = some (.string (tx v)) ∧ u.cell? ⟨wr.heap.size, 4, none⟩ = some (.slice la ln lc)) := fun u hu => by
        have h := (hu.block wr.heap.size (by omega)).trans hq1
        refine ⟨?_, ?_, ?_, ?_, ?_⟩ <;> simp [World.cell?, h]
      have KF : Hid (Calls Tryd.prog 20 #[.slice pa pn pc, .func (.func 21) #[] #[.pointer (some ⟨wr.heap.size, 0, none⟩)]] W1 fun e w' => ∃ res, e = .returned (.int .i64 res) ∧ pAt P r res ∧ Below W1.heap.size W1 w') := findV_is W1 pa pn pc P (HPN.out.2.1.keep hb1) HPN.out.1 (by have := LP.out; have := HPN.out.1; omega) wr.heap.size r (KB.out W1 (Below.refl _ _)).2.1 (by omega)
      have UPW : Hid (∀ u, Below W1.heap.size W1 u → Below w.heap.size w u) := fun u hu => RW.out.1.bel.trans ((hb1.trans (hu.mono hb1.size)).mono RW.out.1.bel.size)
      have KS : Hid (∀ W, Below W1.heap.size W1 W → Calls Tryd.prog 22 #[.slice a n c, .int .i64 r] W fun e w' => e = .returned (.slice (stk S r).a (stk S r).n (stk S r).c) ∧ w' = W) := fun W hW => stackOf_is W a n c S (HI.out.1.keep (UPW.out W hW)) HI.out.2.1 (by omega) r
      have HSK : Hid (∀ W, Below w.heap.size w W → StAt W (stk S r).a (stk S r).n (stk S r).c (stk S r).M) := fun W hW => (stk_ok HI.out.2.2.1 r).keep hW
      clear hx hpc hox hOj hW1 hb1 hz1 hq1 hb'
      go_wp2_with fail
      rw [← HE.out]
      refine KF.out.mono ?_
      rintro e w2 ⟨res, rfl, hres, b2⟩
      have B2 : Hid (Below W1.heap.size W1 w2) := b2
      have HRS : Hid (pAt P r res) := hres
      have LB : Hid (Below wr.heap.size wr w2) := HB1.out.1.trans (b2.mono HB1.out.1.size)
      clear b2 hres KF HE y0 y1 y2 y3 y4
      obtain ⟨q0, q1, q2, q3, q4⟩ := KB.out w2 B2.out
      go_upto_if 34 with fail
      go_cut [9, 12] from 35 to 46 (fun vp2 va wx => ∃ a2 n2 c2 P2 q, vp2 = .slice a2 n2 c2 ∧ va = .int .i64 ((q : Nat) : Int) ∧ q < n2 ∧ n2 ≤ 20 ∧ Hid (AllMd w wx (.slice a2 n2 c2) P2 q st stj (Os.take j) ⟨k, r, nm, v, l⟩ ∧ wx.heap[wr.heap.size]? = some (.cells #[.int .i64 k, .int .i64 r, .string (tx nm), .string (tx v), .slice la ln lc] 46) ∧ P2.length = n2))
      case first =>
        rcases HRS.out with ⟨rfl, hno⟩ | ⟨q, p, rfl, hpq, hpr⟩
        · have OA : Hid (OwnPv (w2.drew.alloc (.cells #[.int .i64 r, .slice (stk S r).a (stk S r).n (stk S r).c] 36)) w.heap.size (.slice pa pn pc) P) := RW.out.1.own.keep (LB.out.trans (((below_drewM (Below.refl _ w2)).alloc (Nat.le_refl _) _).mono LB.out.size))
          have LA : Hid (Below wr.heap.size wr (w2.drew.alloc (.cells #[.int .i64 r, .slice (stk S r).a (stk S r).n (stk S r).c] 36))) := LB.out.trans (((below_drewM (Below.refl _ w2)).alloc (Nat.le_refl _) _).mono LB.out.size)
          have BA : Hid (Below w.heap.size w (w2.drew.alloc (.cells #[.int .i64 r, .slice (stk S r).a (stk S r).n (stk S r).c] 36))) := RW.out.1.bel.trans (LA.out.mono RW.out.1.bel.size)
          have XA : Hid ((w2.drew.alloc (.cells #[.int .i64 r, .slice (stk S r).a (stk S r).n (stk S r).c] 36)).heap[wr.heap.size]? = some (.cells #[.int .i64 k, .int .i64 r, .string (tx nm), .string (tx v), .slice la ln lc] 46)) := (((below_drewM B2.out).alloc B2.out.size _).block wr.heap.size (by have := HB1.out.2.1; omega)).trans HB1.out.2.2
          go_wp2_with fail
          refine wp_region_noPanic ?_
          refine wp_region_held_drew (S := (fun u : World => u.cell? ⟨wr.heap.size, 1, none⟩ = some (.int .i64 r))) (by kernel_rfl) ?hSam (fun hHeld => ?restam)
          case hSam => exact (KB.out w2.drew (below_drewM B2.out)).2.1
          case restam =>
            refine wpAnyH_take (i := 0) (v := .slice pa pn pc) rfl (by kernel_rfl) (by kernel_rfl) (by kernel_rfl) (fun _ _ _ h => h) (Or.inl ⟨by kernel_rfl, ?hy0m⟩) hHeld ?rest0m
            case hy0m => (intro w' hSw; (try dsimp only at hSw); go_simp; try with_reducible rfl)
            try simp only [Act.put, List.setIfInBounds_toArray, List.set_cons_zero, List.set_cons_succ, List.getElem_toArray, List.getElem_cons_zero, List.getElem_cons_succ]
            refine wpAnyH_take (i := 1) (v := .pointer (some ⟨wr.heap.size, 1, none⟩)) rfl (by kernel_rfl) (by kernel_rfl) (by kernel_rfl) (fun _ _ _ h => h) (Or.inl ⟨by kernel_rfl, ?hy1m⟩) hHeld ?rest1m
            case hy1m => (intro w' hSw; (try dsimp only at hSw); go_simp; try with_reducible rfl)
            try simp only [Act.put, List.setIfInBounds_toArray, List.set_cons_zero, List.set_cons_succ, List.getElem_toArray, List.getElem_cons_zero, List.getElem_cons_succ]
            refine wpAnyH_take (i := 2) (v := .int .i64 r) rfl (by kernel_rfl) (by kernel_rfl) (by kernel_rfl) (fun _ _ _ h => h) (Or.inl ⟨by kernel_rfl, ?hy2m⟩) hHeld ?rest2m
            case hy2m => (intro w' hSw; (try dsimp only at hSw); go_simp; try with_reducible rfl)
            try simp only [Act.put, List.setIfInBounds_toArray, List.set_cons_zero, List.set_cons_succ, List.getElem_toArray, List.getElem_cons_zero, List.getElem_cons_succ]
            refine wpAnyH_take (i := 3) (v := .slice a n c) rfl (by kernel_rfl) (by kernel_rfl) (by kernel_rfl) (fun _ _ _ h => h) (Or.inl ⟨by kernel_rfl, ?hy3m⟩) hHeld ?rest3m
            case hy3m => (intro w' hSw; (try dsimp only at hSw); go_simp; try with_reducible rfl)
            try simp only [Act.put, List.setIfInBounds_toArray, List.set_cons_zero, List.set_cons_succ, List.getElem_toArray, List.getElem_cons_zero, List.getElem_cons_succ]
            refine wpAnyH_take (i := 4) (v := .pointer (some ⟨wr.heap.size, 1, none⟩)) rfl (by kernel_rfl) (by kernel_rfl) (by kernel_rfl) (fun _ _ _ h => h) (Or.inl ⟨by kernel_rfl, ?hy4m⟩) hHeld ?rest4m
            case hy4m => (intro w' hSw; (try dsimp only at hSw); go_simp; try with_reducible rfl)
            try simp only [Act.put, List.setIfInBounds_toArray, List.set_cons_zero, List.set_cons_succ, List.getElem_toArray, List.getElem_cons_zero, List.getElem_cons_succ]
            refine wpAnyH_take (i := 5) (v := .int .i64 r) rfl (by kernel_rfl) (by kernel_rfl) (by kernel_rfl) (fun _ _ _ h => h) (Or.inl ⟨by kernel_rfl, ?hy5m⟩) hHeld ?rest5m
            case hy5m => (intro w' hSw; (try dsimp only at hSw); go_simp; try with_reducible rfl)
            try simp only [Act.put, List.setIfInBounds_toArray, List.set_cons_zero, List.set_cons_succ, List.getElem_toArray, List.getElem_cons_zero, List.getElem_cons_succ]
            refine wpAnyH_ready (rs := [6]) (by kernel_rfl) (by simp) ?_
            refine AllReadyH.cons rfl (fun K hK => ?_) AllReadyH.nil
            go_simp
            refine (KS.out _ (below_drewM B2.out)).mono ?_
            rintro e6 w6 ⟨rfl, hw6⟩
            obtain rfl := hw6.symm
            clear hw6
            go_wp2_with fail
            refine hK.out _ _ ?hS6m (fun hHeld => ?rest6m)
            case hS6m => exact (KB.out w2.drew (below_drewM B2.out)).2.1
            clear hK K
            try simp only [Act.put, List.setIfInBounds_toArray, List.set_cons_zero, List.set_cons_succ, List.getElem_toArray, List.getElem_cons_zero, List.getElem_cons_succ]
            refine wpAnyH_take (i := 7) (v := .agg #[.int .i64 r, .slice (stk S r).a (stk S r).n (stk S r).c]) rfl (by kernel_rfl) (by kernel_rfl) (by kernel_rfl) (fun _ _ _ h => h) (Or.inl ⟨by kernel_rfl, ?hy7m⟩) hHeld ?rest7m
            case hy7m => (intro w' hSw; (try dsimp only at hSw); go_simp; try with_reducible rfl)
            try simp only [Act.put, List.setIfInBounds_toArray, List.set_cons_zero, List.set_cons_succ, List.getElem_toArray, List.getElem_cons_zero, List.getElem_cons_succ]
            have HA1 : Hid ((w2.drew.alloc (.cells #[.int .i64 r, .slice (stk S r).a (stk S r).n (stk S r).c] 36)).cell? ⟨wr.heap.size, 1, none⟩ = some (.int .i64 r)) := (KB.out _ ((below_drewM B2.out).alloc B2.out.size _)).2.1
            refine wpAnyH_ready (rs := [8]) (by kernel_rfl) (by simp) ?_
            refine AllReadyH.cons rfl (fun K hK => ?_) AllReadyH.nil
            go_wp2_with fail
            refine hK.out _ _ ?hS8m (fun hHeld => ?rest8m)
            case hS8m => exact HA1.out
            clear hK K
            try simp only [Act.put, List.setIfInBounds_toArray, List.set_cons_zero, List.set_cons_succ, List.getElem_toArray, List.getElem_cons_zero, List.getElem_cons_succ]
            refine wpAnyH_ready (rs := [9]) (by kernel_rfl) (by simp) ?_
            refine AllReadyH.cons rfl (fun K hK => ?_) AllReadyH.nil
            first | rw [if_pos (by kernel_rfl)] | skip
            refine wp_append_pv (.tmp 37) (.tmp 45) rfl w.heap.size _ P rfl OA.out w2.heap.size 1 ⟨r, (stk S r).a, (stk S r).n, (stk S r).c, (stk S r).M⟩ rfl (heap_alloc_new w2.drew _) (by have := LP.out; omega) BA.out.size ?_
            intro v9 w9 o9 g9
            have O9 : Hid (AllMd w w9 v9 (P ++ [⟨r, (stk S r).a, (stk S r).n, (stk S r).c, (stk S r).M⟩]) P.length st stj (Os.take j) ⟨k, r, nm, v, l⟩) := AllSt.more RW.out.1 hno rfl LA.out o9 g9 (HSK.out w9 (BA.out.grown g9 BA.out.size (fun q hq => (RW.out.1.own.own q hq).1))) (by rw [HST.out]; rfl)
            have X9 : Hid (w9.heap[wr.heap.size]? = some (.cells #[.int .i64 k, .int .i64 r, .string (tx nm), .string (tx v), .slice la ln lc] 46)) := (ownV_off OA.out g9 wr.heap.size _ _ XA.out (by decide)).trans XA.out
            clear o9 g9
            refine hK.out _ _ ?hS9m (fun hHeld => ?rest9m)
            case hS9m => simp [World.cell?, X9.out]
            clear hK K
            try simp only [Act.put, List.setIfInBounds_toArray, List.set_cons_zero, List.set_cons_succ, List.getElem_toArray, List.getElem_cons_zero, List.getElem_cons_succ]
            refine wpAnyH_take (i := 10) (v := v9) rfl (by kernel_rfl) (by kernel_rfl) (by kernel_rfl) (fun _ _ _ h => h) (Or.inl ⟨by kernel_rfl, ?hy10m⟩) hHeld ?rest10m
            case hy10m => (intro w' hSw; (try dsimp only at hSw); go_simp; try with_reducible rfl)
            try simp only [Act.put, List.setIfInBounds_toArray, List.set_cons_zero, List.set_cons_succ, List.getElem_toArray, List.getElem_cons_zero, List.getElem_cons_succ]
            refine wpAnyH_done (by kernel_rfl) ?_ _
            refine NoPanic.normal ?_
            try go_wp2_with fail
            go_meet
            case rel =>
              obtain ⟨a2, c2, rfl, _, hc2, hc3, _⟩ := O9.out.own.slice O9.out.ok
              have O10 := O9.out
              rw [HPN.out.1] at O10
              exact ⟨a2, _, c2, _, pn, rfl, rfl, by rw [← HPN.out.1]; simp, by have := LP.out; simp; omega, O10, X9.out, rfl⟩
        · have hqn : q < pn := by have := (List.getElem?_eq_some_iff.1 hpq).1; have := HPN.out.1; omega
          have e1 : ((q : Int) == -1) = false := by rw [beq_eq_false_iff_ne]; omega
          have O9 : Hid (AllMd w w2 (.slice pa pn pc) P q st stj (Os.take j) ⟨k, r, nm, v, l⟩) := RW.out.1.there hpq hpr LB.out
          have X9 : Hid (w2.heap[wr.heap.size]? = some (.cells #[.int .i64 k, .int .i64 r, .string (tx nm), .string (tx v), .slice la ln lc] 46)) := (B2.out.block wr.heap.size (by have := HB1.out.2.1; omega)).trans HB1.out.2.2
          clear hpq hpr
          go_wp2_with fail
          go_meet
          case rel => exact ⟨pa, pn, pc, P, q, rfl, rfl, hqn, by have := LP.out; have := HPN.out.1; omega, O9.out, X9.out, HPN.out.1⟩
      case rest =>
        obtain ⟨w3, rfl⟩ : ∃ w3, w3 = wc := ⟨_, rfl⟩
        obtain ⟨a2, n2, c2, P2, q, rfl, rfl, hqn, hn20, HM⟩ := hcut
        obtain ⟨g, rfl, hgz, curg, hgc⟩ := own_someV HM.out.1.own (by omega)
        obtain ⟨p, hpq, hpr, hps, hpco⟩ := HM.out.1.here
        obtain ⟨a9, c9, hv9, hin9, _⟩ := HM.out.1.own.slice HM.out.1.ok
        injection hv9 with hv9 hv10 hv11
        subst hv9
        clear hv10 hv11
        obtain ⟨bb, oo, hbo, _, hcp, _⟩ := hin9.at hpq
        cases hbo
        have KP : Hid (∀ u, Below w3.heap.size w3 u → u.cell? ⟨g, q * 2 + 1, none⟩ = some (.slice p.a p.n p.c) ∧ u.frozen? ⟨g, q * 2 + 1, none⟩ = false) := fun u hu => ⟨by have := hcp u hu 1 _ rfl; rwa [Nat.zero_add] at this, frozen_blk ((hu.block g (lt_of_heapK hgc)).trans hgc) _⟩
        have KX : Hid (∀ u, Below w3.heap.size w3 u → u.cell? ⟨wr.heap.size, 0, none⟩ = some (.int .i64 k) ∧ u.cell? ⟨wr.heap.size, 1, none⟩ = some (.int .i64 r) ∧ u.cell? ⟨wr.heap.size, 2, none⟩ = some (.string (tx nm)) ∧ u.cell? ⟨wr.heap.size, 3, none⟩ = some (.string (tx v)) ∧ u.cell? ⟨wr.heap.size, 4, none⟩ = some (.slice la ln lc)) := fun u hu => by
          have h := (hu.block wr.heap.size (lt_of_heapK HM.out.2.1)).trans HM.out.2.1
          refine ⟨?_, ?_, ?_, ?_, ?_⟩ <;> simp [World.cell?, h]
        have KD : Hid (∀ W, Below w3.heap.size w3 W → Calls Tryd.prog 23 #[.slice p.a p.n p.c, .int .i64 ow, .agg #[.int .i64 k, .int .i64 r, .string (tx nm), .string (tx v), .slice la ln lc]] W fun e w' => ∃ V, e = .returned (.tuple #[V, .int .i64 (doE (stj r) ow ⟨k, r, nm, v, l⟩)]) ∧ DoSaid W w' (stj r) ow ⟨k, r, nm, v, l⟩ V) := fun W hW => by
          have h := pdo_is W p.a p.n p.c p.M (hps.keep hW) ow ⟨k, r, nm, v, l⟩ la ln lc (HOX.out.keep (HM.out.1.bel.trans (hW.mono HM.out.1.bel.size)))
          have e : p.M.map co = stj r := hpco
          rw [e] at h
          exact h
        obtain ⟨E, hE⟩ : ∃ E, doE (stj r) ow ⟨k, r, nm, v, l⟩ = E := ⟨_, rfl⟩
        have HEE : Hid (doE (stj r) ow ⟨k, r, nm, v, l⟩ = E) := hE
        rw [hE] at KD
        obtain ⟨x0, x1, x2, x3, x4⟩ := KX.out w3 (Below.refl _ _)
        obtain ⟨p1, p2⟩ := KP.out w3 (Below.refl _ _)
        have q1' : (q : Int) < (n2 : Int) := by omega
        clear hE hcp hin9 hpq hpr hps hpco hgc q0 q1 q2 q3 q4
        obtain ⟨ppr, ppa, ppn, ppc, ppM⟩ := p
        simp only at KP KD p1
        go_upto_region 13 with fail
        go_cut [13, 14] from 47 to 57 (fun v13 v14 wx => v14 = .int .i64 E ∧ Hid (DoSaid w3 wx (stj r) ow ⟨k, r, nm, v, l⟩ v13))
        case first =>
          go_region_with (go_at_call 23; refine (KD.out _ (below_drewM (Below.refl _ _))).mono ?_; rintro e5 w5 ⟨V5, rfl, d5⟩; have D5 : Hid (DoSaid w3 w5 (stj r) ow ⟨k, r, nm, v, l⟩ V5) := ⟨d5.1, d5.2.1, (below_drewM (Below.refl _ w3)).trans d5.2.2⟩; clear d5)
          all_goals (go_wp2_with fail; go_meet; case rel => exact ⟨rfl, D5.out⟩)
        case rest =>
          obtain ⟨rfl, DD⟩ := hcut
          obtain ⟨w5, rfl⟩ : ∃ w5, w5 = wc := ⟨_, rfl⟩
          by_cases hE0 : E = 0
          case neg =>
            have e1 : (E != 0) = true := by simpa using hE0
            have HF : Hid (RES = ((j, E), stj)) := by show _ = _; rw [← HGA.out, if_pos (by rw [HEE.out]; exact hE0), HEE.out]
            have HNE : Hid (E ≠ 0) := hE0
            clear hE0
            go_wp2_with fail
            go_ret3
            rw [HF.out]
            exact ⟨_, rfl, fun _ => rfl, (fun h => absurd h HNE.out), HM.out.1.bel.trans (DD.out.2.2.mono HM.out.1.bel.size)⟩
          subst hE0
          obtain ⟨a5, n5, c5, M5, hv13, hN5, hM5⟩ := DD.out.2.1 HEE.out
          have HR6 : Hid (1 ≤ r ∧ r ≤ 6) := by
            have hz := HEE.out
            unfold doE at hz
            have h1 : wrE (stj r) ow ⟨k, r, nm, v, l⟩ = 0 := by
              by_cases hh : wrE (stj r) ow ⟨k, r, nm, v, l⟩ = 0
              · exact hh
              · rw [if_pos hh] at hz; exact absurd hz hh
            have h2 := (opE_zero (wrE_zero h1).1).2.1
            unfold isR6 at h2
            show 1 ≤ r ∧ r ≤ 6
            simpa using h2
          have HNX : Hid (AllSt w (w5.setCell ⟨g, q * 2 + 1, none⟩ (.slice a5 n5 c5)) (.slice (some ⟨g, 0, none⟩) n2 c2) (P2.set q ⟨r, a5, n5, c5, M5⟩) st (upd stj r (nxt (stj r) ow ⟨k, r, nm, v, l⟩)) (Os.take j ++ [⟨k, r, nm, v, l⟩])) := HM.out.1.next HM.out.2.2 HR6.out DD.out.2.2 hN5 hM5
          have HG2 : Hid (goA ow (upd stj r (nxt (stj r) ow ⟨k, r, nm, v, l⟩)) (Os.drop (j + 1)) (j + 1) = RES) := by show _ = _; rw [← HGA.out, if_neg (by rw [HEE.out]; exact fun h => h rfl)]
          obtain ⟨p3, p4⟩ := KP.out w5 DD.out.2.2
          clear hN5 hM5 p1 p2 x0 x1 x2 x3 x4
          subst hv13
          go_wp2_with fail
          go_roundg (on - (j + 1))
          case measure => omega
          case rel => exact ⟨j + 1, _, _, by omega, rfl, rfl, by rw [HOJ.out.2]; exact HNX.out, HG2.out⟩
    · have j1 : decide ((j : Int) < (on : Int)) = false := by rw [decide_eq_false_iff_not]; omega
      have HTA : Hid (Os.take j = Os) := List.take_of_length_le (by rw [HOS.out.2]; omega)
      have HF : Hid (RES = ((0, 0), stj)) := by show _ = _; rw [← RW.out.2, goA_end (by rw [HOS.out.2]; omega)]
      have HA : Hid (AllSt w wr (.slice pa pn pc) P st stj Os) := by have := RW.out.1; rwa [HTA.out] at this
      have hpn0 : 0 < pn := by
        rw [← HPN.out.1]
        cases hP : P with
        | cons y t => simp
        | nil =>
          exfalso
          obtain ⟨o, ho⟩ : ∃ o, Os[0]? = some o := ⟨Os[0]'(by rw [HOS.out.2]; exact HP0.out), List.getElem?_eq_getElem _⟩
          have := (HA.out.mem o.r).2 (List.mem_map_of_mem (List.mem_of_getElem? ho))
          rw [hP] at this
          cases this
      obtain ⟨g, rfl, hgz, cur, hgc⟩ := own_someV HA.out.own hpn0
      have hcells : ∀ i x, P[i]? = some x → ∀ k v, (pvl x)[k]? = some v → wr.cell? ⟨g, 0 + i * 2 + k, none⟩ = some v := by
        intro i x hx k v hv
        obtain ⟨bb, oo, hbo, _, hcp, _⟩ := HPN.out.2.1.at hx
        obtain ⟨a9, c9, hv9, hin9, _⟩ := HA.out.own.slice HA.out.ok
        injection hv9 with hv9 _ _
        subst hv9
        rcases HA.out.own.2 with ⟨h1, _⟩ | ⟨g', cap, cur', h1, _⟩
        · cases h1
        injection h1 with h1 _ _
        injection h1 with h1
        injection h1 with h1
        cases hbo
        rcases hin9 with e | ⟨b3, o3, e3, _, h3⟩
        · rw [e] at hx; cases hx
        · cases e3
          have := World.ownsRow.cells HA.out.own (g := g) rfl (i * 2 + k) v (by rw [pvs_at P i x hx k (by have := (List.getElem?_eq_some_iff.1 hv).1; simpa [pvl] using this)]; exact hv)
          rw [add_plain, Nat.zero_add] at this
          rw [Nat.zero_add]
          exact this
      have KSO : Hid (Calls Tryd.prog 24 #[.slice (some ⟨g, 0, none⟩) pn pc, .func (.func 25) #[] #[]] wr fun e w' => e = .returned (.tuple #[]) ∧ ∃ l' : List Pv, l'.Perm P ∧ l'.Pairwise (fun x y => x.r ≤ y.r) ∧ (∀ i x, l'[i]? = some x → ∀ k v, (pvl x)[k]? = some v → w'.cell? ⟨g, 0 + i * 2 + k, none⟩ = some v) ∧ wr.grownBy w' (some g)) := sortV_is wr g pn pc P HPN.out.1 cur hgc hcells (by have := LP.out; have := HPN.out.1; omega)
      have HZG : Hid (w.heap.size ≤ g ∧ g < wr.heap.size ∧ pn ≤ 8) := ⟨hgz, lt_of_heapK hgc, by have := LP.out; have := HPN.out.1; omega⟩
      clear hcells hgc hgz hpn0
      go_wp2_with fail
      refine KSO.out.mono ?_
      rintro e w6 ⟨rfl, l', hperm, hsort, hcell, hgr⟩
      have hoff := ownV_off HA.out.own (show wr.grownBy w6 (Value.slice (some ⟨g, 0, none⟩) pn pc).ownBlock from hgr)
      have hlen : l'.length = pn := by rw [hperm.length_eq]; exact HPN.out.1
      have hmr : (l'.map Pv.r).Perm (P.map Pv.r) := hperm.map _
      have hroots : l'.map Pv.r = rts Os := by
        apply sorted_eq
        · have hnd := hmr.nodup_iff.2 HA.out.nd
          have h2 : (l'.map Pv.r).Pairwise (· ≤ ·) := List.pairwise_map.2 hsort
          exact pw_to (h2.and hnd) (fun a b h => by omega)
        · exact rts_sorted _
        · intro x
          rw [rts_mem, hmr.mem_iff, HA.out.mem]
          constructor
          · intro hx
            refine ⟨?_, hx⟩
            obtain ⟨p, hp, e⟩ := List.mem_map.1 ((HA.out.mem x).2 hx)
            rw [← e]
            exact (HA.out.each p hp).2.2
          · exact fun h => h.2
      have heach : ∀ p ∈ l', NewSt w6 w.heap.size p.a p.n p.c p.M ∧ p.co = stj p.r := fun p hp => by
        have h := HA.out.each p (hperm.mem_iff.1 hp)
        exact ⟨h.1.kept hgr.size hoff, h.2.1⟩
      have HFN : Hid (InPv w6 (some ⟨g, 0, none⟩) l' ∧ l'.length = pn ∧ pn ≤ pc ∧ pc ≤ 9223372036854775807 ∧ pn ≤ 6 ∧ l'.map Pv.r = rts Os ∧ (∀ p ∈ l', NewSt w6 w.heap.size p.a p.n p.c p.M ∧ p.co = stj p.r) ∧ Below w.heap.size w w6) := by
        refine ⟨.inr ⟨g, 0, rfl, Nat.lt_of_lt_of_le HZG.out.2.1 hgr.size, fun i x hx => ⟨hcell i x hx, (heach x (List.mem_of_getElem? hx)).1.st⟩⟩, hlen, HPN.out.2.2, ?_, ?_, hroots, heach, HA.out.bel.grown hgr HA.out.bel.size (fun q hq => by cases hq; exact HZG.out.1)⟩
        · obtain ⟨a9, c9, hv9, _, _, hc9, _⟩ := HA.out.own.slice HA.out.ok
          injection hv9 with _ _ e
          rw [e]
          exact hc9
        · rw [← hlen, ← List.length_map (f := Pv.r), hroots]
          exact List.length_filter_le _ _
      clear hcell hgr hoff hlen hmr hroots heach hperm hsort KSO
      go_wp2_with fail
      go_ret3
      rw [HF.out]
      exact ⟨_, rfl, (fun h => absurd rfl h), (fun _ => ⟨_, pn, pc, l', rfl, HFN.out.1, HFN.out.2.1, HFN.out.2.2.1, HFN.out.2.2.2.1, HFN.out.2.2.2.2.1, (fun h => by cases h), HFN.out.2.2.2.2.2.1, HFN.out.2.2.2.2.2.2.1, (fun q hq => by cases hq; exact HZG.out.1)⟩), HFN.out.2.2.2.2.2.2.2⟩
end Go.Proofs.YthghoekkdpchnaaDoor
