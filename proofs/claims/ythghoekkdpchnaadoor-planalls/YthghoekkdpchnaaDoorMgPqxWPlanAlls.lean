/- PlanAlls. -/
import Derived.Test.YthghoekkdpchnaaDoorMgPqxPpB
import Derived.Test.YthghoekkdpchnaaDoorMgPq17
import Derived.Test.YthghoekkdpchnaaDoorMgPqxPmS
namespace Go.Proofs.YthghoekkdpchnaaDoor
open Go.ChangeShapes Go.WideShapes Go.ChangeAt Go.RowKit Go.Deep Go.Maps
set_option linter.unusedVariables false
set_option linter.unusedSimpArgs false
theorem stk_mapA {S S' : List Sk} (h : S.map Sk.co = S'.map Sk.co) : (fun r => (stk S r).co) = fun r => (stk S' r).co := by
  funext r
  unfold stk
  split
  · have e : (S.map Sk.co)[(r - 1).toNat]? = (S'.map Sk.co)[(r - 1).toNat]? := by rw [h]
    rw [List.getElem?_map, List.getElem?_map] at e
    rw [List.getD_eq_getElem?_getD, List.getD_eq_getElem?_getD]
    cases e1 : S[(r - 1).toNat]? <;> cases e2 : S'[(r - 1).toNat]? <;> rw [e1, e2] at e <;> simp_all
  · rfl
/-- what the plans of an answer come to -/
def prs (ops : List Op5) (RES : (Nat × Int) × (Int → List Pc)) : List (Int × List Pc) := if RES.1.2 = 0 then (rts ops).map (fun r => (r, RES.2 r)) else []
theorem Tol.prs {w : World} {V : Value} {ops : List Op5} {RES : (Nat × Int) × (Int → List Pc)} (h : Tol w V ops RES) : ∃ a n c P, V = .slice a n c ∧ InPv w a P ∧ P.length = n ∧ n ≤ 6 ∧ P.map (fun x => (x.r, x.co)) = Go.Proofs.YthghoekkdpchnaaDoor.prs ops RES := by
  unfold Go.Proofs.YthghoekkdpchnaaDoor.prs
  by_cases h0 : RES.1.2 = 0
  · obtain ⟨a, n, c, P, e, k⟩ := h.2 h0
    exact ⟨a, n, c, P, e, k.inp, k.len, k.le, by rw [if_pos h0]; exact k.pairs⟩
  · exact ⟨none, 0, 0, [], h.1 h0, .inl rfl, rfl, by omega, by rw [if_neg h0]; rfl⟩
theorem AllSaid.prs {w w' : World} {st : Int → List Pc} {ow : Int} {ops : List Op5} {V : Value} {RES : (Nat × Int) × (Int → List Pc)} (h : AllSaid w w' st ow ops V) (hR : allR ow st ops = RES) : ∃ a n c P, V = .slice a n c ∧ InPv w' a P ∧ P.length = n ∧ n ≤ 6 ∧ P.map (fun x => (x.r, x.co)) = Go.Proofs.YthghoekkdpchnaaDoor.prs ops RES ∧ ∀ p ∈ P, NewSt w' w.heap.size p.a p.n p.c p.M := by
  subst hR
  unfold Go.Proofs.YthghoekkdpchnaaDoor.prs
  by_cases h0 : (allR ow st ops).1.2 = 0
  · obtain ⟨a, n, c, P, rfl, h1, h2, h3, h4, h5, h6, h7, h8, _⟩ := h.2.1 h0
    exact ⟨a, n, c, P, rfl, h1, h2, h5, by rw [if_pos h0]; exact pairs_of h7 (fun p hp => (h8 p hp).2), fun p hp => (h8 p hp).1⟩
  · exact ⟨none, 0, 0, [], h.1 h0, .inl rfl, rfl, by omega, by rw [if_neg h0]; rfl, fun p hp => by cases hp⟩
set_option maxRecDepth 100000 in
set_option maxHeartbeats 16000000 in
theorem planAlls_walk (a : Option Addr) (n c : Nat) (L : List Sr) (ow : Int) (oa : Option Addr) (on oc : Nat) (Lo : List Rv) (w : World) (h0 : SrsIn w a n c L) (h1 : OpsIn w oa on oc Lo) :
    Calls Tryd.prog 3 #[.slice a n c, .int .i64 ow, .slice oa on oc] w fun e w' => e = .returned (.bool true) ∧ Below w.heap.size w w' := by
  have KW : Hid (∀ W, Calls Tryd.prog 14 #[] W fun e w' => e = .returned (.bool true) ∧ Below W.heap.size W w') := pworks_true
  have KS : Hid (∀ W, Below w.heap.size w W → Calls Tryd.prog 7 #[.slice a n c] W fun e w' => ∃ a' n' c' S, e = .returned (.slice a' n' c') ∧ InSk w' a' S ∧ S.length = n' ∧ n' ≤ 9 ∧ (∀ x ∈ S, SkOk w' x) ∧ S.map Sk.co = stacksC L ∧ Below W.heap.size W w') := fun W hW => by
    refine (stacksOf_is W a n c L ⟨h0.1, h0.2.1, h0.2.2.keep hW⟩).mono ?_
    rintro e w' ⟨a', n', c', S, rfl, h1, h2, h3, h4, h5, h6, h7, h8⟩
    exact ⟨a', n', c', S, rfl, h5, h1, h2, fun x hx => (h6 x hx).ok, h7, h8⟩
  have KO : Hid (∀ W, Below w.heap.size w W → Calls Tryd.prog 9 #[.slice oa on oc] W fun e w' => ∃ a' n' c' M, e = .returned (.slice a' n' c') ∧ InOv w' a' M ∧ M.length = n' ∧ n' ≤ 12 ∧ M.map Ov.o = opsC Lo ∧ Below W.heap.size W w') := fun W hW => by
    refine (opsOf_is W oa on oc Lo h1.1 (h1.2.2.keep hW) h1.2.1).mono ?_
    rintro e w' ⟨a', c', M, rfl, h1, h2, h3, h4, h5, h6⟩
    refine ⟨a', _, c', M, rfl, h1, rfl, ?_, h4, h5⟩
    rw [← List.length_map (f := Ov.o), h4]
    unfold opsC
    rw [List.length_map, List.length_take]
    omega
  clear h0 h1
  obtain ⟨Os, hOs⟩ : ∃ Os, Os = opsC Lo := ⟨_, rfl⟩
  rw [← hOs] at KO
  clear hOs
  go_enter Tryd.func3, Tryd.ntmps3
  go_wp2_with fail
  refine (KS.out w (Below.refl _ _)).mono ?_
  rintro e w1 ⟨a1, n1, c1, S, rfl, s1, s2, s3, s4, s5, b1⟩
  have HS : Hid (InSk w1 a1 S ∧ S.length = n1 ∧ n1 ≤ 9 ∧ (∀ x ∈ S, SkOk w1 x) ∧ S.map Sk.co = stacksC L) := ⟨s1, s2, s3, s4, s5⟩
  have B1 : Hid (Below w.heap.size w w1) := b1
  clear s1 s2 s3 s4 s5 b1
  go_wp2_with fail
  refine (KO.out w1 B1.out).mono ?_
  rintro e w2 ⟨a2, n2, c2, M, rfl, o1, o2, o3, o4, b2⟩
  obtain ⟨st, hst⟩ : ∃ st, st = fun r => (stk S r).co := ⟨_, rfl⟩
  obtain ⟨⟨⟨at0, E⟩, stE⟩, hR⟩ : ∃ RES, allR ow st Os = RES := ⟨_, rfl⟩
  have HR : Hid (allR ow st Os = ((at0, E), stE) ∧ st = fun r => (stk S r).co) := ⟨hR, hst⟩
  have KA : Hid (Calls Tryd.prog 8 #[.slice a1 n1 c1, .int .i64 ow, .slice a2 n2 c2] w2 fun e w' => ∃ a n c P, e = .returned (.tuple #[.slice a n c, .int .i64 (at0 : Int), .int .i64 E]) ∧ InPv w' a P ∧ P.length = n ∧ n ≤ 6 ∧ P.map (fun x => (x.r, x.co)) = prs Os ((at0, E), stE) ∧ (∀ p ∈ P, NewSt w' w2.heap.size p.a p.n p.c p.M) ∧ Below w2.heap.size w2 w') := by
    have h := all_is w2 a1 n1 c1 S (HS.out.1.keep b2) HS.out.2.1 (fun x hx => (HS.out.2.2.2.1 x hx).keep b2) (by have := HS.out.2.2.1; omega) ow a2 n2 c2 M o1 o2 (by omega) st hst
    rw [o4, hR] at h
    refine h.mono ?_
    rintro e w' ⟨V, rfl, hs⟩
    obtain ⟨a, n, c, P, rfl, h1, h2, h3, h4, h5⟩ := hs.prs hR
    exact ⟨a, n, c, P, rfl, h1, h2, h3, h4, h5, hs.2.2⟩
  have B2 : Hid (Below w1.heap.size w1 w2) := b2
  have BW2 : Hid (Below w.heap.size w w2) := B1.out.trans (b2.mono B1.out.size)
  clear o1 o2 o3 o4 b2 hst hR
  go_wp2_with fail
  refine KA.out.mono ?_
  rintro e w3 ⟨la, ln, lc, P, rfl, p1, p2, p3, p4, p5, b3⟩
  have HP : Hid (InPv w3 la P ∧ P.length = ln ∧ ln ≤ 6 ∧ P.map (fun x => (x.r, x.co)) = prs Os ((at0, E), stE) ∧ ∀ p ∈ P, NewSt w3 w2.heap.size p.a p.n p.c p.M) := ⟨p1, p2, p3, p4, p5⟩
  have B3 : Hid (Below w2.heap.size w2 w3) := b3
  have BW3 : Hid (Below w.heap.size w w3) := BW2.out.trans (b3.mono BW2.out.size)
  clear p1 p2 p3 p4 p5 b3 KA
  go_wp2_with fail
  refine (KS.out w3 BW3.out).mono ?_
  rintro e w4 ⟨a4, n4, c4, S4, rfl, s1, s2, s3, s4, s5, b4⟩
  have HS4 : Hid (InSk w4 a4 S4 ∧ S4.length = n4 ∧ n4 ≤ 9 ∧ (∀ x ∈ S4, SkOk w4 x) ∧ S4.map Sk.co = stacksC L) := ⟨s1, s2, s3, s4, s5⟩
  have B4 : Hid (Below w3.heap.size w3 w4) := b4
  have BW4 : Hid (Below w.heap.size w w4) := BW3.out.trans (b4.mono BW3.out.size)
  clear s1 s2 s3 s4 s5 b4
  go_wp2_with fail
  refine (KO.out w4 BW4.out).mono ?_
  rintro e w5 ⟨a5, n5, c5, M5, rfl, o1, o2, o3, o4, b5⟩
  have KRA : Hid (Calls Tryd.prog 10 #[.slice a4 n4 c4, .int .i64 ow, .slice a5 n5 c5] w5 fun e w' => ∃ a n c P, e = .returned (.tuple #[.slice a n c, .int .i64 (at0 : Int), .int .i64 E]) ∧ InPv w' a P ∧ P.length = n ∧ P.map (fun x => (x.r, x.co)) = prs Os ((at0, E), stE) ∧ Below w5.heap.size w5 w') := by
    have hst : st = fun r => (stk S4 r).co := by rw [HR.out.2]; exact stk_mapA (HS.out.2.2.2.2.trans HS4.out.2.2.2.2.symm)
    have h := rall_is w5 a4 n4 c4 S4 (HS4.out.1.keep b5) HS4.out.2.1 (fun x hx => (HS4.out.2.2.2.1 x hx).keep b5) (by have := HS4.out.2.2.1; omega) ow a5 n5 c5 M5 o1 o2 (by omega) st hst ((at0, E), stE) (by rw [o4]; exact HR.out.1)
    rw [o4] at h
    refine h.mono ?_
    rintro e w' ⟨V, rfl, ht, hb⟩
    obtain ⟨a, n, c, P, rfl, h1, h2, h3, h4⟩ := ht.prs
    exact ⟨a, n, c, P, rfl, h1, h2, h4, hb⟩
  have B5 : Hid (Below w3.heap.size w3 w5) := B4.out.trans (b5.mono B4.out.size)
  clear o1 o2 o3 o4 b5
  go_wp2_with fail
  refine KRA.out.mono ?_
  rintro e w6 ⟨ma, mn, mc, P6, rfl, p1, p2, p4, b6⟩
  have B6 : Hid (Below w3.heap.size w3 w6) := B5.out.trans (b6.mono B5.out.size)
  have hmn : mn = ln := by
    rw [← p2, ← HP.out.2.1, ← List.length_map (f := fun x : Pv => (x.r, x.co)), p4, ← HP.out.2.2.2.1, List.length_map]
  subst hmn
  have KSM : Hid (Calls Tryd.prog 11 #[.slice la mn lc, .slice ma mn mc] w6 fun e w' => e = .returned (.bool true) ∧ Below w6.heap.size w6 w') :=
    rsamepl_true w6 la ma mn lc mc P P6 HP.out.2.1 (HP.out.1.keep B6.out) p1 (HP.out.2.2.2.1.trans p4.symm) (by have := HP.out.2.2.1; omega)
  clear p1 p2 p4 b6 KRA
  go_wp2_with fail
  refine KSM.out.mono ?_
  rintro e w7 ⟨rfl, b7⟩
  have B7 : Hid (Below w3.heap.size w3 w7) := B6.out.trans (b7.mono B6.out.size)
  have B27 : Hid (Below w2.heap.size w2 w7) := B3.out.trans (B7.out.mono B3.out.size)
  clear b7 KSM
  go_wp2_with fail
  have KSP : Hid (∀ W (k : Nat), Soft w2.heap.size w7 W → k < mn → ∃ b off, la = some ⟨b, off, none⟩ ∧ ∃ a n c, W.cell? ⟨b, off + k * 2 + 1, none⟩ = some (.slice a n c) ∧ SpO W w2.heap.size a n ∧ n ≤ 20) := fun W k hW hk => by
    obtain ⟨x, hx⟩ : ∃ x, P[k]? = some x := ⟨P[k]'(by rw [HP.out.2.1]; exact hk), List.getElem?_eq_getElem _⟩
    have hn := (HP.out.2.2.2.2 x (List.mem_of_getElem? hx)).keep B7.out
    obtain ⟨b, off, e, _, hpc, _⟩ := (HP.out.1.keep B7.out).at hx
    exact ⟨b, off, e, x.a, x.n, x.c, hW.slice (hpc w7 (Below.refl _ _) 1 _ rfl), (new_spo hn).soft hW, (NewSt.st hn).big⟩
  go_loopg [52] mn (fun gg i wr => ∃ (k : Nat), k ≤ mn ∧ gg = mn - k ∧ i = .int .i64 (k : Int) ∧ Hid (Soft w2.heap.size w7 wr))
  case atStart => exact ⟨0, by omega, rfl, rfl, ⟨by have h := B27.out.size; exact (Below.refl _ w7).mono h, fun _ => .inl rfl, fun k cs t h => ⟨cs, h⟩⟩⟩
  case round =>
    obtain ⟨k, hk, rfl, rfl, RS⟩ := hrel
    by_cases hlt : k < mn
    · have j1 : decide ((k : Int) < (mn : Int)) = true := by rw [decide_eq_true_eq]; omega
      have j3 : decide (k < mn) = true := by rw [decide_eq_true_eq]; omega
      have j4 : (k : Int) < (mn : Int) := by omega
      have ri : IntKind.i64.wrap ((k : Int) + 1) = (k : Int) + 1 := by rw [IntKind.wrap_i64]; have := HP.out.2.2.1; omega
      obtain ⟨b, off, rfl, a8, n8, c8, hc8, hs8, hn8⟩ := KSP.out wr k RS.out hlt
      have KK : Hid (Calls Tryd.prog 12 #[.slice a8 n8 c8] wr fun e w' => e = .returned (.tuple #[]) ∧ Soft w2.heap.size wr w') := spoil_is wr w2.heap.size a8 n8 c8 hs8 (by have h1 := B27.out.size; have h2 := RS.out.bel.size; omega) (by omega)
      clear hs8 hn8
      go_wp2_with fail
      refine KK.out.mono ?_
      rintro e w8 ⟨rfl, sf⟩
      have R8 : Hid (Soft w2.heap.size w7 w8) := RS.out.trans sf
      clear sf KK hc8
      go_wp2_with fail
      go_roundg (mn - (k + 1))
      case measure => omega
      case rel => exact ⟨k + 1, by omega, rfl, by push_cast; rfl, R8⟩
    · obtain rfl : k = mn := by omega
      have j1 : decide ((k : Int) < (k : Int)) = false := by rw [decide_eq_false_iff_not]; omega
      have j3 : decide (k < k) = false := by rw [decide_eq_false_iff_not]; omega
      obtain ⟨w8, hw8⟩ : ∃ w8, w8 = wr := ⟨_, rfl⟩
      rw [← hw8] at RS ⊢
      clear hw8
      have B28 : Hid (Below w2.heap.size w2 w8) := B27.out.trans RS.out.bel
      have B18 : Hid (Below w1.heap.size w1 w8) := B2.out.trans (B28.out.mono B2.out.size)
      have B8 : Hid (Below w.heap.size w w8) := B1.out.trans (B18.out.mono B1.out.size)
      clear RS KSP
      go_wp2_with fail
      refine (KS.out w8 B8.out).mono ?_
      rintro e w9 ⟨a9, n9, c9, S9, rfl, s1, s2, s3, s4, s5, b9⟩
      have B19 : Hid (Below w1.heap.size w1 w9) := B18.out.trans (b9.mono B18.out.size)
      have hn9 : n9 = n1 := by rw [← s2, ← HS.out.2.1, ← List.length_map (f := Sk.co), s5, ← HS.out.2.2.2.2, List.length_map]
      subst hn9
      have KSS : Hid (Calls Tryd.prog 13 #[.slice a1 n9 c1, .slice a9 n9 c9] w9 fun e w' => e = .returned (.bool true) ∧ Below w9.heap.size w9 w') :=
        rsamest_true w9 _ _ n9 c1 c9 S S9 HS.out.2.1 (HS.out.1.keep B19.out) s1 (HS.out.2.2.2.2.trans s5.symm) (by omega)
      clear s1 s2 s3 s4 s5 b9
      go_wp2_with fail
      refine KSS.out.mono ?_
      rintro e w10 ⟨rfl, b10⟩
      have B10 : Hid (Below w.heap.size w w10) := B1.out.trans ((B19.out.trans (b10.mono B19.out.size)).mono B1.out.size)
      clear b10 KSS
      go_wp2_with fail
      refine (KW.out _).mono ?_
      rintro e w11 ⟨rfl, b11⟩
      have B11 : Hid (Below w.heap.size w w11) := B10.out.trans (b11.mono B10.out.size)
      clear b11
      go_wp2_with fail
      go_ret
      exact ⟨rfl, B11.out⟩
end Go.Proofs.YthghoekkdpchnaaDoor
