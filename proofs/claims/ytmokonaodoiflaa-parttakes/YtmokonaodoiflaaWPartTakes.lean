/- PartTakes's walk. -/
import Derived.Test.YtmokonaodoiflaaPtM
import Derived.Test.YtmokonaodoiflaaPuF
namespace Go.Proofs.Ytmokonaodoiflaa
open Go.ChangeShapes Go.WideShapes Go.ChangeAt Go.RowKit Go.Deep Go.Maps
set_option linter.unusedVariables false
set_option linter.unusedSimpArgs false
theorem pkk_sig : ∀ (l l' seen seen' : List Pk) (n : Nat), l.map (fun x => (x.o, x.mf, x.ln)) = l'.map (fun x => (x.o, x.mf, x.ln)) → seen.map (·.n) = seen'.map (·.n) → pkk n seen l = pkk n seen' l'
  | [], [], _, _, _, _, _ => rfl
  | [], _ :: _, _, _, _, h, _ => by simp at h
  | _ :: _, [], _, _, _, h, _ => by simp at h
  | x :: r, x' :: r', seen, seen', n, h, hs => by
    simp only [List.map_cons, List.cons.injEq, Prod.mk.injEq] at h
    obtain ⟨⟨h1, h2, h3⟩, h4⟩ := h
    have h5 : x.n = x'.n := by
      unfold Pk.mf at h2
      injection h2
    have hh : hasN seen x.n = hasN seen' x'.n := by
      have e1 : ∀ (q : List Pk) (t : Tx), hasN q t = (q.map (·.n)).any (fun z => decide (z = t)) := fun q t => by unfold hasN; rw [List.any_map]; rfl
      rw [e1, e1, hs, h5]
    unfold pkk
    rw [h1, h2, h3, hh, pkk_sig r r' (seen ++ [x]) (seen' ++ [x']) (n + x'.ln) h4 (by rw [List.map_append, List.map_append, hs]; simp [h5])]
theorem wchk_alike {M M' : List Pk} (h : Alike M M') (h1 : ∀ x ∈ M, x.l.length = x.ln) (h2 : ∀ x ∈ M', x.l.length = x.ln) (k f t x : Int) (y : Bool) : wchk k f t x y M = wchk k f t x y M' := by
  have hm : M.map (fun x => (x.o, x.mf, x.ln)) = M'.map (fun x => (x.o, x.mf, x.ln)) := by
    refine List.ext_getElem? fun i => ?_
    rw [List.getElem?_map, List.getElem?_map]
    cases hx : M[i]? with
    | none =>
      have : M'[i]? = none := by
        rw [List.getElem?_eq_none_iff] at hx ⊢
        rw [← h.1]
        exact hx
      rw [this]
    | some a =>
      have hi : i < M'.length := by rw [← h.1]; exact (List.getElem?_eq_some_iff.1 hx).1
      obtain ⟨b, hb⟩ : ∃ b, M'[i]? = some b := ⟨M'[i], List.getElem?_eq_getElem hi⟩
      obtain ⟨q1, q2, q3, q4⟩ := h.2 i a b hx hb
      rw [hb]
      simp only [Option.map_some, Option.some.injEq, Prod.mk.injEq]
      refine ⟨q1, ?_, ?_⟩
      · unfold Pk.mf; rw [q2, q3, q4]
      · rw [← h1 a (List.mem_of_getElem? hx), ← h2 b (List.mem_of_getElem? hb), q4]
  have hp : pchk M = pchk M' := pkk_sig M M' [] [] 0 hm rfl
  have hn : (M ≠ []) ↔ (M' ≠ []) := by
    have := h.1
    constructor
    · intro a e; rw [e] at this; exact a (List.length_eq_zero_iff.1 this)
    · intro a e; rw [e] at this; exact a (List.length_eq_zero_iff.1 this.symm)
  unfold wchk
  simp only [hp, hn]
set_option maxRecDepth 100000 in
set_option maxHeartbeats 16000000 in
theorem partTakes_walk (r s : Int) (ad : Option Addr) (nd cd : Nat) (D : List Int) (k f t x : Int) (y : Bool) (a : Option Addr) (n c : Nat) (L : List Pk) (w : World) (hp : PtIn w r s ad nd cd D) (hm : MsIn w k f t x a n c L) :
    Calls Try.prog 3 #[.agg #[.int .i64 r, .int .i64 s, .slice ad nd cd], .agg #[.int .i64 k, .int .i64 f, .int .i64 t, .int .i64 x, .bool y, .slice a n c]] w fun e w' => e = .returned (.bool true) ∧ Below w.heap.size w w' := by
  obtain ⟨hpI, hnd, hdc, hda, hD, hdN⟩ := hp
  obtain ⟨hI, hn, hc, ha, hL, hP, hN⟩ := hm
  obtain ⟨W0, hW0⟩ : ∃ W0, W0 = (w.alloc (.cells #[.int .i64 r, .int .i64 s, .slice ad nd cd] 24)).alloc (.cells #[.int .i64 k, .int .i64 f, .int .i64 t, .int .i64 x, .bool y, .slice a n c] 27) := ⟨_, rfl⟩
  have HE : Hid (W0 = (w.alloc (.cells #[.int .i64 r, .int .i64 s, .slice ad nd cd] 24)).alloc (.cells #[.int .i64 k, .int .i64 f, .int .i64 t, .int .i64 x, .bool y, .slice a n c] 27)) := hW0
  have hb0 : Below w.heap.size w W0 := by rw [hW0]; exact ((Below.refl _ _).alloc (Nat.le_refl _) _).alloc (by simp) _
  have hq0 : Bx W0 w.heap.size r s ad nd cd := by rw [hW0]; exact (Below.heap_alloc _ _ _ (by simp)).trans (heap_alloc_new w _)
  have hq1 : Bm W0 (w.heap.size + 1) k f t x y a n c := by
    rw [hW0]
    have := heap_alloc_new (w.alloc (.cells #[.int .i64 r, .int .i64 s, .slice ad nd cd] 24)) (.cells #[.int .i64 k, .int .i64 f, .int .i64 t, .int .i64 x, .bool y, .slice a n c] 27)
    rw [show (w.alloc (.cells #[.int .i64 r, .int .i64 s, .slice ad nd cd] 24)).heap.size = w.heap.size + 1 by simp] at this
    exact this
  have HQ : Hid (Below w.heap.size w W0 ∧ Bx W0 w.heap.size r s ad nd cd ∧ Bm W0 (w.heap.size + 1) k f t x y a n c) := ⟨hb0, hq0, hq1⟩
  have KF : Hid (∀ W, Below w.heap.size w W → Calls Try.prog 9 #[.agg #[.int .i64 r, .int .i64 s, .slice ad nd cd], .agg #[.int .i64 k, .int .i64 f, .int .i64 t, .int .i64 x, .bool y, .slice a n c]] W (fun e w' => FwSaid W w' r s k f t x y D L e)) := fun W hW => fewp_is W r s ad nd cd D hnd (hD.keep hW) hda hdc k f t x y a n c L hn (hL.keep hW) hc (fun x hx => (hP x hx).2.1)
  have KW : Hid (∀ u, Calls Try.prog 17 #[] u fun e w' => e = .returned (.bool true) ∧ Below u.heap.size u w') := pworks_true
  clear hW0 hb0 hq0 hq1 hpI hnd hdc hda hD hdN hI hn hc ha hL hP hN
  go_enter Try.func3, Try.ntmps3
  go_wp2_with fail
  rw [← HE.out]
  clear HE
  refine (KF.out _ HQ.out.1).mono ?_
  intro e w1 hsd
  obtain ⟨a5, m5, c5, a9, m9, c9, M, rfl, oz, hF, hpa, hma, hml, hb1⟩ := fw_open hsd
  obtain ⟨DT, hDT⟩ : ∃ DT, DT = D.take 100 := ⟨_, rfl⟩
  rw [← hDT] at oz hpa
  have z1 : (w1.alloc (.cells #[.int .i64 r, .int .i64 s, .slice a5 m5 c5] 24)).heap.size = w1.heap.size + 1 := by simp
  have X1 : Hid (Bx ((w1.alloc (.cells #[.int .i64 r, .int .i64 s, .slice a5 m5 c5] 24)).alloc (.cells #[.int .i64 k, .int .i64 f, .int .i64 t, .int .i64 x, .bool y, .slice a9 m9 c9] 27)) w1.heap.size r s a5 m5 c5 ∧ Bm ((w1.alloc (.cells #[.int .i64 r, .int .i64 s, .slice a5 m5 c5] 24)).alloc (.cells #[.int .i64 k, .int .i64 f, .int .i64 t, .int .i64 x, .bool y, .slice a9 m9 c9] 27)) (w1.heap.size + 1) k f t x y a9 m9 c9 ∧ PrtAt ((w1.alloc (.cells #[.int .i64 r, .int .i64 s, .slice a5 m5 c5] 24)).alloc (.cells #[.int .i64 k, .int .i64 f, .int .i64 t, .int .i64 x, .bool y, .slice a9 m9 c9] 27)) a5 m5 c5 DT ∧ MsgAt ((w1.alloc (.cells #[.int .i64 r, .int .i64 s, .slice a5 m5 c5] 24)).alloc (.cells #[.int .i64 k, .int .i64 f, .int .i64 t, .int .i64 x, .bool y, .slice a9 m9 c9] 27)) a9 m9 c9 M ∧ Below w.heap.size w ((w1.alloc (.cells #[.int .i64 r, .int .i64 s, .slice a5 m5 c5] 24)).alloc (.cells #[.int .i64 k, .int .i64 f, .int .i64 t, .int .i64 x, .bool y, .slice a9 m9 c9] 27)) ∧ FewR L M ∧ M.length = min L.length 20 ∧ Bx ((w1.alloc (.cells #[.int .i64 r, .int .i64 s, .slice a5 m5 c5] 24)).alloc (.cells #[.int .i64 k, .int .i64 f, .int .i64 t, .int .i64 x, .bool y, .slice a9 m9 c9] 27)) w.heap.size r s ad nd cd ∧ Bm ((w1.alloc (.cells #[.int .i64 r, .int .i64 s, .slice a5 m5 c5] 24)).alloc (.cells #[.int .i64 k, .int .i64 f, .int .i64 t, .int .i64 x, .bool y, .slice a9 m9 c9] 27)) (w.heap.size + 1) k f t x y a n c) := by
    have bA : Below w1.heap.size w1 ((w1.alloc (.cells #[.int .i64 r, .int .i64 s, .slice a5 m5 c5] 24)).alloc (.cells #[.int .i64 k, .int .i64 f, .int .i64 t, .int .i64 x, .bool y, .slice a9 m9 c9] 27)) := ((Below.refl _ _).alloc (Nat.le_refl _) _).alloc (by simp) _
    have bB : Below W0.heap.size W0 ((w1.alloc (.cells #[.int .i64 r, .int .i64 s, .slice a5 m5 c5] 24)).alloc (.cells #[.int .i64 k, .int .i64 f, .int .i64 t, .int .i64 x, .bool y, .slice a9 m9 c9] 27)) := hb1.trans (bA.mono hb1.size)
    refine ⟨(Below.heap_alloc _ _ _ (by omega)).trans (heap_alloc_new w1 _), ?_, hpa.keep bA, hma.keep bA, HQ.out.1.trans (bB.mono HQ.out.1.size), hF.2.1, hml, HQ.out.2.1.keep bB, HQ.out.2.2.keep bB⟩
    have := heap_alloc_new (w1.alloc (.cells #[.int .i64 r, .int .i64 s, .slice a5 m5 c5] 24)) (.cells #[.int .i64 k, .int .i64 f, .int .i64 t, .int .i64 x, .bool y, .slice a9 m9 c9] 27)
    rw [z1] at this
    exact this
  clear hsd oz hF hpa hma hb1 hml z1
  obtain ⟨c0, c1, c2⟩ := X1.out.2.2.2.2.2.2.2.1.cells
  obtain ⟨m0, m1, m2, m3, m4, m5'⟩ := X1.out.2.2.2.2.2.2.2.2.cells
  go_wp2_with fail
  refine (KF.out _ X1.out.2.2.2.2.1).mono ?_
  intro e w3 hsd
  obtain ⟨a6, m6, c6, a8, m8, c8, M', rfl, oz, hF, hpa, hma, hml, hb3⟩ := fw_open hsd
  rw [← hDT] at oz hpa
  obtain rfl : m5 = m6 := X1.out.2.2.1.len.symm.trans hpa.len
  obtain rfl : m9 = m8 := (X1.out.2.2.2.1.len.symm.trans (X1.out.2.2.2.2.2.2.1.trans hml.symm)).trans hma.len
  have z3 : (w3.alloc (.cells #[.int .i64 r, .int .i64 s, .slice a6 m5 c6] 24)).heap.size = w3.heap.size + 1 := by simp
  have X3 : Hid (Bx ((w3.alloc (.cells #[.int .i64 r, .int .i64 s, .slice a6 m5 c6] 24)).alloc (.cells #[.int .i64 k, .int .i64 f, .int .i64 t, .int .i64 x, .bool y, .slice a8 m9 c8] 27)) w3.heap.size r s a6 m5 c6 ∧ Bm ((w3.alloc (.cells #[.int .i64 r, .int .i64 s, .slice a6 m5 c6] 24)).alloc (.cells #[.int .i64 k, .int .i64 f, .int .i64 t, .int .i64 x, .bool y, .slice a8 m9 c8] 27)) (w3.heap.size + 1) k f t x y a8 m9 c8 ∧ PrtAt ((w3.alloc (.cells #[.int .i64 r, .int .i64 s, .slice a6 m5 c6] 24)).alloc (.cells #[.int .i64 k, .int .i64 f, .int .i64 t, .int .i64 x, .bool y, .slice a8 m9 c8] 27)) a6 m5 c6 DT ∧ MsgAt ((w3.alloc (.cells #[.int .i64 r, .int .i64 s, .slice a6 m5 c6] 24)).alloc (.cells #[.int .i64 k, .int .i64 f, .int .i64 t, .int .i64 x, .bool y, .slice a8 m9 c8] 27)) a8 m9 c8 M' ∧ Below w.heap.size w ((w3.alloc (.cells #[.int .i64 r, .int .i64 s, .slice a6 m5 c6] 24)).alloc (.cells #[.int .i64 k, .int .i64 f, .int .i64 t, .int .i64 x, .bool y, .slice a8 m9 c8] 27)) ∧ Alike M M' ∧ Bx ((w3.alloc (.cells #[.int .i64 r, .int .i64 s, .slice a6 m5 c6] 24)).alloc (.cells #[.int .i64 k, .int .i64 f, .int .i64 t, .int .i64 x, .bool y, .slice a8 m9 c8] 27)) w1.heap.size r s a5 m5 c5 ∧ Bm ((w3.alloc (.cells #[.int .i64 r, .int .i64 s, .slice a6 m5 c6] 24)).alloc (.cells #[.int .i64 k, .int .i64 f, .int .i64 t, .int .i64 x, .bool y, .slice a8 m9 c8] 27)) (w1.heap.size + 1) k f t x y a9 m9 c9 ∧ PrtAt ((w3.alloc (.cells #[.int .i64 r, .int .i64 s, .slice a6 m5 c6] 24)).alloc (.cells #[.int .i64 k, .int .i64 f, .int .i64 t, .int .i64 x, .bool y, .slice a8 m9 c8] 27)) a5 m5 c5 DT ∧ MsgAt ((w3.alloc (.cells #[.int .i64 r, .int .i64 s, .slice a6 m5 c6] 24)).alloc (.cells #[.int .i64 k, .int .i64 f, .int .i64 t, .int .i64 x, .bool y, .slice a8 m9 c8] 27)) a9 m9 c9 M) := by
    have bA : Below w3.heap.size w3 ((w3.alloc (.cells #[.int .i64 r, .int .i64 s, .slice a6 m5 c6] 24)).alloc (.cells #[.int .i64 k, .int .i64 f, .int .i64 t, .int .i64 x, .bool y, .slice a8 m9 c8] 27)) := ((Below.refl _ _).alloc (Nat.le_refl _) _).alloc (by simp) _
    have bB : Below ((w1.alloc (.cells #[.int .i64 r, .int .i64 s, .slice a5 m5 c5] 24)).alloc (.cells #[.int .i64 k, .int .i64 f, .int .i64 t, .int .i64 x, .bool y, .slice a9 m9 c9] 27)).heap.size ((w1.alloc (.cells #[.int .i64 r, .int .i64 s, .slice a5 m5 c5] 24)).alloc (.cells #[.int .i64 k, .int .i64 f, .int .i64 t, .int .i64 x, .bool y, .slice a9 m9 c9] 27)) ((w3.alloc (.cells #[.int .i64 r, .int .i64 s, .slice a6 m5 c6] 24)).alloc (.cells #[.int .i64 k, .int .i64 f, .int .i64 t, .int .i64 x, .bool y, .slice a8 m9 c8] 27)) := hb3.trans (bA.mono hb3.size)
    refine ⟨(Below.heap_alloc _ _ _ (by omega)).trans (heap_alloc_new w3 _), ?_, hpa.keep bA, hma.keep bA, X1.out.2.2.2.2.1.trans (bB.mono X1.out.2.2.2.2.1.size), few_alike X1.out.2.2.2.2.2.1 hF.2.1 (X1.out.2.2.2.2.2.2.1.trans hml.symm), X1.out.1.keep bB, X1.out.2.1.keep bB, X1.out.2.2.1.keep bB, X1.out.2.2.2.1.keep bB⟩
    have := heap_alloc_new (w3.alloc (.cells #[.int .i64 r, .int .i64 s, .slice a6 m5 c6] 24)) (.cells #[.int .i64 k, .int .i64 f, .int .i64 t, .int .i64 x, .bool y, .slice a8 m9 c8] 27)
    rw [z3] at this
    exact this
  clear hsd oz hF hpa hma hb3 hml z3 X1 c0 c1 c2 m0 m1 m2 m3 m4 m5' KF HQ hDT
  obtain ⟨c0, c1, c2⟩ := X3.out.2.2.2.2.2.2.1.cells
  obtain ⟨m0, m1, m2, m3, m4, m5'⟩ := X3.out.2.2.2.2.2.2.2.1.cells
  go_wp2_with fail
  refine (take_at X3.out.2.2.2.2.2.2.2.2.1 X3.out.2.2.2.2.2.2.2.2.2 r s k f t x y).mono ?_
  rintro e w5 ⟨V, rfl, hsd⟩
  obtain ⟨U, hU⟩ : ∃ U, U = (w3.alloc (.cells #[.int .i64 r, .int .i64 s, .slice a6 m5 c6] 24)).alloc (.cells #[.int .i64 k, .int .i64 f, .int .i64 t, .int .i64 x, .bool y, .slice a8 m9 c8] 27) := ⟨_, rfl⟩
  rw [← hU] at X3 hsd
  clear hU c0 c1 c2 m0 m1 m2 m3 m4 m5'
  obtain ⟨P, t1, t2, t3, b5⟩ := hsd
  -- what Take left: the deeds, and where their packages lie
  have TK : Hid (∃ l, OwnD w5 U.heap.size V l ∧ l.length ≤ 3 ∧ (∀ (i : Nat) d, l[i]? = some d → Pw w5 U.heap.size d ∧ d.pn ≤ 1000) ∧ (∀ W W' V', Below w5.heap.size w5 W → RtSaid W W' r s DT k f t x y M' (a8, m9, c8) V' → ∃ l2, OwnD W' 0 V' l2 ∧ l2.length = l.length ∧ ∀ (i : Nat) d e, l[i]? = some d → l2[i]? = some e → Dlk W' d e)) := by
    by_cases hok : tkOk r s DT k f t x y M
    · have hok' : tkOk r s DT k f t x y M' := ⟨hok.1, by rw [← hok.2.1]; exact (wchk_alike X3.out.2.2.2.2.2.1 (fun x hx => (X3.out.2.2.2.2.2.2.2.2.2.pk x hx).1.len) (fun x hx => (X3.out.2.2.2.1.pk x hx).1.len) k f t x y).symm, hok.2.2⟩
      obtain ⟨q1, q2, q3⟩ := tkD_pairs r s DT k x P P
      refine ⟨_, t1 hok, q2, fun i d hd => ?_, fun W W' V' hW hr => ?_⟩
      · rcases q3 i d d hd hd with ⟨_, h, _⟩ | ⟨rfl, _, hk1, hxD, hs0⟩
        · exact ⟨.inl h, by omega⟩
        · obtain ⟨Mc, hc⟩ := t3 hok hk1 hxD hs0
          refine ⟨cpd_pw (d := dSt x P) hc, ?_⟩
          have i2 := (cpd_in hc).2
          have i3 := (cpd_alike hc X3.out.2.2.2.2.2.1).1
          have i4 := X3.out.2.2.2.1.len
          have i5 := X3.out.2.2.2.1.big
          show P.2.1 ≤ 1000
          omega
      · obtain ⟨p1, p2, p3⟩ := tkD_pairs r s DT k x P (a8, m9, c8)
        have bW : Below w5.heap.size w5 W' := hW.trans (hr.2.2.mono hW.size)
        refine ⟨_, (hr.1 hok').base (Nat.zero_le _), p1.symm, fun i d e hd he => ?_⟩
        rcases p3 i d e hd he with ⟨rfl, h0, hm0⟩ | ⟨rfl, rfl, hk1, hxD, hs0⟩
        · exact ⟨rfl, rfl, rfl, hm0, rfl, by omega, [], [], h0.symm, .inl rfl, .inl rfl, Alike.refl _⟩
        · obtain ⟨Mc, hc⟩ := t3 hok hk1 hxD hs0
          obtain ⟨i1, i2⟩ := cpd_in hc
          have hal := cpd_alike hc X3.out.2.2.2.2.2.1
          have hlen : P.2.1 = m9 := i2.symm.trans (hal.1.trans X3.out.2.2.2.1.len)
          have i3 : InPk W' a8 M' := (X3.out.2.2.2.1.keep (b5.trans (bW.mono b5.size))).inp
          exact ⟨rfl, rfl, rfl, rfl, hlen, by show P.2.1 ≤ 1000; have := X3.out.2.2.2.1.big; omega, Mc, M', i2, i1.keep bW, i3, hal⟩
    · have hok' : ¬ tkOk r s DT k f t x y M' := fun h => hok ⟨h.1, by rw [← h.2.1]; exact wchk_alike X3.out.2.2.2.2.2.1 (fun x hx => (X3.out.2.2.2.2.2.2.2.2.2.pk x hx).1.len) (fun x hx => (X3.out.2.2.2.1.pk x hx).1.len) k f t x y, h.2.2⟩
      rw [t2 hok]
      refine ⟨[], OwnD.nil _ _, by simp, fun i d hd => by simp at hd, fun W W' V' hW hr => ⟨[], ?_, rfl, fun i d e hd => by simp at hd⟩⟩
      rw [hr.2.1 hok']
      exact OwnD.nil _ _
  obtain ⟨l, ol, hl3, hpw, hsm⟩ := TK.out
  obtain ⟨aV, cV, rfl, -⟩ := ol.slice
  obtain ⟨nV, hnV⟩ : ∃ nV, nV = l.length := ⟨_, rfl⟩
  rw [← hnV] at ol
  have HT : Hid (OwnD w5 U.heap.size (.slice aV nV cV) l ∧ l.length = nV ∧ nV ≤ 3 ∧ (∀ (i : Nat) d, l[i]? = some d → Pw w5 U.heap.size d) ∧ (∀ W W' V', Below w5.heap.size w5 W → RtSaid W W' r s DT k f t x y M' (a8, m9, c8) V' → ∃ l2, OwnD W' 0 V' l2 ∧ l2.length = l.length ∧ ∀ (i : Nat) d e, l[i]? = some d → l2[i]? = some e → Dlk W' d e)) := ⟨ol, hnV.symm, by omega, fun i d hd => (hpw i d hd).1, hsm⟩
  have DPN : Hid (∀ (i : Nat) d, l[i]? = some d → d.pn ≤ 1000) := fun i d hd => (hpw i d hd).2
  have B5 : Hid (Below U.heap.size U w5) := b5
  rw [← hnV]
  clear TK t1 t2 t3 b5 ol hl3 hpw hsm hnV P
  go_wp2_with fail
  have KB : Hid (∀ u, Below w5.heap.size w5 u → (Bx u w1.heap.size r s a5 m5 c5 ∧ Bm u (w1.heap.size + 1) k f t x y a9 m9 c9 ∧ PrtAt u a5 m5 c5 DT ∧ MsgAt u a9 m9 c9 M) ∧ Bx u w3.heap.size r s a6 m5 c6 ∧ Bm u (w3.heap.size + 1) k f t x y a8 m9 c8 ∧ PrtAt u a6 m5 c6 DT ∧ MsgAt u a8 m9 c8 M') := fun u hu => by
    have hb := B5.out.trans (hu.mono B5.out.size)
    obtain ⟨x1, x2, x3, x4, x5, x6, x7, x8, x9, x10⟩ := X3.out
    exact ⟨⟨x7.keep hb, x8.keep hb, x9.keep hb, x10.keep hb⟩, x1.keep hb, x2.keep hb, x3.keep hb, x4.keep hb⟩
  obtain ⟨gG, hgG⟩ : ∃ gG, gG = gdP r s DT := ⟨_, rfl⟩
  have GG : Hid (gG = gdP r s DT) := hgG
  have gg : (gG == gG) = true := by simp
  clear hgG
  refine wp_region_noPanic ?_
  refine wp_region_held_drew (S := (fun u : World => Below w5.heap.size w5 u)) (by kernel_rfl) ?hSat (fun hHeld => ?restat)
  case hSat => exact (Below.refl _ _).drew
  case restat =>
  refine wpAnyH_take (i := 0) (v := .slice aV nV cV) rfl (by kernel_rfl) (by kernel_rfl) (by kernel_rfl) (fun _ _ _ h => h) (Or.inl ⟨by kernel_rfl, ?hy0t⟩) hHeld ?rest0t
  case hy0t => (intro w' hSw; obtain ⟨⟨xa, xb, -, -⟩, xc, xd, -, -⟩ := KB.out _ hSw; obtain ⟨p0, p1, p2⟩ := xa.cells; obtain ⟨q0, q1, q2, q3, q4, q5⟩ := xb.cells; obtain ⟨r0, r1, r2⟩ := xc.cells; obtain ⟨s0, s1, s2, s3, s4, s5⟩ := xd.cells; go_simp; try with_reducible rfl)
  try simp only [Act.put, List.setIfInBounds_toArray, List.set_cons_zero, List.set_cons_succ, List.getElem_toArray, List.getElem_cons_zero, List.getElem_cons_succ]
  refine wpAnyH_take (i := 1) (v := .agg #[.int .i64 r, .int .i64 s, .slice a6 m5 c6]) rfl (by kernel_rfl) (by kernel_rfl) (by kernel_rfl) (fun _ _ _ h => h) (Or.inl ⟨by kernel_rfl, ?hy1t⟩) hHeld ?rest1t
  case hy1t => (intro w' hSw; obtain ⟨⟨xa, xb, -, -⟩, xc, xd, -, -⟩ := KB.out _ hSw; obtain ⟨p0, p1, p2⟩ := xa.cells; obtain ⟨q0, q1, q2, q3, q4, q5⟩ := xb.cells; obtain ⟨r0, r1, r2⟩ := xc.cells; obtain ⟨s0, s1, s2, s3, s4, s5⟩ := xd.cells; go_simp; try with_reducible rfl)
  try simp only [Act.put, List.setIfInBounds_toArray, List.set_cons_zero, List.set_cons_succ, List.getElem_toArray, List.getElem_cons_zero, List.getElem_cons_succ]
  refine wpAnyH_take (i := 2) (v := .agg #[.int .i64 k, .int .i64 f, .int .i64 t, .int .i64 x, .bool y, .slice a8 m9 c8]) rfl (by kernel_rfl) (by kernel_rfl) (by kernel_rfl) (fun _ _ _ h => h) (Or.inl ⟨by kernel_rfl, ?hy2t⟩) hHeld ?rest2t
  case hy2t => (intro w' hSw; obtain ⟨⟨xa, xb, -, -⟩, xc, xd, -, -⟩ := KB.out _ hSw; obtain ⟨p0, p1, p2⟩ := xa.cells; obtain ⟨q0, q1, q2, q3, q4, q5⟩ := xb.cells; obtain ⟨r0, r1, r2⟩ := xc.cells; obtain ⟨s0, s1, s2, s3, s4, s5⟩ := xd.cells; go_simp; try with_reducible rfl)
  try simp only [Act.put, List.setIfInBounds_toArray, List.set_cons_zero, List.set_cons_succ, List.getElem_toArray, List.getElem_cons_zero, List.getElem_cons_succ]
  refine wpAnyH_ready (rs := [3]) (by kernel_rfl) (by simp) ?_
  refine AllReadyH.cons rfl (fun K hK => ?_) AllReadyH.nil
  go_simp; refine (rtake_is _ r s a6 m5 c6 DT (KB.out _ hHeld).2.2.2.1 k f t x y a8 m9 c8 M' (KB.out _ hHeld).2.2.2.2).mono ?_; rintro e6 w6 ⟨V6, rfl, h6⟩; have B6 : Hid (Below w5.heap.size w5 w6) := (hHeld : Below _ _ _).trans (h6.2.2.mono (hHeld : Below _ _ _).size); have H6 : Hid (∃ l2, OwnD w6 0 V6 l2 ∧ l2.length = l.length ∧ ∀ (i : Nat) d e, l[i]? = some d → l2[i]? = some e → Dlk w6 d e) := HT.out.2.2.2.2 _ _ _ hHeld h6; clear h6; go_wp2_with fail
  refine hK.out _ _ ?hS3t (fun hHeld => ?rest3t)
  case hS3t => exact B6.out
  clear hK K
  try simp only [Act.put, List.setIfInBounds_toArray, List.set_cons_zero, List.set_cons_succ, List.getElem_toArray, List.getElem_cons_zero, List.getElem_cons_succ]
  refine wpAnyH_ready (rs := [4]) (by kernel_rfl) (by simp) ?_
  refine AllReadyH.cons rfl (fun K hK => ?_) AllReadyH.nil
  go_simp; obtain ⟨l2, o2, n2, k2⟩ := H6.out; refine (rsameP_is w6 (.slice aV nV cV) V6 l l2 ((HT.out.1.base (Nat.zero_le _)).keep B6.out) o2 n2 k2 (by have := HT.out.2; omega)).mono ?_; rintro e7 w7 ⟨rfl, b7⟩; have B7 : Hid (Below w5.heap.size w5 w7) := B6.out.trans (b7.mono B6.out.size); clear b7 o2 n2 k2; go_wp2_with fail
  refine hK.out _ _ ?hS4t (fun hHeld => ?rest4t)
  case hS4t => exact B7.out
  clear hK K
  try simp only [Act.put, List.setIfInBounds_toArray, List.set_cons_zero, List.set_cons_succ, List.getElem_toArray, List.getElem_cons_zero, List.getElem_cons_succ]
  refine wpAnyH_take (i := 5) (v := .bool true) rfl (by kernel_rfl) (by kernel_rfl) (by kernel_rfl) (fun _ _ _ h => h) (Or.inl ⟨by kernel_rfl, ?hy5t⟩) hHeld ?rest5t
  case hy5t => (intro w' hSw; obtain ⟨⟨xa, xb, -, -⟩, xc, xd, -, -⟩ := KB.out _ hSw; obtain ⟨p0, p1, p2⟩ := xa.cells; obtain ⟨q0, q1, q2, q3, q4, q5⟩ := xb.cells; obtain ⟨r0, r1, r2⟩ := xc.cells; obtain ⟨s0, s1, s2, s3, s4, s5⟩ := xd.cells; go_simp; try with_reducible rfl)
  try simp only [Act.put, List.setIfInBounds_toArray, List.set_cons_zero, List.set_cons_succ, List.getElem_toArray, List.getElem_cons_zero, List.getElem_cons_succ]
  refine wpAnyH_take (i := 6) (v := .agg #[.int .i64 r, .int .i64 s, .slice a5 m5 c5]) rfl (by kernel_rfl) (by kernel_rfl) (by kernel_rfl) (fun _ _ _ h => h) (Or.inl ⟨by kernel_rfl, ?hy6t⟩) hHeld ?rest6t
  case hy6t => (intro w' hSw; obtain ⟨⟨xa, xb, -, -⟩, xc, xd, -, -⟩ := KB.out _ hSw; obtain ⟨p0, p1, p2⟩ := xa.cells; obtain ⟨q0, q1, q2, q3, q4, q5⟩ := xb.cells; obtain ⟨r0, r1, r2⟩ := xc.cells; obtain ⟨s0, s1, s2, s3, s4, s5⟩ := xd.cells; go_simp; try with_reducible rfl)
  try simp only [Act.put, List.setIfInBounds_toArray, List.set_cons_zero, List.set_cons_succ, List.getElem_toArray, List.getElem_cons_zero, List.getElem_cons_succ]
  refine wpAnyH_take (i := 8) (v := .agg #[.int .i64 r, .int .i64 s, .slice a6 m5 c6]) rfl (by kernel_rfl) (by kernel_rfl) (by kernel_rfl) (fun _ _ _ h => h) (Or.inl ⟨by kernel_rfl, ?hy8t⟩) hHeld ?rest8t
  case hy8t => (intro w' hSw; obtain ⟨⟨xa, xb, -, -⟩, xc, xd, -, -⟩ := KB.out _ hSw; obtain ⟨p0, p1, p2⟩ := xa.cells; obtain ⟨q0, q1, q2, q3, q4, q5⟩ := xb.cells; obtain ⟨r0, r1, r2⟩ := xc.cells; obtain ⟨s0, s1, s2, s3, s4, s5⟩ := xd.cells; go_simp; try with_reducible rfl)
  try simp only [Act.put, List.setIfInBounds_toArray, List.set_cons_zero, List.set_cons_succ, List.getElem_toArray, List.getElem_cons_zero, List.getElem_cons_succ]
  refine wpAnyH_ready (rs := [7]) (by kernel_rfl) (by simp) ?_
  refine AllReadyH.cons rfl (fun K hK => ?_) AllReadyH.nil
  go_simp; have hg := good_at (KB.out _ B7.out).1.2.2.1 r s; rw [← GG.out] at hg; refine hg.mono ?_; rintro e8 w8 ⟨rfl, b8⟩; have B8 : Hid (Below w5.heap.size w5 w8) := B7.out.trans (b8.mono B7.out.size); clear b8 hg; go_wp2_with fail
  refine hK.out _ _ ?hS7t (fun hHeld => ?rest7t)
  case hS7t => exact B8.out
  clear hK K
  try simp only [Act.put, List.setIfInBounds_toArray, List.set_cons_zero, List.set_cons_succ, List.getElem_toArray, List.getElem_cons_zero, List.getElem_cons_succ]
  refine wpAnyH_ready (rs := [9]) (by kernel_rfl) (by simp) ?_
  refine AllReadyH.cons rfl (fun K hK => ?_) AllReadyH.nil
  go_simp; have hg := rgood_is _ r s a6 m5 c6 DT (KB.out _ B8.out).2.2.2.1; rw [← GG.out] at hg; refine hg.mono ?_; rintro e9 w9 ⟨rfl, b9⟩; have B9 : Hid (Below w5.heap.size w5 w9) := B8.out.trans (b9.mono B8.out.size); clear b9 hg; go_wp2_with fail
  refine hK.out _ _ ?hS9t (fun hHeld => ?rest9t)
  case hS9t => exact B9.out
  clear hK K
  try simp only [Act.put, List.setIfInBounds_toArray, List.set_cons_zero, List.set_cons_succ, List.getElem_toArray, List.getElem_cons_zero, List.getElem_cons_succ]
  refine wpAnyH_take (i := 10) (v := .bool true) rfl (by kernel_rfl) (by kernel_rfl) (by kernel_rfl) (fun _ _ _ h => h) (Or.inl ⟨by kernel_rfl, ?hy10t⟩) hHeld ?rest10t
  case hy10t => (intro w' hSw; obtain ⟨⟨xa, xb, -, -⟩, xc, xd, -, -⟩ := KB.out _ hSw; obtain ⟨p0, p1, p2⟩ := xa.cells; obtain ⟨q0, q1, q2, q3, q4, q5⟩ := xb.cells; obtain ⟨r0, r1, r2⟩ := xc.cells; obtain ⟨s0, s1, s2, s3, s4, s5⟩ := xd.cells; go_simp; try with_reducible rfl)
  try simp only [Act.put, List.setIfInBounds_toArray, List.set_cons_zero, List.set_cons_succ, List.getElem_toArray, List.getElem_cons_zero, List.getElem_cons_succ]
  refine wpAnyH_take (i := 11) (v := .bool true) rfl (by kernel_rfl) (by kernel_rfl) (by kernel_rfl) (fun _ _ _ h => h) (Or.inl ⟨by kernel_rfl, ?hy11t⟩) hHeld ?rest11t
  case hy11t => (intro w' hSw; obtain ⟨⟨xa, xb, -, -⟩, xc, xd, -, -⟩ := KB.out _ hSw; obtain ⟨p0, p1, p2⟩ := xa.cells; obtain ⟨q0, q1, q2, q3, q4, q5⟩ := xb.cells; obtain ⟨r0, r1, r2⟩ := xc.cells; obtain ⟨s0, s1, s2, s3, s4, s5⟩ := xd.cells; go_simp; try with_reducible rfl)
  try simp only [Act.put, List.setIfInBounds_toArray, List.set_cons_zero, List.set_cons_succ, List.getElem_toArray, List.getElem_cons_zero, List.getElem_cons_succ]
  refine wpAnyH_take (i := 12) (v := .bool true) rfl (by kernel_rfl) (by kernel_rfl) (by kernel_rfl) (fun _ _ _ h => h) (Or.inl ⟨by kernel_rfl, ?hy12t⟩) hHeld ?rest12t
  case hy12t => (intro w' hSw; obtain ⟨⟨xa, xb, -, -⟩, xc, xd, -, -⟩ := KB.out _ hSw; obtain ⟨p0, p1, p2⟩ := xa.cells; obtain ⟨q0, q1, q2, q3, q4, q5⟩ := xb.cells; obtain ⟨r0, r1, r2⟩ := xc.cells; obtain ⟨s0, s1, s2, s3, s4, s5⟩ := xd.cells; go_simp; try with_reducible rfl)
  try simp only [Act.put, List.setIfInBounds_toArray, List.set_cons_zero, List.set_cons_succ, List.getElem_toArray, List.getElem_cons_zero, List.getElem_cons_succ]
  refine wpAnyH_take (i := 13) (v := .pointer (some ⟨w1.heap.size, 2, none⟩)) rfl (by kernel_rfl) (by kernel_rfl) (by kernel_rfl) (fun _ _ _ h => h) (Or.inl ⟨by kernel_rfl, ?hy13t⟩) hHeld ?rest13t
  case hy13t => (intro w' hSw; obtain ⟨⟨xa, xb, -, -⟩, xc, xd, -, -⟩ := KB.out _ hSw; obtain ⟨p0, p1, p2⟩ := xa.cells; obtain ⟨q0, q1, q2, q3, q4, q5⟩ := xb.cells; obtain ⟨r0, r1, r2⟩ := xc.cells; obtain ⟨s0, s1, s2, s3, s4, s5⟩ := xd.cells; go_simp; try with_reducible rfl)
  try simp only [Act.put, List.setIfInBounds_toArray, List.set_cons_zero, List.set_cons_succ, List.getElem_toArray, List.getElem_cons_zero, List.getElem_cons_succ]
  refine wpAnyH_take (i := 14) (v := .slice a5 m5 c5) rfl (by kernel_rfl) (by kernel_rfl) (by kernel_rfl) (fun _ _ _ h => h) (Or.inl ⟨by kernel_rfl, ?hy14t⟩) hHeld ?rest14t
  case hy14t => (intro w' hSw; obtain ⟨⟨xa, xb, -, -⟩, xc, xd, -, -⟩ := KB.out _ hSw; obtain ⟨p0, p1, p2⟩ := xa.cells; obtain ⟨q0, q1, q2, q3, q4, q5⟩ := xb.cells; obtain ⟨r0, r1, r2⟩ := xc.cells; obtain ⟨s0, s1, s2, s3, s4, s5⟩ := xd.cells; go_simp; try with_reducible rfl)
  try simp only [Act.put, List.setIfInBounds_toArray, List.set_cons_zero, List.set_cons_succ, List.getElem_toArray, List.getElem_cons_zero, List.getElem_cons_succ]
  refine wpAnyH_take (i := 15) (v := .pointer (some ⟨w3.heap.size, 2, none⟩)) rfl (by kernel_rfl) (by kernel_rfl) (by kernel_rfl) (fun _ _ _ h => h) (Or.inl ⟨by kernel_rfl, ?hy15t⟩) hHeld ?rest15t
  case hy15t => (intro w' hSw; obtain ⟨⟨xa, xb, -, -⟩, xc, xd, -, -⟩ := KB.out _ hSw; obtain ⟨p0, p1, p2⟩ := xa.cells; obtain ⟨q0, q1, q2, q3, q4, q5⟩ := xb.cells; obtain ⟨r0, r1, r2⟩ := xc.cells; obtain ⟨s0, s1, s2, s3, s4, s5⟩ := xd.cells; go_simp; try with_reducible rfl)
  try simp only [Act.put, List.setIfInBounds_toArray, List.set_cons_zero, List.set_cons_succ, List.getElem_toArray, List.getElem_cons_zero, List.getElem_cons_succ]
  refine wpAnyH_take (i := 16) (v := .slice a6 m5 c6) rfl (by kernel_rfl) (by kernel_rfl) (by kernel_rfl) (fun _ _ _ h => h) (Or.inl ⟨by kernel_rfl, ?hy16t⟩) hHeld ?rest16t
  case hy16t => (intro w' hSw; obtain ⟨⟨xa, xb, -, -⟩, xc, xd, -, -⟩ := KB.out _ hSw; obtain ⟨p0, p1, p2⟩ := xa.cells; obtain ⟨q0, q1, q2, q3, q4, q5⟩ := xb.cells; obtain ⟨r0, r1, r2⟩ := xc.cells; obtain ⟨s0, s1, s2, s3, s4, s5⟩ := xd.cells; go_simp; try with_reducible rfl)
  try simp only [Act.put, List.setIfInBounds_toArray, List.set_cons_zero, List.set_cons_succ, List.getElem_toArray, List.getElem_cons_zero, List.getElem_cons_succ]
  refine wpAnyH_ready (rs := [17]) (by kernel_rfl) (by simp) ?_
  refine AllReadyH.cons rfl (fun K hK => ?_) AllReadyH.nil
  go_simp; have k9 := KB.out _ B9.out; refine (samen_true _ a5 a6 m5 c5 c6 DT k9.1.2.2.1.len k9.1.2.2.1.inz k9.2.2.2.1.inz (by have := k9.1.2.2.1.big; omega)).mono ?_; rintro e10 wa ⟨rfl, ba⟩; have Ba : Hid (Below w5.heap.size w5 wa) := B9.out.trans (ba.mono B9.out.size); clear ba k9; go_wp2_with fail
  refine hK.out _ _ ?hS17t (fun hHeld => ?rest17t)
  case hS17t => exact Ba.out
  clear hK K
  try simp only [Act.put, List.setIfInBounds_toArray, List.set_cons_zero, List.set_cons_succ, List.getElem_toArray, List.getElem_cons_zero, List.getElem_cons_succ]
  refine wpAnyH_take (i := 18) (v := .bool true) rfl (by kernel_rfl) (by kernel_rfl) (by kernel_rfl) (fun _ _ _ h => h) (Or.inl ⟨by kernel_rfl, ?hy18t⟩) hHeld ?rest18t
  case hy18t => (intro w' hSw; obtain ⟨⟨xa, xb, -, -⟩, xc, xd, -, -⟩ := KB.out _ hSw; obtain ⟨p0, p1, p2⟩ := xa.cells; obtain ⟨q0, q1, q2, q3, q4, q5⟩ := xb.cells; obtain ⟨r0, r1, r2⟩ := xc.cells; obtain ⟨s0, s1, s2, s3, s4, s5⟩ := xd.cells; go_simp; try with_reducible rfl)
  try simp only [Act.put, List.setIfInBounds_toArray, List.set_cons_zero, List.set_cons_succ, List.getElem_toArray, List.getElem_cons_zero, List.getElem_cons_succ]
  refine wpAnyH_take (i := 19) (v := .bool true) rfl (by kernel_rfl) (by kernel_rfl) (by kernel_rfl) (fun _ _ _ h => h) (Or.inl ⟨by kernel_rfl, ?hy19t⟩) hHeld ?rest19t
  case hy19t => (intro w' hSw; obtain ⟨⟨xa, xb, -, -⟩, xc, xd, -, -⟩ := KB.out _ hSw; obtain ⟨p0, p1, p2⟩ := xa.cells; obtain ⟨q0, q1, q2, q3, q4, q5⟩ := xb.cells; obtain ⟨r0, r1, r2⟩ := xc.cells; obtain ⟨s0, s1, s2, s3, s4, s5⟩ := xd.cells; go_simp; try with_reducible rfl)
  try simp only [Act.put, List.setIfInBounds_toArray, List.set_cons_zero, List.set_cons_succ, List.getElem_toArray, List.getElem_cons_zero, List.getElem_cons_succ]
  refine wpAnyH_take (i := 20) (v := .pointer (some ⟨w1.heap.size + 1, 5, none⟩)) rfl (by kernel_rfl) (by kernel_rfl) (by kernel_rfl) (fun _ _ _ h => h) (Or.inl ⟨by kernel_rfl, ?hy20t⟩) hHeld ?rest20t
  case hy20t => (intro w' hSw; obtain ⟨⟨xa, xb, -, -⟩, xc, xd, -, -⟩ := KB.out _ hSw; obtain ⟨p0, p1, p2⟩ := xa.cells; obtain ⟨q0, q1, q2, q3, q4, q5⟩ := xb.cells; obtain ⟨r0, r1, r2⟩ := xc.cells; obtain ⟨s0, s1, s2, s3, s4, s5⟩ := xd.cells; go_simp; try with_reducible rfl)
  try simp only [Act.put, List.setIfInBounds_toArray, List.set_cons_zero, List.set_cons_succ, List.getElem_toArray, List.getElem_cons_zero, List.getElem_cons_succ]
  refine wpAnyH_take (i := 21) (v := .slice a9 m9 c9) rfl (by kernel_rfl) (by kernel_rfl) (by kernel_rfl) (fun _ _ _ h => h) (Or.inl ⟨by kernel_rfl, ?hy21t⟩) hHeld ?rest21t
  case hy21t => (intro w' hSw; obtain ⟨⟨xa, xb, -, -⟩, xc, xd, -, -⟩ := KB.out _ hSw; obtain ⟨p0, p1, p2⟩ := xa.cells; obtain ⟨q0, q1, q2, q3, q4, q5⟩ := xb.cells; obtain ⟨r0, r1, r2⟩ := xc.cells; obtain ⟨s0, s1, s2, s3, s4, s5⟩ := xd.cells; go_simp; try with_reducible rfl)
  try simp only [Act.put, List.setIfInBounds_toArray, List.set_cons_zero, List.set_cons_succ, List.getElem_toArray, List.getElem_cons_zero, List.getElem_cons_succ]
  refine wpAnyH_take (i := 22) (v := .pointer (some ⟨w3.heap.size + 1, 5, none⟩)) rfl (by kernel_rfl) (by kernel_rfl) (by kernel_rfl) (fun _ _ _ h => h) (Or.inl ⟨by kernel_rfl, ?hy22t⟩) hHeld ?rest22t
  case hy22t => (intro w' hSw; obtain ⟨⟨xa, xb, -, -⟩, xc, xd, -, -⟩ := KB.out _ hSw; obtain ⟨p0, p1, p2⟩ := xa.cells; obtain ⟨q0, q1, q2, q3, q4, q5⟩ := xb.cells; obtain ⟨r0, r1, r2⟩ := xc.cells; obtain ⟨s0, s1, s2, s3, s4, s5⟩ := xd.cells; go_simp; try with_reducible rfl)
  try simp only [Act.put, List.setIfInBounds_toArray, List.set_cons_zero, List.set_cons_succ, List.getElem_toArray, List.getElem_cons_zero, List.getElem_cons_succ]
  refine wpAnyH_take (i := 23) (v := .slice a8 m9 c8) rfl (by kernel_rfl) (by kernel_rfl) (by kernel_rfl) (fun _ _ _ h => h) (Or.inl ⟨by kernel_rfl, ?hy23t⟩) hHeld ?rest23t
  case hy23t => (intro w' hSw; obtain ⟨⟨xa, xb, -, -⟩, xc, xd, -, -⟩ := KB.out _ hSw; obtain ⟨p0, p1, p2⟩ := xa.cells; obtain ⟨q0, q1, q2, q3, q4, q5⟩ := xb.cells; obtain ⟨r0, r1, r2⟩ := xc.cells; obtain ⟨s0, s1, s2, s3, s4, s5⟩ := xd.cells; go_simp; try with_reducible rfl)
  try simp only [Act.put, List.setIfInBounds_toArray, List.set_cons_zero, List.set_cons_succ, List.getElem_toArray, List.getElem_cons_zero, List.getElem_cons_succ]
  refine wpAnyH_ready (rs := [24]) (by kernel_rfl) (by simp) ?_
  refine AllReadyH.cons rfl (fun K hK => ?_) AllReadyH.nil
  go_simp; have k9 := KB.out _ Ba.out; refine (rpsame_true _ a9 a8 m9 c9 c8 M M' k9.1.2.2.2.len k9.1.2.2.2.inp k9.2.2.2.2.inp X3.out.2.2.2.2.2.1 (by have := k9.1.2.2.2.big; omega)).mono ?_; rintro e11 wb ⟨rfl, bb⟩; have Bb : Hid (Below w5.heap.size w5 wb) := Ba.out.trans (bb.mono Ba.out.size); clear bb k9; go_wp2_with fail
  refine hK.out _ _ ?hS24t (fun hHeld => ?rest24t)
  case hS24t => exact Bb.out
  clear hK K
  try simp only [Act.put, List.setIfInBounds_toArray, List.set_cons_zero, List.set_cons_succ, List.getElem_toArray, List.getElem_cons_zero, List.getElem_cons_succ]
  refine wpAnyH_take (i := 25) (v := .bool true) rfl (by kernel_rfl) (by kernel_rfl) (by kernel_rfl) (fun _ _ _ h => h) (Or.inl ⟨by kernel_rfl, ?hy25t⟩) hHeld ?rest25t
  case hy25t => (intro w' hSw; obtain ⟨⟨xa, xb, -, -⟩, xc, xd, -, -⟩ := KB.out _ hSw; obtain ⟨p0, p1, p2⟩ := xa.cells; obtain ⟨q0, q1, q2, q3, q4, q5⟩ := xb.cells; obtain ⟨r0, r1, r2⟩ := xc.cells; obtain ⟨s0, s1, s2, s3, s4, s5⟩ := xd.cells; go_simp; try with_reducible rfl)
  try simp only [Act.put, List.setIfInBounds_toArray, List.set_cons_zero, List.set_cons_succ, List.getElem_toArray, List.getElem_cons_zero, List.getElem_cons_succ]
  refine wpAnyH_take (i := 26) (v := .bool true) rfl (by kernel_rfl) (by kernel_rfl) (by kernel_rfl) (fun _ _ _ h => h) (Or.inl ⟨by kernel_rfl, ?hy26t⟩) hHeld ?rest26t
  case hy26t => (intro w' hSw; obtain ⟨⟨xa, xb, -, -⟩, xc, xd, -, -⟩ := KB.out _ hSw; obtain ⟨p0, p1, p2⟩ := xa.cells; obtain ⟨q0, q1, q2, q3, q4, q5⟩ := xb.cells; obtain ⟨r0, r1, r2⟩ := xc.cells; obtain ⟨s0, s1, s2, s3, s4, s5⟩ := xd.cells; go_simp; try with_reducible rfl)
  try simp only [Act.put, List.setIfInBounds_toArray, List.set_cons_zero, List.set_cons_succ, List.getElem_toArray, List.getElem_cons_zero, List.getElem_cons_succ]
  refine wpAnyH_done (by kernel_rfl) ?_ _
  refine NoPanic.normal ?_
  have LI : Hid (OwnD wb U.heap.size (.slice aV nV cV) l ∧ (∀ (i : Nat) d, l[i]? = some d → Pw wb U.heap.size d) ∧ Below U.heap.size U wb) := ⟨HT.out.1.keep Bb.out, fun i d hd => (HT.out.2.2.2.1 i d hd).keep Bb.out, B5.out.trans (Bb.out.mono B5.out.size)⟩
  have HN : Hid (l.length = nV ∧ nV ≤ 3) := ⟨HT.out.2.1, HT.out.2.2.1⟩
  clear hHeld gg GG HT KB B5 Bb
  go_wp2_with fail
  go_loopg [57] nV (fun g i wi => ∃ j : Nat, j ≤ nV ∧ g = nV - j ∧ i = .int .i64 (j : Int) ∧ Hid (OwnD wi U.heap.size (.slice aV nV cV) l ∧ (∀ (i : Nat) d, l[i]? = some d → Pw wi U.heap.size d) ∧ Below U.heap.size U wi))
  case atStart => exact ⟨0, Nat.zero_le _, rfl, rfl, LI.out⟩
  case round =>
    obtain ⟨j, hj, rfl, rfl, RW⟩ := hrel
    clear LI
    rename World => wi
    by_cases hlt : j < nV
    · have j1 : decide ((j : Int) < (nV : Int)) = true := by rw [decide_eq_true_eq]; omega
      have j3 : (j : Int) < (nV : Int) := by omega
      have ri : IntKind.i64.wrap ((j : Int) + 1) = (j : Int) + 1 := by have := HN.out.2; rw [IntKind.wrap_i64]; omega
      obtain ⟨d, hd⟩ : ∃ d, l[j]? = some d := ⟨l[j]'(by rw [HN.out.1]; exact hlt), by simp [HN.out.1, hlt]⟩
      obtain ⟨gA, x1, e1, _, hgA, _, _, hA⟩ := RW.out.1.form (by rw [HN.out.1]; omega)
      injection e1 with e1a e1b e1c
      subst e1a
      obtain ⟨d0, d1, d2, -⟩ := hA j d hd
      have HD : Hid (l[j]? = some d) := hd
      have KD : Hid (∀ W, OwnD W U.heap.size (.slice (some ⟨gA, 0, none⟩) nV cV) l → W.cell? ⟨gA, j * 9 + 2, none⟩ = some (.slice d.pa d.pn d.pc)) := fun W hW => by
        obtain ⟨gB, x2, e2, _, _, _, _, hB⟩ := hW.form (by rw [HN.out.1]; omega)
        injection e2 with e2a
        injection e2a with e2c
        injection e2c with e2b
        subst e2b
        exact (hB j d hd).2.2.1
      clear hA hd e1b e1c hlt
      go_wp2_with fail
      go_loopg [66] d.pn (fun g i wk => ∃ q : Nat, q ≤ d.pn ∧ g = d.pn - q ∧ i = .int .i64 (q : Int) ∧ Hid (OwnD wk U.heap.size (.slice (some ⟨gA, 0, none⟩) nV cV) l ∧ (∀ (i : Nat) d, l[i]? = some d → Pw wk U.heap.size d) ∧ Below U.heap.size U wk))
      case atStart => exact ⟨0, Nat.zero_le _, rfl, rfl, RW.out⟩
      case round =>
        obtain ⟨q, hq, rfl, rfl, RK⟩ := hrel
        clear RW
        rename World => wk
        by_cases hqn : q < d.pn
        · have q1 : decide ((q : Int) < (d.pn : Int)) = true := by rw [decide_eq_true_eq]; omega
          have q3 : (q : Int) < (d.pn : Int) := by omega
          obtain ⟨gP, oP, MM, hpa, ⟨csP, hgP⟩, hMl, hMc⟩ : ∃ (g off : Nat) (M : List Pk), d.pa = some ⟨g, off, none⟩ ∧ (∃ cs, wk.heap[g]? = some (.cells cs 42)) ∧ M.length = d.pn ∧ ∀ (j : Nat) y, M[j]? = some y → wk.cell? ⟨g, off + j * 4 + 1 + 2, none⟩ = some (.slice y.la y.ln y.lc) ∧ Rw wk U.heap.size y ∧ y.ln ≤ 4611686018427387904 := by
            rcases RK.out.2.1 j d HD.out with h | h
            · omega
            · exact h
          obtain ⟨yy, hyy⟩ : ∃ yy, MM[q]? = some yy := ⟨MM[q]'(by omega), by rw [List.getElem?_eq_getElem (by omega)]⟩
          obtain ⟨f1, f2, f3⟩ := hMc q yy hyy
          have kd := KD.out wk RK.out.1
          rw [hpa] at kd
          have rq : IntKind.i64.wrap ((q : Int) + 1) = (q : Int) + 1 := by have := DPN.out j d HD.out; rw [IntKind.wrap_i64]; omega
          have KP : Hid (∀ W, OwnD W U.heap.size (.slice (some ⟨gA, 0, none⟩) nV cV) l → W.heap[gP]? = wk.heap[gP]? → W.cell? ⟨gA, j * 9 + 2, none⟩ = some (.slice (some ⟨gP, oP, none⟩) d.pn d.pc) ∧ W.cell? ⟨gP, oP + q * 4 + 1 + 2, none⟩ = some (.slice yy.la yy.ln yy.lc)) := fun W h1 h2 => ⟨by have := KD.out W h1; rw [hpa] at this; exact this, (World.cell?_of_block (a := ⟨gP, oP + q * 4 + 1 + 2, none⟩) h2).trans f1⟩
          have HP : Hid (wk.heap[gP]? = some (.cells csP 42) ∧ Rw wk U.heap.size yy) := ⟨hgP, f2⟩
          clear hMc hMl hyy f2 hpa hgP
          go_wp2_with fail
          go_loopg [80] yy.ln (fun g i wm => ∃ u : Nat, u ≤ yy.ln ∧ g = yy.ln - u ∧ i = .int .i64 (u : Int) ∧ Hid (OwnD wm U.heap.size (.slice (some ⟨gA, 0, none⟩) nV cV) l ∧ (∀ (i : Nat) d, l[i]? = some d → Pw wm U.heap.size d) ∧ Below U.heap.size U wm ∧ wm.heap[gP]? = wk.heap[gP]? ∧ Rw wm U.heap.size yy))
          case atStart => exact ⟨0, Nat.zero_le _, rfl, rfl, RK.out.1, RK.out.2.1, RK.out.2.2, rfl, HP.out.2⟩
          case round =>
            obtain ⟨u, hu, rfl, rfl, RM⟩ := hrel
            clear RK
            rename World => wm
            by_cases hun : u < yy.ln
            · have u1 : decide ((u : Int) < (yy.ln : Int)) = true := by rw [decide_eq_true_eq]; omega
              have u3 : (u : Int) < (yy.ln : Int) := by omega
              have ru : IntKind.i64.wrap ((u : Int) + 1) = (u : Int) + 1 := by rw [IntKind.wrap_i64]; omega
              obtain ⟨gr, oR, hla, hz, hRf, hce⟩ : ∃ gr off, yy.la = some ⟨gr, off, none⟩ ∧ U.heap.size ≤ gr ∧ (∃ cs, wm.heap[gr]? = some (.cells cs 46)) ∧ ∀ q, q < yy.ln → ∃ v, wm.cell? ⟨gr, off + q * 33 + 32, none⟩ = some (.int .i64 v) := by
                rcases RM.out.2.2.2.2 with h | h
                · omega
                · exact h
              obtain ⟨v, hv⟩ := hce u hun
              obtain ⟨kd, kp⟩ := KP.out wm RM.out.1 RM.out.2.2.2.1
              rw [hla] at kp
              have hfz : wm.frozen? ⟨gr, oR + u * 33 + 32, none⟩ = false := by
                obtain ⟨cs, h⟩ := hRf
                exact frozen_blk h _
              obtain ⟨vv, hvv⟩ : ∃ vv, vv = IntKind.i64.wrap (v + 1) := ⟨_, rfl⟩
              have hv2 : IntKind.i64.wrap (v + 1) = vv := hvv.symm
              have NX : Hid (OwnD (wm.setCell ⟨gr, oR + u * 33 + 32, none⟩ (.int .i64 vv)) U.heap.size (.slice (some ⟨gA, 0, none⟩) nV cV) l ∧ (∀ (i : Nat) d, l[i]? = some d → Pw (wm.setCell ⟨gr, oR + u * 33 + 32, none⟩ (.int .i64 vv)) U.heap.size d) ∧ Below U.heap.size U (wm.setCell ⟨gr, oR + u * 33 + 32, none⟩ (.int .i64 vv)) ∧ (wm.setCell ⟨gr, oR + u * 33 + 32, none⟩ (.int .i64 vv)).heap[gP]? = wk.heap[gP]? ∧ Rw (wm.setCell ⟨gr, oR + u * 33 + 32, none⟩ (.int .i64 vv)) U.heap.size yy) := by
                refine ⟨RM.out.1.bump hRf, fun i d hd => (RM.out.2.1 i d hd).bump hRf, RM.out.2.2.1.grown (grown_setCell wm gr _ _) RM.out.2.2.1.size (fun k hk => by cases hk; exact hz), ?_, RM.out.2.2.2.2.bump⟩
                refine (set_off wm gr _ gP _ (fun e => ?_)).trans RM.out.2.2.2.1
                obtain ⟨cs, h⟩ := hRf
                have := RM.out.2.2.2.1.trans HP.out.1
                rw [e, h] at this
                cases this
              clear hla hce hRf hvv hun
              go_wp2_with fail
              go_roundg (yy.ln - (u + 1))
              case measure => omega
              case rel => exact ⟨u + 1, by omega, rfl, by push_cast; rfl, NX.out⟩
            · have u1 : decide ((u : Int) < (yy.ln : Int)) = false := by rw [decide_eq_false_iff_not]; omega
              go_wp2_with fail
              go_roundg (d.pn - (q + 1))
              case measure => omega
              case rel => exact ⟨q + 1, by omega, rfl, by push_cast; rfl, RM.out.1, RM.out.2.1, RM.out.2.2.1⟩
        · have q1 : decide ((q : Int) < (d.pn : Int)) = false := by rw [decide_eq_false_iff_not]; omega
          go_wp2_with fail
          go_roundg (nV - (j + 1))
          case measure => omega
          case rel => exact ⟨j + 1, by omega, rfl, by push_cast; rfl, RK.out⟩
    · have j1 : decide ((j : Int) < (nV : Int)) = false := by rw [decide_eq_false_iff_not]; omega
      have BU : Hid (Below U.heap.size U wi) := RW.out.2.2
      obtain ⟨x1, x2, x3, x4, x5, x6, x7, x8, x9, x10⟩ := X3.out
      have KY : Hid (MsgAt wi a9 m9 c9 M ∧ MsgAt wi a8 m9 c8 M' ∧ Alike M M' ∧ Below w.heap.size w wi) := ⟨x10.keep BU.out, x4.keep BU.out, x6, x5.trans (BU.out.mono x5.size)⟩
      obtain ⟨y0, y1, y2, y3, y4, y5⟩ := (x8.keep BU.out).cells
      obtain ⟨v0, v1, v2, v3, v4, v5⟩ := (x2.keep BU.out).cells
      clear x1 x2 x3 x4 x5 x6 x7 x8 x9 x10 RW X3
      go_wp2_with fail
      refine (rpsame_true _ a9 a8 m9 c9 c8 M M' KY.out.1.len KY.out.1.inp KY.out.2.1.inp KY.out.2.2.1 (by have := KY.out.1.big; omega)).mono ?_
      rintro e12 wc ⟨rfl, bc⟩
      have Bc : Hid (Below w.heap.size w wc) := KY.out.2.2.2.trans (bc.mono KY.out.2.2.2.size)
      clear bc
      go_wp2_with fail
      refine (KW.out _).mono ?_
      rintro e13 we ⟨rfl, be⟩
      have Be : Hid (Below w.heap.size w we) := Bc.out.trans (be.mono Bc.out.size)
      clear be
      go_wp2_with fail
      go_ret
      exact ⟨rfl, Be.out⟩
end Go.Proofs.Ytmokonaodoiflaa
