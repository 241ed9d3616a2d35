/- coord: Sure, Quit (gen_coy.py). -/
import Derived.Test.YthaeidbnbgghkabMgCc13
namespace Go.Proofs.Ythaeidbnbgghkab
open Go.ChangeShapes Go.WideShapes Go.ChangeAt Go.RowKit Go.Deep Go.Maps
set_option linter.unusedVariables false
set_option linter.unusedSimpArgs false
theorem Cd.setLk {w w1 u : World} {F : Nat → Prop} {b : Nat} {lim : Int} {n m : Nat} {B : Int → Option (Nat × Option Nat)} {X : Int → Option Tr} (h : Cd w F b lim n m B X) {q : Int} {y : Nat × Option Nat} (hy : B q = some y) {x : Tr} (hx : X q = some x) (s : Int) (hw : Below w.heap.size w w1) {V : Value} {P : List Pv} (ho : OwnPv w1 w.heap.size V P) (hn : ∀ p ∈ P, NewSt w1 w.heap.size p.a p.n p.c p.M) (hu : w1.grownBy u (some y.1)) (hbk : ∀ vr vl, w1.heap[y.1]? = some (.cells #[.int .i64 q, .int .i64 x.st, .int .i64 x.age, vr, vl] 51) → u.heap[y.1]? = some (.cells #[.int .i64 q, .int .i64 s, .int .i64 x.age, vr, V] 51)) :
    ∃ F', Cd u F' b lim n m (updB B q (y.1, V.ownBlock)) (updX X q ⟨s, x.age, x.rts, P.map fun p => (p.r, p.co)⟩) ∧ Stp F F' w u := by
  obtain ⟨x0, hx0, ht⟩ := h.at hy
  rw [hx] at hx0
  cases hx0
  have hyF : F y.1 := by
    obtain ⟨_, _, _, _, _, _, _, _, _, h7, _⟩ := ht
    exact h7
  have hyl : y.1 < w.heap.size := h.lt _ hyF
  have hsz : w.heap.size ≤ u.heap.size := Nat.le_trans hw.size hu.size
  have hnew : ∀ k, w.heap.size ≤ k → k < w1.heap.size → u.heap[k]? = w1.heap[k]? := fun k h1 h2 => hu.block k h2 (fun e => by cases e; exact absurd hyl (Nat.not_lt.2 h1))
  have hold : ∀ k, F k → k ≠ y.1 → u.heap[k]? = w.heap[k]? := fun k hk hn => (hu.block k (Nat.lt_of_lt_of_le (h.lt k hk) hw.size) (fun e => hn (by cases e; rfl))).trans (hw.block k (h.lt k hk))
  have hsk : ∀ p ∈ P, ∀ k, SkF p.a p.M k → w.heap.size ≤ k ∧ k < w1.heap.size := fun p hp k hk => by
    obtain ⟨t1, t2, _⟩ := (hn p hp).typ k hk
    exact ⟨t1, t2⟩
  refine ⟨fun k => F k ∨ V.ownBlock = some k ∨ ∃ p ∈ P, SkF p.a p.M k, h.turn (u := u) (F' := fun k => F k ∨ V.ownBlock = some k ∨ ∃ p ∈ P, SkF p.a p.M k) (y' := (y.1, V.ownBlock)) hy hsz (fun k hk => .inl hk) ?_ (fun k hk n1 _ => hold k hk n1) rfl (.inr fun k hk => (ho.own k hk).1) ?_, ⟨⟨?_, ?_, ?_, hsz, fun k hk hnF => ?_⟩, fun k hk => ?_⟩⟩
  · rintro k (hk | hk | ⟨p, hp, hk⟩)
    · exact Nat.lt_of_lt_of_le (h.lt k hk) hsz
    · exact Nat.lt_of_lt_of_le (ho.own k hk).2 hu.size
    · exact Nat.lt_of_lt_of_le (hsk p hp k hk).2 hu.size
  · obtain ⟨vr, vl, P0, k1, k2, k3, k4, k5, k6, k7, k8, k9, k10⟩ := ht
    refine ⟨vr, V, P, hbk vr vl ((hw.block y.1 hyl).trans k1), rfl, k3.kept (fun k hk => hold k (k8 k hk) (fun e => ?_)), (ho.kept (fun k hk => hnew k (ho.own k hk).1 (ho.own k hk).2)).base (Nat.zero_le _), fun p hp => ((hn p hp).keptF hu.size (fun k hk => hnew k (hsk p hp k hk).1 (hsk p hp k hk).2)).base (Nat.zero_le _), rfl, .inl k7, fun k hk => .inl (k8 k hk), fun k hk => .inr (.inl hk), fun p hp k hk => .inr (.inr ⟨p, hp, hk⟩)⟩
    obtain ⟨cs, hc⟩ := ownZ_typ k3 hk
    rw [e, k1] at hc
    exact absurd hc (by simp)
  · exact hu.os.trans hw.os
  · exact hu.tape.trans hw.tape
  · exact hu.output.trans hw.output
  · exact (hu.block k (Nat.lt_of_lt_of_le hk hw.size) (fun e => by cases e; exact hnF hyF)).trans (hw.block k hk)
  · rcases hk with hk | hk | ⟨p, hp, hk⟩
    · exact .inl hk
    · exact .inr (ho.own k hk).1
    · exact .inr (hsk p hp k hk).1
set_option maxRecDepth 100000 in
set_option maxHeartbeats 8000000 in
theorem sure_is (w : World) (F : Nat → Prop) (b : Nat) (lim : Int) (n m : Nat) (B : Int → Option (Nat × Option Nat)) (X : Int → Option Tr) (h : Cd w F b lim n m B X) (q : Int) (x : Tr) (hx : X q = some x) (hst : x.st = 2) (hN : x.rts.length ≤ 1000) :
    Calls Try.prog 24 #[.pointer (some ⟨b, 0, none⟩), .int .i64 q] w fun e w' => ∃ V Q F' B', e = .returned (.tuple #[V, .int .i64 0]) ∧ Ltr w.heap.size w' V 3 q Q ∧ Q.map (fun p => (p.r, p.co)) = x.rts.map (fun r => (r, ([] : List Pc))) ∧ Cd w' F' b lim n m B' (updX X q ⟨3, x.age, x.rts, x.rts.map fun r => (r, [])⟩) ∧ Stp F F' w w' := by
  have K : Hid (Calls Try.prog 14 #[.pointer (some ⟨b, 0, none⟩)] w fun e w' => e = .returned (.bool false) ∧ w' = w) := isNone_co w b lim m h.box
  have hq : InI q := (h.each q x hx).1
  have KS : Hid (Calls Try.prog 9 #[.pointer (some ⟨b, 0, none⟩), .int .i64 q] w fun e w' => e = .returned (.int .i64 2) ∧ w' = w) := by
    have := state_is w F b lim n m B X h q hq
    rw [hx] at this
    simp only [Option.elim, hst] at this
    exact this
  obtain ⟨⟨y1, y2⟩, hy, ht, hlk⟩ := h.find hx
  obtain ⟨c0, c1⟩ := h.box.cells
  obtain ⟨ra, rc, la, lc, P, hb, hz, _⟩ := ht.open
  obtain ⟨t0, t1, t2, t3, t4⟩ := tr_cells hb
  simp only at t0 t1 t2 t3 t4 hlk
  clear K
  go_enter Try.func24, Try.ntmps24
  go_wp2_with fail
  refine (isNone_co w b lim m h.box).mono ?_
  rintro e w1 ⟨rfl, hw⟩
  obtain rfl := hw.symm
  clear hw
  go_wp2_with fail
  refine KS.out.mono ?_
  rintro e w1 ⟨rfl, hw⟩
  obtain rfl := hw.symm
  clear hw
  have KB := bare_is w ra x.rts.length rc x.rts hz rfl (by omega)
  have HH : Hid (Cd w F b lim n m B X ∧ B q = some (y1, y2) ∧ X q = some x ∧ w.heap[y1]? = some (.cells #[.int .i64 q, .int .i64 x.st, .int .i64 x.age, .slice ra x.rts.length rc, .slice la x.lk.length lc] 51)) := ⟨h, hy, hx, hb⟩
  have HN : Hid (x.rts.length ≤ 1000) := hN
  obtain ⟨nr, hnr⟩ : ∃ nr, nr = x.rts.length := ⟨_, rfl⟩
  have HL : Hid (x.rts.length = nr) := hnr.symm
  rw [← hnr] at KB t3
  clear h hy hx hb hz hst hN hnr ht
  go_wp2_with fail
  refine KB.mono ?_
  rintro e w1 ⟨V, rfl, o1, b1⟩
  obtain ⟨la1, lc1, hv1, p1, _⟩ := o1.slice (fun x hx => bare_okW _ x hx)
  rw [List.length_map, HL.out] at hv1
  subst hv1
  have hb1 := (b1.block y1 (lt_of_heapK HH.out.2.2.2)).trans HH.out.2.2.2
  have f1 := frozen_blk hb1 1
  have f4 := frozen_blk hb1 4
  obtain ⟨z0, z1, z2, z3, z4⟩ := tr_cells hb1
  obtain ⟨u, hu⟩ : ∃ u, u = (w1.setCell ⟨y1, 1, none⟩ (.int .i64 3)).setCell ⟨y1, 4, none⟩ (.slice la1 nr lc1) := ⟨_, rfl⟩
  have HU : Hid ((w1.setCell ⟨y1, 1, none⟩ (.int .i64 3)).setCell ⟨y1, 4, none⟩ (.slice la1 nr lc1) = u) := hu.symm
  have g1 : w1.grownBy u (some y1) := by
    rw [hu]
    refine ⟨rfl, rfl, rfl, by simp [World.setCell], fun k hk hn => ?_⟩
    have hne : k ≠ y1 := fun e => hn (by rw [e])
    exact (set_off _ y1 4 k _ hne).trans (set_off _ y1 1 k _ hne)
  obtain ⟨F', d1, s1⟩ := HH.out.1.setLk (u := u) HH.out.2.1 HH.out.2.2.1 3 b1 o1 (fun p hp => by
    obtain ⟨r, _, rfl⟩ := List.mem_map.1 hp
    exact bPv_new _ _ r) g1 (fun vr vl e => by
    rw [hu, setCell_blk (i := 4) _ (set1_blk (v := .int .i64 3) e)]
    simp)
  rw [bare_co] at d1
  obtain ⟨x', hx', ht'⟩ := d1.at (updB_at B q _)
  rw [updX_at] at hx'
  cases hx'
  have KT : Hid (Calls Try.prog 22 #[.pointer (some ⟨y1, 0, none⟩)] u fun e w' => ∃ V Q, e = .returned V ∧ Ltr u.heap.size w' V 3 q Q ∧ Q.map (fun p => (p.r, p.co)) = x.rts.map (fun r => (r, ([] : List Pc))) ∧ Below u.heap.size u w') := tlack_is u F' _ q _ ht' (by simpa using HN.out)
  have X1 : Hid (Cd u F' b lim n m (updB B q (y1, (Value.slice la1 nr lc1).ownBlock)) (updX X q ⟨3, x.age, x.rts, x.rts.map fun r => (r, [])⟩) ∧ Stp F F' w u ∧ w.heap.size ≤ u.heap.size) := ⟨d1, s1, Nat.le_trans b1.size g1.size⟩
  clear ht' d1 s1 g1 o1 b1 p1 hb1 hu KB
  go_wp2_with fail
  rw [HU.out]
  refine KT.out.mono ?_
  rintro e w2 ⟨V, Q, rfl, l2, q2, b2⟩
  have X2 : Hid (Ltr w.heap.size w2 V 3 q Q ∧ Q.map (fun p => (p.r, p.co)) = x.rts.map (fun r => (r, ([] : List Pc))) ∧ Cd w2 F' b lim n m (updB B q (y1, (Value.slice la1 nr lc1).ownBlock)) (updX X q ⟨3, x.age, x.rts, x.rts.map fun r => (r, [])⟩) ∧ Stp F F' w w2) := ⟨l2.base X1.out.2.2, q2, X1.out.1.keep b2, X1.out.2.1.trans (Stp.below b2)⟩
  clear l2 q2 b2
  go_wp2_with fail
  go_ret2
  exact ⟨_, Q, F', _, rfl, X2.out⟩
set_option maxRecDepth 100000 in
set_option maxHeartbeats 8000000 in
theorem sure_state (w : World) (F : Nat → Prop) (b : Nat) (lim : Int) (n m : Nat) (B : Int → Option (Nat × Option Nat)) (X : Int → Option Tr) (h : Cd w F b lim n m B X) (q : Int) (hq : InI q) (hs : (X q).elim 0 Tr.st ≠ 2) :
    Calls Try.prog 24 #[.pointer (some ⟨b, 0, none⟩), .int .i64 q] w fun e w' => e = .returned (.tuple #[.slice none 0 0, .int .i64 11]) ∧ Below w.heap.size w w' := by
  have K := isNone_co w b lim m h.box
  have KS := state_is w F b lim n m B X h q hq
  generalize (X q).elim 0 Tr.st = st at *
  have e3 : (st == (2 : Int)) = false := by simpa using hs
  clear h
  go_enter Try.func24, Try.ntmps24
  go_wp2_with fail
  refine K.mono ?_
  rintro e w1 ⟨rfl, hw⟩
  obtain rfl := hw.symm
  clear hw
  go_wp2_with fail
  refine KS.mono ?_
  rintro e w1 ⟨rfl, hw⟩
  obtain rfl := hw.symm
  clear hw
  have HB : Hid (Below w.heap.size w w) := Below.refl _ _
  go_wp2_with fail
  go_ret2
  exact ⟨rfl, HB.out⟩
end Go.Proofs.Ythaeidbnbgghkab
