/- stage (gen_pth.py). -/
import Derived.Test.YtmokonaodoiflaaPtG
namespace Go.Proofs.Ytmokonaodoiflaa
open Go.ChangeShapes Go.WideShapes Go.ChangeAt Go.RowKit Go.Deep Go.Maps
set_option linter.unusedVariables false
set_option linter.unusedSimpArgs false
/-- the same package, its layers elsewhere -/
def Pk.like (y x : Pk) : Prop := y.o = x.o ∧ y.n = x.n ∧ y.v = x.v ∧ y.l = x.l
/-- layers of one's own -/
def Fresh (w : World) (z : Nat) (y : Pk) : Prop := ∀ q, y.la = some q → z ≤ q.block ∧ ∃ cs, w.heap[q.block]? = some (.cells cs 46)
def NilOk (y : Pk) : Prop := y.la = none → y.ln = 0 ∧ y.lc = 0
/-- copies of packages, of one's own -/
def Cpd (w : World) (z : Nat) (V : Value) (L M : List Pk) : Prop := OwnPk w z V M ∧ M.length = L.length ∧ ∀ (i : Nat) (y : Pk), M[i]? = some y → ∃ x, L[i]? = some x ∧ y.like x ∧ PkOk w y ∧ NilOk y ∧ Fresh w z y
theorem pks_set (l : List Pk) (j : Nat) (x : Pk) (h : l[j]? = some x) (a : Option Addr) (n c : Nat) : (pks l).set (j * 4 + 3) (.slice a n c) = pks (l.set j ⟨x.o, x.n, x.v, x.l, a, n, c⟩) := by
  induction l generalizing j with
  | nil => simp at h
  | cons y l ih =>
    cases j with
    | zero =>
      simp at h
      subst h
      simp [pks, pkl]
    | succ j =>
      simp only [List.getElem?_cons_succ] at h
      have := ih j h
      simp only [pks, List.flatMap_cons, List.set_cons_succ] at this ⊢
      rw [← this, List.set_append, if_neg (by simp [pkl]; omega)]
      congr 2
      simp [pkl]
      omega
/-- the row while its layers are copied -/
def Mid (w wr : World) (z j : Nat) (V : Value) (L R : List Pk) : Prop := OwnPk wr z V R ∧ R.length = L.length ∧ ∀ (i : Nat) (y : Pk), R[i]? = some y → ∃ x, L[i]? = some x ∧ y.like x ∧ NilOk y ∧ (j ≤ i → y = x) ∧ (i < j → PkOk wr y ∧ Fresh wr z y)
theorem Mid.next {w wr w5 : World} {z j g n c : Nat} {L R : List Pk} {x : Pk} {a5 : Option Addr} {n5 c5 : Nat} (h : Mid w wr z j (.slice (some ⟨g, 0, none⟩) n c) L R) (hR : R.length = n) (hx : L[j]? = some x) (hj : R[j]? = some x) (hb : Below wr.heap.size wr w5) (hok : PkOk w5 ⟨x.o, x.n, x.v, x.l, a5, n5, c5⟩) (hnil : NilOk ⟨x.o, x.n, x.v, x.l, a5, n5, c5⟩) (hfr : ∀ q, a5 = some q → wr.heap.size ≤ q.block ∧ ∃ cs, w5.heap[q.block]? = some (.cells cs 46)) (hz : z ≤ wr.heap.size) :
    Mid w (w5.setCell ⟨g, j * 4 + 3, none⟩ (.slice a5 n5 c5)) z (j + 1) (.slice (some ⟨g, 0, none⟩) n c) L (R.set j ⟨x.o, x.n, x.v, x.l, a5, n5, c5⟩) ∧ w5.grownBy (w5.setCell ⟨g, j * 4 + 3, none⟩ (.slice a5 n5 c5)) (some g) := by
  have h5 : OwnPk w5 z (.slice (some ⟨g, 0, none⟩) n c) R := h.1.keep hb
  have h6 : w5.ownsRow z 42 4 (.slice (some ⟨g, 0, none⟩) n c) n (pks R) := by rw [← hR]; rw [← hR] at h5; exact h5
  obtain ⟨s1, s2⟩ := h6.stored (j * 4 + 3) (.slice a5 n5 c5)
  rw [pks_set R j x hj] at s1
  refine ⟨⟨?_, by rw [List.length_set]; exact h.2.1, fun i y hy => ?_⟩, s2⟩
  · unfold OwnPk
    rw [List.length_set, hR]
    exact s1
  · have off : ∀ (q : Nat) (cs : Array Value), w5.heap[q]? = some (.cells cs 46) → (w5.setCell ⟨g, j * 4 + 3, none⟩ (.slice a5 n5 c5)).heap[q]? = w5.heap[q]? := fun q cs hq => set_off w5 g (j * 4 + 3) q _ (fun e => h5.ref (k := g) rfl (by rw [← e]; exact hq))
    have hs : w5.heap.size ≤ (w5.setCell ⟨g, j * 4 + 3, none⟩ (.slice a5 n5 c5)).heap.size := by simp [World.setCell]
    rw [List.getElem?_set] at hy
    split at hy
    · rename_i hij
      subst hij
      split at hy
      · cases hy
        refine ⟨x, hx, ⟨rfl, rfl, rfl, rfl⟩, hnil, fun h => by omega, fun _ => ⟨⟨hok.inr.kept hs (fun q hq _ => ?_), hok.len, hok.le, hok.big, hok.dg, hok.sn, hok.sv⟩, fun q hq => ?_⟩⟩
        · obtain ⟨_, cs, hc⟩ := hfr q hq
          exact off _ cs hc
        · obtain ⟨h1, cs, hc⟩ := hfr q hq
          exact ⟨by omega, cs, (off _ cs hc).trans hc⟩
      · cases hy
    · rename_i hij
      obtain ⟨x', k1, k2, k3, k4, k5⟩ := h.2.2 i y hy
      refine ⟨x', k1, k2, k3, fun h => k4 (by omega), fun h => ?_⟩
      obtain ⟨p1, p2⟩ := k5 (by omega)
      have key : ∀ q, y.la = some q → ∃ cs, w5.heap[q.block]? = some (.cells cs 46) ∧ w5.heap[q.block]? = wr.heap[q.block]? := fun q hq => by
        obtain ⟨_, cs, hc⟩ := p2 q hq
        have e := hb.block q.block (lt_of_heapK hc)
        exact ⟨cs, e.trans hc, e⟩
      refine ⟨⟨p1.inr.kept (by have := hb.size; omega) (fun q hq _ => ?_), p1.len, p1.le, p1.big, p1.dg, p1.sn, p1.sv⟩, fun q hq => ?_⟩
      · obtain ⟨cs, e1, e2⟩ := key q hq
        exact (off _ cs e1).trans e2
      · obtain ⟨cs, e1, e2⟩ := key q hq
        exact ⟨(p2 q hq).1, cs, (off _ cs e1).trans e1⟩
set_option maxRecDepth 100000 in
set_option maxHeartbeats 4000000 in
theorem stage_is (w : World) (t : Int) (a : Option Addr) (n c : Nat) (L : List Pk) (hn : L.length = n) (hL : InPk w a L) (ha : a = none → n = 0 ∧ c = 0) (hP : ∀ x ∈ L, PkOk w x ∧ NilOk x ∧ x.ln ≤ 3518437208883) (hN : n ≤ 1000000) :
    Calls Try.prog 28 #[.int .i64 t, .slice a n c] w fun e w' => ∃ pa pn pc M, e = .returned (.agg (dC ⟨2, t, pa, pn, pc, noM⟩)) ∧ Cpd w' w.heap.size (.slice pa pn pc) L M ∧ Below w.heap.size w w' := by
  obtain ⟨W0, hW0⟩ : ∃ W0, W0 = w.alloc (.cells #[.int .i64 0, .int .i64 0, .slice none 0 0, .int .i64 0, .int .i64 0, .int .i64 0, .int .i64 0, .bool false, .slice none 0 0] 37) := ⟨_, rfl⟩
  have HE : Hid (W0 = w.alloc (.cells #[.int .i64 0, .int .i64 0, .slice none 0 0, .int .i64 0, .int .i64 0, .int .i64 0, .int .i64 0, .bool false, .slice none 0 0] 37)) := hW0
  have hb0 : Below w.heap.size w W0 := by rw [hW0]; exact below1 w _
  have hq : W0.heap[w.heap.size]? = some (.cells #[.int .i64 0, .int .i64 0, .slice none 0 0, .int .i64 0, .int .i64 0, .int .i64 0, .int .i64 0, .bool false, .slice none 0 0] 37) := by rw [hW0]; exact heap_alloc_new w _
  have hz : W0.heap.size = w.heap.size + 1 := by rw [hW0]; simp
  obtain ⟨z, hzz⟩ : ∃ z, z = W0.heap.size := ⟨_, rfl⟩
  have KC : Hid (Calls Try.prog 41 #[.slice a n c] W0 fun e w' => ∃ v, e = .returned v ∧ OwnPk w' z v L ∧ Below z W0 w') := by rw [hzz]; exact cloneP_is W0 a n c L hn (hL.keep hb0) ha (by omega)
  have HB0 : Hid (Below w.heap.size w W0 ∧ W0.heap[w.heap.size]? = some (.cells #[.int .i64 0, .int .i64 0, .slice none 0 0, .int .i64 0, .int .i64 0, .int .i64 0, .int .i64 0, .bool false, .slice none 0 0] 37) ∧ z = w.heap.size + 1 ∧ L.length = n ∧ z = W0.heap.size) := ⟨hb0, hq, hzz.trans hz, hn, hzz⟩
  have HP : Hid (∀ x ∈ L, PkOk w x ∧ NilOk x ∧ x.ln ≤ 3518437208883) := hP
  clear hW0 hb0 hq hz hn hL ha hP hzz
  go_enter Try.func28, Try.ntmps28
  go_wp2_with fail
  rw [← HE.out]
  clear HE
  refine KC.out.mono ?_
  rintro e w1 ⟨v1, rfl, o1, b1⟩
  obtain ⟨a1, c1, rfl, _⟩ := o1.slice (fun x hx => (HP.out x hx).1.keep (HB0.out.1.trans (b1.mono (by have := HB0.out.2.2.1; omega))))
  rw [HB0.out.2.2.2.1] at o1 ⊢
  have M1 : Hid (Mid w w1 z 0 (.slice a1 n c1) L L ∧ Below z W0 w1) := ⟨⟨o1, rfl, fun i y hy => ⟨y, hy, ⟨rfl, rfl, rfl, rfl⟩, (HP.out y (List.mem_of_getElem? hy)).2.1, fun _ => rfl, fun h => by omega⟩⟩, b1⟩
  clear o1 b1 KC
  go_wp2_with fail
  go_loopg [11] n (fun q i wr => ∃ (j : Nat) (R : List Pk), j ≤ n ∧ q = n - j ∧ i = .int .i64 (j : Int) ∧ Hid (Mid w wr z j (.slice a1 n c1) L R ∧ Below z W0 wr))
  case atStart => exact ⟨0, L, Nat.zero_le _, rfl, rfl, M1.out⟩
  obtain ⟨j, R, hj, rfl, rfl, RW⟩ := hrel
  by_cases hlt : j < n
  · have j1 : decide ((j : Int) < (n : Int)) = true := by rw [decide_eq_true_eq]; omega
    have hRl : R.length = n := RW.out.1.2.1.trans HB0.out.2.2.2.1
    obtain ⟨x, hx⟩ : ∃ x, R[j]? = some x := ⟨R[j]'(by rw [hRl]; exact hlt), List.getElem?_eq_getElem _⟩
    obtain ⟨x2, hx2, _, hnil, hxx, _⟩ := RW.out.1.2.2 j x hx
    obtain rfl := hxx (Nat.le_refl _)
    rcases RW.out.1.1.2 with ⟨_, h0⟩ | ⟨g, cap, cur, e1, hbg, hgc, _⟩
    · omega
    injection e1 with e1 e2 e3
    subst e1
    have h6 : wr.ownsRow z 42 4 (.slice (some ⟨g, 0, none⟩) n c1) n (pks R) := by have := RW.out.1.1; unfold OwnPk at this; rw [hRl] at this; exact this
    have hw : Below w.heap.size w wr := HB0.out.1.trans (RW.out.2.mono (by have := HB0.out.2.2.1; omega))
    obtain ⟨p1, p2, p3⟩ := HP.out x (List.mem_of_getElem? hx2)
    have hzw : z ≤ wr.heap.size := by have := RW.out.2.size; have := HB0.out.2.2.2.2; omega
    have c3 : wr.cell? ⟨g, j * 4 + 3, none⟩ = some (.slice x.la x.ln x.lc) := by
      rw [h6.cellAt (j * 4 + 3) (by omega), pks_at R j x hx 3 (by omega)]
      rfl
    have ri : IntKind.i64.wrap ((j : Int) + 1) = (j : Int) + 1 := by rw [IntKind.wrap_i64]; omega
    have KR : Hid (Calls Try.prog 42 #[.slice x.la x.ln x.lc] wr fun e w' => ∃ v, e = .returned v ∧ OwnR w' wr.heap.size v x.l ∧ Below wr.heap.size wr w') := cloneR_is wr x.la x.ln x.lc x.l p1.len (p1.keep hw).inr p2 p1.dg p3
    have HH : Hid (R[j]? = some x ∧ L[j]? = some x ∧ R.length = n ∧ PkOk w x ∧ z ≤ wr.heap.size ∧ g < wr.heap.size ∧ x.ln ≤ 3518437208883 ∧ z ≤ g) := ⟨hx, hx2, hRl, p1, hzw, lt_of_heapK hgc, p3, hbg⟩
    have HO : Hid (∀ w5, Below wr.heap.size wr w5 → w5.frozen? ⟨g, j * 4 + 3, none⟩ = false ∧ w5.cell? ⟨g, j * 4 + 3, none⟩ = some (.slice x.la x.ln x.lc)) := fun w5 h5 => ⟨frozen_blk ((h5.block g (lt_of_heapK hgc)).trans hgc) _, (World.cell?_of_block (a := ⟨g, j * 4 + 3, none⟩) (h5.block g (lt_of_heapK hgc))).trans c3⟩
    clear hx hx2 hRl hw p1 p2 p3 hzw h6 hgc e2 e3 hbg hnil hxx
    obtain ⟨po, pN, pV, pl, pa, pn, pc⟩ := x
    simp only at c3 KR HO
    go_upto_region 6 with (go_at_call 42; refine KR.out.mono ?_; rintro e5 w5 ⟨v5, rfl, o5, b5⟩; have OR5 := o5; obtain ⟨a5, c5, rfl, i5, l5, m5, n5⟩ := o5.slice HH.out.2.2.2.1.dg; rw [show pl.length = pn from HH.out.2.2.2.1.len] at OR5 l5 ⊢; have B5 : Hid (Below wr.heap.size wr w5) := b5; have fz := (HO.out w5 b5).1; have fz2 : w5.frozen? ⟨g, j * 4 + 1 + 2, none⟩ = false := fz; have cz := (HO.out w5 b5).2; have cz2 : w5.cell? ⟨g, j * 4 + 1 + 2, none⟩ = some (.slice pa pn pc) := cz; have MX : Hid (Mid w (w5.setCell ⟨g, j * 4 + 3, none⟩ (.slice a5 pn c5)) z (j + 1) (.slice (some ⟨g, 0, none⟩) n c1) L (R.set j ⟨po, pN, pV, pl, a5, pn, c5⟩) ∧ w5.grownBy (w5.setCell ⟨g, j * 4 + 3, none⟩ (.slice a5 pn c5)) (some g)) := Mid.next RW.out.1 HH.out.2.2.1 HH.out.2.1 HH.out.1 b5 ⟨i5, HH.out.2.2.2.1.len, l5, HH.out.2.2.2.1.big, HH.out.2.2.2.1.dg, HH.out.2.2.2.1.sn, HH.out.2.2.2.1.sv⟩ (fun e => ⟨(by have e0 := n5 e; have := l5; show pn = 0; omega), n5 e⟩) (fun q hq => (by obtain ⟨h1, _, h3⟩ := OR5.at q hq; exact ⟨h1, h3⟩)) HH.out.2.2.2.2.1; clear o5 b5 i5 l5 m5 n5 OR5)
    have BX : Hid (Below z W0 (w5.setCell ⟨g, j * 4 + 3, none⟩ (.slice a5 pn c5))) := (RW.out.2.trans (B5.out.mono HH.out.2.2.2.2.1)).grown MX.out.2 (by have := B5.out.size; have := HH.out.2.2.2.2.1; omega) (fun k hk => by cases hk; exact HH.out.2.2.2.2.2.2.2)
    go_wp2_with fail
    go_roundg (n - (j + 1))
    case measure => omega
    case rel => exact ⟨j + 1, _, by omega, rfl, rfl, MX.out.1, BX.out⟩
  · have j1 : decide ((j : Int) < (n : Int)) = false := by rw [decide_eq_false_iff_not]; omega
    have hr : wr.heap[w.heap.size]? = some (.cells #[.int .i64 0, .int .i64 0, .slice none 0 0, .int .i64 0, .int .i64 0, .int .i64 0, .int .i64 0, .bool false, .slice none 0 0] 37) := (RW.out.2.block _ (by have := HB0.out.2.2.1; omega)).trans HB0.out.2.1
    have HR : Hid (wr.heap[w.heap.size]? = some (.cells #[.int .i64 0, .int .i64 0, .slice none 0 0, .int .i64 0, .int .i64 0, .int .i64 0, .int .i64 0, .bool false, .slice none 0 0] 37)) := hr
    clear hr
    go_wp2_with (refine wpList_store_row rfl 37 (.tmp 4) (.tmp 29) rfl w.heap.size (dC ⟨2, t, a1, n, c1, noM⟩) rfl rfl 37 _ HR.out size9D rfl (by simp [Value.oneCell', dC]) ?_)
    refine bodyPost_ret (results_d rfl _ _ w.heap.size _ rfl rfl (setRow_heap _ _ _ _ _ _ HR.out)) rfl ?_
    have hs9 : (wr.setRow w.heap.size (dC ⟨2, t, a1, n, c1, noM⟩)).heap.size = wr.heap.size := setRow_size _ _ _
    have ho9 : ∀ q, q ≠ w.heap.size → (wr.setRow w.heap.size (dC ⟨2, t, a1, n, c1, noM⟩)).heap[q]? = wr.heap[q]? := fun q hq => setRow_other _ _ _ _ hq
    have hzz := HB0.out.2.2.1
    have hj2 : j = n := by omega
    refine ⟨a1, n, c1, R, rfl, ⟨?_, RW.out.1.2.1, fun i y hy => ?_⟩, HB0.out.1.trans ⟨RW.out.2.os, RW.out.2.tape, RW.out.2.output, by rw [hs9]; exact RW.out.2.size, fun q hq => (ho9 q (by omega)).trans (RW.out.2.block q (by omega))⟩⟩
    · have h1 := RW.out.1.1.kept (w' := wr.setRow w.heap.size (dC ⟨2, t, a1, n, c1, noM⟩)) (fun k hk => ho9 k (by have := (RW.out.1.1.own k hk).1; omega))
      refine ⟨h1.1, ?_⟩
      rcases h1.2 with e | ⟨g, cap, cur, e, hbg, rest⟩
      · exact .inl e
      · exact .inr ⟨g, cap, cur, e, by omega, rest⟩
    · obtain ⟨x, k1, k2, k3, _, k5⟩ := RW.out.1.2.2 i y hy
      have hi : i < j := by have := (List.getElem?_eq_some_iff.1 hy).1; rw [RW.out.1.2.1, HB0.out.2.2.2.1] at this; omega
      obtain ⟨p1, p2⟩ := k5 hi
      refine ⟨x, k1, k2, ⟨p1.inr.kept (by rw [hs9]; exact Nat.le_refl _) (fun q hq _ => ho9 _ (by have := (p2 q hq).1; omega)), p1.len, p1.le, p1.big, p1.dg, p1.sn, p1.sv⟩, k3, fun q hq => ⟨by have := (p2 q hq).1; omega, ?_⟩⟩
      obtain ⟨h1, cs, hc⟩ := p2 q hq
      exact ⟨cs, (ho9 _ (by omega)).trans hc⟩
end Go.Proofs.Ytmokonaodoiflaa
