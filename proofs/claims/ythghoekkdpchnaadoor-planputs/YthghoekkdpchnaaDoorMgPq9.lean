/- plan.copied (gen_pof.py). What an operation makes, plain: by the place of the name; a package in the place of another one. strings.Cut at a point. manifest.isNumber; cmp.Compare, strings.Compare. -/
import Derived.Test.YthghoekkdpchnaaDoorMgPq8
import Derived.Deep.Cut
import Derived.Test.YthghoekkdpchnaaDoorMgPq0
import Derived.Test.YthghoekkdpchnaaDoorMgPq3
namespace Go.Proofs.YthghoekkdpchnaaDoor
open Go.ChangeShapes Go.WideShapes Go.ChangeAt Go.RowKit Go.Deep Go.Maps
set_option linter.unusedVariables false
set_option linter.unusedSimpArgs false
/-- the same package, its layers elsewhere -/
def Pk.like (y x : Pk) : Prop := y.o = x.o ∧ y.n = x.n ∧ y.v = x.v ∧ y.l = x.l
/-- layers of one's own -/
def Fresh (w : World) (z : Nat) (y : Pk) : Prop := ∀ q, y.la = some q → z ≤ q.block ∧ ∃ cs, w.heap[q.block]? = some (.cells cs 68)
def NilOk (y : Pk) : Prop := y.la = none → y.ln = 0 ∧ y.lc = 0
/-- copies of packages, of one's own -/
def Cpd (w : World) (z : Nat) (V : Value) (L M : List Pk) : Prop := OwnPk w z V M ∧ M.length = L.length ∧ ∀ (i : Nat) (y : Pk), M[i]? = some y → ∃ x, L[i]? = some x ∧ y.like x ∧ PkOk w y ∧ NilOk y ∧ Fresh w z y
theorem pks_set (l : List Pk) (j : Nat) (x : Pk) (h : l[j]? = some x) (a : Option Addr) (n c : Nat) : (pks l).set (j * 4 + 3) (.slice a n c) = pks (l.set j ⟨x.o, x.n, x.v, x.l, a, n, c⟩) := by
  induction l generalizing j with
  | nil => simp at h
  | cons y l ih =>
    cases j with
    | zero =>
      simp at h
      subst h
      simp [pks, pkl]
    | succ j =>
      simp only [List.getElem?_cons_succ] at h
      have := ih j h
      simp only [pks, List.flatMap_cons, List.set_cons_succ] at this ⊢
      rw [← this, List.set_append, if_neg (by simp [pkl]; omega)]
      congr 2
      simp [pkl]
      omega
/-- the row while its layers are copied -/
def Mid (w wr : World) (z j : Nat) (V : Value) (L R : List Pk) : Prop := OwnPk wr z V R ∧ R.length = L.length ∧ ∀ (i : Nat) (y : Pk), R[i]? = some y → ∃ x, L[i]? = some x ∧ y.like x ∧ NilOk y ∧ (j ≤ i → y = x) ∧ (i < j → PkOk wr y ∧ Fresh wr z y)
theorem Mid.next {w wr w5 : World} {z j g n c : Nat} {L R : List Pk} {x : Pk} {a5 : Option Addr} {n5 c5 : Nat} (h : Mid w wr z j (.slice (some ⟨g, 0, none⟩) n c) L R) (hR : R.length = n) (hx : L[j]? = some x) (hj : R[j]? = some x) (hb : Below wr.heap.size wr w5) (hok : PkOk w5 ⟨x.o, x.n, x.v, x.l, a5, n5, c5⟩) (hnil : NilOk ⟨x.o, x.n, x.v, x.l, a5, n5, c5⟩) (hfr : ∀ q, a5 = some q → wr.heap.size ≤ q.block ∧ ∃ cs, w5.heap[q.block]? = some (.cells cs 68)) (hz : z ≤ wr.heap.size) :
    Mid w (w5.setCell ⟨g, j * 4 + 3, none⟩ (.slice a5 n5 c5)) z (j + 1) (.slice (some ⟨g, 0, none⟩) n c) L (R.set j ⟨x.o, x.n, x.v, x.l, a5, n5, c5⟩) ∧ w5.grownBy (w5.setCell ⟨g, j * 4 + 3, none⟩ (.slice a5 n5 c5)) (some g) := by
  have h5 : OwnPk w5 z (.slice (some ⟨g, 0, none⟩) n c) R := h.1.keep hb
  have h6 : w5.ownsRow z 64 4 (.slice (some ⟨g, 0, none⟩) n c) n (pks R) := by rw [← hR]; rw [← hR] at h5; exact h5
  obtain ⟨s1, s2⟩ := h6.stored (j * 4 + 3) (.slice a5 n5 c5)
  rw [pks_set R j x hj] at s1
  refine ⟨⟨?_, by rw [List.length_set]; exact h.2.1, fun i y hy => ?_⟩, s2⟩
  · unfold OwnPk
    rw [List.length_set, hR]
    exact s1
  · have off : ∀ (q : Nat) (cs : Array Value), w5.heap[q]? = some (.cells cs 68) → (w5.setCell ⟨g, j * 4 + 3, none⟩ (.slice a5 n5 c5)).heap[q]? = w5.heap[q]? := fun q cs hq => set_off w5 g (j * 4 + 3) q _ (fun e => h5.ref (k := g) rfl (by rw [← e]; exact hq))
    have hs : w5.heap.size ≤ (w5.setCell ⟨g, j * 4 + 3, none⟩ (.slice a5 n5 c5)).heap.size := by simp [World.setCell]
    rw [List.getElem?_set] at hy
    split at hy
    · rename_i hij
      subst hij
      split at hy
      · cases hy
        refine ⟨x, hx, ⟨rfl, rfl, rfl, rfl⟩, hnil, fun h => by omega, fun _ => ⟨⟨hok.inr.kept hs (fun q hq _ => ?_), hok.len, hok.le, hok.big, hok.dg, hok.sn, hok.sv⟩, fun q hq => ?_⟩⟩
        · obtain ⟨_, cs, hc⟩ := hfr q hq
          exact off _ cs hc
        · obtain ⟨h1, cs, hc⟩ := hfr q hq
          exact ⟨by omega, cs, (off _ cs hc).trans hc⟩
      · cases hy
    · rename_i hij
      obtain ⟨x', k1, k2, k3, k4, k5⟩ := h.2.2 i y hy
      refine ⟨x', k1, k2, k3, fun h => k4 (by omega), fun h => ?_⟩
      obtain ⟨p1, p2⟩ := k5 (by omega)
      have key : ∀ q, y.la = some q → ∃ cs, w5.heap[q.block]? = some (.cells cs 68) ∧ w5.heap[q.block]? = wr.heap[q.block]? := fun q hq => by
        obtain ⟨_, cs, hc⟩ := p2 q hq
        have e := hb.block q.block (lt_of_heapK hc)
        exact ⟨cs, e.trans hc, e⟩
      refine ⟨⟨p1.inr.kept (by have := hb.size; omega) (fun q hq _ => ?_), p1.len, p1.le, p1.big, p1.dg, p1.sn, p1.sv⟩, fun q hq => ?_⟩
      · obtain ⟨cs, e1, e2⟩ := key q hq
        exact (off _ cs e1).trans e2
      · obtain ⟨cs, e1, e2⟩ := key q hq
        exact ⟨(p2 q hq).1, cs, (off _ cs e1).trans e1⟩
set_option maxRecDepth 100000 in
set_option maxHeartbeats 4000000 in
theorem copied_is (w : World) (a : Option Addr) (n c : Nat) (L : List Pk) (hn : L.length = n) (hL : InPk w a L) (ha : a = none → n = 0 ∧ c = 0) (hP : ∀ x ∈ L, PkOk w x ∧ NilOk x ∧ x.ln ≤ 3518437208883) (hN : n ≤ 1000000) :
    Calls Tryd.prog 31 #[.slice a n c] w fun e w' => ∃ pa pn pc M, e = .returned (.slice pa pn pc) ∧ Cpd w' w.heap.size (.slice pa pn pc) L M ∧ Below w.heap.size w w' := by
  obtain ⟨z, hzz⟩ : ∃ z, z = w.heap.size := ⟨_, rfl⟩
  have KC : Hid (Calls Tryd.prog 38 #[.slice a n c] w fun e w' => ∃ v, e = .returned v ∧ OwnPk w' z v L ∧ Below z w w') := by rw [hzz]; exact cloneP_is w a n c L hn hL ha (by omega)
  have HB0 : Hid (z = w.heap.size ∧ L.length = n) := ⟨hzz, hn⟩
  have HP : Hid (∀ x ∈ L, PkOk w x ∧ NilOk x ∧ x.ln ≤ 3518437208883) := hP
  clear hn hL ha hP hzz
  go_enter Tryd.func31, Tryd.ntmps31
  go_wp2_with fail
  refine KC.out.mono ?_
  rintro e w1 ⟨v1, rfl, o1, b1⟩
  obtain ⟨a1, c1, rfl, _⟩ := o1.slice (fun x hx => (HP.out x hx).1.keep (b1.mono (by have := HB0.out.1; omega)))
  rw [HB0.out.2] at o1 ⊢
  have M1 : Hid (Mid w w1 z 0 (.slice a1 n c1) L L ∧ Below z w w1) := ⟨⟨o1, rfl, fun i y hy => ⟨y, hy, ⟨rfl, rfl, rfl, rfl⟩, (HP.out y (List.mem_of_getElem? hy)).2.1, fun _ => rfl, fun h => by omega⟩⟩, b1⟩
  clear o1 b1 KC
  go_wp2_with fail
  go_loopg [9] n (fun q i wr => ∃ (j : Nat) (R : List Pk), j ≤ n ∧ q = n - j ∧ i = .int .i64 (j : Int) ∧ Hid (Mid w wr z j (.slice a1 n c1) L R ∧ Below z w wr))
  case atStart => exact ⟨0, L, Nat.zero_le _, rfl, rfl, M1.out⟩
  obtain ⟨j, R, hj, rfl, rfl, RW⟩ := hrel
  by_cases hlt : j < n
  · have j1 : decide ((j : Int) < (n : Int)) = true := by rw [decide_eq_true_eq]; omega
    have hRl : R.length = n := RW.out.1.2.1.trans HB0.out.2
    obtain ⟨x, hx⟩ : ∃ x, R[j]? = some x := ⟨R[j]'(by rw [hRl]; exact hlt), List.getElem?_eq_getElem _⟩
    obtain ⟨x2, hx2, _, hnil, hxx, _⟩ := RW.out.1.2.2 j x hx
    obtain rfl := hxx (Nat.le_refl _)
    rcases RW.out.1.1.2 with ⟨_, h0⟩ | ⟨g, cap, cur, e1, hbg, hgc, _⟩
    · omega
    injection e1 with e1 e2 e3
    subst e1
    have h6 : wr.ownsRow z 64 4 (.slice (some ⟨g, 0, none⟩) n c1) n (pks R) := by have := RW.out.1.1; unfold OwnPk at this; rw [hRl] at this; exact this
    have hw : Below w.heap.size w wr := RW.out.2.mono (by have := HB0.out.1; omega)
    obtain ⟨p1, p2, p3⟩ := HP.out x (List.mem_of_getElem? hx2)
    have hzw : z ≤ wr.heap.size := by have := RW.out.2.size; have := HB0.out.1; omega
    have c3 : wr.cell? ⟨g, j * 4 + 3, none⟩ = some (.slice x.la x.ln x.lc) := by
      rw [h6.cellAt (j * 4 + 3) (by omega), pks_at R j x hx 3 (by omega)]
      rfl
    have ri : IntKind.i64.wrap ((j : Int) + 1) = (j : Int) + 1 := by rw [IntKind.wrap_i64]; omega
    have KR : Hid (Calls Tryd.prog 51 #[.slice x.la x.ln x.lc] wr fun e w' => ∃ v, e = .returned v ∧ OwnR w' wr.heap.size v x.l ∧ Below wr.heap.size wr w') := cloneR_is wr x.la x.ln x.lc x.l p1.len (p1.keep hw).inr p2 p1.dg p3
    have HH : Hid (R[j]? = some x ∧ L[j]? = some x ∧ R.length = n ∧ PkOk w x ∧ z ≤ wr.heap.size ∧ g < wr.heap.size ∧ x.ln ≤ 3518437208883 ∧ z ≤ g) := ⟨hx, hx2, hRl, p1, hzw, lt_of_heapK hgc, p3, hbg⟩
    have HO : Hid (∀ w5, Below wr.heap.size wr w5 → w5.frozen? ⟨g, j * 4 + 3, none⟩ = false ∧ w5.cell? ⟨g, j * 4 + 3, none⟩ = some (.slice x.la x.ln x.lc)) := fun w5 h5 => ⟨frozen_blk ((h5.block g (lt_of_heapK hgc)).trans hgc) _, (World.cell?_of_block (a := ⟨g, j * 4 + 3, none⟩) (h5.block g (lt_of_heapK hgc))).trans c3⟩
    clear hx hx2 hRl hw p1 p2 p3 hzw h6 hgc e2 e3 hbg hnil hxx
    obtain ⟨po, pN, pV, pl, pa, pn, pc⟩ := x
    simp only at c3 KR HO
    go_upto_region 6 with (go_at_call 51; refine KR.out.mono ?_; rintro e5 w5 ⟨v5, rfl, o5, b5⟩; have OR5 := o5; obtain ⟨a5, c5, rfl, i5, l5, m5, n5⟩ := o5.slice HH.out.2.2.2.1.dg; rw [show pl.length = pn from HH.out.2.2.2.1.len] at OR5 l5 ⊢; have B5 : Hid (Below wr.heap.size wr w5) := b5; have fz := (HO.out w5 b5).1; have fz2 : w5.frozen? ⟨g, j * 4 + 1 + 2, none⟩ = false := fz; have cz := (HO.out w5 b5).2; have cz2 : w5.cell? ⟨g, j * 4 + 1 + 2, none⟩ = some (.slice pa pn pc) := cz; have MX : Hid (Mid w (w5.setCell ⟨g, j * 4 + 3, none⟩ (.slice a5 pn c5)) z (j + 1) (.slice (some ⟨g, 0, none⟩) n c1) L (R.set j ⟨po, pN, pV, pl, a5, pn, c5⟩) ∧ w5.grownBy (w5.setCell ⟨g, j * 4 + 3, none⟩ (.slice a5 pn c5)) (some g)) := Mid.next RW.out.1 HH.out.2.2.1 HH.out.2.1 HH.out.1 b5 ⟨i5, HH.out.2.2.2.1.len, l5, HH.out.2.2.2.1.big, HH.out.2.2.2.1.dg, HH.out.2.2.2.1.sn, HH.out.2.2.2.1.sv⟩ (fun e => ⟨(by have e0 := n5 e; have := l5; show pn = 0; omega), n5 e⟩) (fun q hq => (by obtain ⟨h1, _, h3⟩ := OR5.at q hq; exact ⟨h1, h3⟩)) HH.out.2.2.2.2.1; clear o5 b5 i5 l5 m5 n5 OR5)
    have BX : Hid (Below z w (w5.setCell ⟨g, j * 4 + 3, none⟩ (.slice a5 pn c5))) := (RW.out.2.trans (B5.out.mono HH.out.2.2.2.2.1)).grown MX.out.2 (by have := B5.out.size; have := HH.out.2.2.2.2.1; omega) (fun k hk => by cases hk; exact HH.out.2.2.2.2.2.2.2)
    go_wp2_with fail
    go_roundg (n - (j + 1))
    case measure => omega
    case rel => exact ⟨j + 1, _, by omega, rfl, rfl, MX.out.1, BX.out⟩
  · have j1 : decide ((j : Int) < (n : Int)) = false := by rw [decide_eq_false_iff_not]; omega
    have hj2 : j = n := by omega
    have HF : Hid (Cpd wr w.heap.size (.slice a1 n c1) L R ∧ Below w.heap.size w wr) := by
      rw [← HB0.out.1]
      refine ⟨⟨RW.out.1.1, RW.out.1.2.1, fun i y hy => ?_⟩, RW.out.2⟩
      obtain ⟨x, k1, k2, k3, _, k5⟩ := RW.out.1.2.2 i y hy
      have hi : i < j := by have := (List.getElem?_eq_some_iff.1 hy).1; rw [RW.out.1.2.1, HB0.out.2] at this; omega
      obtain ⟨p1, p2⟩ := k5 hi
      exact ⟨x, k1, k2, p1, k3, p2⟩
    clear hj2
    go_wp2_with fail
    go_ret
    exact ⟨a1, n, c1, R, rfl, HF.out⟩
end Go.Proofs.YthghoekkdpchnaaDoor
namespace Go.Proofs.YthghoekkdpchnaaDoor
open Go.ChangeShapes Go.WideShapes Go.ChangeAt Go.RowKit Go.Deep Go.Maps
set_option linter.unusedVariables false
set_option linter.unusedSimpArgs false
theorem hasN_ne {L : List Pk} {s : Tx} (h : hasN L s = false) : ∀ y ∈ L, y.n ≠ s := by
  intro y hy e
  have : hasN L s = true := List.any_eq_true.2 ⟨y, hy, by simp [e]⟩
  rw [this] at h
  cases h
theorem find_none {M : List Pk} {s : Tx} (h : hasN M s = false) : (M.map co).find? (fun y => decide (y.2.1 = s)) = none := by
  rw [List.find?_eq_none]
  intro y hy
  obtain ⟨x, hx, rfl⟩ := List.mem_map.1 hy
  have := hasN_ne h x hx
  simp [co, this]
theorem split_at {M : List Pk} {j : Nat} {x : Pk} (hx : M[j]? = some x) : M = M.take j ++ x :: M.drop (j + 1) := by
  obtain ⟨hj, e⟩ := List.getElem?_eq_some_iff.1 hx
  have := List.take_append_drop j M
  rw [List.drop_eq_getElem_cons hj, e] at this
  exact this.symm
theorem find_at {M : List Pk} {s : Tx} {j : Nat} {x : Pk} (hx : M[j]? = some x) (hn : x.n = s) (h : hasN (M.take j) s = false) : (M.map co).find? (fun y => decide (y.2.1 = s)) = some (co x) := by
  rw [split_at hx, List.map_append, List.find?_append, find_none h, List.map_cons]
  simp [co, hn]
theorem kE_none {M : List Pk} {ow : Int} {o : Op5} (h : hasN M o.n = false) : kE (M.map co) ow o = if o.k = 1 then 0 else 9 := by
  unfold kE; rw [find_none h]
theorem kE_at {M : List Pk} {ow : Int} {o : Op5} {j : Nat} {x : Pk} (hx : M[j]? = some x) (hn : x.n = o.n) (h : hasN (M.take j) o.n = false) : kE (M.map co) ow o = if o.k = 1 then 8 else if x.o ≠ ow then 16 else if o.k = 2 ∧ ord o.v x.v ≤ 0 then 14 else 0 := by
  unfold kE; rw [find_at hx hn h]; rfl
theorem rest_ne {M : List Pk} {s : Tx} {j : Nat} {x : Pk} (hnd : ((M.map co).map (·.2.1)).Nodup) (hx : M[j]? = some x) (hn : x.n = s) : (∀ y ∈ (M.take j).map co, y.2.1 ≠ s) ∧ ∀ y ∈ (M.drop (j + 1)).map co, y.2.1 ≠ s := by
  rw [split_at hx, List.map_append, List.map_append, List.nodup_append] at hnd
  obtain ⟨_, h2, h3⟩ := hnd
  rw [List.map_cons, List.map_cons, List.nodup_cons] at h2
  constructor
  · intro y hy e
    exact h3 y.2.1 (List.mem_map_of_mem hy) (co x).2.1 (by simp) (e.trans hn.symm)
  · intro y hy e
    refine h2.1 ?_
    rw [show (co x).2.1 = y.2.1 from hn.trans e.symm]
    exact List.mem_map_of_mem hy
theorem map_ne {A : List Pc} {s : Tx} {z : Pc} (h : ∀ y ∈ A, y.2.1 ≠ s) : A.map (fun y => if y.2.1 = s then z else y) = A := by
  induction A with
  | nil => rfl
  | cons y r ih => rw [List.map_cons, if_neg (h y (by simp)), ih (fun q hq => h q (by simp [hq]))]
theorem filter_ne {A : List Pc} {s : Tx} (h : ∀ y ∈ A, y.2.1 ≠ s) : A.filter (fun y => decide (y.2.1 ≠ s)) = A := List.filter_eq_self.2 fun y hy => by simpa using h y hy
def pkO (ow : Int) (o : Op5) (la : Option Addr) (ln lc : Nat) : Pk := ⟨ow, o.n, o.v, o.l, la, ln, lc⟩
theorem nxt_1 {M : List Pk} {ow : Int} {o : Op5} (hk : o.k = 1) (la : Option Addr) (ln lc : Nat) : (M ++ [pkO ow o la ln lc]).map co = nxt (M.map co) ow o := by
  unfold nxt; rw [if_pos hk, List.map_append]; rfl
theorem nxt_2 {M : List Pk} {ow : Int} {o : Op5} {j : Nat} {x : Pk} (hk : o.k = 2) (hnd : ((M.map co).map (·.2.1)).Nodup) (hx : M[j]? = some x) (hn : x.n = o.n) (la : Option Addr) (ln lc : Nat) : (M.take j ++ pkO ow o la ln lc :: M.drop (j + 1)).map co = nxt (M.map co) ow o := by
  unfold nxt
  rw [if_neg (by omega), if_pos hk]
  obtain ⟨h1, h2⟩ := rest_ne hnd hx hn
  conv => rhs; rw [split_at hx, List.map_append, List.map_cons, List.map_append, List.map_cons, map_ne h1, map_ne h2, if_pos (show (co x).2.1 = o.n from hn)]
  rw [List.map_append, List.map_cons]
  rfl
theorem nxt_3 {M : List Pk} {ow : Int} {o : Op5} {j : Nat} {x : Pk} (hk : o.k = 3) (hnd : ((M.map co).map (·.2.1)).Nodup) (hx : M[j]? = some x) (hn : x.n = o.n) : (M.take j ++ M.drop (j + 1)).map co = nxt (M.map co) ow o := by
  unfold nxt
  rw [if_neg (by omega), if_neg (by omega)]
  obtain ⟨h1, h2⟩ := rest_ne hnd hx hn
  conv => rhs; rw [split_at hx, List.map_append, List.map_cons, List.filter_append, List.filter_cons, filter_ne h1, filter_ne h2, if_neg (by simp [co, hn])]
  rw [List.map_append]
theorem own_there {w : World} {z g n c : Nat} {M : List Pk} (h : OwnPk w z (.slice (some ⟨g, 0, none⟩) n c) M) (hM : M.length = n) {j : Nat} (hj : j < n) : w.there g (j * 4) 4 := by
  rcases h.2 with ⟨h1, _⟩ | ⟨g', cap, cur, e, hb, hg, hl, hm, hs, ht⟩
  · cases h1
  injection e with e1 e2 e3
  injection e1 with e1
  injection e1 with e1
  subst e1
  intro q hq
  refine ⟨?_, frozen_blk hg _⟩
  have : j * 4 + q < cur.size := by rw [hs]; omega
  simp [World.cell?, hg, this]
theorem own_set {w : World} {z g n c : Nat} {M : List Pk} (h : OwnPk w z (.slice (some ⟨g, 0, none⟩) n c) M) (hM : M.length = n) {j : Nat} (hj : j < n) (x : Pk) : OwnPk (w.setCells g (j * 4) (pkl x)) z (.slice (some ⟨g, 0, none⟩) n c) (M.take j ++ x :: M.drop (j + 1)) := by
  rcases h.2 with ⟨h1, _⟩ | ⟨g', cap, cur, e, hb, hg, hl, hm, hs, ht⟩
  · cases h1
  injection e with e1 e2 e3
  injection e1 with e1
  injection e1 with e1
  clear e2
  subst e1 e3
  rw [hM] at hl ht
  have hgd : w.heap[g]? = some (.cells cur.toList.toArray 64 (0, 0)) := by rw [Array.toArray_toList]; exact hg
  have hcl : cur.toList.length = c * 4 := by rw [Array.length_toList]; exact hs
  have hx4 : (pkl x).length = 4 := rfl
  have hl2 : (M.take j ++ x :: M.drop (j + 1)).length = n := by rw [List.length_append, List.length_cons, List.length_take, List.length_drop, hM]; omega
  refine ⟨by rw [pks_len], .inr ⟨g, c, _, by rw [hl2], hb, heap_setCellsP g _ _ _ _ w _ hgd (by rw [hx4]; omega), by omega, hm, by rw [List.size_toArray, length_splice _ _ _ (by rw [hx4]; omega)]; exact hcl, ?_⟩⟩
  rw [hl2]
  show (splice cur.toList (j * 4) (pkl x)).take (n * 4) = _
  unfold splice
  have e1 : (cur.toList.take (j * 4)).length = j * 4 := by rw [List.length_take]; omega
  have a1 : (cur.toList.take (j * 4)).take (n * 4) = cur.toList.take (j * 4) := List.take_of_length_le (by rw [e1]; omega)
  have a2 : (pkl x).take (n * 4 - j * 4) = pkl x := List.take_of_length_le (by rw [hx4]; omega)
  rw [List.take_append, e1, List.take_append, hx4, a1, a2]
  rw [show n * 4 - j * 4 - 4 = n * 4 - (j + 1) * 4 by omega, show j * 4 + 4 = (j + 1) * 4 by omega, ← List.drop_take, ht, pks_drop]
  rw [show cur.toList.take (j * 4) = pks (M.take j) by rw [← pks_take, ← ht, List.take_take, Nat.min_eq_left (by omega)]]
  simp [pks]
end Go.Proofs.YthghoekkdpchnaaDoor
namespace Go.Proofs.YthghoekkdpchnaaDoor
open Go.ChangeShapes Go.WideShapes Go.ChangeAt Go.RowKit Go.Deep
set_option linter.unusedVariables false
/-- what stands ahead of the first point, and behind it -/
def cutAD (L : Tx) : Tx := L.takeWhile (· != 46)
def cutBD (L : Tx) : Tx := (L.dropWhile (· != 46)).tail
def cutFD (L : Tx) : Bool := L.contains 46
theorem cutA_noD (L : Tx) : (46 : UInt8) ∉ cutAD L := by
  intro h
  have h2 : ∀ (M : Tx), (46 : UInt8) ∈ M.takeWhile (· != 46) → False := by
    intro M
    induction M with
    | nil => simp
    | cons b t ih =>
      intro hm
      rw [List.takeWhile_cons] at hm
      split at hm
      · rename_i hb
        simp only [List.mem_cons] at hm
        rcases hm with rfl | hm
        · simp at hb
        · exact ih hm
      · simp at hm
  exact h2 L h
theorem cut_yesD (L : Tx) (h : cutFD L = true) : L = cutAD L ++ 46 :: cutBD L := by
  induction L with
  | nil => simp [cutFD] at h
  | cons b t ih =>
    by_cases e : b = 46
    · subst e
      simp [cutAD, cutBD]
    · have ht : cutFD t = true := by
        simp only [cutFD, List.contains_cons, Bool.or_eq_true, beq_iff_eq] at h
        rcases h with h | h
        · exact absurd h.symm e
        · exact h
      have := ih ht
      have e' : (b != 46) = true := by simp [e]
      simp only [cutAD, cutBD, List.takeWhile_cons, List.dropWhile_cons, e', if_true, List.cons_append] at this ⊢
      rw [← this]
theorem cut_noD (L : Tx) (h : cutFD L = false) : cutAD L = L ∧ cutBD L = [] := by
  induction L with
  | nil => exact ⟨rfl, rfl⟩
  | cons b t ih =>
    simp only [cutFD, List.contains_cons, Bool.or_eq_false_iff, beq_eq_false_iff_ne, ne_eq] at h
    have e' : (b != 46) = true := by simp only [bne_iff_ne, ne_eq]; exact fun e => h.1 e.symm
    obtain ⟨h1, h2⟩ := ih h.2
    simp only [cutAD, cutBD, List.takeWhile_cons, List.dropWhile_cons, e', if_true] at h1 h2 ⊢
    exact ⟨by rw [h1], h2⟩
theorem index_yesD (L : Tx) (h : cutFD L = true) : Lib.indexByte L 46 = ((cutAD L).length : Nat) := by
  induction L with
  | nil => simp [cutFD] at h
  | cons b t ih =>
    by_cases e : b = 46
    · subst e
      simp [cutAD, Lib.indexByte]
    · have ht : cutFD t = true := by
        simp only [cutFD, List.contains_cons, Bool.or_eq_true, beq_iff_eq] at h
        rcases h with h | h
        · exact absurd h.symm e
        · exact h
      have := ih ht
      have e' : (b != 46) = true := by simp [e]
      simp only [cutAD, List.takeWhile_cons, e', if_true, List.length_cons] at this ⊢
      simp only [Lib.indexByte, beq_iff_eq, e, if_false]
      rw [this, if_neg (by omega)]
      omega
theorem index_noD (L : Tx) (h : cutFD L = false) : Lib.indexByte L 46 = -1 := by
  induction L with
  | nil => rfl
  | cons b t ih =>
    simp only [cutFD, List.contains_cons, Bool.or_eq_false_iff, beq_eq_false_iff_ne, ne_eq] at h
    have e : ¬ b = 46 := fun e => h.1 e.symm
    simp only [Lib.indexByte, beq_iff_eq, e, if_false]
    rw [ih h.2]
    rfl
theorem pcs_yesD (L : Tx) (h : cutFD L = true) : pcd L = cutAD L :: pcd (cutBD L) := by
  have := pcd_cut (cutAD L) (cutBD L) (cutA_noD L)
  rwa [← cut_yesD L h] at this
theorem pcs_endD (L : Tx) (h : cutFD L = false) : pcd L = [cutAD L] := by
  have := pcd_no (cutAD L) (cutA_noD L)
  rwa [(cut_noD L h).1] at this ⊢
theorem indexByteLite_isD (L : Tx) (w : World) : Calls Tryd.prog 98 #[.string (tx L), .int .u8 46] w fun e w' => e = .returned (.int .i64 (Lib.indexByte L 46)) ∧ w' = w := by
  have h : (callFunc 105 #[.string (tx L), .int .u8 46]).run Tryd.prog w = .ok (.value (.int .i64 (Lib.indexByte L 46))) w := by
    rw [run_callFunc_indexByte Tryd.func105 (by kernel_rfl) (by kernel_rfl) (by kernel_rfl) (by kernel_rfl), Lib.run_indexByteString (P := Tryd.prog) (tx L) 46 w, tx_data]
    rfl
  go_enter Tryd.func98, Tryd.ntmps98
  go_wp2
  go_ret
  exact ⟨rfl, rfl⟩
theorem index_isD (L : Tx) (w : World) : Calls Tryd.prog 92 #[.string (tx L), .string ⟨#[46]⟩] w fun e w' => e = .returned (.int .i64 (Lib.indexByte L 46)) ∧ w' = w := by
  have k : Hid (∀ w, Calls Tryd.prog 98 #[.string (tx L), .int .u8 46] w fun e w' => e = .returned (.int .i64 (Lib.indexByte L 46)) ∧ w' = w) := indexByteLite_isD L
  have ht := tx_toList L
  have hs := tx_size L
  by_cases hL : L = [46]
  · have e1 : ([46] == L) = true := by simp [hL]
    have h0 : Lib.indexByte L 46 = 0 := by rw [hL]; decide
    rw [h0]
    clear hL h0 k
    go_enter Tryd.func92, Tryd.ntmps92
    go_wp2
    go_ret
    exact ⟨rfl, rfl⟩
  · have e1 : ([46] == L) = false := by simp only [beq_eq_false_iff_ne, ne_eq]; exact fun e => hL e.symm
    clear hL
    go_enter Tryd.func92, Tryd.ntmps92
    go_wp2_with (go_at_call 98; refine (k.out _).mono ?_; rintro e w' ⟨rfl, hw⟩; obtain rfl := hw.symm; clear hw)
    go_ret
    exact ⟨rfl, rfl⟩
theorem cutLite_isD (L : Tx) (hl : L.length ≤ 281464976710656) (w : World) : Calls Tryd.prog 86 #[.string (tx L), .string ⟨#[46]⟩] w fun e w' => e = .returned (.tuple #[.string (tx (cutAD L)), .string (tx (cutBD L)), .bool (cutFD L)]) ∧ Below w.heap.size w w' := by
  have k : Hid (Calls Tryd.prog 92 #[.string (tx L), .string ⟨#[46]⟩] w fun e w' => e = .returned (.int .i64 (Lib.indexByte L 46)) ∧ w' = w) := index_isD L w
  have hs := tx_size L
  cases hf : cutFD L with
  | true =>
    have hx := cut_yesD L hf
    rw [index_yesD L hf] at k
    have hA : (tx L).extract 0 (cutAD L).length = tx (cutAD L) := by
      rw [tx_extract]
      congr 1
      generalize cutAD L = A at *
      generalize cutBD L = B at *
      rw [hx]
      simp
    have hB : (tx L).extract ((cutAD L).length + 1) L.length = tx (cutBD L) := by
      rw [tx_extract]
      congr 1
      generalize cutAD L = A at *
      generalize cutBD L = B at *
      rw [hx]
      have : List.drop (A.length + 1) (A ++ 46 :: B) = B := by
        have := List.drop_append (l₁ := A) (l₂ := 46 :: B) (i := A.length + 1)
        rw [this, List.drop_of_length_le (by omega), show A.length + 1 - A.length = 1 by omega]
        rfl
      rw [this, List.take_of_length_le (by simp; omega)]
    have hlen : (cutAD L).length + 1 ≤ L.length := by
      have := congrArg List.length hx
      simp at this
      omega
    generalize tx (cutAD L) = SA at *
    generalize tx (cutBD L) = SB at *
    generalize (cutAD L).length = m at *
    clear hx hf
    have i1 : (0 : Int) ≤ (m : Int) := by omega
    generalize tx L = S at *
    go_enter Tryd.func86, Tryd.ntmps86
    go_wp2_with (go_at_call 92; refine k.out.mono ?_; rintro e w' ⟨rfl, hw⟩; obtain rfl := hw.symm; clear hw)
    go_quiet (fail)
    go_wp2
    go_ret3
    exact ⟨rfl, below_drewN (Below.refl _ _) _⟩
  | false =>
    obtain ⟨h1, h2⟩ := cut_noD L hf
    rw [index_noD L hf] at k
    rw [h1, h2]
    go_enter Tryd.func86, Tryd.ntmps86
    go_wp2_with (go_at_call 92; refine k.out.mono ?_; rintro e w' ⟨rfl, hw⟩; obtain rfl := hw.symm; clear hw)
    go_ret3
    exact ⟨rfl, Below.refl _ _⟩
theorem cut_isD (L : Tx) (hl : L.length ≤ 281464976710656) (w : World) : Calls Tryd.prog 76 #[.string (tx L), .string ⟨#[46]⟩] w fun e w' => e = .returned (.tuple #[.string (tx (cutAD L)), .string (tx (cutBD L)), .bool (cutFD L)]) ∧ Below w.heap.size w w' := by
  have k : Hid (Calls Tryd.prog 86 #[.string (tx L), .string ⟨#[46]⟩] w fun e w' => e = .returned (.tuple #[.string (tx (cutAD L)), .string (tx (cutBD L)), .bool (cutFD L)]) ∧ Below w.heap.size w w') := cutLite_isD L hl w
  go_enter Tryd.func76, Tryd.ntmps76
  go_wp2_with (go_at_call 86; refine k.out.mono ?_; rintro e w' ⟨rfl, hw⟩)
  go_ret3
  exact ⟨rfl, hw⟩
end Go.Proofs.YthghoekkdpchnaaDoor
namespace Go.Proofs.YthghoekkdpchnaaDoor
open Go.ChangeShapes Go.WideShapes Go.ChangeAt Go.RowKit Go.Deep
set_option linter.unusedVariables false
set_option maxHeartbeats 2000000 in
theorem isNumber_is (S : Tx) (hl : S.length ≤ 140737488355328) (w : World) : Calls Tryd.prog 77 #[.string (tx S)] w fun e w' => e = .returned (.bool (isN S)) ∧ w' = w := by
  have hs := tx_size S
  have ht := tx_toList S
  obtain ⟨r, hr⟩ : ∃ r, r = isN S := ⟨_, rfl⟩
  have HA : Hid (isN S = r) := hr.symm
  rw [← hr]
  clear hr
  go_enter Tryd.func77, Tryd.ntmps77
  go_wp2_with fail
  go_loopg [6] S.length (fun g i wr => ∃ (j : Nat), j ≤ S.length ∧ g = S.length - j ∧ i = .int .i64 j ∧ Hid ((S.take j).all dig = true) ∧ wr = w)
  case atStart => exact ⟨0, Nat.zero_le _, rfl, rfl, rfl, rfl⟩
  case round =>
    obtain ⟨j, hj, rfl, rfl, HT, rfl⟩ := hrel
    by_cases hlt : j < S.length
    · have j1 : (j : Int) < ((S.length : Nat) : Int) := by omega
      have ix := run_index_txD S j hlt
      have K : Hid (∀ w, Calls Tryd.prog 87 #[.int .u8 ((S.getD j 0).toNat : Int)] w fun e w' => e = .returned (.bool (dig (S.getD j 0))) ∧ w' = w) := isDigit_is _
      cases hm : dig (S.getD j 0) with
      | true =>
        have HT2 : Hid ((S.take (j + 1)).all dig = true) := by show _ = _; rw [all_take hlt, HT.out, hm]; rfl
        rw [hm] at K
        generalize S.getD j 0 = y at *
        go_wp2_with fail
        refine (K.out _).mono ?_
        rintro e w' ⟨rfl, hw⟩
        obtain rfl := hw.symm
        clear hw
        go_wp2_with fail
        go_roundg (S.length - (j + 1))
        case measure => omega
        case rel => exact ⟨j + 1, by omega, rfl, by go_num, HT2, rfl⟩
      | false =>
        have HF : Hid (r = false) := by show _ = _; rw [← HA.out]; unfold isN; rw [all_no hlt hm]; rfl
        rw [hm] at K
        generalize S.getD j 0 = y at *
        go_wp2_with fail
        refine (K.out _).mono ?_
        rintro e w' ⟨rfl, hw⟩
        obtain rfl := hw.symm
        clear hw
        go_wp2_with fail
        go_ret
        refine ⟨?_, rfl⟩
        rw [HF.out]
        rfl
    · have e : j = S.length := by omega
      subst e
      have j1 : ¬ ((S.length : Nat) : Int) < ((S.length : Nat) : Int) := by omega
      have HF : Hid (r = !S.isEmpty) := by
        show _ = _
        rw [← HA.out]
        have := HT.out
        rw [List.take_length] at this
        unfold isN
        rw [this]
        rfl
      have he : (S == []) = S.isEmpty := by cases S <;> rfl
      generalize S.isEmpty = q at *
      go_wp2_with fail
      go_ret
      refine ⟨?_, rfl⟩
      rw [HF.out]
      rfl
theorem cmpInt_is (a b : Int) (w : World) : Calls Tryd.prog 26 #[.int .i64 a, .int .i64 b] w fun e w' => e = .returned (.int .i64 (cI a b)) ∧ w' = w := by
  have KN : Hid (∀ (a : Int) w, Calls Tryd.prog 46 #[.int .i64 a] w fun e w' => e = .returned (.bool false) ∧ w' = w) := by
    intro a w
    go_enter Tryd.func46, Tryd.ntmps46
    go_wp2
    go_ret
    exact ⟨rfl, rfl⟩
  go_enter Tryd.func26, Tryd.ntmps26
  go_wp2_with fail
  refine (KN.out _ _).mono ?_
  rintro e w' ⟨rfl, hw⟩
  obtain rfl := hw.symm
  clear hw
  go_wp2_with fail
  refine (KN.out _ _).mono ?_
  rintro e w' ⟨rfl, hw⟩
  obtain rfl := hw.symm
  clear hw
  by_cases h1 : a < b
  · have H1 : Hid (a < b) := h1
    go_wp2_with fail
    go_ret
    refine ⟨?_, rfl⟩
    have : cI a b = -1 := if_pos H1.out
    rw [this]
    rfl
  · have H1 : Hid (¬ a < b) := h1
    by_cases h2 : b < a
    · have H2 : Hid (b < a) := h2
      go_wp2_with fail
      go_ret
      refine ⟨?_, rfl⟩
      have : cI a b = 1 := by unfold cI; rw [if_neg (by have := H1.out; omega), if_pos (by have := H2.out; omega)]
      rw [this]
      rfl
    · have H2 : Hid (¬ b < a) := h2
      go_wp2_with fail
      go_ret
      refine ⟨?_, rfl⟩
      have : cI a b = 0 := by unfold cI; rw [if_neg (by have := H1.out; omega), if_neg (by have := H2.out; omega)]
      rw [this]
      rfl
theorem compare_cB : ∀ x y : Tx, Lib.compareBytes x y = cB x y
  | [], [] => rfl
  | [], _ :: _ => rfl
  | _ :: _, [] => rfl
  | a :: x, b :: y => by
    have ih := compare_cB x y
    unfold Lib.compareBytes
    by_cases h1 : a < b
    · rw [if_pos h1]
      have hne : a ≠ b := fun e => by subst e; exact absurd h1 (by simp)
      unfold cB ltB
      rw [if_neg (by simp [hne]), if_neg hne, if_pos (by simpa [UInt8.lt_iff_toNat_lt] using h1)]
    · rw [if_neg h1]
      by_cases h2 : b < a
      · rw [if_pos h2]
        have hne : a ≠ b := fun e => by subst e; exact absurd h2 (by simp)
        unfold cB ltB
        rw [if_neg (by simp [hne]), if_neg hne, if_neg (by simpa [UInt8.lt_iff_toNat_lt] using h1)]
      · rw [if_neg h2, ih]
        have e : a = b := UInt8.toNat_inj.1 (by
          have a1 : ¬ a.toNat < b.toNat := fun h => h1 (UInt8.lt_iff_toNat_lt.2 h)
          have a2 : ¬ b.toNat < a.toNat := fun h => h2 (UInt8.lt_iff_toNat_lt.2 h)
          omega)
        subst e
        unfold cB
        by_cases hxy : x = y
        · rw [if_pos hxy, if_pos (by rw [hxy])]
        · have h3 : ¬ (a :: x = a :: y) := by simp [hxy]
          have : ltB (a :: x) (a :: y) = ltB x y := by simp [ltB]
          rw [if_neg hxy, if_neg h3, this]
theorem compare_is (A B : Tx) (w : World) : Calls Tryd.prog 79 #[.string (tx A), .string (tx B)] w fun e w' => e = .returned (.int .i64 (cB A B)) ∧ w' = w := by
  have h0 : ∀ w, (callFunc 97 #[.string (tx A), .string (tx B)]).run Tryd.prog w = .ok (.value (.int .i64 (cB A B))) w := by
    intro w
    rw [run_callFunc_standIn (e := Extern.BytealgCompare.compare) Tryd.func97 (by kernel_rfl) (by kernel_rfl) (by kernel_rfl) (by kernel_rfl), Lib.run_compareString (P := Tryd.prog) (tx A) (tx B) w, tx_data, tx_data, compare_cB]
    rfl
  have K : Hid (∀ w, Calls Tryd.prog 89 #[.string (tx A), .string (tx B)] w fun e w' => e = .returned (.int .i64 (cB A B)) ∧ w' = w) := by
    intro w
    have h := h0 w
    go_enter Tryd.func89, Tryd.ntmps89
    go_wp2
    go_ret
    exact ⟨rfl, rfl⟩
  go_enter Tryd.func79, Tryd.ntmps79
  go_wp2_with fail
  refine (K.out _).mono ?_
  rintro e w' ⟨rfl, hw⟩
  obtain rfl := hw.symm
  clear hw
  go_wp2_with fail
  go_ret
  exact ⟨rfl, rfl⟩
end Go.Proofs.YthghoekkdpchnaaDoor
