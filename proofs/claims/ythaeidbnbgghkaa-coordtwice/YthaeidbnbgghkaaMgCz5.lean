/- slices.Clone of references and of packages; stage (gen_ptg.py). Stacks that may be read. coord.copied (gen_pof.py). New stacks. Rows of plans. coord: rootsOf, areRoots, bare, isNone, wrong. -/
import Derived.Test.YthaeidbnbgghkaaMgCz4
import Derived.Lib.BufferMore
import Derived.Deep.RegionLaw
import Derived.Lib.SliceRun
import Derived.Deep.Cut
import Derived.Test.YthaeidbnbgghkaaMgCz0
namespace Go.Proofs.Ythaeidbnbgghkaa
open Go.ChangeShapes Go.WideShapes Go.ChangeAt Go.RowKit Go.Deep Go.Maps
set_option linter.unusedVariables false
set_option linter.unusedSimpArgs false
theorem pks_len (l : List Pk) : (pks l).length = l.length * 4 := by
  induction l with
  | nil => rfl
  | cons x l ih => simp only [pks, List.flatMap_cons, List.length_append, List.length_cons] at ih ⊢; rw [ih]; simp [pkl]; omega
theorem pks_one (l : List Pk) : ∀ v ∈ pks l, v.oneCell' = true := by
  intro v hv
  simp only [pks, List.mem_flatMap] at hv
  obtain ⟨x, _, hv⟩ := hv
  simp only [pkl, List.mem_cons, List.not_mem_nil, or_false] at hv
  rcases hv with rfl | rfl | rfl | rfl <;> rfl
theorem InPk.cells {w : World} {ad : Addr} {l : List Pk} (h : InPk w (some ad) l) : ∀ j u, (pks l)[j]? = some u → w.cell? (ad.add j) = some u := by
  intro j u hu
  have hj : j < l.length * 4 := by
    have := (List.getElem?_eq_some_iff.1 hu).1
    rwa [pks_len l] at this
  obtain ⟨x, hx⟩ : ∃ x, l[j / 4]? = some x := ⟨_, List.getElem?_eq_getElem (by omega)⟩
  obtain ⟨b, off, e, _, ⟨h0, h1, h2, h3⟩, _⟩ := h.at hx
  cases e
  have e2 := pks_at l (j / 4) x hx (j % 4) (by omega)
  rw [show j / 4 * 4 + j % 4 = j by omega, hu] at e2
  rw [add_plain]
  rcases (by omega : j % 4 = 0 ∨ j % 4 = 1 ∨ j % 4 = 2 ∨ j % 4 = 3) with e | e | e | e
  · rw [e] at e2; simp [pkl] at e2; subst e2; rw [show off + j = off + j / 4 * 4 by omega]; exact h0
  · rw [e] at e2; simp [pkl] at e2; subst e2; rw [show off + j = off + j / 4 * 4 + 1 by omega]; exact h1
  · rw [e] at e2; simp [pkl] at e2; subst e2; rw [show off + j = off + j / 4 * 4 + 2 by omega]; exact h2
  · rw [e] at e2; simp [pkl] at e2; subst e2; rw [show off + j = off + j / 4 * 4 + 3 by omega]; exact h3
theorem append_packs {w : World} {ops : Array Oper} {rest : List Oper} {o : Oper} {act : Act} {Q : Exit → Act → World → Prop} (hgd : o.guard = none) (s x : Operand)
    (ho : o.op = .call { callee := .builtin .append, args := #[s, x], argTypes := #[23, 23] })
    (base : Nat) (v : Value) (l : List Pk) (hs : act.eval s = v) (hown : OwnPk w base v l)
    (ad : Addr) (n c : Nat) (m : List Pk) (hx : act.eval x = .slice (some ad) n c) (hm : m.length = n) (hin : InPk w (some ad) m)
    (hN : l.length + n ≤ 1000000000) (hbase : base ≤ w.heap.size)
    (h : ∀ v' w', OwnPk w' base v' (l ++ m) → w.grownBy w' v.ownBlock → wpList Try.prog ops Q rest (act.put o.dst v') w') :
    wpList Try.prog ops Q (o :: rest) act w := by
  obtain ⟨i, hi, hz, h1, h2⟩ := infoPk
  subst hm
  refine wpList_append_own w hgd s x 23 ho base 94 i _ 4 64 Try.underlying23 hi hz h1 h2 rfl (by decide) v l.length _ hs hown ad m.length c (pks m) hx (pks_len m) hin.cells (pks_one m) (by simp only [maxLen]; omega) (by omega) hbase ?_
  intro v' w' hown' hg _
  refine h v' w' ?_ hg
  unfold OwnPk
  rw [List.length_append]
  have : pks (l ++ m) = pks l ++ pks m := by simp [pks]
  rw [this]
  exact hown'
set_option maxRecDepth 100000 in
theorem cloneR_none (w : World) : Calls Try.prog 58 #[.slice none 0 0] w fun e w' => e = .returned (.slice none 0 0) ∧ w' = w := by
  have hnil : ∀ W, (binOp .eql 90 (.slice none 0 0) (.slice none 0 0)).run Try.prog W = .ok (.bool true) W := fun W => Lib.run_eql_slice_nil_nil W _ _ Try.underlying90
  go_enter Try.func58, Try.ntmps58
  go_wp2_with fail
  go_ret
  exact ⟨rfl, rfl⟩
set_option maxRecDepth 100000 in
theorem cloneR_some (w : World) (q : Addr) (n c : Nat) (l : List Rf) (hl : l.length = n) (hin : InR w (some q) l) (hd : Dgs l) (hN : n ≤ 3518437208883) :
    Calls Try.prog 58 #[.slice (some q) n c] w fun e w' => ∃ v, e = .returned v ∧ OwnR w' w.heap.size v l ∧ Below w.heap.size w w' := by
  have OE : Hid (OwnR (w.alloc (.cells #[] 109)) w.heap.size (.slice (some ⟨w.heap.size, 0, none⟩) 0 0) []) := World.ownsRow_made (e := 109) (base := w.heap.size) w #[] 0 (by simp) (by simp) (by simp)
  have HI : Hid (InR (w.alloc (.cells #[] 109)) (some q) l) := hin.keep (below1 w _)
  have HQ : Hid (l.length = n ∧ ([] : List Rf).length + n ≤ 3518437208883 ∧ w.heap.size ≤ (w.alloc (.cells #[] 109)).heap.size) := ⟨hl, by simpa using hN, by simp⟩
  have HB : Hid (Below w.heap.size w (w.alloc (.cells #[] 109))) := below1 w _
  have hnil : ∀ W, (binOp .eql 90 (.slice (some q) n c) (.slice none 0 0)).run Try.prog W = .ok (.bool false) W := fun W => Lib.run_eql_slice_some_nil W _ _ _ Try.underlying90
  have HD : Hid (Dgs l) := hd
  clear hl hin hN hd
  go_enter Try.func58, Try.ntmps58
  go_wp2_with (at_builtin; refine append_refs rfl (.tmp 5) (.tmp 6) rfl w.heap.size _ [] rfl OE.out q n c l rfl HQ.out.1 HI.out HD.out HQ.out.2.1 HQ.out.2.2 ?_; intro v5 u5 o5 g5; have O5 : Hid (OwnR u5 w.heap.size v5 l) := o5; have G5 : Hid (Below w.heap.size w u5) := HB.out.grown g5 (by simp) (fun k hk => by cases hk; exact Nat.le_refl _); clear o5 g5)
  go_ret
  exact ⟨v5, rfl, O5.out, G5.out⟩
theorem cloneR_is (w : World) (a : Option Addr) (n c : Nat) (l : List Rf) (hl : l.length = n) (hin : InR w a l) (ha : a = none → n = 0 ∧ c = 0) (hd : Dgs l) (hN : n ≤ 3518437208883) :
    Calls Try.prog 58 #[.slice a n c] w fun e w' => ∃ v, e = .returned v ∧ OwnR w' w.heap.size v l ∧ Below w.heap.size w w' := by
  cases a with
  | none =>
    obtain ⟨rfl, rfl⟩ := ha rfl
    obtain rfl : l = [] := List.length_eq_zero_iff.1 hl
    refine (cloneR_none w).mono ?_
    rintro e w' ⟨rfl, rfl⟩
    exact ⟨_, rfl, OwnR.nil _ _, Below.refl _ _⟩
  | some q => exact cloneR_some w q n c l hl hin hd hN
set_option maxRecDepth 100000 in
theorem cloneP_none (w : World) : Calls Try.prog 57 #[.slice none 0 0] w fun e w' => e = .returned (.slice none 0 0) ∧ w' = w := by
  have hnil : ∀ W, (binOp .eql 23 (.slice none 0 0) (.slice none 0 0)).run Try.prog W = .ok (.bool true) W := fun W => Lib.run_eql_slice_nil_nil W _ _ Try.underlying23
  go_enter Try.func57, Try.ntmps57
  go_wp2_with fail
  go_ret
  exact ⟨rfl, rfl⟩
set_option maxRecDepth 100000 in
theorem cloneP_some (w : World) (q : Addr) (n c : Nat) (l : List Pk) (hl : l.length = n) (hin : InPk w (some q) l) (hN : n ≤ 1000000000) :
    Calls Try.prog 57 #[.slice (some q) n c] w fun e w' => ∃ v, e = .returned v ∧ OwnPk w' w.heap.size v l ∧ Below w.heap.size w w' := by
  have OE : Hid (OwnPk (w.alloc (.cells #[] 94)) w.heap.size (.slice (some ⟨w.heap.size, 0, none⟩) 0 0) []) := World.ownsRow_made (e := 94) (base := w.heap.size) w #[] 0 (by simp) (by simp) (by simp)
  have HI : Hid (InPk (w.alloc (.cells #[] 94)) (some q) l) := hin.keep (below1 w _)
  have HQ : Hid (l.length = n ∧ ([] : List Pk).length + n ≤ 1000000000 ∧ w.heap.size ≤ (w.alloc (.cells #[] 94)).heap.size) := ⟨hl, by simpa using hN, by simp⟩
  have HB : Hid (Below w.heap.size w (w.alloc (.cells #[] 94))) := below1 w _
  have hnil : ∀ W, (binOp .eql 23 (.slice (some q) n c) (.slice none 0 0)).run Try.prog W = .ok (.bool false) W := fun W => Lib.run_eql_slice_some_nil W _ _ _ Try.underlying23
  skip
  clear hl hin hN 
  go_enter Try.func57, Try.ntmps57
  go_wp2_with (at_builtin; refine append_packs rfl (.tmp 5) (.tmp 6) rfl w.heap.size _ [] rfl OE.out q n c l rfl HQ.out.1 HI.out HQ.out.2.1 HQ.out.2.2 ?_; intro v5 u5 o5 g5; have O5 : Hid (OwnPk u5 w.heap.size v5 l) := o5; have G5 : Hid (Below w.heap.size w u5) := HB.out.grown g5 (by simp) (fun k hk => by cases hk; exact Nat.le_refl _); clear o5 g5)
  go_ret
  exact ⟨v5, rfl, O5.out, G5.out⟩
theorem cloneP_is (w : World) (a : Option Addr) (n c : Nat) (l : List Pk) (hl : l.length = n) (hin : InPk w a l) (ha : a = none → n = 0 ∧ c = 0) (hN : n ≤ 1000000000) :
    Calls Try.prog 57 #[.slice a n c] w fun e w' => ∃ v, e = .returned v ∧ OwnPk w' w.heap.size v l ∧ Below w.heap.size w w' := by
  cases a with
  | none =>
    obtain ⟨rfl, rfl⟩ := ha rfl
    obtain rfl : l = [] := List.length_eq_zero_iff.1 hl
    refine (cloneP_none w).mono ?_
    rintro e w' ⟨rfl, rfl⟩
    exact ⟨_, rfl, OwnPk.nil _ _, Below.refl _ _⟩
  | some q => exact cloneP_some w q n c l hl hin  hN
end Go.Proofs.Ythaeidbnbgghkaa
namespace Go.Proofs.Ythaeidbnbgghkaa
open Go.ChangeShapes Go.WideShapes Go.ChangeAt Go.RowKit Go.Deep Go.Maps
set_option linter.unusedVariables false
set_option linter.unusedSimpArgs false
/-- a stack that may be read -/
structure StAt (w : World) (a : Option Addr) (n c : Nat) (M : List Pk) : Prop where
  inp : InPk w a M
  len : M.length = n
  nil : a = none → n = 0 ∧ c = 0
  cap : n ≤ c
  cap9 : c ≤ 9223372036854775807
  big : n ≤ 20
  pk : ∀ x ∈ M, PkOk w x ∧ (x.la = none → x.ln = 0 ∧ x.lc = 0) ∧ x.ln ≤ 20
theorem StAt.keep {w w' : World} {a : Option Addr} {n c : Nat} {M : List Pk} (h : StAt w a n c M) (hb : Below w.heap.size w w') : StAt w' a n c M :=
  ⟨h.inp.keep hb, h.len, h.nil, h.cap, h.cap9, h.big, fun x hx => ⟨(h.pk x hx).1.keep hb, (h.pk x hx).2⟩⟩
theorem StAt.none (w : World) : StAt w none 0 0 [] := ⟨.inl rfl, rfl, fun _ => ⟨rfl, rfl⟩, Nat.le_refl _, by omega, by omega, fun x hx => by cases hx⟩
theorem StAt.lens {w : World} {a : Option Addr} {n c : Nat} {M : List Pk} (h : StAt w a n c M) : ∀ x ∈ M, x.l.length = x.ln := fun x hx => (h.pk x hx).1.len
end Go.Proofs.Ythaeidbnbgghkaa
namespace Go.Proofs.Ythaeidbnbgghkaa
open Go.ChangeShapes Go.WideShapes Go.ChangeAt Go.RowKit Go.Deep Go.Maps
set_option linter.unusedVariables false
set_option linter.unusedSimpArgs false
/-- the same package, its layers elsewhere -/
def Pk.like (y x : Pk) : Prop := y.o = x.o ∧ y.n = x.n ∧ y.v = x.v ∧ y.l = x.l
/-- layers of one's own -/
def Fresh (w : World) (z : Nat) (y : Pk) : Prop := ∀ q, y.la = some q → z ≤ q.block ∧ ∃ cs, w.heap[q.block]? = some (.cells cs 109)
def NilOk (y : Pk) : Prop := y.la = none → y.ln = 0 ∧ y.lc = 0
/-- copies of packages, of one's own -/
def Cpd (w : World) (z : Nat) (V : Value) (L M : List Pk) : Prop := OwnPk w z V M ∧ M.length = L.length ∧ ∀ (i : Nat) (y : Pk), M[i]? = some y → ∃ x, L[i]? = some x ∧ y.like x ∧ PkOk w y ∧ NilOk y ∧ Fresh w z y
theorem pks_set (l : List Pk) (j : Nat) (x : Pk) (h : l[j]? = some x) (a : Option Addr) (n c : Nat) : (pks l).set (j * 4 + 3) (.slice a n c) = pks (l.set j ⟨x.o, x.n, x.v, x.l, a, n, c⟩) := by
  induction l generalizing j with
  | nil => simp at h
  | cons y l ih =>
    cases j with
    | zero =>
      simp at h
      subst h
      simp [pks, pkl]
    | succ j =>
      simp only [List.getElem?_cons_succ] at h
      have := ih j h
      simp only [pks, List.flatMap_cons, List.set_cons_succ] at this ⊢
      rw [← this, List.set_append, if_neg (by simp [pkl]; omega)]
      congr 2
      simp [pkl]
      omega
/-- the row while its layers are copied -/
def Mid (w wr : World) (z j : Nat) (V : Value) (L R : List Pk) : Prop := OwnPk wr z V R ∧ R.length = L.length ∧ ∀ (i : Nat) (y : Pk), R[i]? = some y → ∃ x, L[i]? = some x ∧ y.like x ∧ NilOk y ∧ (j ≤ i → y = x) ∧ (i < j → PkOk wr y ∧ Fresh wr z y)
theorem Mid.next {w wr w5 : World} {z j g n c : Nat} {L R : List Pk} {x : Pk} {a5 : Option Addr} {n5 c5 : Nat} (h : Mid w wr z j (.slice (some ⟨g, 0, none⟩) n c) L R) (hR : R.length = n) (hx : L[j]? = some x) (hj : R[j]? = some x) (hb : Below wr.heap.size wr w5) (hok : PkOk w5 ⟨x.o, x.n, x.v, x.l, a5, n5, c5⟩) (hnil : NilOk ⟨x.o, x.n, x.v, x.l, a5, n5, c5⟩) (hfr : ∀ q, a5 = some q → wr.heap.size ≤ q.block ∧ ∃ cs, w5.heap[q.block]? = some (.cells cs 109)) (hz : z ≤ wr.heap.size) :
    Mid w (w5.setCell ⟨g, j * 4 + 3, none⟩ (.slice a5 n5 c5)) z (j + 1) (.slice (some ⟨g, 0, none⟩) n c) L (R.set j ⟨x.o, x.n, x.v, x.l, a5, n5, c5⟩) ∧ w5.grownBy (w5.setCell ⟨g, j * 4 + 3, none⟩ (.slice a5 n5 c5)) (some g) := by
  have h5 : OwnPk w5 z (.slice (some ⟨g, 0, none⟩) n c) R := h.1.keep hb
  have h6 : w5.ownsRow z 94 4 (.slice (some ⟨g, 0, none⟩) n c) n (pks R) := by rw [← hR]; rw [← hR] at h5; exact h5
  obtain ⟨s1, s2⟩ := h6.stored (j * 4 + 3) (.slice a5 n5 c5)
  rw [pks_set R j x hj] at s1
  refine ⟨⟨?_, by rw [List.length_set]; exact h.2.1, fun i y hy => ?_⟩, s2⟩
  · unfold OwnPk
    rw [List.length_set, hR]
    exact s1
  · have off : ∀ (q : Nat) (cs : Array Value), w5.heap[q]? = some (.cells cs 109) → (w5.setCell ⟨g, j * 4 + 3, none⟩ (.slice a5 n5 c5)).heap[q]? = w5.heap[q]? := fun q cs hq => set_off w5 g (j * 4 + 3) q _ (fun e => h5.ref (k := g) rfl (by rw [← e]; exact hq))
    have hs : w5.heap.size ≤ (w5.setCell ⟨g, j * 4 + 3, none⟩ (.slice a5 n5 c5)).heap.size := by simp [World.setCell]
    rw [List.getElem?_set] at hy
    split at hy
    · rename_i hij
      subst hij
      split at hy
      · cases hy
        refine ⟨x, hx, ⟨rfl, rfl, rfl, rfl⟩, hnil, fun h => by omega, fun _ => ⟨⟨hok.inr.kept hs (fun q hq _ => ?_), hok.len, hok.le, hok.big, hok.dg, hok.sn, hok.sv⟩, fun q hq => ?_⟩⟩
        · obtain ⟨_, cs, hc⟩ := hfr q hq
          exact off _ cs hc
        · obtain ⟨h1, cs, hc⟩ := hfr q hq
          exact ⟨by omega, cs, (off _ cs hc).trans hc⟩
      · cases hy
    · rename_i hij
      obtain ⟨x', k1, k2, k3, k4, k5⟩ := h.2.2 i y hy
      refine ⟨x', k1, k2, k3, fun h => k4 (by omega), fun h => ?_⟩
      obtain ⟨p1, p2⟩ := k5 (by omega)
      have key : ∀ q, y.la = some q → ∃ cs, w5.heap[q.block]? = some (.cells cs 109) ∧ w5.heap[q.block]? = wr.heap[q.block]? := fun q hq => by
        obtain ⟨_, cs, hc⟩ := p2 q hq
        have e := hb.block q.block (lt_of_heapK hc)
        exact ⟨cs, e.trans hc, e⟩
      refine ⟨⟨p1.inr.kept (by have := hb.size; omega) (fun q hq _ => ?_), p1.len, p1.le, p1.big, p1.dg, p1.sn, p1.sv⟩, fun q hq => ?_⟩
      · obtain ⟨cs, e1, e2⟩ := key q hq
        exact (off _ cs e1).trans e2
      · obtain ⟨cs, e1, e2⟩ := key q hq
        exact ⟨(p2 q hq).1, cs, (off _ cs e1).trans e1⟩
set_option maxRecDepth 100000 in
set_option maxHeartbeats 4000000 in
theorem copied_is (w : World) (a : Option Addr) (n c : Nat) (L : List Pk) (hn : L.length = n) (hL : InPk w a L) (ha : a = none → n = 0 ∧ c = 0) (hP : ∀ x ∈ L, PkOk w x ∧ NilOk x ∧ x.ln ≤ 3518437208883) (hN : n ≤ 1000000) :
    Calls Try.prog 46 #[.slice a n c] w fun e w' => ∃ pa pn pc M, e = .returned (.slice pa pn pc) ∧ Cpd w' w.heap.size (.slice pa pn pc) L M ∧ Below w.heap.size w w' := by
  obtain ⟨z, hzz⟩ : ∃ z, z = w.heap.size := ⟨_, rfl⟩
  have KC : Hid (Calls Try.prog 57 #[.slice a n c] w fun e w' => ∃ v, e = .returned v ∧ OwnPk w' z v L ∧ Below z w w') := by rw [hzz]; exact cloneP_is w a n c L hn hL ha (by omega)
  have HB0 : Hid (z = w.heap.size ∧ L.length = n) := ⟨hzz, hn⟩
  have HP : Hid (∀ x ∈ L, PkOk w x ∧ NilOk x ∧ x.ln ≤ 3518437208883) := hP
  clear hn hL ha hP hzz
  go_enter Try.func46, Try.ntmps46
  go_wp2_with fail
  refine KC.out.mono ?_
  rintro e w1 ⟨v1, rfl, o1, b1⟩
  obtain ⟨a1, c1, rfl, _⟩ := o1.slice (fun x hx => (HP.out x hx).1.keep (b1.mono (by have := HB0.out.1; omega)))
  rw [HB0.out.2] at o1 ⊢
  have M1 : Hid (Mid w w1 z 0 (.slice a1 n c1) L L ∧ Below z w w1) := ⟨⟨o1, rfl, fun i y hy => ⟨y, hy, ⟨rfl, rfl, rfl, rfl⟩, (HP.out y (List.mem_of_getElem? hy)).2.1, fun _ => rfl, fun h => by omega⟩⟩, b1⟩
  clear o1 b1 KC
  go_wp2_with fail
  go_loopg [9] n (fun q i wr => ∃ (j : Nat) (R : List Pk), j ≤ n ∧ q = n - j ∧ i = .int .i64 (j : Int) ∧ Hid (Mid w wr z j (.slice a1 n c1) L R ∧ Below z w wr))
  case atStart => exact ⟨0, L, Nat.zero_le _, rfl, rfl, M1.out⟩
  obtain ⟨j, R, hj, rfl, rfl, RW⟩ := hrel
  by_cases hlt : j < n
  · have j1 : decide ((j : Int) < (n : Int)) = true := by rw [decide_eq_true_eq]; omega
    have hRl : R.length = n := RW.out.1.2.1.trans HB0.out.2
    obtain ⟨x, hx⟩ : ∃ x, R[j]? = some x := ⟨R[j]'(by rw [hRl]; exact hlt), List.getElem?_eq_getElem _⟩
    obtain ⟨x2, hx2, _, hnil, hxx, _⟩ := RW.out.1.2.2 j x hx
    obtain rfl := hxx (Nat.le_refl _)
    rcases RW.out.1.1.2 with ⟨_, h0⟩ | ⟨g, cap, cur, e1, hbg, hgc, _⟩
    · omega
    injection e1 with e1 e2 e3
    subst e1
    have h6 : wr.ownsRow z 94 4 (.slice (some ⟨g, 0, none⟩) n c1) n (pks R) := by have := RW.out.1.1; unfold OwnPk at this; rw [hRl] at this; exact this
    have hw : Below w.heap.size w wr := RW.out.2.mono (by have := HB0.out.1; omega)
    obtain ⟨p1, p2, p3⟩ := HP.out x (List.mem_of_getElem? hx2)
    have hzw : z ≤ wr.heap.size := by have := RW.out.2.size; have := HB0.out.1; omega
    have c3 : wr.cell? ⟨g, j * 4 + 3, none⟩ = some (.slice x.la x.ln x.lc) := by
      rw [h6.cellAt (j * 4 + 3) (by omega), pks_at R j x hx 3 (by omega)]
      rfl
    have ri : IntKind.i64.wrap ((j : Int) + 1) = (j : Int) + 1 := by rw [IntKind.wrap_i64]; omega
    have KR : Hid (Calls Try.prog 58 #[.slice x.la x.ln x.lc] wr fun e w' => ∃ v, e = .returned v ∧ OwnR w' wr.heap.size v x.l ∧ Below wr.heap.size wr w') := cloneR_is wr x.la x.ln x.lc x.l p1.len (p1.keep hw).inr p2 p1.dg p3
    have HH : Hid (R[j]? = some x ∧ L[j]? = some x ∧ R.length = n ∧ PkOk w x ∧ z ≤ wr.heap.size ∧ g < wr.heap.size ∧ x.ln ≤ 3518437208883 ∧ z ≤ g) := ⟨hx, hx2, hRl, p1, hzw, lt_of_heapK hgc, p3, hbg⟩
    have HO : Hid (∀ w5, Below wr.heap.size wr w5 → w5.frozen? ⟨g, j * 4 + 3, none⟩ = false ∧ w5.cell? ⟨g, j * 4 + 3, none⟩ = some (.slice x.la x.ln x.lc)) := fun w5 h5 => ⟨frozen_blk ((h5.block g (lt_of_heapK hgc)).trans hgc) _, (World.cell?_of_block (a := ⟨g, j * 4 + 3, none⟩) (h5.block g (lt_of_heapK hgc))).trans c3⟩
    clear hx hx2 hRl hw p1 p2 p3 hzw h6 hgc e2 e3 hbg hnil hxx
    obtain ⟨po, pN, pV, pl, pa, pn, pc⟩ := x
    simp only at c3 KR HO
    go_upto_region 6 with (go_at_call 58; refine KR.out.mono ?_; rintro e5 w5 ⟨v5, rfl, o5, b5⟩; have OR5 := o5; obtain ⟨a5, c5, rfl, i5, l5, m5, n5⟩ := o5.slice HH.out.2.2.2.1.dg; rw [show pl.length = pn from HH.out.2.2.2.1.len] at OR5 l5 ⊢; have B5 : Hid (Below wr.heap.size wr w5) := b5; have fz := (HO.out w5 b5).1; have fz2 : w5.frozen? ⟨g, j * 4 + 1 + 2, none⟩ = false := fz; have cz := (HO.out w5 b5).2; have cz2 : w5.cell? ⟨g, j * 4 + 1 + 2, none⟩ = some (.slice pa pn pc) := cz; have MX : Hid (Mid w (w5.setCell ⟨g, j * 4 + 3, none⟩ (.slice a5 pn c5)) z (j + 1) (.slice (some ⟨g, 0, none⟩) n c1) L (R.set j ⟨po, pN, pV, pl, a5, pn, c5⟩) ∧ w5.grownBy (w5.setCell ⟨g, j * 4 + 3, none⟩ (.slice a5 pn c5)) (some g)) := Mid.next RW.out.1 HH.out.2.2.1 HH.out.2.1 HH.out.1 b5 ⟨i5, HH.out.2.2.2.1.len, l5, HH.out.2.2.2.1.big, HH.out.2.2.2.1.dg, HH.out.2.2.2.1.sn, HH.out.2.2.2.1.sv⟩ (fun e => ⟨(by have e0 := n5 e; have := l5; show pn = 0; omega), n5 e⟩) (fun q hq => (by obtain ⟨h1, _, h3⟩ := OR5.at q hq; exact ⟨h1, h3⟩)) HH.out.2.2.2.2.1; clear o5 b5 i5 l5 m5 n5 OR5)
    have BX : Hid (Below z w (w5.setCell ⟨g, j * 4 + 3, none⟩ (.slice a5 pn c5))) := (RW.out.2.trans (B5.out.mono HH.out.2.2.2.2.1)).grown MX.out.2 (by have := B5.out.size; have := HH.out.2.2.2.2.1; omega) (fun k hk => by cases hk; exact HH.out.2.2.2.2.2.2.2)
    go_wp2_with fail
    go_roundg (n - (j + 1))
    case measure => omega
    case rel => exact ⟨j + 1, _, by omega, rfl, rfl, MX.out.1, BX.out⟩
  · have j1 : decide ((j : Int) < (n : Int)) = false := by rw [decide_eq_false_iff_not]; omega
    have hj2 : j = n := by omega
    have HF : Hid (Cpd wr w.heap.size (.slice a1 n c1) L R ∧ Below w.heap.size w wr) := by
      rw [← HB0.out.1]
      refine ⟨⟨RW.out.1.1, RW.out.1.2.1, fun i y hy => ?_⟩, RW.out.2⟩
      obtain ⟨x, k1, k2, k3, _, k5⟩ := RW.out.1.2.2 i y hy
      have hi : i < j := by have := (List.getElem?_eq_some_iff.1 hy).1; rw [RW.out.1.2.1, HB0.out.2] at this; omega
      obtain ⟨p1, p2⟩ := k5 hi
      exact ⟨x, k1, k2, p1, k3, p2⟩
    clear hj2
    go_wp2_with fail
    go_ret
    exact ⟨a1, n, c1, R, rfl, HF.out⟩
end Go.Proofs.Ythaeidbnbgghkaa
namespace Go.Proofs.Ythaeidbnbgghkaa
open Go.ChangeShapes Go.WideShapes Go.ChangeAt Go.RowKit Go.Deep Go.Maps
set_option linter.unusedVariables false
set_option linter.unusedSimpArgs false
/-- a stack in memory of its own, from block z on -/
structure NewSt (w : World) (z : Nat) (a : Option Addr) (n c : Nat) (M : List Pk) : Prop where
  st : StAt w a n c M
  own : OwnPk w z (.slice a n c) M
  fr : ∀ y ∈ M, Fresh w z y
theorem Fresh.keep {w w' : World} {z : Nat} {y : Pk} (h : Fresh w z y) (hb : Below w.heap.size w w') : Fresh w' z y := fun q hq => by
  obtain ⟨h1, cs, hc⟩ := h q hq
  exact ⟨h1, cs, (hb.block _ (lt_of_heapK hc)).trans hc⟩
theorem NewSt.keep {w w' : World} {z : Nat} {a : Option Addr} {n c : Nat} {M : List Pk} (h : NewSt w z a n c M) (hb : Below w.heap.size w w') : NewSt w' z a n c M :=
  ⟨h.st.keep hb, h.own.keep hb, fun y hy => (h.fr y hy).keep hb⟩
theorem cpd_new {w : World} {z : Nat} {a : Option Addr} {n c : Nat} {L M : List Pk} (h : Cpd w z (.slice a n c) L M) (hl : L.length ≤ 20) (h20 : ∀ x ∈ L, x.l.length ≤ 20) (hz : z ≤ w.heap.size) : NewSt w z a n c M ∧ M.map co = L.map co := by
  have hp : ∀ y ∈ M, PkOk w y ∧ NilOk y ∧ y.ln ≤ 20 ∧ Fresh w z y := fun y hy => by
    obtain ⟨i, hi⟩ := List.getElem?_of_mem hy
    obtain ⟨x, hx, ⟨_, _, _, k4⟩, k5, k6, k7⟩ := h.2.2 i y hi
    exact ⟨k5, k6, by rw [← k5.len, k4]; exact h20 x (List.mem_of_getElem? hx), k7⟩
  obtain ⟨a', c', e, hin, hc, hc9⟩ := h.1.slice (fun x hx => (hp x hx).1)
  injection e with e1 e2 e3
  subst e1 e3
  refine ⟨⟨⟨hin, e2.symm, fun e => ?_, by omega, hc9, by rw [e2, h.2.1]; exact hl, fun x hx => ⟨(hp x hx).1, (hp x hx).2.1, (hp x hx).2.2.1⟩⟩, h.1, fun y hy => (hp y hy).2.2.2⟩, ?_⟩
  · rcases h.1.2 with ⟨h1, _⟩ | ⟨g, cap, cur, h1, _⟩
    · injection h1 with _ h2 h3
      exact ⟨h2, h3⟩
    · injection h1 with h2
      rw [e] at h2
      cases h2
  · apply List.ext_getElem?
    intro i
    rw [List.getElem?_map, List.getElem?_map]
    by_cases hi : i < M.length
    · obtain ⟨x, hx, ⟨k1, k2, k3, k4⟩, _⟩ := h.2.2 i M[i] (List.getElem?_eq_getElem hi)
      rw [List.getElem?_eq_getElem hi, hx]
      simp only [Option.map_some, co]
      rw [k1, k2, k3, k4]
    · rw [List.getElem?_eq_none (by omega), List.getElem?_eq_none (by have := h.2.1; omega)]
theorem OwnPk.base {w : World} {a b : Nat} {v : Value} {l : List Pk} (h : OwnPk w b v l) (hab : a ≤ b) : OwnPk w a v l := by
  refine ⟨h.1, ?_⟩
  rcases h.2 with h1 | ⟨g, cap, cur, rfl, hbg, rest⟩
  · exact .inl h1
  · exact .inr ⟨g, cap, cur, rfl, Nat.le_trans hab hbg, rest⟩
theorem NewSt.base {w : World} {z z' : Nat} {a : Option Addr} {n c : Nat} {M : List Pk} (h : NewSt w z a n c M) (hz : z' ≤ z) : NewSt w z' a n c M :=
  ⟨h.st, h.own.base hz, fun y hy q hq => ⟨Nat.le_trans hz (h.fr y hy q hq).1, (h.fr y hy q hq).2⟩⟩
theorem own_at {w : World} {z : Nat} {a : Option Addr} {n c : Nat} {M : List Pk} (h : OwnPk w z (.slice a n c) M) (hp : ∀ x ∈ M, PkOk w x) : InPk w a M ∧ M.length = n ∧ n ≤ c ∧ c ≤ 9223372036854775807 ∧ (a = none → n = 0 ∧ c = 0) := by
  obtain ⟨a', c', e, hin, hc, hc9⟩ := h.slice hp
  injection e with e1 e2 e3
  subst e1 e3
  refine ⟨hin, e2.symm, by omega, hc9, fun e => ?_⟩
  rcases h.2 with ⟨h1, _⟩ | ⟨g, cap, cur, h1, _⟩
  · injection h1 with _ h2 h3
    exact ⟨h2, h3⟩
  · injection h1 with h2
    rw [e] at h2
    cases h2
theorem own_some {w : World} {z : Nat} {a : Option Addr} {n c : Nat} {M : List Pk} (h : OwnPk w z (.slice a n c) M) (hn : 0 < n) : ∃ g, a = some ⟨g, 0, none⟩ ∧ z ≤ g := by
  rcases h.2 with ⟨h1, _⟩ | ⟨g, cap, cur, h1, hz, _⟩
  · injection h1 with _ h2 h3
    omega
  · injection h1 with h2
    exact ⟨g, h2, hz⟩
theorem NewSt.kept2 {w w' : World} {z : Nat} {a : Option Addr} {n c : Nat} {M : List Pk} (h : NewSt w z a n c M) (hs : w.heap.size ≤ w'.heap.size) (hk : ∀ (k : Nat) (cs : Array Value) (t : TypeId), w.heap[k]? = some (Obj.cells cs t) → (t = 94 ∨ t = 109) → w'.heap[k]? = w.heap[k]?) : NewSt w' z a n c M := by
  have hfr : ∀ y ∈ M, ∀ q, y.la = some q → w'.heap[q.block]? = w.heap[q.block]? := fun y hy q hq => by
    obtain ⟨_, cs, hc⟩ := h.fr y hy q hq
    exact hk _ cs _ hc (.inr rfl)
  have hp : ∀ x ∈ M, PkOk w' x := fun x hx => by
    have p := (h.st.pk x hx).1
    exact ⟨p.inr.kept hs (fun q hq _ => hfr x hx q hq), p.len, p.le, p.big, p.dg, p.sn, p.sv⟩
  have ho : OwnPk w' z (.slice a n c) M := h.own.kept fun k hk' => by
    rcases h.own.2 with ⟨h1, _⟩ | ⟨g, cap, cur, h1, _, hg, _⟩
    · rw [h1] at hk'; cases hk'
    · rw [h1] at hk'; cases hk'; exact hk _ cur _ hg (.inl rfl)
  obtain ⟨h1, h2, h3, h4, h5⟩ := own_at ho hp
  exact ⟨⟨h1, h2, h5, h3, h4, h.st.big, fun x hx => ⟨hp x hx, (h.st.pk x hx).2⟩⟩, ho, fun y hy q hq => by
    obtain ⟨k1, cs, hc⟩ := h.fr y hy q hq
    exact ⟨k1, cs, (hfr y hy q hq).trans hc⟩⟩
end Go.Proofs.Ythaeidbnbgghkaa
namespace Go.Proofs.Ythaeidbnbgghkaa
open Go.ChangeShapes Go.WideShapes Go.ChangeAt Go.RowKit Go.Deep Go.Maps
set_option linter.unusedVariables false
set_option linter.unusedSimpArgs false
/-- a plan, and where its stack lies -/
structure Pv where
  r : Int
  a : Option Addr
  n : Nat
  c : Nat
  M : List Pk
def PvOk (w : World) (x : Pv) : Prop := StAt w x.a x.n x.c x.M
theorem PvOk.keep {w w' : World} {x : Pv} (h : PvOk w x) (hb : Below w.heap.size w w') : PvOk w' x := StAt.keep h hb
def Pv.co (x : Pv) : List Pc := x.M.map Go.Proofs.Ythaeidbnbgghkaa.co
def pvl (x : Pv) : List Value := [.int .i64 x.r, .slice x.a x.n x.c]
def pvs (l : List Pv) : List Value := l.flatMap pvl
theorem pvs_len (l : List Pv) : (pvs l).length = l.length * 2 := by
  induction l with
  | nil => rfl
  | cons x l ih => simp only [pvs, List.flatMap_cons, List.length_append, List.length_cons] at ih ⊢; rw [ih]; simp [pvl]; omega
theorem pvs_at (l : List Pv) (i : Nat) (x : Pv) (h : l[i]? = some x) (k : Nat) (hk : k < 2) : (pvs l)[i * 2 + k]? = (pvl x)[k]? := by
  induction l generalizing i with
  | nil => simp at h
  | cons y l ih =>
    cases i with
    | zero =>
      simp at h
      subst h
      simp only [pvs, List.flatMap_cons, Nat.zero_mul, Nat.zero_add]
      rw [List.getElem?_append_left (by simp [pvl]; omega)]
    | succ i =>
      simp only [List.getElem?_cons_succ] at h
      have := ih i h
      simp only [pvs, List.flatMap_cons] at this ⊢
      rw [List.getElem?_append_right (by simp [pvl]; omega), ← this]
      congr 1
      first | (simp [pvl]; done) | (simp [pvl]; omega)
theorem pvl_one (x : Pv) : ∀ v ∈ pvl x, v.oneCell' = true := by
  intro v hv
  simp only [pvl, List.mem_cons, List.not_mem_nil, or_false] at hv
  rcases hv with rfl | rfl <;> rfl
def InPv (w : World) (a : Option Addr) (l : List Pv) : Prop := l = [] ∨ ∃ b off, a = some ⟨b, off, none⟩ ∧ b < w.heap.size ∧ ∀ i x, l[i]? = some x → (∀ k v, (pvl x)[k]? = some v → w.cell? ⟨b, off + i * 2 + k, none⟩ = some v) ∧ PvOk w x
theorem InPv.keep {w w' : World} {a : Option Addr} {l : List Pv} (h : InPv w a l) (hb : Below w.heap.size w w') : InPv w' a l := by
  rcases h with h | ⟨b, off, h1, h2, h3⟩
  · exact .inl h
  · exact .inr ⟨b, off, h1, Nat.lt_of_lt_of_le h2 hb.size, fun i x hx => ⟨fun k v hv => (World.cell?_of_block (a := ⟨b, off + i * 2 + k, none⟩) (hb.block b h2)).trans ((h3 i x hx).1 k v hv), (h3 i x hx).2.keep hb⟩⟩
theorem InPv.at {w : World} {a : Option Addr} {l : List Pv} (h : InPv w a l) {i : Nat} {x : Pv} (hx : l[i]? = some x) : ∃ b off, a = some ⟨b, off, none⟩ ∧ b < w.heap.size ∧ (∀ W, Below w.heap.size w W → ∀ k v, (pvl x)[k]? = some v → W.cell? ⟨b, off + i * 2 + k, none⟩ = some v) ∧ PvOk w x := by
  rcases h with h | ⟨b, off, e, h1, h2⟩
  · rw [h] at hx; cases hx
  · exact ⟨b, off, e, h1, fun W hW k v hv => (World.cell?_of_block (a := ⟨b, off + i * 2 + k, none⟩) (hW.block b h1)).trans ((h2 i x hx).1 k v hv), (h2 i x hx).2⟩
theorem InPv.take {w : World} {a : Option Addr} {l : List Pv} (h : InPv w a l) (k : Nat) : InPv w a (l.take k) := by
  rcases h with h | ⟨b, off, e, h1, h2⟩
  · rw [h]; exact .inl (by simp)
  · exact .inr ⟨b, off, e, h1, fun i x hx => h2 i x (by rw [List.getElem?_take] at hx; split at hx <;> simp_all)⟩
def OwnPv (w : World) (base : Nat) (v : Value) (l : List Pv) : Prop := w.ownsRow base 61 2 v l.length (pvs l)
theorem OwnPv.nil (w : World) (base : Nat) : OwnPv w base (.slice none 0 0) [] := World.ownsRow_nil _ _ _ _
theorem OwnPv.own {w : World} {base : Nat} {v : Value} {l : List Pv} (h : OwnPv w base v l) : ∀ k, v.ownBlock = some k → base ≤ k ∧ k < w.heap.size := fun k hk => World.ownsRow.lt h k hk
theorem OwnPv.kept {w w' : World} {base : Nat} {v : Value} {l : List Pv} (h : OwnPv w base v l) (hb : ∀ k, v.ownBlock = some k → w'.heap[k]? = w.heap[k]?) : OwnPv w' base v l := by
  refine ⟨h.1, ?_⟩
  rcases h.2 with h1 | ⟨g, cap, cur, rfl, hbg, hg, rest⟩
  · exact .inl h1
  · exact .inr ⟨g, cap, cur, rfl, hbg, (hb g rfl).trans hg, rest⟩
theorem OwnPv.keep {w w' : World} {base : Nat} {v : Value} {l : List Pv} (h : OwnPv w base v l) (hb : Below w.heap.size w w') : OwnPv w' base v l := h.kept fun k hk => hb.block k (h.own k hk).2
theorem OwnPv.base {w : World} {a b : Nat} {v : Value} {l : List Pv} (h : OwnPv w b v l) (hab : a ≤ b) : OwnPv w a v l := by
  refine ⟨h.1, ?_⟩
  rcases h.2 with h1 | ⟨g, cap, cur, rfl, hbg, rest⟩
  · exact .inl h1
  · exact .inr ⟨g, cap, cur, rfl, Nat.le_trans hab hbg, rest⟩
theorem OwnPv.slice {w : World} {base : Nat} {v : Value} {l : List Pv} (h : OwnPv w base v l) (hok : ∀ x ∈ l, PvOk w x) : ∃ a c, v = .slice a l.length c ∧ InPv w a l ∧ l.length ≤ c ∧ c ≤ 9223372036854775807 ∧ (a = none → l.length = 0 ∧ c = 0) ∧ (∀ q, a = some q → base ≤ q.block ∧ q.off = 0 ∧ q.spot = none) := by
  rcases h.2 with ⟨rfl, hn⟩ | ⟨g, cap, cur, rfl, hb, hg, hl, hm, hs, ht⟩
  · have : l = [] := List.length_eq_zero_iff.1 hn
    subst this
    exact ⟨none, 0, rfl, .inl rfl, by simp, by omega, fun _ => ⟨rfl, rfl⟩, fun q hq => by cases hq⟩
  · simp only [maxLen] at hm
    refine ⟨_, _, rfl, .inr ⟨g, 0, rfl, (h.own g rfl).2, fun i x hx => ⟨?_, hok x (List.mem_of_getElem? hx)⟩⟩, hl, by omega, (fun e => by cases e), fun q hq => by cases hq; exact ⟨hb, rfl, rfl⟩⟩
    intro k v hv
    have hk : k < 2 := by
      have := (List.getElem?_eq_some_iff.1 hv).1
      simpa [pvl] using this
    have := World.ownsRow.cells h (g := g) rfl (i * 2 + k) v (by rw [pvs_at l i x hx k hk]; exact hv)
    rw [add_plain, Nat.zero_add] at this
    rw [Nat.zero_add]
    exact this
theorem infoPv : ∃ i, Try.prog.info? 61 = some i ∧ i.zero = some (.agg #[.int .i64 0, .slice none 0 0]) ∧ i.size = 2 ∧ i.bytes = 32 := info_parts (show (Try.prog.info? 61).map (fun i => (i.zero, i.size, i.bytes)) = some (some (.agg #[.int .i64 0, .slice none 0 0]), 2, 32) by kernel_rfl)
theorem append_pv {w : World} {ops : Array Oper} {rest : List Oper} {o : Oper} {act : Act} {Q : Exit → Act → World → Prop} (hgd : o.guard = none) (s x : Operand)
    (ho : o.op = .call { callee := .builtin .append, args := #[s, x], argTypes := #[22, 22] })
    (base : Nat) (v : Value) (l : List Pv) (hs : act.eval s = v) (hown : OwnPv w base v l)
    (g c : Nat) (y : Pv) (hx : act.eval x = .slice (some ⟨g, 0, none⟩) 1 c) (hc : w.heap[g]? = some (.cells (pvl y).toArray 61))
    (hN : l.length ≤ 100000000) (hbase : base ≤ w.heap.size)
    (h : ∀ v' w', OwnPv w' base v' (l ++ [y]) → w.grownBy w' v.ownBlock → wpList Try.prog ops Q rest (act.put o.dst v') w') :
    wpList Try.prog ops Q (o :: rest) act w := by
  obtain ⟨i, hi, hz, h1, h2⟩ := infoPv
  refine wpList_append_own w hgd s x 22 ho base 61 i _ 2 32 Try.underlying22 hi hz h1 h2 rfl (by decide) v l.length _ hs hown ⟨g, 0, none⟩ 1 c (pvl y) hx rfl ?_ (pvl_one y) (by simp only [maxLen]; omega) (by omega) hbase ?_
  · intro j u hu
    rw [add_plain, Nat.zero_add]
    simp [World.cell?, hc, hu]
  · intro v' w' hown' hg _
    refine h v' w' ?_ hg
    unfold OwnPv
    rw [List.length_append]
    have : pvs (l ++ [y]) = pvs l ++ pvl y := by simp [pvs]
    rw [this]
    exact hown'
end Go.Proofs.Ythaeidbnbgghkaa
namespace Go.Proofs.Ythaeidbnbgghkaa
open Go.ChangeShapes Go.WideShapes Go.ChangeAt Go.RowKit Go.Deep Go.Maps
set_option linter.unusedVariables false
set_option linter.unusedSimpArgs false
/-- plans of which the roots, and where their packages lie, may be read -/
structure Rl where
  r : Int
  a : Option Addr
  n : Nat
  c : Nat
def InRl (w : World) (a : Option Addr) (l : List Rl) : Prop := l = [] ∨ ∃ b off, a = some ⟨b, off, none⟩ ∧ b < w.heap.size ∧ ∀ i x, l[i]? = some x → w.cell? ⟨b, off + i * 2, none⟩ = some (.int .i64 x.r) ∧ w.cell? ⟨b, off + i * 2 + 1, none⟩ = some (.slice x.a x.n x.c)
theorem InRl.keep {w w' : World} {a : Option Addr} {l : List Rl} (h : InRl w a l) (hb : Below w.heap.size w w') : InRl w' a l := by
  rcases h with e | ⟨b, off, h1, h2, h3⟩
  · exact .inl e
  · exact .inr ⟨b, off, h1, Nat.lt_of_lt_of_le h2 hb.size, fun i x hx => ⟨(hb.cell (p := ⟨b, off + i * 2, none⟩) h2).trans (h3 i x hx).1, (hb.cell (p := ⟨b, off + i * 2 + 1, none⟩) h2).trans (h3 i x hx).2⟩⟩
theorem InRl.at {w : World} {a : Option Addr} {l : List Rl} (h : InRl w a l) {i : Nat} {x : Rl} (hx : l[i]? = some x) : ∃ b off, a = some ⟨b, off, none⟩ ∧ b < w.heap.size ∧ w.cell? ⟨b, off + i * 2, none⟩ = some (.int .i64 x.r) ∧ w.cell? ⟨b, off + i * 2 + 1, none⟩ = some (.slice x.a x.n x.c) := by
  rcases h with e | ⟨b, off, h1, h2, h3⟩
  · subst e; simp at hx
  · exact ⟨b, off, h1, h2, h3 i x hx⟩
theorem InPv.rl {w : World} {a : Option Addr} {P : List Pv} (h : InPv w a P) : InRl w a (P.map fun x => ⟨x.r, x.a, x.n, x.c⟩) := by
  rcases h with e | ⟨b, off, h1, h2, h3⟩
  · subst e; exact .inl rfl
  · refine .inr ⟨b, off, h1, h2, fun i x hx => ?_⟩
    rw [List.getElem?_map] at hx
    obtain ⟨y, hy, rfl⟩ := Option.map_eq_some_iff.1 hx
    obtain ⟨k, _⟩ := h3 i y hy
    exact ⟨k 0 _ rfl, k 1 _ rfl⟩
theorem one_z {w : World} {g : Nat} {x : Int} {t : TypeId} (h : w.heap[g]? = some (.cells #[.int .i64 x] t)) : InZ w (some ⟨g, 0, none⟩) [x] := by
  refine .inr ⟨g, 0, rfl, lt_of_heapK h, fun i y hy => ?_⟩
  cases i with
  | succ i => simp at hy
  | zero =>
    simp only [List.getElem?_cons_zero, Option.some.injEq] at hy
    subst hy
    simp [World.cell?, h, zi]
set_option maxRecDepth 100000 in
set_option maxHeartbeats 4000000 in
theorem rootsOf_is (w : World) (a : Option Addr) (n c : Nat) (l : List Rl) (hl : InRl w a l) (hn : l.length = n) (hN : n ≤ 17592186044415) :
    Calls Try.prog 26 #[.slice a n c] w fun e w' => ∃ V, e = .returned V ∧ OwnZ w' w.heap.size V (l.map Rl.r) ∧ Below w.heap.size w w' := by
  have HL : Hid (InRl w a l ∧ l.length = n) := ⟨hl, hn⟩
  obtain ⟨z, hz⟩ : ∃ z, z = w.heap.size := ⟨_, rfl⟩
  have HZ : Hid (z = w.heap.size) := hz
  rw [← hz]
  clear hl hn hz
  go_enter Try.func26, Try.ntmps26
  go_wp2_with fail
  go_loopg [3, 8] n (fun g V i wr => ∃ j : Nat, j ≤ n ∧ g = n - j ∧ i = .int .i64 (j : Int) ∧ Hid (OwnZ wr z V ((l.take j).map Rl.r) ∧ Below z w wr))
  case atStart => exact ⟨0, Nat.zero_le _, rfl, rfl, OwnZ.nil _ _, by rw [HZ.out]; exact Below.refl _ _⟩
  case round =>
    obtain ⟨j, hj, rfl, rfl, RW⟩ := hrel
    by_cases hlt : j < n
    · have j1 : decide ((j : Int) < (n : Int)) = true := by rw [decide_eq_true_eq]; omega
      have j3 : decide (j < n) = true := by rw [decide_eq_true_eq]; omega
      have j4 : (j : Int) < (n : Int) := by omega
      have ri : IntKind.i64.wrap ((j : Int) + 1) = (j : Int) + 1 := by rw [IntKind.wrap_i64]; omega
      obtain ⟨x, hx⟩ : ∃ x, l[j]? = some x := ⟨l[j]'(by rw [HL.out.2]; exact hlt), List.getElem?_eq_getElem _⟩
      obtain ⟨b, off, rfl, hbw, c0, c1⟩ := (HL.out.1.keep (by rw [← HZ.out]; exact RW.out.2)).at hx
      have HT : Hid ((l.take (j + 1)).map Rl.r = (l.take j).map Rl.r ++ [x.r] ∧ ((l.take j).map Rl.r).length = j) := by
        refine ⟨by rw [List.take_add_one, hx]; simp, ?_⟩
        rw [List.length_map, List.length_take, HL.out.2]; omega
      obtain ⟨xr, xa, xn, xc⟩ := x
      simp only at c0 c1 HT
      have BZ : Hid (z ≤ wr.heap.size) := by have := RW.out.2.size; rw [HZ.out]; exact this
      have A1 : Hid (OwnZ ((wr.alloc (.cells #[.int .i64 xr, .slice xa xn xc] 61)).alloc (.cells #[.int .i64 xr] 3)) z u3 ((l.take j).map Rl.r) ∧ InZ ((wr.alloc (.cells #[.int .i64 xr, .slice xa xn xc] 61)).alloc (.cells #[.int .i64 xr] 3)) (some ⟨wr.heap.size + 1, 0, none⟩) [xr] ∧ z ≤ ((wr.alloc (.cells #[.int .i64 xr, .slice xa xn xc] 61)).alloc (.cells #[.int .i64 xr] 3)).heap.size ∧ Below z w ((wr.alloc (.cells #[.int .i64 xr, .slice xa xn xc] 61)).alloc (.cells #[.int .i64 xr] 3))) := by
        have b1 := below1 wr (.cells #[.int .i64 xr, .slice xa xn xc] 61)
        have b2 := below1 (wr.alloc (.cells #[.int .i64 xr, .slice xa xn xc] 61)) (.cells #[.int .i64 xr] 3)
        refine ⟨(RW.out.1.keep b1).keep b2, one_z (by have := heap_alloc_new (wr.alloc (.cells #[.int .i64 xr, .slice xa xn xc] 61)) (.cells #[.int .i64 xr] 3); simpa using this), ?_, ?_⟩
        · have h0 := BZ.out; have h1 := b1.size; have h2 := b2.size; omega
        · exact (RW.out.2.alloc BZ.out _).alloc (by have h0 := BZ.out; have h1 := b1.size; omega) _
      clear hx
      go_wp2_with (at_builtin; refine append_ints rfl (.tmp 12) (.tmp 15) rfl z _ _ rfl A1.out.1 (some ⟨wr.heap.size + 1, 0, none⟩) 1 1 [xr] rfl rfl A1.out.2.1 (fun h => by cases h) (by have := HT.out.2; omega) A1.out.2.2.1 ?_; intro v8 u8 o8 g8; have F8 : Hid (OwnZ u8 z v8 ((l.take j).map Rl.r ++ [xr]) ∧ Below z w u8) := ⟨o8, A1.out.2.2.2.grown g8 A1.out.2.2.1 (fun q hq => (A1.out.1.own q hq).1)⟩; clear o8 g8)
      go_roundg (n - (j + 1))
      case measure => omega
      case rel => exact ⟨j + 1, by omega, rfl, by push_cast; rfl, by rw [HT.out.1]; exact F8.out.1, F8.out.2⟩
    · obtain rfl : j = n := by omega
      have j1 : decide ((j : Int) < (j : Int)) = false := by rw [decide_eq_false_iff_not]; omega
      have j3 : decide (j < j) = false := by rw [decide_eq_false_iff_not]; omega
      have HF : Hid (OwnZ wr z u3 (l.map Rl.r) ∧ Below z w wr) := ⟨by have := RW.out.1; rwa [List.take_of_length_le (by rw [HL.out.2]; exact Nat.le_refl _)] at this, RW.out.2⟩
      go_wp2_with fail
      go_ret
      exact ⟨_, rfl, HF.out⟩
/-- do numbers rise, and are roots, behind p -/
def arF : Int → List Int → Bool
  | _, [] => true
  | p, x :: r => decide (1 ≤ x) && decide (x ≤ 6) && decide (p < x) && arF x r
theorem arF_len : ∀ (l : List Int) (p : Int), 0 ≤ p → p ≤ 6 → arF p l = true → (l.length : Int) + p ≤ 6
  | [], p, _, h6, _ => by simpa using h6
  | x :: r, p, h0, h6, h => by
    simp only [arF, Bool.and_eq_true, decide_eq_true_eq] at h
    have := arF_len r x (by omega) h.1.1.2 h.2
    simp only [List.length_cons]
    push_cast
    omega
set_option maxRecDepth 100000 in
set_option maxHeartbeats 4000000 in
theorem areRoots_is (w : World) (a : Option Addr) (n c : Nat) (l : List Int) (hl : InZ w a l) (hn : l.length = n) (hN : n ≤ 17592186044415) :
    Calls Try.prog 43 #[.slice a n c] w fun e w' => e = .returned (.bool (arF 0 l)) ∧ Below w.heap.size w w' := by
  have HL : Hid (InZ w a l ∧ l.length = n) := ⟨hl, hn⟩
  obtain ⟨R, hR⟩ : ∃ R, arF 0 l = R := ⟨_, rfl⟩
  have HR : Hid (arF 0 l = R) := hR
  rw [hR]
  clear hl hn hR
  go_enter Try.func43, Try.ntmps43
  go_wp2_with fail
  go_loopg [7] n (fun g i wr => ∃ (j : Nat) (p : Int), j ≤ n ∧ g = n - j ∧ i = .int .i64 (j : Int) ∧ Hid (arF p (l.drop j) = R ∧ (j = 0 → p = 0) ∧ (0 < j → l[j - 1]? = some p) ∧ Below w.heap.size w wr))
  case atStart => exact ⟨0, 0, Nat.zero_le _, rfl, rfl, HR.out, fun _ => rfl, fun h => absurd h (Nat.lt_irrefl _), Below.refl _ _⟩
  case round =>
    obtain ⟨j, p, hj, rfl, rfl, RW⟩ := hrel
    by_cases hlt : j < n
    · have j1 : decide ((j : Int) < (n : Int)) = true := by rw [decide_eq_true_eq]; omega
      have j3 : decide (j < n) = true := by rw [decide_eq_true_eq]; omega
      have j4 : (j : Int) < (n : Int) := by omega
      have ri : IntKind.i64.wrap ((j : Int) + 1) = (j : Int) + 1 := by rw [IntKind.wrap_i64]; omega
      obtain ⟨x, hx⟩ : ∃ x, l[j]? = some x := ⟨l[j]'(by rw [HL.out.2]; exact hlt), List.getElem?_eq_getElem _⟩
      obtain ⟨b, off, rfl, hbw, c0⟩ := (HL.out.1.keep RW.out.2.2.2).at hx
      have HX : Hid ((decide (1 ≤ x) && decide (x ≤ 6) && decide (p < x) && arF x (l.drop (j + 1))) = R) := by
        have := RW.out.1
        obtain ⟨hj', e⟩ := List.getElem?_eq_some_iff.1 hx
        rw [List.drop_eq_getElem_cons hj', e] at this
        exact this
      have HXJ : Hid (l[j]? = some x) := hx
      by_cases h1 : x < 1
      · have d1 : decide (x < (1 : Int)) = true := decide_eq_true h1
        have HF : Hid (R = false) := by show _ = _; rw [← HX.out, show decide (1 ≤ x) = false from decide_eq_false (by omega)]; simp
        clear h1 hx
        go_wp2_with fail
        go_ret
        exact ⟨congrArg (fun z => Ending.returned (.bool z)) HF.out.symm, RW.out.2.2.2⟩
      · have d1 : decide (x < (1 : Int)) = false := decide_eq_false h1
        by_cases h2 : 6 < x
        · have d2 : decide ((6 : Int) < x) = true := decide_eq_true h2
          have HF : Hid (R = false) := by show _ = _; rw [← HX.out, show decide (x ≤ 6) = false from decide_eq_false (by omega)]; simp
          clear h1 h2 hx
          go_wp2_with fail
          go_ret
          exact ⟨congrArg (fun z => Ending.returned (.bool z)) HF.out.symm, RW.out.2.2.2⟩
        · have d2 : decide ((6 : Int) < x) = false := decide_eq_false h2
          by_cases h3 : j = 0
          · have hp := RW.out.2.1 h3
            have e1 : decide ((0 : Int) < (j : Int)) = false := by rw [decide_eq_false_iff_not]; omega
            have e2 : decide (0 < j) = false := by rw [decide_eq_false_iff_not]; omega
            have HX2 : Hid (arF x (l.drop (j + 1)) = R) := by
              show _ = _
              rw [← HX.out, hp, show decide (1 ≤ x) = true from decide_eq_true (by omega), show decide (x ≤ 6) = true from decide_eq_true (by omega), show decide (0 < x) = true from decide_eq_true (by omega)]
              simp
            have e3 : ¬ (0 : Int) < (j : Int) := by omega
            clear h1 h2 h3 hx hp
            go_wp2_with fail
            go_roundg (n - (j + 1))
            case measure => omega
            case rel => exact ⟨j + 1, x, by omega, rfl, by push_cast; rfl, HX2.out, fun h => absurd h (by omega), fun _ => by rw [Nat.add_sub_cancel]; exact HXJ.out, RW.out.2.2.2⟩
          · have hp := RW.out.2.2.1 (by omega)
            have e1 : decide ((0 : Int) < (j : Int)) = true := by rw [decide_eq_true_eq]; omega
            have e2 : decide (0 < j) = true := by rw [decide_eq_true_eq]; omega
            obtain ⟨m, rfl⟩ : ∃ m, j = m + 1 := ⟨j - 1, by omega⟩
            rw [Nat.add_sub_cancel] at hp
            obtain ⟨b', off', e', _, c1⟩ := (HL.out.1.keep RW.out.2.2.2).at hp
            cases e'
            have q1 : IntKind.i64.wrap (((m : Nat) : Int) + 1 - 1) = (m : Int) := by rw [IntKind.wrap_i64]; omega
            have q2 : IntKind.i64.wrap (((m + 1 : Nat) : Int) - 1) = (m : Int) := by rw [IntKind.wrap_i64]; omega
            have q3 : (m : Int) < (n : Int) := by omega
            clear h1 h2 h3 hx hp
            by_cases h4 : x ≤ p
            · have d4 : decide (x ≤ p) = true := decide_eq_true h4
              have HF : Hid (R = false) := by show _ = _; rw [← HX.out, show decide (p < x) = false from decide_eq_false (by omega)]; simp
              clear h4
              go_wp2_with fail
              go_ret
              exact ⟨congrArg (fun z => Ending.returned (.bool z)) HF.out.symm, RW.out.2.2.2⟩
            · have d4 : decide (x ≤ p) = false := decide_eq_false h4
              have HX2 : Hid (arF x (l.drop (m + 1 + 1)) = R) := by
                show _ = _
                have a1 : ¬ x < 1 := by simpa using d1
                have a2 : ¬ 6 < x := by simpa using d2
                rw [← HX.out, show decide (1 ≤ x) = true from decide_eq_true (by omega), show decide (x ≤ 6) = true from decide_eq_true (by omega), show decide (p < x) = true from decide_eq_true (by omega)]
                simp
              clear h4
              go_wp2_with fail
              go_roundg (n - (m + 1 + 1))
              case measure => omega
              case rel => exact ⟨m + 1 + 1, x, by omega, rfl, by push_cast; rfl, HX2.out, fun h => absurd h (by omega), fun _ => by rw [Nat.add_sub_cancel]; exact HXJ.out, RW.out.2.2.2⟩
    · obtain rfl : j = n := by omega
      have j1 : decide ((j : Int) < (j : Int)) = false := by rw [decide_eq_false_iff_not]; omega
      have j3 : decide (j < j) = false := by rw [decide_eq_false_iff_not]; omega
      have HF : Hid (R = true) := by
        show _ = _
        rw [← RW.out.1, List.drop_of_length_le (by rw [HL.out.2]; exact Nat.le_refl _)]
        rfl
      go_wp2_with fail
      go_ret
      exact ⟨congrArg (fun z => Ending.returned (.bool z)) HF.out.symm, RW.out.2.2.2⟩
end Go.Proofs.Ythaeidbnbgghkaa
