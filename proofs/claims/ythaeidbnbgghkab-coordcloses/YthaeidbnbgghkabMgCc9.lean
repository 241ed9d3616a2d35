/- A coordinator in memory: transactions, their map; what turns and what stays. -/
import Derived.Test.YthaeidbnbgghkabMgCc8
namespace Go.Proofs.Ythaeidbnbgghkab
open Go.ChangeShapes Go.WideShapes Go.ChangeAt Go.RowKit Go.Deep Go.Maps
set_option linter.unusedVariables false
set_option linter.unusedSimpArgs false
/-- where a stack's packages and their layers lie -/
def SkF (a : Option Addr) (M : List Pk) (k : Nat) : Prop := (∃ q, a = some q ∧ q.block = k) ∨ ∃ x ∈ M, ∃ q, x.la = some q ∧ q.block = k
theorem NewSt.keptF {w w' : World} {z : Nat} {a : Option Addr} {n c : Nat} {M : List Pk} (h : NewSt w z a n c M) (hs : w.heap.size ≤ w'.heap.size) (hb : ∀ k, SkF a M k → w'.heap[k]? = w.heap[k]?) : NewSt w' z a n c M := by
  have hfr : ∀ y ∈ M, ∀ q, y.la = some q → w'.heap[q.block]? = w.heap[q.block]? := fun y hy q hq => hb _ (.inr ⟨y, hy, q, hq, rfl⟩)
  have hp : ∀ x ∈ M, PkOk w' x := fun x hx => by
    have p := (h.st.pk x hx).1
    exact ⟨p.inr.kept hs (fun q hq _ => hfr x hx q hq), p.len, p.le, p.big, p.dg, p.sn, p.sv⟩
  have ho : OwnPk w' z (.slice a n c) M := h.own.kept fun k hk' => by
    rcases h.own.2 with ⟨h1, _⟩ | ⟨g, cap, cur, h1, _, hg, _⟩
    · rw [h1] at hk'; cases hk'
    · rw [h1] at hk'
      cases hk'
      injection h1 with e1
      exact hb _ (.inl ⟨_, e1, rfl⟩)
  obtain ⟨h1, h2, h3, h4, h5⟩ := own_at ho hp
  exact ⟨⟨h1, h2, h5, h3, h4, h.st.big, fun x hx => ⟨hp x hx, (h.st.pk x hx).2⟩⟩, ho, fun y hy q hq => by
    obtain ⟨k1, cs, hc⟩ := h.fr y hy q hq
    exact ⟨k1, cs, (hfr y hy q hq).trans hc⟩⟩
/-- a stack's blocks hold packages and references -/
theorem NewSt.typ {w : World} {z : Nat} {a : Option Addr} {n c : Nat} {M : List Pk} (h : NewSt w z a n c M) : ∀ k, SkF a M k → z ≤ k ∧ k < w.heap.size ∧ ∃ cs t, w.heap[k]? = some (.cells cs t) ∧ (t = 80 ∨ t = 85) := by
  intro k hk
  rcases hk with ⟨q, hq, rfl⟩ | ⟨x, hx, q, hq, rfl⟩
  · rcases h.own.2 with ⟨h1, _⟩ | ⟨g, cap, cur, h1, hz, hg, _⟩
    · injection h1 with e1
      rw [hq] at e1
      cases e1
    · injection h1 with e1
      rw [hq] at e1
      cases e1
      exact ⟨hz, lt_of_heapK hg, cur, _, hg, .inl rfl⟩
  · obtain ⟨k1, cs, hc⟩ := h.fr x hx q hq
    exact ⟨k1, lt_of_heapK hc, cs, _, hc, .inr rfl⟩
structure Tr where
  st : Int
  age : Int
  rts : List Int
  lk : List (Int × List Pc)
/-- an open transaction in a block (y.1), its lacking ones in another (y.2) -/
def TrAt (w : World) (F : Nat → Prop) (y : Nat × Option Nat) (q : Int) (x : Tr) : Prop := ∃ vr vl P, w.heap[y.1]? = some (.cells #[.int .i64 q, .int .i64 x.st, .int .i64 x.age, vr, vl] 51) ∧ vl.ownBlock = y.2 ∧ OwnZ w 0 vr x.rts ∧ OwnPv w 0 vl P ∧ (∀ p ∈ P, NewSt w 0 p.a p.n p.c p.M) ∧ P.map (fun p => (p.r, p.co)) = x.lk ∧ F y.1 ∧ (∀ k, vr.ownBlock = some k → F k) ∧ (∀ k, y.2 = some k → F k) ∧ ∀ p ∈ P, ∀ k, SkF p.a p.M k → F k
theorem TrAt.kept {w w' : World} {F : Nat → Prop} {y : Nat × Option Nat} {q : Int} {x : Tr} (h : TrAt w F y q x) (hs : w.heap.size ≤ w'.heap.size) (hb : ∀ k, F k → w'.heap[k]? = w.heap[k]?) : TrAt w' F y q x := by
  obtain ⟨vr, vl, P, h1, h2, h3, h4, h5, h6, h7, h8, h9, h10⟩ := h
  exact ⟨vr, vl, P, (hb _ h7).trans h1, h2, h3.kept (fun k hk => hb k (h8 k hk)), h4.kept (fun k hk => hb k (h9 k (h2 ▸ hk))), fun p hp => (h5 p hp).keptF hs (fun k hk => hb k (h10 p hp k hk)), h6, h7, h8, h9, h10⟩
theorem TrAt.sub {w : World} {F F' : Nat → Prop} {y : Nat × Option Nat} {q : Int} {x : Tr} (h : TrAt w F y q x) (hF : ∀ k, F k → F' k) : TrAt w F' y q x := by
  obtain ⟨vr, vl, P, h1, h2, h3, h4, h5, h6, h7, h8, h9, h10⟩ := h
  exact ⟨vr, vl, P, h1, h2, h3, h4, h5, h6, hF _ h7, fun k hk => hF k (h8 k hk), fun k hk => hF k (h9 k hk), fun p hp k hk => hF k (h10 p hp k hk)⟩
theorem ownZ_typ {w : World} {z : Nat} {v : Value} {l : List Int} (h : OwnZ w z v l) {k : Nat} (hk : v.ownBlock = some k) : ∃ cs, w.heap[k]? = some (.cells cs 3) := by
  rcases h.2 with ⟨h1, _⟩ | ⟨g, cap, cur, h1, _, hg, _⟩
  · rw [h1] at hk; cases hk
  · rw [h1] at hk; cases hk; exact ⟨cur, hg⟩
theorem ownPv_typ {w : World} {z : Nat} {v : Value} {l : List Pv} (h : OwnPv w z v l) {k : Nat} (hk : v.ownBlock = some k) : ∃ cs, w.heap[k]? = some (.cells cs 55) := by
  rcases h.2 with ⟨h1, _⟩ | ⟨g, cap, cur, h1, _, hg, _⟩
  · rw [h1] at hk; cases hk
  · rw [h1] at hk; cases hk; exact ⟨cur, hg⟩
/-- blocks that may turn: of transactions, and of rows of plans -/
def Trn (w : World) (D : Nat → Prop) : Prop := ∀ k, D k → ∃ cs t, w.heap[k]? = some (.cells cs t) ∧ (t = 51 ∨ t = 55)
theorem TrAt.other {w w' : World} {F D : Nat → Prop} {y : Nat × Option Nat} {q : Int} {x : Tr} (h : TrAt w F y q x) (hD : Trn w D) (h1 : ¬ D y.1) (h2 : ∀ k, y.2 = some k → ¬ D k) (hs : w.heap.size ≤ w'.heap.size) (hb : ∀ k, F k → ¬ D k → w'.heap[k]? = w.heap[k]?) : TrAt w' F y q x := by
  obtain ⟨vr, vl, P, k1, k2, k3, k4, k5, k6, k7, k8, k9, k10⟩ := h
  have hn : ∀ k cs t, w.heap[k]? = some (Obj.cells cs t) → t ≠ 51 → t ≠ 55 → ¬ D k := fun k cs t hk n1 n2 hd => by
    obtain ⟨cs', t', e, ht⟩ := hD k hd
    rw [hk] at e
    cases e
    rcases ht with ht | ht
    · exact n1 ht
    · exact n2 ht
  refine ⟨vr, vl, P, (hb _ k7 h1).trans k1, k2, k3.kept (fun k hk => ?_), k4.kept (fun k hk => hb k (k9 k (k2 ▸ hk)) (h2 k (k2 ▸ hk))), fun p hp => (k5 p hp).keptF hs (fun k hk => ?_), k6, k7, k8, k9, k10⟩
  · obtain ⟨cs, hc⟩ := ownZ_typ k3 hk
    exact hb k (k8 k hk) (hn k cs _ hc (by decide) (by decide))
  · obtain ⟨_, _, cs, t, hc, ht⟩ := (k5 p hp).typ k hk
    refine hb k (k10 p hp k hk) (hn k cs t hc ?_ ?_) <;> rcases ht with rfl | rfl <;> decide
/-- a coordinator and what it knows -/
structure Cd (w : World) (F : Nat → Prop) (b : Nat) (lim : Int) (n m : Nat) (B : Int → Option (Nat × Option Nat)) (X : Int → Option Tr) : Prop where
  box : CoB w b lim (some m)
  map : ScP w m n (fun q => (B q).map fun y => some y.1)
  fb : F b
  fm : F m
  lt : ∀ k, F k → k < w.heap.size
  each : ∀ q x, X q = some x → InI q ∧ ∃ y, B q = some y ∧ TrAt w F y q x
  no : ∀ q, X q = none → B q = none
  inj1 : ∀ q q' y y', B q = some y → B q' = some y' → y.1 = y'.1 → q = q'
  inj2 : ∀ q q' y y' k, B q = some y → B q' = some y' → y.2 = some k → y'.2 = some k → q = q'
theorem Cd.kept {w w' : World} {F : Nat → Prop} {b : Nat} {lim : Int} {n m : Nat} {B : Int → Option (Nat × Option Nat)} {X : Int → Option Tr} (h : Cd w F b lim n m B X) (hs : w.heap.size ≤ w'.heap.size) (hb : ∀ k, F k → w'.heap[k]? = w.heap[k]?) : Cd w' F b lim n m B X :=
  ⟨(hb b h.fb).trans h.box, h.map.blk (hb m h.fm), h.fb, h.fm, fun k hk => Nat.lt_of_lt_of_le (h.lt k hk) hs, fun q x hx => by
    obtain ⟨h1, y, h2, h3⟩ := h.each q x hx
    exact ⟨h1, y, h2, h3.kept hs hb⟩, h.no, h.inj1, h.inj2⟩
theorem Cd.keep {w w' : World} {F : Nat → Prop} {b : Nat} {lim : Int} {n m : Nat} {B : Int → Option (Nat × Option Nat)} {X : Int → Option Tr} (h : Cd w F b lim n m B X) (hb : Below w.heap.size w w') : Cd w' F b lim n m B X := h.kept hb.size (fun k hk => hb.block k (h.lt k hk))
theorem Cd.at {w : World} {F : Nat → Prop} {b : Nat} {lim : Int} {n m : Nat} {B : Int → Option (Nat × Option Nat)} {X : Int → Option Tr} (h : Cd w F b lim n m B X) {q : Int} {y : Nat × Option Nat} (hy : B q = some y) : ∃ x, X q = some x ∧ TrAt w F y q x := by
  cases e : X q with
  | none => rw [h.no q e] at hy; cases hy
  | some x =>
    obtain ⟨_, y', h2, h3⟩ := h.each q x e
    rw [hy] at h2
    cases h2
    exact ⟨x, rfl, h3⟩
/-- the map is no row of cells -/
theorem ScP.noCells {w : World} {b n : Nat} {T : Int → Option (Option Nat)} (h : ScP w b n T) {cs : Array Value} {t : TypeId} (hc : w.heap[b]? = some (.cells cs t)) : False := by
  obtain ⟨D, h1, _⟩ := h
  obtain ⟨es, clock, hm, _⟩ := h1
  rw [hc] at hm
  cases hm
def updB (B : Int → Option (Nat × Option Nat)) (q : Int) (y : Nat × Option Nat) : Int → Option (Nat × Option Nat) := fun p => if p = q then some y else B p
def updX (X : Int → Option Tr) (q : Int) (x : Tr) : Int → Option Tr := fun p => if p = q then some x else X p
def delX (X : Int → Option Tr) (q : Int) : Int → Option Tr := fun p => if p = q then none else X p
/-- one transaction turns -/
theorem Cd.turn {w u : World} {F F' : Nat → Prop} {b : Nat} {lim : Int} {n m : Nat} {B : Int → Option (Nat × Option Nat)} {X : Int → Option Tr} (h : Cd w F b lim n m B X) {q : Int} {y y' : Nat × Option Nat} (hy : B q = some y) (hs : w.heap.size ≤ u.heap.size) (hsub : ∀ k, F k → F' k) (hlt : ∀ k, F' k → k < u.heap.size) (hb : ∀ k, F k → k ≠ y.1 → y.2 ≠ some k → u.heap[k]? = w.heap[k]?) (h1 : y'.1 = y.1) (h2 : y'.2 = y.2 ∨ ∀ k, y'.2 = some k → w.heap.size ≤ k) {x' : Tr} (ht : TrAt u F' y' q x') : Cd u F' b lim n m (updB B q y') (updX X q x') := by
  obtain ⟨x0, hx0, ht0⟩ := h.at hy
  have hxq : InI q := (h.each q x0 hx0).1
  have hD : Trn w (fun k => k = y.1 ∨ y.2 = some k) := by
    obtain ⟨vr, vl, P, k1, k2, k3, k4, _⟩ := ht0
    rintro k (rfl | hk)
    · exact ⟨_, _, k1, .inl rfl⟩
    · obtain ⟨cs, hc⟩ := ownPv_typ k4 (k2 ▸ hk)
      exact ⟨_, _, hc, .inr rfl⟩
  have hno : ∀ k, k = y.1 ∨ y.2 = some k → ∃ cs t, w.heap[k]? = some (.cells cs t) ∧ (t = 51 ∨ t = 55) := hD
  have hstay : ∀ k, F k → ¬ (k = y.1 ∨ y.2 = some k) → u.heap[k]? = w.heap[k]? := fun k hk hn => hb k hk (fun e => hn (.inl e)) (fun e => hn (.inr e))
  refine ⟨?_, ?_, hsub _ h.fb, hsub _ h.fm, hlt, fun p x hx => ?_, fun p hp => ?_, fun p p' z z' hz hz' e => ?_, fun p p' z z' k hz hz' e e' => ?_⟩
  · refine (hstay b h.fb (fun hd => ?_)).trans h.box
    obtain ⟨cs, t, hc, ht'⟩ := hno b hd
    have hbx := h.box
    unfold CoB at hbx
    rw [hbx] at hc
    cases hc
    rcases ht' with e | e <;> exact absurd e (by decide)
  · have hm := h.map.blk (hstay m h.fm (fun hd => by
      obtain ⟨cs, t, hc, _⟩ := hno m hd
      exact h.map.noCells hc))
    have e : (fun p => (updB B q y' p).map fun y => some y.1) = fun p => (B p).map fun y => some y.1 := by
      funext p
      unfold updB
      by_cases hp : p = q
      · subst hp
        rw [if_pos rfl, hy]
        simp [h1]
      · rw [if_neg hp]
    rw [e]
    exact hm
  · unfold updX at hx
    unfold updB
    by_cases hp : p = q
    · subst hp
      rw [if_pos rfl] at hx ⊢
      cases hx
      exact ⟨hxq, y', rfl, ht⟩
    · rw [if_neg hp] at hx ⊢
      obtain ⟨i1, z, i2, i3⟩ := h.each p x hx
      exact ⟨i1, z, i2, (i3.other hD (by
        rintro (e | e)
        · exact hp (h.inj1 p q z y i2 hy e)
        · obtain ⟨vr, vl, P, k1, k2, k3, k4, _⟩ := ht0
          obtain ⟨vr', vl', P', j1, _⟩ := i3
          obtain ⟨cs, hc⟩ := ownPv_typ k4 (k2 ▸ e)
          rw [j1] at hc
          cases hc) (fun k hk hd => by
        rcases hd with e | e
        · obtain ⟨vr, vl, P, k1, _⟩ := ht0
          obtain ⟨vr', vl', P', j1, j2, j3, j4, _⟩ := i3
          obtain ⟨cs, hc⟩ := ownPv_typ j4 (j2 ▸ hk)
          rw [e, k1] at hc
          cases hc
        · exact hp (h.inj2 p q z y k i2 hy hk e)) hs hstay).sub hsub⟩
  · unfold updX at hp
    unfold updB
    by_cases e : p = q
    · rw [if_pos e] at hp; cases hp
    · rw [if_neg e] at hp ⊢
      exact h.no p hp
  · unfold updB at hz hz'
    by_cases e1 : p = q <;> by_cases e2 : p' = q
    · rw [e1, e2]
    · rw [if_pos e1] at hz; rw [if_neg e2] at hz'
      cases hz
      rw [e1]
      exact h.inj1 q p' y z' hy hz' (by rw [← h1, e])
    · rw [if_neg e1] at hz; rw [if_pos e2] at hz'
      cases hz'
      rw [e2]
      exact h.inj1 p q z y hz hy (by rw [e, h1])
    · rw [if_neg e1] at hz; rw [if_neg e2] at hz'
      exact h.inj1 p p' z z' hz hz' e
  · have hfz : ∀ p z, B p = some z → ∀ k, z.2 = some k → k < w.heap.size := fun p z hz k hk => by
      obtain ⟨_, _, _, _, _, _, _, _, _, _, _, _, _, h9, _⟩ := h.at hz
      exact h.lt k (h9 k hk)
    unfold updB at hz hz'
    by_cases e1 : p = q <;> by_cases e2 : p' = q
    · rw [e1, e2]
    · rw [if_pos e1] at hz; rw [if_neg e2] at hz'
      cases hz
      rcases h2 with h2 | h2
      · rw [e1]
        exact h.inj2 q p' y z' k hy hz' (by rw [← h2, e]) e'
      · have := h2 k e
        have := hfz p' z' hz' k e'
        omega
    · rw [if_neg e1] at hz; rw [if_pos e2] at hz'
      cases hz'
      rcases h2 with h2 | h2
      · rw [e2]
        exact h.inj2 p q z y k hz hy e (by rw [← h2, e'])
      · have := h2 k e'
        have := hfz p z hz k e
        omega
    · rw [if_neg e1] at hz; rw [if_neg e2] at hz'
      exact h.inj2 p p' z z' k hz hz' e e'
/-- a transaction is known -/
theorem Cd.put {w v u : World} {F F' : Nat → Prop} {b : Nat} {lim : Int} {n m : Nat} {B : Int → Option (Nat × Option Nat)} {X : Int → Option Tr} (h : Cd w F b lim n m B X) {q : Int} (hq : InI q) (hB : B q = none) {y' : Nat × Option Nat} (hv : Below w.heap.size w v) (hsub : ∀ k, F k → F' k) (hlt : ∀ k, F' k → k < u.heap.size) (hg : v.grownBy u (some m)) (hmap : ScP u m (n + 1) (fun p => if p = q then some (some y'.1) else (B p).map fun y => some y.1)) (h1 : w.heap.size ≤ y'.1) (h2 : ∀ k, y'.2 = some k → w.heap.size ≤ k) {x' : Tr} (ht : TrAt v F' y' q x') (hm' : ∀ k, F' k → k = m ∨ k < v.heap.size) (hmn : ∀ k, F' k → k = m → F k) : Cd u F' b lim (n + 1) m (updB B q y') (updX X q x') := by
  have hmw : m < w.heap.size := h.lt m h.fm
  have hstay : ∀ k, F k → k ≠ m → u.heap[k]? = w.heap[k]? := fun k hk hn => (hg.block k (Nat.lt_of_lt_of_le (h.lt k hk) hv.size) (fun e => hn (by cases e; rfl))).trans (hv.block k (h.lt k hk))
  have hnm : ∀ cs t, w.heap[m]? ≠ some (.cells cs t) := fun cs t hc => h.map.noCells hc
  have hsu : w.heap.size ≤ u.heap.size := Nat.le_trans hv.size hg.size
  have tk : ∀ (w0 : World) (G : Nat → Prop) (y : Nat × Option Nat) (p : Int) (x : Tr), TrAt w0 G y p x → ∀ w1 : World, w0.heap.size ≤ w1.heap.size → (∀ k, (∃ cs t, w0.heap[k]? = some (.cells cs t)) → G k → w1.heap[k]? = w0.heap[k]?) → TrAt w1 G y p x := fun w0 G y p x hT w1 hs hb => by
    obtain ⟨vr, vl, P, k1, k2, k3, k4, k5, k6, k7, k8, k9, k10⟩ := hT
    refine ⟨vr, vl, P, (hb _ ⟨_, _, k1⟩ k7).trans k1, k2, k3.kept (fun k hk => ?_), k4.kept (fun k hk => ?_), fun p hp => (k5 p hp).keptF hs (fun k hk => ?_), k6, k7, k8, k9, k10⟩
    · obtain ⟨cs, hc⟩ := ownZ_typ k3 hk
      exact hb k ⟨_, _, hc⟩ (k8 k hk)
    · obtain ⟨cs, hc⟩ := ownPv_typ k4 hk
      exact hb k ⟨_, _, hc⟩ (k9 k (k2 ▸ hk))
    · obtain ⟨_, _, cs, t, hc, _⟩ := (k5 p hp).typ k hk
      exact hb k ⟨_, _, hc⟩ (k10 p hp k hk)
  have hmv : ∀ cs t, v.heap[m]? ≠ some (.cells cs t) := fun cs t hc => hnm cs t ((hv.block m hmw).symm.trans hc)
  refine ⟨(hstay b h.fb (fun e => ?_)).trans h.box, ?_, hsub _ h.fb, hsub _ h.fm, hlt, fun p x hx => ?_, fun p hp => ?_, fun p p' z z' hz hz' e => ?_, fun p p' z z' k hz hz' e e' => ?_⟩
  · have hbx := h.box
    unfold CoB at hbx
    rw [e] at hbx
    exact hnm _ _ hbx
  · have e : (fun p => (updB B q y' p).map fun y => some y.1) = fun p => if p = q then some (some y'.1) else (B p).map fun y => some y.1 := by
      funext p
      unfold updB
      by_cases hp : p = q
      · rw [if_pos hp, if_pos hp]; rfl
      · rw [if_neg hp, if_neg hp]
    rw [e]
    exact hmap
  · unfold updX at hx
    unfold updB
    by_cases hp : p = q
    · subst hp
      rw [if_pos rfl] at hx ⊢
      cases hx
      refine ⟨hq, y', rfl, tk v F' y' p x' ht u hg.size (fun k hc hk => hg.block k ?_ (fun e => ?_))⟩
      · obtain ⟨cs, t, hc⟩ := hc
        exact lt_of_heapK hc
      · cases e
        obtain ⟨cs, t, hc⟩ := hc
        exact hmv cs t hc
    · rw [if_neg hp] at hx ⊢
      obtain ⟨i1, z, i2, i3⟩ := h.each p x hx
      exact ⟨i1, z, i2, (tk w F z p x i3 u hsu (fun k hc hk => hstay k hk (fun e => by
        obtain ⟨cs, t, hc⟩ := hc
        rw [e] at hc
        exact hnm cs t hc))).sub hsub⟩
  · unfold updX at hp
    unfold updB
    by_cases e : p = q
    · rw [if_pos e] at hp; cases hp
    · rw [if_neg e] at hp ⊢
      exact h.no p hp
  · have hfz : ∀ p z, B p = some z → z.1 < w.heap.size := fun p z hz => by
      obtain ⟨_, _, _, _, _, _, _, _, _, _, _, h7, _⟩ := h.at hz
      exact h.lt _ h7
    unfold updB at hz hz'
    by_cases e1 : p = q <;> by_cases e2 : p' = q
    · rw [e1, e2]
    · rw [if_pos e1] at hz; rw [if_neg e2] at hz'
      cases hz
      have := hfz p' z' hz'
      omega
    · rw [if_neg e1] at hz; rw [if_pos e2] at hz'
      cases hz'
      have := hfz p z hz
      omega
    · rw [if_neg e1] at hz; rw [if_neg e2] at hz'
      exact h.inj1 p p' z z' hz hz' e
  · have hfz : ∀ p z, B p = some z → ∀ k, z.2 = some k → k < w.heap.size := fun p z hz k hk => by
      obtain ⟨_, _, _, _, _, _, _, _, _, _, _, _, _, h9, _⟩ := h.at hz
      exact h.lt k (h9 k hk)
    unfold updB at hz hz'
    by_cases e1 : p = q <;> by_cases e2 : p' = q
    · rw [e1, e2]
    · rw [if_pos e1] at hz; rw [if_neg e2] at hz'
      cases hz
      have := h2 k e
      have := hfz p' z' hz' k e'
      omega
    · rw [if_neg e1] at hz; rw [if_pos e2] at hz'
      cases hz'
      have := h2 k e'
      have := hfz p z hz k e
      omega
    · rw [if_neg e1] at hz; rw [if_neg e2] at hz'
      exact h.inj2 p p' z z' k hz hz' e e'
/-- a transaction is not known any more -/
theorem Cd.del {w u : World} {F : Nat → Prop} {b : Nat} {lim : Int} {n m : Nat} {B : Int → Option (Nat × Option Nat)} {X : Int → Option Tr} (h : Cd w F b lim n m B X) {q : Int} (hg : w.grownBy u (some m)) (hmap : ScP u m n (fun p => if p = q then none else (B p).map fun y => some y.1)) : Cd u F b lim n m (fun p => if p = q then none else B p) (delX X q) := by
  have hnm : ∀ cs t, w.heap[m]? ≠ some (.cells cs t) := fun cs t hc => h.map.noCells hc
  have hstay : ∀ k, F k → k ≠ m → u.heap[k]? = w.heap[k]? := fun k hk hn => hg.block k (h.lt k hk) (fun e => hn (by cases e; rfl))
  refine ⟨(hstay b h.fb (fun e => ?_)).trans h.box, ?_, h.fb, h.fm, fun k hk => Nat.lt_of_lt_of_le (h.lt k hk) hg.size, fun p x hx => ?_, fun p hp => ?_, fun p p' z z' hz hz' e => ?_, fun p p' z z' k hz hz' e e' => ?_⟩
  · have hbx := h.box
    unfold CoB at hbx
    rw [e] at hbx
    exact hnm _ _ hbx
  · have e : (fun p => ((fun p => if p = q then none else B p) p).map fun y : Nat × Option Nat => some y.1) = fun p => if p = q then none else (B p).map fun y => some y.1 := by
      funext p
      by_cases hp : p = q
      · simp [hp]
      · simp [hp]
    rw [e]
    exact hmap
  · unfold delX at hx
    by_cases hp : p = q
    · rw [if_pos hp] at hx; cases hx
    · rw [if_neg hp] at hx
      simp only [if_neg hp]
      obtain ⟨i1, z, i2, i3⟩ := h.each p x hx
      refine ⟨i1, z, i2, ?_⟩
      obtain ⟨vr, vl, P, k1, k2, k3, k4, k5, k6, k7, k8, k9, k10⟩ := i3
      have hb : ∀ k cs t, w.heap[k]? = some (Obj.cells cs t) → F k → u.heap[k]? = w.heap[k]? := fun k cs t hc hk => hstay k hk (fun e => hnm cs t (e ▸ hc))
      refine ⟨vr, vl, P, (hb _ _ _ k1 k7).trans k1, k2, k3.kept (fun k hk => ?_), k4.kept (fun k hk => ?_), fun p hp => (k5 p hp).keptF hg.size (fun k hk => ?_), k6, k7, k8, k9, k10⟩
      · obtain ⟨cs, hc⟩ := ownZ_typ k3 hk
        exact hb k _ _ hc (k8 k hk)
      · obtain ⟨cs, hc⟩ := ownPv_typ k4 hk
        exact hb k _ _ hc (k9 k (k2 ▸ hk))
      · obtain ⟨_, _, cs, t, hc, _⟩ := (k5 p hp).typ k hk
        exact hb k _ _ hc (k10 p hp k hk)
  · unfold delX at hp
    by_cases e : p = q
    · simp [e]
    · rw [if_neg e] at hp
      simp only [if_neg e]
      exact h.no p hp
  · by_cases e1 : p = q
    · simp [e1] at hz
    · by_cases e2 : p' = q
      · simp [e2] at hz'
      · simp only [if_neg e1] at hz
        simp only [if_neg e2] at hz'
        exact h.inj1 p p' z z' hz hz' e
  · by_cases e1 : p = q
    · simp [e1] at hz
    · by_cases e2 : p' = q
      · simp [e2] at hz'
      · simp only [if_neg e1] at hz
        simp only [if_neg e2] at hz'
        exact h.inj2 p p' z z' k hz hz' e e'
end Go.Proofs.Ythaeidbnbgghkab
