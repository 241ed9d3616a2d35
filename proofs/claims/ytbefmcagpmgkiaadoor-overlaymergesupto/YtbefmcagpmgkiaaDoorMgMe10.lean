/- What a stack comes to, plainly: a layer over a tree, path by path. Stacks, plainly: twice is once, a whiteout, a tree as one layer. trail.Up. overlay's maySee, isOpenAbove, sceneOf, Tree. -/
import Derived.Test.YtbefmcagpmgkiaaDoorMgMe9
import Derived.Test.YtbefmcagpmgkiaaDoorMgMe2
namespace Go.Proofs.YtbefmcagpmgkiaaDoor
set_option linter.unusedVariables false
theorem pcs_path {q : Tx} (h : isP q = true) (h0 : q ≠ []) : prt q = pcs q := by unfold prt; rw [if_pos ⟨h0, h⟩]
theorem wk_iff {q p : Tx} (hq : isP q = true) (h0 : q ≠ []) (hp : p ≠ []) : p ∈ wk q ↔ inn p q = true := by
  have hf := prt_facts q
  rw [inn_pcs p q hp]
  unfold wk
  rw [pcs_path hq h0] at hf
  rw [if_pos hq, pcs_path hq h0]
  unfold wkL
  rw [List.mem_map]
  constructor
  · rintro ⟨i, _, rfl⟩
    cases ht : (pcs q).take i with
    | nil => rw [ht] at hp; exact absurd rfl hp
    | cons a r =>
      have h2 : ∀ z ∈ a :: r, (47 : UInt8) ∉ z := fun z hz => part_nosep (hf.1 z (List.mem_of_mem_take (by rw [ht]; exact hz)))
      rw [pcs_jn a r h2, ← ht]
      exact List.take_prefix _ _
  · intro h
    refine ⟨(pcs p).length, List.mem_range.2 (by have := h.length_le; omega), ?_⟩
    rw [← List.prefix_iff_eq_take.1 h, jn_pcs]
theorem inn_refl (p : Tx) : inn p p = true := (inn_iff p p).2 (.inr (.inl rfl))
theorem inn_trans {p q r : Tx} (h1 : inn p q = true) (h2 : inn q r = true) : inn p r = true := by
  by_cases hp : p = []
  · exact (inn_iff p r).2 (.inl hp)
  · by_cases hq : q = []
    · subst hq
      rcases (inn_iff p []).1 h1 with h | h | ⟨t, h⟩
      · exact absurd h hp
      · exact absurd h.symm hp
      · simp at h
    · rw [inn_pcs _ _ hp] at *
      rw [inn_pcs _ _ hq] at h2
      exact h1.trans h2
theorem inn_anti {p q : Tx} (h1 : inn p q = true) (h2 : inn q p = true) (hp : p ≠ []) (hq : q ≠ []) : p = q := by
  rw [inn_pcs _ _ hp] at h1
  rw [inn_pcs _ _ hq] at h2
  have := h1.length_le
  have := h2.length_le
  exact pcs_inj (h1.eq_of_length (by omega))
theorem inn_line {p q r : Tx} (h1 : inn p r = true) (h2 : inn q r = true) : inn p q = true ∨ inn q p = true := by
  by_cases hp : p = []
  · exact .inl ((inn_iff p q).2 (.inl hp))
  · by_cases hq : q = []
    · exact .inr ((inn_iff q p).2 (.inl hq))
    · rw [inn_pcs _ _ hp] at *
      rw [inn_pcs _ _ hq] at *
      exact List.prefix_or_prefix_of_prefix h1 h2
theorem isP_inn {p q : Tx} (hq : isP q = true) (h : inn p q = true) : isP p = true := by
  by_cases hp : p = []
  · subst hp; rfl
  · by_cases h0 : q = []
    · subst h0
      rcases (inn_iff p []).1 h with e | e | ⟨t, e⟩
      · exact absurd e hp
      · exact absurd e.symm hp
      · simp at e
    · have hf := prt_facts q
      rw [pcs_path hq h0] at hf
      have hpre := (inn_pcs p q hp).1 h
      rw [← jn_pcs p]
      refine isP_of (fun z hz => hf.1 z (hpre.subset hz)) ?_
      have := hpre.length_le
      omega
/-- the kind of what is at a path: 0 where nothing is -/
def kd (T : Tx → Option En) (q : Tx) : Int := ((T q).getD noE).k
theorem kd_some {T : Tx → Option En} {q : Tx} {x : En} (h : T q = some x) : kd T q = x.k := by unfold kd; rw [h]; rfl
theorem kd_two {T : Tx → Option En} {q : Tx} (h : kd T q = 2) : ∃ x, T q = some x ∧ x.k = 2 := by
  unfold kd at h
  cases hq : T q with
  | none => rw [hq] at h; simp [noE, En.k] at h
  | some x => rw [hq] at h; exact ⟨x, rfl, h⟩
/-- what is there is a tree -/
structure TreeT (T : Tx → Option En) : Prop where
  own : ∀ q x, T q = some x → x.p = q
  ok : ∀ q x, T q = some x → fo x = 0 ∧ (x.k = 1 ∨ x.k = 2)
  up : ∀ q x p, T q = some x → p ≠ [] → p ≠ q → inn p q = true → kd T p = 2
theorem treeT_none : TreeT (fun _ => none) := ⟨(fun q x h => by cases h), (fun q x h => by cases h), (fun q x p h => by cases h)⟩
/-- open, path by path -/
def opnF (P : Tx) (T : Tx → Option En) : Tx → Option En := fun q => if q ≠ [] ∧ q ≠ P ∧ inn q P = true ∧ kd T q ≠ 2 then some (q, 2, 0, []) else T q
theorem openT_at (P : Tx) : ∀ (l : List Tx) (T : Tx → Option En) (q : Tx), openT P T l q = if q ∈ l ∧ q ≠ [] ∧ q ≠ P ∧ kd T q ≠ 2 then some (q, 2, 0, []) else T q
  | [], T, q => by simp [openT]
  | p :: r, T, q => by
    show openT P (opn1 P T p) r q = _
    rw [openT_at P r]
    by_cases hq : q = p
    · subst hq
      by_cases hc : q ≠ [] ∧ q ≠ P ∧ kd T q ≠ 2
      · have e : opn1 P T q q = some (q, 2, 0, []) := by unfold opn1; rw [if_pos (show q ≠ [] ∧ q ≠ P ∧ ((T q).getD noE).k ≠ 2 from hc)]; simp
        rw [if_pos (show q ∈ q :: r ∧ q ≠ [] ∧ q ≠ P ∧ kd T q ≠ 2 from ⟨by simp, hc⟩), if_neg (fun h => h.2.2.2 (kd_some e)), e]
      · have e : opn1 P T q = T := by unfold opn1; rw [if_neg (show ¬ (q ≠ [] ∧ q ≠ P ∧ ((T q).getD noE).k ≠ 2) from hc)]
        rw [e, if_neg (fun h => hc h.2), if_neg (fun h => hc h.2)]
    · have e : opn1 P T p q = T q := by unfold opn1; split <;> simp [hq]
      have e2 : kd (opn1 P T p) q = kd T q := by unfold kd; rw [e]
      rw [e, e2]
      simp [hq]
theorem openT_wk {P : Tx} (hP : isP P = true) (h0 : P ≠ []) (T : Tx → Option En) : openT P T (wk P) = opnF P T := by
  funext q
  rw [openT_at]
  unfold opnF
  by_cases hq : q = []
  · simp [hq]
  · simp only [wk_iff hP h0 hq]
    by_cases h1 : inn q P = true <;> simp [h1]
theorem opnF_kd {P : Tx} {T : Tx → Option En} {q : Tx} (h : kd T q = 2) : kd (opnF P T) q = 2 := by
  have : opnF P T q = T q := by unfold opnF; rw [if_neg (fun hh => hh.2.2.2 h)]
  unfold kd at *
  rw [this]
  exact h
theorem opnF_way {P : Tx} {T : Tx → Option En} {q : Tx} (h0 : q ≠ []) (h1 : q ≠ P) (h2 : inn q P = true) : kd (opnF P T) q = 2 := by
  by_cases h : kd T q = 2
  · exact opnF_kd h
  · have : opnF P T q = some (q, 2, 0, []) := by unfold opnF; rw [if_pos ⟨h0, h1, h2, h⟩]
    exact kd_some this
theorem fo_dir {q : Tx} (h0 : q ≠ []) (h : isP q = true) : fo (q, 2, 0, []) = 0 := by
  simp [fo, En.p, En.k, En.m, En.b, h0, h]
theorem fo_turn {x : En} (hx : fo x = 0) (e : x.k = 4) : fo (x.p, 2, x.m, x.b) = 0 := by
  obtain ⟨⟨h0, hP⟩, hk, hm, hb, hbl⟩ := fo_all hx
  have hb0 := hb (by omega)
  obtain ⟨p, k, m, b⟩ := x
  simp only [En.p, En.k, En.m, En.b] at *
  subst hb0
  have h1 : ¬ (m < 0 ∨ 511 < m) := by omega
  simp [fo, En.p, En.k, En.m, En.b, h0, hP, h1]
theorem TreeT.opn {T : Tx → Option En} (h : TreeT T) {P : Tx} (hP : isP P = true) : TreeT (opnF P T) := by
  refine ⟨fun q x hx => ?_, fun q x hx => ?_, fun q x p hx hp hpq hin => ?_⟩
  · unfold opnF at hx
    split at hx
    · cases hx; rfl
    · exact h.own q x hx
  · unfold opnF at hx
    split at hx
    · rename_i hc
      cases hx
      exact ⟨fo_dir hc.1 (isP_inn hP hc.2.2.1), .inr rfl⟩
    · exact h.ok q x hx
  · unfold opnF at hx
    split at hx
    · rename_i hc
      refine opnF_way hp (fun e => ?_) (inn_trans hin hc.2.2.1)
      subst e
      exact hpq (inn_anti hin hc.2.2.1 hp hc.1)
    · exact opnF_kd (h.up q x p hx hp hpq hin)
theorem dropT_at {T : Tx → Option En} (h : TreeT T) {p : Tx} (hp : p ≠ []) : dropT T p = fun q => if inn p q = true then none else T q := by
  funext q
  unfold dropT
  by_cases hk : ((T p).getD noE).k = 2
  · rw [if_pos hk]
  · rw [if_neg hk]
    by_cases hq : q = p
    · subst hq
      rw [if_pos rfl, if_pos (inn_refl q)]
    · rw [if_neg hq]
      split
      · rename_i hin
        cases hT : T q with
        | none => rfl
        | some x => exact absurd (h.up q x p hT hp (fun e => hq e.symm) hin) hk
      · rfl
theorem TreeT.cut {T : Tx → Option En} (h : TreeT T) {p : Tx} : TreeT (fun q => if inn p q = true then none else T q) := by
  have hs : ∀ q x, (if inn p q = true then none else T q) = some x → inn p q = false ∧ T q = some x := fun q x hx => by
    split at hx
    · cases hx
    · rename_i hn
      exact ⟨by simpa using hn, hx⟩
  refine ⟨fun q x hx => h.own q x (hs q x hx).2, fun q x hx => h.ok q x (hs q x hx).2, fun q x r hx hr hrq hin => ?_⟩
  obtain ⟨h1, h2⟩ := hs q x hx
  have h3 := h.up q x r h2 hr hrq hin
  have h4 : inn p r = false := by
    cases hh : inn p r with
    | false => rfl
    | true => rw [inn_trans hh hin] at h1; exact absurd h1 (by simp)
  show ((if inn p r = true then none else T r).getD noE).k = 2
  rw [if_neg (by simp [h4])]
  exact h3
theorem TreeT.set {T : Tx → Option En} (h : TreeT T) {x : En} (hx : fo x = 0) (hk : x.k = 1 ∨ x.k = 2) (hway : ∀ p, p ≠ [] → p ≠ x.p → inn p x.p = true → kd T p = 2) (hbel : x.k = 1 → ∀ q, q ≠ x.p → inn x.p q = true → T q = none) : TreeT (fun q => if q = x.p then some x else T q) := by
  have hp0 := (fo_path hx).1
  refine ⟨fun q y hy => ?_, fun q y hy => ?_, fun q y r hy hr hrq hin => ?_⟩
  · try dsimp only at hy
    split at hy
    · rename_i e; cases hy; exact e.symm
    · exact h.own q y hy
  · try dsimp only at hy
    split at hy
    · cases hy; exact ⟨hx, hk⟩
    · exact h.ok q y hy
  · try dsimp only at hy
    have hset : ∀ z, z ≠ x.p → kd (fun q => if q = x.p then some x else T q) z = kd T z := fun z hz => by unfold kd; dsimp only; rw [if_neg hz]
    split at hy
    · rename_i e
      subst e
      rw [hset r hrq]
      exact hway r hr hrq hin
    · rename_i e
      by_cases hrx : r = x.p
      · subst hrx
        rcases hk with h1 | h1
        · rw [hbel h1 q e hin] at hy; cases hy
        · unfold kd; dsimp only; rw [if_pos rfl]; exact h1
      · rw [hset r hrx]
        exact h.up q y r hy hr hrq hin
/-- put, path by path -/
theorem putT_at {T : Tx → Option En} (h : TreeT T) {x : En} (hx : fo x = 0) :
    putT T x = if x.k = 3 then (fun q => if inn x.p q = true then none else T q) else if x.k = 2 then (fun q => if q = x.p then some x else opnF x.p T q) else (fun q => if q = x.p then some (if x.k = 4 then (x.p, 2, x.m, x.b) else x) else if inn x.p q = true then none else opnF x.p T q) := by
  obtain ⟨⟨h0, hP⟩, hk, _⟩ := fo_all hx
  unfold putT
  rw [openT_wk hP h0, dropT_at h h0, dropT_at (h.opn hP) h0]
  rcases (by omega : x.k = 1 ∨ x.k = 2 ∨ x.k = 3 ∨ x.k = 4) with e | e | e | e <;> simp [e]
theorem TreeT.put {T : Tx → Option En} (h : TreeT T) {x : En} (hx : fo x = 0) : TreeT (putT T x) := by
  obtain ⟨⟨h0, hP⟩, hk, hm, hb, hbl⟩ := fo_all hx
  rw [putT_at h hx]
  have ho : TreeT (opnF x.p T) := h.opn hP
  have hw : ∀ p, p ≠ [] → p ≠ x.p → inn p x.p = true → kd (opnF x.p T) p = 2 := fun p h1 h2 h3 => opnF_way h1 h2 h3
  have hwc : ∀ p, p ≠ [] → p ≠ x.p → inn p x.p = true → kd (fun q => if inn x.p q = true then none else opnF x.p T q) p = 2 := fun p h1 h2 h3 => by
    unfold kd
    dsimp only
    rw [if_neg (fun e => h2 (inn_anti h3 e h1 h0))]
    exact hw p h1 h2 h3
  split
  · exact h.cut
  · split
    · rename_i e
      exact ho.set hx (.inr e) hw (fun e1 => by omega)
    · split
      · rename_i e3 e2 e4
        have hx4 : fo (x.p, 2, x.m, x.b) = 0 := fo_turn hx e4
        exact (ho.cut (p := x.p)).set (x := (x.p, 2, x.m, x.b)) hx4 (.inr rfl) hwc (fun e => by simp [En.k] at e)
      · rename_i e3 e2 e4
        exact (ho.cut (p := x.p)).set hx (.inl (by omega)) hwc (fun _ q hq hin => if_pos hin)
/-- the entry of a layer at a path -/
def ent (l : List En) (q : Tx) : Option En := l.find? (fun x => decide (x.p = q))
/-- what layers below have at a path is not seen -/
def hid (l : List En) (q : Tx) : Bool := l.any (fun x => inn x.p q && !decide (x.k = 2))
/-- something of the layer lies below a path -/
def way (l : List En) (q : Tx) : Bool := l.any (fun x => inn q x.p && !decide (x.k = 3))
def vla (x : En) : Option En := if x.k = 3 then none else some (if x.k = 4 then (x.p, 2, x.m, x.b) else x)
def kO (o : Option En) : Int := (o.getD noE).k
theorem kO_dir (q : Tx) : kO (some (q, 2, 0, [])) = 2 := rfl
/-- what is left of what there was -/
def bs (l : List En) (q : Tx) (o : Option En) : Option En := if hid l q = true then none else o
/-- a directory where something lies below and none is -/
def dr (i : Bool) (q : Tx) (o : Option En) : Option En := if (i && !decide (kO o = 2)) = true then some (q, 2, 0, []) else o
/-- what is seen at a path over what there was -/
def lay (l : List En) (q : Tx) (o : Option En) : Option En := dr (way l q) q (bs l q o)
theorem dr_false (q : Tx) (o : Option En) : dr false q o = o := rfl
theorem dr_dr (i j : Bool) (q : Tx) (o : Option En) : dr j q (dr i q o) = dr (i || j) q o := by
  unfold dr
  by_cases h : kO o = 2
  · simp [h]
  · cases i <;> cases j <;> simp [h, kO_dir]
def seenL (T : Tx → Option En) (l : List En) (q : Tx) : Option En :=
  match ent l q with
  | some x => vla x
  | none => lay l q (T q)
theorem ent_snoc (l : List En) (x : En) (q : Tx) : ent (l ++ [x]) q = (ent l q).or (if x.p = q then some x else none) := by
  unfold ent
  rw [List.find?_append]
  congr 1
  by_cases h : x.p = q <;> simp [h]
theorem hid_snoc (l : List En) (x : En) (q : Tx) : hid (l ++ [x]) q = (hid l q || (inn x.p q && !decide (x.k = 2))) := by simp [hid]
theorem way_snoc (l : List En) (x : En) (q : Tx) : way (l ++ [x]) q = (way l q || (inn q x.p && !decide (x.k = 3))) := by simp [way]
theorem ent_some {l : List En} {q : Tx} {x : En} (h : ent l q = some x) : x ∈ l ∧ x.p = q := ⟨List.mem_of_find?_eq_some h, by simpa using List.find?_some h⟩
theorem not_inn {x y : En} (h : les y.p x.p = true) : inn x.p y.p = false := by
  cases hh : inn x.p y.p with
  | false => rfl
  | true =>
    by_cases e : x.p = y.p
    · rw [e, les_irr] at h; cases h
    · have := les_trans _ _ _ h (inn_les _ _ hh e)
      rw [les_irr] at this
      cases this
theorem put3 {T : Tx → Option En} (h : TreeT T) {x : En} (hx : fo x = 0) (e : x.k = 3) (q : Tx) : putT T x q = if inn x.p q = true then none else T q := by rw [putT_at h hx, if_pos e]
theorem put2 {T : Tx → Option En} (h : TreeT T) {x : En} (hx : fo x = 0) (e : x.k = 2) (q : Tx) : putT T x q = if q = x.p then some x else opnF x.p T q := by rw [putT_at h hx, if_neg (by omega), if_pos e]
theorem put14 {T : Tx → Option En} (h : TreeT T) {x : En} (hx : fo x = 0) (e : x.k ≠ 3) (e2 : x.k ≠ 2) (q : Tx) : putT T x q = if q = x.p then some (if x.k = 4 then (x.p, 2, x.m, x.b) else x) else if inn x.p q = true then none else opnF x.p T q := by rw [putT_at h hx, if_neg e, if_neg e2]
theorem opnF_dr {P : Tx} {T : Tx → Option En} {q : Tx} (h0 : q ≠ []) (h1 : q ≠ P) : opnF P T q = dr (inn q P) q (T q) := by
  unfold opnF dr
  have e : kd T q = kO (T q) := rfl
  rw [e]
  cases inn q P <;> simp [h0, h1]
/-- one entry more over a tree that l has made -/
theorem step_seen {T T' : Tx → Option En} {l : List En} {x : En} (hT : TreeT T') (he : ∀ q, q ≠ [] → T' q = seenL T l q) (hx : fo x = 0) (hl : ∀ y ∈ l, fb y x = 0) (q : Tx) (hq : q ≠ []) : putT T' x q = seenL T (l ++ [x]) q := by
  obtain ⟨⟨h0, hP⟩, hk, _⟩ := fo_all hx
  have hni : ∀ y ∈ l, inn x.p y.p = false := fun y hy => not_inn ((fb_iff y x).1 (hl y hy)).1
  have hent : ∀ y, ent l q = some y → inn x.p q = false ∧ q ≠ x.p ∧ (inn q x.p = true → y.k ≠ 1 ∧ y.k ≠ 3) := fun y hy => by
    obtain ⟨h1, h2⟩ := ent_some hy
    have h3 := hni y h1
    rw [h2] at h3
    refine ⟨h3, fun e => ?_, fun hin => ?_⟩
    · rw [e, inn_refl] at h3; cases h3
    · have h4 := ((fb_iff y x).1 (hl y h1)).2
      rw [h2, hin] at h4
      simpa [shutB] using h4
  have hway : way l q = true → inn x.p q = false := fun h => by
    obtain ⟨y, hy, h2⟩ := List.any_eq_true.1 h
    simp at h2
    cases hh : inn x.p q with
    | false => rfl
    | true => rw [← hni y hy, inn_trans hh h2.1]
  have hwn : inn x.p q = true → way l q = false := fun h => by
    cases hh : way l q with
    | false => rfl
    | true => rw [hway hh] at h; cases h
  have hseen := he q hq
  unfold seenL at hseen ⊢
  rw [ent_snoc]
  cases hy : ent l q with
  | some y =>
    obtain ⟨h1, h2, h3⟩ := hent y hy
    rw [hy] at hseen
    simp only [Option.some_or] at hseen ⊢
    have hop : opnF x.p T' q = T' q := by
      unfold opnF
      rw [if_neg]
      rintro ⟨_, _, hin, hkd⟩
      obtain ⟨g1, g3⟩ := h3 hin
      apply hkd
      have hv : T' q = some (if y.k = 4 then (y.p, 2, y.m, y.b) else y) := by rw [hseen]; unfold vla; rw [if_neg g3]
      rw [kd_some hv]
      have := (hT.ok q _ hv).2
      by_cases h4 : y.k = 4
      · rw [if_pos h4]; rfl
      · rw [if_neg h4] at this ⊢
        omega
    rw [← hseen]
    have h1' : ¬ inn x.p q = true := by simp [h1]
    by_cases e3 : x.k = 3
    · rw [put3 hT hx e3, if_neg h1']
    · by_cases e2 : x.k = 2
      · rw [put2 hT hx e2, if_neg h2, hop]
      · rw [put14 hT hx e3 e2, if_neg h2, if_neg h1', hop]
  | none =>
    rw [hy] at hseen
    simp only [Option.none_or] at hseen ⊢
    by_cases hqx : q = x.p
    · rw [if_pos hqx.symm]
      show _ = vla x
      unfold vla
      by_cases e3 : x.k = 3
      · rw [put3 hT hx e3, if_pos e3, hqx, if_pos (inn_refl _)]
      · rw [if_neg e3]
        by_cases e2 : x.k = 2
        · rw [put2 hT hx e2, if_pos hqx, if_neg (by omega)]
        · rw [put14 hT hx e3 e2, if_pos hqx]
    · rw [if_neg (fun e => hqx e.symm)]
      show _ = lay (l ++ [x]) q (T q)
      have hop : opnF x.p T' q = dr (way l q || inn q x.p) q (bs l q (T q)) := by
        rw [opnF_dr hq hqx, hseen]
        unfold lay
        rw [dr_dr]
      unfold lay bs
      unfold bs at hop
      rw [hid_snoc, way_snoc]
      cases hnx : inn x.p q with
      | true =>
        have hw := hwn hnx
        have hqn : inn q x.p = false := by
          cases hh : inn q x.p with
          | false => rfl
          | true => exact absurd (inn_anti hh hnx hq h0) hqx
        rw [hw, hqn]
        by_cases e3 : x.k = 3
        · rw [put3 hT hx e3, if_pos hnx]
          simp [e3, dr_false]
        · by_cases e2 : x.k = 2
          · rw [put2 hT hx e2, if_neg hqx, hop, hw, hqn]
            simp [e2]
          · rw [put14 hT hx e3 e2, if_neg hqx, if_pos hnx]
            simp [e2, dr_false]
      | false =>
        have hnx' : ¬ inn x.p q = true := by simp [hnx]
        by_cases e3 : x.k = 3
        · rw [put3 hT hx e3, if_neg hnx', hseen]
          unfold lay bs
          simp [e3]
        · have e3' : decide (x.k = 3) = false := by simpa using e3
          by_cases e2 : x.k = 2
          · rw [put2 hT hx e2, if_neg hqx, hop, e3']
            simp
          · rw [put14 hT hx e3 e2, if_neg hqx, if_neg hnx', hop, e3']
            simp
end Go.Proofs.YtbefmcagpmgkiaaDoor
namespace Go.Proofs.YtbefmcagpmgkiaaDoor
set_option linter.unusedVariables false
theorem TreeT.root {T : Tx → Option En} (h : TreeT T) : T [] = none := by
  cases hT : T [] with
  | none => rfl
  | some x => exact absurd (h.own _ _ hT) (fo_path (h.ok _ _ hT).1).1
theorem seenL_nil (T : Tx → Option En) (q : Tx) : seenL T [] q = T q := rfl
theorem mgT_snoc (T : Tx → Option En) (l : List En) (x : En) : mgT T (l ++ [x]) = putT (mgT T l) x := by simp [mgT]
theorem pairwise_snoc {l : List En} {x : En} (h : (l ++ [x]).Pairwise (fun y x => fb y x = 0)) : l.Pairwise (fun y x => fb y x = 0) ∧ ∀ y ∈ l, fb y x = 0 := by
  rw [List.pairwise_append] at h
  exact ⟨h.1, fun y hy => h.2.2 y hy x (by simp)⟩
theorem mgT_seen0 {T : Tx → Option En} (hT : TreeT T) (n : Nat) : ∀ (l : List En), l.length = n → (∀ x ∈ l, fo x = 0) → l.Pairwise (fun y x => fb y x = 0) → TreeT (mgT T l) ∧ ∀ q, q ≠ [] → mgT T l q = seenL T l q := by
  induction n with
  | zero =>
    intro l hl _ _
    have : l = [] := List.length_eq_zero_iff.1 hl
    subst this
    exact ⟨hT, fun q _ => (seenL_nil T q).symm⟩
  | succ n ih =>
    intro l hl hf hp
    have hne : l ≠ [] := fun e => by rw [e] at hl; simp at hl
    obtain ⟨m, x, rfl⟩ : ∃ m x, l = m ++ [x] := ⟨l.dropLast, l.getLast hne, (List.dropLast_concat_getLast hne).symm⟩
    obtain ⟨hp1, hp2⟩ := pairwise_snoc hp
    obtain ⟨h1, h2⟩ := ih m (by simpa using hl) (fun y hy => hf y (by simp [hy])) hp1
    rw [mgT_snoc]
    have hx := hf x (by simp)
    exact ⟨h1.put hx, fun q hq => step_seen h1 h2 hx hp2 q hq⟩
theorem mgT_tree {T : Tx → Option En} (hT : TreeT T) {l : List En} (hl : (chk l).2 = 0) : TreeT (mgT T l) := by
  obtain ⟨_, h1, h2⟩ := (chk_iff l).1 hl
  exact (mgT_seen0 hT _ l rfl h1 h2).1
theorem mgT_seen {T : Tx → Option En} (hT : TreeT T) {l : List En} (hl : (chk l).2 = 0) (q : Tx) (hq : q ≠ []) : mgT T l q = seenL T l q := by
  obtain ⟨_, h1, h2⟩ := (chk_iff l).1 hl
  exact (mgT_seen0 hT _ l rfl h1 h2).2 q hq
theorem mg_app (a b : List (List En)) : mg (a ++ b) = b.foldl mgT (mg a) := by simp [mg]
theorem foldl_tree : ∀ (st : List (List En)) (T : Tx → Option En), TreeT T → (∀ l ∈ st, (chk l).2 = 0) → TreeT (st.foldl mgT T)
  | [], T, h, _ => h
  | l :: r, T, h, hc => foldl_tree r _ (mgT_tree h (hc l (by simp))) (fun m hm => hc m (by simp [hm]))
theorem mg_tree {st : List (List En)} (h : ∀ l ∈ st, (chk l).2 = 0) : TreeT (mg st) := foldl_tree st _ treeT_none h
/-- twice is once -/
theorem mgT_twice {T : Tx → Option En} (hT : TreeT T) {l : List En} (hl : (chk l).2 = 0) : mgT (mgT T l) l = mgT T l := by
  have h1 := mgT_tree hT hl
  have h2 := mgT_tree h1 hl
  funext q
  by_cases hq : q = []
  · subst hq
    rw [h2.root, h1.root]
  · rw [mgT_seen h1 hl q hq]
    unfold seenL
    rw [mgT_seen hT hl q hq]
    unfold seenL
    cases ent l q with
    | some x => rfl
    | none =>
      show lay l q (lay l q (T q)) = lay l q (T q)
      unfold lay
      cases hh : hid l q with
      | true => simp [bs, hh]
      | false => simp only [bs, hh, Bool.false_eq_true, if_false]; rw [dr_dr]; simp
/-- an empty layer changes nothing -/
theorem mgT_nil (T : Tx → Option En) : mgT T [] = T := rfl
/-- a whiteout -/
theorem mgT_white {T : Tx → Option En} (hT : TreeT T) {p : Tx} (h0 : p ≠ []) (hP : isP p = true) : mgT T [(p, 3, 0, [])] = fun q => if inn p q = true then none else T q := by
  funext q
  have hx : fo (p, 3, 0, []) = 0 := by simp [fo, En.p, En.k, En.m, En.b, h0, hP]
  show putT T (p, 3, 0, []) q = _
  rw [put3 hT hx rfl]
  rfl
/-- lists that rise and have the same are the same -/
theorem lst_eq {T : Tx → Option En} {a b : List En} (ha : Lst T a) (hb : Lst T b) : a = b := by
  have hnd : ∀ {l : List En}, l.Pairwise (fun x y => les x.p y.p = true) → l.Nodup := fun h => pw_mono (fun _ _ _ _ h1 e => by subst e; rw [les_irr] at h1; cases h1) h
  have hp : a.Perm b := (List.perm_ext_iff_of_nodup (hnd ha.rise) (hnd hb.rise)).2 (fun x => by rw [ha.mem, hb.mem])
  refine hp.eq_of_pairwise (le := fun x y : En => les x.p y.p = true) (fun x y hx hy h1 h2 => ?_) ha.rise hb.rise
  have := les_trans _ _ _ h1 h2
  rw [les_irr] at this
  cases this
theorem Lst.of_eq {T T' : Tx → Option En} {l : List En} (h : Lst T l) (e : T = T') : Lst T' l := e ▸ h
/-- a tree as a list may be a layer -/
theorem lst_chk {T : Tx → Option En} (hT : TreeT T) {l : List En} (hl : Lst T l) (h64 : l.length ≤ 64) : (chk l).2 = 0 := by
  refine (chk_iff l).2 ⟨h64, fun x hx => (hT.ok _ _ ((hl.mem x).1 hx)).1, ?_⟩
  refine pw_mono ?_ hl.rise
  intro x y hx hy hlt
  rw [fb_iff]
  refine ⟨hlt, ?_⟩
  cases hin : inn x.p y.p with
  | false => simp
  | true =>
    have hx' := (hl.mem x).1 hx
    have hne : x.p ≠ y.p := fun e => by rw [e, les_irr] at hlt; cases hlt
    have := hT.up _ _ x.p ((hl.mem y).1 hy) (fo_path (hT.ok _ _ hx').1).1 hne hin
    rw [kd_some hx'] at this
    simp [shutB, this]
/-- it comes to the tree -/
theorem lst_mg {T : Tx → Option En} (hT : TreeT T) {l : List En} (hl : Lst T l) (h64 : l.length ≤ 64) : mgT (fun _ => none) l = T := by
  have hc := lst_chk hT hl h64
  funext q
  by_cases hq : q = []
  · subst hq
    rw [(mgT_tree treeT_none hc).root, hT.root]
  · rw [mgT_seen treeT_none hc q hq]
    unfold seenL
    cases he : ent l q with
    | some x =>
      obtain ⟨h1, h2⟩ := ent_some he
      have h3 := (hl.mem x).1 h1
      have h4 := (hT.ok _ _ h3).2
      show vla x = T q
      unfold vla
      rw [if_neg (by omega), if_neg (by omega), ← h2, h3]
    | none =>
      have hTq : T q = none := by
        cases hh : T q with
        | none => rfl
        | some x =>
          have h1 := hT.own _ _ hh
          have h2 : x ∈ l := (hl.mem x).2 (by rw [h1]; exact hh)
          have := List.find?_eq_none.1 he x h2
          simp [h1] at this
      have hw : way l q = false := by
        cases hw : way l q with
        | false => rfl
        | true =>
          obtain ⟨y, hy, h2⟩ := List.any_eq_true.1 hw
          simp at h2
          have h3 := (hl.mem y).1 hy
          by_cases e : q = y.p
          · rw [← e] at h3; rw [hTq] at h3; cases h3
          · have := hT.up _ _ q h3 hq e h2.1
            unfold kd at this
            rw [hTq] at this
            simp [noE, En.k] at this
      show lay l q none = T q
      unfold lay
      rw [hw, dr_false, hTq]
      unfold bs
      split <;> rfl
end Go.Proofs.YtbefmcagpmgkiaaDoor
namespace Go.Proofs.YtbefmcagpmgkiaaDoor
open Go.ChangeShapes Go.WideShapes Go.ChangeAt Go.RowKit Go.Deep
set_option linter.unusedVariables false
theorem up_is (L : Tx) (hl : L.length ≤ 281474976710656) (w : World) :
    Calls Tryd.prog 24 #[.string (tx L)] w fun e w' => e = .returned (.tuple #[.string (tx (jn (prt L).dropLast)), .bool (!(prt L).isEmpty)]) ∧ Below w.heap.size w w' := by
  have K : Hid (Calls Tryd.prog 25 #[.string (tx L)] w fun e w' => ∃ v, e = .returned v ∧ Sl w' w.heap.size v (prt L) ∧ Below w.heap.size w w') := parts_is L hl w
  have HF : Hid ((∀ p ∈ prt L, isPart p = true) ∧ (prt L).length ≤ 8) := prt_facts L
  generalize prt L = l at *
  go_enter Tryd.func24, Tryd.ntmps24
  go_wp2_with fail
  refine K.out.mono ?_
  rintro e w' ⟨v, rfl, hs, hw⟩
  have HW : Hid (Below w.heap.size w w') := hw
  rcases hs with ⟨rfl, rfl⟩ | ⟨g, hg1, hg2, rfl, hg⟩
  · clear hw K
    go_wp2_with fail
    go_ret2
    exact ⟨rfl, HW.out⟩
  · have HG : Hid (w'.heap[g]? = some (.cells (sA l) 9)) := hg
    clear hw K hg
    by_cases h0 : l = []
    · subst h0
      go_wp2_with fail
      go_ret2
      exact ⟨rfl, HW.out⟩
    · have hlp : 0 < l.length := List.length_pos_iff.2 h0
      have h8 := HF.out.2
      have HIE : Hid (l.isEmpty = false) := by show _ = _; simp [h0]
      have hd : l.dropLast.length = l.length - 1 := List.length_dropLast
      have hpl : ∀ p ∈ l.dropLast, isPart p = true := fun p hp => HF.out.1 p (List.dropLast_subset _ hp)
      have hjl := jn_le8 hpl (by omega)
      have KJ : Hid (Calls Tryd.prog 41 #[.slice (some ⟨g, 0, none⟩) (l.length - 1) l.length, .string ⟨#[47]⟩] w' fun e w2 => e = .returned (.string (tx (jn l.dropLast))) ∧ Below w'.heap.size w' w2) :=
        join_is g 0 l.length l.dropLast (l.length - 1) hd w' (fun j x hx => by
          rw [Nat.zero_add]
          refine Sl.cell (base := 0) (n := 0) (c := 0) HG.out j x ?_
          have hj := (List.getElem?_eq_some_iff.1 hx).1
          rw [List.dropLast_eq_take, List.getElem?_take] at hx
          split at hx
          · exact hx
          · simp at hx) hg2 (by omega) (by omega) (by omega)
      have i1 : ¬ ((l.length : Nat) : Int) = 0 := by omega
      have i2 : (0 : Int) ≤ ((l.length : Nat) : Int) - 1 := by omega
      have i3 : ((l.length : Nat) : Int) - 1 ≤ ((l.length : Nat) : Int) := by omega
      have i4 : (((l.length : Nat) : Int) - 1).toNat = l.length - 1 := by omega
      clear hpl hjl h0
      go_wp2_with fail
      refine KJ.out.mono ?_
      rintro e w2 ⟨rfl, hb2⟩
      have B2 : Hid (Below w.heap.size w w2) := HW.out.trans (hb2.mono HW.out.size)
      clear hb2 KJ
      go_wp2_with fail
      go_ret2
      refine ⟨?_, B2.out⟩
      rw [HIE.out]
      rfl
end Go.Proofs.YtbefmcagpmgkiaaDoor
namespace Go.Proofs.YtbefmcagpmgkiaaDoor
open Go.ChangeShapes Go.WideShapes Go.ChangeAt Go.RowKit Go.Deep Go.Maps
set_option linter.unusedVariables false
/-- may a tree have an entry -/
def mS (x : En) : Bool := (decide (x.k = 1) || decide (x.k = 2)) && decide (fo x = 0)
theorem chk_one (x : En) : ((chk [x]).2 = 0) ↔ fo x = 0 := by
  rw [chk_iff]
  simp
theorem mS_yes {x : En} {r : Int} (hk : x.k = 1 ∨ x.k = 2) (h : r = 0 ↔ fo x = 0) : mS x = (r == 0) := by
  have e1 : (decide (x.k = 1) || decide (x.k = 2)) = true := by rcases hk with e | e <;> rw [e] <;> rfl
  unfold mS
  rw [e1, Bool.true_and]
  apply Bool.eq_iff_iff.2
  rw [decide_eq_true_iff, beq_iff_eq]
  exact h.symm
theorem mS_no {x : En} (hk : ¬ (x.k = 1 ∨ x.k = 2)) : mS x = false := by
  have e1 : (decide (x.k = 1) || decide (x.k = 2)) = false := by
    rw [Bool.or_eq_false_iff, decide_eq_false_iff_not, decide_eq_false_iff_not]
    exact ⟨fun e => hk (.inl e), fun e => hk (.inr e)⟩
  unfold mS
  rw [e1, Bool.false_and]
set_option maxRecDepth 100000 in
set_option maxHeartbeats 4000000 in
theorem maySee_is (x : En) (hx : x.p.length ≤ 140737488355328 ∧ x.b.length ≤ 140737488355328) (w : World) :
    Calls Tryd.prog 58 #[ag x] w fun e w' => e = .returned (.bool (mS x)) ∧ Below w.heap.size w w' := by
  have KC : Hid (∀ (w : World) (g : Nat), InE w (some ⟨g, 0, none⟩) [x] → Calls Tryd.prog 26 #[.slice (some ⟨g, 0, none⟩) 1 1] w fun e w' => e = .returned (.tuple #[.int .i64 ((chk [x]).1 : Nat), .int .i64 (chk [x]).2]) ∧ Below w.heap.size w w') := fun w g h => check_is [x] 1 rfl (by omega) (fun y hy => by simp at hy; subst hy; exact hx) _ 1 w h
  have HC : Hid ((chk [x]).2 = 0 ↔ fo x = 0) := chk_one x
  obtain ⟨p, k, m, B⟩ := x
  obtain ⟨S, hS⟩ : ∃ S, S = mS (p, k, m, B) := ⟨_, rfl⟩
  rw [← hS]
  have HS : Hid (S = mS (p, k, m, B)) := hS
  generalize hr : chk [(p, k, m, B)] = r at *
  clear hS hr hx
  unfold ag
  simp only [En.p, En.k, En.m, En.b]
  obtain ⟨w1, hw1⟩ : ∃ w1, w1 = (w.alloc (.cells #[.string (tx p), .int .i64 k, .int .i64 m, .string (tx B)] 34)).alloc (.cells #[.string (tx p), .int .i64 k, .int .i64 m, .string (tx B)] 34) := ⟨_, rfl⟩
  have B1 : Hid (Below w.heap.size w w1) := by rw [hw1]; exact below2 _ _ _
  have I1 : Hid (InE w1 (some ⟨w.heap.size + 1, 0, none⟩) [(p, k, m, B)]) := by
    refine .inr ⟨w.heap.size + 1, 0, rfl, by rw [hw1]; simp, fun i x hx => ?_⟩
    have hi : i = 0 := by
      have := (List.getElem?_eq_some_iff.1 hx).1
      simpa using this
    subst hi
    simp at hx
    subst hx
    exact ec_cells (w := w1) (g := w.heap.size + 1) (t := 34) (by rw [hw1]; exact heap2 _ _ _)
  have HW1 : Hid (w1 = (w.alloc (.cells #[.string (tx p), .int .i64 k, .int .i64 m, .string (tx B)] 34)).alloc (.cells #[.string (tx p), .int .i64 k, .int .i64 m, .string (tx B)] 34)) := hw1
  clear hw1
  by_cases hk : k = 1 ∨ k = 2
  · have HS2 : Hid (S = (r.2 == 0)) := by show _ = _; rw [HS.out]; exact mS_yes hk HC.out
    rw [HS2.out]
    clear HS HS2 HC
    rcases hk with rfl | rfl
    · go_enter Tryd.func58, Tryd.ntmps58
      go_wp2_with fail
      rw [show World.alloc _ _ = w1 from HW1.out.symm]
      refine (KC.out w1 _ I1.out).mono ?_
      rintro e w2 ⟨rfl, hb2⟩
      have B2 : Hid (Below w.heap.size w w2) := B1.out.trans (hb2.mono B1.out.size)
      clear hb2
      go_wp2_with fail
      go_ret
      exact ⟨rfl, B2.out⟩
    · go_enter Tryd.func58, Tryd.ntmps58
      go_wp2_with fail
      rw [show World.alloc _ _ = w1 from HW1.out.symm]
      refine (KC.out w1 _ I1.out).mono ?_
      rintro e w2 ⟨rfl, hb2⟩
      have B2 : Hid (Below w.heap.size w w2) := B1.out.trans (hb2.mono B1.out.size)
      clear hb2
      go_wp2_with fail
      go_ret
      exact ⟨rfl, B2.out⟩
  · have HS2 : Hid (S = false) := by show _ = _; rw [HS.out]; exact mS_no hk
    rw [HS2.out]
    have k1 : (k == 1) = false := by simpa using fun e => hk (.inl e)
    have k2 : (k == 2) = false := by simpa using fun e => hk (.inr e)
    have k1n : (k != 1) = true := by simpa using fun e => hk (.inl e)
    have k2n : (k != 2) = true := by simpa using fun e => hk (.inr e)
    clear HS HS2 HC hk KC
    go_enter Tryd.func58, Tryd.ntmps58
    go_wp2_with fail
    go_ret
    exact ⟨rfl, (Below.refl _ _).alloc (Nat.le_refl _) _⟩
/-- is what is above a path the root, or a directory -/
def upP (q : Tx) : Tx := jn (prt q).dropLast
def oA (T : Tx → Option En) (q : Tx) : Bool := decide (upP q = []) || decide (kd T (upP q) = 2)
theorem upP_len (q : Tx) : (upP q).length ≤ 200 := by
  have hf := prt_facts q
  unfold upP
  exact jn_le8 (fun p hp => hf.1 p (List.dropLast_subset _ hp)) (by rw [List.length_dropLast]; omega)
set_option maxRecDepth 100000 in
set_option maxHeartbeats 4000000 in
theorem isOpenAbove_is (w : World) (b n : Nat) (T : Tx → Option En) (q : Tx) (hq : q.length ≤ 281474976710656) (hs : Sc w b n T) :
    Calls Tryd.prog 40 #[.map (some b), .string (tx q)] w fun e w' => e = .returned (.bool (oA T q)) ∧ Below w.heap.size w w' := by
  have KU : Hid (Calls Tryd.prog 24 #[.string (tx q)] w fun e w' => e = .returned (.tuple #[.string (tx (upP q)), .bool (!(prt q).isEmpty)]) ∧ Below w.heap.size w w') := up_is q hq w
  have HS : Hid (Sc w b n T) := hs
  have hul := upP_len q
  obtain ⟨S, hS⟩ : ∃ S, S = oA T q := ⟨_, rfl⟩
  rw [← hS]
  have HO : Hid (S = (decide (upP q = []) || decide (kd T (upP q) = 2))) := hS
  have hfk := field_kind
  clear hs hS
  generalize upP q = u at *
  generalize (!(prt q).isEmpty) = bb at *
  go_enter Tryd.func40, Tryd.ntmps40
  go_wp2_with fail
  refine KU.out.mono ?_
  rintro e w1 ⟨rfl, hb1⟩
  have B1 : Hid (Below w.heap.size w w1) := hb1
  have hlook := (HS.out.keep hb1).look u (by omega)
  clear hb1 KU
  by_cases hu : u = []
  · subst hu
    have e0 : (tx []).toList = [] := tx_toList []
    have HO2 : Hid (S = true) := by show _ = _; rw [HO.out]; rfl
    go_wp2_with fail
    go_ret
    refine ⟨?_, B1.out⟩
    rw [HO2.out]
    rfl
  · have hte := tx_toList u
    have hue : u.isEmpty = false := by simpa using hu
    have HO2 : Hid (S = (kd T u == 2)) := by
      show _ = _
      rw [HO.out, decide_eq_false hu, Bool.false_or]
      apply Bool.eq_iff_iff.2
      rw [decide_eq_true_iff, beq_iff_eq]
    unfold kd at HO2
    clear HO
    generalize (T u).getD noE = z at *
    obtain ⟨zp, zk, zm, zb⟩ := z
    have HO3 : Hid (S = (zk == 2)) := HO2
    simp only [ag, En.p, En.k, En.m, En.b] at hlook
    clear HO2
    go_wp2_with fail
    go_ret
    refine ⟨?_, B1.out⟩
    rw [HO3.out]
    try rfl
end Go.Proofs.YtbefmcagpmgkiaaDoor
