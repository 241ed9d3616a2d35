/- What a stack comes to, plainly: a layer over a tree, path by path. -/
import Derived.Test.YtbefmcagpmgkiaaDoorOvM
namespace Go.Proofs.YtbefmcagpmgkiaaDoor
set_option linter.unusedVariables false
theorem pcs_path {q : Tx} (h : isP q = true) (h0 : q ≠ []) : prt q = pcs q := by unfold prt; rw [if_pos ⟨h0, h⟩]
theorem wk_iff {q p : Tx} (hq : isP q = true) (h0 : q ≠ []) (hp : p ≠ []) : p ∈ wk q ↔ inn p q = true := by
  have hf := prt_facts q
  rw [inn_pcs p q hp]
  unfold wk
  rw [pcs_path hq h0] at hf
  rw [if_pos hq, pcs_path hq h0]
  unfold wkL
  rw [List.mem_map]
  constructor
  · rintro ⟨i, _, rfl⟩
    cases ht : (pcs q).take i with
    | nil => rw [ht] at hp; exact absurd rfl hp
    | cons a r =>
      have h2 : ∀ z ∈ a :: r, (47 : UInt8) ∉ z := fun z hz => part_nosep (hf.1 z (List.mem_of_mem_take (by rw [ht]; exact hz)))
      rw [pcs_jn a r h2, ← ht]
      exact List.take_prefix _ _
  · intro h
    refine ⟨(pcs p).length, List.mem_range.2 (by have := h.length_le; omega), ?_⟩
    rw [← List.prefix_iff_eq_take.1 h, jn_pcs]
theorem inn_refl (p : Tx) : inn p p = true := (inn_iff p p).2 (.inr (.inl rfl))
theorem inn_trans {p q r : Tx} (h1 : inn p q = true) (h2 : inn q r = true) : inn p r = true := by
  by_cases hp : p = []
  · exact (inn_iff p r).2 (.inl hp)
  · by_cases hq : q = []
    · subst hq
      rcases (inn_iff p []).1 h1 with h | h | ⟨t, h⟩
      · exact absurd h hp
      · exact absurd h.symm hp
      · simp at h
    · rw [inn_pcs _ _ hp] at *
      rw [inn_pcs _ _ hq] at h2
      exact h1.trans h2
theorem inn_anti {p q : Tx} (h1 : inn p q = true) (h2 : inn q p = true) (hp : p ≠ []) (hq : q ≠ []) : p = q := by
  rw [inn_pcs _ _ hp] at h1
  rw [inn_pcs _ _ hq] at h2
  have := h1.length_le
  have := h2.length_le
  exact pcs_inj (h1.eq_of_length (by omega))
theorem inn_line {p q r : Tx} (h1 : inn p r = true) (h2 : inn q r = true) : inn p q = true ∨ inn q p = true := by
  by_cases hp : p = []
  · exact .inl ((inn_iff p q).2 (.inl hp))
  · by_cases hq : q = []
    · exact .inr ((inn_iff q p).2 (.inl hq))
    · rw [inn_pcs _ _ hp] at *
      rw [inn_pcs _ _ hq] at *
      exact List.prefix_or_prefix_of_prefix h1 h2
theorem isP_inn {p q : Tx} (hq : isP q = true) (h : inn p q = true) : isP p = true := by
  by_cases hp : p = []
  · subst hp; rfl
  · by_cases h0 : q = []
    · subst h0
      rcases (inn_iff p []).1 h with e | e | ⟨t, e⟩
      · exact absurd e hp
      · exact absurd e.symm hp
      · simp at e
    · have hf := prt_facts q
      rw [pcs_path hq h0] at hf
      have hpre := (inn_pcs p q hp).1 h
      rw [← jn_pcs p]
      refine isP_of (fun z hz => hf.1 z (hpre.subset hz)) ?_
      have := hpre.length_le
      omega
/-- the kind of what is at a path: 0 where nothing is -/
def kd (T : Tx → Option En) (q : Tx) : Int := ((T q).getD noE).k
theorem kd_some {T : Tx → Option En} {q : Tx} {x : En} (h : T q = some x) : kd T q = x.k := by unfold kd; rw [h]; rfl
theorem kd_two {T : Tx → Option En} {q : Tx} (h : kd T q = 2) : ∃ x, T q = some x ∧ x.k = 2 := by
  unfold kd at h
  cases hq : T q with
  | none => rw [hq] at h; simp [noE, En.k] at h
  | some x => rw [hq] at h; exact ⟨x, rfl, h⟩
/-- what is there is a tree -/
structure TreeT (T : Tx → Option En) : Prop where
  own : ∀ q x, T q = some x → x.p = q
  ok : ∀ q x, T q = some x → fo x = 0 ∧ (x.k = 1 ∨ x.k = 2)
  up : ∀ q x p, T q = some x → p ≠ [] → p ≠ q → inn p q = true → kd T p = 2
theorem treeT_none : TreeT (fun _ => none) := ⟨(fun q x h => by cases h), (fun q x h => by cases h), (fun q x p h => by cases h)⟩
/-- open, path by path -/
def opnF (P : Tx) (T : Tx → Option En) : Tx → Option En := fun q => if q ≠ [] ∧ q ≠ P ∧ inn q P = true ∧ kd T q ≠ 2 then some (q, 2, 0, []) else T q
theorem openT_at (P : Tx) : ∀ (l : List Tx) (T : Tx → Option En) (q : Tx), openT P T l q = if q ∈ l ∧ q ≠ [] ∧ q ≠ P ∧ kd T q ≠ 2 then some (q, 2, 0, []) else T q
  | [], T, q => by simp [openT]
  | p :: r, T, q => by
    show openT P (opn1 P T p) r q = _
    rw [openT_at P r]
    by_cases hq : q = p
    · subst hq
      by_cases hc : q ≠ [] ∧ q ≠ P ∧ kd T q ≠ 2
      · have e : opn1 P T q q = some (q, 2, 0, []) := by unfold opn1; rw [if_pos (show q ≠ [] ∧ q ≠ P ∧ ((T q).getD noE).k ≠ 2 from hc)]; simp
        rw [if_pos (show q ∈ q :: r ∧ q ≠ [] ∧ q ≠ P ∧ kd T q ≠ 2 from ⟨by simp, hc⟩), if_neg (fun h => h.2.2.2 (kd_some e)), e]
      · have e : opn1 P T q = T := by unfold opn1; rw [if_neg (show ¬ (q ≠ [] ∧ q ≠ P ∧ ((T q).getD noE).k ≠ 2) from hc)]
        rw [e, if_neg (fun h => hc h.2), if_neg (fun h => hc h.2)]
    · have e : opn1 P T p q = T q := by unfold opn1; split <;> simp [hq]
      have e2 : kd (opn1 P T p) q = kd T q := by unfold kd; rw [e]
      rw [e, e2]
      simp [hq]
theorem openT_wk {P : Tx} (hP : isP P = true) (h0 : P ≠ []) (T : Tx → Option En) : openT P T (wk P) = opnF P T := by
  funext q
  rw [openT_at]
  unfold opnF
  by_cases hq : q = []
  · simp [hq]
  · simp only [wk_iff hP h0 hq]
    by_cases h1 : inn q P = true <;> simp [h1]
theorem opnF_kd {P : Tx} {T : Tx → Option En} {q : Tx} (h : kd T q = 2) : kd (opnF P T) q = 2 := by
  have : opnF P T q = T q := by unfold opnF; rw [if_neg (fun hh => hh.2.2.2 h)]
  unfold kd at *
  rw [this]
  exact h
theorem opnF_way {P : Tx} {T : Tx → Option En} {q : Tx} (h0 : q ≠ []) (h1 : q ≠ P) (h2 : inn q P = true) : kd (opnF P T) q = 2 := by
  by_cases h : kd T q = 2
  · exact opnF_kd h
  · have : opnF P T q = some (q, 2, 0, []) := by unfold opnF; rw [if_pos ⟨h0, h1, h2, h⟩]
    exact kd_some this
theorem fo_dir {q : Tx} (h0 : q ≠ []) (h : isP q = true) : fo (q, 2, 0, []) = 0 := by
  simp [fo, En.p, En.k, En.m, En.b, h0, h]
theorem fo_turn {x : En} (hx : fo x = 0) (e : x.k = 4) : fo (x.p, 2, x.m, x.b) = 0 := by
  obtain ⟨⟨h0, hP⟩, hk, hm, hb, hbl⟩ := fo_all hx
  have hb0 := hb (by omega)
  obtain ⟨p, k, m, b⟩ := x
  simp only [En.p, En.k, En.m, En.b] at *
  subst hb0
  have h1 : ¬ (m < 0 ∨ 511 < m) := by omega
  simp [fo, En.p, En.k, En.m, En.b, h0, hP, h1]
theorem TreeT.opn {T : Tx → Option En} (h : TreeT T) {P : Tx} (hP : isP P = true) : TreeT (opnF P T) := by
  refine ⟨fun q x hx => ?_, fun q x hx => ?_, fun q x p hx hp hpq hin => ?_⟩
  · unfold opnF at hx
    split at hx
    · cases hx; rfl
    · exact h.own q x hx
  · unfold opnF at hx
    split at hx
    · rename_i hc
      cases hx
      exact ⟨fo_dir hc.1 (isP_inn hP hc.2.2.1), .inr rfl⟩
    · exact h.ok q x hx
  · unfold opnF at hx
    split at hx
    · rename_i hc
      refine opnF_way hp (fun e => ?_) (inn_trans hin hc.2.2.1)
      subst e
      exact hpq (inn_anti hin hc.2.2.1 hp hc.1)
    · exact opnF_kd (h.up q x p hx hp hpq hin)
theorem dropT_at {T : Tx → Option En} (h : TreeT T) {p : Tx} (hp : p ≠ []) : dropT T p = fun q => if inn p q = true then none else T q := by
  funext q
  unfold dropT
  by_cases hk : ((T p).getD noE).k = 2
  · rw [if_pos hk]
  · rw [if_neg hk]
    by_cases hq : q = p
    · subst hq
      rw [if_pos rfl, if_pos (inn_refl q)]
    · rw [if_neg hq]
      split
      · rename_i hin
        cases hT : T q with
        | none => rfl
        | some x => exact absurd (h.up q x p hT hp (fun e => hq e.symm) hin) hk
      · rfl
theorem TreeT.cut {T : Tx → Option En} (h : TreeT T) {p : Tx} : TreeT (fun q => if inn p q = true then none else T q) := by
  have hs : ∀ q x, (if inn p q = true then none else T q) = some x → inn p q = false ∧ T q = some x := fun q x hx => by
    split at hx
    · cases hx
    · rename_i hn
      exact ⟨by simpa using hn, hx⟩
  refine ⟨fun q x hx => h.own q x (hs q x hx).2, fun q x hx => h.ok q x (hs q x hx).2, fun q x r hx hr hrq hin => ?_⟩
  obtain ⟨h1, h2⟩ := hs q x hx
  have h3 := h.up q x r h2 hr hrq hin
  have h4 : inn p r = false := by
    cases hh : inn p r with
    | false => rfl
    | true => rw [inn_trans hh hin] at h1; exact absurd h1 (by simp)
  show ((if inn p r = true then none else T r).getD noE).k = 2
  rw [if_neg (by simp [h4])]
  exact h3
theorem TreeT.set {T : Tx → Option En} (h : TreeT T) {x : En} (hx : fo x = 0) (hk : x.k = 1 ∨ x.k = 2) (hway : ∀ p, p ≠ [] → p ≠ x.p → inn p x.p = true → kd T p = 2) (hbel : x.k = 1 → ∀ q, q ≠ x.p → inn x.p q = true → T q = none) : TreeT (fun q => if q = x.p then some x else T q) := by
  have hp0 := (fo_path hx).1
  refine ⟨fun q y hy => ?_, fun q y hy => ?_, fun q y r hy hr hrq hin => ?_⟩
  · try dsimp only at hy
    split at hy
    · rename_i e; cases hy; exact e.symm
    · exact h.own q y hy
  · try dsimp only at hy
    split at hy
    · cases hy; exact ⟨hx, hk⟩
    · exact h.ok q y hy
  · try dsimp only at hy
    have hset : ∀ z, z ≠ x.p → kd (fun q => if q = x.p then some x else T q) z = kd T z := fun z hz => by unfold kd; dsimp only; rw [if_neg hz]
    split at hy
    · rename_i e
      subst e
      rw [hset r hrq]
      exact hway r hr hrq hin
    · rename_i e
      by_cases hrx : r = x.p
      · subst hrx
        rcases hk with h1 | h1
        · rw [hbel h1 q e hin] at hy; cases hy
        · unfold kd; dsimp only; rw [if_pos rfl]; exact h1
      · rw [hset r hrx]
        exact h.up q y r hy hr hrq hin
/-- put, path by path -/
theorem putT_at {T : Tx → Option En} (h : TreeT T) {x : En} (hx : fo x = 0) :
    putT T x = if x.k = 3 then (fun q => if inn x.p q = true then none else T q) else if x.k = 2 then (fun q => if q = x.p then some x else opnF x.p T q) else (fun q => if q = x.p then some (if x.k = 4 then (x.p, 2, x.m, x.b) else x) else if inn x.p q = true then none else opnF x.p T q) := by
  obtain ⟨⟨h0, hP⟩, hk, _⟩ := fo_all hx
  unfold putT
  rw [openT_wk hP h0, dropT_at h h0, dropT_at (h.opn hP) h0]
  rcases (by omega : x.k = 1 ∨ x.k = 2 ∨ x.k = 3 ∨ x.k = 4) with e | e | e | e <;> simp [e]
theorem TreeT.put {T : Tx → Option En} (h : TreeT T) {x : En} (hx : fo x = 0) : TreeT (putT T x) := by
  obtain ⟨⟨h0, hP⟩, hk, hm, hb, hbl⟩ := fo_all hx
  rw [putT_at h hx]
  have ho : TreeT (opnF x.p T) := h.opn hP
  have hw : ∀ p, p ≠ [] → p ≠ x.p → inn p x.p = true → kd (opnF x.p T) p = 2 := fun p h1 h2 h3 => opnF_way h1 h2 h3
  have hwc : ∀ p, p ≠ [] → p ≠ x.p → inn p x.p = true → kd (fun q => if inn x.p q = true then none else opnF x.p T q) p = 2 := fun p h1 h2 h3 => by
    unfold kd
    dsimp only
    rw [if_neg (fun e => h2 (inn_anti h3 e h1 h0))]
    exact hw p h1 h2 h3
  split
  · exact h.cut
  · split
    · rename_i e
      exact ho.set hx (.inr e) hw (fun e1 => by omega)
    · split
      · rename_i e3 e2 e4
        have hx4 : fo (x.p, 2, x.m, x.b) = 0 := fo_turn hx e4
        exact (ho.cut (p := x.p)).set (x := (x.p, 2, x.m, x.b)) hx4 (.inr rfl) hwc (fun e => by simp [En.k] at e)
      · rename_i e3 e2 e4
        exact (ho.cut (p := x.p)).set hx (.inl (by omega)) hwc (fun _ q hq hin => if_pos hin)
/-- the entry of a layer at a path -/
def ent (l : List En) (q : Tx) : Option En := l.find? (fun x => decide (x.p = q))
/-- what layers below have at a path is not seen -/
def hid (l : List En) (q : Tx) : Bool := l.any (fun x => inn x.p q && !decide (x.k = 2))
/-- something of the layer lies below a path -/
def way (l : List En) (q : Tx) : Bool := l.any (fun x => inn q x.p && !decide (x.k = 3))
def vla (x : En) : Option En := if x.k = 3 then none else some (if x.k = 4 then (x.p, 2, x.m, x.b) else x)
def kO (o : Option En) : Int := (o.getD noE).k
theorem kO_dir (q : Tx) : kO (some (q, 2, 0, [])) = 2 := rfl
/-- what is left of what there was -/
def bs (l : List En) (q : Tx) (o : Option En) : Option En := if hid l q = true then none else o
/-- a directory where something lies below and none is -/
def dr (i : Bool) (q : Tx) (o : Option En) : Option En := if (i && !decide (kO o = 2)) = true then some (q, 2, 0, []) else o
/-- what is seen at a path over what there was -/
def lay (l : List En) (q : Tx) (o : Option En) : Option En := dr (way l q) q (bs l q o)
theorem dr_false (q : Tx) (o : Option En) : dr false q o = o := rfl
theorem dr_dr (i j : Bool) (q : Tx) (o : Option En) : dr j q (dr i q o) = dr (i || j) q o := by
  unfold dr
  by_cases h : kO o = 2
  · simp [h]
  · cases i <;> cases j <;> simp [h, kO_dir]
def seenL (T : Tx → Option En) (l : List En) (q : Tx) : Option En :=
  match ent l q with
  | some x => vla x
  | none => lay l q (T q)
theorem ent_snoc (l : List En) (x : En) (q : Tx) : ent (l ++ [x]) q = (ent l q).or (if x.p = q then some x else none) := by
  unfold ent
  rw [List.find?_append]
  congr 1
  by_cases h : x.p = q <;> simp [h]
theorem hid_snoc (l : List En) (x : En) (q : Tx) : hid (l ++ [x]) q = (hid l q || (inn x.p q && !decide (x.k = 2))) := by simp [hid]
theorem way_snoc (l : List En) (x : En) (q : Tx) : way (l ++ [x]) q = (way l q || (inn q x.p && !decide (x.k = 3))) := by simp [way]
theorem ent_some {l : List En} {q : Tx} {x : En} (h : ent l q = some x) : x ∈ l ∧ x.p = q := ⟨List.mem_of_find?_eq_some h, by simpa using List.find?_some h⟩
theorem not_inn {x y : En} (h : les y.p x.p = true) : inn x.p y.p = false := by
  cases hh : inn x.p y.p with
  | false => rfl
  | true =>
    by_cases e : x.p = y.p
    · rw [e, les_irr] at h; cases h
    · have := les_trans _ _ _ h (inn_les _ _ hh e)
      rw [les_irr] at this
      cases this
theorem put3 {T : Tx → Option En} (h : TreeT T) {x : En} (hx : fo x = 0) (e : x.k = 3) (q : Tx) : putT T x q = if inn x.p q = true then none else T q := by rw [putT_at h hx, if_pos e]
theorem put2 {T : Tx → Option En} (h : TreeT T) {x : En} (hx : fo x = 0) (e : x.k = 2) (q : Tx) : putT T x q = if q = x.p then some x else opnF x.p T q := by rw [putT_at h hx, if_neg (by omega), if_pos e]
theorem put14 {T : Tx → Option En} (h : TreeT T) {x : En} (hx : fo x = 0) (e : x.k ≠ 3) (e2 : x.k ≠ 2) (q : Tx) : putT T x q = if q = x.p then some (if x.k = 4 then (x.p, 2, x.m, x.b) else x) else if inn x.p q = true then none else opnF x.p T q := by rw [putT_at h hx, if_neg e, if_neg e2]
theorem opnF_dr {P : Tx} {T : Tx → Option En} {q : Tx} (h0 : q ≠ []) (h1 : q ≠ P) : opnF P T q = dr (inn q P) q (T q) := by
  unfold opnF dr
  have e : kd T q = kO (T q) := rfl
  rw [e]
  cases inn q P <;> simp [h0, h1]
/-- one entry more over a tree that l has made -/
theorem step_seen {T T' : Tx → Option En} {l : List En} {x : En} (hT : TreeT T') (he : ∀ q, q ≠ [] → T' q = seenL T l q) (hx : fo x = 0) (hl : ∀ y ∈ l, fb y x = 0) (q : Tx) (hq : q ≠ []) : putT T' x q = seenL T (l ++ [x]) q := by
  obtain ⟨⟨h0, hP⟩, hk, _⟩ := fo_all hx
  have hni : ∀ y ∈ l, inn x.p y.p = false := fun y hy => not_inn ((fb_iff y x).1 (hl y hy)).1
  have hent : ∀ y, ent l q = some y → inn x.p q = false ∧ q ≠ x.p ∧ (inn q x.p = true → y.k ≠ 1 ∧ y.k ≠ 3) := fun y hy => by
    obtain ⟨h1, h2⟩ := ent_some hy
    have h3 := hni y h1
    rw [h2] at h3
    refine ⟨h3, fun e => ?_, fun hin => ?_⟩
    · rw [e, inn_refl] at h3; cases h3
    · have h4 := ((fb_iff y x).1 (hl y h1)).2
      rw [h2, hin] at h4
      simpa [shutB] using h4
  have hway : way l q = true → inn x.p q = false := fun h => by
    obtain ⟨y, hy, h2⟩ := List.any_eq_true.1 h
    simp at h2
    cases hh : inn x.p q with
    | false => rfl
    | true => rw [← hni y hy, inn_trans hh h2.1]
  have hwn : inn x.p q = true → way l q = false := fun h => by
    cases hh : way l q with
    | false => rfl
    | true => rw [hway hh] at h; cases h
  have hseen := he q hq
  unfold seenL at hseen ⊢
  rw [ent_snoc]
  cases hy : ent l q with
  | some y =>
    obtain ⟨h1, h2, h3⟩ := hent y hy
    rw [hy] at hseen
    simp only [Option.some_or] at hseen ⊢
    have hop : opnF x.p T' q = T' q := by
      unfold opnF
      rw [if_neg]
      rintro ⟨_, _, hin, hkd⟩
      obtain ⟨g1, g3⟩ := h3 hin
      apply hkd
      have hv : T' q = some (if y.k = 4 then (y.p, 2, y.m, y.b) else y) := by rw [hseen]; unfold vla; rw [if_neg g3]
      rw [kd_some hv]
      have := (hT.ok q _ hv).2
      by_cases h4 : y.k = 4
      · rw [if_pos h4]; rfl
      · rw [if_neg h4] at this ⊢
        omega
    rw [← hseen]
    have h1' : ¬ inn x.p q = true := by simp [h1]
    by_cases e3 : x.k = 3
    · rw [put3 hT hx e3, if_neg h1']
    · by_cases e2 : x.k = 2
      · rw [put2 hT hx e2, if_neg h2, hop]
      · rw [put14 hT hx e3 e2, if_neg h2, if_neg h1', hop]
  | none =>
    rw [hy] at hseen
    simp only [Option.none_or] at hseen ⊢
    by_cases hqx : q = x.p
    · rw [if_pos hqx.symm]
      show _ = vla x
      unfold vla
      by_cases e3 : x.k = 3
      · rw [put3 hT hx e3, if_pos e3, hqx, if_pos (inn_refl _)]
      · rw [if_neg e3]
        by_cases e2 : x.k = 2
        · rw [put2 hT hx e2, if_pos hqx, if_neg (by omega)]
        · rw [put14 hT hx e3 e2, if_pos hqx]
    · rw [if_neg (fun e => hqx e.symm)]
      show _ = lay (l ++ [x]) q (T q)
      have hop : opnF x.p T' q = dr (way l q || inn q x.p) q (bs l q (T q)) := by
        rw [opnF_dr hq hqx, hseen]
        unfold lay
        rw [dr_dr]
      unfold lay bs
      unfold bs at hop
      rw [hid_snoc, way_snoc]
      cases hnx : inn x.p q with
      | true =>
        have hw := hwn hnx
        have hqn : inn q x.p = false := by
          cases hh : inn q x.p with
          | false => rfl
          | true => exact absurd (inn_anti hh hnx hq h0) hqx
        rw [hw, hqn]
        by_cases e3 : x.k = 3
        · rw [put3 hT hx e3, if_pos hnx]
          simp [e3, dr_false]
        · by_cases e2 : x.k = 2
          · rw [put2 hT hx e2, if_neg hqx, hop, hw, hqn]
            simp [e2]
          · rw [put14 hT hx e3 e2, if_neg hqx, if_pos hnx]
            simp [e2, dr_false]
      | false =>
        have hnx' : ¬ inn x.p q = true := by simp [hnx]
        by_cases e3 : x.k = 3
        · rw [put3 hT hx e3, if_neg hnx', hseen]
          unfold lay bs
          simp [e3]
        · have e3' : decide (x.k = 3) = false := by simpa using e3
          by_cases e2 : x.k = 2
          · rw [put2 hT hx e2, if_neg hqx, hop, e3']
            simp
          · rw [put14 hT hx e3 e2, if_neg hqx, if_neg hnx', hop, e3']
            simp
end Go.Proofs.YtbefmcagpmgkiaaDoor
