/- Trees as lists, plainly: what is found at a path, what a top layer has, that a list of a tree is a tree, the path above. -/
import Derived.Test.YtbefmcagpmgkiaaDoorMgDi12
import Derived.Test.YtbefmcagpmgkiaaDoorMgDi2
namespace Go.Proofs.YtbefmcagpmgkiaaDoor
set_option linter.unusedVariables false
theorem ent_lst {T : Tx → Option En} (hT : TreeT T) {l : List En} (hl : Lst T l) (q : Tx) : ent l q = T q := by
  cases he : ent l q with
  | some x =>
    obtain ⟨h1, h2⟩ := ent_some he
    rw [← h2, (hl.mem x).1 h1]
  | none =>
    cases hq : T q with
    | none => rfl
    | some x =>
      have h1 := hT.own _ _ hq
      have h2 : x ∈ l := (hl.mem x).2 (by rw [h1]; exact hq)
      have := List.find?_eq_none.1 he x h2
      simp [h1] at this
theorem pw_uniq : ∀ {l : List En}, l.Pairwise (fun x y => les x.p y.p = true) → ∀ x ∈ l, ∀ y ∈ l, x.p = y.p → x = y
  | [], _, x, hx, _, _, _ => by cases hx
  | z :: r, h, x, hx, y, hy, e => by
    rw [List.pairwise_cons] at h
    rcases List.mem_cons.1 hx with rfl | hx' <;> rcases List.mem_cons.1 hy with rfl | hy'
    · rfl
    · have := h.1 y hy'
      rw [e, les_irr] at this
      cases this
    · have := h.1 x hx'
      rw [e, les_irr] at this
      cases this
    · exact pw_uniq h.2 x hx' y hy' e
theorem chk_rise {l : List En} (h : (chk l).2 = 0) : l.Pairwise (fun x y => les x.p y.p = true) := pw_mono (fun a b _ _ e => ((fb_iff a b).1 e).1) ((chk_iff l).1 h).2.2
theorem ent_own {l : List En} (h : l.Pairwise (fun x y => les x.p y.p = true)) {x : En} (hx : x ∈ l) : ent l x.p = some x := by
  cases he : ent l x.p with
  | some y =>
    obtain ⟨h1, h2⟩ := ent_some he
    rw [pw_uniq h y h1 x hx h2]
  | none =>
    have := List.find?_eq_none.1 he x hx
    simp at this
/-- what the top layer has is seen -/
theorem top_seen {st : List (List En)} {top : List En} (h : mE (st ++ [top]) = 0) {x : En} (hx : x ∈ top) : mg (st ++ [top]) x.p = vla x := by
  obtain ⟨_, h2⟩ := mE_zero h
  have hT : TreeT (mg st) := mg_tree (fun l hl => h2 l (by simp [hl]))
  have ht := h2 top (by simp)
  rw [mg_app]
  show mgT (mg st) top x.p = _
  rw [mgT_seen hT ht _ (fo_path (((chk_iff top).1 ht).2.1 x hx)).1]
  unfold seenL
  rw [ent_own (chk_rise ht) hx]
/-- what Lookup answers -/
def lk (l : List En) (s : Tx) : En × Int :=
  if (cln s).2 ≠ 0 then (noE, (cln s).2) else if (cln s).1 = [] then (([], 2, 0, []), 0) else match ent l (cln s).1 with
    | some x => (x, 0)
    | none => (noE, 9)
theorem lk_path {l : List En} {q : Tx} (h0 : q ≠ []) (h : isP q = true) : lk l q = match ent l q with | some x => (x, 0) | none => (noE, 9) := by
  unfold lk
  rw [(isP_iff q).1 h]
  simp [h0]
theorem cln_lead {q : Tx} (h : isP q = true) : cln (47 :: q) = (q, 0) := by
  rw [← (isP_iff q).1 h]
  unfold cln
  have e : pcs (47 :: q) = [] :: pcs q := by rw [pcs, if_pos rfl]
  rw [e, cl_skip _ _ _ (.inl rfl)]
theorem lk_lead {l : List En} {q : Tx} (h0 : q ≠ []) (h : isP q = true) : lk l (47 :: q) = match ent l q with | some x => (x, 0) | none => (noE, 9) := by
  unfold lk
  rw [cln_lead h]
  simp [h0]
/-- the path above one lies on its way -/
theorem prt_ne {q : Tx} (h : isP q = true) (h0 : q ≠ []) : prt q ≠ [] := by rw [pcs_path h h0]; exact pcs_ne q
theorem upP_pcs {q : Tx} (h : isP q = true) (h0 : q ≠ []) (hu : upP q ≠ []) : pcs (upP q) = (pcs q).dropLast := by
  unfold upP at hu ⊢
  rw [pcs_path h h0] at hu ⊢
  cases hd : (pcs q).dropLast with
  | nil => rw [hd] at hu; exact absurd jn_nil hu
  | cons x r => exact pcs_jn x r (fun p hp => pcs_mem q p (List.dropLast_subset _ (by rw [hd]; exact hp)))
theorem upP_inn {q : Tx} (h : isP q = true) (h0 : q ≠ []) (hu : upP q ≠ []) : inn (upP q) q = true := by
  rw [inn_pcs _ _ hu, upP_pcs h h0 hu]
  exact List.dropLast_prefix _
theorem upP_neq {q : Tx} (h : isP q = true) (h0 : q ≠ []) : upP q ≠ q := by
  intro e
  by_cases hu : upP q = []
  · rw [hu] at e; exact h0 e.symm
  · have := upP_pcs h h0 hu
    rw [e] at this
    have hl := congrArg List.length this
    rw [List.length_dropLast] at hl
    have := List.length_pos_iff.2 (pcs_ne q)
    omega
/-- the last part of a path -/
def lastP (q : Tx) : Tx := (prt q).getLastD []
theorem path_up {q : Tx} (h : isP q = true) (h0 : q ≠ []) : prt q = (prt q).dropLast ++ [lastP q] := by
  unfold lastP
  have hne := prt_ne h h0
  rw [List.getLastD_eq_getLast?, List.getLast?_eq_some_getLast hne, Option.getD_some]
  exact (List.dropLast_concat_getLast hne).symm
theorem prt_up {q : Tx} (h : isP q = true) (h0 : q ≠ []) : prt (upP q) = (prt q).dropLast := by
  have hf := prt_facts q
  exact prt_jn (fun p hp => hf.1 p (List.dropLast_subset _ hp)) (by rw [List.length_dropLast]; omega)
theorem path_uniq {p q : Tx} (hp : isP p = true) (hp0 : p ≠ []) (hq : isP q = true) (hq0 : q ≠ []) (hu : upP p = upP q) (hl : lastP p = lastP q) : p = q := by
  rw [← jn_prt hp, ← jn_prt hq, path_up hp hp0, path_up hq hq0, ← prt_up hp hp0, ← prt_up hq hq0, hu, hl]
/-- entries by their paths are those of the list -/
theorem scT_at : ∀ (n : Nat) (l : List En), l.length = n → l.Pairwise (fun x y => les x.p y.p = true) → ∀ q, scT l q = ent l q
  | 0, l, hn, _, q => by
    have : l = [] := List.length_eq_zero_iff.1 hn
    subst this
    rfl
  | n + 1, l, hn, hr, q => by
    have hne : l ≠ [] := fun e => by rw [e] at hn; simp at hn
    obtain ⟨m, x, rfl⟩ : ∃ m x, l = m ++ [x] := ⟨l.dropLast, l.getLast hne, (List.dropLast_concat_getLast hne).symm⟩
    rw [List.pairwise_append] at hr
    have ih := scT_at n m (by simpa using hn) hr.1 q
    rw [scT_snoc, ent_snoc, ← ih]
    unfold setE
    by_cases e : q = x.p
    · rw [if_pos e, if_pos e.symm]
      have : scT m q = none := by
        rw [ih]
        cases hm : ent m q with
        | none => rfl
        | some y =>
          obtain ⟨h1, h2⟩ := ent_some hm
          have := hr.2.2 y h1 x (by simp)
          rw [h2, e, les_irr] at this
          cases this
      rw [this]
      rfl
    · rw [if_neg e, if_neg (fun e2 => e e2.symm)]
      simp
theorem trF_of {T : Tx → Option En} (hT : TreeT T) {l : List En} (hl : Lst T l) : ∀ (rest pre : List En) (a : Tx), l = pre ++ rest → (∀ x ∈ rest, les a x.p = true) → trF (scT pre) a rest = true
  | [], _, _, _, _ => rfl
  | x :: r, pre, a, e, ha => by
    have hxl : x ∈ l := by rw [e]; simp
    have hx := (hl.mem x).1 hxl
    obtain ⟨hfo, hk⟩ := hT.ok _ _ hx
    obtain ⟨h0, hP⟩ := fo_path hfo
    have hri := hl.rise
    rw [e, List.pairwise_append] at hri
    have hrx := List.pairwise_cons.1 hri.2.1
    have h1 : mS x = true := by
      unfold mS
      rw [decide_eq_true hfo, Bool.and_true]
      rcases hk with e | e <;> rw [e] <;> rfl
    have h3 : oA (scT pre) x.p = true := by
      unfold oA
      by_cases hu : upP x.p = []
      · rw [decide_eq_true hu]; rfl
      · have hin := upP_inn hP h0 hu
        have hkd := hT.up _ _ _ hx hu (upP_neq hP h0) hin
        obtain ⟨z, hz, hzk⟩ := kd_two hkd
        have hzp := hT.own _ _ hz
        have hzl : z ∈ l := (hl.mem z).2 (by rw [hzp]; exact hz)
        have hlt : les z.p x.p = true := by rw [hzp]; exact inn_les _ _ hin (upP_neq hP h0)
        have hzpre : z ∈ pre := by
          rw [e] at hzl
          rcases List.mem_append.1 hzl with h | h
          · exact h
          · rcases List.mem_cons.1 h with rfl | h
            · rw [les_irr] at hlt; cases hlt
            · have := les_trans _ _ _ hlt (hrx.1 z h)
              rw [les_irr] at this
              cases this
        have hs : scT pre (upP x.p) = some z := by rw [scT_at _ pre rfl hri.1, ← hzp]; exact ent_own hri.1 hzpre
        rw [decide_eq_true (p := kd (scT pre) (upP x.p) = 2) (by rw [kd_some hs]; exact hzk)]
        simp
    have h4 := trF_of hT hl r (pre ++ [x]) x.p (by rw [e]; simp) (fun y hy => hrx.1 y hy)
    rw [scT_snoc] at h4
    show (mS x && les a x.p && oA (scT pre) x.p && trF (setE (scT pre) x) x.p r) = true
    rw [h1, ha x (by simp), h3, h4]
    rfl
/-- a list of a tree is a tree -/
theorem lst_isTr {T : Tx → Option En} (hT : TreeT T) {l : List En} (hl : Lst T l) : isTr l = true :=
  trF_of hT hl l [] [] rfl (fun x hx => les_nil (fo_path (hT.ok _ _ ((hl.mem x).1 hx)).1).1)
/-- a beginning of a stack as one layer stands for it -/
theorem flat_T {st : List (List En)} {k : Nat} {head : List En} (h : mE st = 0) (hh : Lst (mg (st.take k)) head) (h64 : head.length ≤ 64) (hk : 0 < k) (hk2 : k ≤ st.length) : mE (head :: st.drop k) = 0 ∧ mg (head :: st.drop k) = mg st := by
  obtain ⟨h1, h2⟩ := mE_zero h
  have hT : TreeT (mg (st.take k)) := mg_tree (fun l hl => h2 l (List.mem_of_mem_take hl))
  constructor
  · refine mE_ok (by rw [List.length_cons, List.length_drop]; omega) (fun i l hi => ?_)
    rcases List.mem_cons.1 (List.mem_of_getElem? hi) with rfl | hm
    · exact lst_chk hT hh h64
    · exact h2 l (List.mem_of_mem_drop hm)
  · have e : mg (head :: st.drop k) = (st.drop k).foldl mgT (mgT (fun _ => none) head) := rfl
    rw [e, lst_mg hT hh h64, ← mg_app, List.take_append_drop]
end Go.Proofs.YtbefmcagpmgkiaaDoor
