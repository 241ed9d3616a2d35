/- Stacks, plainly: twice is once, a whiteout, a tree as one layer. -/
import Derived.Test.YtbefmcagpmgkiaaDoorOvP
namespace Go.Proofs.YtbefmcagpmgkiaaDoor
set_option linter.unusedVariables false
theorem TreeT.root {T : Tx → Option En} (h : TreeT T) : T [] = none := by
  cases hT : T [] with
  | none => rfl
  | some x => exact absurd (h.own _ _ hT) (fo_path (h.ok _ _ hT).1).1
theorem seenL_nil (T : Tx → Option En) (q : Tx) : seenL T [] q = T q := rfl
theorem mgT_snoc (T : Tx → Option En) (l : List En) (x : En) : mgT T (l ++ [x]) = putT (mgT T l) x := by simp [mgT]
theorem pairwise_snoc {l : List En} {x : En} (h : (l ++ [x]).Pairwise (fun y x => fb y x = 0)) : l.Pairwise (fun y x => fb y x = 0) ∧ ∀ y ∈ l, fb y x = 0 := by
  rw [List.pairwise_append] at h
  exact ⟨h.1, fun y hy => h.2.2 y hy x (by simp)⟩
theorem mgT_seen0 {T : Tx → Option En} (hT : TreeT T) (n : Nat) : ∀ (l : List En), l.length = n → (∀ x ∈ l, fo x = 0) → l.Pairwise (fun y x => fb y x = 0) → TreeT (mgT T l) ∧ ∀ q, q ≠ [] → mgT T l q = seenL T l q := by
  induction n with
  | zero =>
    intro l hl _ _
    have : l = [] := List.length_eq_zero_iff.1 hl
    subst this
    exact ⟨hT, fun q _ => (seenL_nil T q).symm⟩
  | succ n ih =>
    intro l hl hf hp
    have hne : l ≠ [] := fun e => by rw [e] at hl; simp at hl
    obtain ⟨m, x, rfl⟩ : ∃ m x, l = m ++ [x] := ⟨l.dropLast, l.getLast hne, (List.dropLast_concat_getLast hne).symm⟩
    obtain ⟨hp1, hp2⟩ := pairwise_snoc hp
    obtain ⟨h1, h2⟩ := ih m (by simpa using hl) (fun y hy => hf y (by simp [hy])) hp1
    rw [mgT_snoc]
    have hx := hf x (by simp)
    exact ⟨h1.put hx, fun q hq => step_seen h1 h2 hx hp2 q hq⟩
theorem mgT_tree {T : Tx → Option En} (hT : TreeT T) {l : List En} (hl : (chk l).2 = 0) : TreeT (mgT T l) := by
  obtain ⟨_, h1, h2⟩ := (chk_iff l).1 hl
  exact (mgT_seen0 hT _ l rfl h1 h2).1
theorem mgT_seen {T : Tx → Option En} (hT : TreeT T) {l : List En} (hl : (chk l).2 = 0) (q : Tx) (hq : q ≠ []) : mgT T l q = seenL T l q := by
  obtain ⟨_, h1, h2⟩ := (chk_iff l).1 hl
  exact (mgT_seen0 hT _ l rfl h1 h2).2 q hq
theorem mg_app (a b : List (List En)) : mg (a ++ b) = b.foldl mgT (mg a) := by simp [mg]
theorem foldl_tree : ∀ (st : List (List En)) (T : Tx → Option En), TreeT T → (∀ l ∈ st, (chk l).2 = 0) → TreeT (st.foldl mgT T)
  | [], T, h, _ => h
  | l :: r, T, h, hc => foldl_tree r _ (mgT_tree h (hc l (by simp))) (fun m hm => hc m (by simp [hm]))
theorem mg_tree {st : List (List En)} (h : ∀ l ∈ st, (chk l).2 = 0) : TreeT (mg st) := foldl_tree st _ treeT_none h
/-- twice is once -/
theorem mgT_twice {T : Tx → Option En} (hT : TreeT T) {l : List En} (hl : (chk l).2 = 0) : mgT (mgT T l) l = mgT T l := by
  have h1 := mgT_tree hT hl
  have h2 := mgT_tree h1 hl
  funext q
  by_cases hq : q = []
  · subst hq
    rw [h2.root, h1.root]
  · rw [mgT_seen h1 hl q hq]
    unfold seenL
    rw [mgT_seen hT hl q hq]
    unfold seenL
    cases ent l q with
    | some x => rfl
    | none =>
      show lay l q (lay l q (T q)) = lay l q (T q)
      unfold lay
      cases hh : hid l q with
      | true => simp [bs, hh]
      | false => simp only [bs, hh, Bool.false_eq_true, if_false]; rw [dr_dr]; simp
/-- an empty layer changes nothing -/
theorem mgT_nil (T : Tx → Option En) : mgT T [] = T := rfl
/-- a whiteout -/
theorem mgT_white {T : Tx → Option En} (hT : TreeT T) {p : Tx} (h0 : p ≠ []) (hP : isP p = true) : mgT T [(p, 3, 0, [])] = fun q => if inn p q = true then none else T q := by
  funext q
  have hx : fo (p, 3, 0, []) = 0 := by simp [fo, En.p, En.k, En.m, En.b, h0, hP]
  show putT T (p, 3, 0, []) q = _
  rw [put3 hT hx rfl]
  rfl
/-- lists that rise and have the same are the same -/
theorem lst_eq {T : Tx → Option En} {a b : List En} (ha : Lst T a) (hb : Lst T b) : a = b := by
  have hnd : ∀ {l : List En}, l.Pairwise (fun x y => les x.p y.p = true) → l.Nodup := fun h => pw_mono (fun _ _ _ _ h1 e => by subst e; rw [les_irr] at h1; cases h1) h
  have hp : a.Perm b := (List.perm_ext_iff_of_nodup (hnd ha.rise) (hnd hb.rise)).2 (fun x => by rw [ha.mem, hb.mem])
  refine hp.eq_of_pairwise (le := fun x y : En => les x.p y.p = true) (fun x y hx hy h1 h2 => ?_) ha.rise hb.rise
  have := les_trans _ _ _ h1 h2
  rw [les_irr] at this
  cases this
theorem Lst.of_eq {T T' : Tx → Option En} {l : List En} (h : Lst T l) (e : T = T') : Lst T' l := e ▸ h
/-- a tree as a list may be a layer -/
theorem lst_chk {T : Tx → Option En} (hT : TreeT T) {l : List En} (hl : Lst T l) (h64 : l.length ≤ 64) : (chk l).2 = 0 := by
  refine (chk_iff l).2 ⟨h64, fun x hx => (hT.ok _ _ ((hl.mem x).1 hx)).1, ?_⟩
  refine pw_mono ?_ hl.rise
  intro x y hx hy hlt
  rw [fb_iff]
  refine ⟨hlt, ?_⟩
  cases hin : inn x.p y.p with
  | false => simp
  | true =>
    have hx' := (hl.mem x).1 hx
    have hne : x.p ≠ y.p := fun e => by rw [e, les_irr] at hlt; cases hlt
    have := hT.up _ _ x.p ((hl.mem y).1 hy) (fo_path (hT.ok _ _ hx').1).1 hne hin
    rw [kd_some hx'] at this
    simp [shutB, this]
/-- it comes to the tree -/
theorem lst_mg {T : Tx → Option En} (hT : TreeT T) {l : List En} (hl : Lst T l) (h64 : l.length ≤ 64) : mgT (fun _ => none) l = T := by
  have hc := lst_chk hT hl h64
  funext q
  by_cases hq : q = []
  · subst hq
    rw [(mgT_tree treeT_none hc).root, hT.root]
  · rw [mgT_seen treeT_none hc q hq]
    unfold seenL
    cases he : ent l q with
    | some x =>
      obtain ⟨h1, h2⟩ := ent_some he
      have h3 := (hl.mem x).1 h1
      have h4 := (hT.ok _ _ h3).2
      show vla x = T q
      unfold vla
      rw [if_neg (by omega), if_neg (by omega), ← h2, h3]
    | none =>
      have hTq : T q = none := by
        cases hh : T q with
        | none => rfl
        | some x =>
          have h1 := hT.own _ _ hh
          have h2 : x ∈ l := (hl.mem x).2 (by rw [h1]; exact hh)
          have := List.find?_eq_none.1 he x h2
          simp [h1] at this
      have hw : way l q = false := by
        cases hw : way l q with
        | false => rfl
        | true =>
          obtain ⟨y, hy, h2⟩ := List.any_eq_true.1 hw
          simp at h2
          have h3 := (hl.mem y).1 hy
          by_cases e : q = y.p
          · rw [← e] at h3; rw [hTq] at h3; cases h3
          · have := hT.up _ _ q h3 hq e h2.1
            unfold kd at this
            rw [hTq] at this
            simp [noE, En.k] at this
      show lay l q none = T q
      unfold lay
      rw [hw, dr_false, hTq]
      unfold bs
      split <;> rfl
end Go.Proofs.YtbefmcagpmgkiaaDoor
