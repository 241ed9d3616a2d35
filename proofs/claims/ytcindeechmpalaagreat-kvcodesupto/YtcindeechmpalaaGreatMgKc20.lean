/- A loss of power under a fuse, plainly. Sync and Reset under a fuse, plainly. Sync and Reset under a fuse: what a loss of power leaves. Open under a fuse, plainly: of a new disk, of one that has records. The document's Same; the statements' own works. A log and its disk that outlive calls; what is neither's. Slices of texts that came in. Texts appended, of any slice; two logs of one disk; Reset, Add, plainly. -/
import Derived.Test.YtcindeechmpalaaGreatMgKc19
import Derived.Test.YtcindeechmpalaaGreatMgKc3
import Derived.SliceStrings
import Derived.SizedLaws
namespace Go.Proofs.YtcindeechmpalaaGreat
open Go.ChangeShapes Go.WideShapes Go.ChangeAt Go.RowKit Go.Deep Go.Maps
set_option linter.unusedVariables false
theorem pick_or (l : List (List Int)) (m : Nat) (x : List Int) : pick l m x = x ∨ pick l m x ∈ l := by
  unfold pick
  split
  · exact .inl rfl
  · cases h : l[m - 1]? with
    | none => exact .inl rfl
    | some y => exact .inr (List.mem_of_getElem? h)
theorem crs_at (keep : List Int) (W : Int → List (List Int)) (i : Nat) : ∀ (l : List Nat) (k : Nat) (D : List (List Int)), (crs keep W l k D)[i]? = D[i]? ∨ ∃ C ∈ W (i : Int), (crs keep W l k D)[i]? = some C
  | [], _, D => .inl rfl
  | j :: r, k, D => by
    rw [crs]
    rcases crs_at keep W i r (k + 1) (D.set j (pick (W (j : Int)) (kp keep k (W (j : Int)).length) (D[j]?.getD []))) with h | h
    · by_cases hj : j = i
      · subst hj
        by_cases hl : j < D.length
        · rw [List.getElem?_set_self hl] at h
          rcases pick_or (W (j : Int)) (kp keep k (W (j : Int)).length) (D[j]?.getD []) with e | e
          · left
            rw [h, e, List.getElem?_eq_getElem hl]
            rfl
          · exact .inr ⟨_, e, h⟩
        · left
          rw [h, List.getElem?_eq_none (by rw [List.length_set]; omega), List.getElem?_eq_none (by omega)]
      · left
        rw [h, List.getElem?_set_ne hj]
    · exact .inr h
/-- each block is the old one, or one of those that were written -/
def Mix (D : List (List Int)) (A : List (Option (Nat × List Int))) (E : List (List Int)) : Prop := E.length = D.length ∧ ∀ i, E[i]? = D[i]? ∨ ∃ p, some p ∈ A ∧ p.1 = i ∧ E[i]? = some p.2
theorem cr_mix {s : Ds} {D : List (List Int)} {A : List (Option (Nat × List Int))} (hD : s.D = D) (hW : ∀ (i : Nat) C, C ∈ s.W (i : Int) → ∃ p, some p ∈ A ∧ p.1 = i ∧ p.2 = C) (keep : List Int) : Mix D A (s.cr keep).D := by
  subst hD
  refine ⟨crs_len keep s.W _ 0 s.D, fun i => ?_⟩
  rcases crs_at keep s.W i (wb s.D.length s.W) 0 s.D with h | ⟨C, hC, h⟩
  · exact .inl h
  · obtain ⟨p, h1, h2, rfl⟩ := hW i C hC
    exact .inr ⟨p, h1, h2, h⟩
theorem app_mix : ∀ (A : List (Option (Nat × List Int))) (D : List (List Int)), Mix D A (app A D)
  | [], D => ⟨rfl, fun i => .inl rfl⟩
  | none :: r, D => ⟨app_len _ D, fun i => by
    rcases (app_mix r D).2 i with h | ⟨p, h1, h2⟩
    · exact .inl h
    · exact .inr ⟨p, List.mem_cons_of_mem _ h1, h2⟩⟩
  | some q :: r, D => ⟨app_len _ D, fun i => by
    rcases (app_mix r (D.set q.1 q.2)).2 i with h | ⟨p, h1, h2⟩
    · by_cases hi : q.1 = i
      · by_cases hl : q.1 < D.length
        · right
          refine ⟨q, List.mem_cons_self .., hi, ?_⟩
          rw [app, h, ← hi, List.getElem?_set_self hl]
        · left
          rw [app, h, List.getElem?_eq_none (by rw [List.length_set]; omega), List.getElem?_eq_none (by omega)]
      · left
        rw [app, h, List.getElem?_set_ne hi]
    · exact .inr ⟨p, List.mem_cons_of_mem _ h1, h2⟩⟩
/-- writes under a fuse: all are done, or the disk goes down; what waits is what was written -/
theorem run_cut : ∀ (A : List (Option (Nat × List Int))) (s : Ds), none ∉ A → (∀ p, some p ∈ A → p.1 < s.D.length ∧ p.2.length = 64) → s.up = true → ∃ c s', s.run A = (c, s') ∧ s'.D = s.D ∧ (∀ (i : Nat) C, C ∈ s'.W (i : Int) → C ∈ s.W (i : Int) ∨ ∃ p, some p ∈ A ∧ p.1 = i ∧ p.2 = C) ∧ ((c = 0 ∧ s'.up = true ∧ flD s'.D s'.W = app A (flD s.D s.W)) ∨ (c = 15 ∧ s'.up = false))
  | [], s, _, _, hu => ⟨0, s, rfl, rfl, fun i C h => .inl h, .inl ⟨rfl, hu, rfl⟩⟩
  | none :: r, s, hn, _, _ => absurd (List.mem_cons_self ..) hn
  | some p :: r, s, hn, hA, hu => by
    obtain ⟨h1, h2⟩ := hA p (List.mem_cons_self ..)
    have hr : ¬ rdyAt s.up s.D.length (p.1 : Int) ≠ 0 := by rw [hu]; simp [rdyAt]; omega
    by_cases hf : s.fu = 0
    · have e : s.wr (p.1 : Int) p.2 = (15, { s with up := false }) := by
        unfold Ds.wr
        rw [if_neg hr, if_neg (by simpa using h2), if_pos hf]
      refine ⟨15, { s with up := false }, ?_, rfl, fun i C h => .inl h, .inr ⟨rfl, rfl⟩⟩
      rw [Ds.run_cons]
      show (if (s.wr (p.1 : Int) p.2).1 ≠ 0 then s.wr (p.1 : Int) p.2 else (s.wr (p.1 : Int) p.2).2.run r) = _
      rw [e, if_pos (by simp)]
    · have e : s.wr (p.1 : Int) p.2 = (0, ⟨s.D, fun j => if j = (p.1 : Int) then s.W j ++ [p.2] else s.W j, true, s.dn + 1, lessF s.fu⟩) := by
        unfold Ds.wr
        rw [if_neg hr, if_neg (by simpa using h2), if_neg hf]
      obtain ⟨c, s', g1, g2, g3, g4⟩ := run_cut r ⟨s.D, fun j => if j = (p.1 : Int) then s.W j ++ [p.2] else s.W j, true, s.dn + 1, lessF s.fu⟩ (fun h => hn (List.mem_cons_of_mem _ h)) (fun q hq => hA q (List.mem_cons_of_mem _ hq)) rfl
      refine ⟨c, s', ?_, g2, fun i C hC => ?_, ?_⟩
      · rw [Ds.run_cons]
        show (if (s.wr (p.1 : Int) p.2).1 ≠ 0 then s.wr (p.1 : Int) p.2 else (s.wr (p.1 : Int) p.2).2.run r) = _
        rw [e, if_neg (by simp)]
        exact g1
      · rcases g3 i C hC with h | ⟨q, q1, q2⟩
        · have h' : C ∈ (if (i : Int) = (p.1 : Int) then s.W (i : Int) ++ [p.2] else s.W (i : Int)) := h
          by_cases hi : (i : Int) = (p.1 : Int)
          · rw [if_pos hi] at h'
            rcases List.mem_append.1 h' with h' | h'
            · exact .inl h'
            · exact .inr ⟨p, List.mem_cons_self .., by omega, by simpa using (List.mem_singleton.1 h').symm⟩
          · rw [if_neg hi] at h'
            exact .inl h'
        · exact .inr ⟨q, List.mem_cons_of_mem _ q1, q2⟩
      · rcases g4 with ⟨k1, k2, k3⟩ | k
        · refine .inl ⟨k1, k2, ?_⟩
          rw [k3]
          show app r (flD s.D fun j => if j = (p.1 : Int) then s.W j ++ [p.2] else s.W j) = _
          rw [flD_wr]
          rfl
        · exact .inr k
theorem fl_cut {s : Ds} (hu : s.up = true) : (s.fl = (0, ⟨flD s.D s.W, fun _ => [], true, s.dn + 1, lessF s.fu⟩)) ∨ (s.fl = (15, { s with up := false })) := by
  unfold Ds.fl
  rw [if_neg (by simp [hu])]
  by_cases hf : s.fu = 0
  · rw [if_pos hf]; exact .inr rfl
  · rw [if_neg hf]; exact .inl rfl
/-- writes and a flush under a fuse, of a disk where nothing waits -/
theorem flush_cut {s : Ds} {A : List (Option (Nat × List Int))} (hu : s.up = true) (hW : ∀ i, s.W i = []) (hn : none ∉ A) (hA : ∀ p, some p ∈ A → p.1 < s.D.length ∧ p.2.length = 64) : ∃ c s', s.run (A ++ [none]) = (c, s') ∧ ((c = 0 ∧ s'.up = true ∧ (∀ i, s'.W i = []) ∧ s'.D = app A s.D) ∨ (c = 15 ∧ s'.up = false ∧ ∀ keep, Mix s.D A (s'.cr keep).D)) := by
  obtain ⟨c, s1, g1, g2, g3, g4⟩ := run_cut A s hn hA hu
  have hm : ∀ (i : Nat) C, C ∈ s1.W (i : Int) → ∃ p, some p ∈ A ∧ p.1 = i ∧ p.2 = C := fun i C hC => by
    rcases g3 i C hC with h | h
    · rw [hW] at h; cases h
    · exact h
  rw [Ds.run_app, g1]
  rcases g4 with ⟨rfl, k2, k3⟩ | ⟨rfl, k2⟩
  · rw [if_neg (by simp)]
    show ∃ c s', s1.run [none] = (c, s') ∧ _
    rw [Ds.run_cons]
    show ∃ c s', (if s1.fl.1 ≠ 0 then s1.fl else s1.fl.2.run []) = (c, s') ∧ _
    rcases fl_cut k2 with e | e
    · rw [e, if_neg (by simp)]
      exact ⟨0, _, rfl, .inl ⟨rfl, rfl, fun _ => rfl, by show flD s1.D s1.W = _; rw [k3, flD_nil s.D s.W (fun i _ => hW _)]⟩⟩
    · rw [e, if_pos (by simp)]
      exact ⟨15, _, rfl, .inr ⟨rfl, rfl, fun keep => cr_mix (s := { s1 with up := false }) g2 hm keep⟩⟩
  · rw [if_pos (by simp)]
    exact ⟨15, s1, rfl, .inr ⟨rfl, k2, fun keep => cr_mix g2 hm keep⟩⟩
theorem mix_one {D E : List (List Int)} {q : Nat × List Int} (h : Mix D [some q] E) : E = D ∨ E = D.set q.1 q.2 := by
  by_cases he : E[q.1]? = D[q.1]?
  · left
    apply List.ext_getElem?
    intro i
    rcases h.2 i with e | ⟨p, h1, h2, h3⟩
    · exact e
    · have : p = q := by simpa using h1
      subst this
      rw [← h2]
      exact he
  · right
    apply List.ext_getElem?
    intro i
    by_cases hi : q.1 = i
    · subst hi
      rcases h.2 q.1 with e | ⟨p, h1, h2, h3⟩
      · exact absurd e he
      · have : p = q := by simpa using h1
        subst this
        have hl : p.1 < D.length := by
          rw [← h.1]
          exact (List.getElem?_eq_some_iff.1 h3).1
        rw [h3, List.getElem?_set_self hl]
    · rw [List.getElem?_set_ne hi]
      rcases h.2 i with e | ⟨p, h1, h2, h3⟩
      · exact e
      · have : p = q := by simpa using h1
        subst this
        exact absurd h2 hi
/-- a move under a fuse: it is done, or the disk goes down, and behind a loss of power the blocks are the old ones with some of the area's writes, or the new ones, head and all -/
theorem mops_cut {s : Ds} (hu : s.up = true) (hW : ∀ i, s.W i = []) (m no ar fr : Nat) (B : List Int) (hB : IsBytes B) (hf : 2 + ar * m + fr + (B.length + 63) / 64 ≤ s.D.length) (h2 : 2 ≤ s.D.length) :
    ∃ c s', s.run (mops m no ar fr B) = (c, s') ∧ ((c = 0 ∧ s'.up = true ∧ (∀ i, s'.W i = []) ∧ s'.D = (app (wops (2 + ar * m + fr) B) s.D).set ((no + 1) % 2) (hdB (no + 1) ar (64 * fr + B.length))) ∨ (c = 15 ∧ s'.up = false ∧ ∀ keep, Mix s.D (wops (2 + ar * m + fr) B) (s'.cr keep).D ∨ (s'.cr keep).D = (app (wops (2 + ar * m + fr) B) s.D).set ((no + 1) % 2) (hdB (no + 1) ar (64 * fr + B.length)))) := by
  obtain ⟨c, s1, g1, g2⟩ := flush_cut (A := wops (2 + ar * m + fr) B) hu hW (wops_some _ _ B (Nat.le_refl _)) (fun p hp => by have := wops_mem B.length (2 + ar * m + fr) B (Nat.le_refl _) hB p hp; exact ⟨by omega, this.2.1⟩)
  unfold mops
  rw [Ds.run_app, g1]
  rcases g2 with ⟨rfl, k1, k2, k3⟩ | ⟨rfl, k1, k2⟩
  · rw [if_neg (by simp)]
    have hl : s1.D.length = s.D.length := by rw [k3, app_len]
    obtain ⟨c2, s2, j1, j2⟩ := flush_cut (A := [some ((no + 1) % 2, hdB (no + 1) ar (64 * fr + B.length))]) k1 k2 (by simp) (fun p hp => by
      have : p = ((no + 1) % 2, hdB (no + 1) ar (64 * fr + B.length)) := by simpa using hp
      subst this
      exact ⟨by show (no + 1) % 2 < _; omega, hdB_len _ _ _⟩)
    refine ⟨c2, s2, j1, ?_⟩
    rcases j2 with ⟨rfl, i1, i2, i3⟩ | ⟨rfl, i1, i2⟩
    · exact .inl ⟨rfl, i1, i2, by rw [i3, k3]; rfl⟩
    · refine .inr ⟨rfl, i1, fun keep => ?_⟩
      rcases mix_one (i2 keep) with e | e
      · left
        rw [e, k3]
        exact app_mix _ _
      · right
        rw [e, k3]
  · rw [if_pos (by simp)]
    exact ⟨15, s1, rfl, .inr ⟨rfl, k1, fun keep => .inl (k2 keep)⟩⟩
end Go.Proofs.YtcindeechmpalaaGreat
namespace Go.Proofs.YtcindeechmpalaaGreat
open Go.ChangeShapes Go.WideShapes Go.ChangeAt Go.RowKit Go.Deep Go.Maps
set_option linter.unusedVariables false
theorem gd_same {s t : Ds} {l : Lg} (h : Gd s l) (f : Free t) (e : t.D = s.D) : Gd t l := by
  have ham : t.am = s.am := by unfold Ds.am; rw [e]
  exact ⟨f, by rw [ham, e]; exact h.nums, by rw [ham, e]; exact h.lies, by rw [ham]; exact h.am, h.lost, h.room, h.wb⟩
theorem free_cr (s : Ds) (keep : List Int) : Free (s.cr keep) := ⟨rfl, rfl, fun _ => rfl⟩
/-- the head of what wops writes -/
theorem wops_at {at_ : Nat} {B : List Int} (hB : B ≠ []) (hb : IsBytes B) {p : Nat × List Int} (hp : some p ∈ wops at_ B) (h : p.1 = at_) : p.2 = pad64 (B.take 64) := by
  rw [wops_cons _ _ hB] at hp
  rcases List.mem_cons.1 hp with e | e
  · obtain rfl := Option.some.inj e
    rfl
  · have hd : IsBytes (B.drop 64) := bytes_of_mem fun x hx => bytes_mem hb x (List.mem_of_mem_drop hx)
    have := (wops_mem _ (at_ + 1) (B.drop 64) (Nat.le_refl _) hd p e).1
    omega
theorem mix_off {D E : List (List Int)} {at_ : Nat} {B : List Int} (hb : IsBytes B) (h : Mix D (wops at_ B) E) (i : Nat) (hi : i < at_ ∨ at_ + (B.length + 63) / 64 ≤ i) : E[i]? = D[i]? := by
  rcases h.2 i with e | ⟨p, h1, h2, _⟩
  · exact e
  · have := (wops_mem _ at_ B (Nat.le_refl _) hb p h1).1
    omega
theorem mix_64 {D E : List (List Int)} {at_ : Nat} {B : List Int} (hb : IsBytes B) (hD : Is64 D) (h : Mix D (wops at_ B) E) : Is64 E := by
  intro x hx
  obtain ⟨i, hi⟩ := List.getElem?_of_mem hx
  rcases h.2 i with e | ⟨p, h1, _, h3⟩
  · rw [e] at hi
    exact hD x (List.mem_of_getElem? hi)
  · rw [h3] at hi
    obtain rfl := Option.some.inj hi
    exact (wops_mem _ at_ B (Nat.le_refl _) hb p h1).2
/-- the records stay, where only blocks that are not theirs may have changed -/
theorem gd_off {s t : Ds} {l : Lg} {at_ : Nat} {B : List Int} (h : Gd s l) (hb : IsBytes B) (f : Free t) (hm : Mix s.D (wops at_ B) t.D) (h2 : 2 ≤ at_) (hl : (catD t.D (2 + l.ar * s.am) ((l.ln + 63) / 64)).take l.ln = joinL l.R) : Gd t l := by
  have ham : t.am = s.am := by unfold Ds.am; rw [hm.1]
  have hn := h.nums
  refine ⟨f, ⟨mix_64 hb hn.is64 hm, by rw [hm.1]; exact hn.len, by rw [ham, hm.1]; exact hn.mm, hn.nn, hn.aa, by rw [ham]; exact hn.ln, hn.rb⟩, ⟨?_, ?_, ?_⟩, by rw [ham]; exact h.am, h.lost, h.room, h.wb⟩
  · rw [mix_off hb hm _ (.inl (by omega))]
    exact h.lies.hd
  · intro b hb2
    rw [mix_off hb hm _ (.inl (by omega))] at hb2
    rw [ham]
    exact h.lies.oth b hb2
  · rw [ham]
    exact hl
theorem sync_parts {s : Ds} {l : Lg} (h : Gd s l) : joinL l.R = catD s.D (2 + l.ar * s.am) (l.ln / 64) ++ l.part s ∧ (l.part s).length = l.ln % 64 ∧ IsBytes (l.part s) ∧ l.part s = (catD s.D (2 + l.ar * s.am + l.ln / 64) ((l.ln % 64 + 63) / 64)).take (l.ln % 64) ∧ (catD s.D (2 + l.ar * s.am) (l.ln / 64)).length = 64 * (l.ln / 64) := by
  have hn := h.nums
  have hlen := hn.len
  have hmm := hn.mm
  have hroom := h.room
  rw [h.am] at hroom
  have har : l.ar * s.am ≤ s.am := by have := hn.aa; rcases (by omega : l.ar = 0 ∨ l.ar = 1) with e | e <;> rw [e] <;> omega
  have hlnm : l.ln ≤ 64 * s.am := by omega
  have hq : (catD s.D (2 + l.ar * s.am) (l.ln / 64)).length = 64 * (l.ln / 64) := catD_len hn.is64 _ _ (by omega)
  have hpart : l.part s = (catD s.D (2 + l.ar * s.am + l.ln / 64) ((l.ln % 64 + 63) / 64)).take (l.ln % 64) := by unfold Lg.part; rw [cat_nil h.free.W, h.am]
  have hlog : joinL l.R = catD s.D (2 + l.ar * s.am) (l.ln / 64) ++ l.part s := by
    have e1 : (l.ln + 63) / 64 = l.ln / 64 + (l.ln % 64 + 63) / 64 := by omega
    have g := h.lies.log
    have e2 : (joinL l.R).length = l.ln := rfl
    rw [e2, e1, catD_add, List.take_append, hq, show l.ln - 64 * (l.ln / 64) = l.ln % 64 by omega, List.take_of_length_le (by rw [hq]; omega)] at g
    rw [hpart]
    exact g.symm
  have hpl : (l.part s).length = l.ln % 64 := by
    have := congrArg List.length hlog
    rw [List.length_append, hq] at this
    have e2 : (joinL l.R).length = l.ln := rfl
    omega
  have hpb : IsBytes (l.part s) := by
    have hb : IsBytes (joinL l.R) := joinL_bytes _ fun B hB => (hn.rb B hB).1
    rw [hlog] at hb
    exact bytes_of_mem fun x hx => bytes_mem hb x (List.mem_append_right _ hx)
  exact ⟨hlog, hpl, hpb, hpart, hq⟩
/-- Sync, cut off ahead of its head: the old records stand -/
theorem sync_old {s t : Ds} {l : Lg} (h : Gd s l) (hW : joinL l.W ≠ []) (f : Free t) (hm : Mix s.D (wops (2 + l.ar * s.am + l.ln / 64) (l.part s ++ joinL l.W)) t.D) : Gd t l := by
  obtain ⟨hlog, hpl, hpb, hpart, hq⟩ := sync_parts h
  have hjl : IsBytes (joinL l.W) := joinL_bytes _ fun B hB => (h.wb B hB).1
  have hb := bytes_app hpb hjl
  refine gd_off h hb f hm (by omega) ?_
  have e1 : (l.ln + 63) / 64 = l.ln / 64 + (l.ln % 64 + 63) / 64 := by omega
  have c1 : catD t.D (2 + l.ar * s.am) (l.ln / 64) = catD s.D (2 + l.ar * s.am) (l.ln / 64) := catD_same _ _ fun j h1 h2 => mix_off hb hm j (.inl (by omega))
  rw [e1, catD_add, c1, List.take_append, hq, show l.ln - 64 * (l.ln / 64) = l.ln % 64 by omega, List.take_of_length_le (by rw [hq]; omega), hlog]
  congr 1
  by_cases h0 : l.ln % 64 = 0
  · rw [h0] at hpl ⊢
    rw [List.length_eq_zero_iff.1 hpl]
    rfl
  · have e3 : (l.ln % 64 + 63) / 64 = 1 := by omega
    rw [e3] at hpart ⊢
    rcases hm.2 (2 + l.ar * s.am + l.ln / 64) with e | ⟨p, h1, h2, h3⟩
    · rw [hpart]
      congr 1
      exact catD_same _ _ fun j j1 j2 => by
        have : j = 2 + l.ar * s.am + l.ln / 64 := by omega
        rw [this]; exact e
    · have e4 := wops_at (by intro e; exact hW (List.append_eq_nil_iff.1 e).2) hb h1 h2
      have e5 : catD t.D (2 + l.ar * s.am + l.ln / 64) 1 = p.2 := by
        show bAt t.D _ ++ [] = _
        unfold bAt
        rw [h3, List.append_nil]
        rfl
      rw [e5, e4]
      unfold pad64
      rw [List.take_append_of_le_length (by rw [List.length_take, List.length_append]; omega), List.take_take, show min (l.ln % 64) 64 = l.ln % 64 by omega, List.take_append_of_le_length (by omega), List.take_of_length_le (by omega)]
/-- Reset, cut off ahead of its head: the old records stand -/
theorem reset_old {s t : Ds} {l : Lg} (h : Gd s l) (B : List Int) (hb : IsBytes B) (hB : B.length ≤ 64 * s.am) (f : Free t) (hm : Mix s.D (wops (2 + (1 - l.ar) * s.am + 0) B) t.D) : Gd t l := by
  have hn := h.nums
  have hroom := h.room
  rw [h.am] at hroom
  refine gd_off h hb f hm (by omega) ?_
  have c1 : catD t.D (2 + l.ar * s.am) ((l.ln + 63) / 64) = catD s.D (2 + l.ar * s.am) ((l.ln + 63) / 64) := catD_same _ _ fun j h1 h2 => mix_off hb hm j (by
    have := hn.aa
    rcases (by omega : l.ar = 0 ∨ l.ar = 1) with e | e
    · rw [e] at h1 h2 ⊢
      left
      omega
    · rw [e] at h1 h2 ⊢
      right
      omega)
  rw [c1]
  exact h.lies.log
end Go.Proofs.YtcindeechmpalaaGreat
namespace Go.Proofs.YtcindeechmpalaaGreat
open Go.ChangeShapes Go.WideShapes Go.ChangeAt Go.RowKit Go.Deep Go.Maps
set_option linter.unusedVariables false
/-- a log and its disk that agree, whatever the fuse -/
structure Gu (s : Ds) (l : Lg) : Prop where
  up : s.up = true
  W : ∀ i, s.W i = []
  gd : Gd { s with fu := -1 } l
theorem Gu.of {s : Ds} {l : Lg} (h : Gd s l) : Gu s l := ⟨h.free.up, h.free.W, gd_same h ⟨h.free.up, rfl, h.free.W⟩ rfl⟩
theorem Gu.made {s t : Ds} {l : Lg} (h : Gd t l) (hu : s.up = true) (hW : ∀ i, s.W i = []) (e : s.D = t.D) : Gu s l := ⟨hu, hW, gd_same h ⟨hu, rfl, hW⟩ e⟩
theorem sync_cut {s : Ds} {l : Lg} (h : Gu s l) (hno : l.no < 1152921504606846976) (hW : l.W ≠ []) : ∃ c l' s', l.sync s = (c, l', s') ∧ ((c = 0 ∧ l' = { l with no := l.no + 1, R := l.R ++ l.W, W := [] } ∧ Gu s' l' ∧ s'.D.length = s.D.length) ∨ (c = 15 ∧ l' = { l with lost := true } ∧ s'.up = false ∧ ∀ keep, Gd (s'.cr keep) l ∨ Gd (s'.cr keep) { l with no := l.no + 1, R := l.R ++ l.W, W := [] })) := by
  obtain ⟨s1, e, g, hD⟩ := gd_sync h.gd hno hW
  obtain ⟨hlog, hpl, hpb, hpart, hq⟩ := sync_parts h.gd
  have hn := h.gd.nums
  have hlen := hn.len
  have hmm := hn.mm
  have hroom := h.gd.room
  have ham := h.gd.am
  rw [ham] at hroom
  have hjl : IsBytes (joinL l.W) := joinL_bytes _ fun B hB => (h.gd.wb B hB).1
  have hB := bytes_app hpb hjl
  have hBl : (l.part { s with fu := -1 } ++ joinL l.W).length = l.ln % 64 + (joinL l.W).length := by rw [List.length_append, hpl]
  have har : l.ar * l.m ≤ l.m := by have := hn.aa; rcases (by omega : l.ar = 0 ∨ l.ar = 1) with e | e <;> rw [e] <;> omega
  have hfit : 2 + l.ar * l.m + l.ln / 64 + ((l.part { s with fu := -1 } ++ joinL l.W).length + 63) / 64 ≤ s.D.length := by
    have hlen' : 6 ≤ s.D.length := hlen.1
    have hm' : l.m = (s.D.length - 2) / 2 := by rw [ham]; exact hmm
    rw [← ham] at hroom
    rw [hBl]
    rcases (by have := hn.aa; omega : l.ar = 0 ∨ l.ar = 1) with e | e <;> rw [e] <;> omega
  have h2 : 2 ≤ s.D.length := by have : 6 ≤ s.D.length := hlen.1; omega
  have hJ : joinL l.W ≠ [] := fun e => by
    have h1 := joinL_count l.W
    rw [e] at h1
    have h1' : 8 * l.W.length ≤ 0 := h1
    have : l.W.length = 0 := by omega
    exact hW (List.length_eq_zero_iff.1 this)
  obtain ⟨s2, k1, k2, k3⟩ := mops_free h.gd.free l.m l.no l.ar (l.ln / 64) (l.part { s with fu := -1 } ++ joinL l.W) hB hfit h2
  have hs : s1 = s2 := by
    unfold Lg.sync at e
    rw [if_neg (by rw [h.gd.lost]; simp), if_neg hW, if_neg (by show ¬ s.up = false; rw [h.up]; simp), k1, if_pos rfl] at e
    exact (Prod.mk.inj (Prod.mk.inj e).2).2.symm
  subst hs
  obtain ⟨c, s3, j1, j2⟩ := mops_cut h.up h.W l.m l.no l.ar (l.ln / 64) (l.part { s with fu := -1 } ++ joinL l.W) hB hfit h2
  have hpe : l.part { s with fu := -1 } = l.part s := by unfold Lg.part; rw [cat_nil h.W, cat_nil (s := { s with fu := -1 }) h.W]
  have j1' : s.run (mops l.m l.no l.ar (l.ln / 64) (l.part s ++ joinL l.W)) = (c, s3) := by rw [← hpe]; exact j1
  rcases j2 with ⟨rfl, i1, i2, i3⟩ | ⟨rfl, i1, i2⟩
  · refine ⟨0, _, s3, ?_, .inl ⟨rfl, rfl, Gu.made g i1 i2 (i3.trans k3.symm), ?_⟩⟩
    · unfold Lg.sync
      rw [if_neg (by rw [h.gd.lost]; simp), if_neg hW, if_neg (by rw [h.up]; simp), j1', if_pos rfl]
    · rw [i3, List.length_set, app_len]
  · refine ⟨15, _, s3, ?_, .inr ⟨rfl, rfl, i1, fun keep => ?_⟩⟩
    · unfold Lg.sync
      rw [if_neg (by rw [h.gd.lost]; simp), if_neg hW, if_neg (by rw [h.up]; simp), j1', if_neg (by simp)]
    · rcases i2 keep with m1 | m1
      · left
        rw [ham] at m1
        exact sync_old h.gd hJ (free_cr _ _) m1
      · right
        exact gd_same g (free_cr _ _) (m1.trans k3.symm)
theorem reset_cut {s : Ds} {l : Lg} (h : Gu s l) (hno : l.no < 1152921504606846976) (hW : l.W = []) (recs : List (List Int)) (hb : ∀ B ∈ recs, IsBytes B) (hf : (frO recs (64 * l.m)).2 = 0) : ∃ c l' s', l.reset s recs = (c, l', s') ∧ ((c = 0 ∧ l' = { l with no := l.no + 1, ar := 1 - l.ar, R := recs, W := [] } ∧ Gu s' l' ∧ s'.D.length = s.D.length) ∨ (c = 15 ∧ l' = { l with lost := true } ∧ s'.up = false ∧ ∀ keep, Gd (s'.cr keep) l ∨ Gd (s'.cr keep) { l with no := l.no + 1, ar := 1 - l.ar, R := recs, W := [] })) := by
  obtain ⟨s1, e, g, hD⟩ := gd_reset h.gd hno hW recs hb hf
  obtain ⟨f1, f2, f3⟩ := frO_ok hf
  have hn := h.gd.nums
  have hlen := hn.len
  have hmm := hn.mm
  have ham := h.gd.am
  have hjl : IsBytes (joinL recs) := joinL_bytes _ hb
  have hfit : 2 + (1 - l.ar) * l.m + 0 + ((joinL recs).length + 63) / 64 ≤ s.D.length := by
    have hlen' : 6 ≤ s.D.length := hlen.1
    have hm' : l.m = (s.D.length - 2) / 2 := by rw [ham]; exact hmm
    rcases (by have := hn.aa; omega : l.ar = 0 ∨ l.ar = 1) with e | e <;> rw [e] <;> omega
  have h2 : 2 ≤ s.D.length := by have : 6 ≤ s.D.length := hlen.1; omega
  obtain ⟨s2, k1, k2, k3⟩ := mops_free h.gd.free l.m l.no (1 - l.ar) 0 (joinL recs) hjl hfit h2
  have hs : s1 = s2 := by
    unfold Lg.reset at e
    rw [if_neg (by rw [h.gd.lost]; simp), if_neg (by simpa using hW), if_neg (by simpa using hf), k1, if_pos rfl] at e
    exact (Prod.mk.inj (Prod.mk.inj e).2).2.symm
  subst hs
  obtain ⟨c, s3, j1, j2⟩ := mops_cut h.up h.W l.m l.no (1 - l.ar) 0 (joinL recs) hjl hfit h2
  rcases j2 with ⟨rfl, i1, i2, i3⟩ | ⟨rfl, i1, i2⟩
  · refine ⟨0, _, s3, ?_, .inl ⟨rfl, rfl, Gu.made g i1 i2 (i3.trans k3.symm), ?_⟩⟩
    · unfold Lg.reset
      rw [if_neg (by rw [h.gd.lost]; simp), if_neg (by simpa using hW), if_neg (by simpa using hf), j1, if_pos rfl]
    · rw [i3, List.length_set, app_len]
  · refine ⟨15, _, s3, ?_, .inr ⟨rfl, rfl, i1, fun keep => ?_⟩⟩
    · unfold Lg.reset
      rw [if_neg (by rw [h.gd.lost]; simp), if_neg (by simpa using hW), if_neg (by simpa using hf), j1, if_neg (by simp)]
    · rcases i2 keep with m1 | m1
      · left
        rw [ham] at m1
        exact reset_old h.gd (joinL recs) hjl (by rw [ham] at f2; exact f2) (free_cr _ _) m1
      · right
        exact gd_same g (free_cr _ _) (m1.trans k3.symm)
end Go.Proofs.YtcindeechmpalaaGreat
namespace Go.Proofs.YtcindeechmpalaaGreat
open Go.ChangeShapes Go.WideShapes Go.ChangeAt Go.RowKit Go.Deep Go.Maps
set_option linter.unusedVariables false
/-- the log of a new disk of n blocks -/
def lg0 (n : Nat) : Lg := ⟨(n - 2) / 2, 1, 0, [], [], false⟩
/-- a disk that nothing was written to -/
structure Bare (n : Nat) (s : Ds) : Prop where
  up : s.up = true
  W : ∀ i, s.W i = []
  D : s.D = noughts n
theorem open_cut {n : Nat} {s : Ds} (h6 : 6 ≤ n) (hn : n ≤ 4096) (h : Bare n s) : ∃ c o s', s.opn = (c, o, s') ∧ ((c = 0 ∧ o = some (lg0 n) ∧ Gu s' (lg0 n) ∧ s'.D.length = n) ∨ (c = 15 ∧ o = none ∧ s'.up = false ∧ ∀ keep, Bare n (s'.cr keep) ∨ Gd (s'.cr keep) (lg0 n))) := by
  obtain ⟨s1, e, g, hD1⟩ := gd_new n h6 hn
  have hl0 : (Ds.new n).D.length = n := by simp [Ds.new, noughts]
  have hl : s.D.length = n := by rw [h.D]; simp [noughts]
  have hA : ∀ p, some p ∈ [some (1, hdB 1 0 0)] → p.1 < n ∧ p.2.length = 64 := fun p hp => by
    have : p = (1, hdB 1 0 0) := by simpa using hp
    subst this
    exact ⟨by show 1 < _; omega, hdB_len _ _ _⟩
  obtain ⟨s2, k1, k2, k3⟩ := run_flush (A := [some (1, hdB 1 0 0)]) (s := Ds.new n) ⟨rfl, rfl, fun _ => rfl⟩ (by simp) (fun p hp => by rw [hl0]; exact hA p hp)
  have k1' : (Ds.new n).run [some (1, hdB 1 0 0), none] = (0, s2) := k1
  have hzn : ∀ (t : Ds), t.D = noughts n → (∀ i, t.W i = []) → ∀ i, i < n → t.cur i = List.replicate 64 0 := fun t ht hw i hi => by
    rw [cur_nil hw, bAt, ht]
    unfold noughts
    rw [List.getElem?_replicate, if_pos hi]
    rfl
  have hs : s1 = s2 := by
    rw [Ds.opn, if_neg (by simp [Ds.new]), if_neg (by omega), Ds.fob, if_pos ⟨hzn _ rfl (fun _ => rfl) 0 (by omega), hzn _ rfl (fun _ => rfl) 1 (by omega)⟩, k1', if_pos rfl] at e
    exact (Prod.mk.inj (Prod.mk.inj e).2).2.symm
  subst hs
  have hD0 : (Ds.new n).D = noughts n := rfl
  obtain ⟨c, s3, j1, j2⟩ := flush_cut (A := [some (1, hdB 1 0 0)]) h.up h.W (by simp) (fun p hp => by rw [hl]; exact hA p hp)
  have j1' : s.run [some (1, hdB 1 0 0), none] = (c, s3) := j1
  have ham : s.am = (n - 2) / 2 := by unfold Ds.am; rw [hl]
  rcases j2 with ⟨rfl, i1, i2, i3⟩ | ⟨rfl, i1, i2⟩
  · refine ⟨0, some (lg0 n), s3, ?_, .inl ⟨rfl, rfl, Gu.made g i1 i2 (by rw [i3, k3, h.D, hD0]), by rw [i3, app_len, hl]⟩⟩
    rw [Ds.opn, if_neg (by rw [h.up]; simp), if_neg (by omega), Ds.fob, if_pos ⟨hzn _ h.D h.W 0 (by omega), hzn _ h.D h.W 1 (by omega)⟩, j1', if_pos rfl, ham]
    rfl
  · refine ⟨15, none, s3, ?_, .inr ⟨rfl, rfl, i1, fun keep => ?_⟩⟩
    · rw [Ds.opn, if_neg (by rw [h.up]; simp), if_neg (by omega), Ds.fob, if_pos ⟨hzn _ h.D h.W 0 (by omega), hzn _ h.D h.W 1 (by omega)⟩, j1', if_neg (by simp)]
      rfl
    · rcases mix_one (i2 keep) with m | m
      · left
        exact ⟨rfl, fun _ => rfl, m.trans h.D⟩
      · right
        exact gd_same g (free_cr _ _) (by rw [m, k3, h.D, hD0]; rfl)
theorem gu_open {s : Ds} {l : Lg} (h : Gu s l) : s.opn = (0, some { l with W := [] }, s) := by
  have hg := h.gd
  have e := opn_lies (s := s) h.up h.W hg.nums hg.lies
  rw [e]
  have hm : l.m = s.am := hg.am
  have hl := hg.lost
  cases l
  simp only at hm hl
  subst hm hl
  rfl
end Go.Proofs.YtcindeechmpalaaGreat
namespace Go.Proofs.YtcindeechmpalaaGreat
open Go.ChangeShapes Go.WideShapes Go.ChangeAt Go.RowKit Go.Deep Go.Maps
set_option linter.unusedVariables false
theorem strs_ne {A B : List Int} (ha : IsBytes A) (hb : IsBytes B) (h : A ≠ B) : ((strOfNums A).toList == (strOfNums B).toList) = false := by
  rw [str_eq A B (bytes_mem ha) (bytes_mem hb), decide_eq_false h]
theorem list_ext_getD {l k : List (List Int)} (hl : l.length = k.length) (h : ∀ i, i < l.length → l.getD i [] = k.getD i []) : l = k := by
  apply List.ext_getElem hl
  intro i h1 h2
  have := h i h1
  rwa [List.getD_eq_getElem?_getD, List.getD_eq_getElem?_getD, List.getElem?_eq_getElem h1, List.getElem?_eq_getElem h2] at this
end Go.Proofs.YtcindeechmpalaaGreat
namespace Go.Proofs.YtcindeechmpalaaGreat
open Go.ChangeShapes Go.WideShapes Go.ChangeAt Go.RowKit Go.Deep Go.Maps
set_option linter.unusedVariables false
/-- in block bd the disk s, in block bl the log l of it, all made since w; the blocks P are neither's -/
structure Wl (w wr : World) (P : Nat → Prop) (bd bl N : Nat) (s : Ds) (l : Lg) : Prop where
  ex : ∃ F G, Dk wr F bd N s ∧ Lm wr G bl bd l ∧ (∀ k, G k → ¬ F k) ∧ (∀ k, F k → w.heap.size ≤ k) ∧ (∀ k, G k → w.heap.size ≤ k) ∧ ∀ k, P k → k < wr.heap.size ∧ ¬ F k ∧ ¬ G k
  ok : l.Ok N
  bel : Below w.heap.size w wr
/-- in block bd the disk s alone -/
structure Wd (w wr : World) (P : Nat → Prop) (bd N : Nat) (s : Ds) : Prop where
  ex : ∃ F, Dk wr F bd N s ∧ (∀ k, F k → w.heap.size ≤ k) ∧ ∀ k, P k → k < wr.heap.size ∧ ¬ F k
  bel : Below w.heap.size w wr
theorem Wl.disk {w wr : World} {P : Nat → Prop} {bd bl N : Nat} {s : Ds} {l : Lg} (h : Wl w wr P bd bl N s l) : Wd w wr P bd N s := by
  obtain ⟨F, G, d, _, _, f, _, p⟩ := h.ex
  exact ⟨⟨F, d, f, fun k hk => ⟨(p k hk).1, (p k hk).2.1⟩⟩, h.bel⟩
theorem Wl.more {w wr : World} {P : Nat → Prop} {bd bl N N' : Nat} {s : Ds} {l : Lg} (h : Wl w wr P bd bl N s l) (hN : N ≤ N') : Wl w wr P bd bl N' s l := by
  obtain ⟨F, G, d, r⟩ := h.ex
  exact ⟨⟨F, G, d.more hN, r⟩, h.ok.more hN, h.bel⟩
theorem Wd.more {w wr : World} {P : Nat → Prop} {bd N N' : Nat} {s : Ds} (h : Wd w wr P bd N s) (hN : N ≤ N') : Wd w wr P bd N' s := by
  obtain ⟨F, d, r⟩ := h.ex
  exact ⟨⟨F, d.more hN, r⟩, h.bel⟩
theorem Wl.less {w wr : World} {P Q : Nat → Prop} {bd bl N : Nat} {s : Ds} {l : Lg} (h : Wl w wr P bd bl N s l) (hQ : ∀ k, Q k → P k) : Wl w wr Q bd bl N s l := by
  obtain ⟨F, G, a1, a2, a3, a4, a5, a6⟩ := h.ex
  exact ⟨⟨F, G, a1, a2, a3, a4, a5, fun k hk => a6 k (hQ k hk)⟩, h.ok, h.bel⟩
/-- whatever was made since is neither's -/
theorem Wl.keep {w wr w' : World} {P : Nat → Prop} {bd bl N : Nat} {s : Ds} {l : Lg} (h : Wl w wr P bd bl N s l) (hb : Below wr.heap.size wr w') : Wl w w' (fun k => P k ∨ (wr.heap.size ≤ k ∧ k < w'.heap.size)) bd bl N s l := by
  obtain ⟨F, G, a1, a2, a3, a4, a5, a6⟩ := h.ex
  refine ⟨⟨F, G, a1.keep hb, a2.keep hb, a3, a4, a5, fun k hk => ?_⟩, h.ok, h.bel.trans (hb.mono h.bel.size)⟩
  rcases hk with hk | ⟨k1, k2⟩
  · have := a6 k hk
    exact ⟨Nat.lt_of_lt_of_le this.1 hb.size, this.2⟩
  · exact ⟨k2, fun e => by have := a1.lt k e; omega, fun e => by have := a2.lt k e; omega⟩
theorem Wd.keep {w wr w' : World} {P : Nat → Prop} {bd N : Nat} {s : Ds} (h : Wd w wr P bd N s) (hb : Below wr.heap.size wr w') : Wd w w' (fun k => P k ∨ (wr.heap.size ≤ k ∧ k < w'.heap.size)) bd N s := by
  obtain ⟨F, a1, a2, a3⟩ := h.ex
  refine ⟨⟨F, a1.keep hb, a2, fun k hk => ?_⟩, h.bel.trans (hb.mono h.bel.size)⟩
  rcases hk with hk | ⟨k1, k2⟩
  · exact ⟨Nat.lt_of_lt_of_le (a3 k hk).1 hb.size, (a3 k hk).2⟩
  · exact ⟨k2, fun e => by have := a1.lt k e; omega⟩
theorem Wl.keep0 {w wr w' : World} {P : Nat → Prop} {bd bl N : Nat} {s : Ds} {l : Lg} (h : Wl w wr P bd bl N s l) (hb : Below wr.heap.size wr w') : Wl w w' P bd bl N s l := (h.keep hb).less fun _ hk => .inl hk
theorem Wl.stepB {w wr w' : World} {P : Nat → Prop} {bd bl N' : Nat} {s' : Ds} {l' : Lg} {F F' G G' : Nat → Prop} (hB : Below w.heap.size w wr) (hF : ∀ k, F k → w.heap.size ≤ k) (hG : ∀ k, G k → w.heap.size ≤ k) (hP : ∀ k, P k → k < wr.heap.size ∧ ¬ F k ∧ ¬ G k) (hd : Dk w' F' bd N' s') (hl : Lm w' G' bl bd l') (hs : StepB F F' G G' wr w') (hx : ∀ k, G' k → ¬ F' k) (hok : l'.Ok N') : Wl w w' P bd bl N' s' l' ∧ ∀ k, P k → w'.heap[k]? = wr.heap[k]? := by
  refine ⟨⟨⟨F', G', hd, hl, hx, fun k hk => ?_, fun k hk => ?_, fun k hk => ⟨Nat.lt_of_lt_of_le (hP k hk).1 hs.off.size, fun e => ?_, fun e => ?_⟩⟩, hok, hB.trans (hs.off.below (fun k hk => hk.elim (hF k) (hG k)) hB.size)⟩, fun k hk => hs.off.block k (hP k hk).1 (fun e => e.elim (hP k hk).2.1 (hP k hk).2.2)⟩
  · rcases hs.sub k hk with e | e
    · exact hF k e
    · exact Nat.le_trans hB.size e
  · rcases hs.sug k hk with e | e
    · exact hG k e
    · exact Nat.le_trans hB.size e
  · rcases hs.sub k e with e | e
    · exact (hP k hk).2.1 e
    · have := (hP k hk).1; omega
  · rcases hs.sug k e with e | e
    · exact (hP k hk).2.2 e
    · have := (hP k hk).1; omega
theorem sync_ok {l : Lg} {s : Ds} {N : Nat} (h : l.Ok N) : (l.sync s).2.1.Ok (N + 2100) := by
  unfold Lg.sync
  split
  · exact h.more (by omega)
  · split
    · exact h.more (by omega)
    · split
      · exact ⟨h.m, by have := h.no; show l.no ≤ _; omega, h.ar, h.room, h.rb, h.wb⟩
      · split
        · refine ⟨h.m, by have := h.no; show l.no + 1 ≤ _; omega, h.ar, ?_, fun B hB => ?_, fun B hB => by cases hB⟩
          · show (joinL (l.R ++ l.W)).length + 0 ≤ 64 * l.m
            have e : (joinL (l.R ++ l.W)).length = l.ln + (joinL l.W).length := by rw [joinL_app, List.length_append]; rfl
            have := h.room
            omega
          · rcases List.mem_append.1 hB with e | e
            · exact h.rb B e
            · exact h.wb B e
        · exact ⟨h.m, by have := h.no; show l.no ≤ _; omega, h.ar, h.room, h.rb, h.wb⟩
theorem reset_ok {l : Lg} {s : Ds} {N : Nat} (h : l.Ok N) {recs : List (List Int)} (hb : ∀ B ∈ recs, IsBytes B) : (l.reset s recs).2.1.Ok (N + 2100) := by
  unfold Lg.reset
  split
  · exact h.more (by omega)
  · split
    · exact h.more (by omega)
    · split
      · exact h.more (by omega)
      · rename_i h3
        split
        · obtain ⟨f1, f2, f3⟩ := frO_ok (show (frO recs (64 * l.m)).2 = 0 by simpa using h3)
          exact ⟨h.m, by have := h.no; show l.no + 1 ≤ _; omega, by show 1 - l.ar ≤ 1; omega, by show (joinL recs).length + 0 ≤ 64 * l.m; omega, fun B hB => ⟨hb B hB, f3 B hB⟩, fun B hB => by cases hB⟩
        · exact ⟨h.m, by have := h.no; show l.no ≤ _; omega, h.ar, h.room, h.rb, h.wb⟩
theorem wl_add {w wr : World} {P : Nat → Prop} {bd bl N : Nat} {s : Ds} {l : Lg} (T : Wl w wr P bd bl N s l) (rec : List Int) (hB : IsBytes rec) : Calls Tryz.prog 79 #[.pointer (some ⟨bl, 0, none⟩), .string (strOfNums rec)] wr fun e w' => e = .returned (.int .i64 (l.add rec).1) ∧ Wl w w' P bd bl N s (l.add rec).2 ∧ ∀ k, P k → w'.heap[k]? = wr.heap[k]? := by
  obtain ⟨F, G, a1, a2, a3, a4, a5, a6⟩ := T.ex
  refine (add_is wr G bl bd N l a2 T.ok rec hB).mono ?_
  rintro e w' ⟨rfl, G', hl, hs⟩
  exact ⟨rfl, Wl.stepB T.bel a4 a5 a6 (a1.apartL hs a3) hl hs.toBG (fun k hk hf => by
    rcases hs.sub k hk with e | e
    · exact a3 k e hf
    · have := a1.lt k hf; omega) (Lg.add_ok T.ok hB)⟩
theorem wl_sync {w wr : World} {P : Nat → Prop} {bd bl N : Nat} {s : Ds} {l : Lg} (T : Wl w wr P bd bl N s l) (hfit : 2 + l.ar * l.m + l.m ≤ s.D.length) (hN : N + 3000 < 999900) : Calls Tryz.prog 80 #[.pointer (some ⟨bl, 0, none⟩)] wr fun e w' => e = .returned (.int .i64 (l.sync s).1) ∧ Wl w w' P bd bl (N + 2100) (l.sync s).2.2 (l.sync s).2.1 ∧ ∀ k, P k → w'.heap[k]? = wr.heap[k]? := by
  obtain ⟨F, G, a1, a2, a3, a4, a5, a6⟩ := T.ex
  refine (sync_is wr F G bl bd N s l a1 a2 T.ok a3 hfit hN).mono ?_
  rintro e w' ⟨rfl, F', G', hd, hl, hs, hx⟩
  exact ⟨rfl, Wl.stepB T.bel a4 a5 a6 hd hl hs hx (sync_ok T.ok)⟩
theorem wl_reset {w wr : World} {P : Nat → Prop} {bd bl N : Nat} {s : Ds} {l : Lg} (T : Wl w wr P bd bl N s l) (hN : N + 3000 < 999900) (a : Option Addr) (n c : Nat) (recs : List (List Int)) (hn : recs.length = n) (hn2 : n ≤ 1000000) (hin : InS wr a recs) (ha : a = none → n = 0 ∧ c = 0) (hB : ∀ B ∈ recs, IsBytes B) (hx : ∀ x, a = some x → recs ≠ [] → P x.block ∨ x.block < w.heap.size) : Calls Tryz.prog 48 #[.pointer (some ⟨bl, 0, none⟩), .slice a n c] wr fun e w' => e = .returned (.int .i64 (l.reset s recs).1) ∧ Wl w w' P bd bl (N + 2100) (l.reset s recs).2.2 (l.reset s recs).2.1 ∧ ∀ k, P k → w'.heap[k]? = wr.heap[k]? := by
  obtain ⟨F, G, a1, a2, a3, a4, a5, a6⟩ := T.ex
  refine (reset_is wr F G bl bd N s l a1 a2 T.ok a3 hN a n c recs hn hn2 hin ha hB (fun x hx2 hne => ?_)).mono ?_
  · rcases hx x hx2 hne with h | h
    · exact (a6 _ h).2
    · exact ⟨fun e => by have := a4 _ e; omega, fun e => by have := a5 _ e; omega⟩
  · rintro e w' ⟨rfl, F', G', hd, hl, hs, hx⟩
    exact ⟨rfl, Wl.stepB T.bel a4 a5 a6 hd hl hs hx (reset_ok T.ok hB)⟩
theorem wl_room {w wr : World} {P : Nat → Prop} {bd bl N : Nat} {s : Ds} {l : Lg} (T : Wl w wr P bd bl N s l) : Calls Tryz.prog 110 #[.pointer (some ⟨bl, 0, none⟩)] wr fun e w' => e = .returned (.int .i64 (l.room : Nat)) ∧ Below wr.heap.size wr w' := by
  obtain ⟨F, G, a1, a2, _⟩ := T.ex
  exact wroom_is wr G bl bd N l a2 T.ok
theorem wl_records {w wr : World} {P : Nat → Prop} {bd bl N : Nat} {s : Ds} {l : Lg} (T : Wl w wr P bd bl N s l) : Calls Tryz.prog 38 #[.pointer (some ⟨bl, 0, none⟩)] wr fun e w' => ∃ v, e = .returned v ∧ RowsS w' wr.heap.size v l.R ∧ Below wr.heap.size wr w' := by
  obtain ⟨F, G, a1, a2, _⟩ := T.ex
  exact wrecords_is wr G bl bd N l a2 T.ok
theorem wd_blocks {w wr : World} {P : Nat → Prop} {bd N : Nat} {s : Ds} (T : Wd w wr P bd N s) : Calls Tryz.prog 70 #[.pointer (some ⟨bd, 0, none⟩)] wr fun e w' => e = .returned (.int .i64 (s.D.length : Int)) ∧ w' = wr := by
  obtain ⟨F, a1, _⟩ := T.ex
  exact dk_blocks wr F bd N s a1
theorem wd_new (n : Nat) (h1 : 1 ≤ n) (h2 : n ≤ 4096) (w wr : World) (hb : Below w.heap.size w wr) : Calls Tryz.prog 9 #[.int .i64 (n : Int)] wr fun e w' => ∃ b, e = .returned (.tuple #[.pointer (some ⟨b, 0, none⟩), .int .i64 0]) ∧ Wd w w' (fun k => k < wr.heap.size) b 0 (Ds.new n) ∧ Below wr.heap.size wr w' := by
  refine (dk_new n h1 h2 wr).mono ?_
  rintro e w' ⟨b, F, rfl, hd, hb2, hF⟩
  exact ⟨b, rfl, ⟨⟨F, hd, fun k hk => Nat.le_trans hb.size (hF k hk), fun k hk => ⟨Nat.lt_of_lt_of_le hk hb2.size, fun e => by have := hF k e; omega⟩⟩, hb.trans (hb2.mono hb.size)⟩, hb2⟩
/-- Open of a disk: the log is new -/
theorem wd_open {w wr : World} {P : Nat → Prop} {bd N : Nat} {s : Ds} (T : Wd w wr P bd N s) (hN : N < 999998) : Calls Tryz.prog 37 #[.pointer (some ⟨bd, 0, none⟩)] wr fun e w' => (∀ k, P k → w'.heap[k]? = wr.heap[k]?) ∧ wr.heap.size ≤ w'.heap.size ∧ ((s.opn.1 = 0 ∧ ∃ bl l, s.opn.2.1 = some l ∧ e = .returned (.tuple #[.pointer (some ⟨bl, 0, none⟩), .int .i64 0]) ∧ Wl w w' P bd bl (N + 2) s.opn.2.2 l ∧ 1 ≤ l.no) ∨ (s.opn.1 ≠ 0 ∧ e = .returned (.tuple #[.pointer none, .int .i64 s.opn.1]) ∧ Wd w w' P bd (N + 2) s.opn.2.2)) := by
  obtain ⟨F, a1, a2, a3⟩ := T.ex
  refine (open_is wr F bd N s a1 hN).mono ?_
  rintro e w' ⟨F', hd, hs, hor⟩
  have hF' : ∀ k, F' k → w.heap.size ≤ k := fun k hk => by
    rcases hs.sub k hk with e | e
    · exact a2 k e
    · exact Nat.le_trans T.bel.size e
  have hP' : ∀ k, P k → k < w'.heap.size ∧ ¬ F' k := fun k hk => ⟨Nat.lt_of_lt_of_le (a3 k hk).1 hs.off.size, fun e => by
    rcases hs.sub k e with e | e
    · exact (a3 k hk).2 e
    · have := (a3 k hk).1; omega⟩
  have hbel : Below w.heap.size w w' := T.bel.trans (hs.off.below a2 T.bel.size)
  refine ⟨fun k hk => hs.off.block k (a3 k hk).1 (a3 k hk).2, hs.off.size, ?_⟩
  rcases hor with ⟨h0, bl, G, l, hl, he, hm, hok, hno, hg1, hg2⟩ | ⟨h0, he⟩
  · exact .inl ⟨h0, bl, l, hl, he, ⟨⟨F', G, hd, hm, hg2, hF', fun k hk => Nat.le_trans T.bel.size (hg1 k hk), fun k hk => ⟨(hP' k hk).1, (hP' k hk).2, fun e => by have := hg1 k e; have := (a3 k hk).1; omega⟩⟩, hok.more (by omega), hbel⟩, hno⟩
  · exact .inr ⟨h0, he, ⟨⟨F', hd, hF', hP'⟩, hbel⟩⟩
theorem wd_crash {w wr : World} {P : Nat → Prop} {bd N : Nat} {s : Ds} (T : Wd w wr P bd N s) (hN : N ≤ 1000000) (ka : Option Addr) (kl kc : Nat) (keep : List Int) (hkl : keep.length = kl) (hin : InK wr ka keep) (hk : ∀ x, ka = some x → keep ≠ [] → P x.block ∨ x.block < w.heap.size) : Calls Tryz.prog 21 #[.pointer (some ⟨bd, 0, none⟩), .slice ka kl kc] wr fun e w' => e = .returned (.int .i64 0) ∧ Wd w w' P bd N (s.cr keep) ∧ (∀ k, P k → w'.heap[k]? = wr.heap[k]?) ∧ wr.heap.size ≤ w'.heap.size := by
  obtain ⟨F, a1, a2, a3⟩ := T.ex
  refine (dk_crash wr F bd N s a1 hN ka kl kc keep hkl hin (fun x hx hne hF => ?_)).mono ?_
  · rcases hk x hx hne with h | h
    · exact (a3 _ h).2 hF
    · have := a2 _ hF; omega
  · rintro e w' ⟨rfl, F', hd, hs⟩
    refine ⟨rfl, ⟨⟨F', hd, fun k hk => ?_, fun k hk => ⟨Nat.lt_of_lt_of_le (a3 k hk).1 hs.off.size, fun e => ?_⟩⟩, T.bel.trans (hs.off.below a2 T.bel.size)⟩, fun k hk => hs.off.block k (a3 k hk).1 (a3 k hk).2, hs.off.size⟩
    · rcases hs.sub k hk with e | e
      · exact a2 k e
      · exact Nat.le_trans T.bel.size e
    · rcases hs.sub k e with e | e
      · exact (a3 k hk).2 e
      · have := (a3 k hk).1; omega
end Go.Proofs.YtcindeechmpalaaGreat
namespace Go.Proofs.YtcindeechmpalaaGreat
open Go.ChangeShapes Go.WideShapes Go.ChangeAt Go.RowKit Go.Deep
set_option linter.unusedVariables false
theorem mem_weightsAll {H : Type} {P : Program} {e : TypeId} {q : Nat} : ∀ {l : List (DataW H)} {d : DataW H}, d ∈ l → q ∈ d.weights P e → q ∈ DataW.weightsAll P e l
  | [], _, h, _ => by cases h
  | x :: r, d, h, hq => by
    rw [DataW.weightsAll]
    rcases List.mem_cons.1 h with rfl | h
    · exact List.mem_append_left _ hq
    · exact List.mem_append_right _ (mem_weightsAll h hq)
theorem bytesT : Tryz.prog.bytesOf 9 = 16 := by kernel_rfl
theorem cellsT : Tryz.prog.cellsOf 9 = 1 := by kernel_rfl
/-- a slice of texts that came in: what it holds, with what its reach bounds -/
theorem open_texts {H : Type} {enc : TypeId × Value → H} {W : World} {fuel : Nat} {a : Option Addr} {len cap : Nat} {x : DataW H × List MemPlace} (h : DataW.trod enc Tryz.prog W 0 (fun _ => true) true fuel 82 [.slice a len cap] = some x) (hw : ∀ q ∈ x.1.weights Tryz.prog 82, q ≤ 140737488351232) :
    ∃ l, l.length = len ∧ InS W a l ∧ len ≤ 17592186044416 ∧ ∀ B ∈ l, IsBytes B ∧ B.length ≤ 140737488351232 := by
  rcases open_strings Tryz.underlying82 Tryz.underlying9 cellsT h with ⟨hcs, hx⟩ | ⟨a', len', cap', ss, hcs, _, hl, hm, hz, hx, hcell, hsz⟩
  · simp only [List.cons.injEq, and_true, Value.slice.injEq] at hcs
    obtain ⟨rfl, rfl, rfl⟩ := hcs
    exact ⟨[], rfl, .inl rfl, by omega, fun B hB => by cases hB⟩
  · simp only [List.cons.injEq, and_true, Value.slice.injEq] at hcs
    obtain ⟨rfl, rfl, rfl⟩ := hcs
    have hzl : ss.length = cap := by simpa using hz
    subst hx
    have htl : (ss.take len).length = len := by rw [List.length_take]; omega
    refine ⟨(ss.take len).map sN, by rw [List.length_map, htl], ?_, ?_, ?_⟩
    · by_cases h0 : len = 0
      · left
        subst h0
        rfl
      · right
        have hc0 := hcell 0 (by omega)
        obtain ⟨b, off, spot⟩ := a'
        have hspot : spot = none := by simpa [Addr.add] using World.cell?_spot hc0
        subst hspot
        refine ⟨b, off, rfl, fun i hi => ?_⟩
        rw [List.length_map, htl] at hi
        have hci := hcell i (by omega)
        rw [add_plain] at hci
        rw [hci]
        have hi2 : i < ss.length := by omega
        have hi3 : i < (ss.take len).length := by omega
        rw [List.getD_eq_getElem?_getD, List.getD_eq_getElem?_getD, List.getElem?_map, List.getElem?_eq_getElem hi3, List.getElem?_eq_getElem hi2, List.getElem_take]
        show some (Value.string ss[i]) = some (Value.string (strOfNums (sN ss[i])))
        rw [sN_str]
    · have hq := hw (((ss.take len).length + (ss.drop len).length) * 16) (by
        simp only [DataW.weights, Tryz.underlying82, bytesT, Go.ChangeShapes.strs, List.length_map]
        exact List.mem_cons_self)
      rw [htl, List.length_drop] at hq
      omega
    · intro B hB
      obtain ⟨S, hS, rfl⟩ := List.mem_map.1 hB
      refine ⟨sN_bytes S, ?_⟩
      rw [sN_len]
      refine hw _ ?_
      simp only [DataW.weights, Tryz.underlying82]
      refine List.mem_cons_of_mem _ (List.mem_append_left _ (mem_weightsAll (d := .lit (.string S.data.toList)) ?_ ?_))
      · exact List.mem_map.2 ⟨S, hS, rfl⟩
      · simp [DataW.weights]
end Go.Proofs.YtcindeechmpalaaGreat
namespace Go.Proofs.YtcindeechmpalaaGreat
open Go.ChangeShapes Go.WideShapes Go.ChangeAt Go.RowKit Go.Deep Go.Maps
set_option linter.unusedVariables false
theorem appTA {w : World} {ops : Array Oper} {rest : List Oper} {o : Oper} {act : Act} {Q : Exit → Act → World → Prop} (hgd : o.guard = none) (s x : Operand)
    (ho : o.op = .call { callee := .builtin .append, args := #[s, x], argTypes := #[82, 82] })
    (base : Nat) (v : Value) (l : List (List Int)) (hs : act.eval s = v) (hown : RowsS w base v l)
    (a : Option Addr) (m c : Nat) (y : List (List Int)) (hx : act.eval x = .slice a m c) (hm : y.length = m) (hin : InS w a y) (ha : a = none → m = 0 ∧ c = 0) (hN : l.length + m ≤ 5000000000000) (hbase : base ≤ w.heap.size)
    (h : ∀ v' w', RowsS w' base v' (l ++ y) → Below base w w' → wpList Tryz.prog ops Q rest (act.put o.dst v') w') : wpList Tryz.prog ops Q (o :: rest) act w := by
  cases a with
  | none =>
    obtain ⟨rfl, rfl⟩ := ha rfl
    obtain rfl : y = [] := List.length_eq_zero_iff.1 hm
    obtain ⟨i, hi, _⟩ := info_parts info9
    refine wpList_append_own_none hgd s x 82 ho base 9 i 1 Tryz.underlying82 hi _ _ _ hs hown hx ?_
    exact h _ _ (by rw [List.append_nil]; exact hown) (Below.refl _ _)
  | some x' => exact appTL hgd s x ho base v l hs hown x' m c y hx hm hin hN hbase fun v' w' h1 h2 _ => h v' w' h1 ((Below.refl _ _).grown h2 hbase fun k hk => (hown.own k hk).1)
theorem frO_code (recs : List (List Int)) (room : Nat) : (frO recs room).2 = 0 ∨ (frO recs room).2 = 3 ∨ (frO recs room).2 = 7 := by
  unfold frO
  split
  · exact .inr (.inl rfl)
  · split
    · exact .inr (.inr rfl)
    · exact .inl rfl
theorem reset_said {s : Ds} {l : Lg} (h : Gd s l) (hno : l.no < 1152921504606846976) (hW : l.W = []) (recs : List (List Int)) (hb : ∀ B ∈ recs, IsBytes B) :
    ∃ c l' s', l.reset s recs = (c, l', s') ∧ Gd s' l' ∧ s'.D.length = s.D.length ∧ l'.W = [] ∧ l'.m = l.m ∧ l'.no ≤ l.no + 1 ∧ ((c = 0 ∧ l'.R = recs) ∨ ((c = 3 ∨ c = 7) ∧ l'.R = l.R)) := by
  by_cases hf : (frO recs (64 * l.m)).2 = 0
  · obtain ⟨s', e, g, hD⟩ := gd_reset h hno hW recs hb hf
    exact ⟨0, _, s', e, g, hD, rfl, rfl, Nat.le_refl _, .inl ⟨rfl, rfl⟩⟩
  · refine ⟨(frO recs (64 * l.m)).2, l, s, ?_, h, rfl, hW, rfl, Nat.le_succ _, .inr ⟨(frO_code recs (64 * l.m)).resolve_left hf, rfl⟩⟩
    unfold Lg.reset
    rw [if_neg (by rw [h.lost]; simp), if_neg (by simpa using hW), if_pos hf]
theorem reset_state {s : Ds} {l : Lg} (hl : l.lost = false) (hW : l.W ≠ []) (recs : List (List Int)) : l.reset s recs = (11, l, s) := by
  unfold Lg.reset
  rw [if_neg (by rw [hl]; simp), if_pos hW]
theorem add_said {l : Lg} (hl : l.lost = false) (X : List Int) : ∃ c l', l.add X = (c, l') ∧ ((c ≠ 0 ∧ l' = l) ∨ (c = 0 ∧ l' = { l with W := l.W ++ [X] })) := by
  unfold Lg.add
  rw [if_neg (by rw [hl]; simp)]
  by_cases hf : (frO [X] l.room).2 = 0
  · rw [if_neg (by simpa using hf)]
    exact ⟨0, _, rfl, .inr ⟨rfl, rfl⟩⟩
  · rw [if_pos hf]
    exact ⟨_, _, rfl, .inl ⟨hf, rfl⟩⟩
/-- the old log, beside a new one -/
def Old (w' : World) (bd bl N : Nat) (l : Lg) : Prop := ∃ G, Lm w' G bl bd l ∧ l.Ok N
theorem Old.keep {w w' : World} {bd bl N : Nat} {l : Lg} (h : Old w bd bl N l) (hb : Below w.heap.size w w') : Old w' bd bl N l := by
  obtain ⟨G, h1, h2⟩ := h
  exact ⟨G, h1.keep hb, h2⟩
theorem old_records {wr : World} {bd bl N : Nat} {l : Lg} (h : Old wr bd bl N l) : Calls Tryz.prog 38 #[.pointer (some ⟨bl, 0, none⟩)] wr fun e w' => ∃ v, e = .returned v ∧ RowsS w' wr.heap.size v l.R ∧ Below wr.heap.size wr w' := by
  obtain ⟨G, h1, h2⟩ := h
  exact wrecords_is wr G bl bd N l h1 h2
theorem wl_open2 {w wr : World} {P : Nat → Prop} {bd bl N : Nat} {s s2 : Ds} {l l2 : Lg} (T : Wl w wr P bd bl N s l) (hN : N < 999998) (ho : s.opn = (0, some l2, s2)) : Calls Tryz.prog 37 #[.pointer (some ⟨bd, 0, none⟩)] wr fun e w' => ∃ bm, e = .returned (.tuple #[.pointer (some ⟨bm, 0, none⟩), .int .i64 0]) ∧ Wl w w' P bd bm (N + 2) s2 l2 ∧ Old w' bd bl N l ∧ ∀ k, P k → w'.heap[k]? = wr.heap[k]? := by
  obtain ⟨F, G, d, lm, x, f, g, p⟩ := T.ex
  have T2 : Wd w wr (fun k => P k ∨ G k) bd N s := ⟨⟨F, d, f, fun k hk => by
    rcases hk with hk | hk
    · exact ⟨(p k hk).1, (p k hk).2.1⟩
    · exact ⟨lm.lt k hk, x k hk⟩⟩, T.bel⟩
  refine (wd_open T2 hN).mono ?_
  rintro e w' ⟨hk, _, hor⟩
  rw [ho] at hor
  rcases hor with ⟨_, bm, l', hl, he, hw, _⟩ | ⟨h0, _⟩
  · obtain rfl := Option.some.inj hl
    exact ⟨bm, he, hw.less (fun k h => .inl h), ⟨G, lm.kept (fun k h => hk k (.inr h)), T.ok⟩, fun k h => hk k (.inl h)⟩
  · exact absurd rfl h0
end Go.Proofs.YtcindeechmpalaaGreat
