/- Sync and Reset under a fuse, plainly. Sync and Reset under a fuse: what a loss of power leaves. Open under a fuse, plainly: of a new disk, of one that has records. The document's Same; the statements' own works. A log and its disk that outlive calls; what is neither's. The statements' own works. The statements' own 'small'. Slices of texts that came in. -/
import Derived.Test.YtkhopmlhinkpcaaGreatMgWo15
import Derived.Test.YtkhopmlhinkpcaaGreatMgWo4
import Derived.SliceStrings
import Derived.SizedLaws
namespace Go.Proofs.YtkhopmlhinkpcaaGreat
open Go.ChangeShapes Go.WideShapes Go.ChangeAt Go.RowKit Go.Deep Go.Maps
set_option linter.unusedVariables false
theorem gd_same {s t : Ds} {l : Lg} (h : Gd s l) (f : Free t) (e : t.D = s.D) : Gd t l := by
  have ham : t.am = s.am := by unfold Ds.am; rw [e]
  exact ⟨f, by rw [ham, e]; exact h.nums, by rw [ham, e]; exact h.lies, by rw [ham]; exact h.am, h.lost, h.room, h.wb⟩
theorem free_cr (s : Ds) (keep : List Int) : Free (s.cr keep) := ⟨rfl, rfl, fun _ => rfl⟩
/-- the head of what wops writes -/
theorem wops_at {at_ : Nat} {B : List Int} (hB : B ≠ []) (hb : IsBytes B) {p : Nat × List Int} (hp : some p ∈ wops at_ B) (h : p.1 = at_) : p.2 = pad64 (B.take 64) := by
  rw [wops_cons _ _ hB] at hp
  rcases List.mem_cons.1 hp with e | e
  · obtain rfl := Option.some.inj e
    rfl
  · have hd : IsBytes (B.drop 64) := bytes_of_mem fun x hx => bytes_mem hb x (List.mem_of_mem_drop hx)
    have := (wops_mem _ (at_ + 1) (B.drop 64) (Nat.le_refl _) hd p e).1
    omega
theorem mix_off {D E : List (List Int)} {at_ : Nat} {B : List Int} (hb : IsBytes B) (h : Mix D (wops at_ B) E) (i : Nat) (hi : i < at_ ∨ at_ + (B.length + 63) / 64 ≤ i) : E[i]? = D[i]? := by
  rcases h.2 i with e | ⟨p, h1, h2, _⟩
  · exact e
  · have := (wops_mem _ at_ B (Nat.le_refl _) hb p h1).1
    omega
theorem mix_64 {D E : List (List Int)} {at_ : Nat} {B : List Int} (hb : IsBytes B) (hD : Is64 D) (h : Mix D (wops at_ B) E) : Is64 E := by
  intro x hx
  obtain ⟨i, hi⟩ := List.getElem?_of_mem hx
  rcases h.2 i with e | ⟨p, h1, _, h3⟩
  · rw [e] at hi
    exact hD x (List.mem_of_getElem? hi)
  · rw [h3] at hi
    obtain rfl := Option.some.inj hi
    exact (wops_mem _ at_ B (Nat.le_refl _) hb p h1).2
/-- the records stay, where only blocks that are not theirs may have changed -/
theorem gd_off {s t : Ds} {l : Lg} {at_ : Nat} {B : List Int} (h : Gd s l) (hb : IsBytes B) (f : Free t) (hm : Mix s.D (wops at_ B) t.D) (h2 : 2 ≤ at_) (hl : (catD t.D (2 + l.ar * s.am) ((l.ln + 63) / 64)).take l.ln = joinL l.R) : Gd t l := by
  have ham : t.am = s.am := by unfold Ds.am; rw [hm.1]
  have hn := h.nums
  refine ⟨f, ⟨mix_64 hb hn.is64 hm, by rw [hm.1]; exact hn.len, by rw [ham, hm.1]; exact hn.mm, hn.nn, hn.aa, by rw [ham]; exact hn.ln, hn.rb⟩, ⟨?_, ?_, ?_⟩, by rw [ham]; exact h.am, h.lost, h.room, h.wb⟩
  · rw [mix_off hb hm _ (.inl (by omega))]
    exact h.lies.hd
  · intro b hb2
    rw [mix_off hb hm _ (.inl (by omega))] at hb2
    rw [ham]
    exact h.lies.oth b hb2
  · rw [ham]
    exact hl
theorem sync_parts {s : Ds} {l : Lg} (h : Gd s l) : joinL l.R = catD s.D (2 + l.ar * s.am) (l.ln / 64) ++ l.part s ∧ (l.part s).length = l.ln % 64 ∧ IsBytes (l.part s) ∧ l.part s = (catD s.D (2 + l.ar * s.am + l.ln / 64) ((l.ln % 64 + 63) / 64)).take (l.ln % 64) ∧ (catD s.D (2 + l.ar * s.am) (l.ln / 64)).length = 64 * (l.ln / 64) := by
  have hn := h.nums
  have hlen := hn.len
  have hmm := hn.mm
  have hroom := h.room
  rw [h.am] at hroom
  have har : l.ar * s.am ≤ s.am := by have := hn.aa; rcases (by omega : l.ar = 0 ∨ l.ar = 1) with e | e <;> rw [e] <;> omega
  have hlnm : l.ln ≤ 64 * s.am := by omega
  have hq : (catD s.D (2 + l.ar * s.am) (l.ln / 64)).length = 64 * (l.ln / 64) := catD_len hn.is64 _ _ (by omega)
  have hpart : l.part s = (catD s.D (2 + l.ar * s.am + l.ln / 64) ((l.ln % 64 + 63) / 64)).take (l.ln % 64) := by unfold Lg.part; rw [cat_nil h.free.W, h.am]
  have hlog : joinL l.R = catD s.D (2 + l.ar * s.am) (l.ln / 64) ++ l.part s := by
    have e1 : (l.ln + 63) / 64 = l.ln / 64 + (l.ln % 64 + 63) / 64 := by omega
    have g := h.lies.log
    have e2 : (joinL l.R).length = l.ln := rfl
    rw [e2, e1, catD_add, List.take_append, hq, show l.ln - 64 * (l.ln / 64) = l.ln % 64 by omega, List.take_of_length_le (by rw [hq]; omega)] at g
    rw [hpart]
    exact g.symm
  have hpl : (l.part s).length = l.ln % 64 := by
    have := congrArg List.length hlog
    rw [List.length_append, hq] at this
    have e2 : (joinL l.R).length = l.ln := rfl
    omega
  have hpb : IsBytes (l.part s) := by
    have hb : IsBytes (joinL l.R) := joinL_bytes _ fun B hB => (hn.rb B hB).1
    rw [hlog] at hb
    exact bytes_of_mem fun x hx => bytes_mem hb x (List.mem_append_right _ hx)
  exact ⟨hlog, hpl, hpb, hpart, hq⟩
/-- Sync, cut off ahead of its head: the old records stand -/
theorem sync_old {s t : Ds} {l : Lg} (h : Gd s l) (hW : joinL l.W ≠ []) (f : Free t) (hm : Mix s.D (wops (2 + l.ar * s.am + l.ln / 64) (l.part s ++ joinL l.W)) t.D) : Gd t l := by
  obtain ⟨hlog, hpl, hpb, hpart, hq⟩ := sync_parts h
  have hjl : IsBytes (joinL l.W) := joinL_bytes _ fun B hB => (h.wb B hB).1
  have hb := bytes_app hpb hjl
  refine gd_off h hb f hm (by omega) ?_
  have e1 : (l.ln + 63) / 64 = l.ln / 64 + (l.ln % 64 + 63) / 64 := by omega
  have c1 : catD t.D (2 + l.ar * s.am) (l.ln / 64) = catD s.D (2 + l.ar * s.am) (l.ln / 64) := catD_same _ _ fun j h1 h2 => mix_off hb hm j (.inl (by omega))
  rw [e1, catD_add, c1, List.take_append, hq, show l.ln - 64 * (l.ln / 64) = l.ln % 64 by omega, List.take_of_length_le (by rw [hq]; omega), hlog]
  congr 1
  by_cases h0 : l.ln % 64 = 0
  · rw [h0] at hpl ⊢
    rw [List.length_eq_zero_iff.1 hpl]
    rfl
  · have e3 : (l.ln % 64 + 63) / 64 = 1 := by omega
    rw [e3] at hpart ⊢
    rcases hm.2 (2 + l.ar * s.am + l.ln / 64) with e | ⟨p, h1, h2, h3⟩
    · rw [hpart]
      congr 1
      exact catD_same _ _ fun j j1 j2 => by
        have : j = 2 + l.ar * s.am + l.ln / 64 := by omega
        rw [this]; exact e
    · have e4 := wops_at (by intro e; exact hW (List.append_eq_nil_iff.1 e).2) hb h1 h2
      have e5 : catD t.D (2 + l.ar * s.am + l.ln / 64) 1 = p.2 := by
        show bAt t.D _ ++ [] = _
        unfold bAt
        rw [h3, List.append_nil]
        rfl
      rw [e5, e4]
      unfold pad64
      rw [List.take_append_of_le_length (by rw [List.length_take, List.length_append]; omega), List.take_take, show min (l.ln % 64) 64 = l.ln % 64 by omega, List.take_append_of_le_length (by omega), List.take_of_length_le (by omega)]
/-- Reset, cut off ahead of its head: the old records stand -/
theorem reset_old {s t : Ds} {l : Lg} (h : Gd s l) (B : List Int) (hb : IsBytes B) (hB : B.length ≤ 64 * s.am) (f : Free t) (hm : Mix s.D (wops (2 + (1 - l.ar) * s.am + 0) B) t.D) : Gd t l := by
  have hn := h.nums
  have hroom := h.room
  rw [h.am] at hroom
  refine gd_off h hb f hm (by omega) ?_
  have c1 : catD t.D (2 + l.ar * s.am) ((l.ln + 63) / 64) = catD s.D (2 + l.ar * s.am) ((l.ln + 63) / 64) := catD_same _ _ fun j h1 h2 => mix_off hb hm j (by
    have := hn.aa
    rcases (by omega : l.ar = 0 ∨ l.ar = 1) with e | e
    · rw [e] at h1 h2 ⊢
      left
      omega
    · rw [e] at h1 h2 ⊢
      right
      omega)
  rw [c1]
  exact h.lies.log
end Go.Proofs.YtkhopmlhinkpcaaGreat
namespace Go.Proofs.YtkhopmlhinkpcaaGreat
open Go.ChangeShapes Go.WideShapes Go.ChangeAt Go.RowKit Go.Deep Go.Maps
set_option linter.unusedVariables false
/-- a log and its disk that agree, whatever the fuse -/
structure Gu (s : Ds) (l : Lg) : Prop where
  up : s.up = true
  W : ∀ i, s.W i = []
  gd : Gd { s with fu := -1 } l
theorem Gu.of {s : Ds} {l : Lg} (h : Gd s l) : Gu s l := ⟨h.free.up, h.free.W, gd_same h ⟨h.free.up, rfl, h.free.W⟩ rfl⟩
theorem Gu.made {s t : Ds} {l : Lg} (h : Gd t l) (hu : s.up = true) (hW : ∀ i, s.W i = []) (e : s.D = t.D) : Gu s l := ⟨hu, hW, gd_same h ⟨hu, rfl, hW⟩ e⟩
theorem sync_cut {s : Ds} {l : Lg} (h : Gu s l) (hno : l.no < 1152921504606846976) (hW : l.W ≠ []) : ∃ c l' s', l.sync s = (c, l', s') ∧ ((c = 0 ∧ l' = { l with no := l.no + 1, R := l.R ++ l.W, W := [] } ∧ Gu s' l' ∧ s'.D.length = s.D.length) ∨ (c = 15 ∧ l' = { l with lost := true } ∧ s'.up = false ∧ ∀ keep, Gd (s'.cr keep) l ∨ Gd (s'.cr keep) { l with no := l.no + 1, R := l.R ++ l.W, W := [] })) := by
  obtain ⟨s1, e, g, hD⟩ := gd_sync h.gd hno hW
  obtain ⟨hlog, hpl, hpb, hpart, hq⟩ := sync_parts h.gd
  have hn := h.gd.nums
  have hlen := hn.len
  have hmm := hn.mm
  have hroom := h.gd.room
  have ham := h.gd.am
  rw [ham] at hroom
  have hjl : IsBytes (joinL l.W) := joinL_bytes _ fun B hB => (h.gd.wb B hB).1
  have hB := bytes_app hpb hjl
  have hBl : (l.part { s with fu := -1 } ++ joinL l.W).length = l.ln % 64 + (joinL l.W).length := by rw [List.length_append, hpl]
  have har : l.ar * l.m ≤ l.m := by have := hn.aa; rcases (by omega : l.ar = 0 ∨ l.ar = 1) with e | e <;> rw [e] <;> omega
  have hfit : 2 + l.ar * l.m + l.ln / 64 + ((l.part { s with fu := -1 } ++ joinL l.W).length + 63) / 64 ≤ s.D.length := by
    have hlen' : 6 ≤ s.D.length := hlen.1
    have hm' : l.m = (s.D.length - 2) / 2 := by rw [ham]; exact hmm
    rw [← ham] at hroom
    rw [hBl]
    rcases (by have := hn.aa; omega : l.ar = 0 ∨ l.ar = 1) with e | e <;> rw [e] <;> omega
  have h2 : 2 ≤ s.D.length := by have : 6 ≤ s.D.length := hlen.1; omega
  have hJ : joinL l.W ≠ [] := fun e => by
    have h1 := joinL_count l.W
    rw [e] at h1
    have h1' : 8 * l.W.length ≤ 0 := h1
    have : l.W.length = 0 := by omega
    exact hW (List.length_eq_zero_iff.1 this)
  obtain ⟨s2, k1, k2, k3⟩ := mops_free h.gd.free l.m l.no l.ar (l.ln / 64) (l.part { s with fu := -1 } ++ joinL l.W) hB hfit h2
  have hs : s1 = s2 := by
    unfold Lg.sync at e
    rw [if_neg (by rw [h.gd.lost]; simp), if_neg hW, if_neg (by show ¬ s.up = false; rw [h.up]; simp), k1, if_pos rfl] at e
    exact (Prod.mk.inj (Prod.mk.inj e).2).2.symm
  subst hs
  obtain ⟨c, s3, j1, j2⟩ := mops_cut h.up h.W l.m l.no l.ar (l.ln / 64) (l.part { s with fu := -1 } ++ joinL l.W) hB hfit h2
  have hpe : l.part { s with fu := -1 } = l.part s := by unfold Lg.part; rw [cat_nil h.W, cat_nil (s := { s with fu := -1 }) h.W]
  have j1' : s.run (mops l.m l.no l.ar (l.ln / 64) (l.part s ++ joinL l.W)) = (c, s3) := by rw [← hpe]; exact j1
  rcases j2 with ⟨rfl, i1, i2, i3⟩ | ⟨rfl, i1, i2⟩
  · refine ⟨0, _, s3, ?_, .inl ⟨rfl, rfl, Gu.made g i1 i2 (i3.trans k3.symm), ?_⟩⟩
    · unfold Lg.sync
      rw [if_neg (by rw [h.gd.lost]; simp), if_neg hW, if_neg (by rw [h.up]; simp), j1', if_pos rfl]
    · rw [i3, List.length_set, app_len]
  · refine ⟨15, _, s3, ?_, .inr ⟨rfl, rfl, i1, fun keep => ?_⟩⟩
    · unfold Lg.sync
      rw [if_neg (by rw [h.gd.lost]; simp), if_neg hW, if_neg (by rw [h.up]; simp), j1', if_neg (by simp)]
    · rcases i2 keep with m1 | m1
      · left
        rw [ham] at m1
        exact sync_old h.gd hJ (free_cr _ _) m1
      · right
        exact gd_same g (free_cr _ _) (m1.trans k3.symm)
theorem reset_cut {s : Ds} {l : Lg} (h : Gu s l) (hno : l.no < 1152921504606846976) (hW : l.W = []) (recs : List (List Int)) (hb : ∀ B ∈ recs, IsBytes B) (hf : (frO recs (64 * l.m)).2 = 0) : ∃ c l' s', l.reset s recs = (c, l', s') ∧ ((c = 0 ∧ l' = { l with no := l.no + 1, ar := 1 - l.ar, R := recs, W := [] } ∧ Gu s' l' ∧ s'.D.length = s.D.length) ∨ (c = 15 ∧ l' = { l with lost := true } ∧ s'.up = false ∧ ∀ keep, Gd (s'.cr keep) l ∨ Gd (s'.cr keep) { l with no := l.no + 1, ar := 1 - l.ar, R := recs, W := [] })) := by
  obtain ⟨s1, e, g, hD⟩ := gd_reset h.gd hno hW recs hb hf
  obtain ⟨f1, f2, f3⟩ := frO_ok hf
  have hn := h.gd.nums
  have hlen := hn.len
  have hmm := hn.mm
  have ham := h.gd.am
  have hjl : IsBytes (joinL recs) := joinL_bytes _ hb
  have hfit : 2 + (1 - l.ar) * l.m + 0 + ((joinL recs).length + 63) / 64 ≤ s.D.length := by
    have hlen' : 6 ≤ s.D.length := hlen.1
    have hm' : l.m = (s.D.length - 2) / 2 := by rw [ham]; exact hmm
    rcases (by have := hn.aa; omega : l.ar = 0 ∨ l.ar = 1) with e | e <;> rw [e] <;> omega
  have h2 : 2 ≤ s.D.length := by have : 6 ≤ s.D.length := hlen.1; omega
  obtain ⟨s2, k1, k2, k3⟩ := mops_free h.gd.free l.m l.no (1 - l.ar) 0 (joinL recs) hjl hfit h2
  have hs : s1 = s2 := by
    unfold Lg.reset at e
    rw [if_neg (by rw [h.gd.lost]; simp), if_neg (by simpa using hW), if_neg (by simpa using hf), k1, if_pos rfl] at e
    exact (Prod.mk.inj (Prod.mk.inj e).2).2.symm
  subst hs
  obtain ⟨c, s3, j1, j2⟩ := mops_cut h.up h.W l.m l.no (1 - l.ar) 0 (joinL recs) hjl hfit h2
  rcases j2 with ⟨rfl, i1, i2, i3⟩ | ⟨rfl, i1, i2⟩
  · refine ⟨0, _, s3, ?_, .inl ⟨rfl, rfl, Gu.made g i1 i2 (i3.trans k3.symm), ?_⟩⟩
    · unfold Lg.reset
      rw [if_neg (by rw [h.gd.lost]; simp), if_neg (by simpa using hW), if_neg (by simpa using hf), j1, if_pos rfl]
    · rw [i3, List.length_set, app_len]
  · refine ⟨15, _, s3, ?_, .inr ⟨rfl, rfl, i1, fun keep => ?_⟩⟩
    · unfold Lg.reset
      rw [if_neg (by rw [h.gd.lost]; simp), if_neg (by simpa using hW), if_neg (by simpa using hf), j1, if_neg (by simp)]
    · rcases i2 keep with m1 | m1
      · left
        rw [ham] at m1
        exact reset_old h.gd (joinL recs) hjl (by rw [ham] at f2; exact f2) (free_cr _ _) m1
      · right
        exact gd_same g (free_cr _ _) (m1.trans k3.symm)
end Go.Proofs.YtkhopmlhinkpcaaGreat
namespace Go.Proofs.YtkhopmlhinkpcaaGreat
open Go.ChangeShapes Go.WideShapes Go.ChangeAt Go.RowKit Go.Deep Go.Maps
set_option linter.unusedVariables false
/-- the log of a new disk of n blocks -/
def lg0 (n : Nat) : Lg := ⟨(n - 2) / 2, 1, 0, [], [], false⟩
/-- a disk that nothing was written to -/
structure Bare (n : Nat) (s : Ds) : Prop where
  up : s.up = true
  W : ∀ i, s.W i = []
  D : s.D = noughts n
theorem open_cut {n : Nat} {s : Ds} (h6 : 6 ≤ n) (hn : n ≤ 4096) (h : Bare n s) : ∃ c o s', s.opn = (c, o, s') ∧ ((c = 0 ∧ o = some (lg0 n) ∧ Gu s' (lg0 n) ∧ s'.D.length = n) ∨ (c = 15 ∧ o = none ∧ s'.up = false ∧ ∀ keep, Bare n (s'.cr keep) ∨ Gd (s'.cr keep) (lg0 n))) := by
  obtain ⟨s1, e, g, hD1⟩ := gd_new n h6 hn
  have hl0 : (Ds.new n).D.length = n := by simp [Ds.new, noughts]
  have hl : s.D.length = n := by rw [h.D]; simp [noughts]
  have hA : ∀ p, some p ∈ [some (1, hdB 1 0 0)] → p.1 < n ∧ p.2.length = 64 := fun p hp => by
    have : p = (1, hdB 1 0 0) := by simpa using hp
    subst this
    exact ⟨by show 1 < _; omega, hdB_len _ _ _⟩
  obtain ⟨s2, k1, k2, k3⟩ := run_flush (A := [some (1, hdB 1 0 0)]) (s := Ds.new n) ⟨rfl, rfl, fun _ => rfl⟩ (by simp) (fun p hp => by rw [hl0]; exact hA p hp)
  have k1' : (Ds.new n).run [some (1, hdB 1 0 0), none] = (0, s2) := k1
  have hzn : ∀ (t : Ds), t.D = noughts n → (∀ i, t.W i = []) → ∀ i, i < n → t.cur i = List.replicate 64 0 := fun t ht hw i hi => by
    rw [cur_nil hw, bAt, ht]
    unfold noughts
    rw [List.getElem?_replicate, if_pos hi]
    rfl
  have hs : s1 = s2 := by
    rw [Ds.opn, if_neg (by simp [Ds.new]), if_neg (by omega), Ds.fob, if_pos ⟨hzn _ rfl (fun _ => rfl) 0 (by omega), hzn _ rfl (fun _ => rfl) 1 (by omega)⟩, k1', if_pos rfl] at e
    exact (Prod.mk.inj (Prod.mk.inj e).2).2.symm
  subst hs
  have hD0 : (Ds.new n).D = noughts n := rfl
  obtain ⟨c, s3, j1, j2⟩ := flush_cut (A := [some (1, hdB 1 0 0)]) h.up h.W (by simp) (fun p hp => by rw [hl]; exact hA p hp)
  have j1' : s.run [some (1, hdB 1 0 0), none] = (c, s3) := j1
  have ham : s.am = (n - 2) / 2 := by unfold Ds.am; rw [hl]
  rcases j2 with ⟨rfl, i1, i2, i3⟩ | ⟨rfl, i1, i2⟩
  · refine ⟨0, some (lg0 n), s3, ?_, .inl ⟨rfl, rfl, Gu.made g i1 i2 (by rw [i3, k3, h.D, hD0]), by rw [i3, app_len, hl]⟩⟩
    rw [Ds.opn, if_neg (by rw [h.up]; simp), if_neg (by omega), Ds.fob, if_pos ⟨hzn _ h.D h.W 0 (by omega), hzn _ h.D h.W 1 (by omega)⟩, j1', if_pos rfl, ham]
    rfl
  · refine ⟨15, none, s3, ?_, .inr ⟨rfl, rfl, i1, fun keep => ?_⟩⟩
    · rw [Ds.opn, if_neg (by rw [h.up]; simp), if_neg (by omega), Ds.fob, if_pos ⟨hzn _ h.D h.W 0 (by omega), hzn _ h.D h.W 1 (by omega)⟩, j1', if_neg (by simp)]
      rfl
    · rcases mix_one (i2 keep) with m | m
      · left
        exact ⟨rfl, fun _ => rfl, m.trans h.D⟩
      · right
        exact gd_same g (free_cr _ _) (by rw [m, k3, h.D, hD0]; rfl)
theorem gu_open {s : Ds} {l : Lg} (h : Gu s l) : s.opn = (0, some { l with W := [] }, s) := by
  have hg := h.gd
  have e := opn_lies (s := s) h.up h.W hg.nums hg.lies
  rw [e]
  have hm : l.m = s.am := hg.am
  have hl := hg.lost
  cases l
  simp only at hm hl
  subst hm hl
  rfl
end Go.Proofs.YtkhopmlhinkpcaaGreat
namespace Go.Proofs.YtkhopmlhinkpcaaGreat
open Go.ChangeShapes Go.WideShapes Go.ChangeAt Go.RowKit Go.Deep Go.Maps
set_option linter.unusedVariables false
theorem strs_ne {A B : List Int} (ha : IsBytes A) (hb : IsBytes B) (h : A ≠ B) : ((strOfNums A).toList == (strOfNums B).toList) = false := by
  rw [str_eq A B (bytes_mem ha) (bytes_mem hb), decide_eq_false h]
theorem list_ext_getD {l k : List (List Int)} (hl : l.length = k.length) (h : ∀ i, i < l.length → l.getD i [] = k.getD i []) : l = k := by
  apply List.ext_getElem hl
  intro i h1 h2
  have := h i h1
  rwa [List.getD_eq_getElem?_getD, List.getD_eq_getElem?_getD, List.getElem?_eq_getElem h1, List.getElem?_eq_getElem h2] at this
set_option maxHeartbeats 1000000 in
theorem wsame_is (w : World) (a b : Option Addr) (n m c d : Nat) (l k : List (List Int)) (hn : l.length = n) (hm : k.length = m) (hn2 : n ≤ 1000000) (hm2 : m ≤ 1000000) (hl : InS w a l) (hk : InS w b k) (lb : ∀ B ∈ l, IsBytes B) (kb : ∀ B ∈ k, IsBytes B) :
    Calls Tryz.prog 20 #[.slice a n c, .slice b m d] w fun e w' => e = .returned (.bool (decide (l = k))) ∧ Below w.heap.size w w' := by
  by_cases hnm : n = m
  · subst hnm
    have HL : Hid (InS w a l) := hl
    have HK : Hid (InS w b k) := hk
    have LB : Hid (∀ B ∈ l, IsBytes B) := lb
    have KB : Hid (∀ B ∈ k, IsBytes B) := kb
    obtain ⟨R, hR⟩ : ∃ R, R = decide (l = k) := ⟨_, rfl⟩
    rw [← hR]
    have HR : Hid (R = decide (l = k)) := hR
    clear hl hk lb kb hR
    go_enter Tryz.func20, Tryz.ntmps20
    go_wp2_with fail
    go_loopg [5] n (fun g i wr => ∃ j : Nat, j ≤ n ∧ g = n - j ∧ i = .int .i64 (j : Int) ∧ Hid (Below w.heap.size w wr) ∧ Hid (∀ i, i < j → l.getD i [] = k.getD i []))
    case atStart => exact ⟨0, Nat.zero_le _, rfl, rfl, Below.refl _ _, fun i hi => absurd hi (Nat.not_lt_zero _)⟩
    case round =>
      obtain ⟨j, hj, rfl, rfl, HB, HS⟩ := hrel
      by_cases hlt : j < n
      · have i1 : (j : Int) < (n : Int) := by omega
        obtain ⟨g1, o1, rfl, hc1⟩ : ∃ g off, a = some ⟨g, off, none⟩ ∧ ∀ i, i < l.length → w.cell? ⟨g, off + i, none⟩ = some (.string (strOfNums (l.getD i []))) := by
          rcases HL.out with rfl | h
          · simp at hn; omega
          · exact h
        obtain ⟨g2, o2, rfl, hc2⟩ : ∃ g off, b = some ⟨g, off, none⟩ ∧ ∀ i, i < k.length → w.cell? ⟨g, off + i, none⟩ = some (.string (strOfNums (k.getD i []))) := by
          rcases HK.out with rfl | h
          · simp at hm; omega
          · exact h
        have c1 := hc1 j (by omega)
        have c2 := hc2 j (by omega)
        have k1 : wr.cell? ⟨g1, o1 + j, none⟩ = some (.string (strOfNums (l.getD j []))) := (HB.out.cell (p := ⟨g1, o1 + j, none⟩) (World.block_lt_of_cell? _ _ c1)).trans c1
        have k2 : wr.cell? ⟨g2, o2 + j, none⟩ = some (.string (strOfNums (k.getD j []))) := (HB.out.cell (p := ⟨g2, o2 + j, none⟩) (World.block_lt_of_cell? _ _ c2)).trans c2
        have m1 : l.getD j [] ∈ l := by rw [List.getD_eq_getElem?_getD, List.getElem?_eq_getElem (by omega)]; exact List.getElem_mem _
        have m2 : k.getD j [] ∈ k := by rw [List.getD_eq_getElem?_getD, List.getElem?_eq_getElem (by omega)]; exact List.getElem_mem _
        clear hc1 hc2 c1 c2
        by_cases he : l.getD j [] = k.getD j []
        · have HS2 : Hid (∀ i, i < j + 1 → l.getD i [] = k.getD i []) := fun i hi => by
            by_cases h : i = j
            · rw [h]; exact he
            · exact HS.out i (by omega)
          rw [he] at k1
          generalize strOfNums (k.getD j []) = X at *
          clear he m1 m2
          go_wp2_with fail
          go_quiet (fail)
          go_wp2_with fail
          go_roundg (n - (j + 1))
          case measure => omega
          case rel => exact ⟨j + 1, by omega, rfl, by go_num, HB.out.trans (below_drewN (Below.refl _ _) _ |>.mono HB.out.size), HS2⟩
        · have hb := strs_ne (LB.out _ m1) (KB.out _ m2) he
          have HR2 : Hid (R = false) := by
            show _ = _
            rw [HR.out, decide_eq_false]
            intro e
            exact he (by rw [e])
          generalize strOfNums (k.getD j []) = X at *
          generalize strOfNums (l.getD j []) = Y at *
          clear he m1 m2
          go_wp2_with fail
          go_quiet (fail)
          go_wp2_with fail
          go_ret
          exact ⟨by rw [HR2.out]; rfl, HB.out.trans (below_drewN (Below.refl _ _) _ |>.mono HB.out.size)⟩
      · have e : j = n := by omega
        subst e
        have i1 : ¬ (j : Int) < (j : Int) := by omega
        have HR2 : Hid (R = true) := by
          show _ = _
          rw [HR.out, decide_eq_true (list_ext_getD (by omega) (fun i hi => HS.out i (by omega)))]
        go_wp2_with fail
        go_ret
        exact ⟨by rw [HR2.out]; rfl, HB.out⟩
  · have e1 : ((n : Int) == (m : Int)) = false := by rw [beq_eq_false_iff_ne]; omega
    have hne : decide (l = k) = false := decide_eq_false fun e => hnm (by rw [← hn, ← hm, e])
    rw [hne]
    go_enter Tryz.func20, Tryz.ntmps20
    go_wp2_with fail
    go_ret
    exact ⟨rfl, Below.refl _ _⟩
end Go.Proofs.YtkhopmlhinkpcaaGreat
namespace Go.Proofs.YtkhopmlhinkpcaaGreat
open Go.ChangeShapes Go.WideShapes Go.ChangeAt Go.RowKit Go.Deep Go.Maps
set_option linter.unusedVariables false
/-- in block bd the disk s, in block bl the log l of it, all made since w; the blocks P are neither's -/
structure Wl (w wr : World) (P : Nat → Prop) (bd bl N : Nat) (s : Ds) (l : Lg) : Prop where
  ex : ∃ F G, Dk wr F bd N s ∧ Lm wr G bl bd l ∧ (∀ k, G k → ¬ F k) ∧ (∀ k, F k → w.heap.size ≤ k) ∧ (∀ k, G k → w.heap.size ≤ k) ∧ ∀ k, P k → k < wr.heap.size ∧ ¬ F k ∧ ¬ G k
  ok : l.Ok N
  bel : Below w.heap.size w wr
/-- in block bd the disk s alone -/
structure Wd (w wr : World) (P : Nat → Prop) (bd N : Nat) (s : Ds) : Prop where
  ex : ∃ F, Dk wr F bd N s ∧ (∀ k, F k → w.heap.size ≤ k) ∧ ∀ k, P k → k < wr.heap.size ∧ ¬ F k
  bel : Below w.heap.size w wr
theorem Wl.disk {w wr : World} {P : Nat → Prop} {bd bl N : Nat} {s : Ds} {l : Lg} (h : Wl w wr P bd bl N s l) : Wd w wr P bd N s := by
  obtain ⟨F, G, d, _, _, f, _, p⟩ := h.ex
  exact ⟨⟨F, d, f, fun k hk => ⟨(p k hk).1, (p k hk).2.1⟩⟩, h.bel⟩
theorem Wl.more {w wr : World} {P : Nat → Prop} {bd bl N N' : Nat} {s : Ds} {l : Lg} (h : Wl w wr P bd bl N s l) (hN : N ≤ N') : Wl w wr P bd bl N' s l := by
  obtain ⟨F, G, d, r⟩ := h.ex
  exact ⟨⟨F, G, d.more hN, r⟩, h.ok.more hN, h.bel⟩
theorem Wd.more {w wr : World} {P : Nat → Prop} {bd N N' : Nat} {s : Ds} (h : Wd w wr P bd N s) (hN : N ≤ N') : Wd w wr P bd N' s := by
  obtain ⟨F, d, r⟩ := h.ex
  exact ⟨⟨F, d.more hN, r⟩, h.bel⟩
theorem Wl.less {w wr : World} {P Q : Nat → Prop} {bd bl N : Nat} {s : Ds} {l : Lg} (h : Wl w wr P bd bl N s l) (hQ : ∀ k, Q k → P k) : Wl w wr Q bd bl N s l := by
  obtain ⟨F, G, a1, a2, a3, a4, a5, a6⟩ := h.ex
  exact ⟨⟨F, G, a1, a2, a3, a4, a5, fun k hk => a6 k (hQ k hk)⟩, h.ok, h.bel⟩
/-- whatever was made since is neither's -/
theorem Wl.keep {w wr w' : World} {P : Nat → Prop} {bd bl N : Nat} {s : Ds} {l : Lg} (h : Wl w wr P bd bl N s l) (hb : Below wr.heap.size wr w') : Wl w w' (fun k => P k ∨ (wr.heap.size ≤ k ∧ k < w'.heap.size)) bd bl N s l := by
  obtain ⟨F, G, a1, a2, a3, a4, a5, a6⟩ := h.ex
  refine ⟨⟨F, G, a1.keep hb, a2.keep hb, a3, a4, a5, fun k hk => ?_⟩, h.ok, h.bel.trans (hb.mono h.bel.size)⟩
  rcases hk with hk | ⟨k1, k2⟩
  · have := a6 k hk
    exact ⟨Nat.lt_of_lt_of_le this.1 hb.size, this.2⟩
  · exact ⟨k2, fun e => by have := a1.lt k e; omega, fun e => by have := a2.lt k e; omega⟩
theorem Wd.keep {w wr w' : World} {P : Nat → Prop} {bd N : Nat} {s : Ds} (h : Wd w wr P bd N s) (hb : Below wr.heap.size wr w') : Wd w w' (fun k => P k ∨ (wr.heap.size ≤ k ∧ k < w'.heap.size)) bd N s := by
  obtain ⟨F, a1, a2, a3⟩ := h.ex
  refine ⟨⟨F, a1.keep hb, a2, fun k hk => ?_⟩, h.bel.trans (hb.mono h.bel.size)⟩
  rcases hk with hk | ⟨k1, k2⟩
  · exact ⟨Nat.lt_of_lt_of_le (a3 k hk).1 hb.size, (a3 k hk).2⟩
  · exact ⟨k2, fun e => by have := a1.lt k e; omega⟩
theorem Wl.keep0 {w wr w' : World} {P : Nat → Prop} {bd bl N : Nat} {s : Ds} {l : Lg} (h : Wl w wr P bd bl N s l) (hb : Below wr.heap.size wr w') : Wl w w' P bd bl N s l := (h.keep hb).less fun _ hk => .inl hk
theorem Wl.stepB {w wr w' : World} {P : Nat → Prop} {bd bl N' : Nat} {s' : Ds} {l' : Lg} {F F' G G' : Nat → Prop} (hB : Below w.heap.size w wr) (hF : ∀ k, F k → w.heap.size ≤ k) (hG : ∀ k, G k → w.heap.size ≤ k) (hP : ∀ k, P k → k < wr.heap.size ∧ ¬ F k ∧ ¬ G k) (hd : Dk w' F' bd N' s') (hl : Lm w' G' bl bd l') (hs : StepB F F' G G' wr w') (hx : ∀ k, G' k → ¬ F' k) (hok : l'.Ok N') : Wl w w' P bd bl N' s' l' ∧ ∀ k, P k → w'.heap[k]? = wr.heap[k]? := by
  refine ⟨⟨⟨F', G', hd, hl, hx, fun k hk => ?_, fun k hk => ?_, fun k hk => ⟨Nat.lt_of_lt_of_le (hP k hk).1 hs.off.size, fun e => ?_, fun e => ?_⟩⟩, hok, hB.trans (hs.off.below (fun k hk => hk.elim (hF k) (hG k)) hB.size)⟩, fun k hk => hs.off.block k (hP k hk).1 (fun e => e.elim (hP k hk).2.1 (hP k hk).2.2)⟩
  · rcases hs.sub k hk with e | e
    · exact hF k e
    · exact Nat.le_trans hB.size e
  · rcases hs.sug k hk with e | e
    · exact hG k e
    · exact Nat.le_trans hB.size e
  · rcases hs.sub k e with e | e
    · exact (hP k hk).2.1 e
    · have := (hP k hk).1; omega
  · rcases hs.sug k e with e | e
    · exact (hP k hk).2.2 e
    · have := (hP k hk).1; omega
theorem sync_ok {l : Lg} {s : Ds} {N : Nat} (h : l.Ok N) : (l.sync s).2.1.Ok (N + 2100) := by
  unfold Lg.sync
  split
  · exact h.more (by omega)
  · split
    · exact h.more (by omega)
    · split
      · exact ⟨h.m, by have := h.no; show l.no ≤ _; omega, h.ar, h.room, h.rb, h.wb⟩
      · split
        · refine ⟨h.m, by have := h.no; show l.no + 1 ≤ _; omega, h.ar, ?_, fun B hB => ?_, fun B hB => by cases hB⟩
          · show (joinL (l.R ++ l.W)).length + 0 ≤ 64 * l.m
            have e : (joinL (l.R ++ l.W)).length = l.ln + (joinL l.W).length := by rw [joinL_app, List.length_append]; rfl
            have := h.room
            omega
          · rcases List.mem_append.1 hB with e | e
            · exact h.rb B e
            · exact h.wb B e
        · exact ⟨h.m, by have := h.no; show l.no ≤ _; omega, h.ar, h.room, h.rb, h.wb⟩
theorem reset_ok {l : Lg} {s : Ds} {N : Nat} (h : l.Ok N) {recs : List (List Int)} (hb : ∀ B ∈ recs, IsBytes B) : (l.reset s recs).2.1.Ok (N + 2100) := by
  unfold Lg.reset
  split
  · exact h.more (by omega)
  · split
    · exact h.more (by omega)
    · split
      · exact h.more (by omega)
      · rename_i h3
        split
        · obtain ⟨f1, f2, f3⟩ := frO_ok (show (frO recs (64 * l.m)).2 = 0 by simpa using h3)
          exact ⟨h.m, by have := h.no; show l.no + 1 ≤ _; omega, by show 1 - l.ar ≤ 1; omega, by show (joinL recs).length + 0 ≤ 64 * l.m; omega, fun B hB => ⟨hb B hB, f3 B hB⟩, fun B hB => by cases hB⟩
        · exact ⟨h.m, by have := h.no; show l.no ≤ _; omega, h.ar, h.room, h.rb, h.wb⟩
theorem wl_add {w wr : World} {P : Nat → Prop} {bd bl N : Nat} {s : Ds} {l : Lg} (T : Wl w wr P bd bl N s l) (rec : List Int) (hB : IsBytes rec) : Calls Tryz.prog 17 #[.pointer (some ⟨bl, 0, none⟩), .string (strOfNums rec)] wr fun e w' => e = .returned (.int .i64 (l.add rec).1) ∧ Wl w w' P bd bl N s (l.add rec).2 ∧ ∀ k, P k → w'.heap[k]? = wr.heap[k]? := by
  obtain ⟨F, G, a1, a2, a3, a4, a5, a6⟩ := T.ex
  refine (add_is wr G bl bd N l a2 T.ok rec hB).mono ?_
  rintro e w' ⟨rfl, G', hl, hs⟩
  exact ⟨rfl, Wl.stepB T.bel a4 a5 a6 (a1.apartL hs a3) hl hs.toBG (fun k hk hf => by
    rcases hs.sub k hk with e | e
    · exact a3 k e hf
    · have := a1.lt k hf; omega) (Lg.add_ok T.ok hB)⟩
theorem wl_sync {w wr : World} {P : Nat → Prop} {bd bl N : Nat} {s : Ds} {l : Lg} (T : Wl w wr P bd bl N s l) (hfit : 2 + l.ar * l.m + l.m ≤ s.D.length) (hN : N + 3000 < 999900) : Calls Tryz.prog 18 #[.pointer (some ⟨bl, 0, none⟩)] wr fun e w' => e = .returned (.int .i64 (l.sync s).1) ∧ Wl w w' P bd bl (N + 2100) (l.sync s).2.2 (l.sync s).2.1 ∧ ∀ k, P k → w'.heap[k]? = wr.heap[k]? := by
  obtain ⟨F, G, a1, a2, a3, a4, a5, a6⟩ := T.ex
  refine (sync_is wr F G bl bd N s l a1 a2 T.ok a3 hfit hN).mono ?_
  rintro e w' ⟨rfl, F', G', hd, hl, hs, hx⟩
  exact ⟨rfl, Wl.stepB T.bel a4 a5 a6 hd hl hs hx (sync_ok T.ok)⟩
theorem wl_reset {w wr : World} {P : Nat → Prop} {bd bl N : Nat} {s : Ds} {l : Lg} (T : Wl w wr P bd bl N s l) (hN : N + 3000 < 999900) (a : Option Addr) (n c : Nat) (recs : List (List Int)) (hn : recs.length = n) (hn2 : n ≤ 1000000) (hin : InS wr a recs) (ha : a = none → n = 0 ∧ c = 0) (hB : ∀ B ∈ recs, IsBytes B) (hx : ∀ x, a = some x → recs ≠ [] → P x.block ∨ x.block < w.heap.size) : Calls Tryz.prog 33 #[.pointer (some ⟨bl, 0, none⟩), .slice a n c] wr fun e w' => e = .returned (.int .i64 (l.reset s recs).1) ∧ Wl w w' P bd bl (N + 2100) (l.reset s recs).2.2 (l.reset s recs).2.1 ∧ ∀ k, P k → w'.heap[k]? = wr.heap[k]? := by
  obtain ⟨F, G, a1, a2, a3, a4, a5, a6⟩ := T.ex
  refine (reset_is wr F G bl bd N s l a1 a2 T.ok a3 hN a n c recs hn hn2 hin ha hB (fun x hx2 hne => ?_)).mono ?_
  · rcases hx x hx2 hne with h | h
    · exact (a6 _ h).2
    · exact ⟨fun e => by have := a4 _ e; omega, fun e => by have := a5 _ e; omega⟩
  · rintro e w' ⟨rfl, F', G', hd, hl, hs, hx⟩
    exact ⟨rfl, Wl.stepB T.bel a4 a5 a6 hd hl hs hx (reset_ok T.ok hB)⟩
theorem wl_room {w wr : World} {P : Nat → Prop} {bd bl N : Nat} {s : Ds} {l : Lg} (T : Wl w wr P bd bl N s l) : Calls Tryz.prog 16 #[.pointer (some ⟨bl, 0, none⟩)] wr fun e w' => e = .returned (.int .i64 (l.room : Nat)) ∧ Below wr.heap.size wr w' := by
  obtain ⟨F, G, a1, a2, _⟩ := T.ex
  exact wroom_is wr G bl bd N l a2 T.ok
theorem wl_records {w wr : World} {P : Nat → Prop} {bd bl N : Nat} {s : Ds} {l : Lg} (T : Wl w wr P bd bl N s l) : Calls Tryz.prog 21 #[.pointer (some ⟨bl, 0, none⟩)] wr fun e w' => ∃ v, e = .returned v ∧ RowsS w' wr.heap.size v l.R ∧ Below wr.heap.size wr w' := by
  obtain ⟨F, G, a1, a2, _⟩ := T.ex
  exact wrecords_is wr G bl bd N l a2 T.ok
theorem wl_waiting {w wr : World} {P : Nat → Prop} {bd bl N : Nat} {s : Ds} {l : Lg} (T : Wl w wr P bd bl N s l) : Calls Tryz.prog 27 #[.pointer (some ⟨bl, 0, none⟩)] wr fun e w' => e = .returned (.int .i64 (l.W.length : Nat)) ∧ w' = wr := by
  obtain ⟨F, G, a1, a2, _⟩ := T.ex
  exact wwaiting_is wr G bl bd l a2
theorem wl_used {w wr : World} {P : Nat → Prop} {bd bl N : Nat} {s : Ds} {l : Lg} (T : Wl w wr P bd bl N s l) : Calls Tryz.prog 22 #[.pointer (some ⟨bl, 0, none⟩)] wr fun e w' => e = .returned (.int .i64 (l.ln : Nat)) ∧ w' = wr := by
  obtain ⟨F, G, a1, a2, _⟩ := T.ex
  exact wused_is wr G bl bd l a2
theorem wd_blocks {w wr : World} {P : Nat → Prop} {bd N : Nat} {s : Ds} (T : Wd w wr P bd N s) : Calls Tryz.prog 38 #[.pointer (some ⟨bd, 0, none⟩)] wr fun e w' => e = .returned (.int .i64 (s.D.length : Int)) ∧ w' = wr := by
  obtain ⟨F, a1, _⟩ := T.ex
  exact dk_blocks wr F bd N s a1
theorem wd_new (n : Nat) (h1 : 1 ≤ n) (h2 : n ≤ 4096) (w wr : World) (hb : Below w.heap.size w wr) : Calls Tryz.prog 5 #[.int .i64 (n : Int)] wr fun e w' => ∃ b, e = .returned (.tuple #[.pointer (some ⟨b, 0, none⟩), .int .i64 0]) ∧ Wd w w' (fun k => k < wr.heap.size) b 0 (Ds.new n) ∧ Below wr.heap.size wr w' := by
  refine (dk_new n h1 h2 wr).mono ?_
  rintro e w' ⟨b, F, rfl, hd, hb2, hF⟩
  exact ⟨b, rfl, ⟨⟨F, hd, fun k hk => Nat.le_trans hb.size (hF k hk), fun k hk => ⟨Nat.lt_of_lt_of_le hk hb2.size, fun e => by have := hF k e; omega⟩⟩, hb.trans (hb2.mono hb.size)⟩, hb2⟩
/-- Open of a disk: the log is new -/
theorem wd_open {w wr : World} {P : Nat → Prop} {bd N : Nat} {s : Ds} (T : Wd w wr P bd N s) (hN : N < 999998) : Calls Tryz.prog 15 #[.pointer (some ⟨bd, 0, none⟩)] wr fun e w' => (∀ k, P k → w'.heap[k]? = wr.heap[k]?) ∧ wr.heap.size ≤ w'.heap.size ∧ ((s.opn.1 = 0 ∧ ∃ bl l, s.opn.2.1 = some l ∧ e = .returned (.tuple #[.pointer (some ⟨bl, 0, none⟩), .int .i64 0]) ∧ Wl w w' P bd bl (N + 2) s.opn.2.2 l ∧ 1 ≤ l.no) ∨ (s.opn.1 ≠ 0 ∧ e = .returned (.tuple #[.pointer none, .int .i64 s.opn.1]) ∧ Wd w w' P bd (N + 2) s.opn.2.2)) := by
  obtain ⟨F, a1, a2, a3⟩ := T.ex
  refine (open_is wr F bd N s a1 hN).mono ?_
  rintro e w' ⟨F', hd, hs, hor⟩
  have hF' : ∀ k, F' k → w.heap.size ≤ k := fun k hk => by
    rcases hs.sub k hk with e | e
    · exact a2 k e
    · exact Nat.le_trans T.bel.size e
  have hP' : ∀ k, P k → k < w'.heap.size ∧ ¬ F' k := fun k hk => ⟨Nat.lt_of_lt_of_le (a3 k hk).1 hs.off.size, fun e => by
    rcases hs.sub k e with e | e
    · exact (a3 k hk).2 e
    · have := (a3 k hk).1; omega⟩
  have hbel : Below w.heap.size w w' := T.bel.trans (hs.off.below a2 T.bel.size)
  refine ⟨fun k hk => hs.off.block k (a3 k hk).1 (a3 k hk).2, hs.off.size, ?_⟩
  rcases hor with ⟨h0, bl, G, l, hl, he, hm, hok, hno, hg1, hg2⟩ | ⟨h0, he⟩
  · exact .inl ⟨h0, bl, l, hl, he, ⟨⟨F', G, hd, hm, hg2, hF', fun k hk => Nat.le_trans T.bel.size (hg1 k hk), fun k hk => ⟨(hP' k hk).1, (hP' k hk).2, fun e => by have := hg1 k e; have := (a3 k hk).1; omega⟩⟩, hok.more (by omega), hbel⟩, hno⟩
  · exact .inr ⟨h0, he, ⟨⟨F', hd, hF', hP'⟩, hbel⟩⟩
theorem wd_crash {w wr : World} {P : Nat → Prop} {bd N : Nat} {s : Ds} (T : Wd w wr P bd N s) (hN : N ≤ 1000000) (ka : Option Addr) (kl kc : Nat) (keep : List Int) (hkl : keep.length = kl) (hin : InK wr ka keep) (hk : ∀ x, ka = some x → keep ≠ [] → P x.block ∨ x.block < w.heap.size) : Calls Tryz.prog 19 #[.pointer (some ⟨bd, 0, none⟩), .slice ka kl kc] wr fun e w' => e = .returned (.int .i64 0) ∧ Wd w w' P bd N (s.cr keep) ∧ (∀ k, P k → w'.heap[k]? = wr.heap[k]?) ∧ wr.heap.size ≤ w'.heap.size := by
  obtain ⟨F, a1, a2, a3⟩ := T.ex
  refine (dk_crash wr F bd N s a1 hN ka kl kc keep hkl hin (fun x hx hne hF => ?_)).mono ?_
  · rcases hk x hx hne with h | h
    · exact (a3 _ h).2 hF
    · have := a2 _ hF; omega
  · rintro e w' ⟨rfl, F', hd, hs⟩
    refine ⟨rfl, ⟨⟨F', hd, fun k hk => ?_, fun k hk => ⟨Nat.lt_of_lt_of_le (a3 k hk).1 hs.off.size, fun e => ?_⟩⟩, T.bel.trans (hs.off.below a2 T.bel.size)⟩, fun k hk => hs.off.block k (a3 k hk).1 (a3 k hk).2, hs.off.size⟩
    · rcases hs.sub k hk with e | e
      · exact a2 k e
      · exact Nat.le_trans T.bel.size e
    · rcases hs.sub k e with e | e
      · exact (a3 k hk).2 e
      · have := (a3 k hk).1; omega
end Go.Proofs.YtkhopmlhinkpcaaGreat
namespace Go.Proofs.YtkhopmlhinkpcaaGreat
open Go.ChangeShapes Go.WideShapes Go.ChangeAt Go.RowKit Go.Deep Go.Maps
set_option linter.unusedVariables false
theorem str_x : strOfNums [120] = ⟨#[120]⟩ := rfl
theorem x_bytes : IsBytes [120] := bytes_of_mem fun y hy => by
  have : y = 120 := by simpa using hy
  omega
set_option maxRecDepth 100000 in
set_option maxHeartbeats 4000000 in
theorem works_true (w : World) : Calls Tryz.prog 7 #[] w fun e w' => e = .returned (.bool true) ∧ Below w.heap.size w w' := by
  obtain ⟨s1, o1, G1, hD1⟩ := gd_new 8 (by omega) (by omega)
  obtain ⟨l1, hl1⟩ : ∃ l1, l1 = (⟨(8 - 2) / 2, 1, 0, [], [], false⟩ : Lg) := ⟨_, rfl⟩
  rw [← hl1] at o1 G1
  have r1 : l1.room = 192 := by rw [hl1]; rfl
  have a1 : l1.add [120] = (0, ⟨3, 1, 0, [], [[120]], false⟩) := by
    have hx : (frO [[120]] l1.room).2 = 0 := by rw [r1, frO_one]; rfl
    unfold Lg.add
    rw [if_neg (by rw [hl1]; simp), if_neg (by rw [hx]; simp), hl1]
    rfl
  have G2 := gd_add G1 [120] x_bytes
  rw [a1] at G2
  obtain ⟨l2, hl2⟩ : ∃ l2, l2 = (⟨3, 1, 0, [], [[120]], false⟩ : Lg) := ⟨_, rfl⟩
  rw [← hl2] at a1 G2
  have r2 : l2.room = 183 := by rw [hl2]; decide +kernel
  obtain ⟨s3, y3, G3, hD3⟩ := gd_sync G2 (by rw [hl2]; decide) (by rw [hl2]; decide)
  obtain ⟨l3, hl3⟩ : ∃ l3, l3 = ({ l2 with no := l2.no + 1, R := l2.R ++ l2.W, W := [] } : Lg) := ⟨_, rfl⟩
  rw [← hl3] at y3 G3
  have G4 := gd_crash G3 []
  have o4 := gd_open G4
  have e4 : ({ l3 with W := [] } : Lg) = l3 := by rw [hl3]
  rw [e4] at o4
  have R4 : l3.R = [[120]] := by rw [hl3, hl2]; rfl
  have U4 : l3.ln = 9 := by rw [hl3, hl2]; decide +kernel
  have fit2 : 2 + l2.ar * l2.m + l2.m ≤ s1.D.length := by rw [hD1, hl2]; decide
  have K1 : Hid (Calls Tryz.prog 5 #[.int .i64 8] w fun e w' => ∃ b, e = .returned (.tuple #[.pointer (some ⟨b, 0, none⟩), .int .i64 0]) ∧ Wd w w' (fun k => k < w.heap.size) b 0 (Ds.new 8) ∧ Below w.heap.size w w') := wd_new 8 (by omega) (by omega) w w (Below.refl _ _)
  have H1 : Hid ((Ds.new 8).opn = (0, some l1, s1) ∧ l1.room = 192 ∧ l1.add [120] = (0, l2) ∧ l2.room = 183 ∧ l2.sync s1 = (0, l3, s3) ∧ (s3.cr []).opn = (0, some l3, s3.cr []) ∧ l3.R = [[120]] ∧ l3.ln = 9 ∧ 2 + l2.ar * l2.m + l2.m ≤ s1.D.length) := ⟨o1, r1, a1, r2, y3, o4, R4, U4, fit2⟩
  clear o1 r1 a1 r2 y3 o4 R4 U4 fit2 G1 G2 G3 G4 hl1 hl2 hl3 e4 hD1 hD3
  go_enter Tryz.func7, Tryz.ntmps7
  go_wp2_with fail
  refine K1.out.mono ?_
  rintro e w1 ⟨bd, rfl, T1, hb1⟩
  have HT1 : Hid (Wd w w1 (fun k => k < w.heap.size) bd 0 (Ds.new 8)) := T1
  clear T1 hb1
  go_wp2_with fail
  refine (wd_open HT1.out (by omega)).mono ?_
  rintro e w2 ⟨_, _, hor⟩
  have h2 : ∃ bl, e = .returned (.tuple #[.pointer (some ⟨bl, 0, none⟩), .int .i64 0]) ∧ Wl w w2 (fun k => k < w.heap.size) bd bl 2 s1 l1 := by
    obtain ⟨o1, _⟩ := H1.out
    rw [o1] at hor
    rcases hor with ⟨_, bl, l, hl, he, hw, _⟩ | ⟨h0, _⟩
    · obtain rfl := Option.some.inj hl
      exact ⟨bl, he, hw⟩
    · exact absurd rfl h0
  obtain ⟨bl, rfl, T2⟩ := h2
  have HT2 : Hid (Wl w w2 (fun k => k < w.heap.size) bd bl 2 s1 l1) := T2
  clear T2 hor
  have KR1 : Hid (Calls Tryz.prog 16 #[.pointer (some ⟨bl, 0, none⟩)] w2 fun e w' => e = .returned (.int .i64 192) ∧ Below w2.heap.size w2 w') := by
    have k := wl_room HT2.out
    rw [H1.out.2.1] at k
    exact k
  go_wp2_with fail
  refine KR1.out.mono ?_
  rintro e w3 ⟨rfl, hb3⟩
  have HT3 : Hid (Wl w w3 (fun k => k < w.heap.size) bd bl 2 s1 l1) := HT2.out.keep0 hb3
  clear hb3
  have KA : Hid (Calls Tryz.prog 17 #[.pointer (some ⟨bl, 0, none⟩), .string ⟨#[120]⟩] w3 fun e w' => e = .returned (.int .i64 0) ∧ Wl w w' (fun k => k < w.heap.size) bd bl 2 s1 l2 ∧ ∀ k, k < w.heap.size → w'.heap[k]? = w3.heap[k]?) := by
    have k := wl_add HT3.out [120] x_bytes
    rw [H1.out.2.2.1, str_x] at k
    exact k
  go_wp2_with fail
  refine KA.out.mono ?_
  rintro e w4 ⟨rfl, T4, _⟩
  have HT4 : Hid (Wl w w4 (fun k => k < w.heap.size) bd bl 2 s1 l2) := T4
  clear T4
  have KR2 : Hid (Calls Tryz.prog 16 #[.pointer (some ⟨bl, 0, none⟩)] w4 fun e w' => e = .returned (.int .i64 183) ∧ Below w4.heap.size w4 w') := by
    have k := wl_room HT4.out
    rw [H1.out.2.2.2.1] at k
    exact k
  go_wp2_with fail
  refine KR2.out.mono ?_
  rintro e w5 ⟨rfl, hb5⟩
  have HT5 : Hid (Wl w w5 (fun k => k < w.heap.size) bd bl 2 s1 l2) := HT4.out.keep0 hb5
  clear hb5
  have KS : Hid (Calls Tryz.prog 18 #[.pointer (some ⟨bl, 0, none⟩)] w5 fun e w' => e = .returned (.int .i64 0) ∧ Wl w w' (fun k => k < w.heap.size) bd bl 2102 s3 l3 ∧ ∀ k, k < w.heap.size → w'.heap[k]? = w5.heap[k]?) := by
    have k := wl_sync HT5.out H1.out.2.2.2.2.2.2.2.2 (by omega)
    rw [H1.out.2.2.2.2.1] at k
    exact k
  go_wp2_with fail
  refine KS.out.mono ?_
  rintro e w6 ⟨rfl, T6, _⟩
  have HT6 : Hid (Wd w w6 (fun k => k < w.heap.size) bd 2102 s3) := T6.disk
  clear T6
  go_wp2_with fail
  refine (wd_crash HT6.out (by omega) none 0 0 [] rfl (.inl rfl) (fun x hx => by cases hx)).mono ?_
  rintro e w7 ⟨rfl, T7, _, _⟩
  have HT7 : Hid (Wd w w7 (fun k => k < w.heap.size) bd 2102 (s3.cr [])) := T7
  clear T7
  go_wp2_with fail
  refine (wd_open HT7.out (by omega)).mono ?_
  rintro e w8 ⟨_, _, hor⟩
  have h8 : ∃ bl, e = .returned (.tuple #[.pointer (some ⟨bl, 0, none⟩), .int .i64 0]) ∧ Wl w w8 (fun k => k < w.heap.size) bd bl 2104 (s3.cr []) l3 := by
    obtain ⟨_, _, _, _, _, o4, _⟩ := H1.out
    rw [o4] at hor
    rcases hor with ⟨_, bl, l, hl, he, hw, _⟩ | ⟨h0, _⟩
    · obtain rfl := Option.some.inj hl
      exact ⟨bl, he, hw⟩
    · exact absurd rfl h0
  obtain ⟨bm, rfl, T8⟩ := h8
  have HT8 : Hid (Wl w w8 (fun k => k < w.heap.size) bd bm 2104 (s3.cr []) l3) := T8
  clear T8 hor
  have KRec : Hid (Calls Tryz.prog 21 #[.pointer (some ⟨bm, 0, none⟩)] w8 fun e w' => ∃ v, e = .returned v ∧ RowsS w' w8.heap.size v [[120]] ∧ Below w8.heap.size w8 w') := by
    have k := wl_records HT8.out
    rw [H1.out.2.2.2.2.2.2.1] at k
    exact k
  go_wp2_with fail
  refine KRec.out.mono ?_
  rintro e w9 ⟨v9, rfl, hr9, hb9⟩
  obtain ⟨a9, c9, hv9, _, hi9, _, _⟩ := hr9.slice
  subst hv9
  have HI9 : Hid (InS (w9.alloc (.cells #[.string ⟨#[120]⟩] 9)) a9 [[120]]) := hi9.keep (gB_alloc w9 _)
  have HT9 : Hid (Wl w (w9.alloc (.cells #[.string ⟨#[120]⟩] 9)) (fun k => k < w.heap.size) bd bm 2104 (s3.cr []) l3) := (HT8.out.keep0 hb9).keep0 (gB_alloc w9 _)
  have C9 : Hid (InS (w9.alloc (.cells #[.string ⟨#[120]⟩] 9)) (some ⟨w9.heap.size, 0, none⟩) [[120]]) := one_in (by rw [cell_of_row _ w9.heap.size 0 _ _ (0, 0) (heap_alloc_new w9 _)]; rfl)
  clear hr9 hb9 hi9
  go_wp2_with fail
  refine (wsame_is _ a9 (some ⟨w9.heap.size, 0, none⟩) 1 1 c9 1 [[120]] [[120]] rfl rfl (by omega) (by omega) HI9.out C9.out (fun B hB => by have : B = [120] := (by simpa using hB); rw [this]; exact x_bytes) (fun B hB => by have : B = [120] := (by simpa using hB); rw [this]; exact x_bytes)).mono ?_
  rintro e w10 ⟨rfl, hb10⟩
  have HT10 : Hid (Wl w w10 (fun k => k < w.heap.size) bd bm 2104 (s3.cr []) l3) := HT9.out.keep0 hb10
  clear hb10
  have KU : Hid (Calls Tryz.prog 22 #[.pointer (some ⟨bm, 0, none⟩)] w10 fun e w' => e = .returned (.int .i64 9) ∧ w' = w10) := by
    have k := wl_used HT10.out
    rw [H1.out.2.2.2.2.2.2.2.1] at k
    exact k
  have ed : decide (([[120]] : List (List Int)) = [[120]]) = true := by decide
  rw [ed]
  go_wp2_with fail
  refine KU.out.mono ?_
  rintro e w11 ⟨rfl, rfl⟩
  go_wp2_with fail
  go_ret
  exact ⟨rfl, HT10.out.bel⟩
end Go.Proofs.YtkhopmlhinkpcaaGreat
namespace Go.Proofs.YtkhopmlhinkpcaaGreat
open Go.ChangeShapes Go.WideShapes Go.ChangeAt Go.RowKit Go.Deep Go.Maps
set_option linter.unusedVariables false
/-- a record, cut -/
def cS (B : List Int) : List Int := if 300 < B.length ∧ B.length ≤ 4096 then B.take 300 else if 5000 < B.length then B.take 5000 else B
theorem cS_len (B : List Int) : (cS B).length ≤ 5000 := by
  unfold cS
  split
  · rw [List.length_take]; omega
  · split
    · rw [List.length_take]; omega
    · omega
theorem cS_bytes {B : List Int} (h : IsBytes B) : IsBytes (cS B) := by
  unfold cS
  split
  · exact bytes_of_mem fun x hx => bytes_mem h x (List.mem_of_mem_take hx)
  · split
    · exact bytes_of_mem fun x hx => bytes_mem h x (List.mem_of_mem_take hx)
    · exact h
def smL (l : List (List Int)) : List (List Int) := (l.take 20).map cS
theorem smL_len (l : List (List Int)) : (smL l).length ≤ 20 := by
  unfold smL
  rw [List.length_map, List.length_take]
  omega
theorem smL_bytes {l : List (List Int)} (h : ∀ B ∈ l, IsBytes B) : ∀ B ∈ smL l, IsBytes B ∧ B.length ≤ 5000 := by
  intro B hB
  obtain ⟨C, hC, rfl⟩ := List.mem_map.1 hB
  exact ⟨cS_bytes (h C (List.mem_of_mem_take hC)), cS_len C⟩
theorem str_size (L : List Int) : (strOfNums L).size = L.length := by
  show ((List.map (fun n : Int => UInt8.ofNat n.toNat) L).toArray).size = _
  simp
theorem ext_take (L : List Int) (k : Nat) : (strOfNums L).extract 0 k = strOfNums (L.take k) := by rw [extract_nums]; rfl
theorem sm_step (l : List (List Int)) (j : Nat) (h : j < l.length) : (l.take (j + 1)).map cS = (l.take j).map cS ++ [cS (l.getD j [])] := by
  rw [take_succ_getD l j h, List.map_append]
  rfl
set_option maxRecDepth 100000 in
set_option maxHeartbeats 4000000 in
theorem small_is (w : World) (a : Option Addr) (n c : Nat) (recs : List (List Int)) (hn : recs.length = n) (hn2 : n ≤ 17592186044416) (hz2 : ∀ B ∈ recs, B.length ≤ 140737488355328) (hin : InS w a recs) :
    Calls Tryz.prog 30 #[.slice a n c] w fun e w' => ∃ v, e = .returned v ∧ RowsS w' w.heap.size v (smL recs) ∧ Below w.heap.size w w' := by
  have HI : Hid (InS w a recs) := hin
  have HZ0 : Hid (∀ B ∈ recs, B.length ≤ 140737488355328) := hz2
  obtain ⟨h, hh⟩ : ∃ h, h = w.heap.size := ⟨_, rfl⟩
  have HH : Hid (h = w.heap.size) := hh
  clear hin hh hz2
  go_enter Tryz.func30, Tryz.ntmps30
  go_wp2_with fail
  go_loopg [3, 4] 20 (fun g v i wr => ∃ (j : Nat), j ≤ n ∧ j ≤ 20 ∧ g = 20 - j ∧ i = .int .i64 (j : Int) ∧ Hid (RowsS wr h v ((recs.take j).map cS)) ∧ Hid (Below h w wr))
  case atStart => exact ⟨0, Nat.zero_le _, Nat.zero_le _, rfl, rfl, RowsS.nil _ _, Below.refl _ _⟩
  case round =>
    obtain ⟨j, hj, hj2, rfl, rfl, HO, HBW⟩ := hrel
    have hsz := HBW.out.size
    have HBw : Hid (Below w.heap.size w wr) := by show Below _ _ _; rw [← HH.out]; exact HBW.out
    by_cases hjn : j < n
    · have i1 : (j : Int) < (n : Int) := by omega
      by_cases hj20 : j < 20
      · have i2 : (j : Int) < 20 := by omega
        obtain ⟨g, off, rfl, hcell⟩ : ∃ g off, a = some ⟨g, off, none⟩ ∧ ∀ i, i < recs.length → w.cell? ⟨g, off + i, none⟩ = some (.string (strOfNums (recs.getD i []))) := by
          rcases HI.out with rfl | h
          · simp at hn; omega
          · exact h
        have hcj : wr.cell? ⟨g, off + j, none⟩ = some (.string (strOfNums (recs.getD j []))) := (HBw.out.cell (p := ⟨g, off + j, none⟩) (World.block_lt_of_cell? _ _ (hcell j (by omega)))).trans (hcell j (by omega))
        clear hcell
        have hXl := HZ0.out _ (show recs.getD j [] ∈ recs by rw [List.getD_eq_getElem?_getD, List.getElem?_eq_getElem (by omega)]; exact List.getElem_mem _)
        have HT : Hid ((recs.take (j + 1)).map cS = (recs.take j).map cS ++ [cS (recs.getD j [])]) := sm_step recs j (by omega)
        have hL : ((recs.take j).map cS).length = j := by rw [List.length_map, List.length_take]; omega
        have HL : Hid (((recs.take j).map cS).length = j) := hL
        generalize recs.getD j [] = X at *
        have hSz := str_size X
        have hE3 := ext_take X 300
        have hE5 := ext_take X 5000
        have HC : Hid (cS X = if 300 < X.length ∧ X.length ≤ 4096 then X.take 300 else if 5000 < X.length then X.take 5000 else X) := rfl
        have h3z := str_size (X.take 300)
        have h5z := str_size (X.take 5000)
        rw [← hE3] at h3z
        rw [List.length_take] at h3z
        have HE3 : Hid ((strOfNums X).extract 0 300 = strOfNums (X.take 300)) := hE3
        have HE5 : Hid ((strOfNums X).extract 0 5000 = strOfNums (X.take 5000)) := hE5
        have hhw : h ≤ wr.heap.size := by rw [HH.out]; exact hsz
        clear hE3 hE5 hL h5z
        obtain ⟨z, hz⟩ : ∃ z, z = X.length := ⟨_, rfl⟩
        rw [← hz] at hSz h3z hXl
        have HZ : Hid (X.length = z) := hz.symm
        have HS0 : Hid (∃ S, S = strOfNums X) := ⟨_, rfl⟩
        clear hz
        by_cases hA : 300 < z ∧ z ≤ 4096
        · have t1 : (300 : Int) < ((strOfNums X).size : Int) := by omega
          have t2 : ((strOfNums X).size : Int) ≤ 4096 := by omega
          have t3 : ((strOfNums X).extract 0 300).size = 300 := by omega
          have t4 : ¬ (5000 : Int) < (((strOfNums X).extract 0 300).size : Int) := by omega
          clear h3z
          have HC2 : Hid (cS X = X.take 300) := by show _ = _; rw [HC.out, HZ.out]; rw [if_pos hA]
          have CI : Hid (InS (wr.alloc (.cells #[.string ((strOfNums X).extract 0 300)] 9)) (some ⟨wr.heap.size, 0, none⟩) [X.take 300]) := one_in (by rw [cell_of_row _ wr.heap.size 0 _ _ (0, 0) (heap_alloc_new wr _)]; first | rfl | (rw [HE3.out]; rfl) | (rw [HE5.out]; rfl))
          have O1 : Hid (RowsS (wr.alloc (.cells #[.string ((strOfNums X).extract 0 300)] 9)) h u3 ((recs.take j).map cS)) := HO.out.keep (gB_alloc wr _)
          have B1 : Hid (Below h w (wr.alloc (.cells #[.string ((strOfNums X).extract 0 300)] 9))) := HBW.out.trans ((gB_alloc wr _).mono hhw)
          have Z1 : Hid (h ≤ (wr.alloc (.cells #[.string ((strOfNums X).extract 0 300)] 9)).heap.size) := by
            show _ ≤ _
            rw [show (wr.alloc (.cells #[.string ((strOfNums X).extract 0 300)] 9)).heap.size = wr.heap.size + 1 by simp]
            omega
          go_wp2_with (at_builtin; refine appTL rfl (.tmp 35) (.tmp 37) rfl h _ ((recs.take j).map cS) rfl O1.out ⟨wr.heap.size, 0, none⟩ 1 1 [X.take 300] rfl rfl CI.out (by rw [HL.out]; omega) Z1.out ?_; intro v2 w2 r2 g2 o2; have R2 : Hid (RowsS w2 h v2 ((recs.take j).map cS ++ [X.take 300])) := r2; have G2 : Hid (Below h w w2) := B1.out.grown g2 Z1.out (fun k hk => (O1.out.own k hk).1); clear r2 g2 o2)
          go_roundg (20 - (j + 1))
          case measure => omega
          case rel => exact ⟨j + 1, by omega, by omega, rfl, by go_num, by rw [HT.out, HC2.out]; exact R2.out, G2.out⟩
        · by_cases hB : 5000 < z
          · have t1 : (300 : Int) < ((strOfNums X).size : Int) := by omega
            have t2 : ¬ ((strOfNums X).size : Int) ≤ 4096 := by omega
            have t4 : (5000 : Int) < ((strOfNums X).size : Int) := by omega
            have HC2 : Hid (cS X = X.take 5000) := by show _ = _; rw [HC.out, HZ.out]; rw [if_neg hA, if_pos hB]
            have CI : Hid (InS (wr.alloc (.cells #[.string ((strOfNums X).extract 0 5000)] 9)) (some ⟨wr.heap.size, 0, none⟩) [X.take 5000]) := one_in (by rw [cell_of_row _ wr.heap.size 0 _ _ (0, 0) (heap_alloc_new wr _)]; first | rfl | (rw [HE3.out]; rfl) | (rw [HE5.out]; rfl))
            have O1 : Hid (RowsS (wr.alloc (.cells #[.string ((strOfNums X).extract 0 5000)] 9)) h u3 ((recs.take j).map cS)) := HO.out.keep (gB_alloc wr _)
            have B1 : Hid (Below h w (wr.alloc (.cells #[.string ((strOfNums X).extract 0 5000)] 9))) := HBW.out.trans ((gB_alloc wr _).mono hhw)
            have Z1 : Hid (h ≤ (wr.alloc (.cells #[.string ((strOfNums X).extract 0 5000)] 9)).heap.size) := by
              show _ ≤ _
              rw [show (wr.alloc (.cells #[.string ((strOfNums X).extract 0 5000)] 9)).heap.size = wr.heap.size + 1 by simp]
              omega
            go_wp2_with (at_builtin; refine appTL rfl (.tmp 35) (.tmp 37) rfl h _ ((recs.take j).map cS) rfl O1.out ⟨wr.heap.size, 0, none⟩ 1 1 [X.take 5000] rfl rfl CI.out (by rw [HL.out]; omega) Z1.out ?_; intro v2 w2 r2 g2 o2; have R2 : Hid (RowsS w2 h v2 ((recs.take j).map cS ++ [X.take 5000])) := r2; have G2 : Hid (Below h w w2) := B1.out.grown g2 Z1.out (fun k hk => (O1.out.own k hk).1); clear r2 g2 o2)
            go_roundg (20 - (j + 1))
            case measure => omega
            case rel => exact ⟨j + 1, by omega, by omega, rfl, by go_num, by rw [HT.out, HC2.out]; exact R2.out, G2.out⟩
          · by_cases hD : 300 < z
            · have t1 : (300 : Int) < ((strOfNums X).size : Int) := by omega
              have t2 : ¬ ((strOfNums X).size : Int) ≤ 4096 := by omega
              have t4 : ¬ (5000 : Int) < ((strOfNums X).size : Int) := by omega
              have HC2 : Hid (cS X = X) := by show _ = _; rw [HC.out, HZ.out]; rw [if_neg hA, if_neg hB]
              have CI : Hid (InS (wr.alloc (.cells #[.string (strOfNums X)] 9)) (some ⟨wr.heap.size, 0, none⟩) [X]) := one_in (by rw [cell_of_row _ wr.heap.size 0 _ _ (0, 0) (heap_alloc_new wr _)]; first | rfl | (rw [HE3.out]; rfl) | (rw [HE5.out]; rfl))
              have O1 : Hid (RowsS (wr.alloc (.cells #[.string (strOfNums X)] 9)) h u3 ((recs.take j).map cS)) := HO.out.keep (gB_alloc wr _)
              have B1 : Hid (Below h w (wr.alloc (.cells #[.string (strOfNums X)] 9))) := HBW.out.trans ((gB_alloc wr _).mono hhw)
              have Z1 : Hid (h ≤ (wr.alloc (.cells #[.string (strOfNums X)] 9)).heap.size) := by
                show _ ≤ _
                rw [show (wr.alloc (.cells #[.string (strOfNums X)] 9)).heap.size = wr.heap.size + 1 by simp]
                omega
              go_wp2_with (at_builtin; refine appTL rfl (.tmp 35) (.tmp 37) rfl h _ ((recs.take j).map cS) rfl O1.out ⟨wr.heap.size, 0, none⟩ 1 1 [X] rfl rfl CI.out (by rw [HL.out]; omega) Z1.out ?_; intro v2 w2 r2 g2 o2; have R2 : Hid (RowsS w2 h v2 ((recs.take j).map cS ++ [X])) := r2; have G2 : Hid (Below h w w2) := B1.out.grown g2 Z1.out (fun k hk => (O1.out.own k hk).1); clear r2 g2 o2)
              go_roundg (20 - (j + 1))
              case measure => omega
              case rel => exact ⟨j + 1, by omega, by omega, rfl, by go_num, by rw [HT.out, HC2.out]; exact R2.out, G2.out⟩
            · have t1 : ¬ (300 : Int) < ((strOfNums X).size : Int) := by omega
              have t4 : ¬ (5000 : Int) < ((strOfNums X).size : Int) := by omega
              have HC2 : Hid (cS X = X) := by show _ = _; rw [HC.out, HZ.out]; rw [if_neg hA, if_neg hB]
              have CI : Hid (InS (wr.alloc (.cells #[.string (strOfNums X)] 9)) (some ⟨wr.heap.size, 0, none⟩) [X]) := one_in (by rw [cell_of_row _ wr.heap.size 0 _ _ (0, 0) (heap_alloc_new wr _)]; first | rfl | (rw [HE3.out]; rfl) | (rw [HE5.out]; rfl))
              have O1 : Hid (RowsS (wr.alloc (.cells #[.string (strOfNums X)] 9)) h u3 ((recs.take j).map cS)) := HO.out.keep (gB_alloc wr _)
              have B1 : Hid (Below h w (wr.alloc (.cells #[.string (strOfNums X)] 9))) := HBW.out.trans ((gB_alloc wr _).mono hhw)
              have Z1 : Hid (h ≤ (wr.alloc (.cells #[.string (strOfNums X)] 9)).heap.size) := by
                show _ ≤ _
                rw [show (wr.alloc (.cells #[.string (strOfNums X)] 9)).heap.size = wr.heap.size + 1 by simp]
                omega
              go_wp2_with (at_builtin; refine appTL rfl (.tmp 35) (.tmp 37) rfl h _ ((recs.take j).map cS) rfl O1.out ⟨wr.heap.size, 0, none⟩ 1 1 [X] rfl rfl CI.out (by rw [HL.out]; omega) Z1.out ?_; intro v2 w2 r2 g2 o2; have R2 : Hid (RowsS w2 h v2 ((recs.take j).map cS ++ [X])) := r2; have G2 : Hid (Below h w w2) := B1.out.grown g2 Z1.out (fun k hk => (O1.out.own k hk).1); clear r2 g2 o2)
              go_roundg (20 - (j + 1))
              case measure => omega
              case rel => exact ⟨j + 1, by omega, by omega, rfl, by go_num, by rw [HT.out, HC2.out]; exact R2.out, G2.out⟩
      · have i2 : ¬ (j : Int) < 20 := by omega
        have HT : Hid ((recs.take j).map cS = smL recs) := by
          show _ = _
          have : j = 20 := by omega
          rw [this]; rfl
        go_wp2_with fail
        go_ret
        exact ⟨_, rfl, by rw [← HT.out, ← HH.out]; exact HO.out, HBw.out⟩
    · have i1 : ¬ (j : Int) < (n : Int) := by omega
      have HT : Hid ((recs.take j).map cS = smL recs) := by
        show _ = _
        unfold smL
        rw [List.take_of_length_le (by omega), List.take_of_length_le (by omega)]
      go_wp2_with fail
      go_ret
      exact ⟨_, rfl, by rw [← HT.out, ← HH.out]; exact HO.out, HBw.out⟩
end Go.Proofs.YtkhopmlhinkpcaaGreat
namespace Go.Proofs.YtkhopmlhinkpcaaGreat
open Go.ChangeShapes Go.WideShapes Go.ChangeAt Go.RowKit Go.Deep
set_option linter.unusedVariables false
theorem mem_weightsAll {H : Type} {P : Program} {e : TypeId} {q : Nat} : ∀ {l : List (DataW H)} {d : DataW H}, d ∈ l → q ∈ d.weights P e → q ∈ DataW.weightsAll P e l
  | [], _, h, _ => by cases h
  | x :: r, d, h, hq => by
    rw [DataW.weightsAll]
    rcases List.mem_cons.1 h with rfl | h
    · exact List.mem_append_left _ hq
    · exact List.mem_append_right _ (mem_weightsAll h hq)
theorem bytesT : Tryz.prog.bytesOf 9 = 16 := by kernel_rfl
theorem cellsT : Tryz.prog.cellsOf 9 = 1 := by kernel_rfl
/-- a slice of texts that came in: what it holds, with what its reach bounds -/
theorem open_texts {H : Type} {enc : TypeId × Value → H} {W : World} {fuel : Nat} {a : Option Addr} {len cap : Nat} {x : DataW H × List MemPlace} (h : DataW.trod enc Tryz.prog W 0 (fun _ => true) true fuel 37 [.slice a len cap] = some x) (hw : ∀ q ∈ x.1.weights Tryz.prog 37, q ≤ 140737488351232) :
    ∃ l, l.length = len ∧ InS W a l ∧ len ≤ 17592186044416 ∧ ∀ B ∈ l, IsBytes B ∧ B.length ≤ 140737488351232 := by
  rcases open_strings Tryz.underlying37 Tryz.underlying9 cellsT h with ⟨hcs, hx⟩ | ⟨a', len', cap', ss, hcs, _, hl, hm, hz, hx, hcell, hsz⟩
  · simp only [List.cons.injEq, and_true, Value.slice.injEq] at hcs
    obtain ⟨rfl, rfl, rfl⟩ := hcs
    exact ⟨[], rfl, .inl rfl, by omega, fun B hB => by cases hB⟩
  · simp only [List.cons.injEq, and_true, Value.slice.injEq] at hcs
    obtain ⟨rfl, rfl, rfl⟩ := hcs
    have hzl : ss.length = cap := by simpa using hz
    subst hx
    have htl : (ss.take len).length = len := by rw [List.length_take]; omega
    refine ⟨(ss.take len).map sN, by rw [List.length_map, htl], ?_, ?_, ?_⟩
    · by_cases h0 : len = 0
      · left
        subst h0
        rfl
      · right
        have hc0 := hcell 0 (by omega)
        obtain ⟨b, off, spot⟩ := a'
        have hspot : spot = none := by simpa [Addr.add] using World.cell?_spot hc0
        subst hspot
        refine ⟨b, off, rfl, fun i hi => ?_⟩
        rw [List.length_map, htl] at hi
        have hci := hcell i (by omega)
        rw [add_plain] at hci
        rw [hci]
        have hi2 : i < ss.length := by omega
        have hi3 : i < (ss.take len).length := by omega
        rw [List.getD_eq_getElem?_getD, List.getD_eq_getElem?_getD, List.getElem?_map, List.getElem?_eq_getElem hi3, List.getElem?_eq_getElem hi2, List.getElem_take]
        show some (Value.string ss[i]) = some (Value.string (strOfNums (sN ss[i])))
        rw [sN_str]
    · have hq := hw (((ss.take len).length + (ss.drop len).length) * 16) (by
        simp only [DataW.weights, Tryz.underlying37, bytesT, Go.ChangeShapes.strs, List.length_map]
        exact List.mem_cons_self)
      rw [htl, List.length_drop] at hq
      omega
    · intro B hB
      obtain ⟨S, hS, rfl⟩ := List.mem_map.1 hB
      refine ⟨sN_bytes S, ?_⟩
      rw [sN_len]
      refine hw _ ?_
      simp only [DataW.weights, Tryz.underlying37]
      refine List.mem_cons_of_mem _ (List.mem_append_left _ (mem_weightsAll (d := .lit (.string S.data.toList)) ?_ ?_))
      · exact List.mem_map.2 ⟨S, hS, rfl⟩
      · simp [DataW.weights]
end Go.Proofs.YtkhopmlhinkpcaaGreat
