/- A log that nothing is lost of, plainly. The document's Same; the statements' own works. A log and its disk that outlive calls; what is neither's. The statements' own works. -/
import Derived.Test.YtaoddlmmgfgmnaaMgWg17
namespace Go.Proofs.Ytaoddlmmgfgmnaa
open Go.ChangeShapes Go.WideShapes Go.ChangeAt Go.RowKit Go.Deep Go.Maps
set_option linter.unusedVariables false
theorem flD_wr (D : List (List Int)) (W : Int → List (List Int)) (i : Nat) (C : List Int) : flD D (fun j => if j = (i : Int) then W j ++ [C] else W j) = (flD D W).set i C := by
  apply List.ext_getElem?
  intro k
  by_cases hk : k = i
  · subst hk
    by_cases hl : k < D.length
    · rw [List.getElem?_set_self (by rw [flD_len]; exact hl), flD_at _ _ _ _ (List.getElem?_eq_getElem hl)]
      simp [lastOf]
    · rw [List.getElem?_eq_none (by rw [flD_len]; omega), List.getElem?_eq_none (by rw [List.length_set, flD_len]; omega)]
  · rw [List.getElem?_set_ne (fun e => hk e.symm)]
    have hne : ¬ ((k : Int) = (i : Int)) := by omega
    simp only [flD, List.getElem?_mapIdx, if_neg hne]
theorem wr_ok {s : Ds} {i : Nat} {C : List Int} (hu : s.up = true) (hf : s.fu = -1) (hi : i < s.D.length) (hC : C.length = 64) : s.wr (i : Int) C = (0, ⟨s.D, fun j => if j = (i : Int) then s.W j ++ [C] else s.W j, true, s.dn + 1, -1⟩) := by
  unfold Ds.wr
  rw [if_neg (by rw [hu]; simp [rdyAt]; omega), if_neg (by simpa using hC), if_neg (by rw [hf]; omega), hf]
  rfl
theorem fl_ok {s : Ds} (hu : s.up = true) (hf : s.fu = -1) : s.fl = (0, ⟨flD s.D s.W, fun _ => [], true, s.dn + 1, -1⟩) := by
  unfold Ds.fl
  rw [if_neg (by simp [hu]), if_neg (by rw [hf]; omega), hf]
  rfl
theorem run_free : ∀ (A : List (Option (Nat × List Int))) (s : Ds), none ∉ A → (∀ p, some p ∈ A → p.1 < s.D.length ∧ p.2.length = 64) → s.up = true → s.fu = -1 → ∃ s', s.run A = (0, s') ∧ s'.up = true ∧ s'.fu = -1 ∧ s'.D = s.D ∧ flD s'.D s'.W = app A (flD s.D s.W)
  | [], s, _, _, hu, hf => ⟨s, rfl, hu, hf, rfl, rfl⟩
  | none :: r, s, hn, _, _, _ => absurd (List.mem_cons_self ..) hn
  | some p :: r, s, hn, hA, hu, hf => by
    obtain ⟨h1, h2⟩ := hA p (List.mem_cons_self ..)
    have e := wr_ok hu hf h1 h2
    obtain ⟨s', g1, g2, g3, g4, g5⟩ := run_free r ⟨s.D, fun j => if j = (p.1 : Int) then s.W j ++ [p.2] else s.W j, true, s.dn + 1, -1⟩ (fun h => hn (List.mem_cons_of_mem _ h)) (fun q hq => hA q (List.mem_cons_of_mem _ hq)) rfl rfl
    refine ⟨s', ?_, g2, g3, g4, ?_⟩
    · rw [Ds.run_cons]
      show (if (s.wr (p.1 : Int) p.2).1 ≠ 0 then s.wr (p.1 : Int) p.2 else (s.wr (p.1 : Int) p.2).2.run r) = _
      rw [e, if_neg (by simp)]
      exact g1
    · rw [g5]
      show app r (flD s.D fun j => if j = (p.1 : Int) then s.W j ++ [p.2] else s.W j) = _
      rw [flD_wr]
      rfl
/-- up, no fuse, nothing waits -/
structure Free (s : Ds) : Prop where
  up : s.up = true
  fu : s.fu = -1
  W : ∀ i, s.W i = []
theorem run_flush {s : Ds} {A : List (Option (Nat × List Int))} (h : Free s) (hn : none ∉ A) (hA : ∀ p, some p ∈ A → p.1 < s.D.length ∧ p.2.length = 64) : ∃ s', s.run (A ++ [none]) = (0, s') ∧ Free s' ∧ s'.D = app A s.D := by
  obtain ⟨s1, g1, g2, g3, g4, g5⟩ := run_free A s hn hA h.up h.fu
  have e := fl_ok g2 g3
  refine ⟨⟨flD s1.D s1.W, fun _ => [], true, s1.dn + 1, -1⟩, ?_, ⟨rfl, rfl, fun _ => rfl⟩, ?_⟩
  · rw [Ds.run_app, g1, if_neg (by simp)]
    show s1.run [none] = _
    rw [Ds.run_cons]
    show (if s1.fl.1 ≠ 0 then s1.fl else s1.fl.2.run []) = _
    rw [e, if_neg (by simp)]
    rfl
  · show flD s1.D s1.W = _
    rw [g5, flD_nil s.D s.W (fun i _ => h.W _)]
theorem mops_free {s : Ds} (h : Free s) (m no ar fr : Nat) (B : List Int) (hB : IsBytes B) (hf : 2 + ar * m + fr + (B.length + 63) / 64 ≤ s.D.length) (h2 : 2 ≤ s.D.length) : ∃ s', s.run (mops m no ar fr B) = (0, s') ∧ Free s' ∧ s'.D = (app (wops (2 + ar * m + fr) B) s.D).set ((no + 1) % 2) (hdB (no + 1) ar (64 * fr + B.length)) := by
  obtain ⟨s1, g1, g2, g3⟩ := run_flush (A := wops (2 + ar * m + fr) B) h (wops_some _ _ B (Nat.le_refl _)) (fun p hp => by have := wops_mem B.length (2 + ar * m + fr) B (Nat.le_refl _) hB p hp; exact ⟨by omega, this.2.1⟩)
  have hl : s1.D.length = s.D.length := by rw [g3, app_len]
  obtain ⟨s2, k1, k2, k3⟩ := run_flush (A := [some ((no + 1) % 2, hdB (no + 1) ar (64 * fr + B.length))]) g2 (by simp) (fun p hp => by
    have : p = ((no + 1) % 2, hdB (no + 1) ar (64 * fr + B.length)) := by simpa using hp
    subst this
    exact ⟨by show (no + 1) % 2 < _; omega, hdB_len _ _ _⟩)
  refine ⟨s2, ?_, k2, ?_⟩
  · unfold mops
    rw [Ds.run_app, g1, if_neg (by simp)]
    exact k1
  · rw [k3, g3]
    rfl
/-- a log of which nothing is lost, and its disk -/
structure Gd (s : Ds) (l : Lg) : Prop where
  free : Free s
  nums : Nums s.D s.am l.no l.ar l.R
  lies : Lies s.D s.am l.no l.ar l.R
  am : l.m = s.am
  lost : l.lost = false
  room : l.ln + (joinL l.W).length ≤ 64 * l.m
  wb : ∀ B ∈ l.W, IsBytes B ∧ B.length ≤ 4096
theorem gd_open {s : Ds} {l : Lg} (h : Gd s l) : s.opn = (0, some { l with W := [] }, s) := by
  rw [opn_lies h.free.up h.free.W h.nums h.lies, ← h.am]
  have := h.lost
  cases l
  simp_all
theorem bAt_get {D : List (List Int)} {i : Nat} (h : i < D.length) : D[i]? = some (bAt D i) := by unfold bAt; rw [List.getElem?_eq_getElem h]; rfl
theorem gd_new (n : Nat) (h6 : 6 ≤ n) (hn : n ≤ 4096) : ∃ s', (Ds.new n).opn = (0, some ⟨(n - 2) / 2, 1, 0, [], [], false⟩, s') ∧ Gd s' ⟨(n - 2) / 2, 1, 0, [], [], false⟩ ∧ s'.D.length = n := by
  have hl : (Ds.new n).D.length = n := by simp [Ds.new, noughts]
  have hz : ∀ i, i < n → (Ds.new n).cur i = List.replicate 64 0 := fun i hi => by
    rw [cur_nil (fun _ => rfl), bAt]
    show ((noughts n)[i]?).getD [] = _
    unfold noughts
    rw [List.getElem?_replicate, if_pos hi]
    rfl
  have hfree : Free (Ds.new n) := ⟨rfl, rfl, fun _ => rfl⟩
  obtain ⟨s1, k1, k2, k3⟩ := run_flush (A := [some (1, hdB 1 0 0)]) hfree (by simp) (fun p hp => by
    have : p = (1, hdB 1 0 0) := by simpa using hp
    subst this
    exact ⟨by show 1 < _; omega, hdB_len _ _ _⟩)
  have hl1 : s1.D.length = n := by rw [k3, app_len, hl]
  have ham : s1.am = (n - 2) / 2 := by unfold Ds.am; rw [hl1]
  have hD : s1.D = (noughts n).set 1 (hdB 1 0 0) := k3
  refine ⟨s1, ?_, ⟨k2, ?_, ?_, ham.symm, rfl, by show 0 + 0 ≤ _; omega, fun B hB => by cases hB⟩, hl1⟩
  · have k1' : (Ds.new n).run [some (1, hdB 1 0 0), none] = (0, s1) := k1
    have ham0 : (Ds.new n).am = (n - 2) / 2 := by unfold Ds.am; rw [hl]
    rw [Ds.opn, if_neg (by simp [Ds.new]), if_neg (by omega), Ds.fob, if_pos ⟨hz 0 (by omega), hz 1 (by omega)⟩, k1', if_pos rfl, ham0]
    rfl
  · rw [ham]
    refine ⟨?_, ⟨by omega, by omega⟩, by rw [hl1], ⟨by show 1 ≤ 1; omega, by show 1 ≤ 1152921504606846976; omega⟩, by show 0 ≤ 1; omega, by show 0 ≤ _; omega, fun B hB => by cases hB⟩
    rw [hD]
    intro x hx
    rcases List.mem_or_eq_of_mem_set hx with e | e
    · have : x = List.replicate 64 0 := List.eq_of_mem_replicate (show x ∈ List.replicate n (List.replicate 64 0) from e)
      rw [this]
      exact ⟨by simp, zeros_bytes _⟩
    · rw [e]; exact ⟨hdB_len _ _ _, hdB_bytes _ _ _ (by omega)⟩
  · rw [hD]
    refine ⟨?_, fun b hb hk => ?_, rfl⟩
    · show ((noughts n).set 1 (hdB 1 0 0))[1 % 2]? = some (hdB 1 0 0)
      rw [show 1 % 2 = 1 from rfl, List.getElem?_set_self (by simp [noughts]; omega)]
    · replace hb : ((noughts n).set 1 (hdB 1 0 0))[(1 + 1) % 2]? = some b := hb
      have e : ((noughts n).set 1 (hdB 1 0 0))[0]? = some (List.replicate 64 0) := by
        rw [List.getElem?_set_ne (by omega)]
        unfold noughts
        rw [List.getElem?_replicate, if_pos (by omega)]
        rfl
      have hb' : ((noughts n).set 1 (hdB 1 0 0))[0]? = some b := hb
      rw [e] at hb'
      obtain rfl := Option.some.inj hb'
      rw [zero_no] at hk
      cases hk
theorem gd_sync {s : Ds} {l : Lg} (h : Gd s l) (hno : l.no < 1152921504606846976) (hW : l.W ≠ []) : ∃ s', l.sync s = (0, { l with no := l.no + 1, R := l.R ++ l.W, W := [] }, s') ∧ Gd s' { l with no := l.no + 1, R := l.R ++ l.W, W := [] } ∧ s'.D.length = s.D.length := by
  have hn := h.nums
  have hlen := hn.len
  have hmm := hn.mm
  have hroom := h.room
  rw [h.am] at hroom
  have har : l.ar * s.am ≤ s.am := by have := hn.aa; rcases (by omega : l.ar = 0 ∨ l.ar = 1) with e | e <;> rw [e] <;> omega
  have hjl : IsBytes (joinL l.W) := joinL_bytes _ fun B hB => (h.wb B hB).1
  have hlnm : l.ln ≤ 64 * s.am := by omega
  -- the bytes of the log: whole blocks, and the part of the last
  have hcl : (catD s.D (2 + l.ar * s.am) ((l.ln + 63) / 64)).length = 64 * ((l.ln + 63) / 64) := catD_len hn.is64 _ _ (by omega)
  have hq : (catD s.D (2 + l.ar * s.am) (l.ln / 64)).length = 64 * (l.ln / 64) := catD_len hn.is64 _ _ (by omega)
  have hpart : l.part s = (catD s.D (2 + l.ar * s.am + l.ln / 64) ((l.ln % 64 + 63) / 64)).take (l.ln % 64) := by unfold Lg.part; rw [cat_nil h.free.W, h.am]
  have hlog : joinL l.R = catD s.D (2 + l.ar * s.am) (l.ln / 64) ++ l.part s := by
    have e1 : (l.ln + 63) / 64 = l.ln / 64 + (l.ln % 64 + 63) / 64 := by omega
    have g := h.lies.log
    have e2 : (joinL l.R).length = l.ln := rfl
    rw [e2, e1, catD_add, List.take_append, hq, show l.ln - 64 * (l.ln / 64) = l.ln % 64 by omega, List.take_of_length_le (by rw [hq]; omega)] at g
    rw [hpart]
    exact g.symm
  have hpl : (l.part s).length = l.ln % 64 := by
    have := congrArg List.length hlog
    rw [List.length_append, hq] at this
    have e2 : (joinL l.R).length = l.ln := rfl
    omega
  have hpb : IsBytes (l.part s) := by
    have hb : IsBytes (joinL l.R) := joinL_bytes _ fun B hB => (hn.rb B hB).1
    rw [hlog] at hb
    exact bytes_of_mem fun x hx => bytes_mem hb x (List.mem_append_right _ hx)
  have hBl : (l.part s ++ joinL l.W).length = l.ln % 64 + (joinL l.W).length := by rw [List.length_append, hpl]
  obtain ⟨s', k1, k2, k3⟩ := mops_free h.free l.m l.no l.ar (l.ln / 64) (l.part s ++ joinL l.W) (bytes_app hpb hjl) (by rw [hBl, h.am]; omega) (by omega)
  rw [hBl, h.am] at k3
  have hlD : s'.D.length = s.D.length := by rw [k3, List.length_set, app_len]
  have ham' : s'.am = s.am := by unfold Ds.am; rw [hlD]
  have eln : (joinL (l.R ++ l.W)).length = l.ln + (joinL l.W).length := by rw [joinL_app, List.length_append]; rfl
  have e64 : 64 * (l.ln / 64) + (l.ln % 64 + (joinL l.W).length) = l.ln + (joinL l.W).length := by omega
  rw [e64] at k3
  have hoff : ∀ j, 2 ≤ j → s'.D[j]? = (app (wops (2 + l.ar * s.am + l.ln / 64) (l.part s ++ joinL l.W)) s.D)[j]? := fun j hj => by rw [k3, List.getElem?_set_ne (by omega)]
  refine ⟨s', ?_, ⟨k2, ⟨?_, by rw [hlD]; exact hlen, by rw [ham', hlD]; exact hmm, ⟨by show 1 ≤ l.no + 1; omega, by show l.no + 1 ≤ _; omega⟩, hn.aa, by show (joinL (l.R ++ l.W)).length ≤ 64 * s'.am; rw [eln, ham']; omega, fun B hB => ?_⟩, ⟨?_, fun b hb hk => ?_, ?_⟩, by show l.m = s'.am; rw [ham', h.am], h.lost, by show (joinL (l.R ++ l.W)).length + 0 ≤ 64 * l.m; rw [eln, h.am]; omega, fun B hB => by cases hB⟩, hlD⟩
  · unfold Lg.sync
    rw [if_neg (by rw [h.lost]; simp), if_neg hW, if_neg (by rw [h.free.up]; simp), k1, if_pos rfl]
  · rw [k3]
    intro x hx
    rcases List.mem_or_eq_of_mem_set hx with e | e
    · exact Is64.app _ _ hn.is64 (fun p hp => (wops_mem _ _ _ (Nat.le_refl _) (bytes_app hpb hjl) p hp).2) x e
    · rw [e]; exact ⟨hdB_len _ _ _, hdB_bytes _ _ _ (by have := hn.aa; omega)⟩
  · rcases List.mem_append.1 hB with e | e
    · exact hn.rb B e
    · exact h.wb B e
  · show s'.D[(l.no + 1) % 2]? = some (hdB (l.no + 1) l.ar (joinL (l.R ++ l.W)).length)
    rw [k3, List.getElem?_set_self (by rw [app_len]; omega), eln]
  · have hb' : s'.D[(l.no + 1 + 1) % 2]? = some b := hb
    rw [k3, List.getElem?_set_ne (by omega), app_wops_off _ _ _ _ (Nat.le_refl _) _ (.inl (by omega)), show (l.no + 1 + 1) % 2 = l.no % 2 by omega, h.lies.hd] at hb'
    obtain rfl := Option.some.inj hb'
    rw [(hd_nums l.no l.ar (joinL l.R).length (by omega) (by have e2 : (joinL l.R).length = l.ln := rfl; omega)).1]
    show l.no < l.no + 1
    omega
  · show (catD s'.D (2 + l.ar * s'.am) (((joinL (l.R ++ l.W)).length + 63) / 64)).take (joinL (l.R ++ l.W)).length = joinL (l.R ++ l.W)
    rw [ham', eln, joinL_app]
    have e1 : (l.ln + (joinL l.W).length + 63) / 64 = l.ln / 64 + ((l.part s ++ joinL l.W).length + 63) / 64 := by rw [hBl]; omega
    rw [e1, catD_add, catD_same _ _ (fun j h1 h2 => (hoff j (by omega)).trans (app_wops_off _ _ _ _ (Nat.le_refl _) j (.inl (by omega)))), List.take_append, hq, show l.ln + (joinL l.W).length - 64 * (l.ln / 64) = (l.part s ++ joinL l.W).length by rw [hBl]; omega, List.take_of_length_le (by rw [hq]; omega), catD_same _ _ (fun j h1 h2 => hoff j (by omega)), app_wops_cat _ _ _ _ (Nat.le_refl _) (by rw [hBl]; omega), ← List.append_assoc, ← hlog]
theorem gd_reset {s : Ds} {l : Lg} (h : Gd s l) (hno : l.no < 1152921504606846976) (hW : l.W = []) (recs : List (List Int)) (hb : ∀ B ∈ recs, IsBytes B) (hf : (frO recs (64 * l.m)).2 = 0) : ∃ s', l.reset s recs = (0, { l with no := l.no + 1, ar := 1 - l.ar, R := recs, W := [] }, s') ∧ Gd s' { l with no := l.no + 1, ar := 1 - l.ar, R := recs, W := [] } ∧ s'.D.length = s.D.length := by
  have hn := h.nums
  have hlen := hn.len
  have hmm := hn.mm
  obtain ⟨f1, f2, f3⟩ := frO_ok hf
  rw [h.am] at f2
  have har : (1 - l.ar) * s.am ≤ s.am := by have := hn.aa; rcases (by omega : l.ar = 0 ∨ l.ar = 1) with e | e <;> rw [e] <;> omega
  have hjl : IsBytes (joinL recs) := joinL_bytes _ hb
  obtain ⟨s', k1, k2, k3⟩ := mops_free h.free l.m l.no (1 - l.ar) 0 (joinL recs) hjl (by rw [h.am]; omega) (by omega)
  rw [h.am] at k3
  have hlD : s'.D.length = s.D.length := by rw [k3, List.length_set, app_len]
  have ham' : s'.am = s.am := by unfold Ds.am; rw [hlD]
  rw [show 64 * 0 + (joinL recs).length = (joinL recs).length by omega, Nat.add_zero] at k3
  have hoff : ∀ j, 2 ≤ j → s'.D[j]? = (app (wops (2 + (1 - l.ar) * s.am) (joinL recs)) s.D)[j]? := fun j hj => by rw [k3, List.getElem?_set_ne (by omega)]
  refine ⟨s', ?_, ⟨k2, ⟨?_, by rw [hlD]; exact hlen, by rw [ham', hlD]; exact hmm, ⟨by show 1 ≤ l.no + 1; omega, by show l.no + 1 ≤ _; omega⟩, by show 1 - l.ar ≤ 1; omega, by show (joinL recs).length ≤ 64 * s'.am; rw [ham']; omega, fun B hB => ⟨hb B hB, f3 B hB⟩⟩, ⟨?_, fun b hb2 hk => ?_, ?_⟩, by show l.m = s'.am; rw [ham', h.am], h.lost, by show (joinL recs).length + 0 ≤ 64 * l.m; rw [h.am]; omega, fun B hB => by cases hB⟩, hlD⟩
  · unfold Lg.reset
    rw [if_neg (by rw [h.lost]; simp), if_neg (by simpa using hW), if_neg (by simpa using hf), k1, if_pos rfl]
  · rw [k3]
    intro x hx
    rcases List.mem_or_eq_of_mem_set hx with e | e
    · exact Is64.app _ _ hn.is64 (fun p hp => (wops_mem _ _ _ (Nat.le_refl _) hjl p hp).2) x e
    · rw [e]; exact ⟨hdB_len _ _ _, hdB_bytes _ _ _ (by omega)⟩
  · show s'.D[(l.no + 1) % 2]? = some (hdB (l.no + 1) (1 - l.ar) (joinL recs).length)
    rw [k3, List.getElem?_set_self (by rw [app_len]; omega)]
  · have hb' : s'.D[(l.no + 1 + 1) % 2]? = some b := hb2
    rw [k3, List.getElem?_set_ne (by omega), app_wops_off _ _ _ _ (Nat.le_refl _) _ (.inl (by omega)), show (l.no + 1 + 1) % 2 = l.no % 2 by omega, h.lies.hd] at hb'
    obtain rfl := Option.some.inj hb'
    rw [(hd_nums l.no l.ar (joinL l.R).length (by omega) (by have := hn.ln; omega)).1]
    show l.no < l.no + 1
    omega
  · show (catD s'.D (2 + (1 - l.ar) * s'.am) (((joinL recs).length + 63) / 64)).take (joinL recs).length = joinL recs
    rw [ham', catD_same _ _ (fun j h1 h2 => hoff j (by omega)), app_wops_cat _ _ _ _ (Nat.le_refl _) (by omega)]
theorem gd_add {s : Ds} {l : Lg} (h : Gd s l) (rec : List Int) (hB : IsBytes rec) : Gd s (l.add rec).2 := by
  have hok : l.Ok l.no := ⟨by have := h.nums.len; have := h.nums.mm; rw [h.am]; omega, by omega, h.nums.aa, h.room, h.nums.rb, h.wb⟩
  have h2 := Lg.add_ok hok hB
  unfold Lg.add at h2 ⊢
  rw [if_neg (by rw [h.lost]; simp)] at h2 ⊢
  split
  · exact h
  · rename_i hx
    rw [if_neg hx] at h2
    exact ⟨h.free, h.nums, h.lies, h.am, h.lost, h2.room, h2.wb⟩
theorem crD_nil (keep : List Int) (D : List (List Int)) (W : Int → List (List Int)) (h : ∀ i, W i = []) : crD keep D W = D := by
  have : wb D.length W = [] := by
    apply List.eq_nil_iff_forall_not_mem.2
    intro i hi
    exact (mem_wb.1 hi).2 (h _)
  rw [crD, this]
  rfl
theorem gd_crash {s : Ds} {l : Lg} (h : Gd s l) (keep : List Int) : Gd (s.cr keep) l := by
  have e : (s.cr keep).D = s.D := crD_nil keep s.D s.W h.free.W
  have ea : (s.cr keep).am = s.am := by unfold Ds.am; rw [e]
  exact ⟨⟨rfl, rfl, fun _ => rfl⟩, by rw [ea, e]; exact h.nums, by rw [ea, e]; exact h.lies, by rw [ea]; exact h.am, h.lost, h.room, h.wb⟩
theorem gd_drop {s : Ds} {l : Lg} (h : Gd s l) : Gd s { l with W := [] } := ⟨h.free, h.nums, h.lies, h.am, h.lost, by have := h.room; show l.ln + 0 ≤ 64 * l.m; omega, fun B hB => by cases hB⟩
end Go.Proofs.Ytaoddlmmgfgmnaa
namespace Go.Proofs.Ytaoddlmmgfgmnaa
open Go.ChangeShapes Go.WideShapes Go.ChangeAt Go.RowKit Go.Deep Go.Maps
set_option linter.unusedVariables false
theorem strs_ne {A B : List Int} (ha : IsBytes A) (hb : IsBytes B) (h : A ≠ B) : ((strOfNums A).toList == (strOfNums B).toList) = false := by
  rw [str_eq A B (bytes_mem ha) (bytes_mem hb), decide_eq_false h]
theorem list_ext_getD {l k : List (List Int)} (hl : l.length = k.length) (h : ∀ i, i < l.length → l.getD i [] = k.getD i []) : l = k := by
  apply List.ext_getElem hl
  intro i h1 h2
  have := h i h1
  rwa [List.getD_eq_getElem?_getD, List.getD_eq_getElem?_getD, List.getElem?_eq_getElem h1, List.getElem?_eq_getElem h2] at this
set_option maxHeartbeats 1000000 in
theorem wsame_is (w : World) (a b : Option Addr) (n m c d : Nat) (l k : List (List Int)) (hn : l.length = n) (hm : k.length = m) (hn2 : n ≤ 1000000) (hm2 : m ≤ 1000000) (hl : InS w a l) (hk : InS w b k) (lb : ∀ B ∈ l, IsBytes B) (kb : ∀ B ∈ k, IsBytes B) :
    Calls Try.prog 19 #[.slice a n c, .slice b m d] w fun e w' => e = .returned (.bool (decide (l = k))) ∧ Below w.heap.size w w' := by
  by_cases hnm : n = m
  · subst hnm
    have HL : Hid (InS w a l) := hl
    have HK : Hid (InS w b k) := hk
    have LB : Hid (∀ B ∈ l, IsBytes B) := lb
    have KB : Hid (∀ B ∈ k, IsBytes B) := kb
    obtain ⟨R, hR⟩ : ∃ R, R = decide (l = k) := ⟨_, rfl⟩
    rw [← hR]
    have HR : Hid (R = decide (l = k)) := hR
    clear hl hk lb kb hR
    go_enter Try.func19, Try.ntmps19
    go_wp2_with fail
    go_loopg [5] n (fun g i wr => ∃ j : Nat, j ≤ n ∧ g = n - j ∧ i = .int .i64 (j : Int) ∧ Hid (Below w.heap.size w wr) ∧ Hid (∀ i, i < j → l.getD i [] = k.getD i []))
    case atStart => exact ⟨0, Nat.zero_le _, rfl, rfl, Below.refl _ _, fun i hi => absurd hi (Nat.not_lt_zero _)⟩
    case round =>
      obtain ⟨j, hj, rfl, rfl, HB, HS⟩ := hrel
      by_cases hlt : j < n
      · have i1 : (j : Int) < (n : Int) := by omega
        obtain ⟨g1, o1, rfl, hc1⟩ : ∃ g off, a = some ⟨g, off, none⟩ ∧ ∀ i, i < l.length → w.cell? ⟨g, off + i, none⟩ = some (.string (strOfNums (l.getD i []))) := by
          rcases HL.out with rfl | h
          · simp at hn; omega
          · exact h
        obtain ⟨g2, o2, rfl, hc2⟩ : ∃ g off, b = some ⟨g, off, none⟩ ∧ ∀ i, i < k.length → w.cell? ⟨g, off + i, none⟩ = some (.string (strOfNums (k.getD i []))) := by
          rcases HK.out with rfl | h
          · simp at hm; omega
          · exact h
        have c1 := hc1 j (by omega)
        have c2 := hc2 j (by omega)
        have k1 : wr.cell? ⟨g1, o1 + j, none⟩ = some (.string (strOfNums (l.getD j []))) := (HB.out.cell (p := ⟨g1, o1 + j, none⟩) (World.block_lt_of_cell? _ _ c1)).trans c1
        have k2 : wr.cell? ⟨g2, o2 + j, none⟩ = some (.string (strOfNums (k.getD j []))) := (HB.out.cell (p := ⟨g2, o2 + j, none⟩) (World.block_lt_of_cell? _ _ c2)).trans c2
        have m1 : l.getD j [] ∈ l := by rw [List.getD_eq_getElem?_getD, List.getElem?_eq_getElem (by omega)]; exact List.getElem_mem _
        have m2 : k.getD j [] ∈ k := by rw [List.getD_eq_getElem?_getD, List.getElem?_eq_getElem (by omega)]; exact List.getElem_mem _
        clear hc1 hc2 c1 c2
        by_cases he : l.getD j [] = k.getD j []
        · have HS2 : Hid (∀ i, i < j + 1 → l.getD i [] = k.getD i []) := fun i hi => by
            by_cases h : i = j
            · rw [h]; exact he
            · exact HS.out i (by omega)
          rw [he] at k1
          generalize strOfNums (k.getD j []) = X at *
          clear he m1 m2
          go_wp2_with fail
          go_quiet (fail)
          go_wp2_with fail
          go_roundg (n - (j + 1))
          case measure => omega
          case rel => exact ⟨j + 1, by omega, rfl, by go_num, HB.out.trans (below_drewN (Below.refl _ _) _ |>.mono HB.out.size), HS2⟩
        · have hb := strs_ne (LB.out _ m1) (KB.out _ m2) he
          have HR2 : Hid (R = false) := by
            show _ = _
            rw [HR.out, decide_eq_false]
            intro e
            exact he (by rw [e])
          generalize strOfNums (k.getD j []) = X at *
          generalize strOfNums (l.getD j []) = Y at *
          clear he m1 m2
          go_wp2_with fail
          go_quiet (fail)
          go_wp2_with fail
          go_ret
          exact ⟨by rw [HR2.out]; rfl, HB.out.trans (below_drewN (Below.refl _ _) _ |>.mono HB.out.size)⟩
      · have e : j = n := by omega
        subst e
        have i1 : ¬ (j : Int) < (j : Int) := by omega
        have HR2 : Hid (R = true) := by
          show _ = _
          rw [HR.out, decide_eq_true (list_ext_getD (by omega) (fun i hi => HS.out i (by omega)))]
        go_wp2_with fail
        go_ret
        exact ⟨by rw [HR2.out]; rfl, HB.out⟩
  · have e1 : ((n : Int) == (m : Int)) = false := by rw [beq_eq_false_iff_ne]; omega
    have hne : decide (l = k) = false := decide_eq_false fun e => hnm (by rw [← hn, ← hm, e])
    rw [hne]
    go_enter Try.func19, Try.ntmps19
    go_wp2_with fail
    go_ret
    exact ⟨rfl, Below.refl _ _⟩
end Go.Proofs.Ytaoddlmmgfgmnaa
namespace Go.Proofs.Ytaoddlmmgfgmnaa
open Go.ChangeShapes Go.WideShapes Go.ChangeAt Go.RowKit Go.Deep Go.Maps
set_option linter.unusedVariables false
/-- in block bd the disk s, in block bl the log l of it, all made since w; the blocks P are neither's -/
structure Wl (w wr : World) (P : Nat → Prop) (bd bl N : Nat) (s : Ds) (l : Lg) : Prop where
  ex : ∃ F G, Dk wr F bd N s ∧ Lm wr G bl bd l ∧ (∀ k, G k → ¬ F k) ∧ (∀ k, F k → w.heap.size ≤ k) ∧ (∀ k, G k → w.heap.size ≤ k) ∧ ∀ k, P k → k < wr.heap.size ∧ ¬ F k ∧ ¬ G k
  ok : l.Ok N
  bel : Below w.heap.size w wr
/-- in block bd the disk s alone -/
structure Wd (w wr : World) (P : Nat → Prop) (bd N : Nat) (s : Ds) : Prop where
  ex : ∃ F, Dk wr F bd N s ∧ (∀ k, F k → w.heap.size ≤ k) ∧ ∀ k, P k → k < wr.heap.size ∧ ¬ F k
  bel : Below w.heap.size w wr
theorem Wl.disk {w wr : World} {P : Nat → Prop} {bd bl N : Nat} {s : Ds} {l : Lg} (h : Wl w wr P bd bl N s l) : Wd w wr P bd N s := by
  obtain ⟨F, G, d, _, _, f, _, p⟩ := h.ex
  exact ⟨⟨F, d, f, fun k hk => ⟨(p k hk).1, (p k hk).2.1⟩⟩, h.bel⟩
theorem Wl.more {w wr : World} {P : Nat → Prop} {bd bl N N' : Nat} {s : Ds} {l : Lg} (h : Wl w wr P bd bl N s l) (hN : N ≤ N') : Wl w wr P bd bl N' s l := by
  obtain ⟨F, G, d, r⟩ := h.ex
  exact ⟨⟨F, G, d.more hN, r⟩, h.ok.more hN, h.bel⟩
theorem Wd.more {w wr : World} {P : Nat → Prop} {bd N N' : Nat} {s : Ds} (h : Wd w wr P bd N s) (hN : N ≤ N') : Wd w wr P bd N' s := by
  obtain ⟨F, d, r⟩ := h.ex
  exact ⟨⟨F, d.more hN, r⟩, h.bel⟩
theorem Wl.less {w wr : World} {P Q : Nat → Prop} {bd bl N : Nat} {s : Ds} {l : Lg} (h : Wl w wr P bd bl N s l) (hQ : ∀ k, Q k → P k) : Wl w wr Q bd bl N s l := by
  obtain ⟨F, G, a1, a2, a3, a4, a5, a6⟩ := h.ex
  exact ⟨⟨F, G, a1, a2, a3, a4, a5, fun k hk => a6 k (hQ k hk)⟩, h.ok, h.bel⟩
/-- whatever was made since is neither's -/
theorem Wl.keep {w wr w' : World} {P : Nat → Prop} {bd bl N : Nat} {s : Ds} {l : Lg} (h : Wl w wr P bd bl N s l) (hb : Below wr.heap.size wr w') : Wl w w' (fun k => P k ∨ (wr.heap.size ≤ k ∧ k < w'.heap.size)) bd bl N s l := by
  obtain ⟨F, G, a1, a2, a3, a4, a5, a6⟩ := h.ex
  refine ⟨⟨F, G, a1.keep hb, a2.keep hb, a3, a4, a5, fun k hk => ?_⟩, h.ok, h.bel.trans (hb.mono h.bel.size)⟩
  rcases hk with hk | ⟨k1, k2⟩
  · have := a6 k hk
    exact ⟨Nat.lt_of_lt_of_le this.1 hb.size, this.2⟩
  · exact ⟨k2, fun e => by have := a1.lt k e; omega, fun e => by have := a2.lt k e; omega⟩
theorem Wd.keep {w wr w' : World} {P : Nat → Prop} {bd N : Nat} {s : Ds} (h : Wd w wr P bd N s) (hb : Below wr.heap.size wr w') : Wd w w' (fun k => P k ∨ (wr.heap.size ≤ k ∧ k < w'.heap.size)) bd N s := by
  obtain ⟨F, a1, a2, a3⟩ := h.ex
  refine ⟨⟨F, a1.keep hb, a2, fun k hk => ?_⟩, h.bel.trans (hb.mono h.bel.size)⟩
  rcases hk with hk | ⟨k1, k2⟩
  · exact ⟨Nat.lt_of_lt_of_le (a3 k hk).1 hb.size, (a3 k hk).2⟩
  · exact ⟨k2, fun e => by have := a1.lt k e; omega⟩
theorem Wl.keep0 {w wr w' : World} {P : Nat → Prop} {bd bl N : Nat} {s : Ds} {l : Lg} (h : Wl w wr P bd bl N s l) (hb : Below wr.heap.size wr w') : Wl w w' P bd bl N s l := (h.keep hb).less fun _ hk => .inl hk
theorem Wl.stepB {w wr w' : World} {P : Nat → Prop} {bd bl N' : Nat} {s' : Ds} {l' : Lg} {F F' G G' : Nat → Prop} (hB : Below w.heap.size w wr) (hF : ∀ k, F k → w.heap.size ≤ k) (hG : ∀ k, G k → w.heap.size ≤ k) (hP : ∀ k, P k → k < wr.heap.size ∧ ¬ F k ∧ ¬ G k) (hd : Dk w' F' bd N' s') (hl : Lm w' G' bl bd l') (hs : StepB F F' G G' wr w') (hx : ∀ k, G' k → ¬ F' k) (hok : l'.Ok N') : Wl w w' P bd bl N' s' l' ∧ ∀ k, P k → w'.heap[k]? = wr.heap[k]? := by
  refine ⟨⟨⟨F', G', hd, hl, hx, fun k hk => ?_, fun k hk => ?_, fun k hk => ⟨Nat.lt_of_lt_of_le (hP k hk).1 hs.off.size, fun e => ?_, fun e => ?_⟩⟩, hok, hB.trans (hs.off.below (fun k hk => hk.elim (hF k) (hG k)) hB.size)⟩, fun k hk => hs.off.block k (hP k hk).1 (fun e => e.elim (hP k hk).2.1 (hP k hk).2.2)⟩
  · rcases hs.sub k hk with e | e
    · exact hF k e
    · exact Nat.le_trans hB.size e
  · rcases hs.sug k hk with e | e
    · exact hG k e
    · exact Nat.le_trans hB.size e
  · rcases hs.sub k e with e | e
    · exact (hP k hk).2.1 e
    · have := (hP k hk).1; omega
  · rcases hs.sug k e with e | e
    · exact (hP k hk).2.2 e
    · have := (hP k hk).1; omega
theorem sync_ok {l : Lg} {s : Ds} {N : Nat} (h : l.Ok N) : (l.sync s).2.1.Ok (N + 2100) := by
  unfold Lg.sync
  split
  · exact h.more (by omega)
  · split
    · exact h.more (by omega)
    · split
      · exact ⟨h.m, by have := h.no; show l.no ≤ _; omega, h.ar, h.room, h.rb, h.wb⟩
      · split
        · refine ⟨h.m, by have := h.no; show l.no + 1 ≤ _; omega, h.ar, ?_, fun B hB => ?_, fun B hB => by cases hB⟩
          · show (joinL (l.R ++ l.W)).length + 0 ≤ 64 * l.m
            have e : (joinL (l.R ++ l.W)).length = l.ln + (joinL l.W).length := by rw [joinL_app, List.length_append]; rfl
            have := h.room
            omega
          · rcases List.mem_append.1 hB with e | e
            · exact h.rb B e
            · exact h.wb B e
        · exact ⟨h.m, by have := h.no; show l.no ≤ _; omega, h.ar, h.room, h.rb, h.wb⟩
theorem reset_ok {l : Lg} {s : Ds} {N : Nat} (h : l.Ok N) {recs : List (List Int)} (hb : ∀ B ∈ recs, IsBytes B) : (l.reset s recs).2.1.Ok (N + 2100) := by
  unfold Lg.reset
  split
  · exact h.more (by omega)
  · split
    · exact h.more (by omega)
    · split
      · exact h.more (by omega)
      · rename_i h3
        split
        · obtain ⟨f1, f2, f3⟩ := frO_ok (show (frO recs (64 * l.m)).2 = 0 by simpa using h3)
          exact ⟨h.m, by have := h.no; show l.no + 1 ≤ _; omega, by show 1 - l.ar ≤ 1; omega, by show (joinL recs).length + 0 ≤ 64 * l.m; omega, fun B hB => ⟨hb B hB, f3 B hB⟩, fun B hB => by cases hB⟩
        · exact ⟨h.m, by have := h.no; show l.no ≤ _; omega, h.ar, h.room, h.rb, h.wb⟩
theorem wl_add {w wr : World} {P : Nat → Prop} {bd bl N : Nat} {s : Ds} {l : Lg} (T : Wl w wr P bd bl N s l) (rec : List Int) (hB : IsBytes rec) : Calls Try.prog 8 #[.pointer (some ⟨bl, 0, none⟩), .string (strOfNums rec)] wr fun e w' => e = .returned (.int .i64 (l.add rec).1) ∧ Wl w w' P bd bl N s (l.add rec).2 ∧ ∀ k, P k → w'.heap[k]? = wr.heap[k]? := by
  obtain ⟨F, G, a1, a2, a3, a4, a5, a6⟩ := T.ex
  refine (add_is wr G bl bd N l a2 T.ok rec hB).mono ?_
  rintro e w' ⟨rfl, G', hl, hs⟩
  exact ⟨rfl, Wl.stepB T.bel a4 a5 a6 (a1.apartL hs a3) hl hs.toBG (fun k hk hf => by
    rcases hs.sub k hk with e | e
    · exact a3 k e hf
    · have := a1.lt k hf; omega) (Lg.add_ok T.ok hB)⟩
theorem wl_sync {w wr : World} {P : Nat → Prop} {bd bl N : Nat} {s : Ds} {l : Lg} (T : Wl w wr P bd bl N s l) (hfit : 2 + l.ar * l.m + l.m ≤ s.D.length) (hN : N + 3000 < 999900) : Calls Try.prog 9 #[.pointer (some ⟨bl, 0, none⟩)] wr fun e w' => e = .returned (.int .i64 (l.sync s).1) ∧ Wl w w' P bd bl (N + 2100) (l.sync s).2.2 (l.sync s).2.1 ∧ ∀ k, P k → w'.heap[k]? = wr.heap[k]? := by
  obtain ⟨F, G, a1, a2, a3, a4, a5, a6⟩ := T.ex
  refine (sync_is wr F G bl bd N s l a1 a2 T.ok a3 hfit hN).mono ?_
  rintro e w' ⟨rfl, F', G', hd, hl, hs, hx⟩
  exact ⟨rfl, Wl.stepB T.bel a4 a5 a6 hd hl hs hx (sync_ok T.ok)⟩
theorem wl_reset {w wr : World} {P : Nat → Prop} {bd bl N : Nat} {s : Ds} {l : Lg} (T : Wl w wr P bd bl N s l) (hN : N + 3000 < 999900) (a : Option Addr) (n c : Nat) (recs : List (List Int)) (hn : recs.length = n) (hn2 : n ≤ 1000000) (hin : InS wr a recs) (ha : a = none → n = 0 ∧ c = 0) (hB : ∀ B ∈ recs, IsBytes B) (hx : ∀ x, a = some x → recs ≠ [] → P x.block ∨ x.block < w.heap.size) : Calls Try.prog 10 #[.pointer (some ⟨bl, 0, none⟩), .slice a n c] wr fun e w' => e = .returned (.int .i64 (l.reset s recs).1) ∧ Wl w w' P bd bl (N + 2100) (l.reset s recs).2.2 (l.reset s recs).2.1 ∧ ∀ k, P k → w'.heap[k]? = wr.heap[k]? := by
  obtain ⟨F, G, a1, a2, a3, a4, a5, a6⟩ := T.ex
  refine (reset_is wr F G bl bd N s l a1 a2 T.ok a3 hN a n c recs hn hn2 hin ha hB (fun x hx2 hne => ?_)).mono ?_
  · rcases hx x hx2 hne with h | h
    · exact (a6 _ h).2
    · exact ⟨fun e => by have := a4 _ e; omega, fun e => by have := a5 _ e; omega⟩
  · rintro e w' ⟨rfl, F', G', hd, hl, hs, hx⟩
    exact ⟨rfl, Wl.stepB T.bel a4 a5 a6 hd hl hs hx (reset_ok T.ok hB)⟩
theorem wl_room {w wr : World} {P : Nat → Prop} {bd bl N : Nat} {s : Ds} {l : Lg} (T : Wl w wr P bd bl N s l) : Calls Try.prog 14 #[.pointer (some ⟨bl, 0, none⟩)] wr fun e w' => e = .returned (.int .i64 (l.room : Nat)) ∧ Below wr.heap.size wr w' := by
  obtain ⟨F, G, a1, a2, _⟩ := T.ex
  exact wroom_is wr G bl bd N l a2 T.ok
theorem wl_records {w wr : World} {P : Nat → Prop} {bd bl N : Nat} {s : Ds} {l : Lg} (T : Wl w wr P bd bl N s l) : Calls Try.prog 11 #[.pointer (some ⟨bl, 0, none⟩)] wr fun e w' => ∃ v, e = .returned v ∧ RowsS w' wr.heap.size v l.R ∧ Below wr.heap.size wr w' := by
  obtain ⟨F, G, a1, a2, _⟩ := T.ex
  exact wrecords_is wr G bl bd N l a2 T.ok
theorem wl_waiting {w wr : World} {P : Nat → Prop} {bd bl N : Nat} {s : Ds} {l : Lg} (T : Wl w wr P bd bl N s l) : Calls Try.prog 12 #[.pointer (some ⟨bl, 0, none⟩)] wr fun e w' => e = .returned (.int .i64 (l.W.length : Nat)) ∧ w' = wr := by
  obtain ⟨F, G, a1, a2, _⟩ := T.ex
  exact wwaiting_is wr G bl bd l a2
theorem wl_used {w wr : World} {P : Nat → Prop} {bd bl N : Nat} {s : Ds} {l : Lg} (T : Wl w wr P bd bl N s l) : Calls Try.prog 13 #[.pointer (some ⟨bl, 0, none⟩)] wr fun e w' => e = .returned (.int .i64 (l.ln : Nat)) ∧ w' = wr := by
  obtain ⟨F, G, a1, a2, _⟩ := T.ex
  exact wused_is wr G bl bd l a2
theorem wd_blocks {w wr : World} {P : Nat → Prop} {bd N : Nat} {s : Ds} (T : Wd w wr P bd N s) : Calls Try.prog 24 #[.pointer (some ⟨bd, 0, none⟩)] wr fun e w' => e = .returned (.int .i64 (s.D.length : Int)) ∧ w' = wr := by
  obtain ⟨F, a1, _⟩ := T.ex
  exact dk_blocks wr F bd N s a1
theorem wd_new (n : Nat) (h1 : 1 ≤ n) (h2 : n ≤ 4096) (w wr : World) (hb : Below w.heap.size w wr) : Calls Try.prog 22 #[.int .i64 (n : Int)] wr fun e w' => ∃ b, e = .returned (.tuple #[.pointer (some ⟨b, 0, none⟩), .int .i64 0]) ∧ Wd w w' (fun k => k < wr.heap.size) b 0 (Ds.new n) ∧ Below wr.heap.size wr w' := by
  refine (dk_new n h1 h2 wr).mono ?_
  rintro e w' ⟨b, F, rfl, hd, hb2, hF⟩
  exact ⟨b, rfl, ⟨⟨F, hd, fun k hk => Nat.le_trans hb.size (hF k hk), fun k hk => ⟨Nat.lt_of_lt_of_le hk hb2.size, fun e => by have := hF k e; omega⟩⟩, hb.trans (hb2.mono hb.size)⟩, hb2⟩
/-- Open of a disk: the log is new -/
theorem wd_open {w wr : World} {P : Nat → Prop} {bd N : Nat} {s : Ds} (T : Wd w wr P bd N s) (hN : N < 999998) : Calls Try.prog 15 #[.pointer (some ⟨bd, 0, none⟩)] wr fun e w' => (∀ k, P k → w'.heap[k]? = wr.heap[k]?) ∧ wr.heap.size ≤ w'.heap.size ∧ ((s.opn.1 = 0 ∧ ∃ bl l, s.opn.2.1 = some l ∧ e = .returned (.tuple #[.pointer (some ⟨bl, 0, none⟩), .int .i64 0]) ∧ Wl w w' P bd bl (N + 2) s.opn.2.2 l ∧ 1 ≤ l.no) ∨ (s.opn.1 ≠ 0 ∧ e = .returned (.tuple #[.pointer none, .int .i64 s.opn.1]) ∧ Wd w w' P bd (N + 2) s.opn.2.2)) := by
  obtain ⟨F, a1, a2, a3⟩ := T.ex
  refine (open_is wr F bd N s a1 hN).mono ?_
  rintro e w' ⟨F', hd, hs, hor⟩
  have hF' : ∀ k, F' k → w.heap.size ≤ k := fun k hk => by
    rcases hs.sub k hk with e | e
    · exact a2 k e
    · exact Nat.le_trans T.bel.size e
  have hP' : ∀ k, P k → k < w'.heap.size ∧ ¬ F' k := fun k hk => ⟨Nat.lt_of_lt_of_le (a3 k hk).1 hs.off.size, fun e => by
    rcases hs.sub k e with e | e
    · exact (a3 k hk).2 e
    · have := (a3 k hk).1; omega⟩
  have hbel : Below w.heap.size w w' := T.bel.trans (hs.off.below a2 T.bel.size)
  refine ⟨fun k hk => hs.off.block k (a3 k hk).1 (a3 k hk).2, hs.off.size, ?_⟩
  rcases hor with ⟨h0, bl, G, l, hl, he, hm, hok, hno, hg1, hg2⟩ | ⟨h0, he⟩
  · exact .inl ⟨h0, bl, l, hl, he, ⟨⟨F', G, hd, hm, hg2, hF', fun k hk => Nat.le_trans T.bel.size (hg1 k hk), fun k hk => ⟨(hP' k hk).1, (hP' k hk).2, fun e => by have := hg1 k e; have := (a3 k hk).1; omega⟩⟩, hok.more (by omega), hbel⟩, hno⟩
  · exact .inr ⟨h0, he, ⟨⟨F', hd, hF', hP'⟩, hbel⟩⟩
theorem wd_crash {w wr : World} {P : Nat → Prop} {bd N : Nat} {s : Ds} (T : Wd w wr P bd N s) (hN : N ≤ 1000000) (ka : Option Addr) (kl kc : Nat) (keep : List Int) (hkl : keep.length = kl) (hin : InK wr ka keep) (hk : ∀ x, ka = some x → keep ≠ [] → P x.block ∨ x.block < w.heap.size) : Calls Try.prog 18 #[.pointer (some ⟨bd, 0, none⟩), .slice ka kl kc] wr fun e w' => e = .returned (.int .i64 0) ∧ Wd w w' P bd N (s.cr keep) ∧ (∀ k, P k → w'.heap[k]? = wr.heap[k]?) ∧ wr.heap.size ≤ w'.heap.size := by
  obtain ⟨F, a1, a2, a3⟩ := T.ex
  refine (dk_crash wr F bd N s a1 hN ka kl kc keep hkl hin (fun x hx hne hF => ?_)).mono ?_
  · rcases hk x hx hne with h | h
    · exact (a3 _ h).2 hF
    · have := a2 _ hF; omega
  · rintro e w' ⟨rfl, F', hd, hs⟩
    refine ⟨rfl, ⟨⟨F', hd, fun k hk => ?_, fun k hk => ⟨Nat.lt_of_lt_of_le (a3 k hk).1 hs.off.size, fun e => ?_⟩⟩, T.bel.trans (hs.off.below a2 T.bel.size)⟩, fun k hk => hs.off.block k (a3 k hk).1 (a3 k hk).2, hs.off.size⟩
    · rcases hs.sub k hk with e | e
      · exact a2 k e
      · exact Nat.le_trans T.bel.size e
    · rcases hs.sub k e with e | e
      · exact (a3 k hk).2 e
      · have := (a3 k hk).1; omega
end Go.Proofs.Ytaoddlmmgfgmnaa
namespace Go.Proofs.Ytaoddlmmgfgmnaa
open Go.ChangeShapes Go.WideShapes Go.ChangeAt Go.RowKit Go.Deep Go.Maps
set_option linter.unusedVariables false
theorem str_x : strOfNums [120] = ⟨#[120]⟩ := rfl
theorem x_bytes : IsBytes [120] := bytes_of_mem fun y hy => by
  have : y = 120 := by simpa using hy
  omega
set_option maxRecDepth 100000 in
set_option maxHeartbeats 4000000 in
theorem works_true (w : World) : Calls Try.prog 16 #[] w fun e w' => e = .returned (.bool true) ∧ Below w.heap.size w w' := by
  obtain ⟨s1, o1, G1, hD1⟩ := gd_new 8 (by omega) (by omega)
  obtain ⟨l1, hl1⟩ : ∃ l1, l1 = (⟨(8 - 2) / 2, 1, 0, [], [], false⟩ : Lg) := ⟨_, rfl⟩
  rw [← hl1] at o1 G1
  have r1 : l1.room = 192 := by rw [hl1]; rfl
  have a1 : l1.add [120] = (0, ⟨3, 1, 0, [], [[120]], false⟩) := by
    have hx : (frO [[120]] l1.room).2 = 0 := by rw [r1, frO_one]; rfl
    unfold Lg.add
    rw [if_neg (by rw [hl1]; simp), if_neg (by rw [hx]; simp), hl1]
    rfl
  have G2 := gd_add G1 [120] x_bytes
  rw [a1] at G2
  obtain ⟨l2, hl2⟩ : ∃ l2, l2 = (⟨3, 1, 0, [], [[120]], false⟩ : Lg) := ⟨_, rfl⟩
  rw [← hl2] at a1 G2
  have r2 : l2.room = 183 := by rw [hl2]; decide +kernel
  obtain ⟨s3, y3, G3, hD3⟩ := gd_sync G2 (by rw [hl2]; decide) (by rw [hl2]; decide)
  obtain ⟨l3, hl3⟩ : ∃ l3, l3 = ({ l2 with no := l2.no + 1, R := l2.R ++ l2.W, W := [] } : Lg) := ⟨_, rfl⟩
  rw [← hl3] at y3 G3
  have G4 := gd_crash G3 []
  have o4 := gd_open G4
  have e4 : ({ l3 with W := [] } : Lg) = l3 := by rw [hl3]
  rw [e4] at o4
  have R4 : l3.R = [[120]] := by rw [hl3, hl2]; rfl
  have U4 : l3.ln = 9 := by rw [hl3, hl2]; decide +kernel
  have fit2 : 2 + l2.ar * l2.m + l2.m ≤ s1.D.length := by rw [hD1, hl2]; decide
  have K1 : Hid (Calls Try.prog 22 #[.int .i64 8] w fun e w' => ∃ b, e = .returned (.tuple #[.pointer (some ⟨b, 0, none⟩), .int .i64 0]) ∧ Wd w w' (fun k => k < w.heap.size) b 0 (Ds.new 8) ∧ Below w.heap.size w w') := wd_new 8 (by omega) (by omega) w w (Below.refl _ _)
  have H1 : Hid ((Ds.new 8).opn = (0, some l1, s1) ∧ l1.room = 192 ∧ l1.add [120] = (0, l2) ∧ l2.room = 183 ∧ l2.sync s1 = (0, l3, s3) ∧ (s3.cr []).opn = (0, some l3, s3.cr []) ∧ l3.R = [[120]] ∧ l3.ln = 9 ∧ 2 + l2.ar * l2.m + l2.m ≤ s1.D.length) := ⟨o1, r1, a1, r2, y3, o4, R4, U4, fit2⟩
  clear o1 r1 a1 r2 y3 o4 R4 U4 fit2 G1 G2 G3 G4 hl1 hl2 hl3 e4 hD1 hD3
  go_enter Try.func16, Try.ntmps16
  go_wp2_with fail
  refine K1.out.mono ?_
  rintro e w1 ⟨bd, rfl, T1, hb1⟩
  have HT1 : Hid (Wd w w1 (fun k => k < w.heap.size) bd 0 (Ds.new 8)) := T1
  clear T1 hb1
  go_wp2_with fail
  refine (wd_open HT1.out (by omega)).mono ?_
  rintro e w2 ⟨_, _, hor⟩
  have h2 : ∃ bl, e = .returned (.tuple #[.pointer (some ⟨bl, 0, none⟩), .int .i64 0]) ∧ Wl w w2 (fun k => k < w.heap.size) bd bl 2 s1 l1 := by
    obtain ⟨o1, _⟩ := H1.out
    rw [o1] at hor
    rcases hor with ⟨_, bl, l, hl, he, hw, _⟩ | ⟨h0, _⟩
    · obtain rfl := Option.some.inj hl
      exact ⟨bl, he, hw⟩
    · exact absurd rfl h0
  obtain ⟨bl, rfl, T2⟩ := h2
  have HT2 : Hid (Wl w w2 (fun k => k < w.heap.size) bd bl 2 s1 l1) := T2
  clear T2 hor
  have KR1 : Hid (Calls Try.prog 14 #[.pointer (some ⟨bl, 0, none⟩)] w2 fun e w' => e = .returned (.int .i64 192) ∧ Below w2.heap.size w2 w') := by
    have k := wl_room HT2.out
    rw [H1.out.2.1] at k
    exact k
  go_wp2_with fail
  refine KR1.out.mono ?_
  rintro e w3 ⟨rfl, hb3⟩
  have HT3 : Hid (Wl w w3 (fun k => k < w.heap.size) bd bl 2 s1 l1) := HT2.out.keep0 hb3
  clear hb3
  have KA : Hid (Calls Try.prog 8 #[.pointer (some ⟨bl, 0, none⟩), .string ⟨#[120]⟩] w3 fun e w' => e = .returned (.int .i64 0) ∧ Wl w w' (fun k => k < w.heap.size) bd bl 2 s1 l2 ∧ ∀ k, k < w.heap.size → w'.heap[k]? = w3.heap[k]?) := by
    have k := wl_add HT3.out [120] x_bytes
    rw [H1.out.2.2.1, str_x] at k
    exact k
  go_wp2_with fail
  refine KA.out.mono ?_
  rintro e w4 ⟨rfl, T4, _⟩
  have HT4 : Hid (Wl w w4 (fun k => k < w.heap.size) bd bl 2 s1 l2) := T4
  clear T4
  have KR2 : Hid (Calls Try.prog 14 #[.pointer (some ⟨bl, 0, none⟩)] w4 fun e w' => e = .returned (.int .i64 183) ∧ Below w4.heap.size w4 w') := by
    have k := wl_room HT4.out
    rw [H1.out.2.2.2.1] at k
    exact k
  go_wp2_with fail
  refine KR2.out.mono ?_
  rintro e w5 ⟨rfl, hb5⟩
  have HT5 : Hid (Wl w w5 (fun k => k < w.heap.size) bd bl 2 s1 l2) := HT4.out.keep0 hb5
  clear hb5
  have KS : Hid (Calls Try.prog 9 #[.pointer (some ⟨bl, 0, none⟩)] w5 fun e w' => e = .returned (.int .i64 0) ∧ Wl w w' (fun k => k < w.heap.size) bd bl 2102 s3 l3 ∧ ∀ k, k < w.heap.size → w'.heap[k]? = w5.heap[k]?) := by
    have k := wl_sync HT5.out H1.out.2.2.2.2.2.2.2.2 (by omega)
    rw [H1.out.2.2.2.2.1] at k
    exact k
  go_wp2_with fail
  refine KS.out.mono ?_
  rintro e w6 ⟨rfl, T6, _⟩
  have HT6 : Hid (Wd w w6 (fun k => k < w.heap.size) bd 2102 s3) := T6.disk
  clear T6
  go_wp2_with fail
  refine (wd_crash HT6.out (by omega) none 0 0 [] rfl (.inl rfl) (fun x hx => by cases hx)).mono ?_
  rintro e w7 ⟨rfl, T7, _, _⟩
  have HT7 : Hid (Wd w w7 (fun k => k < w.heap.size) bd 2102 (s3.cr [])) := T7
  clear T7
  go_wp2_with fail
  refine (wd_open HT7.out (by omega)).mono ?_
  rintro e w8 ⟨_, _, hor⟩
  have h8 : ∃ bl, e = .returned (.tuple #[.pointer (some ⟨bl, 0, none⟩), .int .i64 0]) ∧ Wl w w8 (fun k => k < w.heap.size) bd bl 2104 (s3.cr []) l3 := by
    obtain ⟨_, _, _, _, _, o4, _⟩ := H1.out
    rw [o4] at hor
    rcases hor with ⟨_, bl, l, hl, he, hw, _⟩ | ⟨h0, _⟩
    · obtain rfl := Option.some.inj hl
      exact ⟨bl, he, hw⟩
    · exact absurd rfl h0
  obtain ⟨bm, rfl, T8⟩ := h8
  have HT8 : Hid (Wl w w8 (fun k => k < w.heap.size) bd bm 2104 (s3.cr []) l3) := T8
  clear T8 hor
  have KRec : Hid (Calls Try.prog 11 #[.pointer (some ⟨bm, 0, none⟩)] w8 fun e w' => ∃ v, e = .returned v ∧ RowsS w' w8.heap.size v [[120]] ∧ Below w8.heap.size w8 w') := by
    have k := wl_records HT8.out
    rw [H1.out.2.2.2.2.2.2.1] at k
    exact k
  go_wp2_with fail
  refine KRec.out.mono ?_
  rintro e w9 ⟨v9, rfl, hr9, hb9⟩
  obtain ⟨a9, c9, hv9, _, hi9, _, _⟩ := hr9.slice
  subst hv9
  have HI9 : Hid (InS (w9.alloc (.cells #[.string ⟨#[120]⟩] 9)) a9 [[120]]) := hi9.keep (gB_alloc w9 _)
  have HT9 : Hid (Wl w (w9.alloc (.cells #[.string ⟨#[120]⟩] 9)) (fun k => k < w.heap.size) bd bm 2104 (s3.cr []) l3) := (HT8.out.keep0 hb9).keep0 (gB_alloc w9 _)
  have C9 : Hid (InS (w9.alloc (.cells #[.string ⟨#[120]⟩] 9)) (some ⟨w9.heap.size, 0, none⟩) [[120]]) := one_in (by rw [cell_of_row _ w9.heap.size 0 _ _ (0, 0) (heap_alloc_new w9 _)]; rfl)
  clear hr9 hb9 hi9
  go_wp2_with fail
  refine (wsame_is _ a9 (some ⟨w9.heap.size, 0, none⟩) 1 1 c9 1 [[120]] [[120]] rfl rfl (by omega) (by omega) HI9.out C9.out (fun B hB => by have : B = [120] := (by simpa using hB); rw [this]; exact x_bytes) (fun B hB => by have : B = [120] := (by simpa using hB); rw [this]; exact x_bytes)).mono ?_
  rintro e w10 ⟨rfl, hb10⟩
  have HT10 : Hid (Wl w w10 (fun k => k < w.heap.size) bd bm 2104 (s3.cr []) l3) := HT9.out.keep0 hb10
  clear hb10
  have KU : Hid (Calls Try.prog 13 #[.pointer (some ⟨bm, 0, none⟩)] w10 fun e w' => e = .returned (.int .i64 9) ∧ w' = w10) := by
    have k := wl_used HT10.out
    rw [H1.out.2.2.2.2.2.2.2.1] at k
    exact k
  have ed : decide (([[120]] : List (List Int)) = [[120]]) = true := by decide
  rw [ed]
  go_wp2_with fail
  refine KU.out.mono ?_
  rintro e w11 ⟨rfl, rfl⟩
  go_wp2_with fail
  go_ret
  exact ⟨rfl, HT10.out.bel⟩
end Go.Proofs.Ytaoddlmmgfgmnaa
