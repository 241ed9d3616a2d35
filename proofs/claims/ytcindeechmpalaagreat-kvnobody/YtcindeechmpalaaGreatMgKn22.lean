/- A log that nothing is lost of, plainly. A loss of power under a fuse, plainly. Sync and Reset under a fuse, plainly. Sync and Reset under a fuse: what a loss of power leaves. Open under a fuse, plainly: of a new disk, of one that has records. The document's Same; the statements' own works. A log and its disk that outlive calls; what is neither's. Slices of texts that came in. Texts appended, of any slice; two logs of one disk; Reset, Add, plainly. What a loss of power leaves, in one word; Sync and Reset of any log that agrees with its disk. A database in memory; isNone, Get, Len. kv.isWrong, slices.ContainsFunc of changes, kv.Encode. kv.Encode. How bytes are read, plainly, whatever they are. kv.readerOf: its two functions. kv.readerOf, kv.read and kv.Decode of a batch's bytes. kv.read and kv.Decode of any bytes. Databases that no call made; what has no disk. kv.Open of a log whose records are batches. kv.write and kv.Do where there is room. The statements' own works (veneerlaw11). The walk of veneerlaw11.KvNobody. -/
import Derived.Test.YtcindeechmpalaaGreatMgKn21
import Derived.Test.YtcindeechmpalaaGreatMgKn4
import Derived.SliceStrings
import Derived.SizedLaws
import Derived.Test.YtcindeechmpalaaGreatMgKn17
import Derived.Test.YtcindeechmpalaaGreatMgKn5
import Derived.Test.YtcindeechmpalaaGreatMgKn14
import Derived.BigQuiet
import Derived.Laws.EntriesVeiled
namespace Go.Proofs.YtcindeechmpalaaGreat
open Go.ChangeShapes Go.WideShapes Go.ChangeAt Go.RowKit Go.Deep Go.Maps
set_option linter.unusedVariables false
theorem flD_wr (D : List (List Int)) (W : Int → List (List Int)) (i : Nat) (C : List Int) : flD D (fun j => if j = (i : Int) then W j ++ [C] else W j) = (flD D W).set i C := by
  apply List.ext_getElem?
  intro k
  by_cases hk : k = i
  · subst hk
    by_cases hl : k < D.length
    · rw [List.getElem?_set_self (by rw [flD_len]; exact hl), flD_at _ _ _ _ (List.getElem?_eq_getElem hl)]
      simp [lastOf]
    · rw [List.getElem?_eq_none (by rw [flD_len]; omega), List.getElem?_eq_none (by rw [List.length_set, flD_len]; omega)]
  · rw [List.getElem?_set_ne (fun e => hk e.symm)]
    have hne : ¬ ((k : Int) = (i : Int)) := by omega
    simp only [flD, List.getElem?_mapIdx, if_neg hne]
theorem wr_ok {s : Ds} {i : Nat} {C : List Int} (hu : s.up = true) (hf : s.fu = -1) (hi : i < s.D.length) (hC : C.length = 64) : s.wr (i : Int) C = (0, ⟨s.D, fun j => if j = (i : Int) then s.W j ++ [C] else s.W j, true, s.dn + 1, -1⟩) := by
  unfold Ds.wr
  rw [if_neg (by rw [hu]; simp [rdyAt]; omega), if_neg (by simpa using hC), if_neg (by rw [hf]; omega), hf]
  rfl
theorem fl_ok {s : Ds} (hu : s.up = true) (hf : s.fu = -1) : s.fl = (0, ⟨flD s.D s.W, fun _ => [], true, s.dn + 1, -1⟩) := by
  unfold Ds.fl
  rw [if_neg (by simp [hu]), if_neg (by rw [hf]; omega), hf]
  rfl
theorem run_free : ∀ (A : List (Option (Nat × List Int))) (s : Ds), none ∉ A → (∀ p, some p ∈ A → p.1 < s.D.length ∧ p.2.length = 64) → s.up = true → s.fu = -1 → ∃ s', s.run A = (0, s') ∧ s'.up = true ∧ s'.fu = -1 ∧ s'.D = s.D ∧ flD s'.D s'.W = app A (flD s.D s.W)
  | [], s, _, _, hu, hf => ⟨s, rfl, hu, hf, rfl, rfl⟩
  | none :: r, s, hn, _, _, _ => absurd (List.mem_cons_self ..) hn
  | some p :: r, s, hn, hA, hu, hf => by
    obtain ⟨h1, h2⟩ := hA p (List.mem_cons_self ..)
    have e := wr_ok hu hf h1 h2
    obtain ⟨s', g1, g2, g3, g4, g5⟩ := run_free r ⟨s.D, fun j => if j = (p.1 : Int) then s.W j ++ [p.2] else s.W j, true, s.dn + 1, -1⟩ (fun h => hn (List.mem_cons_of_mem _ h)) (fun q hq => hA q (List.mem_cons_of_mem _ hq)) rfl rfl
    refine ⟨s', ?_, g2, g3, g4, ?_⟩
    · rw [Ds.run_cons]
      show (if (s.wr (p.1 : Int) p.2).1 ≠ 0 then s.wr (p.1 : Int) p.2 else (s.wr (p.1 : Int) p.2).2.run r) = _
      rw [e, if_neg (by simp)]
      exact g1
    · rw [g5]
      show app r (flD s.D fun j => if j = (p.1 : Int) then s.W j ++ [p.2] else s.W j) = _
      rw [flD_wr]
      rfl
/-- up, no fuse, nothing waits -/
structure Free (s : Ds) : Prop where
  up : s.up = true
  fu : s.fu = -1
  W : ∀ i, s.W i = []
theorem run_flush {s : Ds} {A : List (Option (Nat × List Int))} (h : Free s) (hn : none ∉ A) (hA : ∀ p, some p ∈ A → p.1 < s.D.length ∧ p.2.length = 64) : ∃ s', s.run (A ++ [none]) = (0, s') ∧ Free s' ∧ s'.D = app A s.D := by
  obtain ⟨s1, g1, g2, g3, g4, g5⟩ := run_free A s hn hA h.up h.fu
  have e := fl_ok g2 g3
  refine ⟨⟨flD s1.D s1.W, fun _ => [], true, s1.dn + 1, -1⟩, ?_, ⟨rfl, rfl, fun _ => rfl⟩, ?_⟩
  · rw [Ds.run_app, g1, if_neg (by simp)]
    show s1.run [none] = _
    rw [Ds.run_cons]
    show (if s1.fl.1 ≠ 0 then s1.fl else s1.fl.2.run []) = _
    rw [e, if_neg (by simp)]
    rfl
  · show flD s1.D s1.W = _
    rw [g5, flD_nil s.D s.W (fun i _ => h.W _)]
theorem mops_free {s : Ds} (h : Free s) (m no ar fr : Nat) (B : List Int) (hB : IsBytes B) (hf : 2 + ar * m + fr + (B.length + 63) / 64 ≤ s.D.length) (h2 : 2 ≤ s.D.length) : ∃ s', s.run (mops m no ar fr B) = (0, s') ∧ Free s' ∧ s'.D = (app (wops (2 + ar * m + fr) B) s.D).set ((no + 1) % 2) (hdB (no + 1) ar (64 * fr + B.length)) := by
  obtain ⟨s1, g1, g2, g3⟩ := run_flush (A := wops (2 + ar * m + fr) B) h (wops_some _ _ B (Nat.le_refl _)) (fun p hp => by have := wops_mem B.length (2 + ar * m + fr) B (Nat.le_refl _) hB p hp; exact ⟨by omega, this.2.1⟩)
  have hl : s1.D.length = s.D.length := by rw [g3, app_len]
  obtain ⟨s2, k1, k2, k3⟩ := run_flush (A := [some ((no + 1) % 2, hdB (no + 1) ar (64 * fr + B.length))]) g2 (by simp) (fun p hp => by
    have : p = ((no + 1) % 2, hdB (no + 1) ar (64 * fr + B.length)) := by simpa using hp
    subst this
    exact ⟨by show (no + 1) % 2 < _; omega, hdB_len _ _ _⟩)
  refine ⟨s2, ?_, k2, ?_⟩
  · unfold mops
    rw [Ds.run_app, g1, if_neg (by simp)]
    exact k1
  · rw [k3, g3]
    rfl
/-- a log of which nothing is lost, and its disk -/
structure Gd (s : Ds) (l : Lg) : Prop where
  free : Free s
  nums : Nums s.D s.am l.no l.ar l.R
  lies : Lies s.D s.am l.no l.ar l.R
  am : l.m = s.am
  lost : l.lost = false
  room : l.ln + (joinL l.W).length ≤ 64 * l.m
  wb : ∀ B ∈ l.W, IsBytes B ∧ B.length ≤ 4096
theorem gd_open {s : Ds} {l : Lg} (h : Gd s l) : s.opn = (0, some { l with W := [] }, s) := by
  rw [opn_lies h.free.up h.free.W h.nums h.lies, ← h.am]
  have := h.lost
  cases l
  simp_all
theorem bAt_get {D : List (List Int)} {i : Nat} (h : i < D.length) : D[i]? = some (bAt D i) := by unfold bAt; rw [List.getElem?_eq_getElem h]; rfl
theorem gd_new (n : Nat) (h6 : 6 ≤ n) (hn : n ≤ 4096) : ∃ s', (Ds.new n).opn = (0, some ⟨(n - 2) / 2, 1, 0, [], [], false⟩, s') ∧ Gd s' ⟨(n - 2) / 2, 1, 0, [], [], false⟩ ∧ s'.D.length = n := by
  have hl : (Ds.new n).D.length = n := by simp [Ds.new, noughts]
  have hz : ∀ i, i < n → (Ds.new n).cur i = List.replicate 64 0 := fun i hi => by
    rw [cur_nil (fun _ => rfl), bAt]
    show ((noughts n)[i]?).getD [] = _
    unfold noughts
    rw [List.getElem?_replicate, if_pos hi]
    rfl
  have hfree : Free (Ds.new n) := ⟨rfl, rfl, fun _ => rfl⟩
  obtain ⟨s1, k1, k2, k3⟩ := run_flush (A := [some (1, hdB 1 0 0)]) hfree (by simp) (fun p hp => by
    have : p = (1, hdB 1 0 0) := by simpa using hp
    subst this
    exact ⟨by show 1 < _; omega, hdB_len _ _ _⟩)
  have hl1 : s1.D.length = n := by rw [k3, app_len, hl]
  have ham : s1.am = (n - 2) / 2 := by unfold Ds.am; rw [hl1]
  have hD : s1.D = (noughts n).set 1 (hdB 1 0 0) := k3
  refine ⟨s1, ?_, ⟨k2, ?_, ?_, ham.symm, rfl, by show 0 + 0 ≤ _; omega, fun B hB => by cases hB⟩, hl1⟩
  · have k1' : (Ds.new n).run [some (1, hdB 1 0 0), none] = (0, s1) := k1
    have ham0 : (Ds.new n).am = (n - 2) / 2 := by unfold Ds.am; rw [hl]
    rw [Ds.opn, if_neg (by simp [Ds.new]), if_neg (by omega), Ds.fob, if_pos ⟨hz 0 (by omega), hz 1 (by omega)⟩, k1', if_pos rfl, ham0]
    rfl
  · rw [ham]
    refine ⟨?_, ⟨by omega, by omega⟩, by rw [hl1], ⟨by show 1 ≤ 1; omega, by show 1 ≤ 1152921504606846976; omega⟩, by show 0 ≤ 1; omega, by show 0 ≤ _; omega, fun B hB => by cases hB⟩
    rw [hD]
    intro x hx
    rcases List.mem_or_eq_of_mem_set hx with e | e
    · have : x = List.replicate 64 0 := List.eq_of_mem_replicate (show x ∈ List.replicate n (List.replicate 64 0) from e)
      rw [this]
      exact ⟨by simp, zeros_bytes _⟩
    · rw [e]; exact ⟨hdB_len _ _ _, hdB_bytes _ _ _ (by omega)⟩
  · rw [hD]
    refine ⟨?_, fun b hb hk => ?_, rfl⟩
    · show ((noughts n).set 1 (hdB 1 0 0))[1 % 2]? = some (hdB 1 0 0)
      rw [show 1 % 2 = 1 from rfl, List.getElem?_set_self (by simp [noughts]; omega)]
    · replace hb : ((noughts n).set 1 (hdB 1 0 0))[(1 + 1) % 2]? = some b := hb
      have e : ((noughts n).set 1 (hdB 1 0 0))[0]? = some (List.replicate 64 0) := by
        rw [List.getElem?_set_ne (by omega)]
        unfold noughts
        rw [List.getElem?_replicate, if_pos (by omega)]
        rfl
      have hb' : ((noughts n).set 1 (hdB 1 0 0))[0]? = some b := hb
      rw [e] at hb'
      obtain rfl := Option.some.inj hb'
      rw [zero_no] at hk
      cases hk
theorem gd_sync {s : Ds} {l : Lg} (h : Gd s l) (hno : l.no < 1152921504606846976) (hW : l.W ≠ []) : ∃ s', l.sync s = (0, { l with no := l.no + 1, R := l.R ++ l.W, W := [] }, s') ∧ Gd s' { l with no := l.no + 1, R := l.R ++ l.W, W := [] } ∧ s'.D.length = s.D.length := by
  have hn := h.nums
  have hlen := hn.len
  have hmm := hn.mm
  have hroom := h.room
  rw [h.am] at hroom
  have har : l.ar * s.am ≤ s.am := by have := hn.aa; rcases (by omega : l.ar = 0 ∨ l.ar = 1) with e | e <;> rw [e] <;> omega
  have hjl : IsBytes (joinL l.W) := joinL_bytes _ fun B hB => (h.wb B hB).1
  have hlnm : l.ln ≤ 64 * s.am := by omega
  -- the bytes of the log: whole blocks, and the part of the last
  have hcl : (catD s.D (2 + l.ar * s.am) ((l.ln + 63) / 64)).length = 64 * ((l.ln + 63) / 64) := catD_len hn.is64 _ _ (by omega)
  have hq : (catD s.D (2 + l.ar * s.am) (l.ln / 64)).length = 64 * (l.ln / 64) := catD_len hn.is64 _ _ (by omega)
  have hpart : l.part s = (catD s.D (2 + l.ar * s.am + l.ln / 64) ((l.ln % 64 + 63) / 64)).take (l.ln % 64) := by unfold Lg.part; rw [cat_nil h.free.W, h.am]
  have hlog : joinL l.R = catD s.D (2 + l.ar * s.am) (l.ln / 64) ++ l.part s := by
    have e1 : (l.ln + 63) / 64 = l.ln / 64 + (l.ln % 64 + 63) / 64 := by omega
    have g := h.lies.log
    have e2 : (joinL l.R).length = l.ln := rfl
    rw [e2, e1, catD_add, List.take_append, hq, show l.ln - 64 * (l.ln / 64) = l.ln % 64 by omega, List.take_of_length_le (by rw [hq]; omega)] at g
    rw [hpart]
    exact g.symm
  have hpl : (l.part s).length = l.ln % 64 := by
    have := congrArg List.length hlog
    rw [List.length_append, hq] at this
    have e2 : (joinL l.R).length = l.ln := rfl
    omega
  have hpb : IsBytes (l.part s) := by
    have hb : IsBytes (joinL l.R) := joinL_bytes _ fun B hB => (hn.rb B hB).1
    rw [hlog] at hb
    exact bytes_of_mem fun x hx => bytes_mem hb x (List.mem_append_right _ hx)
  have hBl : (l.part s ++ joinL l.W).length = l.ln % 64 + (joinL l.W).length := by rw [List.length_append, hpl]
  obtain ⟨s', k1, k2, k3⟩ := mops_free h.free l.m l.no l.ar (l.ln / 64) (l.part s ++ joinL l.W) (bytes_app hpb hjl) (by rw [hBl, h.am]; omega) (by omega)
  rw [hBl, h.am] at k3
  have hlD : s'.D.length = s.D.length := by rw [k3, List.length_set, app_len]
  have ham' : s'.am = s.am := by unfold Ds.am; rw [hlD]
  have eln : (joinL (l.R ++ l.W)).length = l.ln + (joinL l.W).length := by rw [joinL_app, List.length_append]; rfl
  have e64 : 64 * (l.ln / 64) + (l.ln % 64 + (joinL l.W).length) = l.ln + (joinL l.W).length := by omega
  rw [e64] at k3
  have hoff : ∀ j, 2 ≤ j → s'.D[j]? = (app (wops (2 + l.ar * s.am + l.ln / 64) (l.part s ++ joinL l.W)) s.D)[j]? := fun j hj => by rw [k3, List.getElem?_set_ne (by omega)]
  refine ⟨s', ?_, ⟨k2, ⟨?_, by rw [hlD]; exact hlen, by rw [ham', hlD]; exact hmm, ⟨by show 1 ≤ l.no + 1; omega, by show l.no + 1 ≤ _; omega⟩, hn.aa, by show (joinL (l.R ++ l.W)).length ≤ 64 * s'.am; rw [eln, ham']; omega, fun B hB => ?_⟩, ⟨?_, fun b hb hk => ?_, ?_⟩, by show l.m = s'.am; rw [ham', h.am], h.lost, by show (joinL (l.R ++ l.W)).length + 0 ≤ 64 * l.m; rw [eln, h.am]; omega, fun B hB => by cases hB⟩, hlD⟩
  · unfold Lg.sync
    rw [if_neg (by rw [h.lost]; simp), if_neg hW, if_neg (by rw [h.free.up]; simp), k1, if_pos rfl]
  · rw [k3]
    intro x hx
    rcases List.mem_or_eq_of_mem_set hx with e | e
    · exact Is64.app _ _ hn.is64 (fun p hp => (wops_mem _ _ _ (Nat.le_refl _) (bytes_app hpb hjl) p hp).2) x e
    · rw [e]; exact ⟨hdB_len _ _ _, hdB_bytes _ _ _ (by have := hn.aa; omega)⟩
  · rcases List.mem_append.1 hB with e | e
    · exact hn.rb B e
    · exact h.wb B e
  · show s'.D[(l.no + 1) % 2]? = some (hdB (l.no + 1) l.ar (joinL (l.R ++ l.W)).length)
    rw [k3, List.getElem?_set_self (by rw [app_len]; omega), eln]
  · have hb' : s'.D[(l.no + 1 + 1) % 2]? = some b := hb
    rw [k3, List.getElem?_set_ne (by omega), app_wops_off _ _ _ _ (Nat.le_refl _) _ (.inl (by omega)), show (l.no + 1 + 1) % 2 = l.no % 2 by omega, h.lies.hd] at hb'
    obtain rfl := Option.some.inj hb'
    rw [(hd_nums l.no l.ar (joinL l.R).length (by omega) (by have e2 : (joinL l.R).length = l.ln := rfl; omega)).1]
    show l.no < l.no + 1
    omega
  · show (catD s'.D (2 + l.ar * s'.am) (((joinL (l.R ++ l.W)).length + 63) / 64)).take (joinL (l.R ++ l.W)).length = joinL (l.R ++ l.W)
    rw [ham', eln, joinL_app]
    have e1 : (l.ln + (joinL l.W).length + 63) / 64 = l.ln / 64 + ((l.part s ++ joinL l.W).length + 63) / 64 := by rw [hBl]; omega
    rw [e1, catD_add, catD_same _ _ (fun j h1 h2 => (hoff j (by omega)).trans (app_wops_off _ _ _ _ (Nat.le_refl _) j (.inl (by omega)))), List.take_append, hq, show l.ln + (joinL l.W).length - 64 * (l.ln / 64) = (l.part s ++ joinL l.W).length by rw [hBl]; omega, List.take_of_length_le (by rw [hq]; omega), catD_same _ _ (fun j h1 h2 => hoff j (by omega)), app_wops_cat _ _ _ _ (Nat.le_refl _) (by rw [hBl]; omega), ← List.append_assoc, ← hlog]
theorem gd_reset {s : Ds} {l : Lg} (h : Gd s l) (hno : l.no < 1152921504606846976) (hW : l.W = []) (recs : List (List Int)) (hb : ∀ B ∈ recs, IsBytes B) (hf : (frO recs (64 * l.m)).2 = 0) : ∃ s', l.reset s recs = (0, { l with no := l.no + 1, ar := 1 - l.ar, R := recs, W := [] }, s') ∧ Gd s' { l with no := l.no + 1, ar := 1 - l.ar, R := recs, W := [] } ∧ s'.D.length = s.D.length := by
  have hn := h.nums
  have hlen := hn.len
  have hmm := hn.mm
  obtain ⟨f1, f2, f3⟩ := frO_ok hf
  rw [h.am] at f2
  have har : (1 - l.ar) * s.am ≤ s.am := by have := hn.aa; rcases (by omega : l.ar = 0 ∨ l.ar = 1) with e | e <;> rw [e] <;> omega
  have hjl : IsBytes (joinL recs) := joinL_bytes _ hb
  obtain ⟨s', k1, k2, k3⟩ := mops_free h.free l.m l.no (1 - l.ar) 0 (joinL recs) hjl (by rw [h.am]; omega) (by omega)
  rw [h.am] at k3
  have hlD : s'.D.length = s.D.length := by rw [k3, List.length_set, app_len]
  have ham' : s'.am = s.am := by unfold Ds.am; rw [hlD]
  rw [show 64 * 0 + (joinL recs).length = (joinL recs).length by omega, Nat.add_zero] at k3
  have hoff : ∀ j, 2 ≤ j → s'.D[j]? = (app (wops (2 + (1 - l.ar) * s.am) (joinL recs)) s.D)[j]? := fun j hj => by rw [k3, List.getElem?_set_ne (by omega)]
  refine ⟨s', ?_, ⟨k2, ⟨?_, by rw [hlD]; exact hlen, by rw [ham', hlD]; exact hmm, ⟨by show 1 ≤ l.no + 1; omega, by show l.no + 1 ≤ _; omega⟩, by show 1 - l.ar ≤ 1; omega, by show (joinL recs).length ≤ 64 * s'.am; rw [ham']; omega, fun B hB => ⟨hb B hB, f3 B hB⟩⟩, ⟨?_, fun b hb2 hk => ?_, ?_⟩, by show l.m = s'.am; rw [ham', h.am], h.lost, by show (joinL recs).length + 0 ≤ 64 * l.m; rw [h.am]; omega, fun B hB => by cases hB⟩, hlD⟩
  · unfold Lg.reset
    rw [if_neg (by rw [h.lost]; simp), if_neg (by simpa using hW), if_neg (by simpa using hf), k1, if_pos rfl]
  · rw [k3]
    intro x hx
    rcases List.mem_or_eq_of_mem_set hx with e | e
    · exact Is64.app _ _ hn.is64 (fun p hp => (wops_mem _ _ _ (Nat.le_refl _) hjl p hp).2) x e
    · rw [e]; exact ⟨hdB_len _ _ _, hdB_bytes _ _ _ (by omega)⟩
  · show s'.D[(l.no + 1) % 2]? = some (hdB (l.no + 1) (1 - l.ar) (joinL recs).length)
    rw [k3, List.getElem?_set_self (by rw [app_len]; omega)]
  · have hb' : s'.D[(l.no + 1 + 1) % 2]? = some b := hb2
    rw [k3, List.getElem?_set_ne (by omega), app_wops_off _ _ _ _ (Nat.le_refl _) _ (.inl (by omega)), show (l.no + 1 + 1) % 2 = l.no % 2 by omega, h.lies.hd] at hb'
    obtain rfl := Option.some.inj hb'
    rw [(hd_nums l.no l.ar (joinL l.R).length (by omega) (by have := hn.ln; omega)).1]
    show l.no < l.no + 1
    omega
  · show (catD s'.D (2 + (1 - l.ar) * s'.am) (((joinL recs).length + 63) / 64)).take (joinL recs).length = joinL recs
    rw [ham', catD_same _ _ (fun j h1 h2 => hoff j (by omega)), app_wops_cat _ _ _ _ (Nat.le_refl _) (by omega)]
theorem gd_add {s : Ds} {l : Lg} (h : Gd s l) (rec : List Int) (hB : IsBytes rec) : Gd s (l.add rec).2 := by
  have hok : l.Ok l.no := ⟨by have := h.nums.len; have := h.nums.mm; rw [h.am]; omega, by omega, h.nums.aa, h.room, h.nums.rb, h.wb⟩
  have h2 := Lg.add_ok hok hB
  unfold Lg.add at h2 ⊢
  rw [if_neg (by rw [h.lost]; simp)] at h2 ⊢
  split
  · exact h
  · rename_i hx
    rw [if_neg hx] at h2
    exact ⟨h.free, h.nums, h.lies, h.am, h.lost, h2.room, h2.wb⟩
theorem crD_nil (keep : List Int) (D : List (List Int)) (W : Int → List (List Int)) (h : ∀ i, W i = []) : crD keep D W = D := by
  have : wb D.length W = [] := by
    apply List.eq_nil_iff_forall_not_mem.2
    intro i hi
    exact (mem_wb.1 hi).2 (h _)
  rw [crD, this]
  rfl
theorem gd_crash {s : Ds} {l : Lg} (h : Gd s l) (keep : List Int) : Gd (s.cr keep) l := by
  have e : (s.cr keep).D = s.D := crD_nil keep s.D s.W h.free.W
  have ea : (s.cr keep).am = s.am := by unfold Ds.am; rw [e]
  exact ⟨⟨rfl, rfl, fun _ => rfl⟩, by rw [ea, e]; exact h.nums, by rw [ea, e]; exact h.lies, by rw [ea]; exact h.am, h.lost, h.room, h.wb⟩
theorem gd_drop {s : Ds} {l : Lg} (h : Gd s l) : Gd s { l with W := [] } := ⟨h.free, h.nums, h.lies, h.am, h.lost, by have := h.room; show l.ln + 0 ≤ 64 * l.m; omega, fun B hB => by cases hB⟩
end Go.Proofs.YtcindeechmpalaaGreat
namespace Go.Proofs.YtcindeechmpalaaGreat
open Go.ChangeShapes Go.WideShapes Go.ChangeAt Go.RowKit Go.Deep Go.Maps
set_option linter.unusedVariables false
theorem pick_or (l : List (List Int)) (m : Nat) (x : List Int) : pick l m x = x ∨ pick l m x ∈ l := by
  unfold pick
  split
  · exact .inl rfl
  · cases h : l[m - 1]? with
    | none => exact .inl rfl
    | some y => exact .inr (List.mem_of_getElem? h)
theorem crs_at (keep : List Int) (W : Int → List (List Int)) (i : Nat) : ∀ (l : List Nat) (k : Nat) (D : List (List Int)), (crs keep W l k D)[i]? = D[i]? ∨ ∃ C ∈ W (i : Int), (crs keep W l k D)[i]? = some C
  | [], _, D => .inl rfl
  | j :: r, k, D => by
    rw [crs]
    rcases crs_at keep W i r (k + 1) (D.set j (pick (W (j : Int)) (kp keep k (W (j : Int)).length) (D[j]?.getD []))) with h | h
    · by_cases hj : j = i
      · subst hj
        by_cases hl : j < D.length
        · rw [List.getElem?_set_self hl] at h
          rcases pick_or (W (j : Int)) (kp keep k (W (j : Int)).length) (D[j]?.getD []) with e | e
          · left
            rw [h, e, List.getElem?_eq_getElem hl]
            rfl
          · exact .inr ⟨_, e, h⟩
        · left
          rw [h, List.getElem?_eq_none (by rw [List.length_set]; omega), List.getElem?_eq_none (by omega)]
      · left
        rw [h, List.getElem?_set_ne hj]
    · exact .inr h
/-- each block is the old one, or one of those that were written -/
def Mix (D : List (List Int)) (A : List (Option (Nat × List Int))) (E : List (List Int)) : Prop := E.length = D.length ∧ ∀ i, E[i]? = D[i]? ∨ ∃ p, some p ∈ A ∧ p.1 = i ∧ E[i]? = some p.2
theorem cr_mix {s : Ds} {D : List (List Int)} {A : List (Option (Nat × List Int))} (hD : s.D = D) (hW : ∀ (i : Nat) C, C ∈ s.W (i : Int) → ∃ p, some p ∈ A ∧ p.1 = i ∧ p.2 = C) (keep : List Int) : Mix D A (s.cr keep).D := by
  subst hD
  refine ⟨crs_len keep s.W _ 0 s.D, fun i => ?_⟩
  rcases crs_at keep s.W i (wb s.D.length s.W) 0 s.D with h | ⟨C, hC, h⟩
  · exact .inl h
  · obtain ⟨p, h1, h2, rfl⟩ := hW i C hC
    exact .inr ⟨p, h1, h2, h⟩
theorem app_mix : ∀ (A : List (Option (Nat × List Int))) (D : List (List Int)), Mix D A (app A D)
  | [], D => ⟨rfl, fun i => .inl rfl⟩
  | none :: r, D => ⟨app_len _ D, fun i => by
    rcases (app_mix r D).2 i with h | ⟨p, h1, h2⟩
    · exact .inl h
    · exact .inr ⟨p, List.mem_cons_of_mem _ h1, h2⟩⟩
  | some q :: r, D => ⟨app_len _ D, fun i => by
    rcases (app_mix r (D.set q.1 q.2)).2 i with h | ⟨p, h1, h2⟩
    · by_cases hi : q.1 = i
      · by_cases hl : q.1 < D.length
        · right
          refine ⟨q, List.mem_cons_self .., hi, ?_⟩
          rw [app, h, ← hi, List.getElem?_set_self hl]
        · left
          rw [app, h, List.getElem?_eq_none (by rw [List.length_set]; omega), List.getElem?_eq_none (by omega)]
      · left
        rw [app, h, List.getElem?_set_ne hi]
    · exact .inr ⟨p, List.mem_cons_of_mem _ h1, h2⟩⟩
/-- writes under a fuse: all are done, or the disk goes down; what waits is what was written -/
theorem run_cut : ∀ (A : List (Option (Nat × List Int))) (s : Ds), none ∉ A → (∀ p, some p ∈ A → p.1 < s.D.length ∧ p.2.length = 64) → s.up = true → ∃ c s', s.run A = (c, s') ∧ s'.D = s.D ∧ (∀ (i : Nat) C, C ∈ s'.W (i : Int) → C ∈ s.W (i : Int) ∨ ∃ p, some p ∈ A ∧ p.1 = i ∧ p.2 = C) ∧ ((c = 0 ∧ s'.up = true ∧ flD s'.D s'.W = app A (flD s.D s.W)) ∨ (c = 15 ∧ s'.up = false))
  | [], s, _, _, hu => ⟨0, s, rfl, rfl, fun i C h => .inl h, .inl ⟨rfl, hu, rfl⟩⟩
  | none :: r, s, hn, _, _ => absurd (List.mem_cons_self ..) hn
  | some p :: r, s, hn, hA, hu => by
    obtain ⟨h1, h2⟩ := hA p (List.mem_cons_self ..)
    have hr : ¬ rdyAt s.up s.D.length (p.1 : Int) ≠ 0 := by rw [hu]; simp [rdyAt]; omega
    by_cases hf : s.fu = 0
    · have e : s.wr (p.1 : Int) p.2 = (15, { s with up := false }) := by
        unfold Ds.wr
        rw [if_neg hr, if_neg (by simpa using h2), if_pos hf]
      refine ⟨15, { s with up := false }, ?_, rfl, fun i C h => .inl h, .inr ⟨rfl, rfl⟩⟩
      rw [Ds.run_cons]
      show (if (s.wr (p.1 : Int) p.2).1 ≠ 0 then s.wr (p.1 : Int) p.2 else (s.wr (p.1 : Int) p.2).2.run r) = _
      rw [e, if_pos (by simp)]
    · have e : s.wr (p.1 : Int) p.2 = (0, ⟨s.D, fun j => if j = (p.1 : Int) then s.W j ++ [p.2] else s.W j, true, s.dn + 1, lessF s.fu⟩) := by
        unfold Ds.wr
        rw [if_neg hr, if_neg (by simpa using h2), if_neg hf]
      obtain ⟨c, s', g1, g2, g3, g4⟩ := run_cut r ⟨s.D, fun j => if j = (p.1 : Int) then s.W j ++ [p.2] else s.W j, true, s.dn + 1, lessF s.fu⟩ (fun h => hn (List.mem_cons_of_mem _ h)) (fun q hq => hA q (List.mem_cons_of_mem _ hq)) rfl
      refine ⟨c, s', ?_, g2, fun i C hC => ?_, ?_⟩
      · rw [Ds.run_cons]
        show (if (s.wr (p.1 : Int) p.2).1 ≠ 0 then s.wr (p.1 : Int) p.2 else (s.wr (p.1 : Int) p.2).2.run r) = _
        rw [e, if_neg (by simp)]
        exact g1
      · rcases g3 i C hC with h | ⟨q, q1, q2⟩
        · have h' : C ∈ (if (i : Int) = (p.1 : Int) then s.W (i : Int) ++ [p.2] else s.W (i : Int)) := h
          by_cases hi : (i : Int) = (p.1 : Int)
          · rw [if_pos hi] at h'
            rcases List.mem_append.1 h' with h' | h'
            · exact .inl h'
            · exact .inr ⟨p, List.mem_cons_self .., by omega, by simpa using (List.mem_singleton.1 h').symm⟩
          · rw [if_neg hi] at h'
            exact .inl h'
        · exact .inr ⟨q, List.mem_cons_of_mem _ q1, q2⟩
      · rcases g4 with ⟨k1, k2, k3⟩ | k
        · refine .inl ⟨k1, k2, ?_⟩
          rw [k3]
          show app r (flD s.D fun j => if j = (p.1 : Int) then s.W j ++ [p.2] else s.W j) = _
          rw [flD_wr]
          rfl
        · exact .inr k
theorem fl_cut {s : Ds} (hu : s.up = true) : (s.fl = (0, ⟨flD s.D s.W, fun _ => [], true, s.dn + 1, lessF s.fu⟩)) ∨ (s.fl = (15, { s with up := false })) := by
  unfold Ds.fl
  rw [if_neg (by simp [hu])]
  by_cases hf : s.fu = 0
  · rw [if_pos hf]; exact .inr rfl
  · rw [if_neg hf]; exact .inl rfl
/-- writes and a flush under a fuse, of a disk where nothing waits -/
theorem flush_cut {s : Ds} {A : List (Option (Nat × List Int))} (hu : s.up = true) (hW : ∀ i, s.W i = []) (hn : none ∉ A) (hA : ∀ p, some p ∈ A → p.1 < s.D.length ∧ p.2.length = 64) : ∃ c s', s.run (A ++ [none]) = (c, s') ∧ ((c = 0 ∧ s'.up = true ∧ (∀ i, s'.W i = []) ∧ s'.D = app A s.D) ∨ (c = 15 ∧ s'.up = false ∧ ∀ keep, Mix s.D A (s'.cr keep).D)) := by
  obtain ⟨c, s1, g1, g2, g3, g4⟩ := run_cut A s hn hA hu
  have hm : ∀ (i : Nat) C, C ∈ s1.W (i : Int) → ∃ p, some p ∈ A ∧ p.1 = i ∧ p.2 = C := fun i C hC => by
    rcases g3 i C hC with h | h
    · rw [hW] at h; cases h
    · exact h
  rw [Ds.run_app, g1]
  rcases g4 with ⟨rfl, k2, k3⟩ | ⟨rfl, k2⟩
  · rw [if_neg (by simp)]
    show ∃ c s', s1.run [none] = (c, s') ∧ _
    rw [Ds.run_cons]
    show ∃ c s', (if s1.fl.1 ≠ 0 then s1.fl else s1.fl.2.run []) = (c, s') ∧ _
    rcases fl_cut k2 with e | e
    · rw [e, if_neg (by simp)]
      exact ⟨0, _, rfl, .inl ⟨rfl, rfl, fun _ => rfl, by show flD s1.D s1.W = _; rw [k3, flD_nil s.D s.W (fun i _ => hW _)]⟩⟩
    · rw [e, if_pos (by simp)]
      exact ⟨15, _, rfl, .inr ⟨rfl, rfl, fun keep => cr_mix (s := { s1 with up := false }) g2 hm keep⟩⟩
  · rw [if_pos (by simp)]
    exact ⟨15, s1, rfl, .inr ⟨rfl, k2, fun keep => cr_mix g2 hm keep⟩⟩
theorem mix_one {D E : List (List Int)} {q : Nat × List Int} (h : Mix D [some q] E) : E = D ∨ E = D.set q.1 q.2 := by
  by_cases he : E[q.1]? = D[q.1]?
  · left
    apply List.ext_getElem?
    intro i
    rcases h.2 i with e | ⟨p, h1, h2, h3⟩
    · exact e
    · have : p = q := by simpa using h1
      subst this
      rw [← h2]
      exact he
  · right
    apply List.ext_getElem?
    intro i
    by_cases hi : q.1 = i
    · subst hi
      rcases h.2 q.1 with e | ⟨p, h1, h2, h3⟩
      · exact absurd e he
      · have : p = q := by simpa using h1
        subst this
        have hl : p.1 < D.length := by
          rw [← h.1]
          exact (List.getElem?_eq_some_iff.1 h3).1
        rw [h3, List.getElem?_set_self hl]
    · rw [List.getElem?_set_ne hi]
      rcases h.2 i with e | ⟨p, h1, h2, h3⟩
      · exact e
      · have : p = q := by simpa using h1
        subst this
        exact absurd h2 hi
/-- a move under a fuse: it is done, or the disk goes down, and behind a loss of power the blocks are the old ones with some of the area's writes, or the new ones, head and all -/
theorem mops_cut {s : Ds} (hu : s.up = true) (hW : ∀ i, s.W i = []) (m no ar fr : Nat) (B : List Int) (hB : IsBytes B) (hf : 2 + ar * m + fr + (B.length + 63) / 64 ≤ s.D.length) (h2 : 2 ≤ s.D.length) :
    ∃ c s', s.run (mops m no ar fr B) = (c, s') ∧ ((c = 0 ∧ s'.up = true ∧ (∀ i, s'.W i = []) ∧ s'.D = (app (wops (2 + ar * m + fr) B) s.D).set ((no + 1) % 2) (hdB (no + 1) ar (64 * fr + B.length))) ∨ (c = 15 ∧ s'.up = false ∧ ∀ keep, Mix s.D (wops (2 + ar * m + fr) B) (s'.cr keep).D ∨ (s'.cr keep).D = (app (wops (2 + ar * m + fr) B) s.D).set ((no + 1) % 2) (hdB (no + 1) ar (64 * fr + B.length)))) := by
  obtain ⟨c, s1, g1, g2⟩ := flush_cut (A := wops (2 + ar * m + fr) B) hu hW (wops_some _ _ B (Nat.le_refl _)) (fun p hp => by have := wops_mem B.length (2 + ar * m + fr) B (Nat.le_refl _) hB p hp; exact ⟨by omega, this.2.1⟩)
  unfold mops
  rw [Ds.run_app, g1]
  rcases g2 with ⟨rfl, k1, k2, k3⟩ | ⟨rfl, k1, k2⟩
  · rw [if_neg (by simp)]
    have hl : s1.D.length = s.D.length := by rw [k3, app_len]
    obtain ⟨c2, s2, j1, j2⟩ := flush_cut (A := [some ((no + 1) % 2, hdB (no + 1) ar (64 * fr + B.length))]) k1 k2 (by simp) (fun p hp => by
      have : p = ((no + 1) % 2, hdB (no + 1) ar (64 * fr + B.length)) := by simpa using hp
      subst this
      exact ⟨by show (no + 1) % 2 < _; omega, hdB_len _ _ _⟩)
    refine ⟨c2, s2, j1, ?_⟩
    rcases j2 with ⟨rfl, i1, i2, i3⟩ | ⟨rfl, i1, i2⟩
    · exact .inl ⟨rfl, i1, i2, by rw [i3, k3]; rfl⟩
    · refine .inr ⟨rfl, i1, fun keep => ?_⟩
      rcases mix_one (i2 keep) with e | e
      · left
        rw [e, k3]
        exact app_mix _ _
      · right
        rw [e, k3]
  · rw [if_pos (by simp)]
    exact ⟨15, s1, rfl, .inr ⟨rfl, k1, fun keep => .inl (k2 keep)⟩⟩
end Go.Proofs.YtcindeechmpalaaGreat
namespace Go.Proofs.YtcindeechmpalaaGreat
open Go.ChangeShapes Go.WideShapes Go.ChangeAt Go.RowKit Go.Deep Go.Maps
set_option linter.unusedVariables false
theorem gd_same {s t : Ds} {l : Lg} (h : Gd s l) (f : Free t) (e : t.D = s.D) : Gd t l := by
  have ham : t.am = s.am := by unfold Ds.am; rw [e]
  exact ⟨f, by rw [ham, e]; exact h.nums, by rw [ham, e]; exact h.lies, by rw [ham]; exact h.am, h.lost, h.room, h.wb⟩
theorem free_cr (s : Ds) (keep : List Int) : Free (s.cr keep) := ⟨rfl, rfl, fun _ => rfl⟩
/-- the head of what wops writes -/
theorem wops_at {at_ : Nat} {B : List Int} (hB : B ≠ []) (hb : IsBytes B) {p : Nat × List Int} (hp : some p ∈ wops at_ B) (h : p.1 = at_) : p.2 = pad64 (B.take 64) := by
  rw [wops_cons _ _ hB] at hp
  rcases List.mem_cons.1 hp with e | e
  · obtain rfl := Option.some.inj e
    rfl
  · have hd : IsBytes (B.drop 64) := bytes_of_mem fun x hx => bytes_mem hb x (List.mem_of_mem_drop hx)
    have := (wops_mem _ (at_ + 1) (B.drop 64) (Nat.le_refl _) hd p e).1
    omega
theorem mix_off {D E : List (List Int)} {at_ : Nat} {B : List Int} (hb : IsBytes B) (h : Mix D (wops at_ B) E) (i : Nat) (hi : i < at_ ∨ at_ + (B.length + 63) / 64 ≤ i) : E[i]? = D[i]? := by
  rcases h.2 i with e | ⟨p, h1, h2, _⟩
  · exact e
  · have := (wops_mem _ at_ B (Nat.le_refl _) hb p h1).1
    omega
theorem mix_64 {D E : List (List Int)} {at_ : Nat} {B : List Int} (hb : IsBytes B) (hD : Is64 D) (h : Mix D (wops at_ B) E) : Is64 E := by
  intro x hx
  obtain ⟨i, hi⟩ := List.getElem?_of_mem hx
  rcases h.2 i with e | ⟨p, h1, _, h3⟩
  · rw [e] at hi
    exact hD x (List.mem_of_getElem? hi)
  · rw [h3] at hi
    obtain rfl := Option.some.inj hi
    exact (wops_mem _ at_ B (Nat.le_refl _) hb p h1).2
/-- the records stay, where only blocks that are not theirs may have changed -/
theorem gd_off {s t : Ds} {l : Lg} {at_ : Nat} {B : List Int} (h : Gd s l) (hb : IsBytes B) (f : Free t) (hm : Mix s.D (wops at_ B) t.D) (h2 : 2 ≤ at_) (hl : (catD t.D (2 + l.ar * s.am) ((l.ln + 63) / 64)).take l.ln = joinL l.R) : Gd t l := by
  have ham : t.am = s.am := by unfold Ds.am; rw [hm.1]
  have hn := h.nums
  refine ⟨f, ⟨mix_64 hb hn.is64 hm, by rw [hm.1]; exact hn.len, by rw [ham, hm.1]; exact hn.mm, hn.nn, hn.aa, by rw [ham]; exact hn.ln, hn.rb⟩, ⟨?_, ?_, ?_⟩, by rw [ham]; exact h.am, h.lost, h.room, h.wb⟩
  · rw [mix_off hb hm _ (.inl (by omega))]
    exact h.lies.hd
  · intro b hb2
    rw [mix_off hb hm _ (.inl (by omega))] at hb2
    rw [ham]
    exact h.lies.oth b hb2
  · rw [ham]
    exact hl
theorem sync_parts {s : Ds} {l : Lg} (h : Gd s l) : joinL l.R = catD s.D (2 + l.ar * s.am) (l.ln / 64) ++ l.part s ∧ (l.part s).length = l.ln % 64 ∧ IsBytes (l.part s) ∧ l.part s = (catD s.D (2 + l.ar * s.am + l.ln / 64) ((l.ln % 64 + 63) / 64)).take (l.ln % 64) ∧ (catD s.D (2 + l.ar * s.am) (l.ln / 64)).length = 64 * (l.ln / 64) := by
  have hn := h.nums
  have hlen := hn.len
  have hmm := hn.mm
  have hroom := h.room
  rw [h.am] at hroom
  have har : l.ar * s.am ≤ s.am := by have := hn.aa; rcases (by omega : l.ar = 0 ∨ l.ar = 1) with e | e <;> rw [e] <;> omega
  have hlnm : l.ln ≤ 64 * s.am := by omega
  have hq : (catD s.D (2 + l.ar * s.am) (l.ln / 64)).length = 64 * (l.ln / 64) := catD_len hn.is64 _ _ (by omega)
  have hpart : l.part s = (catD s.D (2 + l.ar * s.am + l.ln / 64) ((l.ln % 64 + 63) / 64)).take (l.ln % 64) := by unfold Lg.part; rw [cat_nil h.free.W, h.am]
  have hlog : joinL l.R = catD s.D (2 + l.ar * s.am) (l.ln / 64) ++ l.part s := by
    have e1 : (l.ln + 63) / 64 = l.ln / 64 + (l.ln % 64 + 63) / 64 := by omega
    have g := h.lies.log
    have e2 : (joinL l.R).length = l.ln := rfl
    rw [e2, e1, catD_add, List.take_append, hq, show l.ln - 64 * (l.ln / 64) = l.ln % 64 by omega, List.take_of_length_le (by rw [hq]; omega)] at g
    rw [hpart]
    exact g.symm
  have hpl : (l.part s).length = l.ln % 64 := by
    have := congrArg List.length hlog
    rw [List.length_append, hq] at this
    have e2 : (joinL l.R).length = l.ln := rfl
    omega
  have hpb : IsBytes (l.part s) := by
    have hb : IsBytes (joinL l.R) := joinL_bytes _ fun B hB => (hn.rb B hB).1
    rw [hlog] at hb
    exact bytes_of_mem fun x hx => bytes_mem hb x (List.mem_append_right _ hx)
  exact ⟨hlog, hpl, hpb, hpart, hq⟩
/-- Sync, cut off ahead of its head: the old records stand -/
theorem sync_old {s t : Ds} {l : Lg} (h : Gd s l) (hW : joinL l.W ≠ []) (f : Free t) (hm : Mix s.D (wops (2 + l.ar * s.am + l.ln / 64) (l.part s ++ joinL l.W)) t.D) : Gd t l := by
  obtain ⟨hlog, hpl, hpb, hpart, hq⟩ := sync_parts h
  have hjl : IsBytes (joinL l.W) := joinL_bytes _ fun B hB => (h.wb B hB).1
  have hb := bytes_app hpb hjl
  refine gd_off h hb f hm (by omega) ?_
  have e1 : (l.ln + 63) / 64 = l.ln / 64 + (l.ln % 64 + 63) / 64 := by omega
  have c1 : catD t.D (2 + l.ar * s.am) (l.ln / 64) = catD s.D (2 + l.ar * s.am) (l.ln / 64) := catD_same _ _ fun j h1 h2 => mix_off hb hm j (.inl (by omega))
  rw [e1, catD_add, c1, List.take_append, hq, show l.ln - 64 * (l.ln / 64) = l.ln % 64 by omega, List.take_of_length_le (by rw [hq]; omega), hlog]
  congr 1
  by_cases h0 : l.ln % 64 = 0
  · rw [h0] at hpl ⊢
    rw [List.length_eq_zero_iff.1 hpl]
    rfl
  · have e3 : (l.ln % 64 + 63) / 64 = 1 := by omega
    rw [e3] at hpart ⊢
    rcases hm.2 (2 + l.ar * s.am + l.ln / 64) with e | ⟨p, h1, h2, h3⟩
    · rw [hpart]
      congr 1
      exact catD_same _ _ fun j j1 j2 => by
        have : j = 2 + l.ar * s.am + l.ln / 64 := by omega
        rw [this]; exact e
    · have e4 := wops_at (by intro e; exact hW (List.append_eq_nil_iff.1 e).2) hb h1 h2
      have e5 : catD t.D (2 + l.ar * s.am + l.ln / 64) 1 = p.2 := by
        show bAt t.D _ ++ [] = _
        unfold bAt
        rw [h3, List.append_nil]
        rfl
      rw [e5, e4]
      unfold pad64
      rw [List.take_append_of_le_length (by rw [List.length_take, List.length_append]; omega), List.take_take, show min (l.ln % 64) 64 = l.ln % 64 by omega, List.take_append_of_le_length (by omega), List.take_of_length_le (by omega)]
/-- Reset, cut off ahead of its head: the old records stand -/
theorem reset_old {s t : Ds} {l : Lg} (h : Gd s l) (B : List Int) (hb : IsBytes B) (hB : B.length ≤ 64 * s.am) (f : Free t) (hm : Mix s.D (wops (2 + (1 - l.ar) * s.am + 0) B) t.D) : Gd t l := by
  have hn := h.nums
  have hroom := h.room
  rw [h.am] at hroom
  refine gd_off h hb f hm (by omega) ?_
  have c1 : catD t.D (2 + l.ar * s.am) ((l.ln + 63) / 64) = catD s.D (2 + l.ar * s.am) ((l.ln + 63) / 64) := catD_same _ _ fun j h1 h2 => mix_off hb hm j (by
    have := hn.aa
    rcases (by omega : l.ar = 0 ∨ l.ar = 1) with e | e
    · rw [e] at h1 h2 ⊢
      left
      omega
    · rw [e] at h1 h2 ⊢
      right
      omega)
  rw [c1]
  exact h.lies.log
end Go.Proofs.YtcindeechmpalaaGreat
namespace Go.Proofs.YtcindeechmpalaaGreat
open Go.ChangeShapes Go.WideShapes Go.ChangeAt Go.RowKit Go.Deep Go.Maps
set_option linter.unusedVariables false
/-- a log and its disk that agree, whatever the fuse -/
structure Gu (s : Ds) (l : Lg) : Prop where
  up : s.up = true
  W : ∀ i, s.W i = []
  gd : Gd { s with fu := -1 } l
theorem Gu.of {s : Ds} {l : Lg} (h : Gd s l) : Gu s l := ⟨h.free.up, h.free.W, gd_same h ⟨h.free.up, rfl, h.free.W⟩ rfl⟩
theorem Gu.made {s t : Ds} {l : Lg} (h : Gd t l) (hu : s.up = true) (hW : ∀ i, s.W i = []) (e : s.D = t.D) : Gu s l := ⟨hu, hW, gd_same h ⟨hu, rfl, hW⟩ e⟩
theorem sync_cut {s : Ds} {l : Lg} (h : Gu s l) (hno : l.no < 1152921504606846976) (hW : l.W ≠ []) : ∃ c l' s', l.sync s = (c, l', s') ∧ ((c = 0 ∧ l' = { l with no := l.no + 1, R := l.R ++ l.W, W := [] } ∧ Gu s' l' ∧ s'.D.length = s.D.length) ∨ (c = 15 ∧ l' = { l with lost := true } ∧ s'.up = false ∧ ∀ keep, Gd (s'.cr keep) l ∨ Gd (s'.cr keep) { l with no := l.no + 1, R := l.R ++ l.W, W := [] })) := by
  obtain ⟨s1, e, g, hD⟩ := gd_sync h.gd hno hW
  obtain ⟨hlog, hpl, hpb, hpart, hq⟩ := sync_parts h.gd
  have hn := h.gd.nums
  have hlen := hn.len
  have hmm := hn.mm
  have hroom := h.gd.room
  have ham := h.gd.am
  rw [ham] at hroom
  have hjl : IsBytes (joinL l.W) := joinL_bytes _ fun B hB => (h.gd.wb B hB).1
  have hB := bytes_app hpb hjl
  have hBl : (l.part { s with fu := -1 } ++ joinL l.W).length = l.ln % 64 + (joinL l.W).length := by rw [List.length_append, hpl]
  have har : l.ar * l.m ≤ l.m := by have := hn.aa; rcases (by omega : l.ar = 0 ∨ l.ar = 1) with e | e <;> rw [e] <;> omega
  have hfit : 2 + l.ar * l.m + l.ln / 64 + ((l.part { s with fu := -1 } ++ joinL l.W).length + 63) / 64 ≤ s.D.length := by
    have hlen' : 6 ≤ s.D.length := hlen.1
    have hm' : l.m = (s.D.length - 2) / 2 := by rw [ham]; exact hmm
    rw [← ham] at hroom
    rw [hBl]
    rcases (by have := hn.aa; omega : l.ar = 0 ∨ l.ar = 1) with e | e <;> rw [e] <;> omega
  have h2 : 2 ≤ s.D.length := by have : 6 ≤ s.D.length := hlen.1; omega
  have hJ : joinL l.W ≠ [] := fun e => by
    have h1 := joinL_count l.W
    rw [e] at h1
    have h1' : 8 * l.W.length ≤ 0 := h1
    have : l.W.length = 0 := by omega
    exact hW (List.length_eq_zero_iff.1 this)
  obtain ⟨s2, k1, k2, k3⟩ := mops_free h.gd.free l.m l.no l.ar (l.ln / 64) (l.part { s with fu := -1 } ++ joinL l.W) hB hfit h2
  have hs : s1 = s2 := by
    unfold Lg.sync at e
    rw [if_neg (by rw [h.gd.lost]; simp), if_neg hW, if_neg (by show ¬ s.up = false; rw [h.up]; simp), k1, if_pos rfl] at e
    exact (Prod.mk.inj (Prod.mk.inj e).2).2.symm
  subst hs
  obtain ⟨c, s3, j1, j2⟩ := mops_cut h.up h.W l.m l.no l.ar (l.ln / 64) (l.part { s with fu := -1 } ++ joinL l.W) hB hfit h2
  have hpe : l.part { s with fu := -1 } = l.part s := by unfold Lg.part; rw [cat_nil h.W, cat_nil (s := { s with fu := -1 }) h.W]
  have j1' : s.run (mops l.m l.no l.ar (l.ln / 64) (l.part s ++ joinL l.W)) = (c, s3) := by rw [← hpe]; exact j1
  rcases j2 with ⟨rfl, i1, i2, i3⟩ | ⟨rfl, i1, i2⟩
  · refine ⟨0, _, s3, ?_, .inl ⟨rfl, rfl, Gu.made g i1 i2 (i3.trans k3.symm), ?_⟩⟩
    · unfold Lg.sync
      rw [if_neg (by rw [h.gd.lost]; simp), if_neg hW, if_neg (by rw [h.up]; simp), j1', if_pos rfl]
    · rw [i3, List.length_set, app_len]
  · refine ⟨15, _, s3, ?_, .inr ⟨rfl, rfl, i1, fun keep => ?_⟩⟩
    · unfold Lg.sync
      rw [if_neg (by rw [h.gd.lost]; simp), if_neg hW, if_neg (by rw [h.up]; simp), j1', if_neg (by simp)]
    · rcases i2 keep with m1 | m1
      · left
        rw [ham] at m1
        exact sync_old h.gd hJ (free_cr _ _) m1
      · right
        exact gd_same g (free_cr _ _) (m1.trans k3.symm)
theorem reset_cut {s : Ds} {l : Lg} (h : Gu s l) (hno : l.no < 1152921504606846976) (hW : l.W = []) (recs : List (List Int)) (hb : ∀ B ∈ recs, IsBytes B) (hf : (frO recs (64 * l.m)).2 = 0) : ∃ c l' s', l.reset s recs = (c, l', s') ∧ ((c = 0 ∧ l' = { l with no := l.no + 1, ar := 1 - l.ar, R := recs, W := [] } ∧ Gu s' l' ∧ s'.D.length = s.D.length) ∨ (c = 15 ∧ l' = { l with lost := true } ∧ s'.up = false ∧ ∀ keep, Gd (s'.cr keep) l ∨ Gd (s'.cr keep) { l with no := l.no + 1, ar := 1 - l.ar, R := recs, W := [] })) := by
  obtain ⟨s1, e, g, hD⟩ := gd_reset h.gd hno hW recs hb hf
  obtain ⟨f1, f2, f3⟩ := frO_ok hf
  have hn := h.gd.nums
  have hlen := hn.len
  have hmm := hn.mm
  have ham := h.gd.am
  have hjl : IsBytes (joinL recs) := joinL_bytes _ hb
  have hfit : 2 + (1 - l.ar) * l.m + 0 + ((joinL recs).length + 63) / 64 ≤ s.D.length := by
    have hlen' : 6 ≤ s.D.length := hlen.1
    have hm' : l.m = (s.D.length - 2) / 2 := by rw [ham]; exact hmm
    rcases (by have := hn.aa; omega : l.ar = 0 ∨ l.ar = 1) with e | e <;> rw [e] <;> omega
  have h2 : 2 ≤ s.D.length := by have : 6 ≤ s.D.length := hlen.1; omega
  obtain ⟨s2, k1, k2, k3⟩ := mops_free h.gd.free l.m l.no (1 - l.ar) 0 (joinL recs) hjl hfit h2
  have hs : s1 = s2 := by
    unfold Lg.reset at e
    rw [if_neg (by rw [h.gd.lost]; simp), if_neg (by simpa using hW), if_neg (by simpa using hf), k1, if_pos rfl] at e
    exact (Prod.mk.inj (Prod.mk.inj e).2).2.symm
  subst hs
  obtain ⟨c, s3, j1, j2⟩ := mops_cut h.up h.W l.m l.no (1 - l.ar) 0 (joinL recs) hjl hfit h2
  rcases j2 with ⟨rfl, i1, i2, i3⟩ | ⟨rfl, i1, i2⟩
  · refine ⟨0, _, s3, ?_, .inl ⟨rfl, rfl, Gu.made g i1 i2 (i3.trans k3.symm), ?_⟩⟩
    · unfold Lg.reset
      rw [if_neg (by rw [h.gd.lost]; simp), if_neg (by simpa using hW), if_neg (by simpa using hf), j1, if_pos rfl]
    · rw [i3, List.length_set, app_len]
  · refine ⟨15, _, s3, ?_, .inr ⟨rfl, rfl, i1, fun keep => ?_⟩⟩
    · unfold Lg.reset
      rw [if_neg (by rw [h.gd.lost]; simp), if_neg (by simpa using hW), if_neg (by simpa using hf), j1, if_neg (by simp)]
    · rcases i2 keep with m1 | m1
      · left
        rw [ham] at m1
        exact reset_old h.gd (joinL recs) hjl (by rw [ham] at f2; exact f2) (free_cr _ _) m1
      · right
        exact gd_same g (free_cr _ _) (m1.trans k3.symm)
end Go.Proofs.YtcindeechmpalaaGreat
namespace Go.Proofs.YtcindeechmpalaaGreat
open Go.ChangeShapes Go.WideShapes Go.ChangeAt Go.RowKit Go.Deep Go.Maps
set_option linter.unusedVariables false
/-- the log of a new disk of n blocks -/
def lg0 (n : Nat) : Lg := ⟨(n - 2) / 2, 1, 0, [], [], false⟩
/-- a disk that nothing was written to -/
structure Bare (n : Nat) (s : Ds) : Prop where
  up : s.up = true
  W : ∀ i, s.W i = []
  D : s.D = noughts n
theorem open_cut {n : Nat} {s : Ds} (h6 : 6 ≤ n) (hn : n ≤ 4096) (h : Bare n s) : ∃ c o s', s.opn = (c, o, s') ∧ ((c = 0 ∧ o = some (lg0 n) ∧ Gu s' (lg0 n) ∧ s'.D.length = n) ∨ (c = 15 ∧ o = none ∧ s'.up = false ∧ ∀ keep, Bare n (s'.cr keep) ∨ Gd (s'.cr keep) (lg0 n))) := by
  obtain ⟨s1, e, g, hD1⟩ := gd_new n h6 hn
  have hl0 : (Ds.new n).D.length = n := by simp [Ds.new, noughts]
  have hl : s.D.length = n := by rw [h.D]; simp [noughts]
  have hA : ∀ p, some p ∈ [some (1, hdB 1 0 0)] → p.1 < n ∧ p.2.length = 64 := fun p hp => by
    have : p = (1, hdB 1 0 0) := by simpa using hp
    subst this
    exact ⟨by show 1 < _; omega, hdB_len _ _ _⟩
  obtain ⟨s2, k1, k2, k3⟩ := run_flush (A := [some (1, hdB 1 0 0)]) (s := Ds.new n) ⟨rfl, rfl, fun _ => rfl⟩ (by simp) (fun p hp => by rw [hl0]; exact hA p hp)
  have k1' : (Ds.new n).run [some (1, hdB 1 0 0), none] = (0, s2) := k1
  have hzn : ∀ (t : Ds), t.D = noughts n → (∀ i, t.W i = []) → ∀ i, i < n → t.cur i = List.replicate 64 0 := fun t ht hw i hi => by
    rw [cur_nil hw, bAt, ht]
    unfold noughts
    rw [List.getElem?_replicate, if_pos hi]
    rfl
  have hs : s1 = s2 := by
    rw [Ds.opn, if_neg (by simp [Ds.new]), if_neg (by omega), Ds.fob, if_pos ⟨hzn _ rfl (fun _ => rfl) 0 (by omega), hzn _ rfl (fun _ => rfl) 1 (by omega)⟩, k1', if_pos rfl] at e
    exact (Prod.mk.inj (Prod.mk.inj e).2).2.symm
  subst hs
  have hD0 : (Ds.new n).D = noughts n := rfl
  obtain ⟨c, s3, j1, j2⟩ := flush_cut (A := [some (1, hdB 1 0 0)]) h.up h.W (by simp) (fun p hp => by rw [hl]; exact hA p hp)
  have j1' : s.run [some (1, hdB 1 0 0), none] = (c, s3) := j1
  have ham : s.am = (n - 2) / 2 := by unfold Ds.am; rw [hl]
  rcases j2 with ⟨rfl, i1, i2, i3⟩ | ⟨rfl, i1, i2⟩
  · refine ⟨0, some (lg0 n), s3, ?_, .inl ⟨rfl, rfl, Gu.made g i1 i2 (by rw [i3, k3, h.D, hD0]), by rw [i3, app_len, hl]⟩⟩
    rw [Ds.opn, if_neg (by rw [h.up]; simp), if_neg (by omega), Ds.fob, if_pos ⟨hzn _ h.D h.W 0 (by omega), hzn _ h.D h.W 1 (by omega)⟩, j1', if_pos rfl, ham]
    rfl
  · refine ⟨15, none, s3, ?_, .inr ⟨rfl, rfl, i1, fun keep => ?_⟩⟩
    · rw [Ds.opn, if_neg (by rw [h.up]; simp), if_neg (by omega), Ds.fob, if_pos ⟨hzn _ h.D h.W 0 (by omega), hzn _ h.D h.W 1 (by omega)⟩, j1', if_neg (by simp)]
      rfl
    · rcases mix_one (i2 keep) with m | m
      · left
        exact ⟨rfl, fun _ => rfl, m.trans h.D⟩
      · right
        exact gd_same g (free_cr _ _) (by rw [m, k3, h.D, hD0]; rfl)
theorem gu_open {s : Ds} {l : Lg} (h : Gu s l) : s.opn = (0, some { l with W := [] }, s) := by
  have hg := h.gd
  have e := opn_lies (s := s) h.up h.W hg.nums hg.lies
  rw [e]
  have hm : l.m = s.am := hg.am
  have hl := hg.lost
  cases l
  simp only at hm hl
  subst hm hl
  rfl
end Go.Proofs.YtcindeechmpalaaGreat
namespace Go.Proofs.YtcindeechmpalaaGreat
open Go.ChangeShapes Go.WideShapes Go.ChangeAt Go.RowKit Go.Deep Go.Maps
set_option linter.unusedVariables false
theorem strs_ne {A B : List Int} (ha : IsBytes A) (hb : IsBytes B) (h : A ≠ B) : ((strOfNums A).toList == (strOfNums B).toList) = false := by
  rw [str_eq A B (bytes_mem ha) (bytes_mem hb), decide_eq_false h]
theorem list_ext_getD {l k : List (List Int)} (hl : l.length = k.length) (h : ∀ i, i < l.length → l.getD i [] = k.getD i []) : l = k := by
  apply List.ext_getElem hl
  intro i h1 h2
  have := h i h1
  rwa [List.getD_eq_getElem?_getD, List.getD_eq_getElem?_getD, List.getElem?_eq_getElem h1, List.getElem?_eq_getElem h2] at this
end Go.Proofs.YtcindeechmpalaaGreat
namespace Go.Proofs.YtcindeechmpalaaGreat
open Go.ChangeShapes Go.WideShapes Go.ChangeAt Go.RowKit Go.Deep Go.Maps
set_option linter.unusedVariables false
/-- in block bd the disk s, in block bl the log l of it, all made since w; the blocks P are neither's -/
structure Wl (w wr : World) (P : Nat → Prop) (bd bl N : Nat) (s : Ds) (l : Lg) : Prop where
  ex : ∃ F G, Dk wr F bd N s ∧ Lm wr G bl bd l ∧ (∀ k, G k → ¬ F k) ∧ (∀ k, F k → w.heap.size ≤ k) ∧ (∀ k, G k → w.heap.size ≤ k) ∧ ∀ k, P k → k < wr.heap.size ∧ ¬ F k ∧ ¬ G k
  ok : l.Ok N
  bel : Below w.heap.size w wr
/-- in block bd the disk s alone -/
structure Wd (w wr : World) (P : Nat → Prop) (bd N : Nat) (s : Ds) : Prop where
  ex : ∃ F, Dk wr F bd N s ∧ (∀ k, F k → w.heap.size ≤ k) ∧ ∀ k, P k → k < wr.heap.size ∧ ¬ F k
  bel : Below w.heap.size w wr
theorem Wl.disk {w wr : World} {P : Nat → Prop} {bd bl N : Nat} {s : Ds} {l : Lg} (h : Wl w wr P bd bl N s l) : Wd w wr P bd N s := by
  obtain ⟨F, G, d, _, _, f, _, p⟩ := h.ex
  exact ⟨⟨F, d, f, fun k hk => ⟨(p k hk).1, (p k hk).2.1⟩⟩, h.bel⟩
theorem Wl.more {w wr : World} {P : Nat → Prop} {bd bl N N' : Nat} {s : Ds} {l : Lg} (h : Wl w wr P bd bl N s l) (hN : N ≤ N') : Wl w wr P bd bl N' s l := by
  obtain ⟨F, G, d, r⟩ := h.ex
  exact ⟨⟨F, G, d.more hN, r⟩, h.ok.more hN, h.bel⟩
theorem Wd.more {w wr : World} {P : Nat → Prop} {bd N N' : Nat} {s : Ds} (h : Wd w wr P bd N s) (hN : N ≤ N') : Wd w wr P bd N' s := by
  obtain ⟨F, d, r⟩ := h.ex
  exact ⟨⟨F, d.more hN, r⟩, h.bel⟩
theorem Wl.less {w wr : World} {P Q : Nat → Prop} {bd bl N : Nat} {s : Ds} {l : Lg} (h : Wl w wr P bd bl N s l) (hQ : ∀ k, Q k → P k) : Wl w wr Q bd bl N s l := by
  obtain ⟨F, G, a1, a2, a3, a4, a5, a6⟩ := h.ex
  exact ⟨⟨F, G, a1, a2, a3, a4, a5, fun k hk => a6 k (hQ k hk)⟩, h.ok, h.bel⟩
/-- whatever was made since is neither's -/
theorem Wl.keep {w wr w' : World} {P : Nat → Prop} {bd bl N : Nat} {s : Ds} {l : Lg} (h : Wl w wr P bd bl N s l) (hb : Below wr.heap.size wr w') : Wl w w' (fun k => P k ∨ (wr.heap.size ≤ k ∧ k < w'.heap.size)) bd bl N s l := by
  obtain ⟨F, G, a1, a2, a3, a4, a5, a6⟩ := h.ex
  refine ⟨⟨F, G, a1.keep hb, a2.keep hb, a3, a4, a5, fun k hk => ?_⟩, h.ok, h.bel.trans (hb.mono h.bel.size)⟩
  rcases hk with hk | ⟨k1, k2⟩
  · have := a6 k hk
    exact ⟨Nat.lt_of_lt_of_le this.1 hb.size, this.2⟩
  · exact ⟨k2, fun e => by have := a1.lt k e; omega, fun e => by have := a2.lt k e; omega⟩
theorem Wd.keep {w wr w' : World} {P : Nat → Prop} {bd N : Nat} {s : Ds} (h : Wd w wr P bd N s) (hb : Below wr.heap.size wr w') : Wd w w' (fun k => P k ∨ (wr.heap.size ≤ k ∧ k < w'.heap.size)) bd N s := by
  obtain ⟨F, a1, a2, a3⟩ := h.ex
  refine ⟨⟨F, a1.keep hb, a2, fun k hk => ?_⟩, h.bel.trans (hb.mono h.bel.size)⟩
  rcases hk with hk | ⟨k1, k2⟩
  · exact ⟨Nat.lt_of_lt_of_le (a3 k hk).1 hb.size, (a3 k hk).2⟩
  · exact ⟨k2, fun e => by have := a1.lt k e; omega⟩
theorem Wl.keep0 {w wr w' : World} {P : Nat → Prop} {bd bl N : Nat} {s : Ds} {l : Lg} (h : Wl w wr P bd bl N s l) (hb : Below wr.heap.size wr w') : Wl w w' P bd bl N s l := (h.keep hb).less fun _ hk => .inl hk
theorem Wl.stepB {w wr w' : World} {P : Nat → Prop} {bd bl N' : Nat} {s' : Ds} {l' : Lg} {F F' G G' : Nat → Prop} (hB : Below w.heap.size w wr) (hF : ∀ k, F k → w.heap.size ≤ k) (hG : ∀ k, G k → w.heap.size ≤ k) (hP : ∀ k, P k → k < wr.heap.size ∧ ¬ F k ∧ ¬ G k) (hd : Dk w' F' bd N' s') (hl : Lm w' G' bl bd l') (hs : StepB F F' G G' wr w') (hx : ∀ k, G' k → ¬ F' k) (hok : l'.Ok N') : Wl w w' P bd bl N' s' l' ∧ ∀ k, P k → w'.heap[k]? = wr.heap[k]? := by
  refine ⟨⟨⟨F', G', hd, hl, hx, fun k hk => ?_, fun k hk => ?_, fun k hk => ⟨Nat.lt_of_lt_of_le (hP k hk).1 hs.off.size, fun e => ?_, fun e => ?_⟩⟩, hok, hB.trans (hs.off.below (fun k hk => hk.elim (hF k) (hG k)) hB.size)⟩, fun k hk => hs.off.block k (hP k hk).1 (fun e => e.elim (hP k hk).2.1 (hP k hk).2.2)⟩
  · rcases hs.sub k hk with e | e
    · exact hF k e
    · exact Nat.le_trans hB.size e
  · rcases hs.sug k hk with e | e
    · exact hG k e
    · exact Nat.le_trans hB.size e
  · rcases hs.sub k e with e | e
    · exact (hP k hk).2.1 e
    · have := (hP k hk).1; omega
  · rcases hs.sug k e with e | e
    · exact (hP k hk).2.2 e
    · have := (hP k hk).1; omega
theorem sync_ok {l : Lg} {s : Ds} {N : Nat} (h : l.Ok N) : (l.sync s).2.1.Ok (N + 2100) := by
  unfold Lg.sync
  split
  · exact h.more (by omega)
  · split
    · exact h.more (by omega)
    · split
      · exact ⟨h.m, by have := h.no; show l.no ≤ _; omega, h.ar, h.room, h.rb, h.wb⟩
      · split
        · refine ⟨h.m, by have := h.no; show l.no + 1 ≤ _; omega, h.ar, ?_, fun B hB => ?_, fun B hB => by cases hB⟩
          · show (joinL (l.R ++ l.W)).length + 0 ≤ 64 * l.m
            have e : (joinL (l.R ++ l.W)).length = l.ln + (joinL l.W).length := by rw [joinL_app, List.length_append]; rfl
            have := h.room
            omega
          · rcases List.mem_append.1 hB with e | e
            · exact h.rb B e
            · exact h.wb B e
        · exact ⟨h.m, by have := h.no; show l.no ≤ _; omega, h.ar, h.room, h.rb, h.wb⟩
theorem reset_ok {l : Lg} {s : Ds} {N : Nat} (h : l.Ok N) {recs : List (List Int)} (hb : ∀ B ∈ recs, IsBytes B) : (l.reset s recs).2.1.Ok (N + 2100) := by
  unfold Lg.reset
  split
  · exact h.more (by omega)
  · split
    · exact h.more (by omega)
    · split
      · exact h.more (by omega)
      · rename_i h3
        split
        · obtain ⟨f1, f2, f3⟩ := frO_ok (show (frO recs (64 * l.m)).2 = 0 by simpa using h3)
          exact ⟨h.m, by have := h.no; show l.no + 1 ≤ _; omega, by show 1 - l.ar ≤ 1; omega, by show (joinL recs).length + 0 ≤ 64 * l.m; omega, fun B hB => ⟨hb B hB, f3 B hB⟩, fun B hB => by cases hB⟩
        · exact ⟨h.m, by have := h.no; show l.no ≤ _; omega, h.ar, h.room, h.rb, h.wb⟩
theorem wl_add {w wr : World} {P : Nat → Prop} {bd bl N : Nat} {s : Ds} {l : Lg} (T : Wl w wr P bd bl N s l) (rec : List Int) (hB : IsBytes rec) : Calls Tryz.prog 79 #[.pointer (some ⟨bl, 0, none⟩), .string (strOfNums rec)] wr fun e w' => e = .returned (.int .i64 (l.add rec).1) ∧ Wl w w' P bd bl N s (l.add rec).2 ∧ ∀ k, P k → w'.heap[k]? = wr.heap[k]? := by
  obtain ⟨F, G, a1, a2, a3, a4, a5, a6⟩ := T.ex
  refine (add_is wr G bl bd N l a2 T.ok rec hB).mono ?_
  rintro e w' ⟨rfl, G', hl, hs⟩
  exact ⟨rfl, Wl.stepB T.bel a4 a5 a6 (a1.apartL hs a3) hl hs.toBG (fun k hk hf => by
    rcases hs.sub k hk with e | e
    · exact a3 k e hf
    · have := a1.lt k hf; omega) (Lg.add_ok T.ok hB)⟩
theorem wl_sync {w wr : World} {P : Nat → Prop} {bd bl N : Nat} {s : Ds} {l : Lg} (T : Wl w wr P bd bl N s l) (hfit : 2 + l.ar * l.m + l.m ≤ s.D.length) (hN : N + 3000 < 999900) : Calls Tryz.prog 80 #[.pointer (some ⟨bl, 0, none⟩)] wr fun e w' => e = .returned (.int .i64 (l.sync s).1) ∧ Wl w w' P bd bl (N + 2100) (l.sync s).2.2 (l.sync s).2.1 ∧ ∀ k, P k → w'.heap[k]? = wr.heap[k]? := by
  obtain ⟨F, G, a1, a2, a3, a4, a5, a6⟩ := T.ex
  refine (sync_is wr F G bl bd N s l a1 a2 T.ok a3 hfit hN).mono ?_
  rintro e w' ⟨rfl, F', G', hd, hl, hs, hx⟩
  exact ⟨rfl, Wl.stepB T.bel a4 a5 a6 hd hl hs hx (sync_ok T.ok)⟩
theorem wl_reset {w wr : World} {P : Nat → Prop} {bd bl N : Nat} {s : Ds} {l : Lg} (T : Wl w wr P bd bl N s l) (hN : N + 3000 < 999900) (a : Option Addr) (n c : Nat) (recs : List (List Int)) (hn : recs.length = n) (hn2 : n ≤ 1000000) (hin : InS wr a recs) (ha : a = none → n = 0 ∧ c = 0) (hB : ∀ B ∈ recs, IsBytes B) (hx : ∀ x, a = some x → recs ≠ [] → P x.block ∨ x.block < w.heap.size) : Calls Tryz.prog 48 #[.pointer (some ⟨bl, 0, none⟩), .slice a n c] wr fun e w' => e = .returned (.int .i64 (l.reset s recs).1) ∧ Wl w w' P bd bl (N + 2100) (l.reset s recs).2.2 (l.reset s recs).2.1 ∧ ∀ k, P k → w'.heap[k]? = wr.heap[k]? := by
  obtain ⟨F, G, a1, a2, a3, a4, a5, a6⟩ := T.ex
  refine (reset_is wr F G bl bd N s l a1 a2 T.ok a3 hN a n c recs hn hn2 hin ha hB (fun x hx2 hne => ?_)).mono ?_
  · rcases hx x hx2 hne with h | h
    · exact (a6 _ h).2
    · exact ⟨fun e => by have := a4 _ e; omega, fun e => by have := a5 _ e; omega⟩
  · rintro e w' ⟨rfl, F', G', hd, hl, hs, hx⟩
    exact ⟨rfl, Wl.stepB T.bel a4 a5 a6 hd hl hs hx (reset_ok T.ok hB)⟩
theorem wl_room {w wr : World} {P : Nat → Prop} {bd bl N : Nat} {s : Ds} {l : Lg} (T : Wl w wr P bd bl N s l) : Calls Tryz.prog 110 #[.pointer (some ⟨bl, 0, none⟩)] wr fun e w' => e = .returned (.int .i64 (l.room : Nat)) ∧ Below wr.heap.size wr w' := by
  obtain ⟨F, G, a1, a2, _⟩ := T.ex
  exact wroom_is wr G bl bd N l a2 T.ok
theorem wl_records {w wr : World} {P : Nat → Prop} {bd bl N : Nat} {s : Ds} {l : Lg} (T : Wl w wr P bd bl N s l) : Calls Tryz.prog 38 #[.pointer (some ⟨bl, 0, none⟩)] wr fun e w' => ∃ v, e = .returned v ∧ RowsS w' wr.heap.size v l.R ∧ Below wr.heap.size wr w' := by
  obtain ⟨F, G, a1, a2, _⟩ := T.ex
  exact wrecords_is wr G bl bd N l a2 T.ok
theorem wd_blocks {w wr : World} {P : Nat → Prop} {bd N : Nat} {s : Ds} (T : Wd w wr P bd N s) : Calls Tryz.prog 70 #[.pointer (some ⟨bd, 0, none⟩)] wr fun e w' => e = .returned (.int .i64 (s.D.length : Int)) ∧ w' = wr := by
  obtain ⟨F, a1, _⟩ := T.ex
  exact dk_blocks wr F bd N s a1
theorem wd_new (n : Nat) (h1 : 1 ≤ n) (h2 : n ≤ 4096) (w wr : World) (hb : Below w.heap.size w wr) : Calls Tryz.prog 9 #[.int .i64 (n : Int)] wr fun e w' => ∃ b, e = .returned (.tuple #[.pointer (some ⟨b, 0, none⟩), .int .i64 0]) ∧ Wd w w' (fun k => k < wr.heap.size) b 0 (Ds.new n) ∧ Below wr.heap.size wr w' := by
  refine (dk_new n h1 h2 wr).mono ?_
  rintro e w' ⟨b, F, rfl, hd, hb2, hF⟩
  exact ⟨b, rfl, ⟨⟨F, hd, fun k hk => Nat.le_trans hb.size (hF k hk), fun k hk => ⟨Nat.lt_of_lt_of_le hk hb2.size, fun e => by have := hF k e; omega⟩⟩, hb.trans (hb2.mono hb.size)⟩, hb2⟩
/-- Open of a disk: the log is new -/
theorem wd_open {w wr : World} {P : Nat → Prop} {bd N : Nat} {s : Ds} (T : Wd w wr P bd N s) (hN : N < 999998) : Calls Tryz.prog 37 #[.pointer (some ⟨bd, 0, none⟩)] wr fun e w' => (∀ k, P k → w'.heap[k]? = wr.heap[k]?) ∧ wr.heap.size ≤ w'.heap.size ∧ ((s.opn.1 = 0 ∧ ∃ bl l, s.opn.2.1 = some l ∧ e = .returned (.tuple #[.pointer (some ⟨bl, 0, none⟩), .int .i64 0]) ∧ Wl w w' P bd bl (N + 2) s.opn.2.2 l ∧ 1 ≤ l.no) ∨ (s.opn.1 ≠ 0 ∧ e = .returned (.tuple #[.pointer none, .int .i64 s.opn.1]) ∧ Wd w w' P bd (N + 2) s.opn.2.2)) := by
  obtain ⟨F, a1, a2, a3⟩ := T.ex
  refine (open_is wr F bd N s a1 hN).mono ?_
  rintro e w' ⟨F', hd, hs, hor⟩
  have hF' : ∀ k, F' k → w.heap.size ≤ k := fun k hk => by
    rcases hs.sub k hk with e | e
    · exact a2 k e
    · exact Nat.le_trans T.bel.size e
  have hP' : ∀ k, P k → k < w'.heap.size ∧ ¬ F' k := fun k hk => ⟨Nat.lt_of_lt_of_le (a3 k hk).1 hs.off.size, fun e => by
    rcases hs.sub k e with e | e
    · exact (a3 k hk).2 e
    · have := (a3 k hk).1; omega⟩
  have hbel : Below w.heap.size w w' := T.bel.trans (hs.off.below a2 T.bel.size)
  refine ⟨fun k hk => hs.off.block k (a3 k hk).1 (a3 k hk).2, hs.off.size, ?_⟩
  rcases hor with ⟨h0, bl, G, l, hl, he, hm, hok, hno, hg1, hg2⟩ | ⟨h0, he⟩
  · exact .inl ⟨h0, bl, l, hl, he, ⟨⟨F', G, hd, hm, hg2, hF', fun k hk => Nat.le_trans T.bel.size (hg1 k hk), fun k hk => ⟨(hP' k hk).1, (hP' k hk).2, fun e => by have := hg1 k e; have := (a3 k hk).1; omega⟩⟩, hok.more (by omega), hbel⟩, hno⟩
  · exact .inr ⟨h0, he, ⟨⟨F', hd, hF', hP'⟩, hbel⟩⟩
theorem wd_crash {w wr : World} {P : Nat → Prop} {bd N : Nat} {s : Ds} (T : Wd w wr P bd N s) (hN : N ≤ 1000000) (ka : Option Addr) (kl kc : Nat) (keep : List Int) (hkl : keep.length = kl) (hin : InK wr ka keep) (hk : ∀ x, ka = some x → keep ≠ [] → P x.block ∨ x.block < w.heap.size) : Calls Tryz.prog 21 #[.pointer (some ⟨bd, 0, none⟩), .slice ka kl kc] wr fun e w' => e = .returned (.int .i64 0) ∧ Wd w w' P bd N (s.cr keep) ∧ (∀ k, P k → w'.heap[k]? = wr.heap[k]?) ∧ wr.heap.size ≤ w'.heap.size := by
  obtain ⟨F, a1, a2, a3⟩ := T.ex
  refine (dk_crash wr F bd N s a1 hN ka kl kc keep hkl hin (fun x hx hne hF => ?_)).mono ?_
  · rcases hk x hx hne with h | h
    · exact (a3 _ h).2 hF
    · have := a2 _ hF; omega
  · rintro e w' ⟨rfl, F', hd, hs⟩
    refine ⟨rfl, ⟨⟨F', hd, fun k hk => ?_, fun k hk => ⟨Nat.lt_of_lt_of_le (a3 k hk).1 hs.off.size, fun e => ?_⟩⟩, T.bel.trans (hs.off.below a2 T.bel.size)⟩, fun k hk => hs.off.block k (a3 k hk).1 (a3 k hk).2, hs.off.size⟩
    · rcases hs.sub k hk with e | e
      · exact a2 k e
      · exact Nat.le_trans T.bel.size e
    · rcases hs.sub k e with e | e
      · exact (a3 k hk).2 e
      · have := (a3 k hk).1; omega
end Go.Proofs.YtcindeechmpalaaGreat
namespace Go.Proofs.YtcindeechmpalaaGreat
open Go.ChangeShapes Go.WideShapes Go.ChangeAt Go.RowKit Go.Deep
set_option linter.unusedVariables false
theorem mem_weightsAll {H : Type} {P : Program} {e : TypeId} {q : Nat} : ∀ {l : List (DataW H)} {d : DataW H}, d ∈ l → q ∈ d.weights P e → q ∈ DataW.weightsAll P e l
  | [], _, h, _ => by cases h
  | x :: r, d, h, hq => by
    rw [DataW.weightsAll]
    rcases List.mem_cons.1 h with rfl | h
    · exact List.mem_append_left _ hq
    · exact List.mem_append_right _ (mem_weightsAll h hq)
theorem bytesT : Tryz.prog.bytesOf 9 = 16 := by kernel_rfl
theorem cellsT : Tryz.prog.cellsOf 9 = 1 := by kernel_rfl
/-- a slice of texts that came in: what it holds, with what its reach bounds -/
theorem open_texts {H : Type} {enc : TypeId × Value → H} {W : World} {fuel : Nat} {a : Option Addr} {len cap : Nat} {x : DataW H × List MemPlace} (h : DataW.trod enc Tryz.prog W 0 (fun _ => true) true fuel 82 [.slice a len cap] = some x) (hw : ∀ q ∈ x.1.weights Tryz.prog 82, q ≤ 140737488351232) :
    ∃ l, l.length = len ∧ InS W a l ∧ len ≤ 17592186044416 ∧ ∀ B ∈ l, IsBytes B ∧ B.length ≤ 140737488351232 := by
  rcases open_strings Tryz.underlying82 Tryz.underlying9 cellsT h with ⟨hcs, hx⟩ | ⟨a', len', cap', ss, hcs, _, hl, hm, hz, hx, hcell, hsz⟩
  · simp only [List.cons.injEq, and_true, Value.slice.injEq] at hcs
    obtain ⟨rfl, rfl, rfl⟩ := hcs
    exact ⟨[], rfl, .inl rfl, by omega, fun B hB => by cases hB⟩
  · simp only [List.cons.injEq, and_true, Value.slice.injEq] at hcs
    obtain ⟨rfl, rfl, rfl⟩ := hcs
    have hzl : ss.length = cap := by simpa using hz
    subst hx
    have htl : (ss.take len).length = len := by rw [List.length_take]; omega
    refine ⟨(ss.take len).map sN, by rw [List.length_map, htl], ?_, ?_, ?_⟩
    · by_cases h0 : len = 0
      · left
        subst h0
        rfl
      · right
        have hc0 := hcell 0 (by omega)
        obtain ⟨b, off, spot⟩ := a'
        have hspot : spot = none := by simpa [Addr.add] using World.cell?_spot hc0
        subst hspot
        refine ⟨b, off, rfl, fun i hi => ?_⟩
        rw [List.length_map, htl] at hi
        have hci := hcell i (by omega)
        rw [add_plain] at hci
        rw [hci]
        have hi2 : i < ss.length := by omega
        have hi3 : i < (ss.take len).length := by omega
        rw [List.getD_eq_getElem?_getD, List.getD_eq_getElem?_getD, List.getElem?_map, List.getElem?_eq_getElem hi3, List.getElem?_eq_getElem hi2, List.getElem_take]
        show some (Value.string ss[i]) = some (Value.string (strOfNums (sN ss[i])))
        rw [sN_str]
    · have hq := hw (((ss.take len).length + (ss.drop len).length) * 16) (by
        simp only [DataW.weights, Tryz.underlying82, bytesT, Go.ChangeShapes.strs, List.length_map]
        exact List.mem_cons_self)
      rw [htl, List.length_drop] at hq
      omega
    · intro B hB
      obtain ⟨S, hS, rfl⟩ := List.mem_map.1 hB
      refine ⟨sN_bytes S, ?_⟩
      rw [sN_len]
      refine hw _ ?_
      simp only [DataW.weights, Tryz.underlying82]
      refine List.mem_cons_of_mem _ (List.mem_append_left _ (mem_weightsAll (d := .lit (.string S.data.toList)) ?_ ?_))
      · exact List.mem_map.2 ⟨S, hS, rfl⟩
      · simp [DataW.weights]
end Go.Proofs.YtcindeechmpalaaGreat
namespace Go.Proofs.YtcindeechmpalaaGreat
open Go.ChangeShapes Go.WideShapes Go.ChangeAt Go.RowKit Go.Deep Go.Maps
set_option linter.unusedVariables false
theorem appTA {w : World} {ops : Array Oper} {rest : List Oper} {o : Oper} {act : Act} {Q : Exit → Act → World → Prop} (hgd : o.guard = none) (s x : Operand)
    (ho : o.op = .call { callee := .builtin .append, args := #[s, x], argTypes := #[82, 82] })
    (base : Nat) (v : Value) (l : List (List Int)) (hs : act.eval s = v) (hown : RowsS w base v l)
    (a : Option Addr) (m c : Nat) (y : List (List Int)) (hx : act.eval x = .slice a m c) (hm : y.length = m) (hin : InS w a y) (ha : a = none → m = 0 ∧ c = 0) (hN : l.length + m ≤ 5000000000000) (hbase : base ≤ w.heap.size)
    (h : ∀ v' w', RowsS w' base v' (l ++ y) → Below base w w' → wpList Tryz.prog ops Q rest (act.put o.dst v') w') : wpList Tryz.prog ops Q (o :: rest) act w := by
  cases a with
  | none =>
    obtain ⟨rfl, rfl⟩ := ha rfl
    obtain rfl : y = [] := List.length_eq_zero_iff.1 hm
    obtain ⟨i, hi, _⟩ := info_parts info9
    refine wpList_append_own_none hgd s x 82 ho base 9 i 1 Tryz.underlying82 hi _ _ _ hs hown hx ?_
    exact h _ _ (by rw [List.append_nil]; exact hown) (Below.refl _ _)
  | some x' => exact appTL hgd s x ho base v l hs hown x' m c y hx hm hin hN hbase fun v' w' h1 h2 _ => h v' w' h1 ((Below.refl _ _).grown h2 hbase fun k hk => (hown.own k hk).1)
theorem frO_code (recs : List (List Int)) (room : Nat) : (frO recs room).2 = 0 ∨ (frO recs room).2 = 3 ∨ (frO recs room).2 = 7 := by
  unfold frO
  split
  · exact .inr (.inl rfl)
  · split
    · exact .inr (.inr rfl)
    · exact .inl rfl
theorem reset_said {s : Ds} {l : Lg} (h : Gd s l) (hno : l.no < 1152921504606846976) (hW : l.W = []) (recs : List (List Int)) (hb : ∀ B ∈ recs, IsBytes B) :
    ∃ c l' s', l.reset s recs = (c, l', s') ∧ Gd s' l' ∧ s'.D.length = s.D.length ∧ l'.W = [] ∧ l'.m = l.m ∧ l'.no ≤ l.no + 1 ∧ ((c = 0 ∧ l'.R = recs) ∨ ((c = 3 ∨ c = 7) ∧ l'.R = l.R)) := by
  by_cases hf : (frO recs (64 * l.m)).2 = 0
  · obtain ⟨s', e, g, hD⟩ := gd_reset h hno hW recs hb hf
    exact ⟨0, _, s', e, g, hD, rfl, rfl, Nat.le_refl _, .inl ⟨rfl, rfl⟩⟩
  · refine ⟨(frO recs (64 * l.m)).2, l, s, ?_, h, rfl, hW, rfl, Nat.le_succ _, .inr ⟨(frO_code recs (64 * l.m)).resolve_left hf, rfl⟩⟩
    unfold Lg.reset
    rw [if_neg (by rw [h.lost]; simp), if_neg (by simpa using hW), if_pos hf]
theorem reset_state {s : Ds} {l : Lg} (hl : l.lost = false) (hW : l.W ≠ []) (recs : List (List Int)) : l.reset s recs = (11, l, s) := by
  unfold Lg.reset
  rw [if_neg (by rw [hl]; simp), if_pos hW]
theorem add_said {l : Lg} (hl : l.lost = false) (X : List Int) : ∃ c l', l.add X = (c, l') ∧ ((c ≠ 0 ∧ l' = l) ∨ (c = 0 ∧ l' = { l with W := l.W ++ [X] })) := by
  unfold Lg.add
  rw [if_neg (by rw [hl]; simp)]
  by_cases hf : (frO [X] l.room).2 = 0
  · rw [if_neg (by simpa using hf)]
    exact ⟨0, _, rfl, .inr ⟨rfl, rfl⟩⟩
  · rw [if_pos hf]
    exact ⟨_, _, rfl, .inl ⟨hf, rfl⟩⟩
/-- the old log, beside a new one -/
def Old (w' : World) (bd bl N : Nat) (l : Lg) : Prop := ∃ G, Lm w' G bl bd l ∧ l.Ok N
theorem Old.keep {w w' : World} {bd bl N : Nat} {l : Lg} (h : Old w bd bl N l) (hb : Below w.heap.size w w') : Old w' bd bl N l := by
  obtain ⟨G, h1, h2⟩ := h
  exact ⟨G, h1.keep hb, h2⟩
theorem old_records {wr : World} {bd bl N : Nat} {l : Lg} (h : Old wr bd bl N l) : Calls Tryz.prog 38 #[.pointer (some ⟨bl, 0, none⟩)] wr fun e w' => ∃ v, e = .returned v ∧ RowsS w' wr.heap.size v l.R ∧ Below wr.heap.size wr w' := by
  obtain ⟨G, h1, h2⟩ := h
  exact wrecords_is wr G bl bd N l h1 h2
theorem wl_open2 {w wr : World} {P : Nat → Prop} {bd bl N : Nat} {s s2 : Ds} {l l2 : Lg} (T : Wl w wr P bd bl N s l) (hN : N < 999998) (ho : s.opn = (0, some l2, s2)) : Calls Tryz.prog 37 #[.pointer (some ⟨bd, 0, none⟩)] wr fun e w' => ∃ bm, e = .returned (.tuple #[.pointer (some ⟨bm, 0, none⟩), .int .i64 0]) ∧ Wl w w' P bd bm (N + 2) s2 l2 ∧ Old w' bd bl N l ∧ ∀ k, P k → w'.heap[k]? = wr.heap[k]? := by
  obtain ⟨F, G, d, lm, x, f, g, p⟩ := T.ex
  have T2 : Wd w wr (fun k => P k ∨ G k) bd N s := ⟨⟨F, d, f, fun k hk => by
    rcases hk with hk | hk
    · exact ⟨(p k hk).1, (p k hk).2.1⟩
    · exact ⟨lm.lt k hk, x k hk⟩⟩, T.bel⟩
  refine (wd_open T2 hN).mono ?_
  rintro e w' ⟨hk, _, hor⟩
  rw [ho] at hor
  rcases hor with ⟨_, bm, l', hl, he, hw, _⟩ | ⟨h0, _⟩
  · obtain rfl := Option.some.inj hl
    exact ⟨bm, he, hw.less (fun k h => .inl h), ⟨G, lm.kept (fun k h => hk k (.inr h)), T.ok⟩, fun k h => hk k (.inl h)⟩
  · exact absurd rfl h0
end Go.Proofs.YtcindeechmpalaaGreat
namespace Go.Proofs.YtcindeechmpalaaGreat
open Go.ChangeShapes Go.WideShapes Go.ChangeAt Go.RowKit Go.Deep Go.Maps
set_option linter.unusedVariables false
/-- what is found behind a loss of power: the log l, or nothing that was ever written -/
def Inv (n : Nat) (t : Ds) (l : Lg) : Prop := Free t ∧ l.W = [] ∧ (Gd t l ∨ (l = lg0 n ∧ Bare n t))
def Aft (n : Nat) (t : Ds) (H N : List (List Int)) : Prop := ∃ l, Inv n t l ∧ (l.R = H ∨ l.R = N)
theorem bare_open {n : Nat} {t : Ds} (h6 : 6 ≤ n) (hn : n ≤ 4096) (h : Bare n t) (f : Free t) : ∃ s', t.opn = (0, some (lg0 n), s') := by
  obtain ⟨c, o, s', e, hor⟩ := open_cut h6 hn h
  rcases hor with ⟨rfl, rfl, g, hl⟩ | ⟨rfl, rfl, hu, _⟩
  · exact ⟨s', e⟩
  · exfalso
    have hl1 : t.D.length = n := by rw [h.D]; simp [noughts]
    obtain ⟨s2, k1, k2, k3⟩ := run_flush (A := [some (1, hdB 1 0 0)]) (s := t) f (by simp) (fun p hp => by
      have : p = (1, hdB 1 0 0) := by simpa using hp
      subst this
      exact ⟨by show 1 < _; omega, hdB_len _ _ _⟩)
    have k1' : t.run [some (1, hdB 1 0 0), none] = (0, s2) := k1
    have hz : ∀ i, i < n → t.cur i = List.replicate 64 0 := fun i hi => by
      rw [cur_nil h.W, bAt, h.D]
      unfold noughts
      rw [List.getElem?_replicate, if_pos hi]
      rfl
    rw [Ds.opn, if_neg (by rw [h.up]; simp), if_neg (by omega), Ds.fob, if_pos ⟨hz 0 (by omega), hz 1 (by omega)⟩, k1', if_pos rfl] at e
    cases (Prod.mk.inj e).1
theorem cr_len {s : Ds} (keep : List Int) (h : ∀ i, s.W i = []) : (s.cr keep).D = s.D := crD_nil keep s.D s.W h
theorem gu_cr {s : Ds} {l : Lg} (h : Gu s l) (keep : List Int) : Gd (s.cr keep) l := gd_same h.gd (free_cr _ _) (cr_len keep h.W)
theorem inv_gd {n : Nat} {t : Ds} {l : Lg} (h : Gd t l) : Inv n t { l with W := [] } := ⟨h.free, rfl, .inl (gd_drop h)⟩
theorem inv_open {n : Nat} {t : Ds} {l : Lg} (h6 : 6 ≤ n) (hn : n ≤ 4096) (h : Inv n t l) : ∃ s', t.opn = (0, some l, s') := by
  obtain ⟨f, hW, h | ⟨rfl, h⟩⟩ := h
  · have e := gd_open h
    rw [show ({ l with W := [] } : Lg) = l by rw [← hW]] at e
    exact ⟨t, e⟩
  · exact bare_open h6 hn h f
theorem inv_again {n : Nat} {t : Ds} {l : Lg} (h6 : 6 ≤ n) (hn : n ≤ 4096) (h : Inv n t l) (k : Int) (keep : List Int) : Inv n (((t.fs k).2.opn.2.2).cr keep) l := by
  obtain ⟨f, hW, h | ⟨rfl, h⟩⟩ := h
  · have g : Gu (t.fs k).2 l := Gu.made h f.up f.W rfl
    rw [gu_open g]
    exact ⟨free_cr _ _, hW, .inl (gu_cr g keep)⟩
  · have b : Bare n (t.fs k).2 := ⟨f.up, f.W, h.D⟩
    obtain ⟨c, o, s', e, hor⟩ := open_cut h6 hn b
    rw [e]
    rcases hor with ⟨rfl, rfl, g, hl'⟩ | ⟨rfl, rfl, hu, hk⟩
    · exact ⟨free_cr _ _, rfl, .inl (gu_cr g keep)⟩
    · rcases hk keep with m | m
      · exact ⟨free_cr _ _, rfl, .inr ⟨rfl, m⟩⟩
      · exact ⟨free_cr _ _, rfl, .inl m⟩
theorem op_len (s : Ds) (o : Option (Nat × List Int)) : (s.op o).2.D.length = s.D.length := by
  cases o with
  | none =>
    show s.fl.2.D.length = _
    unfold Ds.fl
    split
    · rfl
    · split
      · rfl
      · exact flD_len _ _
  | some p =>
    show (s.wr (p.1 : Int) p.2).2.D.length = _
    unfold Ds.wr
    split
    · rfl
    · split
      · rfl
      · split <;> rfl
theorem run_len : ∀ (A : List (Option (Nat × List Int))) (s : Ds), (s.run A).2.D.length = s.D.length
  | [], s => rfl
  | o :: r, s => by
    rw [Ds.run_cons]
    split
    · exact op_len s o
    · exact (run_len r _).trans (op_len s o)
theorem sync_len {s s' : Ds} {l l' : Lg} {c : Int} (e : l.sync s = (c, l', s')) : s'.D.length = s.D.length := by
  have h : (l.sync s).2.2 = s' := by rw [e]
  rw [← h]
  unfold Lg.sync
  split
  · rfl
  · split
    · rfl
    · split
      · rfl
      · split
        · exact run_len _ _
        · exact run_len _ _
theorem reset_len {s s' : Ds} {l l' : Lg} {c : Int} {recs : List (List Int)} (e : l.reset s recs = (c, l', s')) : s'.D.length = s.D.length := by
  have h : (l.reset s recs).2.2 = s' := by rw [e]
  rw [← h]
  unfold Lg.reset
  split
  · rfl
  · split
    · rfl
    · split
      · rfl
      · split
        · exact run_len _ _
        · exact run_len _ _
theorem sync_any {n : Nat} {s : Ds} {l : Lg} (h : Gu s l) (hno : l.no < 1152921504606846976) : ∃ c l' s', l.sync s = (c, l', s') ∧ ((c = 0 ∧ l'.R = l.R ++ l.W ∧ l'.W = [] ∧ Gu s' l' ∧ s'.D.length = s.D.length ∧ l'.no ≤ l.no + 1 ∧ l'.m = l.m) ∨ (c = 15 ∧ l' = { l with lost := true } ∧ s'.up = false ∧ s'.D.length = s.D.length ∧ ∀ keep, Aft n (s'.cr keep) l.R (l.R ++ l.W))) := by
  by_cases hW : l.W = []
  · refine ⟨0, l, s, ?_, .inl ⟨rfl, by rw [hW, List.append_nil], hW, h, rfl, Nat.le_succ _, rfl⟩⟩
    unfold Lg.sync
    rw [if_neg (by rw [h.gd.lost]; simp), if_pos hW]
  · obtain ⟨c, l', s', e, hor⟩ := sync_cut h hno hW
    refine ⟨c, l', s', e, ?_⟩
    rcases hor with ⟨rfl, rfl, g, hD⟩ | ⟨rfl, rfl, hu, hk⟩
    · exact .inl ⟨rfl, rfl, rfl, g, hD, Nat.le_refl _, rfl⟩
    · refine .inr ⟨rfl, rfl, hu, sync_len e, fun keep => ?_⟩
      rcases hk keep with m | m
      · exact ⟨_, inv_gd m, .inl rfl⟩
      · exact ⟨_, inv_gd m, .inr rfl⟩
theorem reset_any {n : Nat} {s : Ds} {l : Lg} (h : Gu s l) (hno : l.no < 1152921504606846976) (recs : List (List Int)) (hb : ∀ B ∈ recs, IsBytes B) : ∃ c l' s', l.reset s recs = (c, l', s') ∧ ((c = 0 ∧ l'.R = recs ∧ l'.W = [] ∧ Gu s' l' ∧ s'.D.length = s.D.length ∧ l'.no ≤ l.no + 1 ∧ l'.m = l.m) ∨ (c = 15 ∧ l' = { l with lost := true } ∧ s'.up = false ∧ s'.D.length = s.D.length ∧ ∀ keep, Aft n (s'.cr keep) l.R recs) ∨ ((c = 3 ∨ c = 7 ∨ c = 11) ∧ l' = l ∧ s' = s)) := by
  by_cases hW : l.W = []
  · by_cases hf : (frO recs (64 * l.m)).2 = 0
    · obtain ⟨c, l', s', e, hor⟩ := reset_cut h hno hW recs hb hf
      refine ⟨c, l', s', e, ?_⟩
      rcases hor with ⟨rfl, rfl, g, hD⟩ | ⟨rfl, rfl, hu, hk⟩
      · exact .inl ⟨rfl, rfl, rfl, g, hD, Nat.le_refl _, rfl⟩
      · refine .inr (.inl ⟨rfl, rfl, hu, reset_len e, fun keep => ?_⟩)
        rcases hk keep with m | m
        · exact ⟨_, inv_gd m, .inl rfl⟩
        · exact ⟨_, inv_gd m, .inr rfl⟩
    · refine ⟨(frO recs (64 * l.m)).2, l, s, ?_, .inr (.inr ⟨?_, rfl, rfl⟩)⟩
      · unfold Lg.reset
        rw [if_neg (by rw [h.gd.lost]; simp), if_neg (by simpa using hW), if_pos hf]
      · rcases frO_code recs (64 * l.m) with e | e | e
        · exact absurd e hf
        · exact .inl e
        · exact .inr (.inl e)
  · exact ⟨11, l, s, reset_state h.gd.lost hW recs, .inr (.inr ⟨.inr (.inr rfl), rfl, rfl⟩)⟩
theorem add_gu {s : Ds} {l : Lg} (h : Gu s l) (X : List Int) (hX : IsBytes X) : Gu s (l.add X).2 := ⟨h.up, h.W, gd_add h.gd X hX⟩
theorem sync_lost {l : Lg} {s : Ds} (h : l.lost = true) : l.sync s = (15, l, s) := by
  unfold Lg.sync
  rw [if_pos h]
theorem add_lost {l : Lg} (h : l.lost = true) (X : List Int) : l.add X = (15, l) := by
  unfold Lg.add
  rw [if_pos h]
/-- a write into what is neither the disk's nor the log's -/
theorem Wl.grown {w wr w' : World} {P : Nat → Prop} {bd bl N : Nat} {s : Ds} {l : Lg} {row : Option Nat} (h : Wl w wr P bd bl N s l) (hg : wr.grownBy w' row) (hr : ∀ k, row = some k → P k ∧ w.heap.size ≤ k) : Wl w w' (fun k => P k ∨ (wr.heap.size ≤ k ∧ k < w'.heap.size)) bd bl N s l := by
  obtain ⟨F, G, a1, a2, a3, a4, a5, a6⟩ := h.ex
  refine ⟨⟨F, G, a1.grown hg (fun k e hk => (a6 k (hr k e).1).2.1 hk), a2.kept (fun k hk => hg.block k (a2.lt k hk) (fun e => (a6 k (hr k e.symm).1).2.2 hk)), a3, a4, a5, fun k hk => ?_⟩, h.ok, h.bel.grown hg h.bel.size (fun k e => (hr k e).2)⟩
  rcases hk with hk | ⟨k1, k2⟩
  · have := a6 k hk
    exact ⟨Nat.lt_of_lt_of_le this.1 hg.size, this.2⟩
  · exact ⟨k2, fun e => by have := a1.lt k e; omega, fun e => by have := a2.lt k e; omega⟩
theorem Wd.grown {w wr w' : World} {P : Nat → Prop} {bd N : Nat} {s : Ds} {row : Option Nat} (h : Wd w wr P bd N s) (hg : wr.grownBy w' row) (hr : ∀ k, row = some k → P k ∧ w.heap.size ≤ k) : Wd w w' (fun k => P k ∨ (wr.heap.size ≤ k ∧ k < w'.heap.size)) bd N s := by
  obtain ⟨F, a1, a4, a6⟩ := h.ex
  refine ⟨⟨F, a1.grown hg (fun k e hk => (a6 k (hr k e).1).2 hk), a4, fun k hk => ?_⟩, h.bel.grown hg h.bel.size (fun k e => (hr k e).2)⟩
  rcases hk with hk | ⟨k1, k2⟩
  · have := a6 k hk
    exact ⟨Nat.lt_of_lt_of_le this.1 hg.size, this.2⟩
  · exact ⟨k2, fun e => by have := a1.lt k e; omega⟩
theorem Wd.less {w wr : World} {P Q : Nat → Prop} {bd N : Nat} {s : Ds} (h : Wd w wr P bd N s) (hQ : ∀ k, Q k → P k) : Wd w wr Q bd N s := by
  obtain ⟨F, a1, a4, a6⟩ := h.ex
  exact ⟨⟨F, a1, a4, fun k hk => a6 k (hQ k hk)⟩, h.bel⟩
theorem Wl.grown0 {w wr w' : World} {P : Nat → Prop} {bd bl N : Nat} {s : Ds} {l : Lg} {row : Option Nat} (h : Wl w wr P bd bl N s l) (hg : wr.grownBy w' row) (hr : ∀ k, row = some k → P k ∧ w.heap.size ≤ k) : Wl w w' P bd bl N s l := (h.grown hg hr).less fun _ hk => .inl hk
theorem Wd.grown0 {w wr w' : World} {P : Nat → Prop} {bd N : Nat} {s : Ds} {row : Option Nat} (h : Wd w wr P bd N s) (hg : wr.grownBy w' row) (hr : ∀ k, row = some k → P k ∧ w.heap.size ≤ k) : Wd w w' P bd N s := (h.grown hg hr).less fun _ hk => .inl hk
theorem Wd.keep0 {w wr w' : World} {P : Nat → Prop} {bd N : Nat} {s : Ds} (h : Wd w wr P bd N s) (hb : Below wr.heap.size wr w') : Wd w w' P bd N s := (h.keep hb).less fun _ hk => .inl hk
end Go.Proofs.YtcindeechmpalaaGreat
namespace Go.Proofs.YtcindeechmpalaaGreat
open Go.ChangeShapes Go.WideShapes Go.ChangeAt Go.RowKit Go.Deep Go.Maps
set_option linter.unusedVariables false
set_option linter.unusedSimpArgs false
/-- a database's two cells -/
def kO (bl mb : Nat) : Obj := .cells #[.pointer (some ⟨bl, 0, none⟩), .map (some mb)] 67
theorem ko_cells {w : World} {bb bl mb : Nat} (h : w.heap[bb]? = some (kO bl mb)) : w.cell? ⟨bb, 0, none⟩ = some (.pointer (some ⟨bl, 0, none⟩)) ∧ w.cell? ⟨bb, 1, none⟩ = some (.map (some mb)) := by
  unfold kO at h
  refine ⟨?_, ?_⟩ <;> simp [World.cell?, h]
/-- block bb is a database over the log in block bl, with the map in block mb -/
structure Kb (w wr : World) (P : Nat → Prop) (bb bd bl mb N C : Nat) (s : Ds) (l : Lg) (T : ByteArray → Option Pt) : Prop where
  wl : Wl w wr (fun k => P k ∨ k = bb ∨ k = mb) bd bl N s l
  box : wr.heap[bb]? = some (kO bl mb)
  mp : Pm wr mb C T
  ge : w.heap.size ≤ bb ∧ w.heap.size ≤ mb
  ne : bb ≠ mb ∧ ∀ k, P k → k ≠ bb ∧ k ≠ mb
theorem kNone_is (w : World) (bb bl mb : Nat) (h : w.heap[bb]? = some (kO bl mb)) : Calls Tryz.prog 42 #[.pointer (some ⟨bb, 0, none⟩)] w fun e w' => e = .returned (.bool false) ∧ w' = w := by
  obtain ⟨q0, q1⟩ := ko_cells h
  clear h
  go_enter Tryz.func42, Tryz.ntmps42
  go_wp2_with fail
  go_ret
  exact ⟨rfl, rfl⟩
set_option maxRecDepth 100000 in
set_option maxHeartbeats 4000000 in
theorem kGet_is (w : World) (bb bl mb N : Nat) (T : ByteArray → Option Pt) (h : w.heap[bb]? = some (kO bl mb)) (hm : Pm w mb N T) (key : ByteArray) (hk : key.size ≤ 140737488355328) :
    Calls Tryz.prog 29 #[.pointer (some ⟨bb, 0, none⟩), .string key] w fun e w' => e = .returned (.tuple #[.string ((T key).getD noP).v, .bool (T key).isSome]) ∧ Below w.heap.size w w' := by
  have KN : Hid (Calls Tryz.prog 42 #[.pointer (some ⟨bb, 0, none⟩)] w fun e w' => e = .returned (.bool false) ∧ w' = w) := kNone_is w bb bl mb h
  obtain ⟨q0, q1⟩ := ko_cells h
  have hlk := hm.look2 key hk
  generalize (T key).getD noP = x at *
  generalize (T key).isSome = b at *
  obtain ⟨xk, xv, xg⟩ := x
  unfold pA pC at hlk
  simp only at hlk ⊢
  have HB : Hid (Below w.heap.size w (w.alloc (.cells #[.string xk, .string xv, .bool xg] 45))) := below1 _ _
  clear h hm hk
  go_enter Tryz.func29, Tryz.ntmps29
  go_wp2_with fail
  refine KN.out.mono ?_
  rintro e w1 ⟨rfl, rfl⟩
  go_wp2_with fail
  go_ret2
  exact ⟨rfl, HB.out⟩
set_option maxHeartbeats 4000000 in
theorem kLen_is (w : World) (bb bl mb N : Nat) (T : ByteArray → Option Pt) (h : w.heap[bb]? = some (kO bl mb)) (hm : Pm w mb N T) (ks : List ByteArray) (hks : Ks T ks) :
    Calls Tryz.prog 31 #[.pointer (some ⟨bb, 0, none⟩)] w fun e w' => e = .returned (.int .i64 (ks.length : Int)) ∧ w' = w := by
  have KN : Hid (Calls Tryz.prog 42 #[.pointer (some ⟨bb, 0, none⟩)] w fun e w' => e = .returned (.bool false) ∧ w' = w) := kNone_is w bb bl mb h
  obtain ⟨q0, q1⟩ := ko_cells h
  obtain ⟨D, hD, hz⟩ := pm_exact hm ks hks
  have HD : Hid (w.ownsMap Tryz.prog 9 pR mb N D) := hD
  have HZ : Hid (Maps.size D = ks.length) := hz
  clear h hm hks hD hz
  generalize ks.length = q at *
  go_enter Tryz.func31, Tryz.ntmps31
  go_wp2_with fail
  refine KN.out.mono ?_
  rintro e w1 ⟨rfl, rfl⟩
  go_wp2_with (first | (at_len; (refine wpList_len_own w1 rfl (.tmp 8) 65 rfl 9 45 Tryz.underlying65 pR mb _ D rfl HD.out ?_; rw [HZ.out])))
  go_ret
  exact ⟨rfl, rfl⟩
end Go.Proofs.YtcindeechmpalaaGreat
namespace Go.Proofs.YtcindeechmpalaaGreat
open Go.ChangeShapes Go.WideShapes Go.ChangeAt Go.RowKit Go.Deep
set_option linter.unusedVariables false
set_option linter.unusedSimpArgs false
/-- each text is short enough for any machine -/
def FitP (l : List Pt) : Prop := ∀ x ∈ l, x.k.size ≤ 140737488355328 ∧ x.v.size ≤ 140737488355328
theorem list_empty {s : ByteArray} (h : s.size ≠ 0) : ¬ s.toList = [] := by
  intro e
  apply h
  rw [← sN_len s]
  unfold sN
  rw [e]
  rfl
set_option maxRecDepth 100000 in
set_option maxHeartbeats 4000000 in
theorem kWrong_is (x : Pt) (hx : x.k.size ≤ 140737488355328 ∧ x.v.size ≤ 140737488355328) (w : World) :
    Calls Tryz.prog 61 #[.agg #[.string x.k, .string x.v, .bool x.g]] w fun e w' => e = .returned (.bool (badP x)) ∧ Below w.heap.size w w' := by
  obtain ⟨k, v, g⟩ := x
  have hB : Hid (Below w.heap.size w (w.alloc (.cells #[.string k, .string v, .bool g] 45))) := below1 _ _
  have HB : Hid (badP ⟨k, v, g⟩ = (decide (k.size = 0) || decide (64 < k.size) || decide ((if g = true then 0 else 1024) < v.size))) := rfl
  generalize badP ⟨k, v, g⟩ = r at *
  obtain ⟨hk, hv⟩ := hx
  simp only at hk hv
  by_cases h0 : k.size = 0
  · obtain rfl := no_bytes h0
    have HR : Hid (r = true) := by show _ = _; rw [HB.out]; rfl
    clear HB h0
    cases g
    · go_enter Tryz.func61, Tryz.ntmps61
      go_wp2_with fail
      go_ret
      exact ⟨by rw [HR.out]; rfl, hB.out⟩
    · go_enter Tryz.func61, Tryz.ntmps61
      go_wp2_with fail
      go_ret
      exact ⟨by rw [HR.out]; rfl, hB.out⟩
  · have e0 := list_empty h0
    by_cases h1 : 64 < k.size
    · have HR : Hid (r = true) := by show _ = _; rw [HB.out]; simp [h1]
      have e1 : decide (64 < (k.size : Int)) = true := by rw [decide_eq_true_eq]; omega
      clear HB
      cases g
      · go_enter Tryz.func61, Tryz.ntmps61
        go_wp2_with fail
        go_ret
        exact ⟨by rw [HR.out]; rfl, hB.out⟩
      · go_enter Tryz.func61, Tryz.ntmps61
        go_wp2_with fail
        go_ret
        exact ⟨by rw [HR.out]; rfl, hB.out⟩
    · have e1 : decide (64 < (k.size : Int)) = false := by rw [decide_eq_false_iff_not]; omega
      cases g
      · have HR : Hid (r = decide (1024 < (v.size : Int))) := by
          show _ = _
          rw [HB.out, decide_eq_false h0, decide_eq_false h1]
          simp
          constructor <;> intro h <;> omega
        clear HB
        go_enter Tryz.func61, Tryz.ntmps61
        go_wp2_with fail
        go_ret
        exact ⟨by rw [HR.out]; simp [e0], hB.out⟩
      · have HR : Hid (r = decide (0 < (v.size : Int))) := by
          show _ = _
          rw [HB.out, decide_eq_false h0, decide_eq_false h1]
          simp
        clear HB
        go_enter Tryz.func61, Tryz.ntmps61
        go_wp2_with fail
        go_ret
        exact ⟨by rw [HR.out]; simp [e0], hB.out⟩
set_option maxRecDepth 100000 in
set_option maxHeartbeats 4000000 in
theorem kIndex_is (l : List Pt) (n : Nat) (hn : l.length = n) (hn62 : n ≤ 4611686018427387904) (hf : FitP l) (a : Option Addr) (c : Nat) (w : World) (hl : InP w a l) :
    Calls Tryz.prog 94 #[.slice a n c, .func (.func 61) #[] #[]] w fun e w' => ∃ r : Int, e = .returned (.int .i64 r) ∧ decide (0 ≤ r) = l.any badP ∧ Below w.heap.size w w' := by
  have HF : Hid (FitP l) := hf
  have HL : Hid (InP w a l) := hl
  have HN : Hid (l.length = n) := hn
  have KW : Hid (∀ x ∈ l, ∀ W, Calls Tryz.prog 61 #[.agg #[.string x.k, .string x.v, .bool x.g]] W fun e w' => e = .returned (.bool (badP x)) ∧ Below W.heap.size W w') := fun x hx W => kWrong_is x (HF.out x hx) W
  clear hf hl hn
  go_enter Tryz.func94, Tryz.ntmps94
  go_wp2_with fail
  go_loopg [8] n (fun gg iv wr => ∃ j : Nat, j ≤ n ∧ gg = n - j ∧ iv = .int .i64 (j : Int) ∧ Hid (∀ i x, i < j → l[i]? = some x → badP x = false) ∧ Hid (Below w.heap.size w wr))
  case atStart => exact ⟨0, Nat.zero_le _, rfl, rfl, fun i x hi => by omega, Below.refl _ _⟩
  case round =>
    obtain ⟨j, hj, rfl, rfl, HA, HW⟩ := hrel
    by_cases hlt : j < n
    · have j1 : decide ((j : Int) < (n : Int)) = true := by rw [decide_eq_true_eq]; omega
      obtain ⟨x, hx⟩ : ∃ x, l[j]? = some x := ⟨l[j]'(by rw [HN.out]; exact hlt), by simp [HN.out, hlt]⟩
      have HX : Hid (l[j]? = some x) := hx
      obtain ⟨b, off, rfl, hbw, hpc⟩ := HL.out.at hx
      obtain ⟨c0, c1, c2⟩ := hpc.kept (HW.out.block b hbw)
      have K := KW.out x (List.mem_of_getElem? hx)
      have KX : Hid (∀ W, Calls Tryz.prog 61 #[.agg #[.string x.k, .string x.v, .bool x.g]] W fun e w' => e = .returned (.bool (badP x)) ∧ Below W.heap.size W w') := K
      have ri : IntKind.i64.wrap ((j : Int) + 1) = (j : Int) + 1 := by rw [IntKind.wrap_i64]; omega
      clear hx hpc K
      obtain ⟨xk, xv, xg⟩ := x
      simp only at c0 c1 c2 KX
      cases hb : badP ⟨xk, xv, xg⟩ with
      | true =>
        rw [hb] at KX
        have HR : Hid (l.any badP = true) := List.any_eq_true.2 ⟨_, List.mem_of_getElem? HX.out, hb⟩
        clear hb
        go_wp2_with (go_at_call 61; refine (KX.out _).mono ?_; rintro e w1 ⟨rfl, hb1⟩; have HW1 : Hid (Below w.heap.size w w1) := HW.out.trans (hb1.mono HW.out.size); clear hb1)
        go_ret
        exact ⟨_, rfl, by rw [HR.out, decide_eq_true_eq]; omega, HW1.out⟩
      | false =>
        rw [hb] at KX
        have HA2 : Hid (∀ i x, i < j + 1 → l[i]? = some x → badP x = false) := fun i y hi hy => by
          rcases (by omega : i < j ∨ i = j) with h | h
          · exact HA.out i y h hy
          · subst h
            rw [HX.out] at hy
            cases hy
            exact hb
        clear hb
        go_wp2_with (go_at_call 61; refine (KX.out _).mono ?_; rintro e w1 ⟨rfl, hb1⟩; have HW1 : Hid (Below w.heap.size w w1) := HW.out.trans (hb1.mono HW.out.size); clear hb1)
        go_roundg (n - (j + 1))
        case measure => omega
        case rel => exact ⟨j + 1, by omega, rfl, by simp, HA2, HW1⟩
    · have j1 : decide ((j : Int) < (n : Int)) = false := by rw [decide_eq_false_iff_not]; omega
      have HR : Hid (l.any badP = false) := by
        show _ = _
        rw [List.any_eq_false]
        intro x hx
        obtain ⟨i, hi⟩ := List.getElem?_of_mem hx
        have h1 := (List.getElem?_eq_some_iff.1 hi).1
        have h2 := HN.out
        rw [HA.out i x (by omega) hi]
        simp
      go_wp2_with fail
      go_ret
      exact ⟨_, rfl, by rw [HR.out]; decide, HW.out⟩
set_option maxHeartbeats 4000000 in
theorem kContains_is (l : List Pt) (n : Nat) (hn : l.length = n) (hn62 : n ≤ 4611686018427387904) (hf : FitP l) (a : Option Addr) (c : Nat) (w : World) (hl : InP w a l) :
    Calls Tryz.prog 60 #[.slice a n c, .func (.func 61) #[] #[]] w fun e w' => e = .returned (.bool (l.any badP)) ∧ Below w.heap.size w w' := by
  have K : Hid (Calls Tryz.prog 94 #[.slice a n c, .func (.func 61) #[] #[]] w fun e w' => ∃ r : Int, e = .returned (.int .i64 r) ∧ decide (0 ≤ r) = l.any badP ∧ Below w.heap.size w w') := kIndex_is l n hn hn62 hf a c w hl
  generalize l.any badP = b at *
  clear hn hf hl
  go_enter Tryz.func60, Tryz.ntmps60
  go_wp2_with fail
  refine K.out.mono ?_
  rintro e w1 ⟨r, rfl, hr, hb1⟩
  have HB : Hid (Below w.heap.size w w1) := hb1
  have HR : Hid (decide (0 ≤ r) = b) := hr
  clear hb1 hr
  go_wp2_with fail
  go_ret
  exact ⟨by rw [← HR.out]; rfl, HB.out⟩
end Go.Proofs.YtcindeechmpalaaGreat
namespace Go.Proofs.YtcindeechmpalaaGreat
open Go.ChangeShapes Go.WideShapes Go.ChangeAt Go.RowKit Go.Deep
set_option linter.unusedVariables false
set_option linter.unusedSimpArgs false
theorem var_owned (w : World) (n : Nat) (h9 : n ≤ 9) (v : Int) : Owned (w.alloc (.cells ((varL n v).map (Value.int .u8)).toArray 5)) w.heap.size (.slice (some ⟨w.heap.size, 0, none⟩) (n + 1) (n + 1)) (varL n v) := by
  have h := varL_length n v
  refine ⟨by simp [h], .inr ⟨w.heap.size, n + 1, _, by rw [h], Nat.le_refl _, heap_alloc_new w _, by rw [h]; exact Nat.le_refl _, by simp only [maxLen]; omega, by simp [h], ?_⟩⟩
  rw [h, Nat.mul_one]
  exact List.take_of_length_le (by simp [h])
set_option maxRecDepth 100000 in
set_option maxHeartbeats 4000000 in
theorem kEncode_is (l : List Pt) (n : Nat) (hn : l.length = n) (hn62 : n ≤ 4611686018427387904) (hf : FitP l) (a : Option Addr) (c : Nat) (w : World) (hl : InP w a l) :
    Calls Tryz.prog 24 #[.slice a n c] w fun e w' => e = .returned (.tuple #[.string (strOfNums (encA l).2), .int .i64 (encA l).1]) ∧ Below w.heap.size w w' := by
  have KC : Hid (Calls Tryz.prog 60 #[.slice a n c, .func (.func 61) #[] #[]] w fun e w' => e = .returned (.bool (l.any badP)) ∧ Below w.heap.size w w') := kContains_is l n hn hn62 hf a c w hl
  have HL : Hid (InP w a l) := hl
  have HN : Hid (l.length = n) := hn
  have HEA : Hid (encA l = if l = [] ∨ l.any badP = true then (2, []) else if 64 < l.length then (3, []) else if 4096 < (eB l).length then (3, []) else (0, eB l)) := rfl
  generalize encA l = R at *
  clear hf hl
  by_cases h0 : n = 0
  · subst h0
    have HR : Hid (R = (2, [])) := by show _ = _; rw [HEA.out, if_pos (.inl (List.length_eq_zero_iff.1 hn))]
    clear HEA hn
    go_enter Tryz.func24, Tryz.ntmps24
    go_wp2_with fail
    go_ret2
    exact ⟨by rw [HR.out]; rfl, Below.refl _ _⟩
  · have hne : ¬ l = [] := fun e => by rw [e] at hn; exact h0 hn.symm
    have e0 : ((n : Int) == 0) = false := by rw [beq_eq_false_iff_ne]; omega
    have e0' : ¬ (n : Int) = 0 := by omega
    cases hb : l.any badP with
    | true =>
      rw [hb] at KC
      have HR : Hid (R = (2, [])) := by show _ = _; rw [HEA.out, if_pos (.inr hb)]
      clear HEA hn hne hb
      go_enter Tryz.func24, Tryz.ntmps24
      go_wp2_with fail
      refine KC.out.mono ?_
      rintro e w1 ⟨rfl, hb1⟩
      have HW : Hid (Below w.heap.size w w1) := hb1
      clear hb1
      go_wp2_with fail
      go_ret2
      exact ⟨by rw [HR.out]; rfl, HW.out⟩
    | false =>
      rw [hb] at KC
      have HO : Hid (∀ x ∈ l, badP x = false) := fun x hx => by
        cases hq : badP x with
        | false => rfl
        | true => rw [List.any_eq_true.2 ⟨x, hx, hq⟩] at hb; cases hb
      by_cases h64 : 64 < n
      · have e1 : decide (64 < (n : Int)) = true := by rw [decide_eq_true_eq]; omega
        have HR : Hid (R = (3, [])) := by show _ = _; rw [HEA.out, if_neg (by rw [hb]; simp [hne]), if_pos (by rw [hn]; exact h64)]
        clear HEA hn hne hb
        go_enter Tryz.func24, Tryz.ntmps24
        go_wp2_with fail
        refine KC.out.mono ?_
        rintro e w1 ⟨rfl, hb1⟩
        have HW : Hid (Below w.heap.size w w1) := hb1
        clear hb1
        go_wp2_with fail
        go_ret2
        exact ⟨by rw [HR.out]; rfl, HW.out⟩
      · have e1 : decide (64 < (n : Int)) = false := by rw [decide_eq_false_iff_not]; omega
        have HR : Hid (R = if 4096 < (eB l).length then (3, []) else (0, eB l)) := by show _ = _; rw [HEA.out, if_neg (by rw [hb]; simp [hne]), if_neg (by rw [hn]; exact h64)]
        clear HEA hn hne hb
        go_enter Tryz.func24, Tryz.ntmps24
        go_wp2_with fail
        refine KC.out.mono ?_
        rintro e w1 ⟨rfl, hb1⟩
        have HW : Hid (Below w.heap.size w w1) := hb1
        clear hb1
        go_wp2_with fail
        refine (var_any (n : Nat) (by omega) (by omega) _).mono ?_
        rintro e w2 ⟨q2, hsev, rfl, hw⟩
        have HV : Hid (varL q2 (n : Nat) = vk n) := vk_sev _ _ (by omega) hsev
        obtain ⟨h, hh⟩ : ∃ h, h = w.heap.size := ⟨_, rfl⟩
        have HH : Hid (h = w.heap.size) := hh
        have B2 : Hid (Below h w w2) := by rw [hh, hw]; exact HW.out.alloc HW.out.size _
        have O2 : Hid (Owned w2 h (.slice (some ⟨w1.heap.size, 0, none⟩) (q2 + 1) (q2 + 1)) (vk n)) := by
          rw [← HV.out, hw]
          exact (var_owned w1 q2 hsev.1 (n : Nat)).base (by rw [hh]; exact HW.out.size)
        have hvl : (vk n).length = q2 + 1 := by rw [← HV.out, varL_length]
        clear hw hsev HV HW hh
        go_wp2_with fail
        go_loopg [4, 23] n (fun g v i wr => ∃ (j : Nat), j ≤ n ∧ g = n - j ∧ i = .int .i64 (j : Int) ∧ Hid (Owned wr h v (vk n ++ csB (l.take j))) ∧ Hid (Below h w wr))
        case atStart => exact ⟨0, Nat.zero_le _, rfl, rfl, by simp [csB]; exact O2.out, B2⟩
        case round =>
          obtain ⟨j, hj, rfl, rfl, OA, HW⟩ := hrel
          clear O2 B2
          have hhr : h ≤ wr.heap.size := by rw [HH.out]; exact HW.out.size
          by_cases hlt : j < n
          · have j1 : decide ((j : Int) < (n : Int)) = true := by rw [decide_eq_true_eq]; omega
            obtain ⟨x, hx⟩ : ∃ x, l[j]? = some x := ⟨l[j]'(by rw [HN.out]; exact hlt), by simp [HN.out, hlt]⟩
            obtain ⟨b, off, rfl, hbw, hpc⟩ := HL.out.at hx
            obtain ⟨c0, c1, c2⟩ := hpc.kept (HW.out.block b (by rw [HH.out]; exact hbw))
            have HX : Hid (badP x = false) := HO.out x (List.mem_of_getElem? hx)
            have hAl : (vk n ++ csB (l.take j)).length ≤ 800000 := by
              have q1 := csB_len (l := l.take j) (fun y hy => HO.out y (List.mem_of_mem_take hy))
              have q2 := (vk_len n).2
              have q3 : (l.take j).length ≤ j := by rw [List.length_take]; omega
              rw [List.length_append]
              omega
            have HAE : Hid (vk n ++ csB (l.take (j + 1)) = vk n ++ csB (l.take j) ++ cB x) := by show _ = _; rw [csB_take hx, List.append_assoc]
            clear hx hpc
            generalize vk n ++ csB (l.take j) = A at *
            have ri : IntKind.i64.wrap ((j : Int) + 1) = (j : Int) + 1 := by rw [IntKind.wrap_i64]; omega
            obtain ⟨W1, hW1⟩ : ∃ W1, wr.alloc (.cells #[.string x.k, .string x.v, .bool x.g] 45) = W1 := ⟨_, rfl⟩
            have W1E : Hid (wr.alloc (.cells #[.string x.k, .string x.v, .bool x.g] 45) = W1) := hW1
            have O1 : Hid (Owned W1 h u4 A) := by rw [← hW1]; exact OA.out.alloc _
            have B1 : Hid (Below h w W1) := by rw [← hW1]; exact HW.out.alloc hhr _
            have hb1 : h ≤ W1.heap.size := by rw [← hW1]; simp; omega
            have KX : Hid (Calls Tryz.prog 63 #[u4, .agg #[.string x.k, .string x.v, .bool x.g]] W1 fun e w' => ∃ v', e = .returned v' ∧ Owned w' h v' (A ++ cB x) ∧ Gr W1 w' u4.ownBlock v'.ownBlock) := kChange_is x HX.out h u4 A W1 O1.out (by omega) hb1
            have HOB : Hid (∀ k, u4.ownBlock = some k → h ≤ k) := fun k hk => (owned_own OA.out k hk).1
            clear hW1
            obtain ⟨xk, xv, xg⟩ := x
            simp only at c0 c1 c2 KX W1E
            go_wp2_with fail
            rw [show World.alloc wr _ = W1 from W1E.out]
            refine KX.out.mono ?_
            rintro e w5 ⟨v5, rfl, ho5, hg5⟩
            have O5 : Hid (Owned w5 h v5 (vk n ++ csB (l.take (j + 1)))) := by rw [HAE.out]; exact ho5
            have B5 : Hid (Below h w w5) := B1.out.trans (hg5.below h hb1 HOB.out)
            clear ho5 hg5
            go_wp2_with fail
            go_roundg (n - (j + 1))
            case measure => omega
            case rel => exact ⟨j + 1, by omega, rfl, by simp, O5, B5⟩
          · have j1 : decide ((j : Int) < (n : Int)) = false := by rw [decide_eq_false_iff_not]; omega
            have HT : Hid (vk n ++ csB (l.take j) = eB l) := by
              show _ = _
              have h1 := HN.out
              rw [List.take_of_length_le (by omega)]
              unfold eB
              rw [h1]
            rw [HT.out] at OA
            obtain ⟨a4, c4, rfl, hq4, ho4, _⟩ := OA.out.slice
            have hlen : (eB l).length ≤ 140737488355328 := by
              have q1 := csB_len HO.out
              have q2 := (vk_len l.length).2
              have h1 := HN.out
              unfold eB
              rw [List.length_append]
              omega
            have cv : (convert 86 9 (.slice a4 (eB l).length c4)).run Tryz.prog wr = .ok (.string (strOfNums (eB l))) wr := conv_str (w := wr) ho4 _ _ rfl
            have HB : Hid (Below w.heap.size w wr) := by rw [← HH.out]; exact HW.out
            by_cases h4 : 4096 < (eB l).length
            · have e4 : decide (4096 < ((eB l).length : Int)) = true := by rw [decide_eq_true_eq]; omega
              have HR2 : Hid (R = (3, [])) := by show _ = _; rw [HR.out, if_pos h4]
              generalize (eB l).length = q at *
              generalize strOfNums (eB l) = st at *
              go_wp2_with fail
              go_ret2
              exact ⟨by rw [HR2.out]; rfl, HB.out⟩
            · have e4 : decide (4096 < ((eB l).length : Int)) = false := by rw [decide_eq_false_iff_not]; omega
              have HR2 : Hid (R = (0, eB l)) := by show _ = _; rw [HR.out, if_neg h4]
              have HST : Hid (R.1 = 0 ∧ strOfNums R.2 = strOfNums (eB l)) := by rw [HR2.out]; exact ⟨rfl, rfl⟩
              generalize (eB l).length = q at *
              generalize strOfNums (eB l) = st at *
              go_wp2_with fail
              go_ret2
              exact ⟨by rw [HST.out.1, HST.out.2]; rfl, HB.out⟩
end Go.Proofs.YtcindeechmpalaaGreat
namespace Go.Proofs.YtcindeechmpalaaGreat
set_option linter.unusedVariables false
theorem rL_snoc : ∀ (n : Nat) (B : List Int), rL (n + 1) B = ((rL n B).1 ++ [(rX (rL n B).2).1], (rX (rL n B).2).2)
  | 0, B => rfl
  | n + 1, B => by
    have ih := rL_snoc n (rX B).2
    rw [rL, ih]
    rfl
theorem rL_bytes : ∀ (n : Nat) (B : List Int), IsBytes B → IsBytes (rL n B).2 ∧ (rL n B).2.length ≤ B.length
  | 0, B, h => ⟨h, Nat.le_refl _⟩
  | n + 1, B, h => by
    have ih := rL_bytes n (rX B).2 (rX_bytes h)
    exact ⟨ih.1, Nat.le_trans ih.2 (rX_len B)⟩
theorem rX_fit (B : List Int) (m : Nat) (h : B.length ≤ m) : (rX B).1.k.size ≤ m ∧ (rX B).1.v.size ≤ m := by
  have h1 := rN_len B
  have h2 := rT_len (rN B).2
  have h3 := rT_len (rT (rN B).2).2
  unfold rX
  split
  · refine ⟨?_, ?_⟩
    · show (strOfNums (rT (rN B).2).1).size ≤ m
      rw [strOfNums_size]; omega
    · show (0 : Nat) ≤ m
      omega
  · refine ⟨?_, ?_⟩
    · show (strOfNums (rT (rN B).2).1).size ≤ m
      rw [strOfNums_size]; omega
    · show (strOfNums (rT (rT (rN B).2).2).1).size ≤ m
      rw [strOfNums_size]; omega
theorem rL_fit : ∀ (n : Nat) (B : List Int) (m : Nat), B.length ≤ m → ∀ x ∈ (rL n B).1, x.k.size ≤ m ∧ x.v.size ≤ m
  | 0, B, m, _, x, hx => by cases hx
  | n + 1, B, m, h, x, hx => by
    rcases List.mem_cons.1 hx with e | e
    · rw [e]; exact rX_fit B m h
    · exact rL_fit n (rX B).2 m (Nat.le_trans (rX_len B) h) x e
theorem rL_len : ∀ (n : Nat) (B : List Int), (rL n B).1.length = n
  | 0, B => rfl
  | n + 1, B => by
    have := rL_len n (rX B).2
    show ((rX B).1 :: (rL n (rX B).2).1).length = n + 1
    rw [List.length_cons, this]
theorem rdB_len (B : List Int) : (rdB B).length ≤ 64 := by unfold rdB; rw [rL_len]; omega
theorem rdB_fit (B : List Int) : ∀ x ∈ rdB B, x.k.size ≤ B.length ∧ x.v.size ≤ B.length := rL_fit _ _ _ (rN_len B)
theorem rN_fits {B : List Int} (hB : IsBytes B) : (rN B).1 ≤ 18446744073709551615 := by
  have := rv_fits hB
  unfold rN
  show (rv B 0 0).1.toNat ≤ _
  omega
theorem encA_code (l : List Pt) : (encA l).1 = 0 ∨ (encA l).1 = 2 ∨ (encA l).1 = 3 := by
  unfold encA
  split
  · exact .inr (.inl rfl)
  · split
    · exact .inr (.inr rfl)
    · split
      · exact .inr (.inr rfl)
      · exact .inl rfl
theorem encA_bad {l : List Pt} (h : (encA l).1 ≠ 0) : (encA l).2 = [] := by
  unfold encA at h ⊢
  split
  · rfl
  · split
    · rfl
    · split
      · rfl
      · rename_i h1 h2 h3
        rw [if_neg h1, if_neg h2, if_neg h3] at h
        exact absurd rfl h
theorem dec_no {B : List Int} (h : decA B = none) : encA (rdB B) ≠ (0, B) := by
  unfold decA at h
  split at h
  · cases h
  · assumption
theorem decA_rd {B : List Int} {l : List Pt} (h : decA B = some l) : l = rdB B ∧ encA (rdB B) = (0, B) := by
  unfold decA at h
  split at h
  · rename_i e
    cases h
    exact ⟨rfl, e⟩
  · cases h
end Go.Proofs.YtcindeechmpalaaGreat
namespace Go.Proofs.YtcindeechmpalaaGreat
open Go.ChangeShapes Go.WideShapes Go.ChangeAt Go.RowKit Go.Deep
set_option linter.unusedVariables false
set_option linter.unusedSimpArgs false
/-- the variable in block br has these bytes, which lie in block g -/
def RdA (w : World) (br g : Nat) (B : List Int) : Prop := ∃ off c, w.heap[br]? = some (.cells #[.slice (some ⟨g, off, none⟩) B.length c] 86) ∧ Holds w (some ⟨g, off, none⟩) B ∧ B.length ≤ c ∧ c ≤ 9223372036854775807
theorem one_cell {w : World} {b : Nat} {v : Value} {t : TypeId} (h : w.heap[b]? = some (.cells #[v] t)) : w.cell? ⟨b, 0, none⟩ = some v ∧ w.frozen? ⟨b, 0, none⟩ = false := by
  refine ⟨by rw [cell_of_row w b 0 _ _ (0, 0) h]; rfl, by rw [World.frozen?, h]; simp⟩
theorem one_set {w : World} {b : Nat} {v u : Value} {t : TypeId} (h : w.heap[b]? = some (.cells #[v] t)) : (w.setCell ⟨b, 0, none⟩ u).heap[b]? = some (.cells #[u] t) := by
  rw [setCell_eq_setRow w b 0 #[v] t _ u h]
  exact setRow_heap _ _ _ _ _ _ h
theorem set_offK (w : World) (g i k : Nat) (v : Value) (hk : k ≠ g) : (w.setCell ⟨g, i, none⟩ v).heap[k]? = w.heap[k]? := Below.heap_setCell _ _ _ _ hk
theorem holds_drop {w : World} {g off k : Nat} {B : List Int} (h : Holds w (some ⟨g, off, none⟩) B) (hk : k ≤ B.length) : Holds w (some ⟨g, off + k, none⟩) (B.drop k) := by
  rcases h with h | ⟨b, o, e, hc⟩
  · exact .inl (by rw [h]; simp)
  · cases e
    refine .inr ⟨g, off + k, rfl, fun i hi => ?_⟩
    rw [List.length_drop] at hi
    rw [Nat.add_assoc, hc (k + i) (by omega)]
    simp [List.getD_eq_getElem?_getD, List.getElem?_drop]
theorem holds_block {w w' : World} {g off : Nat} {B : List Int} (h : Holds w (some ⟨g, off, none⟩) B) (hb : w'.heap[g]? = w.heap[g]?) : Holds w' (some ⟨g, off, none⟩) B := by
  rcases h with h | ⟨b, o, e, hc⟩
  · exact .inl h
  · cases e
    exact .inr ⟨g, off, rfl, fun i hi => (World.cell?_of_block (a := ⟨g, off + i, none⟩) hb).trans (hc i hi)⟩
set_option maxRecDepth 100000 in
set_option maxHeartbeats 4000000 in
theorem kNumber_is (w : World) (br g : Nat) (B : List Int) (h : RdA w br g B) (hne : g ≠ br) (hB : IsBytes B) (hl : B.length ≤ 140737488355328) :
    Calls Tryz.prog 121 #[.pointer (some ⟨br, 0, none⟩)] w fun e w' => e = .returned (.int .u64 ((rN B).1 : Nat)) ∧ RdA w' br g (rN B).2 ∧ w.grownBy w' (some br) ∧ w'.heap.size = w.heap.size := by
  obtain ⟨off, c, hbr, hh, hc1, hc2⟩ := h
  obtain ⟨hv0, hv1, hn0, hn1⟩ := rv_fits hB
  obtain ⟨v, hv⟩ : ∃ v : Nat, (rv B 0 0).1 = v := ⟨(rv B 0 0).1.toNat, by omega⟩
  obtain ⟨k, hk⟩ : ∃ k : Nat, (rv B 0 0).2.1 = k := ⟨(rv B 0 0).2.1.toNat, by omega⟩
  have KR : Hid (Calls Tryz.prog 122 #[.slice (some ⟨g, off, none⟩) B.length c] w fun e w' => e = rvEnd (rv B 0 0) ∧ w' = w) := readVar_all B B.length (some ⟨g, off, none⟩) c rfl hl hB w hh
  have HN : Hid (rN B = (v, B.drop k)) := by
    show _ = _
    unfold rN
    rw [hv, hk]
    simp
  obtain ⟨e3, he3⟩ : ∃ e3, (rv B 0 0).2.2 = e3 := ⟨_, rfl⟩
  have HE : Hid (rvEnd (rv B 0 0) = .returned (.tuple #[.int .u64 (v : Int), .int .i64 (k : Int), .int .i64 e3])) := by
    show _ = _
    unfold rvEnd
    rw [hv, hk, he3]
  have hkl : k ≤ B.length := by omega
  have HD : Hid (∀ c', Holds (w.setCell ⟨br, 0, none⟩ (.slice (some ⟨g, off + k, none⟩) (B.length - k) c')) (some ⟨g, off + k, none⟩) (B.drop k)) := fun c' => holds_block (holds_drop hh hkl) (set_offK _ _ _ _ _ hne)
  have HBR : Hid (w.heap[br]? = some (.cells #[.slice (some ⟨g, off, none⟩) B.length c] 86)) := hbr
  obtain ⟨q0, q1⟩ := one_cell hbr
  have HLD : Hid ((B.drop k).length = B.length - k) := List.length_drop
  rw [HN.out]
  clear hh hv hk he3 hB hbr hv0 hv1 hn0 hn1 HN
  generalize rv B 0 0 = r at *
  generalize hbl : B.length = n at *
  have HNL : Hid (B.length = n) := hbl
  clear hbl
  go_enter Tryz.func121, Tryz.ntmps121
  go_wp2_with fail
  refine KR.out.mono ?_
  rintro e w1 ⟨he, rfl⟩
  rw [HE.out] at he
  subst he
  by_cases hck : c = k
  · have hnk : n - k = 0 := by omega
    have hB0 : B.drop k = [] := List.length_eq_zero_iff.1 (by rw [HLD.out]; exact hnk)
    have HB0 : Hid (B.drop k = []) := hB0
    clear hB0
    subst hck
    go_wp2_with fail
    go_ret
    exact ⟨rfl, by rw [HB0.out]; exact ⟨off, 0, one_set HBR.out, .inl rfl, Nat.le_refl _, by omega⟩, grown_setCell _ _ _ _, by simp⟩
  · go_wp2_with fail
    go_ret
    refine ⟨rfl, ⟨off + k, c - k, ?_, HD.out _, by rw [HLD.out]; omega, by omega⟩, grown_setCell _ _ _ _, by simp⟩
    rw [HLD.out]
    exact one_set HBR.out
set_option maxRecDepth 100000 in
set_option maxHeartbeats 4000000 in
theorem kTake_is (w : World) (bn br g : Nat) (B : List Int) (h : RdA w br g B) (hfn : w.heap[bn]? = some (.cells #[.func (.func 121) #[] #[.pointer (some ⟨br, 0, none⟩)]] 152)) (h1 : bn ≠ br) (h2 : g ≠ br) (h3 : bn ≠ g) (hB : IsBytes B) (hl : B.length ≤ 140737488355328) :
    Calls Tryz.prog 123 #[.pointer (some ⟨bn, 0, none⟩), .pointer (some ⟨br, 0, none⟩)] w fun e w' => e = .returned (.string (strOfNums (rT B).1)) ∧ RdA w' br g (rT B).2 ∧ w.grownBy w' (some br) ∧ w'.heap.size = w.heap.size := by
  have KN : Hid (Calls Tryz.prog 121 #[.pointer (some ⟨br, 0, none⟩)] w fun e w' => e = .returned (.int .u64 ((rN B).1 : Nat)) ∧ RdA w' br g (rN B).2 ∧ w.grownBy w' (some br) ∧ w'.heap.size = w.heap.size) := kNumber_is w br g B h h2 hB hl
  have HT : Hid ((rT B).1 = (rN B).2.take (rN B).1 ∧ (rT B).2 = (rN B).2.drop (rN B).1) := ⟨rfl, rfl⟩
  have hml := rN_len B
  have hvb := rN_fits hB
  have HNE : Hid (bn ≠ br ∧ g ≠ br ∧ bn ≠ g) := ⟨h1, h2, h3⟩
  generalize hv : (rN B).1 = v at *
  generalize hM : (rN B).2 = M at *
  obtain ⟨q, hq⟩ : ∃ q, min v M.length = q := ⟨_, rfl⟩
  have HTD : Hid (M.take v = M.take q ∧ M.drop v = M.drop q) := by
    rcases Nat.le_total v M.length with e | e
    · have : v = q := by omega
      rw [this]; exact ⟨rfl, rfl⟩
    · have : q = M.length := by omega
      rw [this, List.take_of_length_le e, List.take_of_length_le (Nat.le_refl _), List.drop_of_length_le e, List.drop_of_length_le (Nat.le_refl _)]
      exact ⟨rfl, rfl⟩
  rw [HT.out.1, HT.out.2, HTD.out.1, HTD.out.2]
  obtain ⟨st, hst⟩ : ∃ st, strOfNums (M.take q) = st := ⟨_, rfl⟩
  have HST : Hid (strOfNums (M.take q) = st) := hst
  rw [hst]
  have hqM : q ≤ M.length := by omega
  have wM : IntKind.u64.wrap (M.length : Int) = (M.length : Int) := by rw [IntKind.wrap_u64]; omega
  have mM : min (v : Int) (M.length : Int) = (q : Int) := by omega
  obtain ⟨qf, _⟩ := one_cell hfn
  clear hst HT HTD h hfn hv hM h1 h2 h3 hB hq
  go_enter Tryz.func123, Tryz.ntmps123
  go_wp2_with fail
  refine KN.out.mono ?_
  rintro e u1 ⟨rfl, hr1, hg1, hz1⟩
  obtain ⟨o3, c3, hb3, hh3, hc4, hc5⟩ := hr1
  obtain ⟨q3, z3⟩ := one_cell hb3
  have HB3 : Hid (u1.heap[br]? = some (.cells #[.slice (some ⟨g, o3, none⟩) M.length c3] 86)) := hb3
  have cv : (convert 86 9 (.slice (some ⟨g, o3, none⟩) q c3)).run Tryz.prog u1 = .ok (.string st) u1 := by
    rw [← HST.out]
    exact conv_str (w := u1) (hh3.take q) _ _ (by rw [List.length_take]; omega)
  have HD : Hid (∀ c', Holds (u1.setCell ⟨br, 0, none⟩ (.slice (some ⟨g, o3 + q, none⟩) (M.length - q) c')) (some ⟨g, o3 + q, none⟩) (M.drop q)) := fun c' => holds_block (holds_drop hh3 hqM) (set_offK _ _ _ _ _ HNE.out.2.1)
  have HLD : Hid ((M.drop q).length = M.length - q) := List.length_drop
  have HG : Hid (w.grownBy u1 (some br) ∧ u1.heap.size = w.heap.size) := ⟨hg1, hz1⟩
  have HGS : Hid (∀ x, w.grownBy (u1.setCell ⟨br, 0, none⟩ x) (some br) ∧ (u1.setCell ⟨br, 0, none⟩ x).heap.size = w.heap.size) := fun x => by
    have a1 := HG.out.1
    have a2 := grown_setCell u1 br 0 x
    exact ⟨⟨a2.os.trans a1.os, a2.tape.trans a1.tape, a2.output.trans a1.output, Nat.le_trans a1.size a2.size, fun k hk hr => (a2.block k (by rw [HG.out.2]; exact hk) hr).trans (a1.block k hk hr)⟩, (by simp; exact HG.out.2)⟩
  clear hb3 hh3 HG hg1 hz1 qf
  generalize hml2 : M.length = m at *
  have HML : Hid (M.length = m) := hml2
  clear hml2
  by_cases hck : c3 = q
  · have hnk : m - q = 0 := by omega
    have HB0 : Hid (M.drop q = []) := List.length_eq_zero_iff.1 (by rw [HLD.out]; exact hnk)
    subst hck
    go_wp2_with fail
    go_ret
    exact ⟨rfl, by rw [HB0.out]; exact ⟨o3, 0, one_set HB3.out, .inl rfl, Nat.le_refl _, by omega⟩, HGS.out _⟩
  · go_wp2_with fail
    go_ret
    refine ⟨rfl, ⟨o3 + q, c3 - q, ?_, HD.out _, by rw [HLD.out]; omega, by omega⟩, HGS.out _⟩
    rw [HLD.out]
    exact one_set HB3.out
end Go.Proofs.YtcindeechmpalaaGreat
namespace Go.Proofs.YtcindeechmpalaaGreat
open Go.ChangeShapes Go.WideShapes Go.ChangeAt Go.RowKit Go.Deep
set_option linter.unusedVariables false
set_option linter.unusedSimpArgs false
theorem conv_bytes3 (L : List Int) (hb : IsBytes L) (n : Nat) (hn : L.length = n) (hl : n ≤ 140737488355328) (w : World) : ∃ c w', (convert 9 86 (.string (strOfNums L))).run Tryz.prog w = .ok (.slice (some ⟨w.heap.size, 0, none⟩) n c) w' ∧ Holds w' (some ⟨w.heap.size, 0, none⟩) L ∧ Below w.heap.size w w' ∧ w'.heap.size = w.heap.size + 1 ∧ n ≤ c ∧ c ≤ 9223372036854775807 := by
  have hr := Lib.run_convert_string_bytes (P := Tryz.prog) w 9 86 5 (strOfNums L) Tryz.underlying9 Tryz.underlying86 Tryz.underlying5
  have hs : (strOfNums L).size = n := by rw [strOfNums_size, hn]
  rw [hs] at hr
  obtain ⟨c, w', h1, h2, h3⟩ := conv_bytes L hb n hn w
  rw [hr] at h1
  injection h1 with h1 h4
  injection h1 with h5 h6 h7
  subst h4 h7
  have hle := grownCap_le_maxLen w n 0 5 (by simp only [maxLen]; omega)
  simp only [maxLen] at hle
  exact ⟨_, _, hr, h2, h3, Lib.bytesWorld_size _ _ _, grownCap_ge w n 0 5, by omega⟩
set_option maxRecDepth 100000 in
set_option maxHeartbeats 4000000 in
theorem kReader_is (B : List Int) (hB : IsBytes B) (n : Nat) (hn : B.length = n) (hl : n ≤ 140737488355328) (w : World) : Calls Tryz.prog 98 #[.string (strOfNums B)] w fun e w' => ∃ bn br g, e = .returned (.tuple #[.func (.func 121) #[] #[.pointer (some ⟨br, 0, none⟩)], .func (.func 123) #[] #[.pointer (some ⟨bn, 0, none⟩), .pointer (some ⟨br, 0, none⟩)]]) ∧ RdA w' br g B ∧ w'.heap[bn]? = some (.cells #[.func (.func 121) #[] #[.pointer (some ⟨br, 0, none⟩)]] 152) ∧ (bn ≠ br ∧ g ≠ br ∧ bn ≠ g) ∧ (w.heap.size ≤ bn ∧ w.heap.size ≤ br ∧ w.heap.size ≤ g ∧ g < w'.heap.size) ∧ Below w.heap.size w w' := by
  have hmf : ∀ (fn : Fn) (first cap : Array Value) (w : World), (Instr.makeFunc fn first cap).run Tryz.prog w = .ok (.func fn first cap) w := fun _ _ _ _ => rfl
  obtain ⟨W1, hW1⟩ : ∃ W1, w.alloc (.cells #[.nilFunc] 152) = W1 := ⟨_, rfl⟩
  have W1E : Hid (w.alloc (.cells #[.nilFunc] 152) = W1) := hW1
  obtain ⟨c, W2, hr, hh, hb2, hz2, hc1, hc2⟩ := conv_bytes3 B hB n hn hl W1
  have hz1 : W1.heap.size = w.heap.size + 1 := by rw [← hW1]; simp
  have hb1 : Below w.heap.size w W1 := by rw [← hW1]; exact below1 _ _
  have hx1 : W1.heap[w.heap.size]? = some (.cells #[.nilFunc] 152) := by rw [← hW1]; exact heap_alloc_new w _
  obtain ⟨W3, hW3⟩ : ∃ W3, W2.alloc (.cells #[.slice (some ⟨W1.heap.size, 0, none⟩) n c] 86) = W3 := ⟨_, rfl⟩
  have hx3 : W3.heap[w.heap.size]? = some (.cells #[.nilFunc] 152) := by rw [← hW3]; exact ((Below.heap_alloc _ _ _ (by omega)).trans (hb2.block _ (by omega))).trans hx1
  have hy3 : W3.heap[W1.heap.size + 1]? = some (.cells #[.slice (some ⟨W1.heap.size, 0, none⟩) n c] 86) := by rw [← hW3, ← hz2]; exact heap_alloc_new W2 _
  have hg3 : W3.heap[W1.heap.size]? = W2.heap[W1.heap.size]? := by rw [← hW3]; exact Below.heap_alloc _ _ _ (by omega)
  have hb3 : Below w.heap.size w W3 := by rw [← hW3]; exact hb1.trans ((hb2.mono (by omega)).trans ((below1 W2 _).mono (by omega)))
  obtain ⟨F, hF⟩ : ∃ F, F = Value.func (.func 121) #[] #[.pointer (some ⟨W1.heap.size + 1, 0, none⟩)] := ⟨_, rfl⟩
  obtain ⟨q3, z3⟩ := one_cell hx3
  have hx4 : (W3.setCell ⟨w.heap.size, 0, none⟩ F).heap[w.heap.size]? = some (.cells #[F] 152) := one_set hx3
  obtain ⟨q4, z4⟩ := one_cell hx4
  have hx5 : ((W3.setCell ⟨w.heap.size, 0, none⟩ F).setCell ⟨w.heap.size, 0, none⟩ F).heap[w.heap.size]? = some (.cells #[F] 152) := one_set hx4
  obtain ⟨q5, z5⟩ := one_cell hx5
  have HEnd : Hid (RdA ((W3.setCell ⟨w.heap.size, 0, none⟩ F).setCell ⟨w.heap.size, 0, none⟩ F) (W1.heap.size + 1) W1.heap.size B ∧ ((W3.setCell ⟨w.heap.size, 0, none⟩ F).setCell ⟨w.heap.size, 0, none⟩ F).heap[w.heap.size]? = some (.cells #[F] 152) ∧ (w.heap.size ≠ W1.heap.size + 1 ∧ W1.heap.size ≠ W1.heap.size + 1 ∧ w.heap.size ≠ W1.heap.size) ∧ (w.heap.size ≤ w.heap.size ∧ w.heap.size ≤ W1.heap.size + 1 ∧ w.heap.size ≤ W1.heap.size ∧ W1.heap.size < ((W3.setCell ⟨w.heap.size, 0, none⟩ F).setCell ⟨w.heap.size, 0, none⟩ F).heap.size) ∧ Below w.heap.size w ((W3.setCell ⟨w.heap.size, 0, none⟩ F).setCell ⟨w.heap.size, 0, none⟩ F)) := by
    refine ⟨⟨0, c, ?_, ?_, by omega, hc2⟩, hx5, ⟨by omega, by omega, by omega⟩, ⟨by omega, by omega, by omega, by have := lt_of_heapK hy3; simp; omega⟩, (hb3.setCell (p := ⟨w.heap.size, 0, none⟩) (Nat.le_refl _) _).setCell (p := ⟨w.heap.size, 0, none⟩) (Nat.le_refl _) _⟩
    · rw [set_offK _ _ _ _ _ (by omega), set_offK _ _ _ _ _ (by omega), hn]
      exact hy3
    · exact holds_block hh (((set_offK _ _ _ _ _ (by omega)).trans (set_offK _ _ _ _ _ (by omega))).trans hg3)
  have HF : Hid (F = Value.func (.func 121) #[] #[.pointer (some ⟨W1.heap.size + 1, 0, none⟩)]) := hF
  have hmf1 : ∀ w, (Instr.makeFunc (.func 121) #[] #[.pointer (some ⟨W1.heap.size + 1, 0, none⟩)]).run Tryz.prog w = .ok F w := fun w => by rw [hF]; exact hmf _ _ _ _
  have hmf2 : ∀ w0, (Instr.makeFunc (.func 123) #[] #[.pointer (some ⟨w.heap.size, 0, none⟩), .pointer (some ⟨W1.heap.size + 1, 0, none⟩)]).run Tryz.prog w0 = .ok (.func (.func 123) #[] #[.pointer (some ⟨w.heap.size, 0, none⟩), .pointer (some ⟨W1.heap.size + 1, 0, none⟩)]) w0 := fun w0 => hmf _ _ _ _
  generalize hst : strOfNums B = st at *
  clear hst hF hmf hx1 hx3 hy3 hg3 hb3 hx4 hx5 hh hb2 hb1 hz1 W1E
  go_enter Tryz.func98, Tryz.ntmps98
  go_wp2_with fail
  rw [HF.out] at HEnd q5
  obtain ⟨e1, e2, e3, e4, e5⟩ := HEnd.out
  refine bodyPost_ret (v := .tuple #[.func (.func 121) #[] #[.pointer (some ⟨W1.heap.size + 1, 0, none⟩)], .func (.func 123) #[] #[.pointer (some ⟨w.heap.size, 0, none⟩), .pointer (some ⟨W1.heap.size + 1, 0, none⟩)]]) (by simp [results, Tryz.results98, go_sem, q5]) rfl ⟨w.heap.size, W1.heap.size + 1, W1.heap.size, rfl, e1, e2, e3, e4, e5⟩
end Go.Proofs.YtcindeechmpalaaGreat
namespace Go.Proofs.YtcindeechmpalaaGreat
open Go.ChangeShapes Go.WideShapes Go.ChangeAt Go.RowKit Go.Deep
set_option linter.unusedVariables false
set_option linter.unusedSimpArgs false
theorem RdA.kept {w w' : World} {br g : Nat} {B : List Int} (h : RdA w br g B) (h1 : w'.heap[br]? = w.heap[br]?) (h2 : w'.heap[g]? = w.heap[g]?) : RdA w' br g B := by
  obtain ⟨off, c, a1, a2, a3, a4⟩ := h
  exact ⟨off, c, h1.trans a1, holds_block a2 h2, a3, a4⟩
theorem RdA.lt {w : World} {br g : Nat} {B : List Int} (h : RdA w br g B) : br < w.heap.size := by
  obtain ⟨off, c, a1, _⟩ := h
  exact lt_of_heapK a1
/-- the reader's three blocks -/
structure Rdr (w : World) (bn br g : Nat) (B : List Int) : Prop where
  rd : RdA w br g B
  fn : w.heap[bn]? = some (.cells #[.func (.func 121) #[] #[.pointer (some ⟨br, 0, none⟩)]] 152)
  ne : bn ≠ br ∧ g ≠ br ∧ bn ≠ g
theorem Rdr.kept {w w' : World} {bn br g : Nat} {B : List Int} (h : Rdr w bn br g B) (hb : ∀ k, k = bn ∨ k = br ∨ k = g → w'.heap[k]? = w.heap[k]?) : Rdr w' bn br g B :=
  ⟨h.rd.kept (hb br (.inr (.inl rfl))) (hb g (.inr (.inr rfl))), (hb bn (.inl rfl)).trans h.fn, h.ne⟩
theorem rdr_number {w : World} {bn br g : Nat} {B : List Int} (h : Rdr w bn br g B) (hB : IsBytes B) (hl : B.length ≤ 140737488355328) :
    Calls Tryz.prog 121 #[.pointer (some ⟨br, 0, none⟩)] w fun e w' => e = .returned (.int .u64 ((rN B).1 : Nat)) ∧ Rdr w' bn br g (rN B).2 ∧ w.grownBy w' (some br) ∧ w'.heap.size = w.heap.size := by
  refine (kNumber_is w br g B h.rd h.ne.2.1 hB (by omega)).mono ?_
  rintro e w' ⟨rfl, h1, h2, h3⟩
  exact ⟨rfl, ⟨h1, (h2.block bn (lt_of_heapK h.fn) (fun e => h.ne.1 (Option.some.inj e))).trans h.fn, h.ne⟩, h2, h3⟩
theorem rdr_text {w : World} {bn br g : Nat} {B : List Int} (h : Rdr w bn br g B) (hB : IsBytes B) (hl : B.length ≤ 140737488355328) :
    Calls Tryz.prog 123 #[.pointer (some ⟨bn, 0, none⟩), .pointer (some ⟨br, 0, none⟩)] w fun e w' => e = .returned (.string (strOfNums (rT B).1)) ∧ Rdr w' bn br g (rT B).2 ∧ w.grownBy w' (some br) ∧ w'.heap.size = w.heap.size := by
  refine (kTake_is w bn br g B h.rd h.fn h.ne.1 h.ne.2.1 h.ne.2.2 hB (by omega)).mono ?_
  rintro e w' ⟨rfl, h1, h2, h3⟩
  exact ⟨rfl, ⟨h1, (h2.block bn (lt_of_heapK h.fn) (fun e => h.ne.1 (Option.some.inj e))).trans h.fn, h.ne⟩, h2, h3⟩
theorem pset3 {w : World} {g : Nat} {a b c : Value} {t : TypeId} (v : Value) (h : w.heap[g]? = some (.cells #[a, b, c] t)) : (w.setCell ⟨g, 0, none⟩ v).heap[g]? = some (.cells #[v, b, c] t) := by
  rw [setCell_eq_setRow w g 0 #[a, b, c] t _ v h]
  exact setRow_heap _ _ _ _ _ _ h
theorem pset31 {w : World} {g : Nat} {a b c : Value} {t : TypeId} (v : Value) (h : w.heap[g]? = some (.cells #[a, b, c] t)) : (w.setCell ⟨g, 1, none⟩ v).heap[g]? = some (.cells #[a, v, c] t) := by
  rw [setCell_eq_setRow w g 1 #[a, b, c] t _ v h]
  exact setRow_heap _ _ _ _ _ _ h
theorem csB_drop {l : List Pt} {j : Nat} {x : Pt} (h : l[j]? = some x) : csB (l.drop j) = cB x ++ csB (l.drop (j + 1)) := by
  obtain ⟨hj, e⟩ := List.getElem?_eq_some_iff.1 h
  rw [List.drop_eq_getElem_cons hj, e]
  unfold csB
  rw [List.flatMap_cons]
set_option maxRecDepth 100000 in
set_option maxHeartbeats 8000000 in
theorem kRead_is (B : List Int) (hB : IsBytes B) (hl : B.length ≤ 140737488355328) (w : World) :
    Calls Tryz.prog 67 #[.string (strOfNums B)] w fun e w' => ∃ v, e = .returned v ∧ OwnP w' w.heap.size v (rdB B) ∧ Below w.heap.size w w' := by
  have KR : Hid (Calls Tryz.prog 98 #[.string (strOfNums B)] w fun e w' => ∃ bn br g, e = .returned (.tuple #[.func (.func 121) #[] #[.pointer (some ⟨br, 0, none⟩)], .func (.func 123) #[] #[.pointer (some ⟨bn, 0, none⟩), .pointer (some ⟨br, 0, none⟩)]]) ∧ Rdr w' bn br g B ∧ (w.heap.size ≤ bn ∧ w.heap.size ≤ br ∧ w.heap.size ≤ g ∧ g < w'.heap.size) ∧ Below w.heap.size w w') := by
    refine (kReader_is B hB B.length rfl hl w).mono ?_
    rintro e w' ⟨bn, br, g, rfl, h1, h2, h3, h4, h5⟩
    exact ⟨bn, br, g, rfl, ⟨h1, h2, h3⟩, h4, h5⟩
  obtain ⟨C, hC⟩ : ∃ C, (rN B).2 = C := ⟨_, rfl⟩
  obtain ⟨v0, hv0⟩ : ∃ v0, (rN B).1 = v0 := ⟨_, rfl⟩
  obtain ⟨n, hn⟩ : ∃ n, min v0 64 = n := ⟨_, rfl⟩
  have KN : Hid (∀ W bn br g, Rdr W bn br g B → Calls Tryz.prog 121 #[.pointer (some ⟨br, 0, none⟩)] W fun e w' => e = .returned (.int .u64 (v0 : Int)) ∧ Rdr w' bn br g C ∧ W.grownBy w' (some br) ∧ w'.heap.size = W.heap.size) := fun W bn br g hW => by
    have k := rdr_number hW hB hl
    rw [hv0, hC] at k
    exact k
  have HCB : Hid (IsBytes C ∧ C.length ≤ 140737488355328) := ⟨by rw [← hC]; exact rN_bytes hB, by rw [← hC]; exact Nat.le_trans (rN_len B) hl⟩
  have HRD : Hid (rdB B = (rL n C).1) := by show _ = _; unfold rdB; rw [hv0, hC, hn]
  generalize strOfNums B = st at *
  have mn : min (v0 : Int) 64 = (n : Int) := by omega
  have h64 : n ≤ 64 := by omega
  rw [HRD.out]
  clear hC hv0 hn hB hl HRD
  go_enter Tryz.func67, Tryz.ntmps67
  go_wp2_with fail
  refine KR.out.mono ?_
  rintro e w1 ⟨bn, br, g, rfl, hr1, hge, hb1⟩
  have R1 : Hid (Rdr w1 bn br g B) := hr1
  have B1 : Hid (Below w.heap.size w w1) := hb1
  have GE : Hid (w.heap.size ≤ bn ∧ w.heap.size ≤ br ∧ w.heap.size ≤ g ∧ g < w1.heap.size) := hge
  clear hr1 hb1 hge
  go_wp2_with fail
  refine (KN.out w1 bn br g R1.out).mono ?_
  rintro e w2 ⟨rfl, hr2, hg2, hz2⟩
  have R2 : Hid (Rdr w2 bn br g C) := hr2
  obtain ⟨h, hh⟩ : ∃ h, h = w1.heap.size := ⟨_, rfl⟩
  have LT : Hid (bn < h ∧ br < h ∧ g < h ∧ w.heap.size ≤ h) := ⟨by rw [hh]; exact lt_of_heapK R1.out.fn, by rw [hh]; exact R1.out.rd.lt, by rw [hh]; exact GE.out.2.2.2, by rw [hh]; exact B1.out.size⟩
  have B2 : Hid (Below w.heap.size w w2) := ⟨hg2.os.trans B1.out.os, hg2.tape.trans B1.out.tape, hg2.output.trans B1.out.output, Nat.le_trans B1.out.size hg2.size, fun k hk => (hg2.block k (by have := B1.out.size; omega) (fun e => by have := GE.out; have := Option.some.inj e; omega)).trans (B1.out.block k hk)⟩
  have Z2 : Hid (w2.heap.size = h) := by show _ = _; rw [hh]; exact hz2
  clear hr2 hg2 hz2 R1 B1 KN KR hh
  go_wp2_with fail
  go_loopg [5, 15] n (fun gg V i wr => ∃ (j : Nat), j ≤ n ∧ gg = n - j ∧ i = .int .u64 (j : Int) ∧ Hid (Rdr wr bn br g (rL j C).2 ∧ OwnP wr h V (rL j C).1 ∧ Below w.heap.size w wr ∧ h ≤ wr.heap.size))
  case atStart => exact ⟨0, Nat.zero_le _, rfl, rfl, R2.out, OwnP.nil _ _, B2.out, by rw [Z2.out]; exact Nat.le_refl _⟩
  case round =>
    obtain ⟨j, hj, rfl, rfl, RW⟩ := hrel
    clear R2 B2 Z2
    by_cases hlt : j < n
    · have j1 : decide ((j : Int) < (n : Int)) = true := by rw [decide_eq_true_eq]; omega
      have HSN : Hid ((rL (j + 1) C).1 = (rL j C).1 ++ [(rX (rL j C).2).1] ∧ (rL (j + 1) C).2 = (rX (rL j C).2).2) := by rw [rL_snoc]; exact ⟨rfl, rfl⟩
      have HBY : Hid (IsBytes (rL j C).2 ∧ (rL j C).2.length ≤ 140737488355328) := ⟨(rL_bytes j C HCB.out.1).1, Nat.le_trans (rL_bytes j C HCB.out.1).2 HCB.out.2⟩
      have HLJ : Hid ((rL j C).1.length ≤ 64) := by show _ ≤ _; rw [rL_len]; omega
      obtain ⟨D, hD⟩ : ∃ D, (rL j C).2 = D := ⟨_, rfl⟩
      obtain ⟨L, hL⟩ : ∃ L, (rL j C).1 = L := ⟨_, rfl⟩
      rw [hD, hL] at RW HSN
      rw [hD] at HBY
      rw [hL] at HLJ
      clear hD hL
      have ri : IntKind.u64.wrap ((j : Int) + 1) = (j : Int) + 1 := by rw [IntKind.wrap_u64]; omega
      generalize u5 = V at *
      have HOV : Hid (∀ k, V.ownBlock = some k → h ≤ k ∧ k < wr.heap.size) := fun k hk => RW.out.2.1.own k hk
      have HRX : Hid (rX D = if (rN D).1 = 1 then (⟨strOfNums (rT (rN D).2).1, ⟨#[]⟩, true⟩, (rT (rN D).2).2) else (⟨strOfNums (rT (rN D).2).1, strOfNums (rT (rT (rN D).2).2).1, false⟩, (rT (rT (rN D).2).2).2)) := rfl
      have K1 : Hid (Calls Tryz.prog 121 #[.pointer (some ⟨br, 0, none⟩)] wr fun e w' => e = .returned (.int .u64 ((rN D).1 : Nat)) ∧ Rdr w' bn br g (rN D).2 ∧ wr.grownBy w' (some br) ∧ w'.heap.size = wr.heap.size) := rdr_number RW.out.1 HBY.out.1 HBY.out.2
      have HL1 : Hid ((rN D).2.length ≤ 140737488355328 ∧ IsBytes (rN D).2) := ⟨Nat.le_trans (rN_len D) HBY.out.2, rN_bytes HBY.out.1⟩
      obtain ⟨v, hv⟩ : ∃ v, (rN D).1 = v := ⟨_, rfl⟩
      obtain ⟨E, hE⟩ : ∃ E, (rN D).2 = E := ⟨_, rfl⟩
      rw [hv, hE] at K1 HRX
      rw [hE] at HL1
      clear hv hE
      have HL2 : Hid ((rT E).2.length ≤ 140737488355328 ∧ IsBytes (rT E).2) := ⟨Nat.le_trans (rT_len E).1 HL1.out.1, (rT_bytes HL1.out.2).2⟩
      have KT : Hid (∀ W, Rdr W bn br g E → Calls Tryz.prog 123 #[.pointer (some ⟨bn, 0, none⟩), .pointer (some ⟨br, 0, none⟩)] W fun e w' => e = .returned (.string (strOfNums (rT E).1)) ∧ Rdr w' bn br g (rT E).2 ∧ W.grownBy w' (some br) ∧ w'.heap.size = W.heap.size) := fun W hW => rdr_text hW HL1.out.2 HL1.out.1
      obtain ⟨M1, hM1⟩ : ∃ M1, (rT E).2 = M1 := ⟨_, rfl⟩
      rw [hM1] at KT HL2 HRX
      have KU : Hid (∀ W, Rdr W bn br g M1 → Calls Tryz.prog 123 #[.pointer (some ⟨bn, 0, none⟩), .pointer (some ⟨br, 0, none⟩)] W fun e w' => e = .returned (.string (strOfNums (rT M1).1)) ∧ Rdr w' bn br g (rT M1).2 ∧ W.grownBy w' (some br) ∧ w'.heap.size = W.heap.size) := fun W hW => rdr_text hW HL2.out.2 HL2.out.1
      obtain ⟨xk, hxk⟩ : ∃ xk, strOfNums (rT E).1 = xk := ⟨_, rfl⟩
      obtain ⟨xv, hxv⟩ : ∃ xv, strOfNums (rT M1).1 = xv := ⟨_, rfl⟩
      obtain ⟨M2, hM2⟩ : ∃ M2, (rT M1).2 = M2 := ⟨_, rfl⟩
      rw [hxk] at KT HRX
      rw [hxv, hM2] at KU HRX
      clear hM1 hxk hxv hM2 HL1 HL2 HBY
      by_cases hv1 : v = 1
      · subst hv1
        rw [if_pos rfl] at HRX
        go_wp2_with fail
        refine K1.out.mono ?_
        rintro e u1 ⟨rfl, hr1, hg1, hz1⟩
        obtain ⟨bx, hbx⟩ : ∃ bx, u1.heap.size = bx := ⟨_, rfl⟩
        have HBX : Hid (u1.heap.size = bx ∧ h ≤ bx ∧ wr.heap.size = bx) := ⟨hbx, by rw [← hbx, hz1]; exact RW.out.2.2.2, by rw [← hbx, hz1]⟩
        obtain ⟨u2, hu2⟩ : ∃ u2, u1.alloc (.cells #[.string ⟨#[]⟩, .string ⟨#[]⟩, .bool true] 45) = u2 := ⟨_, rfl⟩
        have U2E : Hid (u1.alloc (.cells #[.string ⟨#[]⟩, .string ⟨#[]⟩, .bool true] 45) = u2) := hu2
        have O1 : Hid (OwnP u1 h V L) := RW.out.2.1.kept fun k hk => hg1.block k (RW.out.2.1.own k hk).2 (fun e => by have := (RW.out.2.1.own k hk).1; have := LT.out; have := Option.some.inj e; omega)
        have X2 : Hid (u2.heap[bx]? = some (.cells #[.string ⟨#[]⟩, .string ⟨#[]⟩, .bool true] 45)) := by show _ = _; rw [← hu2, ← hbx]; exact heap_alloc_new u1 _
        have R2 : Hid (Rdr u2 bn br g E) := hr1.kept fun k hk => by
          rw [← hu2]
          exact Below.heap_alloc _ _ _ (by have := LT.out; have := HBX.out; rcases hk with rfl | rfl | rfl <;> omega)
        have O2 : Hid (OwnP u2 h V L) := by rw [← hu2]; exact O1.out.keep (below1 _ _)
        have Bu1 : Hid (Below w.heap.size w u1) := ⟨hg1.os.trans RW.out.2.2.1.os, hg1.tape.trans RW.out.2.2.1.tape, hg1.output.trans RW.out.2.2.1.output, Nat.le_trans RW.out.2.2.1.size hg1.size, fun k hk => (hg1.block k (by have := RW.out.2.2.1.size; omega) (fun e => by have := GE.out; have := Option.some.inj e; omega)).trans (RW.out.2.2.1.block k hk)⟩
        have Bu2 : Hid (Below w.heap.size w u2) := by rw [← hu2]; exact Bu1.out.alloc Bu1.out.size _
        have Z2 : Hid (u2.heap.size = bx + 1) := by show _ = _; rw [← hu2, ← hbx]; simp
        have K2 : Hid (Calls Tryz.prog 123 #[.pointer (some ⟨bn, 0, none⟩), .pointer (some ⟨br, 0, none⟩)] u2 fun e w' => e = .returned (.string xk) ∧ Rdr w' bn br g M1 ∧ u2.grownBy w' (some br) ∧ w'.heap.size = u2.heap.size) := KT.out u2 R2.out
        clear hr1 hg1 hz1 hbx hu2 K1 RW KT
        go_wp2_with fail
        rw [show World.alloc u1 _ = u2 from U2E.out, HBX.out.1]
        refine K2.out.mono ?_
        rintro e u3 ⟨rfl, hr3, hg3, hz3⟩
        have X3 : Hid (u3.heap[bx]? = some (.cells #[.string ⟨#[]⟩, .string ⟨#[]⟩, .bool true] 45)) := (hg3.block bx (by rw [Z2.out]; omega) (fun e => by have := LT.out; have := HBX.out; have := Option.some.inj e; omega)).trans X2.out
        have R3 : Hid (Rdr u3 bn br g M1) := hr3
        have O3 : Hid (OwnP u3 h V L) := O2.out.kept fun k hk => hg3.block k (O2.out.own k hk).2 (fun e => by have := (O2.out.own k hk).1; have := LT.out; have := Option.some.inj e; omega)
        have Bu3 : Hid (Below w.heap.size w u3) := ⟨hg3.os.trans Bu2.out.os, hg3.tape.trans Bu2.out.tape, hg3.output.trans Bu2.out.output, Nat.le_trans Bu2.out.size hg3.size, fun k hk => (hg3.block k (by have := Bu2.out.size; omega) (fun e => by have := GE.out; have := Option.some.inj e; omega)).trans (Bu2.out.block k hk)⟩
        have Z3 : Hid (u3.heap.size = bx + 1) := hz3.trans Z2.out
        obtain ⟨p0, p1, p2⟩ := pc_cells (x := ⟨⟨#[]⟩, ⟨#[]⟩, true⟩) X3.out
        have fz : ∀ i, u3.frozen? ⟨bx, i, none⟩ = false := fun i => by rw [World.frozen?, X3.out]; simp
        obtain ⟨u4, hu4⟩ : ∃ u4, u3.setCell ⟨bx, 0, none⟩ (.string xk) = u4 := ⟨_, rfl⟩
        have U4E : Hid (u3.setCell ⟨bx, 0, none⟩ (.string xk) = u4) := hu4
        have X4 : Hid (u4.heap[bx]? = some (.cells #[.string xk, .string ⟨#[]⟩, .bool true] 45)) := by show _ = _; rw [← hu4]; exact pset3 _ X3.out
        have off4 : ∀ k, k ≠ bx → u4.heap[k]? = u3.heap[k]? := fun k hk => by rw [← hu4]; exact set_offK _ _ _ _ _ hk
        have R4 : Hid (Rdr u4 bn br g M1) := R3.out.kept fun k hk => off4 k (by have := LT.out; have := HBX.out; rcases hk with rfl | rfl | rfl <;> omega)
        have O4 : Hid (OwnP u4 h V L) := O3.out.kept fun k hk => off4 k (fun e => by have a := HOV.out k hk; have b := HBX.out; omega)
        have Bu4 : Hid (Below w.heap.size w u4) := by rw [← hu4]; exact Bu3.out.setCell (p := ⟨bx, 0, none⟩) (by have := HBX.out; have := LT.out; show w.heap.size ≤ bx; omega) _
        have Z4 : Hid (u4.heap.size = bx + 1) := by show _ = _; rw [← hu4]; simp; exact Z3.out
        clear hr3 hg3 hz3 off4 K2
        obtain ⟨r0, r1, r2⟩ := pc_cells (x := ⟨xk, ⟨#[]⟩, true⟩) X4.out
        obtain ⟨u8, hu8⟩ : ∃ u8, u4.alloc (.cells #[.string xk, .string ⟨#[]⟩, .bool true] 45) = u8 := ⟨_, rfl⟩
        have X8 : Hid (u8.heap[u4.heap.size]? = some (.cells (pC ⟨xk, ⟨#[]⟩, true⟩) 45)) := by show _ = _; rw [← hu8]; exact heap_alloc_new u4 _
        have O8 : Hid (OwnP u8 h V L) := by rw [← hu8]; exact O4.out.keep (below1 _ _)
        have R8 : Hid (Rdr u8 bn br g M1) := R4.out.kept fun k hk => by
          rw [← hu8]
          exact Below.heap_alloc _ _ _ (by have := LT.out; have := HBX.out; have := Z4.out; rcases hk with rfl | rfl | rfl <;> omega)
        have Bu8 : Hid (Below w.heap.size w u8) := by rw [← hu8]; exact Bu4.out.alloc Bu4.out.size _
        have Z8 : Hid (h ≤ u8.heap.size) := by show h ≤ _; rw [← hu8]; simp; have := Z4.out; have := HBX.out; omega
        go_wp2_with (at_builtin; refine append_put rfl (.tmp 30) (.tmp 32) rfl h V L rfl O8.out u4.heap.size 1 ⟨xk, ⟨#[]⟩, true⟩ rfl X8.out (by have := HLJ.out; omega) Z8.out ?_; intro v9 u9 ho9 hg9; have O9 : Hid (OwnP u9 h v9 (L ++ [⟨xk, ⟨#[]⟩, true⟩]) ∧ u8.grownBy u9 V.ownBlock) := ⟨ho9, hg9⟩; clear ho9 hg9)
        have hR9 : Rdr u9 bn br g M1 := R8.out.kept fun k hk => O9.out.2.block k (by have := LT.out; have := Z8.out; rcases hk with rfl | rfl | rfl <;> omega) (fun e => by have := (HOV.out k e.symm).1; have := LT.out; rcases hk with rfl | rfl | rfl <;> omega)
        have hB9 : Below w.heap.size w u9 := ⟨O9.out.2.os.trans Bu8.out.os, O9.out.2.tape.trans Bu8.out.tape, O9.out.2.output.trans Bu8.out.output, Nat.le_trans Bu8.out.size O9.out.2.size, fun k hk => (O9.out.2.block k (by have := Bu8.out.size; omega) (fun e => by have := (HOV.out k e.symm).1; have := LT.out; omega)).trans (Bu8.out.block k hk)⟩
        have RW9 : Hid (Rdr u9 bn br g (rL (j + 1) C).2 ∧ OwnP u9 h v9 (rL (j + 1) C).1 ∧ Below w.heap.size w u9 ∧ h ≤ u9.heap.size) := by
          rw [HSN.out.1, HSN.out.2, HRX.out]
          exact ⟨hR9, O9.out.1, hB9, Nat.le_trans Z8.out O9.out.2.size⟩
        clear hR9 hB9
        go_roundg (n - (j + 1))
        case measure => omega
        case rel => exact ⟨j + 1, by omega, rfl, by simp, RW9⟩
      · have v1 : ((v : Int) == 1) = false := by rw [beq_eq_false_iff_ne]; omega
        have v2 : ¬ (v : Int) = 1 := by omega
        rw [if_neg hv1] at HRX
        go_wp2_with fail
        refine K1.out.mono ?_
        rintro e u1 ⟨rfl, hr1, hg1, hz1⟩
        obtain ⟨bx, hbx⟩ : ∃ bx, u1.heap.size = bx := ⟨_, rfl⟩
        have HBX : Hid (u1.heap.size = bx ∧ h ≤ bx ∧ wr.heap.size = bx) := ⟨hbx, by rw [← hbx, hz1]; exact RW.out.2.2.2, by rw [← hbx, hz1]⟩
        obtain ⟨u2, hu2⟩ : ∃ u2, u1.alloc (.cells #[.string ⟨#[]⟩, .string ⟨#[]⟩, .bool false] 45) = u2 := ⟨_, rfl⟩
        have U2E : Hid (u1.alloc (.cells #[.string ⟨#[]⟩, .string ⟨#[]⟩, .bool false] 45) = u2) := hu2
        have O1 : Hid (OwnP u1 h V L) := RW.out.2.1.kept fun k hk => hg1.block k (RW.out.2.1.own k hk).2 (fun e => by have := (RW.out.2.1.own k hk).1; have := LT.out; have := Option.some.inj e; omega)
        have X2 : Hid (u2.heap[bx]? = some (.cells #[.string ⟨#[]⟩, .string ⟨#[]⟩, .bool false] 45)) := by show _ = _; rw [← hu2, ← hbx]; exact heap_alloc_new u1 _
        have R2 : Hid (Rdr u2 bn br g E) := hr1.kept fun k hk => by
          rw [← hu2]
          exact Below.heap_alloc _ _ _ (by have := LT.out; have := HBX.out; rcases hk with rfl | rfl | rfl <;> omega)
        have O2 : Hid (OwnP u2 h V L) := by rw [← hu2]; exact O1.out.keep (below1 _ _)
        have Bu1 : Hid (Below w.heap.size w u1) := ⟨hg1.os.trans RW.out.2.2.1.os, hg1.tape.trans RW.out.2.2.1.tape, hg1.output.trans RW.out.2.2.1.output, Nat.le_trans RW.out.2.2.1.size hg1.size, fun k hk => (hg1.block k (by have := RW.out.2.2.1.size; omega) (fun e => by have := GE.out; have := Option.some.inj e; omega)).trans (RW.out.2.2.1.block k hk)⟩
        have Bu2 : Hid (Below w.heap.size w u2) := by rw [← hu2]; exact Bu1.out.alloc Bu1.out.size _
        have Z2 : Hid (u2.heap.size = bx + 1) := by show _ = _; rw [← hu2, ← hbx]; simp
        have K2 : Hid (Calls Tryz.prog 123 #[.pointer (some ⟨bn, 0, none⟩), .pointer (some ⟨br, 0, none⟩)] u2 fun e w' => e = .returned (.string xk) ∧ Rdr w' bn br g M1 ∧ u2.grownBy w' (some br) ∧ w'.heap.size = u2.heap.size) := KT.out u2 R2.out
        clear hr1 hg1 hz1 hbx hu2 K1 RW KT
        go_wp2_with fail
        rw [show World.alloc u1 _ = u2 from U2E.out, HBX.out.1]
        refine K2.out.mono ?_
        rintro e u3 ⟨rfl, hr3, hg3, hz3⟩
        have X3 : Hid (u3.heap[bx]? = some (.cells #[.string ⟨#[]⟩, .string ⟨#[]⟩, .bool false] 45)) := (hg3.block bx (by rw [Z2.out]; omega) (fun e => by have := LT.out; have := HBX.out; have := Option.some.inj e; omega)).trans X2.out
        have R3 : Hid (Rdr u3 bn br g M1) := hr3
        have O3 : Hid (OwnP u3 h V L) := O2.out.kept fun k hk => hg3.block k (O2.out.own k hk).2 (fun e => by have := (O2.out.own k hk).1; have := LT.out; have := Option.some.inj e; omega)
        have Bu3 : Hid (Below w.heap.size w u3) := ⟨hg3.os.trans Bu2.out.os, hg3.tape.trans Bu2.out.tape, hg3.output.trans Bu2.out.output, Nat.le_trans Bu2.out.size hg3.size, fun k hk => (hg3.block k (by have := Bu2.out.size; omega) (fun e => by have := GE.out; have := Option.some.inj e; omega)).trans (Bu2.out.block k hk)⟩
        have Z3 : Hid (u3.heap.size = bx + 1) := hz3.trans Z2.out
        obtain ⟨p0, p1, p2⟩ := pc_cells (x := ⟨⟨#[]⟩, ⟨#[]⟩, false⟩) X3.out
        have fz : ∀ i, u3.frozen? ⟨bx, i, none⟩ = false := fun i => by rw [World.frozen?, X3.out]; simp
        obtain ⟨u4, hu4⟩ : ∃ u4, u3.setCell ⟨bx, 0, none⟩ (.string xk) = u4 := ⟨_, rfl⟩
        have U4E : Hid (u3.setCell ⟨bx, 0, none⟩ (.string xk) = u4) := hu4
        have X4 : Hid (u4.heap[bx]? = some (.cells #[.string xk, .string ⟨#[]⟩, .bool false] 45)) := by show _ = _; rw [← hu4]; exact pset3 _ X3.out
        have off4 : ∀ k, k ≠ bx → u4.heap[k]? = u3.heap[k]? := fun k hk => by rw [← hu4]; exact set_offK _ _ _ _ _ hk
        have R4 : Hid (Rdr u4 bn br g M1) := R3.out.kept fun k hk => off4 k (by have := LT.out; have := HBX.out; rcases hk with rfl | rfl | rfl <;> omega)
        have O4 : Hid (OwnP u4 h V L) := O3.out.kept fun k hk => off4 k (fun e => by have a := HOV.out k hk; have b := HBX.out; omega)
        have Bu4 : Hid (Below w.heap.size w u4) := by rw [← hu4]; exact Bu3.out.setCell (p := ⟨bx, 0, none⟩) (by have := HBX.out; have := LT.out; show w.heap.size ≤ bx; omega) _
        have Z4 : Hid (u4.heap.size = bx + 1) := by show _ = _; rw [← hu4]; simp; exact Z3.out
        clear hr3 hg3 hz3 off4 K2
        obtain ⟨r0, r1, r2⟩ := pc_cells (x := ⟨xk, ⟨#[]⟩, false⟩) X4.out
        have K4 : Hid (Calls Tryz.prog 123 #[.pointer (some ⟨bn, 0, none⟩), .pointer (some ⟨br, 0, none⟩)] u4 fun e w' => e = .returned (.string xv) ∧ Rdr w' bn br g M2 ∧ u4.grownBy w' (some br) ∧ w'.heap.size = u4.heap.size) := KU.out u4 R4.out
        clear KU
        go_wp2_with fail
        refine K4.out.mono ?_
        rintro e u5 ⟨rfl, hr5, hg5, hz5⟩
        have X5 : Hid (u5.heap[bx]? = some (.cells #[.string xk, .string ⟨#[]⟩, .bool false] 45)) := (hg5.block bx (by rw [Z4.out]; omega) (fun e => by have := LT.out; have := HBX.out; have := Option.some.inj e; omega)).trans X4.out
        have R5 : Hid (Rdr u5 bn br g M2) := hr5
        have O5 : Hid (OwnP u5 h V L) := O4.out.kept fun k hk => hg5.block k (O4.out.own k hk).2 (fun e => by have := (O4.out.own k hk).1; have := LT.out; have := Option.some.inj e; omega)
        have Bu5 : Hid (Below w.heap.size w u5) := ⟨hg5.os.trans Bu4.out.os, hg5.tape.trans Bu4.out.tape, hg5.output.trans Bu4.out.output, Nat.le_trans Bu4.out.size hg5.size, fun k hk => (hg5.block k (by have := Bu4.out.size; omega) (fun e => by have := GE.out; have := Option.some.inj e; omega)).trans (Bu4.out.block k hk)⟩
        have Z5 : Hid (u5.heap.size = bx + 1) := hz5.trans Z4.out
        clear r0 r1 r2 p0 p1 p2 hu4 fz
        obtain ⟨p0, p1, p2⟩ := pc_cells (x := ⟨xk, ⟨#[]⟩, false⟩) X5.out
        have fz : ∀ i, u5.frozen? ⟨bx, i, none⟩ = false := fun i => by rw [World.frozen?, X5.out]; simp
        obtain ⟨u6, hu6⟩ : ∃ u6, u5.setCell ⟨bx, 1, none⟩ (.string xv) = u6 := ⟨_, rfl⟩
        have X6 : Hid (u6.heap[bx]? = some (.cells #[.string xk, .string xv, .bool false] 45)) := by show _ = _; rw [← hu6]; exact pset31 _ X5.out
        have off6 : ∀ k, k ≠ bx → u6.heap[k]? = u5.heap[k]? := fun k hk => by rw [← hu6]; exact set_offK _ _ _ _ _ hk
        have R6 : Hid (Rdr u6 bn br g M2) := R5.out.kept fun k hk => off6 k (by have := LT.out; have := HBX.out; rcases hk with rfl | rfl | rfl <;> omega)
        have O6 : Hid (OwnP u6 h V L) := O5.out.kept fun k hk => off6 k (fun e => by have a := HOV.out k hk; have b := HBX.out; omega)
        have Bu6 : Hid (Below w.heap.size w u6) := by rw [← hu6]; exact Bu5.out.setCell (p := ⟨bx, 1, none⟩) (by have := HBX.out; have := LT.out; show w.heap.size ≤ bx; omega) _
        have Z6 : Hid (u6.heap.size = bx + 1) := by show _ = _; rw [← hu6]; simp; exact Z5.out
        clear hr5 hg5 hz5 off6 K4
        obtain ⟨r0, r1, r2⟩ := pc_cells (x := ⟨xk, xv, false⟩) X6.out
        obtain ⟨u8, hu8⟩ : ∃ u8, u6.alloc (.cells #[.string xk, .string xv, .bool false] 45) = u8 := ⟨_, rfl⟩
        have X8 : Hid (u8.heap[u6.heap.size]? = some (.cells (pC ⟨xk, xv, false⟩) 45)) := by show _ = _; rw [← hu8]; exact heap_alloc_new u6 _
        have O8 : Hid (OwnP u8 h V L) := by rw [← hu8]; exact O6.out.keep (below1 _ _)
        have R8 : Hid (Rdr u8 bn br g M2) := R6.out.kept fun k hk => by
          rw [← hu8]
          exact Below.heap_alloc _ _ _ (by have := LT.out; have := HBX.out; have := Z6.out; rcases hk with rfl | rfl | rfl <;> omega)
        have Bu8 : Hid (Below w.heap.size w u8) := by rw [← hu8]; exact Bu6.out.alloc Bu6.out.size _
        have Z8 : Hid (h ≤ u8.heap.size) := by show h ≤ _; rw [← hu8]; simp; have := Z6.out; have := HBX.out; omega
        go_wp2_with (at_builtin; refine append_put rfl (.tmp 30) (.tmp 32) rfl h V L rfl O8.out u6.heap.size 1 ⟨xk, xv, false⟩ rfl X8.out (by have := HLJ.out; omega) Z8.out ?_; intro v9 u9 ho9 hg9; have O9 : Hid (OwnP u9 h v9 (L ++ [⟨xk, xv, false⟩]) ∧ u8.grownBy u9 V.ownBlock) := ⟨ho9, hg9⟩; clear ho9 hg9)
        have hR9 : Rdr u9 bn br g M2 := R8.out.kept fun k hk => O9.out.2.block k (by have := LT.out; have := Z8.out; rcases hk with rfl | rfl | rfl <;> omega) (fun e => by have := (HOV.out k e.symm).1; have := LT.out; rcases hk with rfl | rfl | rfl <;> omega)
        have hB9 : Below w.heap.size w u9 := ⟨O9.out.2.os.trans Bu8.out.os, O9.out.2.tape.trans Bu8.out.tape, O9.out.2.output.trans Bu8.out.output, Nat.le_trans Bu8.out.size O9.out.2.size, fun k hk => (O9.out.2.block k (by have := Bu8.out.size; omega) (fun e => by have := (HOV.out k e.symm).1; have := LT.out; omega)).trans (Bu8.out.block k hk)⟩
        have RW9 : Hid (Rdr u9 bn br g (rL (j + 1) C).2 ∧ OwnP u9 h v9 (rL (j + 1) C).1 ∧ Below w.heap.size w u9 ∧ h ≤ u9.heap.size) := by
          rw [HSN.out.1, HSN.out.2, HRX.out]
          exact ⟨hR9, O9.out.1, hB9, Nat.le_trans Z8.out O9.out.2.size⟩
        clear hR9 hB9
        go_roundg (n - (j + 1))
        case measure => omega
        case rel => exact ⟨j + 1, by omega, rfl, by simp, RW9⟩
    · have j1 : decide ((j : Int) < (n : Int)) = false := by rw [decide_eq_false_iff_not]; omega
      obtain rfl : j = n := by omega
      have HF : Hid (OwnP wr w.heap.size u5 (rL j C).1) := RW.out.2.1.base LT.out.2.2.2
      have HBF : Hid (Below w.heap.size w wr) := RW.out.2.2.1
      go_wp2_with fail
      go_ret
      exact ⟨_, rfl, HF.out, HBF.out⟩
theorem kRead_ok (l : List Pt) (h64 : l.length ≤ 64) (hok : ∀ x ∈ l, badP x = false) (w : World) :
    Calls Tryz.prog 67 #[.string (strOfNums (eB l))] w fun e w' => ∃ v, e = .returned v ∧ OwnP w' w.heap.size v l ∧ Below w.heap.size w w' := by
  have hcl := csB_len hok
  have k := kRead_is (eB l) (isB_app (vk_bytes _ (by omega)) (csB_bytes hok)) (by
    have := (vk_len l.length).2
    unfold eB
    rw [List.length_append]
    omega) w
  rw [rdB_eB h64 hok] at k
  exact k
theorem fit_ok {l : List Pt} (h : ∀ x ∈ l, badP x = false) : FitP l := fun x hx => by
  have := badP_no (h x hx)
  exact ⟨by omega, by omega⟩
/-- Decode's answer -/
def DecSaid (base : Nat) (o : Option (List Pt)) (e : Ending) (w' : World) : Prop := match o with
  | some l => ∃ v, e = .returned (.tuple #[v, .int .i64 0]) ∧ OwnP w' base v l
  | none => e = .returned (.tuple #[.slice none 0 0, .int .i64 5])
set_option maxRecDepth 100000 in
set_option maxHeartbeats 4000000 in
theorem kDecode_is (B : List Int) (hB : IsBytes B) (hl : B.length ≤ 140737488355328) (w : World) :
    Calls Tryz.prog 26 #[.string (strOfNums B)] w fun e w' => DecSaid w.heap.size (decA B) e w' ∧ Below w.heap.size w w' := by
  have KR : Hid (Calls Tryz.prog 67 #[.string (strOfNums B)] w fun e w' => ∃ v, e = .returned v ∧ OwnP w' w.heap.size v (rdB B) ∧ Below w.heap.size w w') := kRead_is B hB hl w
  have h64 := rdB_len B
  have hfit : FitP (rdB B) := fun x hx => by have := rdB_fit B x hx; exact ⟨by omega, by omega⟩
  have KE : Hid (∀ a c W, InP W a (rdB B) → Calls Tryz.prog 24 #[.slice a (rdB B).length c] W fun e w' => e = .returned (.tuple #[.string (strOfNums (encA (rdB B)).2), .int .i64 (encA (rdB B)).1]) ∧ Below W.heap.size W w') := fun a c W hW => kEncode_is (rdB B) (rdB B).length rfl (by omega) hfit a c W hW
  have HDA : Hid (decA B = if encA (rdB B) = (0, B) then some (rdB B) else none) := rfl
  have HEB : Hid ((encA (rdB B)).1 = 0 → IsBytes (encA (rdB B)).2) := fun e => (encA_bytes (B := (encA (rdB B)).2) (by rw [← e])).1
  have HEC : Hid ((encA (rdB B)).1 = 0 ∨ (encA (rdB B)).1 = 2 ∨ (encA (rdB B)).1 = 3) := encA_code _
  have HBB : Hid (IsBytes B) := hB
  rw [HDA.out]
  generalize rdB B = l at *
  generalize encA l = R at *
  obtain ⟨R1, R2⟩ := R
  simp only at KE HEB HEC
  clear h64 hfit HDA hB
  have go : ∀ r : Option (List Pt), (if ((R1, R2) : Int × List Int) = (0, B) then some l else none) = r → Calls Tryz.prog 26 #[.string (strOfNums B)] w fun e w' => DecSaid w.heap.size r e w' ∧ Below w.heap.size w w' := by
    intro r hr
    have HR : Hid ((if ((R1, R2) : Int × List Int) = (0, B) then some l else none) = r) := hr
    clear hr
    have cmp : R1 = 0 → ((strOfNums R2).toList == (strOfNums B).toList) = decide (R2 = B) := fun e => str_eq R2 B (fun x hx => bytes_mem (HEB.out e) x hx) (fun x hx => bytes_mem HBB.out x hx)
    have HCMP : Hid (R1 = 0 → ((strOfNums R2).toList == (strOfNums B).toList) = decide (R2 = B)) := cmp
    obtain ⟨st, hst⟩ : ∃ st, strOfNums B = st := ⟨_, rfl⟩
    obtain ⟨s2, hs2⟩ : ∃ s2, strOfNums R2 = s2 := ⟨_, rfl⟩
    rw [hst] at KR HCMP ⊢
    rw [hs2] at KE HCMP
    have HS2 : Hid (strOfNums R2 = s2 ∧ strOfNums B = st) := ⟨hs2, hst⟩
    clear cmp hst hs2
    by_cases h0 : R1 = 0
    · subst h0
      by_cases h1 : R2 = B
      · have HE : Hid (r = some l) := by show _ = _; rw [← HR.out, if_pos (by rw [h1])]
        have e1 : s2 = st := by rw [← HS2.out.1, ← HS2.out.2, h1]
        clear HR HCMP h1 HS2
        subst e1
        go_enter Tryz.func26, Tryz.ntmps26
        go_wp2_with fail
        refine KR.out.mono ?_
        rintro e w1 ⟨v, rfl, ho, hb1⟩
        obtain ⟨a, c, rfl, hi, _⟩ := ho.slice
        have O1 : Hid (OwnP w1 w.heap.size (.slice a l.length c) l) := ho
        have B1 : Hid (Below w.heap.size w w1) := hb1
        have KE1 : Hid (Calls Tryz.prog 24 #[.slice a l.length c] w1 fun e w' => e = .returned (.tuple #[.string s2, .int .i64 0]) ∧ Below w1.heap.size w1 w') := KE.out a c w1 hi
        clear ho hb1 hi
        go_wp2_with fail
        refine KE1.out.mono ?_
        rintro e w2 ⟨rfl, hb2⟩
        have O2 : Hid (OwnP w2 w.heap.size (.slice a l.length c) l) := O1.out.keep hb2
        have B2 : Hid (Below w.heap.size w w2) := B1.out.trans (hb2.mono B1.out.size)
        clear hb2
        go_wp2_with fail
        go_ret2
        rw [HE.out]
        exact ⟨⟨_, rfl, O2.out⟩, B2.out⟩
      · have HE : Hid (r = none) := by show _ = _; rw [← HR.out, if_neg (fun e => h1 (Prod.mk.inj e).2)]
        have e1 : (s2.toList == st.toList) = false := by rw [HCMP.out rfl]; simp [h1]
        have e2 : (s2.toList != st.toList) = true := by simp [bne, e1]
        have e3 : ¬ s2.toList = st.toList := by simpa using e1
        clear HR HCMP h1 HS2
        go_enter Tryz.func26, Tryz.ntmps26
        go_wp2_with fail
        refine KR.out.mono ?_
        rintro e w1 ⟨v, rfl, ho, hb1⟩
        obtain ⟨a, c, rfl, hi, _⟩ := ho.slice
        have B1 : Hid (Below w.heap.size w w1) := hb1
        have KE1 : Hid (Calls Tryz.prog 24 #[.slice a l.length c] w1 fun e w' => e = .returned (.tuple #[.string s2, .int .i64 0]) ∧ Below w1.heap.size w1 w') := KE.out a c w1 hi
        clear ho hb1 hi
        go_wp2_with fail
        refine KE1.out.mono ?_
        rintro e w2 ⟨rfl, hb2⟩
        have B2 : Hid (Below w.heap.size w w2) := B1.out.trans (hb2.mono B1.out.size)
        clear hb2
        go_wp2_with fail
        go_ret2
        rw [HE.out]
        exact ⟨rfl, B2.out⟩
    · have HE : Hid (r = none) := by show _ = _; rw [← HR.out, if_neg (fun e => h0 (Prod.mk.inj e).1)]
      have e1 : (R1 != 0) = true := by simp [bne, h0]
      have e2 : (R1 == 0) = false := by simp [h0]
      clear HR HCMP HS2
      go_enter Tryz.func26, Tryz.ntmps26
      go_wp2_with fail
      refine KR.out.mono ?_
      rintro e w1 ⟨v, rfl, ho, hb1⟩
      obtain ⟨a, c, rfl, hi, _⟩ := ho.slice
      have B1 : Hid (Below w.heap.size w w1) := hb1
      have KE1 : Hid (Calls Tryz.prog 24 #[.slice a l.length c] w1 fun e w' => e = .returned (.tuple #[.string s2, .int .i64 R1]) ∧ Below w1.heap.size w1 w') := KE.out a c w1 hi
      clear ho hb1 hi
      go_wp2_with fail
      refine KE1.out.mono ?_
      rintro e w2 ⟨rfl, hb2⟩
      have B2 : Hid (Below w.heap.size w w2) := B1.out.trans (hb2.mono B1.out.size)
      clear hb2
      go_wp2_with fail
      go_ret2
      rw [HE.out]
      exact ⟨rfl, B2.out⟩
  exact go _ rfl
theorem kDecode_ok (l : List Pt) (B : List Int) (hE : encA l = (0, B)) (w : World) :
    Calls Tryz.prog 26 #[.string (strOfNums B)] w fun e w' => ∃ v, e = .returned (.tuple #[v, .int .i64 0]) ∧ OwnP w' w.heap.size v l ∧ Below w.heap.size w w' := by
  obtain ⟨b1, b2⟩ := encA_bytes hE
  refine (kDecode_is B b1 (by omega) w).mono ?_
  rintro e w' ⟨h1, h2⟩
  rw [dec_enc hE] at h1
  obtain ⟨v, h3, h4⟩ := h1
  exact ⟨v, h3, h4, h2⟩
end Go.Proofs.YtcindeechmpalaaGreat
namespace Go.Proofs.YtcindeechmpalaaGreat
open Go.ChangeShapes Go.WideShapes Go.ChangeAt Go.RowKit Go.Deep Go.Maps
set_option linter.unusedVariables false
set_option linter.unusedSimpArgs false
/-- a database, a disk that no call made -/
def NoK (w : World) (v : Value) : Prop := v = .pointer none ∨ ∃ b, v = .pointer (some ⟨b, 0, none⟩) ∧ w.cell? ⟨b, 0, none⟩ = some (.pointer none)
def NoDk (w : World) (v : Value) : Prop := v = .pointer none ∨ ∃ b, v = .pointer (some ⟨b, 0, none⟩) ∧ w.cell? ⟨b, 0, none⟩ = some (.slice none 0 0)
theorem knone (w : World) (v : Value) (h : NoK w v) : Calls Tryz.prog 42 #[v] w fun e w' => e = .returned (.bool true) ∧ w' = w := by
  rcases h with rfl | ⟨b, rfl, hc⟩
  · go_enter Tryz.func42, Tryz.ntmps42
    go_wp2_with fail
    go_ret
    exact ⟨rfl, rfl⟩
  · go_enter Tryz.func42, Tryz.ntmps42
    go_wp2_with fail
    go_ret
    exact ⟨rfl, rfl⟩
theorem kget0 (w : World) (v : Value) (h : NoK w v) (S : ByteArray) : Calls Tryz.prog 29 #[v, .string S] w fun e w' => e = .returned (.tuple #[.string ⟨#[]⟩, .bool false]) ∧ w' = w := by
  have K : Hid (Calls Tryz.prog 42 #[v] w fun e w' => e = .returned (.bool true) ∧ w' = w) := knone w v h
  clear h
  go_enter Tryz.func29, Tryz.ntmps29
  go_wp2_with fail
  refine K.out.mono ?_
  rintro e w1 ⟨rfl, rfl⟩
  go_wp2_with fail
  go_ret2
  exact ⟨rfl, rfl⟩
theorem kdo0 (w : World) (v : Value) (h : NoK w v) (a : Option Addr) (n c : Nat) : Calls Tryz.prog 15 #[v, .slice a n c] w fun e w' => e = .returned (.int .i64 1) ∧ w' = w := by
  have K : Hid (Calls Tryz.prog 42 #[v] w fun e w' => e = .returned (.bool true) ∧ w' = w) := knone w v h
  clear h
  go_enter Tryz.func15, Tryz.ntmps15
  go_wp2_with fail
  refine K.out.mono ?_
  rintro e w1 ⟨rfl, rfl⟩
  go_wp2_with fail
  go_ret
  exact ⟨rfl, rfl⟩
theorem kcompact0 (w : World) (v : Value) (h : NoK w v) : Calls Tryz.prog 17 #[v] w fun e w' => e = .returned (.int .i64 1) ∧ w' = w := by
  have K : Hid (Calls Tryz.prog 42 #[v] w fun e w' => e = .returned (.bool true) ∧ w' = w) := knone w v h
  clear h
  go_enter Tryz.func17, Tryz.ntmps17
  go_wp2_with fail
  refine K.out.mono ?_
  rintro e w1 ⟨rfl, rfl⟩
  go_wp2_with fail
  go_ret
  exact ⟨rfl, rfl⟩
theorem kscan0 (w : World) (v : Value) (h : NoK w v) (S R : ByteArray) : Calls Tryz.prog 30 #[v, .string S, .string R] w fun e w' => e = .returned (.slice none 0 0) ∧ w' = w := by
  have K : Hid (Calls Tryz.prog 42 #[v] w fun e w' => e = .returned (.bool true) ∧ w' = w) := knone w v h
  clear h
  go_enter Tryz.func30, Tryz.ntmps30
  go_wp2_with fail
  refine K.out.mono ?_
  rintro e w1 ⟨rfl, rfl⟩
  go_wp2_with fail
  go_ret
  exact ⟨rfl, rfl⟩
theorem klen0 (w : World) (v : Value) (h : NoK w v) : Calls Tryz.prog 31 #[v] w fun e w' => e = .returned (.int .i64 0) ∧ w' = w := by
  have K : Hid (Calls Tryz.prog 42 #[v] w fun e w' => e = .returned (.bool true) ∧ w' = w) := knone w v h
  clear h
  go_enter Tryz.func31, Tryz.ntmps31
  go_wp2_with fail
  refine K.out.mono ?_
  rintro e w1 ⟨rfl, rfl⟩
  go_wp2_with fail
  go_ret
  exact ⟨rfl, rfl⟩
theorem dnone (w : World) (v : Value) (h : NoDk w v) : Calls Tryz.prog 51 #[v] w fun e w' => e = .returned (.bool true) ∧ w' = w := by
  rcases h with rfl | ⟨b, rfl, hc⟩
  · go_enter Tryz.func51, Tryz.ntmps51
    go_wp2_with fail
    go_ret
    exact ⟨rfl, rfl⟩
  · go_enter Tryz.func51, Tryz.ntmps51
    go_wp2_with fail
    go_ret
    exact ⟨rfl, rfl⟩
theorem dblocks (w : World) (v : Value) (h : NoDk w v) : Calls Tryz.prog 70 #[v] w fun e w' => e = .returned (.int .i64 0) ∧ w' = w := by
  have K : Hid (Calls Tryz.prog 51 #[v] w fun e w' => e = .returned (.bool true) ∧ w' = w) := dnone w v h
  clear h
  go_enter Tryz.func70, Tryz.ntmps70
  go_wp2_with fail
  refine K.out.mono ?_
  rintro e w1 ⟨rfl, rfl⟩
  go_wp2_with fail
  go_ret
  exact ⟨rfl, rfl⟩
theorem open_no (w : World) (v : Value) (h : NoDk w v) : Calls Tryz.prog 37 #[v] w fun e w' => e = .returned (.tuple #[.pointer none, .int .i64 1]) ∧ w' = w := by
  have K : Hid (Calls Tryz.prog 70 #[v] w fun e w' => e = .returned (.int .i64 0) ∧ w' = w) := dblocks w v h
  clear h
  go_enter Tryz.func37, Tryz.ntmps37
  go_wp2_with fail
  refine K.out.mono ?_
  rintro e w1 ⟨rfl, rfl⟩
  go_wp2_with fail
  go_ret2
  exact ⟨rfl, rfl⟩
theorem kopen_no (w : World) (v : Value) (h : NoDk w v) : Calls Tryz.prog 12 #[v] w fun e w' => e = .returned (.tuple #[.pointer none, .int .i64 1]) ∧ w' = w := by
  have K : Hid (Calls Tryz.prog 37 #[v] w fun e w' => e = .returned (.tuple #[.pointer none, .int .i64 1]) ∧ w' = w) := open_no w v h
  clear h
  go_enter Tryz.func12, Tryz.ntmps12
  go_wp2_with fail
  refine K.out.mono ?_
  rintro e w1 ⟨rfl, rfl⟩
  go_wp2_with fail
  go_ret2
  exact ⟨rfl, rfl⟩
end Go.Proofs.YtcindeechmpalaaGreat
namespace Go.Proofs.YtcindeechmpalaaGreat
open Go.ChangeShapes Go.WideShapes Go.ChangeAt Go.RowKit Go.Deep Go.Maps
set_option linter.unusedVariables false
set_option linter.unusedSimpArgs false
def noT : ByteArray → Option Pt := fun _ => none
def chTs (bs : List (List Pt)) : ByteArray → Option Pt := bs.foldl chT noT
theorem chTs_snoc (bs : List (List Pt)) (b : List Pt) : chTs (bs ++ [b]) = chT (chTs bs) b := by unfold chTs; rw [List.foldl_append]; rfl
/-- the records are the bytes of these batches -/
def Bts (R : List (List Int)) (bs : List (List Pt)) : Prop := R = bs.map eB ∧ ∀ b ∈ bs, encA b = (0, eB b)
theorem Pm.grownK {w w' : World} {b n : Nat} {T : ByteArray → Option Pt} (h : Pm w b n T) (hs : w.heap.size ≤ w'.heap.size) (hb : w'.heap[b]? = w.heap[b]?) (ho : w'.os = w.os) (ht : w'.tape = w.tape) (hp : w'.output = w.output) : Pm w' b n T := by
  obtain ⟨D, ⟨es, clock, h1, r⟩, h2⟩ := h
  exact ⟨D, ⟨es, clock, hb.trans h1, r⟩, h2⟩
set_option maxRecDepth 100000 in
set_option maxHeartbeats 8000000 in
theorem kOpen_ok {w wz : World} {P : Nat → Prop} {bd N : Nat} {s s' : Ds} {l : Lg} (T : Wd w wz P bd N s) (hN : N < 900000) (hop : s.opn = (0, some l, s')) (bs : List (List Pt)) (hR : Bts l.R bs) :
    Calls Tryz.prog 12 #[.pointer (some ⟨bd, 0, none⟩)] wz fun e w' => ∃ bb bl mb, e = .returned (.tuple #[.pointer (some ⟨bb, 0, none⟩), .int .i64 0]) ∧ Kb w w' P bb bd bl mb (N + 2) (64 * bs.length) s' l (chTs bs) ∧ ∀ k, P k → w'.heap[k]? = wz.heap[k]? := by
  have KO : Hid (Calls Tryz.prog 37 #[.pointer (some ⟨bd, 0, none⟩)] wz fun e w' => (∀ k, P k → w'.heap[k]? = wz.heap[k]?) ∧ wz.heap.size ≤ w'.heap.size ∧ ∃ bl, e = .returned (.tuple #[.pointer (some ⟨bl, 0, none⟩), .int .i64 0]) ∧ Wl w w' P bd bl (N + 2) s' l) := by
    have k := wd_open T (by omega)
    rw [hop] at k
    refine k.mono ?_
    rintro e w' ⟨h1, h2, ⟨_, bl, l', hl, he, hw, _⟩ | ⟨h0, _⟩⟩
    · have e2 : l = l' := Option.some.inj hl
      subst e2
      exact ⟨h1, h2, bl, he, hw⟩
    · exact absurd rfl h0
  have HP0 : Hid (∀ k, P k → k < wz.heap.size) := fun k hk => by
    obtain ⟨F, _, _, a3⟩ := T.ex
    exact (a3 k hk).1
  have HWB : Hid (w.heap.size ≤ wz.heap.size) := T.bel.size
  obtain ⟨hR1, hR2⟩ := hR
  have HR : Hid (l.R = bs.map eB) := hR1
  have HE : Hid (∀ b ∈ bs, encA b = (0, eB b)) := hR2
  clear T hop hR1 hR2
  go_enter Tryz.func12, Tryz.ntmps12
  go_wp2_with fail
  refine KO.out.mono ?_
  rintro e w1 ⟨hk1, hz1, bl, rfl, hw1⟩
  have W1 : Hid (Wl w w1 P bd bl (N + 2) s' l ∧ (∀ k, P k → w1.heap[k]? = wz.heap[k]?) ∧ wz.heap.size ≤ w1.heap.size) := ⟨hw1, hk1, hz1⟩
  clear hk1 hz1 hw1 KO
  obtain ⟨w2, hw2⟩ : ∃ w2, w1.alloc (.map #[] 0) = w2 := ⟨_, rfl⟩
  obtain ⟨w3, hw3⟩ : ∃ w3, w2.alloc (.cells #[.pointer (some ⟨bl, 0, none⟩), .map (some w1.heap.size)] 67) = w3 := ⟨_, rfl⟩
  have hz2 : w2.heap.size = w1.heap.size + 1 := by rw [← hw2]; simp
  have hmm : (Instr.makeMap 65 none).run Tryz.prog w1 = .ok (.map (some w1.heap.size)) w2 := by rw [← hw2]; rfl
  have hb2 : Below w1.heap.size w1 w2 := by rw [← hw2]; exact below1 _ _
  have hb3 : Below w2.heap.size w2 w3 := by rw [← hw3]; exact below1 _ _
  obtain ⟨mb, hmb⟩ : ∃ mb, w1.heap.size = mb := ⟨_, rfl⟩
  obtain ⟨bb, hbb⟩ : ∃ bb, w2.heap.size = bb := ⟨_, rfl⟩
  have M3 : Hid (Pm w3 mb 0 noT) := by
    have q := Pm.empty w1
    rw [hw2, hmb] at q
    exact q.keep hb3
  have X3 : Hid (w3.heap[bb]? = some (kO bl mb)) := by show _ = _; rw [← hw3, ← hbb, hmb]; exact heap_alloc_new w2 _
  obtain ⟨Q, hQ⟩ : ∃ Q : Nat → Prop, Q = fun k => (P k ∨ k = bb ∨ k = mb) ∨ (w3.heap.size ≤ k) := ⟨_, rfl⟩
  have hz3 : w3.heap.size = bb + 1 := by rw [← hw3, ← hbb]; simp
  have W3 : Hid (Wl w w3 (fun k => P k ∨ k = bb ∨ k = mb) bd bl (N + 2) s' l) := ((W1.out.1.keep hb2).keep hb3).less fun k hk => by
    rcases hk with h | h | h
    · exact .inl (.inl h)
    · exact .inr ⟨by omega, by omega⟩
    · exact .inl (.inr ⟨by omega, by omega⟩)
  have HBM : Hid (bb = mb + 1 ∧ w3.heap.size = bb + 1 ∧ wz.heap.size ≤ mb) := ⟨by omega, hz3, by have := W1.out.2.2; omega⟩
  have HPK : Hid (∀ k, P k → w3.heap[k]? = wz.heap[k]? ∧ k < wz.heap.size) := fun k hk => ⟨((hb3.block k (by have := HP0.out k hk; have := W1.out.2.2; omega)).trans (hb2.block k (by have := HP0.out k hk; have := W1.out.2.2; omega))).trans (W1.out.2.1 k hk), HP0.out k hk⟩
  have KRec : Hid (Calls Tryz.prog 38 #[.pointer (some ⟨bl, 0, none⟩)] w3 fun e w' => ∃ v, e = .returned v ∧ RowsS w' w3.heap.size v l.R ∧ Below w3.heap.size w3 w') := wl_records W3.out
  have HFew : Hid (l.R.length ≤ 16376) := W3.out.ok.few.1
  have W3E : Hid (w2.alloc (.cells #[.pointer (some ⟨bl, 0, none⟩), .map (some w1.heap.size)] 67) = w3 ∧ w1.heap.size = mb ∧ w2.heap.size = bb) := ⟨hw3, hmb, hbb⟩
  clear hw2 hw3 hz2 hz3 hb2 hb3 hmb hbb hQ W1
  go_wp2_with fail
  rw [show World.alloc w2 _ = w3 from W3E.out.1, W3E.out.2.2, W3E.out.2.1]
  refine KRec.out.mono ?_
  rintro e w4 ⟨v, rfl, hr4, hb4⟩
  obtain ⟨ar, cr, rfl, hn4, hi4, hl4, hc4⟩ := RowsS.slice hr4
  obtain ⟨n, hn⟩ : ∃ n, l.R.length = n := ⟨_, rfl⟩
  have HN : Hid (l.R.length = n ∧ bs.length = n ∧ n ≤ 16376) := ⟨hn, by rw [← hn, HR.out, List.length_map], by rw [← hn]; exact HFew.out⟩
  have HAR : Hid (∀ x, ar = some x → w3.heap.size ≤ x.block) := fun x hx => (hr4.own x.block (by rw [hx]; rfl)).1
  have S4 : Hid (Wl w w4 (fun k => P k ∨ k = bb ∨ k = mb) bd bl (N + 2) s' l ∧ w4.heap[bb]? = some (kO bl mb) ∧ Pm w4 mb 0 noT ∧ InS w4 ar l.R ∧ (∀ k, P k → w4.heap[k]? = wz.heap[k]?)) := ⟨W3.out.keep0 hb4, (hb4.block bb (by have := HBM.out; omega)).trans X3.out, M3.out.keep hb4, hi4, fun k hk => (hb4.block k (by have := (HPK.out k hk).2; have := HBM.out; omega)).trans (HPK.out k hk).1⟩
  rw [hn] at hl4 ⊢
  clear hr4 hb4 hn4 hi4 hn KRec W3 X3 M3
  go_wp2_with fail
  go_loopg [26] n (fun gg iv wq => ∃ j : Nat, j ≤ n ∧ gg = n - j ∧ iv = .int .i64 (j : Int) ∧ Hid (Wl w wq (fun k => P k ∨ k = bb ∨ k = mb) bd bl (N + 2) s' l ∧ wq.heap[bb]? = some (kO bl mb) ∧ Pm wq mb (64 * j) (chTs (bs.take j)) ∧ InS wq ar l.R ∧ (∀ k, P k → wq.heap[k]? = wz.heap[k]?)))
  case atStart => exact ⟨0, Nat.zero_le _, rfl, rfl, S4⟩
  case round =>
    obtain ⟨j, hj, rfl, rfl, RW⟩ := hrel
    clear S4
    by_cases hlt : j < n
    · have j1 : decide ((j : Int) < (n : Int)) = true := by rw [decide_eq_true_eq]; omega
      obtain ⟨b, hb⟩ : ∃ b, bs[j]? = some b := ⟨bs[j]'(by have := HN.out; omega), List.getElem?_eq_getElem _⟩
      have hEb := HE.out b (List.mem_of_getElem? hb)
      obtain ⟨_, _, h64, hok, _⟩ := encA_ok hEb
      have hLb : l.R.getD j [] = eB b := by rw [HR.out, List.getD_eq_getElem?_getD, List.getElem?_map, hb]; rfl
      obtain ⟨g, off, rfl, hc⟩ : ∃ g off, ar = some ⟨g, off, none⟩ ∧ ∀ i, i < l.R.length → wr.cell? ⟨g, off + i, none⟩ = some (.string (strOfNums (l.R.getD i []))) := by
        rcases RW.out.2.2.2.1 with e | h
        · have := HN.out.1; rw [e] at this; simp at this; omega
        · exact h
      have kc := hc j (by have := HN.out; omega)
      rw [hLb] at kc
      have hgm : g ≠ mb := by have q1 := HAR.out _ rfl; have q2 := HBM.out; simp only at q1; omega
      have KD : Hid (Calls Tryz.prog 26 #[.string (strOfNums (eB b))] wr fun e w' => ∃ v, e = .returned (.tuple #[v, .int .i64 0]) ∧ OwnP w' wr.heap.size v b ∧ Below wr.heap.size wr w') := kDecode_ok b (eB b) hEb wr
      have HBK : Hid (b.length ≤ 64 ∧ ∀ x ∈ b, x.k.size ≤ 140737488355328) := ⟨h64, fun x hx => by have := badP_no (hok x hx); omega⟩
      have HTK : Hid (chTs (bs.take (j + 1)) = chT (chTs (bs.take j)) b) := by
        show _ = _
        obtain ⟨h1, h2⟩ := List.getElem?_eq_some_iff.1 hb
        rw [List.take_succ_eq_append_getElem h1, h2, chTs_snoc]
      have ri : IntKind.i64.wrap ((j : Int) + 1) = (j : Int) + 1 := by rw [IntKind.wrap_i64]; have := HN.out; omega
      have HLT : Hid (mb < wr.heap.size ∧ bb < wr.heap.size) := ⟨RW.out.2.2.1.lt, lt_of_heapK RW.out.2.1⟩
      clear hb hEb h64 hok hLb hc
      generalize strOfNums (eB b) = st at *
      go_wp2_with fail
      refine KD.out.mono ?_
      rintro e w5 ⟨v, rfl, ho5, hb5⟩
      obtain ⟨a5, c5, rfl, hi5, _, _, _, hbl5⟩ := ho5.slice
      have S5 : Hid (Wl w w5 (fun k => P k ∨ k = bb ∨ k = mb) bd bl (N + 2) s' l ∧ w5.heap[bb]? = some (kO bl mb) ∧ Pm w5 mb (64 * j) (chTs (bs.take j)) ∧ InS w5 (some ⟨g, off, none⟩) l.R ∧ (∀ k, P k → w5.heap[k]? = wz.heap[k]?)) := ⟨RW.out.1.keep0 hb5, (hb5.block bb HLT.out.2).trans RW.out.2.1, RW.out.2.2.1.keep hb5, RW.out.2.2.2.1.keep hb5, fun k hk => (hb5.block k (by have := (HPK.out k hk).2; have := HBM.out; have := HLT.out; omega)).trans (RW.out.2.2.2.2 k hk)⟩
      have KS : Hid (Calls Tryz.prog 39 #[.map (some mb), .slice a5 b.length c5] w5 fun e w' => e = .returned (.tuple #[]) ∧ Pm w' mb (64 * j + b.length) (chT (chTs (bs.take j)) b) ∧ w5.grownBy w' (some mb)) := kSet_is b b.length rfl (by have := HBK.out; omega) HBK.out.2 a5 c5 mb (64 * j) (by have := HN.out; omega) _ w5 hi5 S5.out.2.2.1 (fun x hx _ => by have := (hbl5 x hx).1; have := HLT.out; omega)
      obtain ⟨q0, q1⟩ := ko_cells S5.out.2.1
      clear ho5 hb5 hi5 hbl5 kc KD RW
      go_wp2_with fail
      refine KS.out.mono ?_
      rintro e w6 ⟨rfl, hm6, hg6⟩
      have S6 : Hid (Wl w w6 (fun k => P k ∨ k = bb ∨ k = mb) bd bl (N + 2) s' l ∧ w6.heap[bb]? = some (kO bl mb) ∧ Pm w6 mb (64 * (j + 1)) (chTs (bs.take (j + 1))) ∧ InS w6 (some ⟨g, off, none⟩) l.R ∧ (∀ k, P k → w6.heap[k]? = wz.heap[k]?)) := by
        refine ⟨S5.out.1.grown0 hg6 (fun k e => ⟨.inr (.inr (Option.some.inj e).symm), by have := HBM.out; have := HWB.out; have := Option.some.inj e; omega⟩), (hg6.block bb (lt_of_heapK S5.out.2.1) (fun e => by have := HBM.out; have := Option.some.inj e; omega)).trans S5.out.2.1, ?_, S5.out.2.2.2.1.kept fun x hx hne => ?_, fun k hk => (hg6.block k ?_ (fun e => by have := (HPK.out k hk).2; have := HBM.out; have := Option.some.inj e; omega)).trans (S5.out.2.2.2.2 k hk)⟩
        · rw [HTK.out]
          exact hm6.mono (by have := HBK.out.1; omega)
        · cases hx
          exact hg6.block g (S5.out.2.2.2.1.lt _ rfl hne) (fun e => hgm (Option.some.inj e))
        · have h1 := (HPK.out k hk).2
          have h2 := HBM.out
          have h3 := S5.out.2.2.1.lt
          omega
      clear hm6 hg6 q0 q1 KS S5
      go_wp2_with fail
      go_roundg (n - (j + 1))
      case measure => omega
      case rel => exact ⟨j + 1, by omega, rfl, by simp, S6⟩
    · have j1 : decide ((j : Int) < (n : Int)) = false := by rw [decide_eq_false_iff_not]; omega
      have HF : Hid (Kb w wr P bb bd bl mb (N + 2) (64 * bs.length) s' l (chTs bs) ∧ ∀ k, P k → wr.heap[k]? = wz.heap[k]?) := by
        obtain ⟨a1, a2, a3, a4, a5⟩ := RW.out
        rw [List.take_of_length_le (by have := HN.out; omega)] at a3
        have h1 := HBM.out
        have h2 := HWB.out
        exact ⟨⟨a1, a2, a3.mono (by have := HN.out; omega), ⟨by omega, by omega⟩, by omega, fun k hk => by have := (HPK.out k hk).2; exact ⟨by omega, by omega⟩⟩, a5⟩
      go_wp2_with fail
      go_ret2
      exact ⟨bb, bl, mb, rfl, HF.out⟩
end Go.Proofs.YtcindeechmpalaaGreat
namespace Go.Proofs.YtcindeechmpalaaGreat
open Go.ChangeShapes Go.WideShapes Go.ChangeAt Go.RowKit Go.Deep Go.Maps
set_option linter.unusedVariables false
set_option linter.unusedSimpArgs false
theorem Kb.more {w wr : World} {P : Nat → Prop} {bb bd bl mb N C N' C' : Nat} {s : Ds} {l : Lg} {T : ByteArray → Option Pt} (h : Kb w wr P bb bd bl mb N C s l T) (hN : N ≤ N') (hC : C ≤ C') : Kb w wr P bb bd bl mb N' C' s l T :=
  ⟨h.wl.more hN, h.box, h.mp.mono hC, h.ge, h.ne⟩
theorem Kb.step {w wr w' : World} {P : Nat → Prop} {bb bd bl mb N N' C : Nat} {s s' : Ds} {l l' : Lg} {T : ByteArray → Option Pt} (h : Kb w wr P bb bd bl mb N C s l T) (hw : Wl w w' (fun k => P k ∨ k = bb ∨ k = mb) bd bl N' s' l') (hk : ∀ k, P k ∨ k = bb ∨ k = mb → w'.heap[k]? = wr.heap[k]?) : Kb w w' P bb bd bl mb N' C s' l' T := by
  refine ⟨hw, (hk bb (.inr (.inl rfl))).trans h.box, ?_, h.ge, h.ne⟩
  obtain ⟨D, ⟨es, clock, h1, r⟩, h2⟩ := h.mp
  exact ⟨D, ⟨es, clock, (hk mb (.inr (.inr rfl))).trans h1, r⟩, h2⟩
theorem Kb.keep {w wr w' : World} {P : Nat → Prop} {bb bd bl mb N C : Nat} {s : Ds} {l : Lg} {T : ByteArray → Option Pt} (h : Kb w wr P bb bd bl mb N C s l T) (hb : Below wr.heap.size wr w') : Kb w w' (fun k => P k ∨ (wr.heap.size ≤ k ∧ k < w'.heap.size)) bb bd bl mb N C s l T := by
  have h1 := lt_of_heapK h.box
  have h2 := h.mp.lt
  refine ⟨(h.wl.keep hb).less fun k hk => ?_, (hb.block bb h1).trans h.box, h.mp.keep hb, h.ge, h.ne.1, fun k hk => ?_⟩
  · rcases hk with (h | h) | h | h
    · exact .inl (.inl h)
    · exact .inr h
    · exact .inl (.inr (.inl h))
    · exact .inl (.inr (.inr h))
  · rcases hk with hk | hk
    · exact h.ne.2 k hk
    · exact ⟨by omega, by omega⟩
theorem Kb.less {w wr : World} {P Q : Nat → Prop} {bb bd bl mb N C : Nat} {s : Ds} {l : Lg} {T : ByteArray → Option Pt} (h : Kb w wr P bb bd bl mb N C s l T) (hq : ∀ k, Q k → P k) : Kb w wr Q bb bd bl mb N C s l T :=
  ⟨h.wl.less fun k hk => hk.elim (fun e => .inl (hq k e)) .inr, h.box, h.mp, h.ge, h.ne.1, fun k hk => h.ne.2 k (hq k hk)⟩
set_option maxRecDepth 100000 in
set_option maxHeartbeats 4000000 in
theorem kWrite_ok {w wr : World} {P : Nat → Prop} {bb bd bl mb N C : Nat} {s : Ds} {l : Lg} {T : ByteArray → Option Pt} (K : Kb w wr P bb bd bl mb N C s l T) (hN : N + 3000 < 999900) (B : List Int) (hB : IsBytes B) (hadd : (l.add B).1 = 0) (hfit : 2 + (l.add B).2.ar * (l.add B).2.m + (l.add B).2.m ≤ s.D.length) (v : Value) :
    Calls Tryz.prog 43 #[.pointer (some ⟨bb, 0, none⟩), .string (strOfNums B), v] wr fun e w' => e = .returned (.int .i64 ((l.add B).2.sync s).1) ∧ Kb w w' P bb bd bl mb (N + 2100) C ((l.add B).2.sync s).2.2 ((l.add B).2.sync s).2.1 T ∧ ∀ k, P k → w'.heap[k]? = wr.heap[k]? := by
  have KA : Hid (Calls Tryz.prog 79 #[.pointer (some ⟨bl, 0, none⟩), .string (strOfNums B)] wr fun e w' => e = .returned (.int .i64 0) ∧ Kb w w' P bb bd bl mb N C s (l.add B).2 T ∧ ∀ k, P k → w'.heap[k]? = wr.heap[k]?) := by
    have k := wl_add K.wl B hB
    rw [hadd] at k
    refine k.mono ?_
    rintro e w' ⟨rfl, h1, h2⟩
    exact ⟨rfl, K.step h1 h2, fun k hk => h2 k (.inl hk)⟩
  obtain ⟨l1, hl1⟩ : ∃ l1, (l.add B).2 = l1 := ⟨_, rfl⟩
  rw [hl1] at KA hfit ⊢
  have KS : Hid (∀ W, Kb w W P bb bd bl mb N C s l1 T → Calls Tryz.prog 80 #[.pointer (some ⟨bl, 0, none⟩)] W fun e w' => e = .returned (.int .i64 (l1.sync s).1) ∧ Kb w w' P bb bd bl mb (N + 2100) C (l1.sync s).2.2 (l1.sync s).2.1 T ∧ ∀ k, P k → w'.heap[k]? = W.heap[k]?) := fun W hW => by
    refine (wl_sync hW.wl hfit hN).mono ?_
    rintro e w' ⟨rfl, h1, h2⟩
    exact ⟨rfl, hW.step h1 h2, fun k hk => h2 k (.inl hk)⟩
  obtain ⟨q0, q1⟩ := ko_cells K.box
  clear hl1 hadd hfit hB K
  generalize strOfNums B = st at *
  go_enter Tryz.func43, Tryz.ntmps43
  go_wp2_with fail
  refine KA.out.mono ?_
  rintro e w1 ⟨rfl, hk1, hp1⟩
  have K1 : Hid (Kb w w1 P bb bd bl mb N C s l1 T ∧ ∀ k, P k → w1.heap[k]? = wr.heap[k]?) := ⟨hk1, hp1⟩
  clear q0 q1 hk1 hp1 KA
  obtain ⟨q0, q1⟩ := ko_cells K1.out.1.box
  go_wp2_with fail
  refine (KS.out w1 K1.out.1).mono ?_
  rintro e w2 ⟨rfl, hk2, hp2⟩
  have K2 : Hid (Kb w w2 P bb bd bl mb (N + 2100) C (l1.sync s).2.2 (l1.sync s).2.1 T ∧ ∀ k, P k → w2.heap[k]? = wr.heap[k]?) := ⟨hk2, fun k hk => (hp2 k hk).trans (K1.out.2 k hk)⟩
  clear hk2 hp2 q0 q1
  go_wp2_with fail
  go_ret
  exact ⟨rfl, K2.out⟩
set_option maxRecDepth 100000 in
set_option maxHeartbeats 4000000 in
theorem kDo_ok {w wr : World} {P : Nat → Prop} {bb bd bl mb N C : Nat} {s s2 : Ds} {l l2 : Lg} {T : ByteArray → Option Pt} (K : Kb w wr P bb bd bl mb N C s l T) (hN : N + 3000 < 999900) (hC : C ≤ 900000000) (pts : List Pt) (B : List Int) (hE : encA pts = (0, B)) (hadd : (l.add B).1 = 0) (hfit : 2 + (l.add B).2.ar * (l.add B).2.m + (l.add B).2.m ≤ s.D.length) (hsy : (l.add B).2.sync s = (0, l2, s2)) (a : Option Addr) (n c : Nat) (hn : pts.length = n) (hin : InP wr a pts) (ha : ∀ x, a = some x → pts ≠ [] → P x.block) :
    Calls Tryz.prog 15 #[.pointer (some ⟨bb, 0, none⟩), .slice a n c] wr fun e w' => e = .returned (.int .i64 0) ∧ Kb w w' P bb bd bl mb (N + 2100) (C + n) s2 l2 (chT T pts) ∧ ∀ k, P k → w'.heap[k]? = wr.heap[k]? := by
  obtain ⟨_, _, h64, hok, _⟩ := encA_ok hE
  have KN : Hid (Calls Tryz.prog 42 #[.pointer (some ⟨bb, 0, none⟩)] wr fun e w' => e = .returned (.bool false) ∧ w' = wr) := kNone_is wr bb bl mb K.box
  have KE : Hid (Calls Tryz.prog 24 #[.slice a n c] wr fun e w' => e = .returned (.tuple #[.string (strOfNums B), .int .i64 0]) ∧ Below wr.heap.size wr w') := by
    have k := kEncode_is pts n hn (by omega) (fit_ok hok) a c wr hin
    rw [hE] at k
    exact k
  have KW : Hid (∀ W, Kb w W P bb bd bl mb N C s l T → Calls Tryz.prog 43 #[.pointer (some ⟨bb, 0, none⟩), .string (strOfNums B), .slice a n c] W fun e w' => e = .returned (.int .i64 0) ∧ Kb w w' P bb bd bl mb (N + 2100) C s2 l2 T ∧ ∀ k, P k → w'.heap[k]? = W.heap[k]?) := fun W hW => by
    have k := kWrite_ok hW hN B (encA_bytes hE).1 hadd hfit (.slice a n c)
    rw [hsy] at k
    exact k
  have KC : Hid (∀ W, Kb w W P bb bd bl mb (N + 2100) C s2 l2 T → InP W a pts → Calls Tryz.prog 39 #[.map (some mb), .slice a n c] W fun e w' => e = .returned (.tuple #[]) ∧ Kb w w' P bb bd bl mb (N + 2100) (C + n) s2 l2 (chT T pts) ∧ ∀ k, P k → w'.heap[k]? = W.heap[k]?) := fun W hW hi => by
    refine (kSet_is pts n hn (by omega) (fun x hx => by have := badP_no (hok x hx); omega) a c mb C (by omega) T W hi hW.mp (fun x hx hne => (hW.ne.2 _ (ha x hx hne)).2)).mono ?_
    rintro e w' ⟨rfl, h1, h2⟩
    have hPl : ∀ k, P k → k < W.heap.size := fun k hk => by
      obtain ⟨F, G, _, _, _, _, _, a6⟩ := hW.wl.ex
      exact (a6 k (.inl hk)).1
    exact ⟨rfl, ⟨hW.wl.grown0 h2 (fun k e => ⟨.inr (.inr (Option.some.inj e).symm), by rw [← Option.some.inj e]; exact hW.ge.2⟩), (h2.block bb (lt_of_heapK hW.box) (fun e => hW.ne.1 (Option.some.inj e))).trans hW.box, h1, hW.ge, hW.ne⟩, fun k hk => h2.block k (hPl k hk) (fun e => (hW.ne.2 k hk).2 (Option.some.inj e))⟩
  have HK : Hid (Kb w wr P bb bd bl mb N C s l T) := K
  have HI : Hid (InP wr a pts ∧ ∀ x, a = some x → pts ≠ [] → P x.block) := ⟨hin, ha⟩
  have HPL : Hid (∀ k, P k → k < wr.heap.size) := fun k hk => by
    obtain ⟨F, G, _, _, _, _, _, a6⟩ := K.wl.ex
    exact (a6 k (.inl hk)).1
  clear K hE hadd hfit hsy hin ha h64 hok hn
  generalize strOfNums B = st at *
  go_enter Tryz.func15, Tryz.ntmps15
  go_wp2_with fail
  refine KN.out.mono ?_
  rintro e w1 ⟨rfl, rfl⟩
  go_wp2_with fail
  refine KE.out.mono ?_
  rintro e w2 ⟨rfl, hb2⟩
  have K2 : Hid (Kb w w2 P bb bd bl mb N C s l T ∧ (∀ k, P k → w2.heap[k]? = w1.heap[k]?) ∧ w1.heap.size ≤ w2.heap.size) := ⟨(HK.out.keep hb2).less (fun _ h => .inl h), fun k hk => hb2.block k (HPL.out k hk), hb2.size⟩
  clear hb2 KE KN
  go_wp2_with fail
  refine (KW.out w2 K2.out.1).mono ?_
  rintro e w3 ⟨rfl, hk3, hp3⟩
  have K3 : Hid (Kb w w3 P bb bd bl mb (N + 2100) C s2 l2 T ∧ (∀ k, P k → w3.heap[k]? = w1.heap[k]?)) := ⟨hk3, fun k hk => (hp3 k hk).trans (K2.out.2.1 k hk)⟩
  have I3 : Hid (InP w3 a pts) := by
    rcases HI.out.1 with e | ⟨b, off, e, h1, h2⟩
    · exact .inl e
    · by_cases hne : pts = []
      · exact .inl hne
      · have hp := HI.out.2 _ e hne
        refine .inr ⟨b, off, e, ?_, fun i x hx => (h2 i x hx).kept (K3.out.2 b hp)⟩
        obtain ⟨F, G, _, _, _, _, _, a6⟩ := hk3.wl.ex
        exact (a6 b (.inl hp)).1
  obtain ⟨q0, q1⟩ := ko_cells hk3.box
  clear hk3 hp3 KW K2
  go_wp2_with fail
  refine (KC.out w3 K3.out.1 I3.out).mono ?_
  rintro e w4 ⟨rfl, hk4, hp4⟩
  have K4 : Hid (Kb w w4 P bb bd bl mb (N + 2100) (C + n) s2 l2 (chT T pts) ∧ ∀ k, P k → w4.heap[k]? = w1.heap[k]?) := ⟨hk4, fun k hk => (hp4 k hk).trans (K3.out.2 k hk)⟩
  clear hk4 hp4 q0 q1 KC
  go_wp2_with fail
  go_ret
  exact ⟨rfl, K4.out⟩
end Go.Proofs.YtcindeechmpalaaGreat
namespace Go.Proofs.YtcindeechmpalaaGreat
open Go.ChangeShapes Go.WideShapes Go.ChangeAt Go.RowKit Go.Deep Go.Maps
set_option linter.unusedVariables false
set_option linter.unusedSimpArgs false
theorem sN_lit (A : List Int) (ha : ∀ x ∈ A, 0 ≤ x ∧ x ≤ 255) : sN (strOfNums A) = A := sN_nums (bytes_of_mem ha)
def pKv : Pt := ⟨⟨#[107]⟩, ⟨#[118]⟩, false⟩
def pAx : Pt := ⟨⟨#[97]⟩, ⟨#[120]⟩, false⟩
def pBg : Pt := ⟨⟨#[98]⟩, ⟨#[]⟩, true⟩
theorem tB_one (c : Nat) (hc : c ≤ 255) (S : ByteArray) (h : S = strOfNums [(c : Int)]) (hz : S.size = 1) : tB S = [1, (c : Int)] := by
  unfold tB
  rw [hz, h, sN_lit _ (fun x hx => by have : x = (c : Int) := by simpa using hx
                                      omega)]
  rfl
theorem eB_k : eB [pKv] = [1, 0, 1, 107, 1, 118] := by
  unfold eB csB cB pKv
  simp only [List.flatMap_cons, List.flatMap_nil, List.append_nil, List.length_cons, List.length_nil]
  rw [if_neg (by simp), tB_one 107 (by omega) ⟨#[107]⟩ rfl rfl, tB_one 118 (by omega) ⟨#[118]⟩ rfl rfl]
  rfl
theorem eB_ab : eB [pAx, pBg] = [2, 0, 1, 97, 1, 120, 1, 1, 98] := by
  unfold eB csB
  simp only [List.flatMap_cons, List.flatMap_nil, List.append_nil, List.length_cons, List.length_nil]
  have e1 : cB pAx = [0, 1, 97, 1, 120] := by
    unfold cB pAx
    simp only
    rw [if_neg (by simp), tB_one 97 (by omega) ⟨#[97]⟩ rfl rfl, tB_one 120 (by omega) ⟨#[120]⟩ rfl rfl]
    rfl
  have e2 : cB pBg = [1, 1, 98] := by
    unfold cB pBg
    simp only
    rw [if_pos trivial, tB_one 98 (by omega) ⟨#[98]⟩ rfl rfl]
    rfl
  rw [e1, e2]
  rfl
theorem encA_k : encA [pKv] = (0, [1, 0, 1, 107, 1, 118]) := by
  unfold encA
  rw [eB_k, if_neg (by simp [pKv, badP]; decide), if_neg (by simp), if_neg (by simp)]
theorem encA_ab : encA [pAx, pBg] = (0, [2, 0, 1, 97, 1, 120, 1, 1, 98]) := by
  unfold encA
  rw [eB_ab, if_neg (by simp [pAx, pBg, badP]; decide), if_neg (by simp), if_neg (by simp)]
def kvB : List Int := [1, 0, 1, 107, 1, 118]
theorem kvB_bytes : IsBytes kvB := (encA_bytes encA_k).1
theorem Ks_k : Ks (chTs [[pKv]]) [⟨#[107]⟩] := by
  refine ⟨by simp, fun k => ?_⟩
  show ((ch1 noT pKv) k).isSome = true ↔ _
  unfold ch1 pKv noT
  by_cases h : k = ⟨#[107]⟩
  · simp [h]
  · simp [h]
theorem get_k : (chTs [[pKv]]) ⟨#[107]⟩ = some pKv := by
  show (ch1 noT pKv) ⟨#[107]⟩ = _
  unfold ch1 pKv
  simp
theorem plain_kv : ∃ l1 s1 l2 l3 s3, (Ds.new 20).opn = (0, some l1, s1) ∧ l1.R = [] ∧ (l1.add kvB).1 = 0 ∧ (l1.add kvB).2 = l2 ∧ 2 + l2.ar * l2.m + l2.m ≤ s1.D.length ∧ l2.sync s1 = (0, l3, s3) ∧ (s3.cr []).opn = (0, some l3, s3.cr []) ∧ l3.R = [kvB] := by
  obtain ⟨s1, o1, G1, hD1⟩ := gd_new 20 (by omega) (by omega)
  obtain ⟨l1, hl1⟩ : ∃ l1, l1 = (⟨(20 - 2) / 2, 1, 0, [], [], false⟩ : Lg) := ⟨_, rfl⟩
  rw [← hl1] at o1 G1
  have r1 : l1.room = 576 := by rw [hl1]; rfl
  have a1 : l1.add kvB = (0, ⟨9, 1, 0, [], [kvB], false⟩) := by
    have hx : (frO [kvB] l1.room).2 = 0 := by rw [r1, frO_one]; rfl
    unfold Lg.add
    rw [if_neg (by rw [hl1]; simp), if_neg (by rw [hx]; simp), hl1]
    rfl
  have G2 := gd_add G1 kvB kvB_bytes
  rw [a1] at G2
  obtain ⟨l2, hl2⟩ : ∃ l2, l2 = (⟨9, 1, 0, [], [kvB], false⟩ : Lg) := ⟨_, rfl⟩
  rw [← hl2] at a1 G2
  obtain ⟨s3, y3, G3, hD3⟩ := gd_sync G2 (by rw [hl2]; decide) (by rw [hl2]; simp)
  obtain ⟨l3, hl3⟩ : ∃ l3, l3 = ({ l2 with no := l2.no + 1, R := l2.R ++ l2.W, W := [] } : Lg) := ⟨_, rfl⟩
  rw [← hl3] at y3 G3
  have G4 := gd_crash G3 []
  have o4 := gd_open G4
  have e4 : ({ l3 with W := [] } : Lg) = l3 := by rw [hl3]
  rw [e4] at o4
  exact ⟨l1, s1, l2, l3, s3, o1, by rw [hl1], by rw [a1], by rw [a1], by rw [hD1, hl2]; decide, y3, o4, by rw [hl3, hl2]; rfl⟩
theorem bts_k : Bts [kvB] [[pKv]] := by
  refine ⟨by show [kvB] = [eB [pKv]]; rw [eB_k]; rfl, fun b hb => ?_⟩
  obtain rfl : b = [pKv] := by simpa using hb
  rw [encA_k, eB_k]
theorem in_two (w : World) : InP (w.alloc (.cells #[.string ⟨#[97]⟩, .string ⟨#[120]⟩, .bool false, .string ⟨#[98]⟩, .string ⟨#[]⟩, .bool true] 45)) (some ⟨w.heap.size, 0, none⟩) [pAx, pBg] := by
  have h := heap_alloc_new w (.cells #[.string ⟨#[97]⟩, .string ⟨#[120]⟩, .bool false, .string ⟨#[98]⟩, .string ⟨#[]⟩, .bool true] 45)
  refine .inr ⟨w.heap.size, 0, rfl, by simp, fun i x hx => ?_⟩
  match i, hx with
  | 0, hx =>
    have : pAx = x := by simpa using hx
    subst this
    refine ⟨?_, ?_, ?_⟩ <;> (rw [cell_of_row _ _ _ _ _ (0, 0) h]; rfl)
  | 1, hx =>
    have : pBg = x := by simpa using hx
    subst this
    refine ⟨?_, ?_, ?_⟩ <;> (rw [cell_of_row _ _ _ _ _ (0, 0) h]; rfl)
  | i + 2, hx => simp at hx
theorem in_one (w : World) : InP (w.alloc (.cells #[.string ⟨#[107]⟩, .string ⟨#[118]⟩, .bool false] 45)) (some ⟨w.heap.size, 0, none⟩) [pKv] := by
  have h := heap_alloc_new w (.cells #[.string ⟨#[107]⟩, .string ⟨#[118]⟩, .bool false] 45)
  refine .inr ⟨w.heap.size, 0, rfl, by simp, fun i x hx => ?_⟩
  match i, hx with
  | 0, hx =>
    have : pKv = x := by simpa using hx
    subst this
    refine ⟨?_, ?_, ?_⟩ <;> (rw [cell_of_row _ _ _ _ _ (0, 0) h]; rfl)
  | i + 1, hx => simp at hx
theorem fit_small {l : List Pt} (h : ∀ x ∈ l, badP x = false) : FitP l := fit_ok h
set_option maxRecDepth 100000 in
set_option maxHeartbeats 8000000 in
theorem kworks_true (w : World) : Calls Tryz.prog 11 #[] w fun e w' => e = .returned (.bool true) ∧ Below w.heap.size w w' := by
  obtain ⟨l1, s1, l2, l3, s3, p1, p2, p3, p4, p5, p6, p7, p8⟩ := plain_kv
  have HPL : Hid ((Ds.new 20).opn = (0, some l1, s1) ∧ l1.R = [] ∧ (l1.add kvB).1 = 0 ∧ (l1.add kvB).2 = l2 ∧ 2 + l2.ar * l2.m + l2.m ≤ s1.D.length ∧ l2.sync s1 = (0, l3, s3) ∧ (s3.cr []).opn = (0, some l3, s3.cr []) ∧ l3.R = [kvB]) := ⟨p1, p2, p3, p4, p5, p6, p7, p8⟩
  have K1 : Hid (Calls Tryz.prog 9 #[.int .i64 20] w fun e w' => ∃ b, e = .returned (.tuple #[.pointer (some ⟨b, 0, none⟩), .int .i64 0]) ∧ Wd w w' (fun k => k < w.heap.size) b 0 (Ds.new 20) ∧ Below w.heap.size w w') := wd_new 20 (by omega) (by omega) w w (Below.refl _ _)
  have KE : Hid (∀ W : World, Calls Tryz.prog 24 #[.slice (some ⟨W.heap.size, 0, none⟩) 2 2] (W.alloc (.cells #[.string ⟨#[97]⟩, .string ⟨#[120]⟩, .bool false, .string ⟨#[98]⟩, .string ⟨#[]⟩, .bool true] 45)) fun e w' => e = .returned (.tuple #[.string ⟨#[2, 0, 1, 97, 1, 120, 1, 1, 98]⟩, .int .i64 0]) ∧ Below W.heap.size W w') := fun W => by
    have k := kEncode_is [pAx, pBg] 2 rfl (by omega) (fit_ok (encA_ok encA_ab).2.2.2.1) (some ⟨W.heap.size, 0, none⟩) 2 _ (in_two W)
    rw [encA_ab] at k
    refine k.mono ?_
    rintro e w' ⟨rfl, hb⟩
    exact ⟨rfl, (below1 W _).trans (hb.mono (by simp))⟩
  clear p1 p2 p3 p4 p5 p6 p7 p8
  go_enter Tryz.func11, Tryz.ntmps11
  go_wp2_with fail
  refine K1.out.mono ?_
  rintro e w1 ⟨bd, rfl, T1, hb1⟩
  have HT1 : Hid (Wd w w1 (fun k => k < w.heap.size) bd 0 (Ds.new 20)) := T1
  clear T1 hb1
  have KO : Hid (Calls Tryz.prog 12 #[.pointer (some ⟨bd, 0, none⟩)] w1 fun e w' => ∃ bb bl mb, e = .returned (.tuple #[.pointer (some ⟨bb, 0, none⟩), .int .i64 0]) ∧ Kb w w' (fun k => k < w.heap.size) bb bd bl mb 2 0 s1 l1 noT) := by
    refine (kOpen_ok HT1.out (by omega) HPL.out.1 [] ⟨HPL.out.2.1, fun b hb => by cases hb⟩).mono ?_
    rintro e w' ⟨bb, bl, mb, rfl, h1, _⟩
    exact ⟨bb, bl, mb, rfl, h1⟩
  go_wp2_with fail
  refine KO.out.mono ?_
  rintro e w2 ⟨bb, bl, mb, rfl, hk2⟩
  have HK2 : Hid (Kb w w2 (fun k => k < w.heap.size) bb bd bl mb 2 0 s1 l1 noT) := hk2
  have KE2 := KE.out w2
  clear hk2 KO
  go_wp2_with fail
  refine KE2.mono ?_
  rintro e w3 ⟨rfl, hb3⟩
  have HK3 : Hid (Kb w w3 (fun k => k < w.heap.size) bb bd bl mb 2 0 s1 l1 noT) := (HK2.out.keep hb3).less (fun _ h => .inl h)
  clear hb3 KE2 KE
  obtain ⟨w4, hw4⟩ : ∃ w4, w3.alloc (.cells #[.string ⟨#[107]⟩, .string ⟨#[118]⟩, .bool false] 45) = w4 := ⟨_, rfl⟩
  have W4E : Hid (w3.alloc (.cells #[.string ⟨#[107]⟩, .string ⟨#[118]⟩, .bool false] 45) = w4) := hw4
  have HK4 : Hid (Kb w w4 (fun k => k = w3.heap.size) bb bd bl mb 2 0 s1 l1 noT) := (HK3.out.keep (by rw [← hw4]; exact below1 _ _)).less (fun k hk => .inr ⟨by omega, by rw [← hw4]; simp; omega⟩)
  have KD : Hid (Calls Tryz.prog 15 #[.pointer (some ⟨bb, 0, none⟩), .slice (some ⟨w3.heap.size, 0, none⟩) 1 1] w4 fun e w' => e = .returned (.int .i64 0) ∧ Wd w w' (fun _ => False) bd 2102 s3) := by
    obtain ⟨_, _, q3, q4, q5, q6, _⟩ := HPL.out
    refine (kDo_ok HK4.out (by omega) (by omega) [pKv] kvB encA_k q3 (by rw [q4]; exact q5) (by rw [q4]; exact q6) (some ⟨w3.heap.size, 0, none⟩) 1 1 rfl (by rw [← hw4]; exact in_one w3) (fun x hx _ => by cases hx; rfl)).mono ?_
    rintro e w' ⟨rfl, h1, _⟩
    exact ⟨rfl, h1.wl.disk.less (fun _ h => h.elim)⟩
  clear hw4
  go_wp2_with fail
  rw [show World.alloc w3 _ = w4 from W4E.out]
  refine KD.out.mono ?_
  rintro e w5 ⟨rfl, hd5⟩
  have HD5 : Hid (Wd w w5 (fun _ => False) bd 2102 s3) := hd5
  clear hd5 KD
  have KC : Hid (Calls Tryz.prog 21 #[.pointer (some ⟨bd, 0, none⟩), .slice none 0 0] w5 fun e w' => e = .returned (.int .i64 0) ∧ Wd w w' (fun _ => False) bd 2102 (s3.cr [])) := by
    refine (wd_crash HD5.out (by omega) none 0 0 [] rfl (.inl rfl) (fun x hx => by cases hx)).mono ?_
    rintro e w' ⟨rfl, h1, _⟩
    exact ⟨rfl, h1⟩
  go_wp2_with fail
  refine KC.out.mono ?_
  rintro e w6 ⟨rfl, hd6⟩
  have HD6 : Hid (Wd w w6 (fun _ => False) bd 2102 (s3.cr [])) := hd6
  clear hd6 KC
  have KO2 : Hid (Calls Tryz.prog 12 #[.pointer (some ⟨bd, 0, none⟩)] w6 fun e w' => ∃ bb bl mb, e = .returned (.tuple #[.pointer (some ⟨bb, 0, none⟩), .int .i64 0]) ∧ Kb w w' (fun _ => False) bb bd bl mb 2104 64 (s3.cr []) l3 (chTs [[pKv]])) := by
    obtain ⟨_, _, _, _, _, _, q7, q8⟩ := HPL.out
    refine (kOpen_ok HD6.out (by omega) q7 [[pKv]] (by rw [q8]; exact bts_k)).mono ?_
    rintro e w' ⟨bb, bl, mb, rfl, h1, _⟩
    exact ⟨bb, bl, mb, rfl, h1⟩
  go_wp2_with fail
  refine KO2.out.mono ?_
  rintro e w7 ⟨b2, bl2, mb2, rfl, hk7⟩
  have HK7 : Hid (Kb w w7 (fun _ => False) b2 bd bl2 mb2 2104 64 (s3.cr []) l3 (chTs [[pKv]])) := hk7
  have KG : Hid (Calls Tryz.prog 29 #[.pointer (some ⟨b2, 0, none⟩), .string ⟨#[107]⟩] w7 fun e w' => e = .returned (.tuple #[.string ⟨#[118]⟩, .bool true]) ∧ Below w7.heap.size w7 w') := by
    have k := kGet_is w7 b2 bl2 mb2 64 _ hk7.box hk7.mp ⟨#[107]⟩ (by show 1 ≤ _; omega)
    rw [get_k] at k
    exact k
  clear hk7 KO2
  go_wp2_with fail
  refine KG.out.mono ?_
  rintro e w8 ⟨rfl, hb8⟩
  have HB8 : Hid (Below w.heap.size w w8) := (HK7.out.keep hb8).wl.bel
  have KL : Hid (Calls Tryz.prog 31 #[.pointer (some ⟨b2, 0, none⟩)] w8 fun e w' => e = .returned (.int .i64 1) ∧ w' = w8) := kLen_is w8 b2 bl2 mb2 64 _ (HK7.out.keep hb8).box (HK7.out.keep hb8).mp [⟨#[107]⟩] Ks_k
  clear hb8 KG
  go_wp2_with fail
  refine KL.out.mono ?_
  rintro e w9 ⟨rfl, rfl⟩
  go_wp2_with fail
  go_ret
  exact ⟨rfl, HB8.out⟩
end Go.Proofs.YtcindeechmpalaaGreat
namespace Go.Proofs.YtcindeechmpalaaGreat
open Go.ChangeShapes Go.WideShapes Go.ChangeAt Go.RowKit Go.Deep Go.Maps
set_option linter.unusedVariables false
set_option maxRecDepth 100000 in
set_option maxHeartbeats 4000000 in
theorem kvNobody_walk (a : Option Addr) (len cap : Nat) (S : ByteArray) (w : World) (hs : S.size ≤ maxLen) : Calls Tryz.prog 5 #[.slice a len cap, .string S] w fun e w' => e = .returned (.bool true) ∧ Below w.heap.size w w' := by
  obtain ⟨h, hh⟩ : ∃ h, h = w.heap.size := ⟨_, rfl⟩
  have HH : Hid (h = w.heap.size) := hh
  clear hh hs
  have KW : Hid (∀ u, Calls Tryz.prog 11 #[] u fun e w' => e = .returned (.bool true) ∧ Below u.heap.size u w') := kworks_true
  go_enter Tryz.func5, Tryz.ntmps5
  go_wp2_with fail
  go_loopg [17] 2 (fun g i wr => ∃ j : Nat, j ≤ 2 ∧ g = 2 - j ∧ i = .int .i64 (j : Int) ∧ Hid (Below h w wr) ∧ Hid (wr.cell? ⟨w.heap.size + 1, 0, none⟩ = some (.pointer none) ∧ wr.cell? ⟨w.heap.size + 1, 1, none⟩ = some (.pointer (some ⟨w.heap.size, 0, none⟩)) ∧ wr.cell? ⟨w.heap.size, 0, none⟩ = some (.pointer none)))
  case atStart =>
    refine ⟨0, Nat.zero_le _, rfl, rfl, ?_, ?_⟩
    · show Below _ _ _
      rw [HH.out]
      exact ((Below.refl _ _).alloc (Nat.le_refl _) _).alloc (by simp) _
    · refine ⟨?_, ?_, ?_⟩
      · rw [cell_of_row _ (w.heap.size + 1) 0 _ _ (0, 0) (heap_alloc2_new _ _ _)]; rfl
      · rw [cell_of_row _ (w.heap.size + 1) 1 _ _ (0, 0) (heap_alloc2_new _ _ _)]; rfl
      · rw [cell_of_row _ w.heap.size 0 _ _ (0, 0) (heap_alloc2_old _ _ _)]; rfl
  case round =>
    obtain ⟨j, hj, rfl, rfl, HB, HC⟩ := hrel
    have hsz : h ≤ wr.heap.size := by have := HB.out.size; rw [HH.out]; exact this
    rcases (by omega : j = 0 ∨ j = 1 ∨ j = 2) with rfl | rfl | rfl
    · have ND : Hid (NoK wr (.pointer none)) := .inl rfl
      have k0 := HC.out.1
      go_wp2_with fail
      refine (kget0 _ (.pointer none) ND.out S).mono ?_
      rintro e w' ⟨rfl, hw⟩; obtain rfl := hw.symm; clear hw
      go_wp2_with fail
      refine (kdo0 _ (.pointer none) ND.out _ _ _).mono ?_
      rintro e w' ⟨rfl, hw⟩; obtain rfl := hw.symm; clear hw
      go_wp2_with fail
      refine (kcompact0 _ (.pointer none) ND.out).mono ?_
      rintro e w' ⟨rfl, hw⟩; obtain rfl := hw.symm; clear hw
      go_wp2_with fail
      refine (kscan0 _ (.pointer none) ND.out _ _).mono ?_
      rintro e w' ⟨rfl, hw⟩; obtain rfl := hw.symm; clear hw
      go_wp2_with fail
      refine (klen0 _ (.pointer none) ND.out).mono ?_
      rintro e w' ⟨rfl, hw⟩; obtain rfl := hw.symm; clear hw
      go_wp2_with fail
      go_roundg 1
      case measure => omega
      case rel => exact ⟨1, by omega, rfl, by go_num, HB, HC⟩
    · have ND : Hid (NoK wr (.pointer (some ⟨w.heap.size, 0, none⟩))) := .inr ⟨_, rfl, HC.out.2.2⟩
      have k1 := HC.out.2.1
      go_wp2_with fail
      refine (kget0 _ (.pointer (some ⟨w.heap.size, 0, none⟩)) ND.out S).mono ?_
      rintro e w' ⟨rfl, hw⟩; obtain rfl := hw.symm; clear hw
      go_wp2_with fail
      refine (kdo0 _ (.pointer (some ⟨w.heap.size, 0, none⟩)) ND.out _ _ _).mono ?_
      rintro e w' ⟨rfl, hw⟩; obtain rfl := hw.symm; clear hw
      go_wp2_with fail
      refine (kcompact0 _ (.pointer (some ⟨w.heap.size, 0, none⟩)) ND.out).mono ?_
      rintro e w' ⟨rfl, hw⟩; obtain rfl := hw.symm; clear hw
      go_wp2_with fail
      refine (kscan0 _ (.pointer (some ⟨w.heap.size, 0, none⟩)) ND.out _ _).mono ?_
      rintro e w' ⟨rfl, hw⟩; obtain rfl := hw.symm; clear hw
      go_wp2_with fail
      refine (klen0 _ (.pointer (some ⟨w.heap.size, 0, none⟩)) ND.out).mono ?_
      rintro e w' ⟨rfl, hw⟩; obtain rfl := hw.symm; clear hw
      go_wp2_with fail
      go_roundg 0
      case measure => omega
      case rel => exact ⟨2, by omega, rfl, by go_num, HB, HC⟩
    · go_wp2_with fail
      refine (kopen_no wr (.pointer none) (.inl rfl)).mono ?_
      rintro e w1 ⟨rfl, rfl⟩
      have ND : Hid (NoDk (w1.alloc (.cells #[.slice none 0 0, .map none, .bool false, .int .i64 0, .int .i64 0] 75)) (.pointer (some ⟨w1.heap.size, 0, none⟩))) := .inr ⟨_, rfl, by rw [cell_of_row _ w1.heap.size 0 _ _ (0, 0) (heap_alloc_new w1 _)]; rfl⟩
      have HB2 : Hid (Below h w (w1.alloc (.cells #[.slice none 0 0, .map none, .bool false, .int .i64 0, .int .i64 0] 75))) := HB.out.trans ((below1 w1 _).mono hsz)
      go_wp2_with fail
      refine (kopen_no _ (.pointer (some ⟨w1.heap.size, 0, none⟩)) ND.out).mono ?_
      rintro e w' ⟨rfl, hw⟩; obtain rfl := hw.symm; clear hw
      go_wp2_with fail
      refine (KW.out _).mono ?_
      rintro e w3 ⟨rfl, hb3⟩
      have HB3 : Hid (Below h w w3) := HB2.out.trans (hb3.mono (by simp; omega))
      clear hb3
      go_wp2_with fail
      go_ret
      exact ⟨rfl, by rw [← HH.out]; exact HB3.out⟩
end Go.Proofs.YtcindeechmpalaaGreat
