/- A log on a disk's blocks, plainly: what is opened, what a Sync and a Reset leave where nothing is lost. A log that nothing is lost of, plainly. The document's Same; the statements' own works. A log and its disk that outlive calls; what is neither's. The statements' own works. The statements' own 'small'. Slices of texts that came in. Texts appended, of any slice; two logs of one disk; Reset, Add, plainly. WalStands' walk. -/
import Derived.Test.YtchnbfdfcjahpaaMgWs21
import Derived.Test.YtchnbfdfcjahpaaMgWs16
import Derived.SliceStrings
import Derived.SizedLaws
namespace Go.Proofs.Ytchnbfdfcjahpaa
open Go.ChangeShapes Go.WideShapes Go.ChangeAt Go.RowKit Go.Deep Go.Maps
set_option linter.unusedVariables false
/-- a block's bytes; blocks one behind the other -/
def bAt (D : List (List Int)) (i : Nat) : List Int := D[i]?.getD []
def catD (D : List (List Int)) : Nat → Nat → List Int
  | _, 0 => []
  | i, k + 1 => bAt D i ++ catD D (i + 1) k
theorem cur_nil {s : Ds} (h : ∀ i, s.W i = []) (i : Nat) : s.cur i = bAt s.D i := by
  unfold Ds.cur bAt
  rw [h]
  rfl
theorem cat_nil {s : Ds} (h : ∀ i, s.W i = []) : ∀ (k i : Nat), s.cat i k = catD s.D i k
  | 0, i => rfl
  | k + 1, i => by rw [Ds.cat, catD, cur_nil h, cat_nil h k]
theorem catD_add (D : List (List Int)) : ∀ (a b i : Nat), catD D i (a + b) = catD D i a ++ catD D (i + a) b
  | 0, b, i => by rw [Nat.zero_add, Nat.add_zero]; rfl
  | a + 1, b, i => by
    rw [show a + 1 + b = (a + b) + 1 by omega, catD, catD, catD_add D a b (i + 1), List.append_assoc, show i + 1 + a = i + (a + 1) by omega]
theorem catD_len {D : List (List Int)} (h : Is64 D) : ∀ (k i : Nat), i + k ≤ D.length → (catD D i k).length = 64 * k
  | 0, i, _ => rfl
  | k + 1, i, hk => by
    have e : bAt D i = D[i]'(by omega) := by unfold bAt; rw [List.getElem?_eq_getElem (by omega)]; rfl
    rw [catD, List.length_append, catD_len h k (i + 1) (by omega), e, (h _ (List.getElem_mem _)).1]
    omega
theorem catD_same {D E : List (List Int)} : ∀ (k i : Nat), (∀ j, i ≤ j → j < i + k → E[j]? = D[j]?) → catD E i k = catD D i k
  | 0, i, _ => rfl
  | k + 1, i, h => by
    rw [catD, catD, catD_same k (i + 1) (fun j h1 h2 => h j (by omega) (by omega)), bAt, h i (by omega) (by omega)]
    rfl
/-- a log lies on blocks -/
structure Lies (D : List (List Int)) (m no ar : Nat) (R : List (List Int)) : Prop where
  hd : D[no % 2]? = some (hdB no ar (joinL R).length)
  oth : ∀ b, D[(no + 1) % 2]? = some b → hdOk m ((no + 1) % 2) b = true → hN b < no
  log : (catD D (2 + ar * m) (((joinL R).length + 63) / 64)).take (joinL R).length = joinL R
/-- numbers that a log may have -/
structure Nums (D : List (List Int)) (m no ar : Nat) (R : List (List Int)) : Prop where
  is64 : Is64 D
  len : 6 ≤ D.length ∧ D.length ≤ 4096
  mm : m = (D.length - 2) / 2
  nn : 1 ≤ no ∧ no ≤ 1152921504606846976
  aa : ar ≤ 1
  ln : (joinL R).length ≤ 64 * m
  rb : ∀ B ∈ R, IsBytes B ∧ B.length ≤ 4096
theorem opn_lies {s : Ds} {no ar : Nat} {R : List (List Int)} (hu : s.up = true) (hW : ∀ i, s.W i = []) (hn : Nums s.D s.am no ar R) (h : Lies s.D s.am no ar R) : s.opn = (0, some ⟨s.am, no, ar, R, [], false⟩, s) := by
  have h6 : ¬ s.D.length < 6 := by have := hn.len; omega
  have hm : s.am ≤ 4096 := by have := hn.len; have := hn.mm; unfold Ds.am; omega
  have hok := hd_ok s.am no ar (joinL R).length hn.nn.1 hn.nn.2 hn.aa hn.ln hm
  have hnum := hd_nums no ar (joinL R).length (by have := hn.nn; omega) (by have := hn.ln; omega)
  have hown : bAt s.D (no % 2) = hdB no ar (joinL R).length := by unfold bAt; rw [h.hd]; rfl
  have hoth : hdOk s.am ((no + 1) % 2) (bAt s.D ((no + 1) % 2)) = true → hN (bAt s.D ((no + 1) % 2)) < no := by
    intro e
    have hl : (no + 1) % 2 < s.D.length := by have := hn.len; omega
    have e2 : s.D[(no + 1) % 2]? = some (bAt s.D ((no + 1) % 2)) := by unfold bAt; rw [List.getElem?_eq_getElem hl]; rfl
    exact h.oth _ e2 e
  have hpk : pkJ s.am (s.cur 0) (s.cur 1) 2 = (no, ar, (joinL R).length) := by
    rw [cur_nil hW, cur_nil hW]
    show (if hdOk s.am 1 (bAt s.D 1) = true ∧ (pk1 s.am (bAt s.D 0)).1 < hN (bAt s.D 1) then (hN (bAt s.D 1), hA (bAt s.D 1), hL (bAt s.D 1)) else pk1 s.am (bAt s.D 0)) = _
    rcases (by omega : no % 2 = 0 ∨ no % 2 = 1) with e | e
    · have e1 : (no + 1) % 2 = 1 := by omega
      rw [e] at hown hok
      rw [e1] at hoth
      have p1 : pk1 s.am (bAt s.D 0) = (no, ar, (joinL R).length) := by rw [pk1, hown, if_pos hok, hnum.1, hnum.2.1, hnum.2.2]
      rw [p1, if_neg]
      intro hc
      have := hoth hc.1
      have h2 := hc.2
      simp only at h2
      omega
    · have e1 : (no + 1) % 2 = 0 := by omega
      rw [e] at hown hok
      rw [e1] at hoth
      have p1 : (pk1 s.am (bAt s.D 0)).1 < no := by
        rw [pk1]
        by_cases hc : hdOk s.am 0 (bAt s.D 0) = true
        · rw [if_pos hc]; exact hoth hc
        · rw [if_neg hc]; have := hn.nn.1; show 0 < no; omega
      rw [hown, hnum.1, hnum.2.1, hnum.2.2, if_pos ⟨hok, p1⟩]
  have hz : ¬ (s.cur 0 = List.replicate 64 0 ∧ s.cur 1 = List.replicate 64 0) := by
    rintro ⟨z0, z1⟩
    rw [cur_nil hW] at z0 z1
    rcases (by omega : no % 2 = 0 ∨ no % 2 = 1) with e | e
    · rw [e, z0] at hown; exact hd_zero _ _ _ hown.symm
    · rw [e, z1] at hown; exact hd_zero _ _ _ hown.symm
  have hlog : s.log s.am ar (joinL R).length = joinL R := by rw [Ds.log, cat_nil hW]; exact h.log
  have hal := al_join R (joinL R).length rfl (fun B hB => (hn.rb B hB).2)
  have hf : fndE s s.am (no, ar, (joinL R).length) = 0 := by
    unfold fndE
    rw [if_neg (by have := hn.nn.1; show ¬ no = 0; omega)]
    show (if (al (joinL R).length (s.log s.am ar (joinL R).length)).2.2 ≠ 0 then (6 : Int) else 0) = 0
    rw [hlog, hal, if_neg (by simp)]
  rw [Ds.opn, if_neg (by rw [hu]; simp), if_neg h6, Ds.fob, if_neg hz, hpk, if_pos hf]
  show ((0 : Int), some _, s) = _
  rw [hlog, hal]
/-- writes, one behind the other -/
def app : List (Option (Nat × List Int)) → List (List Int) → List (List Int)
  | [], D => D
  | some p :: r, D => app r (D.set p.1 p.2)
  | none :: r, D => app r D
theorem app_len : ∀ (A : List (Option (Nat × List Int))) (D : List (List Int)), (app A D).length = D.length
  | [], D => rfl
  | some p :: r, D => by rw [app, app_len r, List.length_set]
  | none :: r, D => by rw [app, app_len r]
/-- the writes of bytes: where they go -/
theorem app_wops_off : ∀ (n at_ : Nat) (B : List Int) (D : List (List Int)), B.length ≤ n → ∀ j, (j < at_ ∨ at_ + (B.length + 63) / 64 ≤ j) → (app (wops at_ B) D)[j]? = D[j]?
  | 0, at_, B, D, hn, j, hj => by
    have : B = [] := List.length_eq_zero_iff.1 (by omega)
    subst this
    rfl
  | n + 1, at_, B, D, hn, j, hj => by
    by_cases h : B = []
    · subst h; rfl
    · have hl : 0 < B.length := List.length_pos_iff.2 h
      rw [wops_cons _ _ h, app, app_wops_off n (at_ + 1) (B.drop 64) _ (by simp; omega) j (by simp; omega), List.getElem?_set_ne (by show at_ ≠ j; omega)]
theorem app_wops_cat : ∀ (n at_ : Nat) (B : List Int) (D : List (List Int)), B.length ≤ n → at_ + (B.length + 63) / 64 ≤ D.length → (catD (app (wops at_ B) D) at_ ((B.length + 63) / 64)).take B.length = B
  | 0, at_, B, D, hn, hf => by
    have : B = [] := List.length_eq_zero_iff.1 (by omega)
    subst this
    rfl
  | n + 1, at_, B, D, hn, hf => by
    by_cases h : B = []
    · subst h; rfl
    · have hl : 0 < B.length := List.length_pos_iff.2 h
      have hd : (B.drop 64).length = B.length - 64 := List.length_drop
      have e1 : (B.length + 63) / 64 = ((B.drop 64).length + 63) / 64 + 1 := by rw [hd]; omega
      have hb : bAt (app (wops (at_ + 1) (B.drop 64)) (D.set at_ (pad64 (B.take 64)))) at_ = pad64 (B.take 64) := by
        unfold bAt
        rw [app_wops_off _ (at_ + 1) (B.drop 64) _ (Nat.le_refl _) at_ (.inl (by omega)), List.getElem?_set_self (by omega)]
        rfl
      rw [wops_cons _ _ h, app, e1, catD, hb]
      by_cases h64 : B.length ≤ 64
      · have ht : B.take 64 = B := List.take_of_length_le h64
        rw [ht, pad64, List.append_assoc, List.take_append_of_le_length (Nat.le_refl _), List.take_of_length_le (Nat.le_refl _)]
      · have hp : pad64 (B.take 64) = B.take 64 := by unfold pad64; rw [show (B.take 64).length = 64 by rw [List.length_take]; omega]; simp
        have hlt : (B.take 64).length = 64 := by rw [List.length_take]; omega
        rw [hp, List.take_append, List.take_of_length_le (by omega), hlt]
        have ih := app_wops_cat n (at_ + 1) (B.drop 64) (D.set at_ (B.take 64)) (by omega) (by rw [List.length_set]; omega)
        rw [hd] at ih
        rw [hd, ih, List.take_append_drop]
theorem Is64.app : ∀ (A : List (Option (Nat × List Int))) (D : List (List Int)), Is64 D → (∀ p, some p ∈ A → p.2.length = 64 ∧ IsBytes p.2) → Is64 (app A D)
  | [], D, h, _ => h
  | some p :: r, D, h, hA => by
    refine Is64.app r _ (fun x hx => ?_) (fun q hq => hA q (List.mem_cons_of_mem _ hq))
    rcases List.mem_or_eq_of_mem_set hx with e | e
    · exact h x e
    · rw [e]; exact hA p (List.mem_cons_self ..)
  | none :: r, D, h, hA => Is64.app r D h (fun q hq => hA q (List.mem_cons_of_mem _ hq))
theorem wops_mem : ∀ (n at_ : Nat) (B : List Int), B.length ≤ n → IsBytes B → ∀ p, some p ∈ wops at_ B → (at_ ≤ p.1 ∧ p.1 < at_ + (B.length + 63) / 64) ∧ p.2.length = 64 ∧ IsBytes p.2
  | 0, at_, B, hn, hb, p, hp => by
    have : B = [] := List.length_eq_zero_iff.1 (by omega)
    subst this
    cases hp
  | n + 1, at_, B, hn, hb, p, hp => by
    by_cases h : B = []
    · subst h; cases hp
    · have hl : 0 < B.length := List.length_pos_iff.2 h
      rw [wops_cons _ _ h] at hp
      rcases List.mem_cons.1 hp with e | e
      · obtain rfl := Option.some.inj e
        refine ⟨⟨Nat.le_refl _, ?_⟩, pad64_len (by rw [List.length_take]; omega), pad64_bytes (bytes_of_mem fun x hx => bytes_mem hb x (List.mem_of_mem_take hx))⟩
        show at_ < _
        omega
      · have := wops_mem n (at_ + 1) (B.drop 64) (by simp; omega) (bytes_of_mem fun x hx => bytes_mem hb x (List.mem_of_mem_drop hx)) p e
        rw [List.length_drop] at this
        refine ⟨⟨by omega, by omega⟩, this.2⟩
theorem wops_some : ∀ (n at_ : Nat) (B : List Int), B.length ≤ n → none ∉ wops at_ B
  | 0, at_, B, hn, h => by
    have : B = [] := List.length_eq_zero_iff.1 (by omega)
    subst this
    cases h
  | n + 1, at_, B, hn, h => by
    by_cases hB : B = []
    · subst hB; cases h
    · rw [wops_cons _ _ hB] at h
      rcases List.mem_cons.1 h with e | e
      · cases e
      · exact wops_some n (at_ + 1) (B.drop 64) (by have : 0 < B.length := List.length_pos_iff.2 hB; simp; omega) e
end Go.Proofs.Ytchnbfdfcjahpaa
namespace Go.Proofs.Ytchnbfdfcjahpaa
open Go.ChangeShapes Go.WideShapes Go.ChangeAt Go.RowKit Go.Deep Go.Maps
set_option linter.unusedVariables false
theorem flD_wr (D : List (List Int)) (W : Int → List (List Int)) (i : Nat) (C : List Int) : flD D (fun j => if j = (i : Int) then W j ++ [C] else W j) = (flD D W).set i C := by
  apply List.ext_getElem?
  intro k
  by_cases hk : k = i
  · subst hk
    by_cases hl : k < D.length
    · rw [List.getElem?_set_self (by rw [flD_len]; exact hl), flD_at _ _ _ _ (List.getElem?_eq_getElem hl)]
      simp [lastOf]
    · rw [List.getElem?_eq_none (by rw [flD_len]; omega), List.getElem?_eq_none (by rw [List.length_set, flD_len]; omega)]
  · rw [List.getElem?_set_ne (fun e => hk e.symm)]
    have hne : ¬ ((k : Int) = (i : Int)) := by omega
    simp only [flD, List.getElem?_mapIdx, if_neg hne]
theorem wr_ok {s : Ds} {i : Nat} {C : List Int} (hu : s.up = true) (hf : s.fu = -1) (hi : i < s.D.length) (hC : C.length = 64) : s.wr (i : Int) C = (0, ⟨s.D, fun j => if j = (i : Int) then s.W j ++ [C] else s.W j, true, s.dn + 1, -1⟩) := by
  unfold Ds.wr
  rw [if_neg (by rw [hu]; simp [rdyAt]; omega), if_neg (by simpa using hC), if_neg (by rw [hf]; omega), hf]
  rfl
theorem fl_ok {s : Ds} (hu : s.up = true) (hf : s.fu = -1) : s.fl = (0, ⟨flD s.D s.W, fun _ => [], true, s.dn + 1, -1⟩) := by
  unfold Ds.fl
  rw [if_neg (by simp [hu]), if_neg (by rw [hf]; omega), hf]
  rfl
theorem run_free : ∀ (A : List (Option (Nat × List Int))) (s : Ds), none ∉ A → (∀ p, some p ∈ A → p.1 < s.D.length ∧ p.2.length = 64) → s.up = true → s.fu = -1 → ∃ s', s.run A = (0, s') ∧ s'.up = true ∧ s'.fu = -1 ∧ s'.D = s.D ∧ flD s'.D s'.W = app A (flD s.D s.W)
  | [], s, _, _, hu, hf => ⟨s, rfl, hu, hf, rfl, rfl⟩
  | none :: r, s, hn, _, _, _ => absurd (List.mem_cons_self ..) hn
  | some p :: r, s, hn, hA, hu, hf => by
    obtain ⟨h1, h2⟩ := hA p (List.mem_cons_self ..)
    have e := wr_ok hu hf h1 h2
    obtain ⟨s', g1, g2, g3, g4, g5⟩ := run_free r ⟨s.D, fun j => if j = (p.1 : Int) then s.W j ++ [p.2] else s.W j, true, s.dn + 1, -1⟩ (fun h => hn (List.mem_cons_of_mem _ h)) (fun q hq => hA q (List.mem_cons_of_mem _ hq)) rfl rfl
    refine ⟨s', ?_, g2, g3, g4, ?_⟩
    · rw [Ds.run_cons]
      show (if (s.wr (p.1 : Int) p.2).1 ≠ 0 then s.wr (p.1 : Int) p.2 else (s.wr (p.1 : Int) p.2).2.run r) = _
      rw [e, if_neg (by simp)]
      exact g1
    · rw [g5]
      show app r (flD s.D fun j => if j = (p.1 : Int) then s.W j ++ [p.2] else s.W j) = _
      rw [flD_wr]
      rfl
/-- up, no fuse, nothing waits -/
structure Free (s : Ds) : Prop where
  up : s.up = true
  fu : s.fu = -1
  W : ∀ i, s.W i = []
theorem run_flush {s : Ds} {A : List (Option (Nat × List Int))} (h : Free s) (hn : none ∉ A) (hA : ∀ p, some p ∈ A → p.1 < s.D.length ∧ p.2.length = 64) : ∃ s', s.run (A ++ [none]) = (0, s') ∧ Free s' ∧ s'.D = app A s.D := by
  obtain ⟨s1, g1, g2, g3, g4, g5⟩ := run_free A s hn hA h.up h.fu
  have e := fl_ok g2 g3
  refine ⟨⟨flD s1.D s1.W, fun _ => [], true, s1.dn + 1, -1⟩, ?_, ⟨rfl, rfl, fun _ => rfl⟩, ?_⟩
  · rw [Ds.run_app, g1, if_neg (by simp)]
    show s1.run [none] = _
    rw [Ds.run_cons]
    show (if s1.fl.1 ≠ 0 then s1.fl else s1.fl.2.run []) = _
    rw [e, if_neg (by simp)]
    rfl
  · show flD s1.D s1.W = _
    rw [g5, flD_nil s.D s.W (fun i _ => h.W _)]
theorem mops_free {s : Ds} (h : Free s) (m no ar fr : Nat) (B : List Int) (hB : IsBytes B) (hf : 2 + ar * m + fr + (B.length + 63) / 64 ≤ s.D.length) (h2 : 2 ≤ s.D.length) : ∃ s', s.run (mops m no ar fr B) = (0, s') ∧ Free s' ∧ s'.D = (app (wops (2 + ar * m + fr) B) s.D).set ((no + 1) % 2) (hdB (no + 1) ar (64 * fr + B.length)) := by
  obtain ⟨s1, g1, g2, g3⟩ := run_flush (A := wops (2 + ar * m + fr) B) h (wops_some _ _ B (Nat.le_refl _)) (fun p hp => by have := wops_mem B.length (2 + ar * m + fr) B (Nat.le_refl _) hB p hp; exact ⟨by omega, this.2.1⟩)
  have hl : s1.D.length = s.D.length := by rw [g3, app_len]
  obtain ⟨s2, k1, k2, k3⟩ := run_flush (A := [some ((no + 1) % 2, hdB (no + 1) ar (64 * fr + B.length))]) g2 (by simp) (fun p hp => by
    have : p = ((no + 1) % 2, hdB (no + 1) ar (64 * fr + B.length)) := by simpa using hp
    subst this
    exact ⟨by show (no + 1) % 2 < _; omega, hdB_len _ _ _⟩)
  refine ⟨s2, ?_, k2, ?_⟩
  · unfold mops
    rw [Ds.run_app, g1, if_neg (by simp)]
    exact k1
  · rw [k3, g3]
    rfl
/-- a log of which nothing is lost, and its disk -/
structure Gd (s : Ds) (l : Lg) : Prop where
  free : Free s
  nums : Nums s.D s.am l.no l.ar l.R
  lies : Lies s.D s.am l.no l.ar l.R
  am : l.m = s.am
  lost : l.lost = false
  room : l.ln + (joinL l.W).length ≤ 64 * l.m
  wb : ∀ B ∈ l.W, IsBytes B ∧ B.length ≤ 4096
theorem gd_open {s : Ds} {l : Lg} (h : Gd s l) : s.opn = (0, some { l with W := [] }, s) := by
  rw [opn_lies h.free.up h.free.W h.nums h.lies, ← h.am]
  have := h.lost
  cases l
  simp_all
theorem bAt_get {D : List (List Int)} {i : Nat} (h : i < D.length) : D[i]? = some (bAt D i) := by unfold bAt; rw [List.getElem?_eq_getElem h]; rfl
theorem gd_new (n : Nat) (h6 : 6 ≤ n) (hn : n ≤ 4096) : ∃ s', (Ds.new n).opn = (0, some ⟨(n - 2) / 2, 1, 0, [], [], false⟩, s') ∧ Gd s' ⟨(n - 2) / 2, 1, 0, [], [], false⟩ ∧ s'.D.length = n := by
  have hl : (Ds.new n).D.length = n := by simp [Ds.new, noughts]
  have hz : ∀ i, i < n → (Ds.new n).cur i = List.replicate 64 0 := fun i hi => by
    rw [cur_nil (fun _ => rfl), bAt]
    show ((noughts n)[i]?).getD [] = _
    unfold noughts
    rw [List.getElem?_replicate, if_pos hi]
    rfl
  have hfree : Free (Ds.new n) := ⟨rfl, rfl, fun _ => rfl⟩
  obtain ⟨s1, k1, k2, k3⟩ := run_flush (A := [some (1, hdB 1 0 0)]) hfree (by simp) (fun p hp => by
    have : p = (1, hdB 1 0 0) := by simpa using hp
    subst this
    exact ⟨by show 1 < _; omega, hdB_len _ _ _⟩)
  have hl1 : s1.D.length = n := by rw [k3, app_len, hl]
  have ham : s1.am = (n - 2) / 2 := by unfold Ds.am; rw [hl1]
  have hD : s1.D = (noughts n).set 1 (hdB 1 0 0) := k3
  refine ⟨s1, ?_, ⟨k2, ?_, ?_, ham.symm, rfl, by show 0 + 0 ≤ _; omega, fun B hB => by cases hB⟩, hl1⟩
  · have k1' : (Ds.new n).run [some (1, hdB 1 0 0), none] = (0, s1) := k1
    have ham0 : (Ds.new n).am = (n - 2) / 2 := by unfold Ds.am; rw [hl]
    rw [Ds.opn, if_neg (by simp [Ds.new]), if_neg (by omega), Ds.fob, if_pos ⟨hz 0 (by omega), hz 1 (by omega)⟩, k1', if_pos rfl, ham0]
    rfl
  · rw [ham]
    refine ⟨?_, ⟨by omega, by omega⟩, by rw [hl1], ⟨by show 1 ≤ 1; omega, by show 1 ≤ 1152921504606846976; omega⟩, by show 0 ≤ 1; omega, by show 0 ≤ _; omega, fun B hB => by cases hB⟩
    rw [hD]
    intro x hx
    rcases List.mem_or_eq_of_mem_set hx with e | e
    · have : x = List.replicate 64 0 := List.eq_of_mem_replicate (show x ∈ List.replicate n (List.replicate 64 0) from e)
      rw [this]
      exact ⟨by simp, zeros_bytes _⟩
    · rw [e]; exact ⟨hdB_len _ _ _, hdB_bytes _ _ _ (by omega)⟩
  · rw [hD]
    refine ⟨?_, fun b hb hk => ?_, rfl⟩
    · show ((noughts n).set 1 (hdB 1 0 0))[1 % 2]? = some (hdB 1 0 0)
      rw [show 1 % 2 = 1 from rfl, List.getElem?_set_self (by simp [noughts]; omega)]
    · replace hb : ((noughts n).set 1 (hdB 1 0 0))[(1 + 1) % 2]? = some b := hb
      have e : ((noughts n).set 1 (hdB 1 0 0))[0]? = some (List.replicate 64 0) := by
        rw [List.getElem?_set_ne (by omega)]
        unfold noughts
        rw [List.getElem?_replicate, if_pos (by omega)]
        rfl
      have hb' : ((noughts n).set 1 (hdB 1 0 0))[0]? = some b := hb
      rw [e] at hb'
      obtain rfl := Option.some.inj hb'
      rw [zero_no] at hk
      cases hk
theorem gd_sync {s : Ds} {l : Lg} (h : Gd s l) (hno : l.no < 1152921504606846976) (hW : l.W ≠ []) : ∃ s', l.sync s = (0, { l with no := l.no + 1, R := l.R ++ l.W, W := [] }, s') ∧ Gd s' { l with no := l.no + 1, R := l.R ++ l.W, W := [] } ∧ s'.D.length = s.D.length := by
  have hn := h.nums
  have hlen := hn.len
  have hmm := hn.mm
  have hroom := h.room
  rw [h.am] at hroom
  have har : l.ar * s.am ≤ s.am := by have := hn.aa; rcases (by omega : l.ar = 0 ∨ l.ar = 1) with e | e <;> rw [e] <;> omega
  have hjl : IsBytes (joinL l.W) := joinL_bytes _ fun B hB => (h.wb B hB).1
  have hlnm : l.ln ≤ 64 * s.am := by omega
  -- the bytes of the log: whole blocks, and the part of the last
  have hcl : (catD s.D (2 + l.ar * s.am) ((l.ln + 63) / 64)).length = 64 * ((l.ln + 63) / 64) := catD_len hn.is64 _ _ (by omega)
  have hq : (catD s.D (2 + l.ar * s.am) (l.ln / 64)).length = 64 * (l.ln / 64) := catD_len hn.is64 _ _ (by omega)
  have hpart : l.part s = (catD s.D (2 + l.ar * s.am + l.ln / 64) ((l.ln % 64 + 63) / 64)).take (l.ln % 64) := by unfold Lg.part; rw [cat_nil h.free.W, h.am]
  have hlog : joinL l.R = catD s.D (2 + l.ar * s.am) (l.ln / 64) ++ l.part s := by
    have e1 : (l.ln + 63) / 64 = l.ln / 64 + (l.ln % 64 + 63) / 64 := by omega
    have g := h.lies.log
    have e2 : (joinL l.R).length = l.ln := rfl
    rw [e2, e1, catD_add, List.take_append, hq, show l.ln - 64 * (l.ln / 64) = l.ln % 64 by omega, List.take_of_length_le (by rw [hq]; omega)] at g
    rw [hpart]
    exact g.symm
  have hpl : (l.part s).length = l.ln % 64 := by
    have := congrArg List.length hlog
    rw [List.length_append, hq] at this
    have e2 : (joinL l.R).length = l.ln := rfl
    omega
  have hpb : IsBytes (l.part s) := by
    have hb : IsBytes (joinL l.R) := joinL_bytes _ fun B hB => (hn.rb B hB).1
    rw [hlog] at hb
    exact bytes_of_mem fun x hx => bytes_mem hb x (List.mem_append_right _ hx)
  have hBl : (l.part s ++ joinL l.W).length = l.ln % 64 + (joinL l.W).length := by rw [List.length_append, hpl]
  obtain ⟨s', k1, k2, k3⟩ := mops_free h.free l.m l.no l.ar (l.ln / 64) (l.part s ++ joinL l.W) (bytes_app hpb hjl) (by rw [hBl, h.am]; omega) (by omega)
  rw [hBl, h.am] at k3
  have hlD : s'.D.length = s.D.length := by rw [k3, List.length_set, app_len]
  have ham' : s'.am = s.am := by unfold Ds.am; rw [hlD]
  have eln : (joinL (l.R ++ l.W)).length = l.ln + (joinL l.W).length := by rw [joinL_app, List.length_append]; rfl
  have e64 : 64 * (l.ln / 64) + (l.ln % 64 + (joinL l.W).length) = l.ln + (joinL l.W).length := by omega
  rw [e64] at k3
  have hoff : ∀ j, 2 ≤ j → s'.D[j]? = (app (wops (2 + l.ar * s.am + l.ln / 64) (l.part s ++ joinL l.W)) s.D)[j]? := fun j hj => by rw [k3, List.getElem?_set_ne (by omega)]
  refine ⟨s', ?_, ⟨k2, ⟨?_, by rw [hlD]; exact hlen, by rw [ham', hlD]; exact hmm, ⟨by show 1 ≤ l.no + 1; omega, by show l.no + 1 ≤ _; omega⟩, hn.aa, by show (joinL (l.R ++ l.W)).length ≤ 64 * s'.am; rw [eln, ham']; omega, fun B hB => ?_⟩, ⟨?_, fun b hb hk => ?_, ?_⟩, by show l.m = s'.am; rw [ham', h.am], h.lost, by show (joinL (l.R ++ l.W)).length + 0 ≤ 64 * l.m; rw [eln, h.am]; omega, fun B hB => by cases hB⟩, hlD⟩
  · unfold Lg.sync
    rw [if_neg (by rw [h.lost]; simp), if_neg hW, if_neg (by rw [h.free.up]; simp), k1, if_pos rfl]
  · rw [k3]
    intro x hx
    rcases List.mem_or_eq_of_mem_set hx with e | e
    · exact Is64.app _ _ hn.is64 (fun p hp => (wops_mem _ _ _ (Nat.le_refl _) (bytes_app hpb hjl) p hp).2) x e
    · rw [e]; exact ⟨hdB_len _ _ _, hdB_bytes _ _ _ (by have := hn.aa; omega)⟩
  · rcases List.mem_append.1 hB with e | e
    · exact hn.rb B e
    · exact h.wb B e
  · show s'.D[(l.no + 1) % 2]? = some (hdB (l.no + 1) l.ar (joinL (l.R ++ l.W)).length)
    rw [k3, List.getElem?_set_self (by rw [app_len]; omega), eln]
  · have hb' : s'.D[(l.no + 1 + 1) % 2]? = some b := hb
    rw [k3, List.getElem?_set_ne (by omega), app_wops_off _ _ _ _ (Nat.le_refl _) _ (.inl (by omega)), show (l.no + 1 + 1) % 2 = l.no % 2 by omega, h.lies.hd] at hb'
    obtain rfl := Option.some.inj hb'
    rw [(hd_nums l.no l.ar (joinL l.R).length (by omega) (by have e2 : (joinL l.R).length = l.ln := rfl; omega)).1]
    show l.no < l.no + 1
    omega
  · show (catD s'.D (2 + l.ar * s'.am) (((joinL (l.R ++ l.W)).length + 63) / 64)).take (joinL (l.R ++ l.W)).length = joinL (l.R ++ l.W)
    rw [ham', eln, joinL_app]
    have e1 : (l.ln + (joinL l.W).length + 63) / 64 = l.ln / 64 + ((l.part s ++ joinL l.W).length + 63) / 64 := by rw [hBl]; omega
    rw [e1, catD_add, catD_same _ _ (fun j h1 h2 => (hoff j (by omega)).trans (app_wops_off _ _ _ _ (Nat.le_refl _) j (.inl (by omega)))), List.take_append, hq, show l.ln + (joinL l.W).length - 64 * (l.ln / 64) = (l.part s ++ joinL l.W).length by rw [hBl]; omega, List.take_of_length_le (by rw [hq]; omega), catD_same _ _ (fun j h1 h2 => hoff j (by omega)), app_wops_cat _ _ _ _ (Nat.le_refl _) (by rw [hBl]; omega), ← List.append_assoc, ← hlog]
theorem gd_reset {s : Ds} {l : Lg} (h : Gd s l) (hno : l.no < 1152921504606846976) (hW : l.W = []) (recs : List (List Int)) (hb : ∀ B ∈ recs, IsBytes B) (hf : (frO recs (64 * l.m)).2 = 0) : ∃ s', l.reset s recs = (0, { l with no := l.no + 1, ar := 1 - l.ar, R := recs, W := [] }, s') ∧ Gd s' { l with no := l.no + 1, ar := 1 - l.ar, R := recs, W := [] } ∧ s'.D.length = s.D.length := by
  have hn := h.nums
  have hlen := hn.len
  have hmm := hn.mm
  obtain ⟨f1, f2, f3⟩ := frO_ok hf
  rw [h.am] at f2
  have har : (1 - l.ar) * s.am ≤ s.am := by have := hn.aa; rcases (by omega : l.ar = 0 ∨ l.ar = 1) with e | e <;> rw [e] <;> omega
  have hjl : IsBytes (joinL recs) := joinL_bytes _ hb
  obtain ⟨s', k1, k2, k3⟩ := mops_free h.free l.m l.no (1 - l.ar) 0 (joinL recs) hjl (by rw [h.am]; omega) (by omega)
  rw [h.am] at k3
  have hlD : s'.D.length = s.D.length := by rw [k3, List.length_set, app_len]
  have ham' : s'.am = s.am := by unfold Ds.am; rw [hlD]
  rw [show 64 * 0 + (joinL recs).length = (joinL recs).length by omega, Nat.add_zero] at k3
  have hoff : ∀ j, 2 ≤ j → s'.D[j]? = (app (wops (2 + (1 - l.ar) * s.am) (joinL recs)) s.D)[j]? := fun j hj => by rw [k3, List.getElem?_set_ne (by omega)]
  refine ⟨s', ?_, ⟨k2, ⟨?_, by rw [hlD]; exact hlen, by rw [ham', hlD]; exact hmm, ⟨by show 1 ≤ l.no + 1; omega, by show l.no + 1 ≤ _; omega⟩, by show 1 - l.ar ≤ 1; omega, by show (joinL recs).length ≤ 64 * s'.am; rw [ham']; omega, fun B hB => ⟨hb B hB, f3 B hB⟩⟩, ⟨?_, fun b hb2 hk => ?_, ?_⟩, by show l.m = s'.am; rw [ham', h.am], h.lost, by show (joinL recs).length + 0 ≤ 64 * l.m; rw [h.am]; omega, fun B hB => by cases hB⟩, hlD⟩
  · unfold Lg.reset
    rw [if_neg (by rw [h.lost]; simp), if_neg (by simpa using hW), if_neg (by simpa using hf), k1, if_pos rfl]
  · rw [k3]
    intro x hx
    rcases List.mem_or_eq_of_mem_set hx with e | e
    · exact Is64.app _ _ hn.is64 (fun p hp => (wops_mem _ _ _ (Nat.le_refl _) hjl p hp).2) x e
    · rw [e]; exact ⟨hdB_len _ _ _, hdB_bytes _ _ _ (by omega)⟩
  · show s'.D[(l.no + 1) % 2]? = some (hdB (l.no + 1) (1 - l.ar) (joinL recs).length)
    rw [k3, List.getElem?_set_self (by rw [app_len]; omega)]
  · have hb' : s'.D[(l.no + 1 + 1) % 2]? = some b := hb2
    rw [k3, List.getElem?_set_ne (by omega), app_wops_off _ _ _ _ (Nat.le_refl _) _ (.inl (by omega)), show (l.no + 1 + 1) % 2 = l.no % 2 by omega, h.lies.hd] at hb'
    obtain rfl := Option.some.inj hb'
    rw [(hd_nums l.no l.ar (joinL l.R).length (by omega) (by have := hn.ln; omega)).1]
    show l.no < l.no + 1
    omega
  · show (catD s'.D (2 + (1 - l.ar) * s'.am) (((joinL recs).length + 63) / 64)).take (joinL recs).length = joinL recs
    rw [ham', catD_same _ _ (fun j h1 h2 => hoff j (by omega)), app_wops_cat _ _ _ _ (Nat.le_refl _) (by omega)]
theorem gd_add {s : Ds} {l : Lg} (h : Gd s l) (rec : List Int) (hB : IsBytes rec) : Gd s (l.add rec).2 := by
  have hok : l.Ok l.no := ⟨by have := h.nums.len; have := h.nums.mm; rw [h.am]; omega, by omega, h.nums.aa, h.room, h.nums.rb, h.wb⟩
  have h2 := Lg.add_ok hok hB
  unfold Lg.add at h2 ⊢
  rw [if_neg (by rw [h.lost]; simp)] at h2 ⊢
  split
  · exact h
  · rename_i hx
    rw [if_neg hx] at h2
    exact ⟨h.free, h.nums, h.lies, h.am, h.lost, h2.room, h2.wb⟩
theorem crD_nil (keep : List Int) (D : List (List Int)) (W : Int → List (List Int)) (h : ∀ i, W i = []) : crD keep D W = D := by
  have : wb D.length W = [] := by
    apply List.eq_nil_iff_forall_not_mem.2
    intro i hi
    exact (mem_wb.1 hi).2 (h _)
  rw [crD, this]
  rfl
theorem gd_crash {s : Ds} {l : Lg} (h : Gd s l) (keep : List Int) : Gd (s.cr keep) l := by
  have e : (s.cr keep).D = s.D := crD_nil keep s.D s.W h.free.W
  have ea : (s.cr keep).am = s.am := by unfold Ds.am; rw [e]
  exact ⟨⟨rfl, rfl, fun _ => rfl⟩, by rw [ea, e]; exact h.nums, by rw [ea, e]; exact h.lies, by rw [ea]; exact h.am, h.lost, h.room, h.wb⟩
theorem gd_drop {s : Ds} {l : Lg} (h : Gd s l) : Gd s { l with W := [] } := ⟨h.free, h.nums, h.lies, h.am, h.lost, by have := h.room; show l.ln + 0 ≤ 64 * l.m; omega, fun B hB => by cases hB⟩
end Go.Proofs.Ytchnbfdfcjahpaa
namespace Go.Proofs.Ytchnbfdfcjahpaa
open Go.ChangeShapes Go.WideShapes Go.ChangeAt Go.RowKit Go.Deep Go.Maps
set_option linter.unusedVariables false
theorem strs_ne {A B : List Int} (ha : IsBytes A) (hb : IsBytes B) (h : A ≠ B) : ((strOfNums A).toList == (strOfNums B).toList) = false := by
  rw [str_eq A B (bytes_mem ha) (bytes_mem hb), decide_eq_false h]
theorem list_ext_getD {l k : List (List Int)} (hl : l.length = k.length) (h : ∀ i, i < l.length → l.getD i [] = k.getD i []) : l = k := by
  apply List.ext_getElem hl
  intro i h1 h2
  have := h i h1
  rwa [List.getD_eq_getElem?_getD, List.getD_eq_getElem?_getD, List.getElem?_eq_getElem h1, List.getElem?_eq_getElem h2] at this
set_option maxHeartbeats 1000000 in
theorem wsame_is (w : World) (a b : Option Addr) (n m c d : Nat) (l k : List (List Int)) (hn : l.length = n) (hm : k.length = m) (hn2 : n ≤ 1000000) (hm2 : m ≤ 1000000) (hl : InS w a l) (hk : InS w b k) (lb : ∀ B ∈ l, IsBytes B) (kb : ∀ B ∈ k, IsBytes B) :
    Calls Try.prog 19 #[.slice a n c, .slice b m d] w fun e w' => e = .returned (.bool (decide (l = k))) ∧ Below w.heap.size w w' := by
  by_cases hnm : n = m
  · subst hnm
    have HL : Hid (InS w a l) := hl
    have HK : Hid (InS w b k) := hk
    have LB : Hid (∀ B ∈ l, IsBytes B) := lb
    have KB : Hid (∀ B ∈ k, IsBytes B) := kb
    obtain ⟨R, hR⟩ : ∃ R, R = decide (l = k) := ⟨_, rfl⟩
    rw [← hR]
    have HR : Hid (R = decide (l = k)) := hR
    clear hl hk lb kb hR
    go_enter Try.func19, Try.ntmps19
    go_wp2_with fail
    go_loopg [5] n (fun g i wr => ∃ j : Nat, j ≤ n ∧ g = n - j ∧ i = .int .i64 (j : Int) ∧ Hid (Below w.heap.size w wr) ∧ Hid (∀ i, i < j → l.getD i [] = k.getD i []))
    case atStart => exact ⟨0, Nat.zero_le _, rfl, rfl, Below.refl _ _, fun i hi => absurd hi (Nat.not_lt_zero _)⟩
    case round =>
      obtain ⟨j, hj, rfl, rfl, HB, HS⟩ := hrel
      by_cases hlt : j < n
      · have i1 : (j : Int) < (n : Int) := by omega
        obtain ⟨g1, o1, rfl, hc1⟩ : ∃ g off, a = some ⟨g, off, none⟩ ∧ ∀ i, i < l.length → w.cell? ⟨g, off + i, none⟩ = some (.string (strOfNums (l.getD i []))) := by
          rcases HL.out with rfl | h
          · simp at hn; omega
          · exact h
        obtain ⟨g2, o2, rfl, hc2⟩ : ∃ g off, b = some ⟨g, off, none⟩ ∧ ∀ i, i < k.length → w.cell? ⟨g, off + i, none⟩ = some (.string (strOfNums (k.getD i []))) := by
          rcases HK.out with rfl | h
          · simp at hm; omega
          · exact h
        have c1 := hc1 j (by omega)
        have c2 := hc2 j (by omega)
        have k1 : wr.cell? ⟨g1, o1 + j, none⟩ = some (.string (strOfNums (l.getD j []))) := (HB.out.cell (p := ⟨g1, o1 + j, none⟩) (World.block_lt_of_cell? _ _ c1)).trans c1
        have k2 : wr.cell? ⟨g2, o2 + j, none⟩ = some (.string (strOfNums (k.getD j []))) := (HB.out.cell (p := ⟨g2, o2 + j, none⟩) (World.block_lt_of_cell? _ _ c2)).trans c2
        have m1 : l.getD j [] ∈ l := by rw [List.getD_eq_getElem?_getD, List.getElem?_eq_getElem (by omega)]; exact List.getElem_mem _
        have m2 : k.getD j [] ∈ k := by rw [List.getD_eq_getElem?_getD, List.getElem?_eq_getElem (by omega)]; exact List.getElem_mem _
        clear hc1 hc2 c1 c2
        by_cases he : l.getD j [] = k.getD j []
        · have HS2 : Hid (∀ i, i < j + 1 → l.getD i [] = k.getD i []) := fun i hi => by
            by_cases h : i = j
            · rw [h]; exact he
            · exact HS.out i (by omega)
          rw [he] at k1
          generalize strOfNums (k.getD j []) = X at *
          clear he m1 m2
          go_wp2_with fail
          go_quiet (fail)
          go_wp2_with fail
          go_roundg (n - (j + 1))
          case measure => omega
          case rel => exact ⟨j + 1, by omega, rfl, by go_num, HB.out.trans (below_drewN (Below.refl _ _) _ |>.mono HB.out.size), HS2⟩
        · have hb := strs_ne (LB.out _ m1) (KB.out _ m2) he
          have HR2 : Hid (R = false) := by
            show _ = _
            rw [HR.out, decide_eq_false]
            intro e
            exact he (by rw [e])
          generalize strOfNums (k.getD j []) = X at *
          generalize strOfNums (l.getD j []) = Y at *
          clear he m1 m2
          go_wp2_with fail
          go_quiet (fail)
          go_wp2_with fail
          go_ret
          exact ⟨by rw [HR2.out]; rfl, HB.out.trans (below_drewN (Below.refl _ _) _ |>.mono HB.out.size)⟩
      · have e : j = n := by omega
        subst e
        have i1 : ¬ (j : Int) < (j : Int) := by omega
        have HR2 : Hid (R = true) := by
          show _ = _
          rw [HR.out, decide_eq_true (list_ext_getD (by omega) (fun i hi => HS.out i (by omega)))]
        go_wp2_with fail
        go_ret
        exact ⟨by rw [HR2.out]; rfl, HB.out⟩
  · have e1 : ((n : Int) == (m : Int)) = false := by rw [beq_eq_false_iff_ne]; omega
    have hne : decide (l = k) = false := decide_eq_false fun e => hnm (by rw [← hn, ← hm, e])
    rw [hne]
    go_enter Try.func19, Try.ntmps19
    go_wp2_with fail
    go_ret
    exact ⟨rfl, Below.refl _ _⟩
end Go.Proofs.Ytchnbfdfcjahpaa
namespace Go.Proofs.Ytchnbfdfcjahpaa
open Go.ChangeShapes Go.WideShapes Go.ChangeAt Go.RowKit Go.Deep Go.Maps
set_option linter.unusedVariables false
/-- in block bd the disk s, in block bl the log l of it, all made since w; the blocks P are neither's -/
structure Wl (w wr : World) (P : Nat → Prop) (bd bl N : Nat) (s : Ds) (l : Lg) : Prop where
  ex : ∃ F G, Dk wr F bd N s ∧ Lm wr G bl bd l ∧ (∀ k, G k → ¬ F k) ∧ (∀ k, F k → w.heap.size ≤ k) ∧ (∀ k, G k → w.heap.size ≤ k) ∧ ∀ k, P k → k < wr.heap.size ∧ ¬ F k ∧ ¬ G k
  ok : l.Ok N
  bel : Below w.heap.size w wr
/-- in block bd the disk s alone -/
structure Wd (w wr : World) (P : Nat → Prop) (bd N : Nat) (s : Ds) : Prop where
  ex : ∃ F, Dk wr F bd N s ∧ (∀ k, F k → w.heap.size ≤ k) ∧ ∀ k, P k → k < wr.heap.size ∧ ¬ F k
  bel : Below w.heap.size w wr
theorem Wl.disk {w wr : World} {P : Nat → Prop} {bd bl N : Nat} {s : Ds} {l : Lg} (h : Wl w wr P bd bl N s l) : Wd w wr P bd N s := by
  obtain ⟨F, G, d, _, _, f, _, p⟩ := h.ex
  exact ⟨⟨F, d, f, fun k hk => ⟨(p k hk).1, (p k hk).2.1⟩⟩, h.bel⟩
theorem Wl.more {w wr : World} {P : Nat → Prop} {bd bl N N' : Nat} {s : Ds} {l : Lg} (h : Wl w wr P bd bl N s l) (hN : N ≤ N') : Wl w wr P bd bl N' s l := by
  obtain ⟨F, G, d, r⟩ := h.ex
  exact ⟨⟨F, G, d.more hN, r⟩, h.ok.more hN, h.bel⟩
theorem Wd.more {w wr : World} {P : Nat → Prop} {bd N N' : Nat} {s : Ds} (h : Wd w wr P bd N s) (hN : N ≤ N') : Wd w wr P bd N' s := by
  obtain ⟨F, d, r⟩ := h.ex
  exact ⟨⟨F, d.more hN, r⟩, h.bel⟩
theorem Wl.less {w wr : World} {P Q : Nat → Prop} {bd bl N : Nat} {s : Ds} {l : Lg} (h : Wl w wr P bd bl N s l) (hQ : ∀ k, Q k → P k) : Wl w wr Q bd bl N s l := by
  obtain ⟨F, G, a1, a2, a3, a4, a5, a6⟩ := h.ex
  exact ⟨⟨F, G, a1, a2, a3, a4, a5, fun k hk => a6 k (hQ k hk)⟩, h.ok, h.bel⟩
/-- whatever was made since is neither's -/
theorem Wl.keep {w wr w' : World} {P : Nat → Prop} {bd bl N : Nat} {s : Ds} {l : Lg} (h : Wl w wr P bd bl N s l) (hb : Below wr.heap.size wr w') : Wl w w' (fun k => P k ∨ (wr.heap.size ≤ k ∧ k < w'.heap.size)) bd bl N s l := by
  obtain ⟨F, G, a1, a2, a3, a4, a5, a6⟩ := h.ex
  refine ⟨⟨F, G, a1.keep hb, a2.keep hb, a3, a4, a5, fun k hk => ?_⟩, h.ok, h.bel.trans (hb.mono h.bel.size)⟩
  rcases hk with hk | ⟨k1, k2⟩
  · have := a6 k hk
    exact ⟨Nat.lt_of_lt_of_le this.1 hb.size, this.2⟩
  · exact ⟨k2, fun e => by have := a1.lt k e; omega, fun e => by have := a2.lt k e; omega⟩
theorem Wd.keep {w wr w' : World} {P : Nat → Prop} {bd N : Nat} {s : Ds} (h : Wd w wr P bd N s) (hb : Below wr.heap.size wr w') : Wd w w' (fun k => P k ∨ (wr.heap.size ≤ k ∧ k < w'.heap.size)) bd N s := by
  obtain ⟨F, a1, a2, a3⟩ := h.ex
  refine ⟨⟨F, a1.keep hb, a2, fun k hk => ?_⟩, h.bel.trans (hb.mono h.bel.size)⟩
  rcases hk with hk | ⟨k1, k2⟩
  · exact ⟨Nat.lt_of_lt_of_le (a3 k hk).1 hb.size, (a3 k hk).2⟩
  · exact ⟨k2, fun e => by have := a1.lt k e; omega⟩
theorem Wl.keep0 {w wr w' : World} {P : Nat → Prop} {bd bl N : Nat} {s : Ds} {l : Lg} (h : Wl w wr P bd bl N s l) (hb : Below wr.heap.size wr w') : Wl w w' P bd bl N s l := (h.keep hb).less fun _ hk => .inl hk
theorem Wl.stepB {w wr w' : World} {P : Nat → Prop} {bd bl N' : Nat} {s' : Ds} {l' : Lg} {F F' G G' : Nat → Prop} (hB : Below w.heap.size w wr) (hF : ∀ k, F k → w.heap.size ≤ k) (hG : ∀ k, G k → w.heap.size ≤ k) (hP : ∀ k, P k → k < wr.heap.size ∧ ¬ F k ∧ ¬ G k) (hd : Dk w' F' bd N' s') (hl : Lm w' G' bl bd l') (hs : StepB F F' G G' wr w') (hx : ∀ k, G' k → ¬ F' k) (hok : l'.Ok N') : Wl w w' P bd bl N' s' l' ∧ ∀ k, P k → w'.heap[k]? = wr.heap[k]? := by
  refine ⟨⟨⟨F', G', hd, hl, hx, fun k hk => ?_, fun k hk => ?_, fun k hk => ⟨Nat.lt_of_lt_of_le (hP k hk).1 hs.off.size, fun e => ?_, fun e => ?_⟩⟩, hok, hB.trans (hs.off.below (fun k hk => hk.elim (hF k) (hG k)) hB.size)⟩, fun k hk => hs.off.block k (hP k hk).1 (fun e => e.elim (hP k hk).2.1 (hP k hk).2.2)⟩
  · rcases hs.sub k hk with e | e
    · exact hF k e
    · exact Nat.le_trans hB.size e
  · rcases hs.sug k hk with e | e
    · exact hG k e
    · exact Nat.le_trans hB.size e
  · rcases hs.sub k e with e | e
    · exact (hP k hk).2.1 e
    · have := (hP k hk).1; omega
  · rcases hs.sug k e with e | e
    · exact (hP k hk).2.2 e
    · have := (hP k hk).1; omega
theorem sync_ok {l : Lg} {s : Ds} {N : Nat} (h : l.Ok N) : (l.sync s).2.1.Ok (N + 2100) := by
  unfold Lg.sync
  split
  · exact h.more (by omega)
  · split
    · exact h.more (by omega)
    · split
      · exact ⟨h.m, by have := h.no; show l.no ≤ _; omega, h.ar, h.room, h.rb, h.wb⟩
      · split
        · refine ⟨h.m, by have := h.no; show l.no + 1 ≤ _; omega, h.ar, ?_, fun B hB => ?_, fun B hB => by cases hB⟩
          · show (joinL (l.R ++ l.W)).length + 0 ≤ 64 * l.m
            have e : (joinL (l.R ++ l.W)).length = l.ln + (joinL l.W).length := by rw [joinL_app, List.length_append]; rfl
            have := h.room
            omega
          · rcases List.mem_append.1 hB with e | e
            · exact h.rb B e
            · exact h.wb B e
        · exact ⟨h.m, by have := h.no; show l.no ≤ _; omega, h.ar, h.room, h.rb, h.wb⟩
theorem reset_ok {l : Lg} {s : Ds} {N : Nat} (h : l.Ok N) {recs : List (List Int)} (hb : ∀ B ∈ recs, IsBytes B) : (l.reset s recs).2.1.Ok (N + 2100) := by
  unfold Lg.reset
  split
  · exact h.more (by omega)
  · split
    · exact h.more (by omega)
    · split
      · exact h.more (by omega)
      · rename_i h3
        split
        · obtain ⟨f1, f2, f3⟩ := frO_ok (show (frO recs (64 * l.m)).2 = 0 by simpa using h3)
          exact ⟨h.m, by have := h.no; show l.no + 1 ≤ _; omega, by show 1 - l.ar ≤ 1; omega, by show (joinL recs).length + 0 ≤ 64 * l.m; omega, fun B hB => ⟨hb B hB, f3 B hB⟩, fun B hB => by cases hB⟩
        · exact ⟨h.m, by have := h.no; show l.no ≤ _; omega, h.ar, h.room, h.rb, h.wb⟩
theorem wl_add {w wr : World} {P : Nat → Prop} {bd bl N : Nat} {s : Ds} {l : Lg} (T : Wl w wr P bd bl N s l) (rec : List Int) (hB : IsBytes rec) : Calls Try.prog 8 #[.pointer (some ⟨bl, 0, none⟩), .string (strOfNums rec)] wr fun e w' => e = .returned (.int .i64 (l.add rec).1) ∧ Wl w w' P bd bl N s (l.add rec).2 ∧ ∀ k, P k → w'.heap[k]? = wr.heap[k]? := by
  obtain ⟨F, G, a1, a2, a3, a4, a5, a6⟩ := T.ex
  refine (add_is wr G bl bd N l a2 T.ok rec hB).mono ?_
  rintro e w' ⟨rfl, G', hl, hs⟩
  exact ⟨rfl, Wl.stepB T.bel a4 a5 a6 (a1.apartL hs a3) hl hs.toBG (fun k hk hf => by
    rcases hs.sub k hk with e | e
    · exact a3 k e hf
    · have := a1.lt k hf; omega) (Lg.add_ok T.ok hB)⟩
theorem wl_sync {w wr : World} {P : Nat → Prop} {bd bl N : Nat} {s : Ds} {l : Lg} (T : Wl w wr P bd bl N s l) (hfit : 2 + l.ar * l.m + l.m ≤ s.D.length) (hN : N + 3000 < 999900) : Calls Try.prog 9 #[.pointer (some ⟨bl, 0, none⟩)] wr fun e w' => e = .returned (.int .i64 (l.sync s).1) ∧ Wl w w' P bd bl (N + 2100) (l.sync s).2.2 (l.sync s).2.1 ∧ ∀ k, P k → w'.heap[k]? = wr.heap[k]? := by
  obtain ⟨F, G, a1, a2, a3, a4, a5, a6⟩ := T.ex
  refine (sync_is wr F G bl bd N s l a1 a2 T.ok a3 hfit hN).mono ?_
  rintro e w' ⟨rfl, F', G', hd, hl, hs, hx⟩
  exact ⟨rfl, Wl.stepB T.bel a4 a5 a6 hd hl hs hx (sync_ok T.ok)⟩
theorem wl_reset {w wr : World} {P : Nat → Prop} {bd bl N : Nat} {s : Ds} {l : Lg} (T : Wl w wr P bd bl N s l) (hN : N + 3000 < 999900) (a : Option Addr) (n c : Nat) (recs : List (List Int)) (hn : recs.length = n) (hn2 : n ≤ 1000000) (hin : InS wr a recs) (ha : a = none → n = 0 ∧ c = 0) (hB : ∀ B ∈ recs, IsBytes B) (hx : ∀ x, a = some x → recs ≠ [] → P x.block ∨ x.block < w.heap.size) : Calls Try.prog 10 #[.pointer (some ⟨bl, 0, none⟩), .slice a n c] wr fun e w' => e = .returned (.int .i64 (l.reset s recs).1) ∧ Wl w w' P bd bl (N + 2100) (l.reset s recs).2.2 (l.reset s recs).2.1 ∧ ∀ k, P k → w'.heap[k]? = wr.heap[k]? := by
  obtain ⟨F, G, a1, a2, a3, a4, a5, a6⟩ := T.ex
  refine (reset_is wr F G bl bd N s l a1 a2 T.ok a3 hN a n c recs hn hn2 hin ha hB (fun x hx2 hne => ?_)).mono ?_
  · rcases hx x hx2 hne with h | h
    · exact (a6 _ h).2
    · exact ⟨fun e => by have := a4 _ e; omega, fun e => by have := a5 _ e; omega⟩
  · rintro e w' ⟨rfl, F', G', hd, hl, hs, hx⟩
    exact ⟨rfl, Wl.stepB T.bel a4 a5 a6 hd hl hs hx (reset_ok T.ok hB)⟩
theorem wl_room {w wr : World} {P : Nat → Prop} {bd bl N : Nat} {s : Ds} {l : Lg} (T : Wl w wr P bd bl N s l) : Calls Try.prog 14 #[.pointer (some ⟨bl, 0, none⟩)] wr fun e w' => e = .returned (.int .i64 (l.room : Nat)) ∧ Below wr.heap.size wr w' := by
  obtain ⟨F, G, a1, a2, _⟩ := T.ex
  exact wroom_is wr G bl bd N l a2 T.ok
theorem wl_records {w wr : World} {P : Nat → Prop} {bd bl N : Nat} {s : Ds} {l : Lg} (T : Wl w wr P bd bl N s l) : Calls Try.prog 11 #[.pointer (some ⟨bl, 0, none⟩)] wr fun e w' => ∃ v, e = .returned v ∧ RowsS w' wr.heap.size v l.R ∧ Below wr.heap.size wr w' := by
  obtain ⟨F, G, a1, a2, _⟩ := T.ex
  exact wrecords_is wr G bl bd N l a2 T.ok
theorem wl_waiting {w wr : World} {P : Nat → Prop} {bd bl N : Nat} {s : Ds} {l : Lg} (T : Wl w wr P bd bl N s l) : Calls Try.prog 12 #[.pointer (some ⟨bl, 0, none⟩)] wr fun e w' => e = .returned (.int .i64 (l.W.length : Nat)) ∧ w' = wr := by
  obtain ⟨F, G, a1, a2, _⟩ := T.ex
  exact wwaiting_is wr G bl bd l a2
theorem wl_used {w wr : World} {P : Nat → Prop} {bd bl N : Nat} {s : Ds} {l : Lg} (T : Wl w wr P bd bl N s l) : Calls Try.prog 13 #[.pointer (some ⟨bl, 0, none⟩)] wr fun e w' => e = .returned (.int .i64 (l.ln : Nat)) ∧ w' = wr := by
  obtain ⟨F, G, a1, a2, _⟩ := T.ex
  exact wused_is wr G bl bd l a2
theorem wd_blocks {w wr : World} {P : Nat → Prop} {bd N : Nat} {s : Ds} (T : Wd w wr P bd N s) : Calls Try.prog 24 #[.pointer (some ⟨bd, 0, none⟩)] wr fun e w' => e = .returned (.int .i64 (s.D.length : Int)) ∧ w' = wr := by
  obtain ⟨F, a1, _⟩ := T.ex
  exact dk_blocks wr F bd N s a1
theorem wd_new (n : Nat) (h1 : 1 ≤ n) (h2 : n ≤ 4096) (w wr : World) (hb : Below w.heap.size w wr) : Calls Try.prog 22 #[.int .i64 (n : Int)] wr fun e w' => ∃ b, e = .returned (.tuple #[.pointer (some ⟨b, 0, none⟩), .int .i64 0]) ∧ Wd w w' (fun k => k < wr.heap.size) b 0 (Ds.new n) ∧ Below wr.heap.size wr w' := by
  refine (dk_new n h1 h2 wr).mono ?_
  rintro e w' ⟨b, F, rfl, hd, hb2, hF⟩
  exact ⟨b, rfl, ⟨⟨F, hd, fun k hk => Nat.le_trans hb.size (hF k hk), fun k hk => ⟨Nat.lt_of_lt_of_le hk hb2.size, fun e => by have := hF k e; omega⟩⟩, hb.trans (hb2.mono hb.size)⟩, hb2⟩
/-- Open of a disk: the log is new -/
theorem wd_open {w wr : World} {P : Nat → Prop} {bd N : Nat} {s : Ds} (T : Wd w wr P bd N s) (hN : N < 999998) : Calls Try.prog 15 #[.pointer (some ⟨bd, 0, none⟩)] wr fun e w' => (∀ k, P k → w'.heap[k]? = wr.heap[k]?) ∧ wr.heap.size ≤ w'.heap.size ∧ ((s.opn.1 = 0 ∧ ∃ bl l, s.opn.2.1 = some l ∧ e = .returned (.tuple #[.pointer (some ⟨bl, 0, none⟩), .int .i64 0]) ∧ Wl w w' P bd bl (N + 2) s.opn.2.2 l ∧ 1 ≤ l.no) ∨ (s.opn.1 ≠ 0 ∧ e = .returned (.tuple #[.pointer none, .int .i64 s.opn.1]) ∧ Wd w w' P bd (N + 2) s.opn.2.2)) := by
  obtain ⟨F, a1, a2, a3⟩ := T.ex
  refine (open_is wr F bd N s a1 hN).mono ?_
  rintro e w' ⟨F', hd, hs, hor⟩
  have hF' : ∀ k, F' k → w.heap.size ≤ k := fun k hk => by
    rcases hs.sub k hk with e | e
    · exact a2 k e
    · exact Nat.le_trans T.bel.size e
  have hP' : ∀ k, P k → k < w'.heap.size ∧ ¬ F' k := fun k hk => ⟨Nat.lt_of_lt_of_le (a3 k hk).1 hs.off.size, fun e => by
    rcases hs.sub k e with e | e
    · exact (a3 k hk).2 e
    · have := (a3 k hk).1; omega⟩
  have hbel : Below w.heap.size w w' := T.bel.trans (hs.off.below a2 T.bel.size)
  refine ⟨fun k hk => hs.off.block k (a3 k hk).1 (a3 k hk).2, hs.off.size, ?_⟩
  rcases hor with ⟨h0, bl, G, l, hl, he, hm, hok, hno, hg1, hg2⟩ | ⟨h0, he⟩
  · exact .inl ⟨h0, bl, l, hl, he, ⟨⟨F', G, hd, hm, hg2, hF', fun k hk => Nat.le_trans T.bel.size (hg1 k hk), fun k hk => ⟨(hP' k hk).1, (hP' k hk).2, fun e => by have := hg1 k e; have := (a3 k hk).1; omega⟩⟩, hok.more (by omega), hbel⟩, hno⟩
  · exact .inr ⟨h0, he, ⟨⟨F', hd, hF', hP'⟩, hbel⟩⟩
theorem wd_crash {w wr : World} {P : Nat → Prop} {bd N : Nat} {s : Ds} (T : Wd w wr P bd N s) (hN : N ≤ 1000000) (ka : Option Addr) (kl kc : Nat) (keep : List Int) (hkl : keep.length = kl) (hin : InK wr ka keep) (hk : ∀ x, ka = some x → keep ≠ [] → P x.block ∨ x.block < w.heap.size) : Calls Try.prog 18 #[.pointer (some ⟨bd, 0, none⟩), .slice ka kl kc] wr fun e w' => e = .returned (.int .i64 0) ∧ Wd w w' P bd N (s.cr keep) ∧ (∀ k, P k → w'.heap[k]? = wr.heap[k]?) ∧ wr.heap.size ≤ w'.heap.size := by
  obtain ⟨F, a1, a2, a3⟩ := T.ex
  refine (dk_crash wr F bd N s a1 hN ka kl kc keep hkl hin (fun x hx hne hF => ?_)).mono ?_
  · rcases hk x hx hne with h | h
    · exact (a3 _ h).2 hF
    · have := a2 _ hF; omega
  · rintro e w' ⟨rfl, F', hd, hs⟩
    refine ⟨rfl, ⟨⟨F', hd, fun k hk => ?_, fun k hk => ⟨Nat.lt_of_lt_of_le (a3 k hk).1 hs.off.size, fun e => ?_⟩⟩, T.bel.trans (hs.off.below a2 T.bel.size)⟩, fun k hk => hs.off.block k (a3 k hk).1 (a3 k hk).2, hs.off.size⟩
    · rcases hs.sub k hk with e | e
      · exact a2 k e
      · exact Nat.le_trans T.bel.size e
    · rcases hs.sub k e with e | e
      · exact (a3 k hk).2 e
      · have := (a3 k hk).1; omega
end Go.Proofs.Ytchnbfdfcjahpaa
namespace Go.Proofs.Ytchnbfdfcjahpaa
open Go.ChangeShapes Go.WideShapes Go.ChangeAt Go.RowKit Go.Deep Go.Maps
set_option linter.unusedVariables false
theorem str_x : strOfNums [120] = ⟨#[120]⟩ := rfl
theorem x_bytes : IsBytes [120] := bytes_of_mem fun y hy => by
  have : y = 120 := by simpa using hy
  omega
set_option maxRecDepth 100000 in
set_option maxHeartbeats 4000000 in
theorem works_true (w : World) : Calls Try.prog 16 #[] w fun e w' => e = .returned (.bool true) ∧ Below w.heap.size w w' := by
  obtain ⟨s1, o1, G1, hD1⟩ := gd_new 8 (by omega) (by omega)
  obtain ⟨l1, hl1⟩ : ∃ l1, l1 = (⟨(8 - 2) / 2, 1, 0, [], [], false⟩ : Lg) := ⟨_, rfl⟩
  rw [← hl1] at o1 G1
  have r1 : l1.room = 192 := by rw [hl1]; rfl
  have a1 : l1.add [120] = (0, ⟨3, 1, 0, [], [[120]], false⟩) := by
    have hx : (frO [[120]] l1.room).2 = 0 := by rw [r1, frO_one]; rfl
    unfold Lg.add
    rw [if_neg (by rw [hl1]; simp), if_neg (by rw [hx]; simp), hl1]
    rfl
  have G2 := gd_add G1 [120] x_bytes
  rw [a1] at G2
  obtain ⟨l2, hl2⟩ : ∃ l2, l2 = (⟨3, 1, 0, [], [[120]], false⟩ : Lg) := ⟨_, rfl⟩
  rw [← hl2] at a1 G2
  have r2 : l2.room = 183 := by rw [hl2]; decide +kernel
  obtain ⟨s3, y3, G3, hD3⟩ := gd_sync G2 (by rw [hl2]; decide) (by rw [hl2]; decide)
  obtain ⟨l3, hl3⟩ : ∃ l3, l3 = ({ l2 with no := l2.no + 1, R := l2.R ++ l2.W, W := [] } : Lg) := ⟨_, rfl⟩
  rw [← hl3] at y3 G3
  have G4 := gd_crash G3 []
  have o4 := gd_open G4
  have e4 : ({ l3 with W := [] } : Lg) = l3 := by rw [hl3]
  rw [e4] at o4
  have R4 : l3.R = [[120]] := by rw [hl3, hl2]; rfl
  have U4 : l3.ln = 9 := by rw [hl3, hl2]; decide +kernel
  have fit2 : 2 + l2.ar * l2.m + l2.m ≤ s1.D.length := by rw [hD1, hl2]; decide
  have K1 : Hid (Calls Try.prog 22 #[.int .i64 8] w fun e w' => ∃ b, e = .returned (.tuple #[.pointer (some ⟨b, 0, none⟩), .int .i64 0]) ∧ Wd w w' (fun k => k < w.heap.size) b 0 (Ds.new 8) ∧ Below w.heap.size w w') := wd_new 8 (by omega) (by omega) w w (Below.refl _ _)
  have H1 : Hid ((Ds.new 8).opn = (0, some l1, s1) ∧ l1.room = 192 ∧ l1.add [120] = (0, l2) ∧ l2.room = 183 ∧ l2.sync s1 = (0, l3, s3) ∧ (s3.cr []).opn = (0, some l3, s3.cr []) ∧ l3.R = [[120]] ∧ l3.ln = 9 ∧ 2 + l2.ar * l2.m + l2.m ≤ s1.D.length) := ⟨o1, r1, a1, r2, y3, o4, R4, U4, fit2⟩
  clear o1 r1 a1 r2 y3 o4 R4 U4 fit2 G1 G2 G3 G4 hl1 hl2 hl3 e4 hD1 hD3
  go_enter Try.func16, Try.ntmps16
  go_wp2_with fail
  refine K1.out.mono ?_
  rintro e w1 ⟨bd, rfl, T1, hb1⟩
  have HT1 : Hid (Wd w w1 (fun k => k < w.heap.size) bd 0 (Ds.new 8)) := T1
  clear T1 hb1
  go_wp2_with fail
  refine (wd_open HT1.out (by omega)).mono ?_
  rintro e w2 ⟨_, _, hor⟩
  have h2 : ∃ bl, e = .returned (.tuple #[.pointer (some ⟨bl, 0, none⟩), .int .i64 0]) ∧ Wl w w2 (fun k => k < w.heap.size) bd bl 2 s1 l1 := by
    obtain ⟨o1, _⟩ := H1.out
    rw [o1] at hor
    rcases hor with ⟨_, bl, l, hl, he, hw, _⟩ | ⟨h0, _⟩
    · obtain rfl := Option.some.inj hl
      exact ⟨bl, he, hw⟩
    · exact absurd rfl h0
  obtain ⟨bl, rfl, T2⟩ := h2
  have HT2 : Hid (Wl w w2 (fun k => k < w.heap.size) bd bl 2 s1 l1) := T2
  clear T2 hor
  have KR1 : Hid (Calls Try.prog 14 #[.pointer (some ⟨bl, 0, none⟩)] w2 fun e w' => e = .returned (.int .i64 192) ∧ Below w2.heap.size w2 w') := by
    have k := wl_room HT2.out
    rw [H1.out.2.1] at k
    exact k
  go_wp2_with fail
  refine KR1.out.mono ?_
  rintro e w3 ⟨rfl, hb3⟩
  have HT3 : Hid (Wl w w3 (fun k => k < w.heap.size) bd bl 2 s1 l1) := HT2.out.keep0 hb3
  clear hb3
  have KA : Hid (Calls Try.prog 8 #[.pointer (some ⟨bl, 0, none⟩), .string ⟨#[120]⟩] w3 fun e w' => e = .returned (.int .i64 0) ∧ Wl w w' (fun k => k < w.heap.size) bd bl 2 s1 l2 ∧ ∀ k, k < w.heap.size → w'.heap[k]? = w3.heap[k]?) := by
    have k := wl_add HT3.out [120] x_bytes
    rw [H1.out.2.2.1, str_x] at k
    exact k
  go_wp2_with fail
  refine KA.out.mono ?_
  rintro e w4 ⟨rfl, T4, _⟩
  have HT4 : Hid (Wl w w4 (fun k => k < w.heap.size) bd bl 2 s1 l2) := T4
  clear T4
  have KR2 : Hid (Calls Try.prog 14 #[.pointer (some ⟨bl, 0, none⟩)] w4 fun e w' => e = .returned (.int .i64 183) ∧ Below w4.heap.size w4 w') := by
    have k := wl_room HT4.out
    rw [H1.out.2.2.2.1] at k
    exact k
  go_wp2_with fail
  refine KR2.out.mono ?_
  rintro e w5 ⟨rfl, hb5⟩
  have HT5 : Hid (Wl w w5 (fun k => k < w.heap.size) bd bl 2 s1 l2) := HT4.out.keep0 hb5
  clear hb5
  have KS : Hid (Calls Try.prog 9 #[.pointer (some ⟨bl, 0, none⟩)] w5 fun e w' => e = .returned (.int .i64 0) ∧ Wl w w' (fun k => k < w.heap.size) bd bl 2102 s3 l3 ∧ ∀ k, k < w.heap.size → w'.heap[k]? = w5.heap[k]?) := by
    have k := wl_sync HT5.out H1.out.2.2.2.2.2.2.2.2 (by omega)
    rw [H1.out.2.2.2.2.1] at k
    exact k
  go_wp2_with fail
  refine KS.out.mono ?_
  rintro e w6 ⟨rfl, T6, _⟩
  have HT6 : Hid (Wd w w6 (fun k => k < w.heap.size) bd 2102 s3) := T6.disk
  clear T6
  go_wp2_with fail
  refine (wd_crash HT6.out (by omega) none 0 0 [] rfl (.inl rfl) (fun x hx => by cases hx)).mono ?_
  rintro e w7 ⟨rfl, T7, _, _⟩
  have HT7 : Hid (Wd w w7 (fun k => k < w.heap.size) bd 2102 (s3.cr [])) := T7
  clear T7
  go_wp2_with fail
  refine (wd_open HT7.out (by omega)).mono ?_
  rintro e w8 ⟨_, _, hor⟩
  have h8 : ∃ bl, e = .returned (.tuple #[.pointer (some ⟨bl, 0, none⟩), .int .i64 0]) ∧ Wl w w8 (fun k => k < w.heap.size) bd bl 2104 (s3.cr []) l3 := by
    obtain ⟨_, _, _, _, _, o4, _⟩ := H1.out
    rw [o4] at hor
    rcases hor with ⟨_, bl, l, hl, he, hw, _⟩ | ⟨h0, _⟩
    · obtain rfl := Option.some.inj hl
      exact ⟨bl, he, hw⟩
    · exact absurd rfl h0
  obtain ⟨bm, rfl, T8⟩ := h8
  have HT8 : Hid (Wl w w8 (fun k => k < w.heap.size) bd bm 2104 (s3.cr []) l3) := T8
  clear T8 hor
  have KRec : Hid (Calls Try.prog 11 #[.pointer (some ⟨bm, 0, none⟩)] w8 fun e w' => ∃ v, e = .returned v ∧ RowsS w' w8.heap.size v [[120]] ∧ Below w8.heap.size w8 w') := by
    have k := wl_records HT8.out
    rw [H1.out.2.2.2.2.2.2.1] at k
    exact k
  go_wp2_with fail
  refine KRec.out.mono ?_
  rintro e w9 ⟨v9, rfl, hr9, hb9⟩
  obtain ⟨a9, c9, hv9, _, hi9, _, _⟩ := hr9.slice
  subst hv9
  have HI9 : Hid (InS (w9.alloc (.cells #[.string ⟨#[120]⟩] 9)) a9 [[120]]) := hi9.keep (gB_alloc w9 _)
  have HT9 : Hid (Wl w (w9.alloc (.cells #[.string ⟨#[120]⟩] 9)) (fun k => k < w.heap.size) bd bm 2104 (s3.cr []) l3) := (HT8.out.keep0 hb9).keep0 (gB_alloc w9 _)
  have C9 : Hid (InS (w9.alloc (.cells #[.string ⟨#[120]⟩] 9)) (some ⟨w9.heap.size, 0, none⟩) [[120]]) := one_in (by rw [cell_of_row _ w9.heap.size 0 _ _ (0, 0) (heap_alloc_new w9 _)]; rfl)
  clear hr9 hb9 hi9
  go_wp2_with fail
  refine (wsame_is _ a9 (some ⟨w9.heap.size, 0, none⟩) 1 1 c9 1 [[120]] [[120]] rfl rfl (by omega) (by omega) HI9.out C9.out (fun B hB => by have : B = [120] := (by simpa using hB); rw [this]; exact x_bytes) (fun B hB => by have : B = [120] := (by simpa using hB); rw [this]; exact x_bytes)).mono ?_
  rintro e w10 ⟨rfl, hb10⟩
  have HT10 : Hid (Wl w w10 (fun k => k < w.heap.size) bd bm 2104 (s3.cr []) l3) := HT9.out.keep0 hb10
  clear hb10
  have KU : Hid (Calls Try.prog 13 #[.pointer (some ⟨bm, 0, none⟩)] w10 fun e w' => e = .returned (.int .i64 9) ∧ w' = w10) := by
    have k := wl_used HT10.out
    rw [H1.out.2.2.2.2.2.2.2.1] at k
    exact k
  have ed : decide (([[120]] : List (List Int)) = [[120]]) = true := by decide
  rw [ed]
  go_wp2_with fail
  refine KU.out.mono ?_
  rintro e w11 ⟨rfl, rfl⟩
  go_wp2_with fail
  go_ret
  exact ⟨rfl, HT10.out.bel⟩
end Go.Proofs.Ytchnbfdfcjahpaa
namespace Go.Proofs.Ytchnbfdfcjahpaa
open Go.ChangeShapes Go.WideShapes Go.ChangeAt Go.RowKit Go.Deep Go.Maps
set_option linter.unusedVariables false
/-- a record, cut -/
def cS (B : List Int) : List Int := if 300 < B.length ∧ B.length ≤ 4096 then B.take 300 else if 5000 < B.length then B.take 5000 else B
theorem cS_len (B : List Int) : (cS B).length ≤ 5000 := by
  unfold cS
  split
  · rw [List.length_take]; omega
  · split
    · rw [List.length_take]; omega
    · omega
theorem cS_bytes {B : List Int} (h : IsBytes B) : IsBytes (cS B) := by
  unfold cS
  split
  · exact bytes_of_mem fun x hx => bytes_mem h x (List.mem_of_mem_take hx)
  · split
    · exact bytes_of_mem fun x hx => bytes_mem h x (List.mem_of_mem_take hx)
    · exact h
def smL (l : List (List Int)) : List (List Int) := (l.take 20).map cS
theorem smL_len (l : List (List Int)) : (smL l).length ≤ 20 := by
  unfold smL
  rw [List.length_map, List.length_take]
  omega
theorem smL_bytes {l : List (List Int)} (h : ∀ B ∈ l, IsBytes B) : ∀ B ∈ smL l, IsBytes B ∧ B.length ≤ 5000 := by
  intro B hB
  obtain ⟨C, hC, rfl⟩ := List.mem_map.1 hB
  exact ⟨cS_bytes (h C (List.mem_of_mem_take hC)), cS_len C⟩
theorem str_size (L : List Int) : (strOfNums L).size = L.length := by
  show ((List.map (fun n : Int => UInt8.ofNat n.toNat) L).toArray).size = _
  simp
theorem ext_take (L : List Int) (k : Nat) : (strOfNums L).extract 0 k = strOfNums (L.take k) := by rw [extract_nums]; rfl
theorem sm_step (l : List (List Int)) (j : Nat) (h : j < l.length) : (l.take (j + 1)).map cS = (l.take j).map cS ++ [cS (l.getD j [])] := by
  rw [take_succ_getD l j h, List.map_append]
  rfl
set_option maxRecDepth 100000 in
set_option maxHeartbeats 4000000 in
theorem small_is (w : World) (a : Option Addr) (n c : Nat) (recs : List (List Int)) (hn : recs.length = n) (hn2 : n ≤ 17592186044416) (hz2 : ∀ B ∈ recs, B.length ≤ 140737488355328) (hin : InS w a recs) :
    Calls Try.prog 23 #[.slice a n c] w fun e w' => ∃ v, e = .returned v ∧ RowsS w' w.heap.size v (smL recs) ∧ Below w.heap.size w w' := by
  have HI : Hid (InS w a recs) := hin
  have HZ0 : Hid (∀ B ∈ recs, B.length ≤ 140737488355328) := hz2
  obtain ⟨h, hh⟩ : ∃ h, h = w.heap.size := ⟨_, rfl⟩
  have HH : Hid (h = w.heap.size) := hh
  clear hin hh hz2
  go_enter Try.func23, Try.ntmps23
  go_wp2_with fail
  go_loopg [3, 4] 20 (fun g v i wr => ∃ (j : Nat), j ≤ n ∧ j ≤ 20 ∧ g = 20 - j ∧ i = .int .i64 (j : Int) ∧ Hid (RowsS wr h v ((recs.take j).map cS)) ∧ Hid (Below h w wr))
  case atStart => exact ⟨0, Nat.zero_le _, Nat.zero_le _, rfl, rfl, RowsS.nil _ _, Below.refl _ _⟩
  case round =>
    obtain ⟨j, hj, hj2, rfl, rfl, HO, HBW⟩ := hrel
    have hsz := HBW.out.size
    have HBw : Hid (Below w.heap.size w wr) := by show Below _ _ _; rw [← HH.out]; exact HBW.out
    by_cases hjn : j < n
    · have i1 : (j : Int) < (n : Int) := by omega
      by_cases hj20 : j < 20
      · have i2 : (j : Int) < 20 := by omega
        obtain ⟨g, off, rfl, hcell⟩ : ∃ g off, a = some ⟨g, off, none⟩ ∧ ∀ i, i < recs.length → w.cell? ⟨g, off + i, none⟩ = some (.string (strOfNums (recs.getD i []))) := by
          rcases HI.out with rfl | h
          · simp at hn; omega
          · exact h
        have hcj : wr.cell? ⟨g, off + j, none⟩ = some (.string (strOfNums (recs.getD j []))) := (HBw.out.cell (p := ⟨g, off + j, none⟩) (World.block_lt_of_cell? _ _ (hcell j (by omega)))).trans (hcell j (by omega))
        clear hcell
        have hXl := HZ0.out _ (show recs.getD j [] ∈ recs by rw [List.getD_eq_getElem?_getD, List.getElem?_eq_getElem (by omega)]; exact List.getElem_mem _)
        have HT : Hid ((recs.take (j + 1)).map cS = (recs.take j).map cS ++ [cS (recs.getD j [])]) := sm_step recs j (by omega)
        have hL : ((recs.take j).map cS).length = j := by rw [List.length_map, List.length_take]; omega
        have HL : Hid (((recs.take j).map cS).length = j) := hL
        generalize recs.getD j [] = X at *
        have hSz := str_size X
        have hE3 := ext_take X 300
        have hE5 := ext_take X 5000
        have HC : Hid (cS X = if 300 < X.length ∧ X.length ≤ 4096 then X.take 300 else if 5000 < X.length then X.take 5000 else X) := rfl
        have h3z := str_size (X.take 300)
        have h5z := str_size (X.take 5000)
        rw [← hE3] at h3z
        rw [List.length_take] at h3z
        have HE3 : Hid ((strOfNums X).extract 0 300 = strOfNums (X.take 300)) := hE3
        have HE5 : Hid ((strOfNums X).extract 0 5000 = strOfNums (X.take 5000)) := hE5
        have hhw : h ≤ wr.heap.size := by rw [HH.out]; exact hsz
        clear hE3 hE5 hL h5z
        obtain ⟨z, hz⟩ : ∃ z, z = X.length := ⟨_, rfl⟩
        rw [← hz] at hSz h3z hXl
        have HZ : Hid (X.length = z) := hz.symm
        have HS0 : Hid (∃ S, S = strOfNums X) := ⟨_, rfl⟩
        clear hz
        by_cases hA : 300 < z ∧ z ≤ 4096
        · have t1 : (300 : Int) < ((strOfNums X).size : Int) := by omega
          have t2 : ((strOfNums X).size : Int) ≤ 4096 := by omega
          have t3 : ((strOfNums X).extract 0 300).size = 300 := by omega
          have t4 : ¬ (5000 : Int) < (((strOfNums X).extract 0 300).size : Int) := by omega
          clear h3z
          have HC2 : Hid (cS X = X.take 300) := by show _ = _; rw [HC.out, HZ.out]; rw [if_pos hA]
          have CI : Hid (InS (wr.alloc (.cells #[.string ((strOfNums X).extract 0 300)] 9)) (some ⟨wr.heap.size, 0, none⟩) [X.take 300]) := one_in (by rw [cell_of_row _ wr.heap.size 0 _ _ (0, 0) (heap_alloc_new wr _)]; first | rfl | (rw [HE3.out]; rfl) | (rw [HE5.out]; rfl))
          have O1 : Hid (RowsS (wr.alloc (.cells #[.string ((strOfNums X).extract 0 300)] 9)) h u3 ((recs.take j).map cS)) := HO.out.keep (gB_alloc wr _)
          have B1 : Hid (Below h w (wr.alloc (.cells #[.string ((strOfNums X).extract 0 300)] 9))) := HBW.out.trans ((gB_alloc wr _).mono hhw)
          have Z1 : Hid (h ≤ (wr.alloc (.cells #[.string ((strOfNums X).extract 0 300)] 9)).heap.size) := by
            show _ ≤ _
            rw [show (wr.alloc (.cells #[.string ((strOfNums X).extract 0 300)] 9)).heap.size = wr.heap.size + 1 by simp]
            omega
          go_wp2_with (at_builtin; refine appTL rfl (.tmp 35) (.tmp 37) rfl h _ ((recs.take j).map cS) rfl O1.out ⟨wr.heap.size, 0, none⟩ 1 1 [X.take 300] rfl rfl CI.out (by rw [HL.out]; omega) Z1.out ?_; intro v2 w2 r2 g2 o2; have R2 : Hid (RowsS w2 h v2 ((recs.take j).map cS ++ [X.take 300])) := r2; have G2 : Hid (Below h w w2) := B1.out.grown g2 Z1.out (fun k hk => (O1.out.own k hk).1); clear r2 g2 o2)
          go_roundg (20 - (j + 1))
          case measure => omega
          case rel => exact ⟨j + 1, by omega, by omega, rfl, by go_num, by rw [HT.out, HC2.out]; exact R2.out, G2.out⟩
        · by_cases hB : 5000 < z
          · have t1 : (300 : Int) < ((strOfNums X).size : Int) := by omega
            have t2 : ¬ ((strOfNums X).size : Int) ≤ 4096 := by omega
            have t4 : (5000 : Int) < ((strOfNums X).size : Int) := by omega
            have HC2 : Hid (cS X = X.take 5000) := by show _ = _; rw [HC.out, HZ.out]; rw [if_neg hA, if_pos hB]
            have CI : Hid (InS (wr.alloc (.cells #[.string ((strOfNums X).extract 0 5000)] 9)) (some ⟨wr.heap.size, 0, none⟩) [X.take 5000]) := one_in (by rw [cell_of_row _ wr.heap.size 0 _ _ (0, 0) (heap_alloc_new wr _)]; first | rfl | (rw [HE3.out]; rfl) | (rw [HE5.out]; rfl))
            have O1 : Hid (RowsS (wr.alloc (.cells #[.string ((strOfNums X).extract 0 5000)] 9)) h u3 ((recs.take j).map cS)) := HO.out.keep (gB_alloc wr _)
            have B1 : Hid (Below h w (wr.alloc (.cells #[.string ((strOfNums X).extract 0 5000)] 9))) := HBW.out.trans ((gB_alloc wr _).mono hhw)
            have Z1 : Hid (h ≤ (wr.alloc (.cells #[.string ((strOfNums X).extract 0 5000)] 9)).heap.size) := by
              show _ ≤ _
              rw [show (wr.alloc (.cells #[.string ((strOfNums X).extract 0 5000)] 9)).heap.size = wr.heap.size + 1 by simp]
              omega
            go_wp2_with (at_builtin; refine appTL rfl (.tmp 35) (.tmp 37) rfl h _ ((recs.take j).map cS) rfl O1.out ⟨wr.heap.size, 0, none⟩ 1 1 [X.take 5000] rfl rfl CI.out (by rw [HL.out]; omega) Z1.out ?_; intro v2 w2 r2 g2 o2; have R2 : Hid (RowsS w2 h v2 ((recs.take j).map cS ++ [X.take 5000])) := r2; have G2 : Hid (Below h w w2) := B1.out.grown g2 Z1.out (fun k hk => (O1.out.own k hk).1); clear r2 g2 o2)
            go_roundg (20 - (j + 1))
            case measure => omega
            case rel => exact ⟨j + 1, by omega, by omega, rfl, by go_num, by rw [HT.out, HC2.out]; exact R2.out, G2.out⟩
          · by_cases hD : 300 < z
            · have t1 : (300 : Int) < ((strOfNums X).size : Int) := by omega
              have t2 : ¬ ((strOfNums X).size : Int) ≤ 4096 := by omega
              have t4 : ¬ (5000 : Int) < ((strOfNums X).size : Int) := by omega
              have HC2 : Hid (cS X = X) := by show _ = _; rw [HC.out, HZ.out]; rw [if_neg hA, if_neg hB]
              have CI : Hid (InS (wr.alloc (.cells #[.string (strOfNums X)] 9)) (some ⟨wr.heap.size, 0, none⟩) [X]) := one_in (by rw [cell_of_row _ wr.heap.size 0 _ _ (0, 0) (heap_alloc_new wr _)]; first | rfl | (rw [HE3.out]; rfl) | (rw [HE5.out]; rfl))
              have O1 : Hid (RowsS (wr.alloc (.cells #[.string (strOfNums X)] 9)) h u3 ((recs.take j).map cS)) := HO.out.keep (gB_alloc wr _)
              have B1 : Hid (Below h w (wr.alloc (.cells #[.string (strOfNums X)] 9))) := HBW.out.trans ((gB_alloc wr _).mono hhw)
              have Z1 : Hid (h ≤ (wr.alloc (.cells #[.string (strOfNums X)] 9)).heap.size) := by
                show _ ≤ _
                rw [show (wr.alloc (.cells #[.string (strOfNums X)] 9)).heap.size = wr.heap.size + 1 by simp]
                omega
              go_wp2_with (at_builtin; refine appTL rfl (.tmp 35) (.tmp 37) rfl h _ ((recs.take j).map cS) rfl O1.out ⟨wr.heap.size, 0, none⟩ 1 1 [X] rfl rfl CI.out (by rw [HL.out]; omega) Z1.out ?_; intro v2 w2 r2 g2 o2; have R2 : Hid (RowsS w2 h v2 ((recs.take j).map cS ++ [X])) := r2; have G2 : Hid (Below h w w2) := B1.out.grown g2 Z1.out (fun k hk => (O1.out.own k hk).1); clear r2 g2 o2)
              go_roundg (20 - (j + 1))
              case measure => omega
              case rel => exact ⟨j + 1, by omega, by omega, rfl, by go_num, by rw [HT.out, HC2.out]; exact R2.out, G2.out⟩
            · have t1 : ¬ (300 : Int) < ((strOfNums X).size : Int) := by omega
              have t4 : ¬ (5000 : Int) < ((strOfNums X).size : Int) := by omega
              have HC2 : Hid (cS X = X) := by show _ = _; rw [HC.out, HZ.out]; rw [if_neg hA, if_neg hB]
              have CI : Hid (InS (wr.alloc (.cells #[.string (strOfNums X)] 9)) (some ⟨wr.heap.size, 0, none⟩) [X]) := one_in (by rw [cell_of_row _ wr.heap.size 0 _ _ (0, 0) (heap_alloc_new wr _)]; first | rfl | (rw [HE3.out]; rfl) | (rw [HE5.out]; rfl))
              have O1 : Hid (RowsS (wr.alloc (.cells #[.string (strOfNums X)] 9)) h u3 ((recs.take j).map cS)) := HO.out.keep (gB_alloc wr _)
              have B1 : Hid (Below h w (wr.alloc (.cells #[.string (strOfNums X)] 9))) := HBW.out.trans ((gB_alloc wr _).mono hhw)
              have Z1 : Hid (h ≤ (wr.alloc (.cells #[.string (strOfNums X)] 9)).heap.size) := by
                show _ ≤ _
                rw [show (wr.alloc (.cells #[.string (strOfNums X)] 9)).heap.size = wr.heap.size + 1 by simp]
                omega
              go_wp2_with (at_builtin; refine appTL rfl (.tmp 35) (.tmp 37) rfl h _ ((recs.take j).map cS) rfl O1.out ⟨wr.heap.size, 0, none⟩ 1 1 [X] rfl rfl CI.out (by rw [HL.out]; omega) Z1.out ?_; intro v2 w2 r2 g2 o2; have R2 : Hid (RowsS w2 h v2 ((recs.take j).map cS ++ [X])) := r2; have G2 : Hid (Below h w w2) := B1.out.grown g2 Z1.out (fun k hk => (O1.out.own k hk).1); clear r2 g2 o2)
              go_roundg (20 - (j + 1))
              case measure => omega
              case rel => exact ⟨j + 1, by omega, by omega, rfl, by go_num, by rw [HT.out, HC2.out]; exact R2.out, G2.out⟩
      · have i2 : ¬ (j : Int) < 20 := by omega
        have HT : Hid ((recs.take j).map cS = smL recs) := by
          show _ = _
          have : j = 20 := by omega
          rw [this]; rfl
        go_wp2_with fail
        go_ret
        exact ⟨_, rfl, by rw [← HT.out, ← HH.out]; exact HO.out, HBw.out⟩
    · have i1 : ¬ (j : Int) < (n : Int) := by omega
      have HT : Hid ((recs.take j).map cS = smL recs) := by
        show _ = _
        unfold smL
        rw [List.take_of_length_le (by omega), List.take_of_length_le (by omega)]
      go_wp2_with fail
      go_ret
      exact ⟨_, rfl, by rw [← HT.out, ← HH.out]; exact HO.out, HBw.out⟩
end Go.Proofs.Ytchnbfdfcjahpaa
namespace Go.Proofs.Ytchnbfdfcjahpaa
open Go.ChangeShapes Go.WideShapes Go.ChangeAt Go.RowKit Go.Deep
set_option linter.unusedVariables false
theorem mem_weightsAll {H : Type} {P : Program} {e : TypeId} {q : Nat} : ∀ {l : List (DataW H)} {d : DataW H}, d ∈ l → q ∈ d.weights P e → q ∈ DataW.weightsAll P e l
  | [], _, h, _ => by cases h
  | x :: r, d, h, hq => by
    rw [DataW.weightsAll]
    rcases List.mem_cons.1 h with rfl | h
    · exact List.mem_append_left _ hq
    · exact List.mem_append_right _ (mem_weightsAll h hq)
theorem bytesT : Try.prog.bytesOf 9 = 16 := by kernel_rfl
theorem cellsT : Try.prog.cellsOf 9 = 1 := by kernel_rfl
/-- a slice of texts that came in: what it holds, with what its reach bounds -/
theorem open_texts {H : Type} {enc : TypeId × Value → H} {W : World} {fuel : Nat} {a : Option Addr} {len cap : Nat} {x : DataW H × List MemPlace} (h : DataW.trod enc Try.prog W 0 (fun _ => true) true fuel 27 [.slice a len cap] = some x) (hw : ∀ q ∈ x.1.weights Try.prog 27, q ≤ 140737488351232) :
    ∃ l, l.length = len ∧ InS W a l ∧ len ≤ 17592186044416 ∧ ∀ B ∈ l, IsBytes B ∧ B.length ≤ 140737488351232 := by
  rcases open_strings Try.underlying27 Try.underlying9 cellsT h with ⟨hcs, hx⟩ | ⟨a', len', cap', ss, hcs, _, hl, hm, hz, hx, hcell, hsz⟩
  · simp only [List.cons.injEq, and_true, Value.slice.injEq] at hcs
    obtain ⟨rfl, rfl, rfl⟩ := hcs
    exact ⟨[], rfl, .inl rfl, by omega, fun B hB => by cases hB⟩
  · simp only [List.cons.injEq, and_true, Value.slice.injEq] at hcs
    obtain ⟨rfl, rfl, rfl⟩ := hcs
    have hzl : ss.length = cap := by simpa using hz
    subst hx
    have htl : (ss.take len).length = len := by rw [List.length_take]; omega
    refine ⟨(ss.take len).map sN, by rw [List.length_map, htl], ?_, ?_, ?_⟩
    · by_cases h0 : len = 0
      · left
        subst h0
        rfl
      · right
        have hc0 := hcell 0 (by omega)
        obtain ⟨b, off, spot⟩ := a'
        have hspot : spot = none := by simpa [Addr.add] using World.cell?_spot hc0
        subst hspot
        refine ⟨b, off, rfl, fun i hi => ?_⟩
        rw [List.length_map, htl] at hi
        have hci := hcell i (by omega)
        rw [add_plain] at hci
        rw [hci]
        have hi2 : i < ss.length := by omega
        have hi3 : i < (ss.take len).length := by omega
        rw [List.getD_eq_getElem?_getD, List.getD_eq_getElem?_getD, List.getElem?_map, List.getElem?_eq_getElem hi3, List.getElem?_eq_getElem hi2, List.getElem_take]
        show some (Value.string ss[i]) = some (Value.string (strOfNums (sN ss[i])))
        rw [sN_str]
    · have hq := hw (((ss.take len).length + (ss.drop len).length) * 16) (by
        simp only [DataW.weights, Try.underlying27, bytesT, strs, List.length_map]
        exact List.mem_cons_self)
      rw [htl, List.length_drop] at hq
      omega
    · intro B hB
      obtain ⟨S, hS, rfl⟩ := List.mem_map.1 hB
      refine ⟨sN_bytes S, ?_⟩
      rw [sN_len]
      refine hw _ ?_
      simp only [DataW.weights, Try.underlying27]
      refine List.mem_cons_of_mem _ (List.mem_append_left _ (mem_weightsAll (d := .lit (.string S.data.toList)) ?_ ?_))
      · exact List.mem_map.2 ⟨S, hS, rfl⟩
      · simp [DataW.weights]
end Go.Proofs.Ytchnbfdfcjahpaa
namespace Go.Proofs.Ytchnbfdfcjahpaa
open Go.ChangeShapes Go.WideShapes Go.ChangeAt Go.RowKit Go.Deep Go.Maps
set_option linter.unusedVariables false
theorem appTA {w : World} {ops : Array Oper} {rest : List Oper} {o : Oper} {act : Act} {Q : Exit → Act → World → Prop} (hgd : o.guard = none) (s x : Operand)
    (ho : o.op = .call { callee := .builtin .append, args := #[s, x], argTypes := #[27, 27] })
    (base : Nat) (v : Value) (l : List (List Int)) (hs : act.eval s = v) (hown : RowsS w base v l)
    (a : Option Addr) (m c : Nat) (y : List (List Int)) (hx : act.eval x = .slice a m c) (hm : y.length = m) (hin : InS w a y) (ha : a = none → m = 0 ∧ c = 0) (hN : l.length + m ≤ 5000000000000) (hbase : base ≤ w.heap.size)
    (h : ∀ v' w', RowsS w' base v' (l ++ y) → Below base w w' → wpList Try.prog ops Q rest (act.put o.dst v') w') : wpList Try.prog ops Q (o :: rest) act w := by
  cases a with
  | none =>
    obtain ⟨rfl, rfl⟩ := ha rfl
    obtain rfl : y = [] := List.length_eq_zero_iff.1 hm
    obtain ⟨i, hi, _⟩ := info_parts info9
    refine wpList_append_own_none hgd s x 27 ho base 9 i 1 Try.underlying27 hi _ _ _ hs hown hx ?_
    exact h _ _ (by rw [List.append_nil]; exact hown) (Below.refl _ _)
  | some x' => exact appTL hgd s x ho base v l hs hown x' m c y hx hm hin hN hbase fun v' w' h1 h2 _ => h v' w' h1 ((Below.refl _ _).grown h2 hbase fun k hk => (hown.own k hk).1)
theorem frO_code (recs : List (List Int)) (room : Nat) : (frO recs room).2 = 0 ∨ (frO recs room).2 = 3 ∨ (frO recs room).2 = 7 := by
  unfold frO
  split
  · exact .inr (.inl rfl)
  · split
    · exact .inr (.inr rfl)
    · exact .inl rfl
theorem reset_said {s : Ds} {l : Lg} (h : Gd s l) (hno : l.no < 1152921504606846976) (hW : l.W = []) (recs : List (List Int)) (hb : ∀ B ∈ recs, IsBytes B) :
    ∃ c l' s', l.reset s recs = (c, l', s') ∧ Gd s' l' ∧ s'.D.length = s.D.length ∧ l'.W = [] ∧ l'.m = l.m ∧ l'.no ≤ l.no + 1 ∧ ((c = 0 ∧ l'.R = recs) ∨ ((c = 3 ∨ c = 7) ∧ l'.R = l.R)) := by
  by_cases hf : (frO recs (64 * l.m)).2 = 0
  · obtain ⟨s', e, g, hD⟩ := gd_reset h hno hW recs hb hf
    exact ⟨0, _, s', e, g, hD, rfl, rfl, Nat.le_refl _, .inl ⟨rfl, rfl⟩⟩
  · refine ⟨(frO recs (64 * l.m)).2, l, s, ?_, h, rfl, hW, rfl, Nat.le_succ _, .inr ⟨(frO_code recs (64 * l.m)).resolve_left hf, rfl⟩⟩
    unfold Lg.reset
    rw [if_neg (by rw [h.lost]; simp), if_neg (by simpa using hW), if_pos hf]
theorem reset_state {s : Ds} {l : Lg} (hl : l.lost = false) (hW : l.W ≠ []) (recs : List (List Int)) : l.reset s recs = (11, l, s) := by
  unfold Lg.reset
  rw [if_neg (by rw [hl]; simp), if_pos hW]
theorem add_said {l : Lg} (hl : l.lost = false) (X : List Int) : ∃ c l', l.add X = (c, l') ∧ ((c ≠ 0 ∧ l' = l) ∨ (c = 0 ∧ l' = { l with W := l.W ++ [X] })) := by
  unfold Lg.add
  rw [if_neg (by rw [hl]; simp)]
  by_cases hf : (frO [X] l.room).2 = 0
  · rw [if_neg (by simpa using hf)]
    exact ⟨0, _, rfl, .inr ⟨rfl, rfl⟩⟩
  · rw [if_pos hf]
    exact ⟨_, _, rfl, .inl ⟨hf, rfl⟩⟩
/-- the old log, beside a new one -/
def Old (w' : World) (bd bl N : Nat) (l : Lg) : Prop := ∃ G, Lm w' G bl bd l ∧ l.Ok N
theorem Old.keep {w w' : World} {bd bl N : Nat} {l : Lg} (h : Old w bd bl N l) (hb : Below w.heap.size w w') : Old w' bd bl N l := by
  obtain ⟨G, h1, h2⟩ := h
  exact ⟨G, h1.keep hb, h2⟩
theorem old_records {wr : World} {bd bl N : Nat} {l : Lg} (h : Old wr bd bl N l) : Calls Try.prog 11 #[.pointer (some ⟨bl, 0, none⟩)] wr fun e w' => ∃ v, e = .returned v ∧ RowsS w' wr.heap.size v l.R ∧ Below wr.heap.size wr w' := by
  obtain ⟨G, h1, h2⟩ := h
  exact wrecords_is wr G bl bd N l h1 h2
theorem wl_open2 {w wr : World} {P : Nat → Prop} {bd bl N : Nat} {s s2 : Ds} {l l2 : Lg} (T : Wl w wr P bd bl N s l) (hN : N < 999998) (ho : s.opn = (0, some l2, s2)) : Calls Try.prog 15 #[.pointer (some ⟨bd, 0, none⟩)] wr fun e w' => ∃ bm, e = .returned (.tuple #[.pointer (some ⟨bm, 0, none⟩), .int .i64 0]) ∧ Wl w w' P bd bm (N + 2) s2 l2 ∧ Old w' bd bl N l ∧ ∀ k, P k → w'.heap[k]? = wr.heap[k]? := by
  obtain ⟨F, G, d, lm, x, f, g, p⟩ := T.ex
  have T2 : Wd w wr (fun k => P k ∨ G k) bd N s := ⟨⟨F, d, f, fun k hk => by
    rcases hk with hk | hk
    · exact ⟨(p k hk).1, (p k hk).2.1⟩
    · exact ⟨lm.lt k hk, x k hk⟩⟩, T.bel⟩
  refine (wd_open T2 hN).mono ?_
  rintro e w' ⟨hk, _, hor⟩
  rw [ho] at hor
  rcases hor with ⟨_, bm, l', hl, he, hw, _⟩ | ⟨h0, _⟩
  · obtain rfl := Option.some.inj hl
    exact ⟨bm, he, hw.less (fun k h => .inl h), ⟨G, lm.kept (fun k h => hk k (.inr h)), T.ok⟩, fun k h => hk k (.inl h)⟩
  · exact absurd rfl h0
end Go.Proofs.Ytchnbfdfcjahpaa
namespace Go.Proofs.Ytchnbfdfcjahpaa
open Go.ChangeShapes Go.WideShapes Go.ChangeAt Go.RowKit Go.Deep Go.Maps
set_option linter.unusedVariables false
theorem fit40 {M ar D : Nat} (hM : M = 19) (ha : ar ≤ 1) (hD : D = 40) : 2 + ar * M + M ≤ D := by
  subst hM hD
  omega
theorem smL_one (X : List Int) : smL [X] = [cS X] := rfl
set_option maxRecDepth 100000 in
set_option maxHeartbeats 8000000 in
theorem walStands_walk (a0 : Option Addr) (len0 cap0 : Nat) (L0 : List (List Int)) (a1 : Option Addr) (len1 cap1 : Nat) (L1 : List (List Int)) (S : ByteArray) (w : World) (hn : L0.length = len0) (hin : InS w a0 L0) (hn2 : len0 ≤ 17592186044416) (hB : ∀ B ∈ L0, IsBytes B ∧ B.length ≤ 140737488351232) (hm : L1.length = len1) (hin1 : InS w a1 L1) (hm2 : len1 ≤ 17592186044416) (hB1 : ∀ B ∈ L1, IsBytes B ∧ B.length ≤ 140737488351232) (hS : S.size ≤ 140737488355328) :
    Calls Try.prog 7 #[.slice a0 len0 cap0, .slice a1 len1 cap1, .string S] w fun e w' => e = .returned (.bool true) ∧ Below w.heap.size w w' := by
  have KWK : Hid (∀ w, Calls Try.prog 16 #[] w fun e w' => e = .returned (.bool true) ∧ Below w.heap.size w w') := works_true
  obtain ⟨s, ho, G0, hD⟩ := gd_new 40 (by omega) (by omega)
  obtain ⟨l0, hl0⟩ : ∃ l0, l0 = (⟨(40 - 2) / 2, 1, 0, [], [], false⟩ : Lg) := ⟨_, rfl⟩
  rw [← hl0] at ho G0
  have HO : Hid ((Ds.new 40).opn = (0, some l0, s)) := ho
  have HG0 : Hid (Gd s l0 ∧ s.D.length = 40 ∧ l0.W = [] ∧ l0.m = 19 ∧ l0.no ≤ 1 ∧ l0.R = []) := ⟨G0, hD, by rw [hl0], by rw [hl0], by rw [hl0]; exact Nat.le_refl _, by rw [hl0]⟩
  have K1 : Hid (Calls Try.prog 22 #[.int .i64 40] w fun e w' => ∃ b, e = .returned (.tuple #[.pointer (some ⟨b, 0, none⟩), .int .i64 0]) ∧ Wd w w' (fun k => k < w.heap.size) b 0 (Ds.new 40) ∧ Below w.heap.size w w') := wd_new 40 (by omega) (by omega) w w (Below.refl _ _)
  have HI0 : Hid (InS w a0 L0) := hin
  have HI1 : Hid (InS w a1 L1) := hin1
  have HB0 : Hid (∀ B ∈ L0, IsBytes B ∧ B.length ≤ 140737488351232) := hB
  have HB1 : Hid (∀ B ∈ L1, IsBytes B ∧ B.length ≤ 140737488351232) := hB1
  have HS : Hid (S.size ≤ 140737488355328) := hS
  have HSS : Hid (S = strOfNums (sN S)) := (sN_str S).symm
  clear hin hin1 hB hB1 ho G0 hD hl0 hS
  go_enter Try.func7, Try.ntmps7
  go_wp2_with fail
  refine K1.out.mono ?_
  rintro e w1 ⟨bd, rfl, T1, hb1⟩
  have HT1 : Hid (Wd w w1 (fun k => k < w.heap.size) bd 0 (Ds.new 40)) := T1
  clear T1 hb1
  go_wp2_with fail
  refine (wd_open HT1.out (by omega)).mono ?_
  rintro e w2 ⟨_, _, hor⟩
  have h2 : ∃ bl, e = .returned (.tuple #[.pointer (some ⟨bl, 0, none⟩), .int .i64 0]) ∧ Wl w w2 (fun k => k < w.heap.size) bd bl 2 s l0 := by
    rw [HO.out] at hor
    rcases hor with ⟨_, bl, l, hl, he, hw, _⟩ | ⟨h0, _⟩
    · obtain rfl := Option.some.inj hl
      exact ⟨bl, he, hw⟩
    · exact absurd rfl h0
  obtain ⟨bl, rfl, T2⟩ := h2
  have HT2 : Hid (Wl w w2 (fun k => k < w.heap.size) bd bl 2 s l0) := T2
  clear T2 hor
  have KS : Hid (Calls Try.prog 23 #[.slice a0 len0 cap0] w2 fun e w' => ∃ v, e = .returned v ∧ RowsS w' w2.heap.size v (smL L0) ∧ Below w2.heap.size w2 w') := small_is w2 a0 len0 cap0 L0 hn hn2 (fun B hB => by have := (HB0.out B hB).2; omega) (HI0.out.kept fun x hx hne => HT2.out.bel.block _ (HI0.out.lt x hx hne))
  go_wp2_with fail
  refine KS.out.mono ?_
  rintro e w3 ⟨v3, rfl, hr3, hb3⟩
  have B3 : Hid (Below w2.heap.size w2 w3) := hb3
  have R3 : Hid (RowsS w3 w2.heap.size v3 (smL L0)) := hr3
  obtain ⟨a3, c3, rfl, ha3, _, _, _⟩ := hr3.slice
  have HA3 : Hid (a3 = none → c3 = 0 ∧ smL L0 = []) := ha3
  clear hr3 hb3 ha3
  have KS2 : Hid (Calls Try.prog 23 #[.slice a1 len1 cap1] w3 fun e w' => ∃ v, e = .returned v ∧ RowsS w' w3.heap.size v (smL L1) ∧ Below w3.heap.size w3 w') := small_is w3 a1 len1 cap1 L1 hm hm2 (fun B hB => by have := (HB1.out B hB).2; omega) (HI1.out.kept fun x hx hne => (HT2.out.keep0 B3.out).bel.block _ (HI1.out.lt x hx hne))
  go_wp2_with fail
  refine KS2.out.mono ?_
  rintro e w4 ⟨v4, rfl, hr4, hb4⟩
  have B4 : Hid (Below w3.heap.size w3 w4) := hb4
  have R4 : Hid (RowsS w4 w3.heap.size v4 (smL L1)) := hr4
  obtain ⟨a4, c4, rfl, ha4, _, _, _⟩ := hr4.slice
  have HA4 : Hid (a4 = none → c4 = 0 ∧ smL L1 = []) := ha4
  clear hr4 hb4 ha4
  obtain ⟨q3, hq3⟩ : ∃ q, q = (smL L0).length := ⟨_, rfl⟩
  obtain ⟨q4, hq4⟩ : ∃ q, q = (smL L1).length := ⟨_, rfl⟩
  have HQ3 : Hid ((smL L0).length = q3 ∧ q3 ≤ 20) := ⟨hq3.symm, by rw [hq3]; exact smL_len L0⟩
  have HQ4 : Hid ((smL L1).length = q4 ∧ q4 ≤ 20) := ⟨hq4.symm, by rw [hq4]; exact smL_len L1⟩
  have HY3 : Hid (∀ B ∈ smL L0, IsBytes B ∧ B.length ≤ 5000) := smL_bytes fun B hB => (HB0.out B hB).1
  have HY4 : Hid (∀ B ∈ smL L1, IsBytes B ∧ B.length ≤ 5000) := smL_bytes fun B hB => (HB1.out B hB).1
  rw [← hq3, ← hq4]
  clear hq3 hq4
  generalize smL L0 = Y3 at *
  generalize smL L1 = Y4 at *
  have HE0 : Hid (∀ w5, Below w4.heap.size w4 w5 → Wl w w5 (fun k => k < w.heap.size ∨ (w2.heap.size ≤ k ∧ k < w5.heap.size)) bd bl 2 s l0 ∧ InS w5 a3 Y3 ∧ InS w5 a4 Y4 ∧ (∀ x, a3 = some x → Y3 ≠ [] → w2.heap.size ≤ x.block ∧ x.block < w5.heap.size) ∧ (∀ x, a4 = some x → Y4 ≠ [] → w2.heap.size ≤ x.block ∧ x.block < w5.heap.size)) := fun w5 hb5 => by
    have i3 := (RowsS.slice R3.out)
    obtain ⟨a', c', e', _, i3, _, _⟩ := i3
    have i4 := (RowsS.slice R4.out)
    obtain ⟨a'', c'', e'', _, i4, _, _⟩ := i4
    simp only [Value.slice.injEq] at e' e''
    obtain ⟨rfl, _, rfl⟩ := e'
    obtain ⟨rfl, _, rfl⟩ := e''
    have z3 := B3.out.size
    have z4 := B4.out.size
    have z5 := hb5.size
    have hall : Below w2.heap.size w2 w5 := B3.out.trans ((B4.out.mono z3).trans (hb5.mono (by omega)))
    refine ⟨HT2.out.keep hall, i3.keep (B4.out.trans (hb5.mono z4)), i4.keep hb5, fun x hx hne => ?_, fun x hx hne => ?_⟩
    · subst hx
      have h1 := (R3.out.own x.block rfl).1
      have h2 := i3.lt x rfl hne
      omega
    · subst hx
      have h1 := (R4.out.own x.block rfl).1
      have h2 := i4.lt x rfl hne
      omega
  clear KS KS2 K1 R3 R4 HT1 HI0 HI1 HB0 HB1
  go_wp2_with fail

  obtain ⟨b5, hb5⟩ : ∃ b, w4.heap.size + 1 = b := ⟨_, rfl⟩
  rw [hb5]
  obtain ⟨w5, hw5⟩ : ∃ w5, (w4.alloc (.cells #[] 9)).alloc (.cells #[.slice a3 q3 c3, .slice a4 q4 c4, .slice a3 q3 c3] 27) = w5 := ⟨_, rfl⟩
  rw [show World.alloc (World.alloc _ _) _ = w5 from hw5]
  have H5 : Hid (Below w4.heap.size w4 w5 ∧ w5.heap.size = b5 + 1 ∧ w5.heap[b5]? = some (.cells #[.slice a3 q3 c3, .slice a4 q4 c4, .slice a3 q3 c3] 27)) := by
    have hz : (w4.alloc (.cells #[] 9)).heap.size = b5 := by rw [← hb5]; simp
    rw [← hw5]
    refine ⟨(gB_alloc w4 _).trans ((gB_alloc _ _).mono (gB_alloc w4 _).size), by simp [← hb5], ?_⟩
    have := heap_alloc_new (w4.alloc (.cells #[] 9)) (.cells #[.slice a3 q3 c3, .slice a4 q4 c4, .slice a3 q3 c3] 27)
    rwa [hz] at this
  have H45 : Hid (w2.heap.size ≤ b5) := by
    have z3 := B3.out.size
    have z4 := B4.out.size
    show _ ≤ _
    omega
  obtain ⟨P, hPe⟩ : ∃ P : Nat → Prop, P = fun k => k < w.heap.size ∨ (w2.heap.size ≤ k ∧ k < w5.heap.size) := ⟨_, rfl⟩
  have HPb : Hid (P b5) := by rw [hPe]; exact .inr ⟨H45.out, by rw [H5.out.2.1]; omega⟩
  have HT5 : Hid (Wl w w5 P bd bl 2 s l0) := by rw [hPe]; exact (HE0.out w5 H5.out.1).1
  have HE : Hid (∀ j, j < 3 → ∃ ar qr cr Yr, w5.cell? ⟨b5, j, none⟩ = some (.slice ar qr cr) ∧ Yr.length = qr ∧ qr ≤ 20 ∧ InS w5 ar Yr ∧ (ar = none → qr = 0 ∧ cr = 0) ∧ (∀ x, ar = some x → Yr ≠ [] → P x.block) ∧ ∀ B ∈ Yr, IsBytes B) := fun j hj => by
    obtain ⟨_, e3, e4, e5, e6⟩ := HE0.out w5 H5.out.1
    have hc := H5.out.2.2
    have ec : ∀ i, i < 3 → w5.cell? ⟨b5, i, none⟩ = [Value.slice a3 q3 c3, .slice a4 q4 c4, .slice a3 q3 c3][i]? := fun i hi => by
      rw [cell_of_row w5 b5 i _ _ (0, 0) hc]
      match i, hi with
      | 0, _ => rfl
      | 1, _ => rfl
      | 2, _ => rfl
    have n3 : a3 = none → q3 = 0 ∧ c3 = 0 := fun h => ⟨by rw [← HQ3.out.1, (HA3.out h).2]; rfl, (HA3.out h).1⟩
    have n4 : a4 = none → q4 = 0 ∧ c4 = 0 := fun h => ⟨by rw [← HQ4.out.1, (HA4.out h).2]; rfl, (HA4.out h).1⟩
    have p3 : ∀ x, a3 = some x → Y3 ≠ [] → P x.block := fun x hx hne => by rw [hPe]; exact .inr (e5 x hx hne)
    have p4 : ∀ x, a4 = some x → Y4 ≠ [] → P x.block := fun x hx hne => by rw [hPe]; exact .inr (e6 x hx hne)
    match j, hj with
    | 0, _ => exact ⟨a3, q3, c3, Y3, ec 0 (by omega), HQ3.out.1, HQ3.out.2, e3, n3, p3, fun B hB => (HY3.out B hB).1⟩
    | 1, _ => exact ⟨a4, q4, c4, Y4, ec 1 (by omega), HQ4.out.1, HQ4.out.2, e4, n4, p4, fun B hB => (HY4.out B hB).1⟩
    | 2, _ => exact ⟨a3, q3, c3, Y3, ec 2 (by omega), HQ3.out.1, HQ3.out.2, e3, n3, p3, fun B hB => (HY3.out B hB).1⟩
  clear hw5 hb5 hPe HE0
  go_loopg [11, 42] 3 (fun g u i wr => ∃ (j : Nat) (ah : Option Addr) (qh ch : Nat) (l : Lg) (s : Ds), j ≤ 3 ∧ g = 3 - j ∧ i = .int .i64 (j : Int) ∧ u = .slice ah qh ch ∧ Hid (Gd s l ∧ s.D.length = 40 ∧ l.W = [] ∧ l.m = 19 ∧ l.no ≤ 1 + j) ∧ Hid (Wl w wr P bd bl (2 + 2100 * j) s l) ∧ Hid (∀ k, P k → wr.heap[k]? = w5.heap[k]?) ∧ Hid (InS w5 ah l.R ∧ l.R.length = qh ∧ (ah = none → qh = 0 ∧ ch = 0) ∧ ∀ x, ah = some x → l.R ≠ [] → P x.block))
  case atStart => exact ⟨0, _, _, _, l0, s, Nat.zero_le _, rfl, rfl, rfl, ⟨HG0.out.1, HG0.out.2.1, HG0.out.2.2.1, HG0.out.2.2.2.1, HG0.out.2.2.2.2.1⟩, HT5.out, fun _ _ => rfl, ⟨.inl HG0.out.2.2.2.2.2, by rw [HG0.out.2.2.2.2.2]; rfl, fun h => (by cases h), fun x _ hne => absurd HG0.out.2.2.2.2.2 hne⟩⟩
  case round =>
    obtain ⟨j, ah, qh, ch, l, s, hj, rfl, rfl, rfl, HG, HT, HK, HH⟩ := hrel
    by_cases hj3 : j < 3
    · have i1 : (j : Int) < 3 := by omega
      obtain ⟨ar, qr, cr, Yr, hcj, hyl, hq20, hiy, hnone, hPy, hyb⟩ := HE.out j hj3
      have hcj2 : wr.cell? ⟨b5, j, none⟩ = some (.slice ar qr cr) := (World.cell?_of_block (a := ⟨b5, j, none⟩) (HK.out b5 HPb.out)).trans hcj
      obtain ⟨c, l', s', hre, g', hD', hW', hm', hno', hor⟩ := reset_said HG.out.1 (by have := HG.out.2.2.2.2; omega) HG.out.2.2.1 Yr hyb
      have KRs : Hid (Calls Try.prog 10 #[.pointer (some ⟨bl, 0, none⟩), .slice ar qr cr] wr fun e w' => e = .returned (.int .i64 c) ∧ Wl w w' P bd bl (2 + 2100 * j + 2100) s' l' ∧ ∀ k, P k → w'.heap[k]? = wr.heap[k]?) := by
        have k := wl_reset HT.out (by omega) ar qr cr Yr hyl (by omega) (hiy.kept fun x hx hne => HK.out _ (hPy x hx hne)) hnone hyb (fun x hx hne => .inl (hPy x hx hne))
        rw [hre] at k
        exact k
      have HG2 : Hid (Gd s' l' ∧ s'.D.length = 40 ∧ l'.W = [] ∧ l'.m = 19 ∧ l'.no ≤ 1 + (j + 1)) := ⟨g', hD'.trans HG.out.2.1, hW', hm'.trans HG.out.2.2.2.1, by have := HG.out.2.2.2.2; omega⟩
      have HY : Hid (InS w5 ar Yr ∧ Yr.length = qr ∧ (ar = none → qr = 0 ∧ cr = 0) ∧ ∀ x, ar = some x → Yr ≠ [] → P x.block) := ⟨hiy, hyl, hnone, hPy⟩
      clear hcj hyl hq20 hiy hnone hPy hyb hre g' hD' hW' hm' hno'
      rcases hor with ⟨rfl, hR'⟩ | ⟨rfl | rfl, hR'⟩
      · have HH2 : Hid (InS w5 ar l'.R ∧ l'.R.length = qr ∧ (ar = none → qr = 0 ∧ cr = 0) ∧ ∀ x, ar = some x → l'.R ≠ [] → P x.block) := by rw [hR']; exact HY.out
        clear hR'
        go_wp2_with fail
        refine KRs.out.mono ?_
        rintro e wb ⟨rfl, hTb, hkb⟩
        have HTb : Hid (Wl w wb P bd bl (2 + 2100 * (j + 1)) s' l') := hTb
        have HKb : Hid (∀ k, P k → wb.heap[k]? = w5.heap[k]?) := fun k hk => (hkb k hk).trans (HK.out k hk)
        clear hTb hkb hcj2
        have KRec : Hid (Calls Try.prog 11 #[.pointer (some ⟨bl, 0, none⟩)] wb fun e w' => ∃ v, e = .returned v ∧ RowsS w' wb.heap.size v l'.R ∧ Below wb.heap.size wb w') := wl_records HTb.out
        go_wp2_with fail
        refine KRec.out.mono ?_
        rintro e wc ⟨vc, rfl, hrc, hbc⟩
        obtain ⟨ac, cc, rfl, _, hic, _, _⟩ := hrc.slice
        have HTc : Hid (Wl w wc P bd bl (2 + 2100 * (j + 1)) s' l') := HTb.out.keep0 hbc
        have HKc : Hid (∀ k, P k → wc.heap[k]? = w5.heap[k]?) := fun k hk => (hbc.block k (by obtain ⟨F, G, _, _, _, _, _, pp⟩ := HTb.out.ex; exact (pp k hk).1)).trans (HKb.out k hk)
        obtain ⟨qc, hqc⟩ : ∃ q, l'.R.length = q := ⟨_, rfl⟩
        have hqc2 : qc ≤ 1000 := by have h1 := joinL_count l'.R; have h2 := HTb.out.ok.room; have h3 := HG2.out.2.2.2.1; have h4 : l'.ln = (joinL l'.R).length := rfl; omega
        have hqe : qr = qc := HH2.out.2.1.symm.trans hqc
        have HIc : Hid (InS wc ac l'.R) := hic
        have HIh : Hid (InS wc ar l'.R) := HH2.out.1.kept fun x hx hne => HKc.out _ (HH2.out.2.2.2 x hx hne)
        have HRb : Hid (∀ B ∈ l'.R, IsBytes B) := fun B hB => (HTb.out.ok.rb B hB).1
        have KSa : Hid (Calls Try.prog 19 #[.slice ac qc cc, .slice ar qr cr] wc fun e w' => e = .returned (.bool true) ∧ Below wc.heap.size wc w') := by
          have k := wsame_is wc ac ar qc qr cc cr l'.R l'.R hqc HH2.out.2.1 (by omega) (by omega) HIc.out HIh.out HRb.out HRb.out
          rw [decide_eq_true (rfl : l'.R = l'.R)] at k
          exact k
        rw [hqc]
        clear hic hrc hbc hqe hqc hqc2
        go_wp2_with fail
        refine KSa.out.mono ?_
        rintro e we ⟨rfl, hbe⟩
        have HTe : Hid (Wl w we P bd bl (2 + 2100 * (j + 1)) s' l') := HTc.out.keep0 hbe
        have HKe : Hid (∀ k, P k → we.heap[k]? = w5.heap[k]?) := fun k hk => (hbe.block k (by obtain ⟨F, G, _, _, _, _, _, pp⟩ := HTc.out.ex; exact (pp k hk).1)).trans (HKc.out k hk)
        clear hbe
        go_wp2_with fail
        go_roundg (3 - (j + 1))
        case measure => omega
        case rel => exact ⟨j + 1, ar, qr, cr, l', s', by omega, rfl, by go_num, rfl, HG2.out, HTe.out, HKe.out, HH2.out⟩
      · have HH2 : Hid (InS w5 ah l'.R ∧ l'.R.length = qh ∧ (ah = none → qh = 0 ∧ ch = 0) ∧ ∀ x, ah = some x → l'.R ≠ [] → P x.block) := by rw [hR']; exact HH.out
        clear hR'
        go_wp2_with fail
        refine KRs.out.mono ?_
        rintro e wb ⟨rfl, hTb, hkb⟩
        have HTb : Hid (Wl w wb P bd bl (2 + 2100 * (j + 1)) s' l') := hTb
        have HKb : Hid (∀ k, P k → wb.heap[k]? = w5.heap[k]?) := fun k hk => (hkb k hk).trans (HK.out k hk)
        clear hTb hkb hcj2
        have KRec : Hid (Calls Try.prog 11 #[.pointer (some ⟨bl, 0, none⟩)] wb fun e w' => ∃ v, e = .returned v ∧ RowsS w' wb.heap.size v l'.R ∧ Below wb.heap.size wb w') := wl_records HTb.out
        go_wp2_with fail
        refine KRec.out.mono ?_
        rintro e wc ⟨vc, rfl, hrc, hbc⟩
        obtain ⟨ac, cc, rfl, _, hic, _, _⟩ := hrc.slice
        have HTc : Hid (Wl w wc P bd bl (2 + 2100 * (j + 1)) s' l') := HTb.out.keep0 hbc
        have HKc : Hid (∀ k, P k → wc.heap[k]? = w5.heap[k]?) := fun k hk => (hbc.block k (by obtain ⟨F, G, _, _, _, _, _, pp⟩ := HTb.out.ex; exact (pp k hk).1)).trans (HKb.out k hk)
        obtain ⟨qc, hqc⟩ : ∃ q, l'.R.length = q := ⟨_, rfl⟩
        have hqc2 : qc ≤ 1000 := by have h1 := joinL_count l'.R; have h2 := HTb.out.ok.room; have h3 := HG2.out.2.2.2.1; have h4 : l'.ln = (joinL l'.R).length := rfl; omega
        have hqe : qh = qc := HH2.out.2.1.symm.trans hqc
        have HIc : Hid (InS wc ac l'.R) := hic
        have HIh : Hid (InS wc ah l'.R) := HH2.out.1.kept fun x hx hne => HKc.out _ (HH2.out.2.2.2 x hx hne)
        have HRb : Hid (∀ B ∈ l'.R, IsBytes B) := fun B hB => (HTb.out.ok.rb B hB).1
        have KSa : Hid (Calls Try.prog 19 #[.slice ac qc cc, .slice ah qh ch] wc fun e w' => e = .returned (.bool true) ∧ Below wc.heap.size wc w') := by
          have k := wsame_is wc ac ah qc qh cc ch l'.R l'.R hqc HH2.out.2.1 (by omega) (by omega) HIc.out HIh.out HRb.out HRb.out
          rw [decide_eq_true (rfl : l'.R = l'.R)] at k
          exact k
        rw [hqc]
        clear hic hrc hbc hqe hqc hqc2
        go_wp2_with fail
        refine KSa.out.mono ?_
        rintro e we ⟨rfl, hbe⟩
        have HTe : Hid (Wl w we P bd bl (2 + 2100 * (j + 1)) s' l') := HTc.out.keep0 hbe
        have HKe : Hid (∀ k, P k → we.heap[k]? = w5.heap[k]?) := fun k hk => (hbe.block k (by obtain ⟨F, G, _, _, _, _, _, pp⟩ := HTc.out.ex; exact (pp k hk).1)).trans (HKc.out k hk)
        clear hbe
        go_wp2_with fail
        go_roundg (3 - (j + 1))
        case measure => omega
        case rel => exact ⟨j + 1, ah, qh, ch, l', s', by omega, rfl, by go_num, rfl, HG2.out, HTe.out, HKe.out, HH2.out⟩
      · have HH2 : Hid (InS w5 ah l'.R ∧ l'.R.length = qh ∧ (ah = none → qh = 0 ∧ ch = 0) ∧ ∀ x, ah = some x → l'.R ≠ [] → P x.block) := by rw [hR']; exact HH.out
        clear hR'
        go_wp2_with fail
        refine KRs.out.mono ?_
        rintro e wb ⟨rfl, hTb, hkb⟩
        have HTb : Hid (Wl w wb P bd bl (2 + 2100 * (j + 1)) s' l') := hTb
        have HKb : Hid (∀ k, P k → wb.heap[k]? = w5.heap[k]?) := fun k hk => (hkb k hk).trans (HK.out k hk)
        clear hTb hkb hcj2
        have KRec : Hid (Calls Try.prog 11 #[.pointer (some ⟨bl, 0, none⟩)] wb fun e w' => ∃ v, e = .returned v ∧ RowsS w' wb.heap.size v l'.R ∧ Below wb.heap.size wb w') := wl_records HTb.out
        go_wp2_with fail
        refine KRec.out.mono ?_
        rintro e wc ⟨vc, rfl, hrc, hbc⟩
        obtain ⟨ac, cc, rfl, _, hic, _, _⟩ := hrc.slice
        have HTc : Hid (Wl w wc P bd bl (2 + 2100 * (j + 1)) s' l') := HTb.out.keep0 hbc
        have HKc : Hid (∀ k, P k → wc.heap[k]? = w5.heap[k]?) := fun k hk => (hbc.block k (by obtain ⟨F, G, _, _, _, _, _, pp⟩ := HTb.out.ex; exact (pp k hk).1)).trans (HKb.out k hk)
        obtain ⟨qc, hqc⟩ : ∃ q, l'.R.length = q := ⟨_, rfl⟩
        have hqc2 : qc ≤ 1000 := by have h1 := joinL_count l'.R; have h2 := HTb.out.ok.room; have h3 := HG2.out.2.2.2.1; have h4 : l'.ln = (joinL l'.R).length := rfl; omega
        have hqe : qh = qc := HH2.out.2.1.symm.trans hqc
        have HIc : Hid (InS wc ac l'.R) := hic
        have HIh : Hid (InS wc ah l'.R) := HH2.out.1.kept fun x hx hne => HKc.out _ (HH2.out.2.2.2 x hx hne)
        have HRb : Hid (∀ B ∈ l'.R, IsBytes B) := fun B hB => (HTb.out.ok.rb B hB).1
        have KSa : Hid (Calls Try.prog 19 #[.slice ac qc cc, .slice ah qh ch] wc fun e w' => e = .returned (.bool true) ∧ Below wc.heap.size wc w') := by
          have k := wsame_is wc ac ah qc qh cc ch l'.R l'.R hqc HH2.out.2.1 (by omega) (by omega) HIc.out HIh.out HRb.out HRb.out
          rw [decide_eq_true (rfl : l'.R = l'.R)] at k
          exact k
        rw [hqc]
        clear hic hrc hbc hqe hqc hqc2
        go_wp2_with fail
        refine KSa.out.mono ?_
        rintro e we ⟨rfl, hbe⟩
        have HTe : Hid (Wl w we P bd bl (2 + 2100 * (j + 1)) s' l') := HTc.out.keep0 hbe
        have HKe : Hid (∀ k, P k → we.heap[k]? = w5.heap[k]?) := fun k hk => (hbe.block k (by obtain ⟨F, G, _, _, _, _, _, pp⟩ := HTc.out.ex; exact (pp k hk).1)).trans (HKc.out k hk)
        clear hbe
        go_wp2_with fail
        go_roundg (3 - (j + 1))
        case measure => omega
        case rel => exact ⟨j + 1, ah, qh, ch, l', s', by omega, rfl, by go_num, rfl, HG2.out, HTe.out, HKe.out, HH2.out⟩
    · have e : j = 3 := by omega
      subst e
      have i1 : ¬ ((3 : Nat) : Int) < 3 := by omega
      have HTs : Hid (Wl w wr P bd bl 6302 s l) := HT.out
      have HRb : Hid (∀ B ∈ l.R, IsBytes B) := fun B hB => (HT.out.ok.rb B hB).1
      obtain ⟨X, hX⟩ : ∃ X, X = cS (sN S) := ⟨_, rfl⟩
      have HXb : Hid (IsBytes X) := by rw [hX]; exact cS_bytes (sN_bytes S)
      have KSm : Hid (Calls Try.prog 23 #[.slice (some ⟨wr.heap.size, 0, none⟩) 1 1] (wr.alloc (.cells #[.string S] 9)) fun e w' => ∃ v, e = .returned v ∧ RowsS w' (wr.alloc (.cells #[.string S] 9)).heap.size v [X] ∧ Below (wr.alloc (.cells #[.string S] 9)).heap.size (wr.alloc (.cells #[.string S] 9)) w') := by
        have k := small_is (wr.alloc (.cells #[.string S] 9)) (some ⟨wr.heap.size, 0, none⟩) 1 1 [sN S] rfl (by omega) (fun B hB => by have : B = sN S := (by simpa using hB); rw [this, sN_len]; exact HS.out) (one_in (by rw [cell_of_row _ wr.heap.size 0 _ _ (0, 0) (heap_alloc_new wr _), sN_str]; rfl))
        rw [smL_one, ← hX] at k
        exact k
      clear hX
      go_wp2_with fail
      refine KSm.out.mono ?_
      rintro e wa ⟨va, rfl, hra, hba⟩
      obtain ⟨aa, ca, rfl, _, hia, _, _⟩ := hra.slice
      have hBa : Below wr.heap.size wr wa := (gB_alloc wr _).trans (hba.mono (gB_alloc wr _).size)
      have HTa : Hid (Wl w wa P bd bl 6302 s l) := HTs.out.keep0 hBa
      have HKa : Hid (∀ k, P k → wa.heap[k]? = w5.heap[k]?) := fun k hk => (hBa.block k (by obtain ⟨F, G, _, _, _, _, _, pp⟩ := HTs.out.ex; exact (pp k hk).1)).trans (HK.out k hk)
      obtain ⟨ga, oa, rfl, hca⟩ : ∃ g off, aa = some ⟨g, off, none⟩ ∧ wa.cell? ⟨g, off, none⟩ = some (.string (strOfNums X)) := by
        rcases hia with h | ⟨g, off, h1, h2⟩
        · cases h
        · exact ⟨g, off, h1, h2 0 (by simp)⟩
      obtain ⟨c, l1, had, hor⟩ := add_said HG.out.1.lost X
      have KA : Hid (Calls Try.prog 8 #[.pointer (some ⟨bl, 0, none⟩), .string (strOfNums X)] wa fun e w' => e = .returned (.int .i64 c) ∧ Wl w w' P bd bl 6302 s l1 ∧ ∀ k, P k → w'.heap[k]? = wa.heap[k]?) := by
        have k := wl_add HTa.out X HXb.out
        rw [had] at k
        exact k
      have HGa : Hid (Gd s l1) := by
        have k := gd_add HG.out.1 X HXb.out
        rw [had] at k
        exact k
      clear hra hba hia hBa had
      rcases hor with ⟨hc0, rfl⟩ | ⟨rfl, hl1⟩
      · have e9 : (c == 0) = false := by rw [beq_eq_false_iff_ne]; exact hc0
        go_wp2_with fail
        refine KA.out.mono ?_
        rintro e wb ⟨rfl, hTb, hkb⟩
        have HTb : Hid (Wl w wb P bd bl 6302 s l1) := hTb
        have HIb : Hid (InS wb ah l1.R) := HH.out.1.kept fun x hx hne => (hkb _ (HH.out.2.2.2 x hx hne)).trans (HKa.out _ (HH.out.2.2.2 x hx hne))
        have HPb2 : Hid (∀ x, ah = some x → l1.R ≠ [] → P x.block) := HH.out.2.2.2
        clear hTb hkb hca
        have HOp : Hid (s.opn = (0, some l1, s)) := by
          have k := gd_open HG.out.1
          rw [show ({ l1 with W := [] } : Lg) = l1 from by rw [← HG.out.2.2.1]] at k
          exact k
        go_wp2_with fail
        refine (wl_open2 HTb.out (by omega) HOp.out).mono ?_
        rintro e x1 ⟨bm, rfl, hT1, hO1, hk1⟩
        have HM1 : Hid (Wl w x1 P bd bm (6302 + 2) s l1) := hT1
        have HO1 : Hid (Old x1 bd bl 6302 l1) := hO1
        have HI1 : Hid (InS x1 ah l1.R) := HIb.out.kept fun x hx hne => hk1 _ (HPb2.out x hx hne)
        clear hT1 hO1 hk1
        obtain ⟨qc, hqc⟩ : ∃ q, l1.R.length = q := ⟨_, rfl⟩
        have hqc2 : qc ≤ 1000 := by have h1 := joinL_count l1.R; have h2 := HM1.out.ok.room; have h3 : l1.m ≤ 2047 := HM1.out.ok.m; have h5 : l1.m = 19 := HG.out.2.2.2.1; have h4 : l1.ln = (joinL l1.R).length := rfl; omega
        have HRq : Hid (∀ B ∈ l1.R, IsBytes B) := fun B hB => (HM1.out.ok.rb B hB).1
        have HQe : Hid (l1.R.length = qh) := HH.out.2.1
        have HQc : Hid (l1.R.length = qc) := hqc
        have HQ1 : Hid (qc ≤ 1000 ∧ qh ≤ 1000) := ⟨hqc2, by rw [← HQe.out, hqc]; exact hqc2⟩
        clear hqc2
        have KRec1 : Hid (Calls Try.prog 11 #[.pointer (some ⟨bl, 0, none⟩)] x1 fun e w' => ∃ v, e = .returned v ∧ RowsS w' x1.heap.size v l1.R ∧ Below x1.heap.size x1 w') := old_records HO1.out
        go_wp2_with fail
        refine KRec1.out.mono ?_
        rintro e x2 ⟨vx2, rfl, hrx2, hbx2⟩
        obtain ⟨ax2, cx2, rfl, _, hix2, _, _⟩ := hrx2.slice
        have HM2 : Hid (Wl w x2 P bd bm (6302 + 2) s l1) := HM1.out.keep0 hbx2
        have HI2 : Hid (InS x2 ah l1.R) := HI1.out.keep hbx2
        have HJ2 : Hid (InS x2 ax2 l1.R) := hix2
        have KSa1 : Hid (Calls Try.prog 19 #[.slice ax2 qc cx2, .slice ah qh ch] x2 fun e w' => e = .returned (.bool true) ∧ Below x2.heap.size x2 w') := by
          have k := wsame_is x2 ax2 ah qc qh cx2 ch l1.R l1.R HQc.out HQe.out (by have := HQ1.out; omega) (by have := HQ1.out; omega) HJ2.out HI2.out HRq.out HRq.out
          rw [decide_eq_true (rfl : l1.R = l1.R)] at k
          exact k
        rw [HQc.out]
        clear hix2 hrx2 hbx2 hqc
        go_wp2_with fail
        refine KSa1.out.mono ?_
        rintro e x3 ⟨rfl, hbx3⟩
        have HM3 : Hid (Wl w x3 P bd bm (6302 + 2) s l1) := HM2.out.keep0 hbx3
        have HI3 : Hid (InS x3 ah l1.R) := HI2.out.keep hbx3
        clear hbx3
        have KRec2 : Hid (Calls Try.prog 11 #[.pointer (some ⟨bm, 0, none⟩)] x3 fun e w' => ∃ v, e = .returned v ∧ RowsS w' x3.heap.size v l1.R ∧ Below x3.heap.size x3 w') := wl_records HM3.out
        go_wp2_with fail
        refine KRec2.out.mono ?_
        rintro e x4 ⟨vx4, rfl, hrx4, hbx4⟩
        obtain ⟨ax4, cx4, rfl, _, hix4, _, _⟩ := hrx4.slice
        have HM4 : Hid (Wl w x4 P bd bm (6302 + 2) s l1) := HM3.out.keep0 hbx4
        have HI4 : Hid (InS x4 ah l1.R) := HI3.out.keep hbx4
        have HJ4 : Hid (InS x4 ax4 l1.R) := hix4
        have KSa2 : Hid (Calls Try.prog 19 #[.slice ax4 qc cx4, .slice ah qh ch] x4 fun e w' => e = .returned (.bool true) ∧ Below x4.heap.size x4 w') := by
          have k := wsame_is x4 ax4 ah qc qh cx4 ch l1.R l1.R HQc.out HQe.out (by have := HQ1.out; omega) (by have := HQ1.out; omega) HJ4.out HI4.out HRq.out HRq.out
          rw [decide_eq_true (rfl : l1.R = l1.R)] at k
          exact k
        rw [HQc.out]
        clear hix4 hrx4 hbx4
        go_wp2_with fail
        refine KSa2.out.mono ?_
        rintro e x5 ⟨rfl, hbx5⟩
        have HM5 : Hid (Wl w x5 P bd bm (6302 + 2) s l1) := HM4.out.keep0 hbx5
        have HI5 : Hid (InS x5 ah l1.R) := HI4.out.keep hbx5
        clear hbx5
        go_wp2_with fail
        refine (KWK.out _).mono ?_
        rintro e x6 ⟨rfl, hb6⟩
        have HM6 : Hid (Wl w x6 P bd bm (6302 + 2) s l1) := HM5.out.keep0 hb6
        clear hb6
        go_wp2_with fail
        go_ret
        exact ⟨rfl, HM6.out.bel⟩
      · have HL1 : Hid (l1.W ≠ [] ∧ l1.W.length = 1 ∧ l1.no ≤ 4 ∧ l1.m = 19 ∧ l1.ar = l.ar ∧ l1.lost = false ∧ l1.R = l.R ∧ l1.W = [X]) := by
          have h1 : l1.W = [X] := by rw [hl1]; show l.W ++ [X] = [X]; rw [HG.out.2.2.1]; rfl
          refine ⟨by rw [h1]; simp, by rw [h1]; rfl, by rw [hl1]; exact HG.out.2.2.2.2, by rw [hl1]; exact HG.out.2.2.2.1, by rw [hl1], by rw [hl1]; exact HG.out.1.lost, by rw [hl1], h1⟩
        clear hl1
        obtain ⟨s2, hsy, hg2, hD2⟩ := gd_sync HGa.out (by have := HL1.out.2.2.1; omega) HL1.out.1
        obtain ⟨l2, hl2⟩ : ∃ l2, l2 = ({ l1 with no := l1.no + 1, R := l1.R ++ l1.W, W := [] } : Lg) := ⟨_, rfl⟩
        rw [← hl2] at hsy hg2
        have HG2 : Hid (Gd s2 l2 ∧ l2.W = [] ∧ l2.m = 19 ∧ l2.R = l.R ++ [X]) := ⟨hg2, by rw [hl2], by rw [hl2]; exact HL1.out.2.2.2.1, by rw [hl2]; show l1.R ++ l1.W = _; rw [HL1.out.2.2.2.2.2.2.1, HL1.out.2.2.2.2.2.2.2]⟩
        have HSy : Hid (l1.sync s = (0, l2, s2)) := hsy
        clear hsy hg2 hD2 hl2
        go_wp2_with fail
        refine KA.out.mono ?_
        rintro e wb ⟨rfl, hTb, hkb⟩
        have HTb : Hid (Wl w wb P bd bl 6302 s l1) := hTb
        have HKb : Hid (∀ k, P k → wb.heap[k]? = w5.heap[k]?) := fun k hk => (hkb k hk).trans (HKa.out k hk)
        clear hTb hkb hca
        have KRn : Hid (Calls Try.prog 10 #[.pointer (some ⟨bl, 0, none⟩), .slice none 0 0] wb fun e w' => e = .returned (.int .i64 11) ∧ Wl w w' P bd bl 8402 s l1 ∧ ∀ k, P k → w'.heap[k]? = wb.heap[k]?) := by
          have k := wl_reset HTb.out (by omega) none 0 0 [] rfl (by omega) (.inl rfl) (fun _ => ⟨rfl, rfl⟩) (fun B hB => by cases hB) (fun x hx => by cases hx)
          rw [reset_state HL1.out.2.2.2.2.2.1 HL1.out.1] at k
          exact k
        go_wp2_with fail
        refine KRn.out.mono ?_
        rintro e wc ⟨rfl, hTc, hkc⟩
        have HTc : Hid (Wl w wc P bd bl 8402 s l1) := hTc
        have HKc : Hid (∀ k, P k → wc.heap[k]? = w5.heap[k]?) := fun k hk => (hkc k hk).trans (HKb.out k hk)
        clear hTc hkc
        have KW : Hid (Calls Try.prog 12 #[.pointer (some ⟨bl, 0, none⟩)] wc fun e w' => e = .returned (.int .i64 1) ∧ w' = wc) := by
          have k := wl_waiting HTc.out
          rw [HL1.out.2.1] at k
          exact k
        go_wp2_with fail
        refine KW.out.mono ?_
        rintro e wd ⟨rfl, rfl⟩
        have KSy : Hid (Calls Try.prog 9 #[.pointer (some ⟨bl, 0, none⟩)] wd fun e w' => e = .returned (.int .i64 0) ∧ Wl w w' P bd bl 10502 s2 l2 ∧ ∀ k, P k → w'.heap[k]? = wd.heap[k]?) := by
          have k := wl_sync HTc.out (fit40 HL1.out.2.2.2.1 HTc.out.ok.ar HG.out.2.1) (by omega)
          rw [HSy.out] at k
          exact k
        go_wp2_with fail
        refine KSy.out.mono ?_
        rintro e we ⟨rfl, hTe, hke⟩
        have HTe : Hid (Wl w we P bd bl 10502 s2 l2) := hTe
        have HIe : Hid (InS we ah l.R) := HH.out.1.kept fun x hx hne => (hke _ (HH.out.2.2.2 x hx hne)).trans (HKc.out _ (HH.out.2.2.2 x hx hne))
        clear hTe hke
        have HIe2 : Hid (InS (we.alloc (.cells #[] 9)) ah l.R) := HIe.out.keep (gB_alloc we _)
        have RE : Hid (RowsS (we.alloc (.cells #[] 9)) we.heap.size (.slice (some ⟨we.heap.size, 0, none⟩) 0 0) []) := rows_empty we we.heap.size (Nat.le_refl _)
        have BE : Hid (Below we.heap.size we (we.alloc (.cells #[] 9))) := gB_alloc we _
        have hq9 : qh ≤ 1000 := by rw [← HH.out.2.1]; have h1 := joinL_count l.R; have h2 := HT.out.ok.room; have h3 := HG.out.2.2.2.1; have h4 : l.ln = (joinL l.R).length := rfl; omega

        go_wp2_with (first | (at_builtin; refine appTA rfl (.tmp 86) (.tmp 87) rfl we.heap.size _ [] rfl RE.out ah qh ch l.R rfl HH.out.2.1 HIe2.out HH.out.2.2.1 (by simp; omega) BE.out.size ?_; intro vf wf rf bf; rw [List.nil_append] at rf; obtain ⟨af, cf, rfl, _⟩ := RowsS.slice rf; have RF : Hid (RowsS wf we.heap.size (.slice af l.R.length cf) l.R) := rf; have BF : Hid (Below we.heap.size we wf) := BE.out.trans bf; clear rf bf) | (at_builtin; refine appTA rfl (.tmp 88) (.tmp 90) rfl we.heap.size _ l.R rfl (RF.out.keep (gB_alloc wf _)) (some ⟨wf.heap.size, 0, none⟩) 1 1 [X] rfl rfl (one_in (by rw [cell_of_row _ wf.heap.size 0 _ _ (0, 0) (heap_alloc_new wf _)]; rfl)) (fun h => by cases h) (by rw [HH.out.2.1]; omega) (Nat.le_trans BF.out.size (gB_alloc wf _).size) ?_; intro vg wg rg bg; have RG : Hid (RowsS wg we.heap.size vg (l.R ++ [X])) := rg; have BG : Hid (Below we.heap.size we wg) := BF.out.trans (((gB_alloc wf _).mono BF.out.size).trans bg); clear rg bg; obtain ⟨ag, cg, rfl, _⟩ := RowsS.slice RG.out))
        have HIg : Hid (InS wg ag l2.R) := by
          obtain ⟨a', c', e', _, i', _, _⟩ := RowsS.slice RG.out
          simp only [Value.slice.injEq] at e'
          obtain ⟨rfl, _, rfl⟩ := e'
          rw [HG2.out.2.2.2]
          exact i'
        obtain ⟨P2, hP2⟩ : ∃ P2 : Nat → Prop, P2 = fun k => P k ∨ (we.heap.size ≤ k ∧ k < wg.heap.size) := ⟨_, rfl⟩
        have HTg : Hid (Wl w wg P2 bd bl 10502 s2 l2) := by rw [hP2]; exact HTe.out.keep BG.out
        have HPg : Hid (∀ x, ag = some x → l2.R ≠ [] → P2 x.block) := fun x hx hne => by
          rw [hP2]
          subst hx
          exact .inr ⟨(RG.out.own x.block rfl).1, (RG.out.own x.block rfl).2⟩
        obtain ⟨qg, hqg⟩ : ∃ q, l.R.length + 1 = q := ⟨_, rfl⟩
        have HQg : Hid (l2.R.length = qg) := by rw [HG2.out.2.2.2, List.length_append]; exact hqg
        rw [hqg]
        clear hP2 hqg
        have HOp : Hid (s2.opn = (0, some l2, s2)) := by
          have k := gd_open HG2.out.1
          rw [show ({ l2 with W := [] } : Lg) = l2 from by rw [← HG2.out.2.1]] at k
          exact k
        refine (wl_open2 HTg.out (by omega) HOp.out).mono ?_
        rintro e x1 ⟨bm, rfl, hT1, hO1, hk1⟩
        have HM1 : Hid (Wl w x1 P2 bd bm (10502 + 2) s2 l2) := hT1
        have HO1 : Hid (Old x1 bd bl 10502 l2) := hO1
        have HI1 : Hid (InS x1 ag l2.R) := HIg.out.kept fun x hx hne => hk1 _ (HPg.out x hx hne)
        clear hT1 hO1 hk1
        obtain ⟨qc, hqc⟩ : ∃ q, l2.R.length = q := ⟨_, rfl⟩
        have hqc2 : qc ≤ 1000 := by have h1 := joinL_count l2.R; have h2 := HM1.out.ok.room; have h3 : l2.m ≤ 2047 := HM1.out.ok.m; have h5 : l2.m = 19 := HG2.out.2.2.1; have h4 : l2.ln = (joinL l2.R).length := rfl; omega
        have HRq : Hid (∀ B ∈ l2.R, IsBytes B) := fun B hB => (HM1.out.ok.rb B hB).1
        have HQe : Hid (l2.R.length = qg) := HQg.out
        have HQc : Hid (l2.R.length = qc) := hqc
        have HQ1 : Hid (qc ≤ 1000 ∧ qg ≤ 1000) := ⟨hqc2, by rw [← HQe.out, hqc]; exact hqc2⟩
        clear hqc2
        have KRec1 : Hid (Calls Try.prog 11 #[.pointer (some ⟨bl, 0, none⟩)] x1 fun e w' => ∃ v, e = .returned v ∧ RowsS w' x1.heap.size v l2.R ∧ Below x1.heap.size x1 w') := old_records HO1.out
        go_wp2_with fail
        refine KRec1.out.mono ?_
        rintro e x2 ⟨vx2, rfl, hrx2, hbx2⟩
        obtain ⟨ax2, cx2, rfl, _, hix2, _, _⟩ := hrx2.slice
        have HM2 : Hid (Wl w x2 P2 bd bm (10502 + 2) s2 l2) := HM1.out.keep0 hbx2
        have HI2 : Hid (InS x2 ag l2.R) := HI1.out.keep hbx2
        have HJ2 : Hid (InS x2 ax2 l2.R) := hix2
        have KSa1 : Hid (Calls Try.prog 19 #[.slice ax2 qc cx2, .slice ag qg cg] x2 fun e w' => e = .returned (.bool true) ∧ Below x2.heap.size x2 w') := by
          have k := wsame_is x2 ax2 ag qc qg cx2 cg l2.R l2.R HQc.out HQe.out (by have := HQ1.out; omega) (by have := HQ1.out; omega) HJ2.out HI2.out HRq.out HRq.out
          rw [decide_eq_true (rfl : l2.R = l2.R)] at k
          exact k
        rw [HQc.out]
        clear hix2 hrx2 hbx2 hqc
        go_wp2_with fail
        refine KSa1.out.mono ?_
        rintro e x3 ⟨rfl, hbx3⟩
        have HM3 : Hid (Wl w x3 P2 bd bm (10502 + 2) s2 l2) := HM2.out.keep0 hbx3
        have HI3 : Hid (InS x3 ag l2.R) := HI2.out.keep hbx3
        clear hbx3
        have KRec2 : Hid (Calls Try.prog 11 #[.pointer (some ⟨bm, 0, none⟩)] x3 fun e w' => ∃ v, e = .returned v ∧ RowsS w' x3.heap.size v l2.R ∧ Below x3.heap.size x3 w') := wl_records HM3.out
        go_wp2_with fail
        refine KRec2.out.mono ?_
        rintro e x4 ⟨vx4, rfl, hrx4, hbx4⟩
        obtain ⟨ax4, cx4, rfl, _, hix4, _, _⟩ := hrx4.slice
        have HM4 : Hid (Wl w x4 P2 bd bm (10502 + 2) s2 l2) := HM3.out.keep0 hbx4
        have HI4 : Hid (InS x4 ag l2.R) := HI3.out.keep hbx4
        have HJ4 : Hid (InS x4 ax4 l2.R) := hix4
        have KSa2 : Hid (Calls Try.prog 19 #[.slice ax4 qc cx4, .slice ag qg cg] x4 fun e w' => e = .returned (.bool true) ∧ Below x4.heap.size x4 w') := by
          have k := wsame_is x4 ax4 ag qc qg cx4 cg l2.R l2.R HQc.out HQe.out (by have := HQ1.out; omega) (by have := HQ1.out; omega) HJ4.out HI4.out HRq.out HRq.out
          rw [decide_eq_true (rfl : l2.R = l2.R)] at k
          exact k
        rw [HQc.out]
        clear hix4 hrx4 hbx4
        go_wp2_with fail
        refine KSa2.out.mono ?_
        rintro e x5 ⟨rfl, hbx5⟩
        have HM5 : Hid (Wl w x5 P2 bd bm (10502 + 2) s2 l2) := HM4.out.keep0 hbx5
        have HI5 : Hid (InS x5 ag l2.R) := HI4.out.keep hbx5
        clear hbx5
        go_wp2_with fail
        refine (KWK.out _).mono ?_
        rintro e x6 ⟨rfl, hb6⟩
        have HM6 : Hid (Wl w x6 P2 bd bm (10502 + 2) s2 l2) := HM5.out.keep0 hb6
        clear hb6
        go_wp2_with fail
        go_ret
        exact ⟨rfl, HM6.out.bel⟩
end Go.Proofs.Ytchnbfdfcjahpaa
