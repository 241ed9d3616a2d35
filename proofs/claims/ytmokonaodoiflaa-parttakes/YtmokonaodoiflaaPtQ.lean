/- SameNumbers, same; a message that comes again. -/
import Derived.Test.YtmokonaodoiflaaPtP
namespace Go.Proofs.Ytmokonaodoiflaa
open Go.ChangeShapes Go.WideShapes Go.ChangeAt Go.RowKit Go.Deep Go.Maps
set_option linter.unusedVariables false
set_option linter.unusedSimpArgs false
set_option maxRecDepth 100000 in
theorem samen_true (w : World) (a b : Option Addr) (n c c2 : Nat) (D : List Int) (hn : D.length = n) (ha : InZ w a D) (hb : InZ w b D) (hN : n ≤ 1000000) :
    Calls Try.prog 15 #[.slice a n c, .slice b n c2] w fun e w' => e = .returned (.bool true) ∧ Below w.heap.size w w' := by
  have HL : Hid (InZ w a D ∧ InZ w b D ∧ D.length = n) := ⟨ha, hb, hn⟩
  clear hn ha hb
  go_enter Try.func15, Try.ntmps15
  go_wp2_with fail
  go_loopg [5] n (fun g i wr => ∃ j : Nat, j ≤ n ∧ g = n - j ∧ i = .int .i64 (j : Int) ∧ Hid (Below w.heap.size w wr))
  case atStart => exact ⟨0, Nat.zero_le _, rfl, rfl, Below.refl _ _⟩
  obtain ⟨j, hj, rfl, rfl, RW⟩ := hrel
  by_cases hlt : j < n
  · have j1 : decide ((j : Int) < (n : Int)) = true := by rw [decide_eq_true_eq]; omega
    obtain ⟨y, hy⟩ : ∃ y, D[j]? = some y := ⟨D[j]'(by rw [HL.out.2.2]; exact hlt), by simp [HL.out.2.2, hlt]⟩
    obtain ⟨b1, o1, rfl, _, c1⟩ := (HL.out.1.keep RW.out).at hy
    obtain ⟨b2, o2, rfl, _, d1⟩ := (HL.out.2.1.keep RW.out).at hy
    have ri : IntKind.i64.wrap ((j : Int) + 1) = (j : Int) + 1 := by rw [IntKind.wrap_i64]; omega
    clear hy
    go_wp2_with fail
    go_quiet (fail)
    have B1 : Hid (Below w.heap.size w (wr.drewN nq)) := below_drewN RW.out nq
    go_wp2_with fail
    go_roundg (n - (j + 1))
    case measure => omega
    case rel => exact ⟨j + 1, by omega, rfl, rfl, B1.out⟩
  · have j1 : decide ((j : Int) < (n : Int)) = false := by rw [decide_eq_false_iff_not]; omega
    go_wp2_with fail
    go_ret
    exact ⟨rfl, RW.out⟩
set_option maxRecDepth 100000 in
theorem psame_true (w : World) (r s : Int) (a b : Option Addr) (n c c2 : Nat) (D : List Int) (hn : D.length = n) (ha : InZ w a D) (hb : InZ w b D) (hN : n ≤ 1000000) :
    Calls Try.prog 22 #[.agg #[.int .i64 r, .int .i64 s, .slice a n c], .agg #[.int .i64 r, .int .i64 s, .slice b n c2]] w fun e w' => e = .returned (.bool true) ∧ Below w.heap.size w w' := by
  have HB : Hid (∀ o p, Below w.heap.size w ((w.alloc o).alloc p)) := fun o p => ((Below.refl _ _).alloc (Nat.le_refl _) _).alloc (by simp) _
  have K : Hid (∀ W, Below w.heap.size w W → Calls Try.prog 15 #[.slice a n c, .slice b n c2] W fun e w' => e = .returned (.bool true) ∧ Below W.heap.size W w') := fun W hW => samen_true W a b n c c2 D hn (ha.keep hW) (hb.keep hW) hN
  clear hn ha hb hN
  go_enter Try.func22, Try.ntmps22
  go_wp2_with (go_at_call 15; refine (K.out _ (HB.out _ _)).mono ?_; rintro e9 w9 ⟨rfl, b9⟩; have B9 : Hid (Below w.heap.size w w9) := (HB.out _ _).trans (b9.mono (HB.out _ _).size); clear b9)
  go_ret
  exact ⟨rfl, B9.out⟩
/-- the last message that is sent -/
def lsM (l : List Dd) : Mv := l.foldl (fun a y => if y.k = 5 then y.m else a) noM
theorem gd_mk {r s : Int} {D : List Int} (hr : 1 ≤ r ∧ r ≤ 6) (h1 : ∀ x ∈ allP s D, inT x = true) (h2 : (allP s D).Nodup) : gdP r s D = true := by
  unfold gdP
  rw [Bool.and_eq_true, Bool.and_eq_true, decide_eq_true_eq, decide_eq_true_eq, decide_eq_true_eq]
  exact ⟨hr, h1, h2⟩
theorem gd_get {r s : Int} {D : List Int} (h : gdP r s D = true) : (1 ≤ r ∧ r ≤ 6) ∧ (∀ x ∈ allP s D, inT x = true) ∧ (allP s D).Nodup := by
  unfold gdP at h
  rw [Bool.and_eq_true, Bool.and_eq_true, decide_eq_true_eq, decide_eq_true_eq, decide_eq_true_eq] at h
  exact ⟨h.1, h.2.1, h.2.2⟩
theorem wchk_in {k f t x : Int} {y : Bool} {L : List Pk} (h : wchk k f t x y L = 0) : inT x = true := by
  unfold wchk at h
  by_cases h1 : k < 1 ∨ 6 < k
  · rw [if_pos h1] at h; exact absurd h (by decide)
  · rw [if_neg h1] at h
    by_cases h2 : 1 ≤ x ∧ x ≤ 1099511627776
    · unfold inT; simp [h2]
    · rw [if_neg (fun h => h2 h.2)] at h; exact absurd h (by decide)
/-- the three that a message may leave: nothing, staged, committed, given up -/
theorem tk_step {r s : Int} {D : List Int} {k f t x : Int} {y : Bool} {L : List Pk} (h : tkOk r s D k f t x y L) (P : Option Addr × Nat × Nat) :
    (ndA (s, D) (tkD r s D k x P) = (s, D)) ∨ (k = 1 ∧ s = 0 ∧ ¬ x ∈ D ∧ ndA (s, D) (tkD r s D k x P) = (x, D)) ∨ (k = 3 ∧ s = x ∧ ndA (s, D) (tkD r s D k x P) = (0, D ++ [x])) ∨ (k = 4 ∧ s = x ∧ ndA (s, D) (tkD r s D k x P) = (0, D)) := by
  have hx0 : x ≠ 0 := wchk_pos h.2.1
  have hse : dSe x = dP 1 x noM := if_neg hx0
  unfold tkD
  by_cases k1 : k = 1
  · rw [if_pos k1]
    by_cases hd : x ∈ D
    · rw [if_pos hd]; exact .inl rfl
    · rw [if_neg hd]
      by_cases hs : s = 0
      · rw [if_pos hs]
        refine .inr (.inl ⟨k1, hs, hd, ?_⟩)
        by_cases hl : lastP D = 0
        · rw [show dSe (lastP D) = dP 0 0 noM from if_pos hl]; rfl
        · rw [show dSe (lastP D) = dP 1 (lastP D) noM from if_neg hl]; rfl
      · rw [if_neg hs]
        split <;> exact .inl rfl
  · rw [if_neg k1]
    by_cases k3 : k = 3
    · rw [if_pos k3]
      by_cases hsx : s = x
      · rw [if_pos hsx, hse]; exact .inr (.inr (.inl ⟨k3, hsx, rfl⟩))
      · rw [if_neg hsx, hse]
        left
        split
        · split <;> rfl
        · rfl
    · rw [if_neg k3]
      by_cases k4 : k = 4
      · rw [if_pos k4]
        by_cases hsx : s = x
        · rw [if_pos hsx]; exact .inr (.inr (.inr ⟨k4, hsx, rfl⟩))
        · rw [if_neg hsx]; exact .inl rfl
      · rw [if_neg k4]; exact .inl rfl
theorem tk_good {r s : Int} {D : List Int} {k f t x : Int} {y : Bool} {L : List Pk} (h : tkOk r s D k f t x y L) (P : Option Addr × Nat × Nat) : gdP r (ndA (s, D) (tkD r s D k x P)).1 (ndA (s, D) (tkD r s D k x P)).2 = true := by
  have hx0 : x ≠ 0 := wchk_pos h.2.1
  obtain ⟨g1, g2, g3⟩ := gd_get h.1
  rcases tk_step h P with e | ⟨_, hs, hd, e⟩ | ⟨_, hs, e⟩ | ⟨_, hs, e⟩ <;> rw [e]
  · exact h.1
  · subst hs
    have ea : allP x D = D ++ [x] := if_neg hx0
    have e0 : allP 0 D = D := if_pos rfl
    rw [e0] at g2 g3
    refine gd_mk g1 ?_ ?_
    · rw [ea]
      intro z hz
      rcases List.mem_append.1 hz with hz | hz
      · exact g2 z hz
      · rw [List.mem_singleton.1 hz]; exact wchk_in h.2.1
    · rw [ea, List.nodup_append]
      exact ⟨g3, by simp, fun a ha b hb => by rw [List.mem_singleton.1 hb]; exact fun e => hd (e ▸ ha)⟩
  · subst hs
    rw [show allP s D = D ++ [s] from if_neg hx0] at g2 g3
    refine gd_mk g1 ?_ ?_
    · rw [show allP 0 (D ++ [s]) = D ++ [s] from if_pos rfl]; exact g2
    · rw [show allP 0 (D ++ [s]) = D ++ [s] from if_pos rfl]; exact g3
  · subst hs
    rw [show allP s D = D ++ [s] from if_neg hx0] at g2 g3
    refine gd_mk g1 ?_ ?_
    · rw [show allP 0 D = D from if_pos rfl]; exact fun z hz => g2 z (by simp [hz])
    · rw [show allP 0 D = D from if_pos rfl]; rw [List.nodup_append] at g3; exact g3.1
theorem some9_ls (l : List Dd) (m : List Dd) : lsM (some9 l ++ m) = lsM (l ++ m) := by
  unfold lsM some9
  rw [List.foldl_append, List.foldl_append]
  congr 1
  generalize noM = a
  induction l generalizing a with
  | nil => rfl
  | cons y l ih =>
    by_cases hy : y.k = 0
    · rw [List.filter_cons_of_neg (by simp [hy]), List.foldl_cons, if_neg (by rw [hy]; decide)]; exact ih a
    · rw [List.filter_cons_of_pos (by simp [hy]), List.foldl_cons, List.foldl_cons]; exact ih _
/-- the same message once more -/
theorem tk_again {r s : Int} {D : List Int} {k f t x : Int} {y : Bool} {L : List Pk} (h : tkOk r s D k f t x y L) (P P2 : Option Addr × Nat × Nat) :
    ∀ S1 D1, ndA (s, D) (tkD r s D k x P) = (S1, D1) → ndA (S1, D1) (tkD r S1 D1 k x P2) = (S1, D1) ∧ (lsM (tkD r s D k x P)).k = (lsM (tkD r S1 D1 k x P2)).k ∧ (lsM (tkD r s D k x P)).y = (lsM (tkD r S1 D1 k x P2)).y ∧ (lsM (tkD r s D k x P)).x = (lsM (tkD r S1 D1 k x P2)).x := by
  intro S1 D1 hst
  have hx0 : x ≠ 0 := wchk_pos h.2.1
  obtain ⟨g1, g2, g3⟩ := gd_facts h.1
  have hse : dSe x = dP 1 x noM := if_neg hx0
  rcases tk_step h P with e | ⟨k1, hs, hd, e⟩ | ⟨k3, hs, e⟩ | ⟨k4, hs, e⟩
  · rw [e] at hst
    cases hst
    by_cases hst1 : k = 1 ∧ ¬ x ∈ D ∧ s = 0
    · obtain ⟨k1, hd, hs⟩ := hst1
      exfalso
      have : tkD r s D k x P = some9 [dSe (lastP D), dSt x P] ++ [dSn 2 r x true] := by unfold tkD; rw [if_pos k1, if_neg hd, if_pos hs]
      rw [this] at e
      have e2 : (ndA (s, D) (some9 [dSe (lastP D), dSt x P] ++ [dSn 2 r x true])).1 = x := by
        by_cases hl : lastP D = 0
        · rw [show dSe (lastP D) = dP 0 0 noM from if_pos hl]; rfl
        · rw [show dSe (lastP D) = dP 1 (lastP D) noM from if_neg hl]; rfl
      rw [e] at e2
      exact hx0 (e2.symm.trans hs)
    · have same : tkD r s D k x P2 = tkD r s D k x P := by
        unfold tkD
        by_cases k1 : k = 1
        · rw [if_pos k1, if_pos k1]
          by_cases hd : x ∈ D
          · rw [if_pos hd, if_pos hd]
          · rw [if_neg hd, if_neg hd, if_neg (fun hs => hst1 ⟨k1, hd, hs⟩), if_neg (fun hs => hst1 ⟨k1, hd, hs⟩)]
        · rw [if_neg k1, if_neg k1]
      rw [same]
      exact ⟨e, rfl, rfl, rfl⟩
  · rw [e] at hst
    cases hst
    have e1 : tkD r s D k x P = some9 [dSe (lastP D), dSt x P] ++ [dSn 2 r x true] := by unfold tkD; rw [if_pos k1, if_neg hd, if_pos hs]
    have e2 : tkD r x D k x P2 = [dSn 2 r x true] := by unfold tkD; rw [if_pos k1, if_neg hd, if_neg hx0, if_pos rfl]
    rw [e1, e2, some9_ls]
    have e3 : lsM ([dSe (lastP D), dSt x P] ++ [dSn 2 r x true]) = lsM [dSn 2 r x true] := rfl
    rw [e3]
    exact ⟨rfl, rfl, rfl, rfl⟩
  · rw [e] at hst
    cases hst
    have k1 : ¬ k = 1 := by omega
    have e1 : tkD r s D k x P = some9 [dP 3 x noM, dSe x] ++ [dSn 5 r x false] := by unfold tkD; rw [if_neg k1, if_pos k3, if_pos hs]
    have hl : x = lastP (D ++ [x]) := by unfold lastP; simp
    have e2 : tkD r 0 (D ++ [x]) k x P2 = some9 [dSe x] ++ [dSn 5 r x false] := by unfold tkD; rw [if_neg k1, if_pos k3, if_neg (fun e => hx0 e.symm), if_pos (by simp), if_pos hl]
    rw [e1, e2, some9_ls, some9_ls, hse]
    exact ⟨rfl, rfl, rfl, rfl⟩
  · rw [e] at hst
    cases hst
    have k1 : ¬ k = 1 := by omega
    have k3 : ¬ k = 3 := by omega
    have e1 : tkD r s D k x P = [dP 4 x noM] := by unfold tkD; rw [if_neg k1, if_neg k3, if_pos k4, if_pos hs]
    have e2 : tkD r 0 D k x P2 = [] := by unfold tkD; rw [if_neg k1, if_neg k3, if_pos k4, if_neg (fun e => hx0 e.symm)]
    rw [e1, e2]
    exact ⟨rfl, rfl, rfl, rfl⟩
theorem ndA_len (l : List Dd) : ∀ st : Int × List Int, (ndA st l).2.length ≤ st.2.length + l.length := by
  induction l with
  | nil => intro st; exact Nat.le_refl _
  | cons y l ih =>
    intro st
    have h1 := ih (ndS st y)
    have h2 := ndS_len st y
    show (ndA (ndS st y) l).2.length ≤ _
    simp only [List.length_cons]
    omega
theorem again_all {r s : Int} {D : List Int} {k f t x : Int} {y : Bool} {L : List Pk} {P P2 : Option Addr × Nat × Nat} {dl1 dl2 : List Dd} {S1 : Int} {D1 : List Int} (h1 : tkL r s D k f t x y L P dl1) (hst : ndA (s, D) dl1 = (S1, D1)) (h2 : tkL r S1 D1 k f t x y L P2 dl2) :
    (gdP r s D = true → gdP r S1 D1 = true ∧ ndA (S1, D1) dl2 = (S1, D1) ∧ (lsM dl1).k = (lsM dl2).k ∧ (lsM dl1).y = (lsM dl2).y ∧ (lsM dl1).x = (lsM dl2).x) ∧ (gdP r s D = false → dl1 = []) := by
  rcases h1 with ⟨ok, rfl⟩ | ⟨ok, rfl⟩
  · have hg := tk_good ok P
    rw [hst] at hg
    have ok2 : tkOk r S1 D1 k f t x y L := ⟨hg, ok.2⟩
    refine ⟨fun _ => ?_, fun h => by have := ok.1; rw [h] at this; cases this⟩
    rcases h2 with ⟨_, rfl⟩ | ⟨h, _⟩
    · exact ⟨hg, tk_again ok P P2 S1 D1 hst⟩
    · exact absurd ok2 h
  · cases hst
    refine ⟨fun hg => ?_, fun _ => rfl⟩
    rcases h2 with ⟨h, _⟩ | ⟨_, rfl⟩
    · exact absurd h ok
    · exact ⟨hg, rfl, rfl, rfl, rfl⟩
end Go.Proofs.Ytmokonaodoiflaa
