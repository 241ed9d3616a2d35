/- The document's Good. -/
import Derived.Test.YtmokonaodoiflaaPtQ
import Derived.Test.YtmokonaodoiflaaWsE
namespace Go.Proofs.Ytmokonaodoiflaa
open Go.ChangeShapes Go.WideShapes Go.ChangeAt Go.RowKit Go.Deep Go.Maps
set_option linter.unusedVariables false
set_option linter.unusedSimpArgs false
def okG (s : Int) (D : List Int) (i : Nat) : Prop := ∀ x, D[i]? = some x → inT x = true ∧ x ≠ s ∧ ¬ x ∈ D.take i
theorem okG_nodup {s : Int} {D : List Int} (h : ∀ i, okG s D i) : D.Nodup := by
  rw [List.Nodup, List.pairwise_iff_getElem]
  intro i j hi hj hij e
  have := (h j _ (List.getElem?_eq_getElem hj)).2.2
  apply this
  rw [← e]
  exact List.mem_iff_getElem.2 ⟨i, by rw [List.length_take]; omega, by rw [List.getElem_take]⟩
theorem rgd_iff (r s : Int) (D : List Int) : gdP r s D = true ↔ isRt r = true ∧ 0 ≤ s ∧ s ≤ 1099511627776 ∧ ∀ i, okG s D i := by
  constructor
  · intro h
    obtain ⟨g1, g2, g3⟩ := gd_get h
    obtain ⟨f1, f2, f3⟩ := gd_facts h
    have hD : ∀ x ∈ D, inT x = true := fun x hx => g2 x (by unfold allP; split <;> simp [hx])
    have hs : 0 ≤ s ∧ s ≤ 1099511627776 := by
      by_cases h0 : s = 0
      · omega
      · have := g2 s (by unfold allP; rw [if_neg h0]; simp)
        unfold inT at this
        simp at this
        omega
    refine ⟨by unfold isRt; simp [g1], hs.1, hs.2, fun i x hx => ⟨hD x (List.mem_of_getElem? hx), ?_, ?_⟩⟩
    · intro e
      subst e
      have hm := List.mem_of_getElem? hx
      exact f1 (f2 x hm) hm
    · intro hm
      obtain ⟨j, hj, e⟩ := List.mem_iff_getElem.1 hm
      rw [List.length_take] at hj
      obtain ⟨hi, e2⟩ := List.getElem?_eq_some_iff.1 hx
      rw [List.getElem_take] at e
      rw [List.Nodup, List.pairwise_iff_getElem] at f3
      exact f3 j i (by omega) hi (by omega) (e.trans e2.symm)
  · rintro ⟨h1, h2, h3, h4⟩
    unfold isRt at h1
    simp at h1
    have hD : ∀ x ∈ D, inT x = true ∧ x ≠ s := fun x hx => by
      obtain ⟨i, hi, e⟩ := List.mem_iff_getElem.1 hx
      obtain ⟨a, b, _⟩ := h4 i x (by rw [List.getElem?_eq_getElem hi, e])
      exact ⟨a, b⟩
    refine gd_mk h1 ?_ ?_
    · unfold allP
      split
      · exact fun x hx => (hD x hx).1
      · intro x hx
        rcases List.mem_append.1 hx with hx | hx
        · exact (hD x hx).1
        · rw [List.mem_singleton.1 hx]; unfold inT; simp; omega
    · unfold allP
      split
      · exact okG_nodup h4
      · rw [List.nodup_append]
        exact ⟨okG_nodup h4, by simp, fun a ha b hb => by rw [List.mem_singleton.1 hb]; exact (hD a ha).2⟩
set_option maxRecDepth 100000 in
set_option maxHeartbeats 8000000 in
theorem rgood_is (w : World) (r s : Int) (a : Option Addr) (n c : Nat) (D : List Int) (hp : PrtAt w a n c D) :
    Calls Try.prog 14 #[.agg #[.int .i64 r, .int .i64 s, .slice a n c]] w fun e w' => e = .returned (.bool (gdP r s D)) ∧ Below w.heap.size w w' := by
  obtain ⟨W0, hW0⟩ : ∃ W0, W0 = w.alloc (.cells #[.int .i64 r, .int .i64 s, .slice a n c] 24) := ⟨_, rfl⟩
  have HE : Hid (W0 = w.alloc (.cells #[.int .i64 r, .int .i64 s, .slice a n c] 24)) := hW0
  have hb0 : Below w.heap.size w W0 := by rw [hW0]; exact below1 w _
  have hq : Bx W0 w.heap.size r s a n c := by rw [hW0]; exact heap_alloc_new w _
  have HX : Hid (Bx W0 w.heap.size r s a n c ∧ Below w.heap.size w W0 ∧ PrtAt W0 a n c D) := ⟨hq, hb0, hp.keep hb0⟩
  obtain ⟨G, hG⟩ : ∃ G, gdP r s D = G := ⟨_, rfl⟩
  have HG : Hid (gdP r s D = G) := hG
  rw [hG]
  obtain ⟨R, hR⟩ : ∃ R, isRt r = R := ⟨_, rfl⟩
  have KR : Hid (∀ W, Calls Try.prog 36 #[.int .i64 r] W fun e w' => e = .returned (.bool R) ∧ w' = W) := fun W => by rw [← hR]; exact rRoot_is W r
  have HNO : Hid (¬ (isRt r = true ∧ 0 ≤ s ∧ s ≤ 1099511627776 ∧ ∀ i, okG s D i) → false = G) := fun h => by
    rw [← HG.out]
    exact (Bool.eq_false_iff.2 (fun e => h ((rgd_iff r s D).1 e))).symm
  have HR : Hid (isRt r = R) := hR
  have hcc := hp.cap
  have hbb := hp.big
  clear hW0 hb0 hq hp hG hR
  obtain ⟨c0, c1, c2⟩ := HX.out.1.cells
  cases R with
  | false =>
    have HF : Hid (false = G) := HNO.out (fun h => by have := HR.out.symm.trans h.1; cases this)
    go_enter Try.func14, Try.ntmps14
    go_wp2_with (go_at_call 36; rw [← HE.out]; refine (KR.out _).mono ?_; rintro e1 w1 ⟨rfl, rfl⟩)
    go_ret
    exact ⟨congrArg (fun z => Ending.returned (.bool z)) HF.out, HX.out.2.1⟩
  | true =>
  by_cases h1 : s < 0
  · have d1 : decide (s < 0) = true := decide_eq_true h1
    have HF : Hid (false = G) := HNO.out (fun h => by omega)
    go_enter Try.func14, Try.ntmps14
    go_wp2_with (go_at_call 36; rw [← HE.out]; refine (KR.out _).mono ?_; rintro e1 w1 ⟨rfl, rfl⟩)
    go_ret
    exact ⟨congrArg (fun z => Ending.returned (.bool z)) HF.out, HX.out.2.1⟩
  have d1 : decide (s < 0) = false := decide_eq_false h1
  by_cases h2 : 1099511627776 < s
  · have d2 : decide (1099511627776 < s) = true := decide_eq_true h2
    have HF : Hid (false = G) := HNO.out (fun h => by omega)
    go_enter Try.func14, Try.ntmps14
    go_wp2_with (go_at_call 36; rw [← HE.out]; refine (KR.out _).mono ?_; rintro e1 w1 ⟨rfl, rfl⟩)
    go_ret
    exact ⟨congrArg (fun z => Ending.returned (.bool z)) HF.out, HX.out.2.1⟩
  have d2 : decide (1099511627776 < s) = false := decide_eq_false h2
  have HS : Hid (0 ≤ s ∧ s ≤ 1099511627776) := ⟨by omega, by omega⟩
  clear h1 h2
  go_enter Try.func14, Try.ntmps14
  go_wp2_with (go_at_call 36; rw [← HE.out]; refine (KR.out _).mono ?_; rintro e1 w1 ⟨rfl, rfl⟩)
  go_loopg [3] n (fun g i wr => ∃ j : Nat, j ≤ n ∧ g = n - j ∧ i = .int .i64 (j : Int) ∧ Hid ((∀ q, q < j → okG s D q) ∧ Below w1.heap.size w1 wr))
  case atStart => exact ⟨0, Nat.zero_le _, rfl, rfl, (fun q hq => by omega), Below.refl _ _⟩
  obtain ⟨j, hj, rfl, rfl, RW⟩ := hrel
  clear c0 c1 c2
  obtain ⟨c0, c1, c2⟩ := (HX.out.1.keep RW.out.2).cells
  have HUP : Hid (Below w.heap.size w wr) := HX.out.2.1.trans (RW.out.2.mono HX.out.2.1.size)
  by_cases hlt : j < n
  · have j1 : decide ((j : Int) < (n : Int)) = true := by rw [decide_eq_true_eq]; omega
    obtain ⟨x, hx⟩ : ∃ x, D[j]? = some x := ⟨D[j]'(by rw [HX.out.2.2.len]; exact hlt), by simp [HX.out.2.2.len, hlt]⟩
    obtain ⟨b, off, rfl, _, cx⟩ := (HX.out.2.2.inz.keep RW.out.2).at hx
    have HXJ : Hid (D[j]? = some x) := hx
    have ri : IntKind.i64.wrap ((j : Int) + 1) = (j : Int) + 1 := by rw [IntKind.wrap_i64]; omega
    have hjc : (j : Int) ≤ (c : Int) := by omega
    have hjc2 : j ≤ c := by omega
    obtain ⟨Q1, hQ1⟩ : ∃ Q1, decide (x ∈ D.take j) = Q1 := ⟨_, rfl⟩
    have KI : Hid (∀ q, Calls Try.prog 20 #[.slice (some ⟨b, off, none⟩) j c, .int .i64 x] (wr.drewN q) fun e w' => e = .returned (.bool Q1) ∧ w' = wr.drewN q) := fun q => by
      rw [← hQ1]
      exact rin_is _ _ j c (D.take j) (by rw [List.length_take, HX.out.2.2.len]; omega) (((HX.out.2.2.inz.keep RW.out.2).take j).keep (below_drewN (Below.refl _ _) q)) (by omega) x
    have HQ1 : Hid (decide (x ∈ D.take j) = Q1) := hQ1
    clear hx hQ1
    by_cases g1 : x < 1
    · have t1 : decide (x < 1) = true := decide_eq_true g1
      have HF : Hid (false = G) := HNO.out (fun h => by have := (h.2.2.2 j x HXJ.out).1; rw [inT_eq, t1] at this; simp at this)
      go_wp2_with fail
      go_quiet (fail)
      have BQ : Hid (Below w.heap.size w (wr.drewN nq)) := below_drewN HUP.out nq
      go_wp2_with fail
      go_ret
      exact ⟨congrArg (fun z => Ending.returned (.bool z)) HF.out, BQ.out⟩
    have t1 : decide (x < 1) = false := decide_eq_false g1
    by_cases g2 : 1099511627776 < x
    · have t2 : decide (1099511627776 < x) = true := decide_eq_true g2
      have HF : Hid (false = G) := HNO.out (fun h => by have := (h.2.2.2 j x HXJ.out).1; rw [inT_eq, t1, t2] at this; simp at this)
      go_wp2_with fail
      go_quiet (fail)
      have BQ : Hid (Below w.heap.size w (wr.drewN nq)) := below_drewN HUP.out nq
      go_wp2_with fail
      go_ret
      exact ⟨congrArg (fun z => Ending.returned (.bool z)) HF.out, BQ.out⟩
    have t2 : decide (1099511627776 < x) = false := decide_eq_false g2
    by_cases g3 : x = s
    · have t3 : (x == s) = true := by simp [g3]
      have HF : Hid (false = G) := HNO.out (fun h => (h.2.2.2 j x HXJ.out).2.1 g3)
      clear g3
      go_wp2_with fail
      go_quiet (fail)
      have BQ : Hid (Below w.heap.size w (wr.drewN nq)) := below_drewN HUP.out nq
      go_wp2_with fail
      go_ret
      exact ⟨congrArg (fun z => Ending.returned (.bool z)) HF.out, BQ.out⟩
    have t3 : (x == s) = false := by simp [g3]
    cases Q1 with
    | true =>
      have HF : Hid (false = G) := HNO.out (fun h => (h.2.2.2 j x HXJ.out).2.2 (of_decide_eq_true HQ1.out))
      clear g1 g2 g3
      go_wp2_with fail
      go_quiet ((go_at_call 20; refine (KI.out _).mono ?_; exact fun _ _ h => ⟨h.1, _, h.2⟩))
      have BQ : Hid (Below w.heap.size w (wr.drewN nq)) := below_drewN HUP.out nq
      go_wp2_with fail
      go_ret
      exact ⟨congrArg (fun z => Ending.returned (.bool z)) HF.out, BQ.out⟩
    | false =>
      have HST : Hid (∀ q, q < j + 1 → okG s D q) := fun q hq => (by
        by_cases hq2 : q < j
        · exact RW.out.1 q hq2
        · have hqj : q = j := by omega
          rw [hqj]
          intro z hz
          rw [HXJ.out] at hz
          cases hz
          exact ⟨by rw [inT_eq, t1, t2]; rfl, g3, of_decide_eq_false HQ1.out⟩)
      clear g1 g2 g3
      go_wp2_with fail
      go_quiet ((go_at_call 20; refine (KI.out _).mono ?_; exact fun _ _ h => ⟨h.1, _, h.2⟩))
      have BQ : Hid (Below w1.heap.size w1 (wr.drewN nq)) := below_drewN RW.out.2 nq
      go_wp2_with fail
      go_roundg (n - (j + 1))
      case measure => omega
      case rel => exact ⟨j + 1, by omega, rfl, rfl, HST.out, BQ.out⟩
  · have j1 : decide ((j : Int) < (n : Int)) = false := by rw [decide_eq_false_iff_not]; omega
    have HF : Hid (true = G) := by
      show _ = _
      rw [← HG.out]
      refine ((rgd_iff r s D).2 ⟨HR.out, HS.out.1, HS.out.2, fun i x hx => RW.out.1 i ?_ x hx⟩).symm
      have := (List.getElem?_eq_some_iff.1 hx).1
      rw [HX.out.2.2.len] at this
      omega
    go_wp2_with fail
    go_ret
    exact ⟨congrArg (fun z => Ending.returned (.bool z)) HF.out, HUP.out⟩
end Go.Proofs.Ytmokonaodoiflaa
