/- Two tables side by side; what a call does, plain. -/
import Derived.Test.YtgfjhghhonaiiaaCpO
import Derived.LaidEqlPtr
namespace Go.Proofs.Ytgfjhghhonaiiaa
open Go.ChangeShapes Go.WideShapes Go.ChangeAt Go.RowKit Go.Deep Go.Maps
set_option linter.unusedVariables false
set_option linter.unusedSimpArgs false
def stQ (Q : Qm) (a : Ca) : Qm := if a.k = 0 then tnQ Q a.i a.q else Q
def stG (Q : Qm) (G : Gm) (a : Ca) : Gm := if a.k = 1 then grG Q G a.i a.r else if a.k = 2 then rvG Q G a.i a.r else G
/-- two tables tell the same of a tenant -/
def Rel (i : Int) (Q : Qm) (G : Gm) (Q' : Qm) (G' : Gm) : Prop := Q i = Q' i ∧ ∀ r, G (i, r) = G' (i, r)
theorem tnQ_off {Q : Qm} {i j q : Int} (h : j ≠ i) : tnQ Q j q i = Q i := by
  unfold tnQ
  split
  · simp only [if_neg (Ne.symm h)]
  · rfl
theorem grG_off {Q : Qm} {G : Gm} {i j r s : Int} (h : j ≠ i) : grG Q G j r (i, s) = G (i, s) := by
  unfold grG
  split
  · show (if (i, s) = (j, r) then _ else G (i, s)) = G (i, s)
    rw [if_neg (fun e => h (by injection e with e1 e2; exact e1.symm))]
  · rfl
theorem rvG_off {Q : Qm} {G : Gm} {i j r s : Int} (h : j ≠ i) : rvG Q G j r (i, s) = G (i, s) := by
  unfold rvG
  split
  · show (if (i, s) = (j, r) then _ else G (i, s)) = G (i, s)
    rw [if_neg (fun e => h (by injection e with e1 e2; exact e1.symm))]
  · rfl
theorem rel_off {i : Int} {Q Q' : Qm} {G G' : Gm} (h : Rel i Q G Q' G') (a : Ca) (ha : a.i ≠ i) : Rel i (stQ Q a) (stG Q G a) Q' G' := by
  refine ⟨?_, fun r => ?_⟩
  · unfold stQ
    split
    · rw [tnQ_off ha]; exact h.1
    · exact h.1
  · unfold stG
    split
    · rw [grG_off ha]; exact h.2 r
    · split
      · rw [rvG_off ha]; exact h.2 r
      · exact h.2 r
theorem tnE_eq {Q Q' : Qm} {i q : Int} (h : Q i = Q' i) : tnE Q i q = tnE Q' i q := by unfold tnE; rw [h]
theorem ckE_eq {Q Q' : Qm} {i q : Int} (h : Q i = Q' i) : ckE Q i q = ckE Q' i q := by unfold ckE; rw [h]
theorem rel_on {i : Int} {Q Q' : Qm} {G G' : Gm} (h : Rel i Q G Q' G') (a : Ca) (ha : a.i = i) : Rel i (stQ Q a) (stG Q G a) (stQ Q' a) (stG Q' G' a) := by
  subst ha
  refine ⟨?_, fun r => ?_⟩
  · unfold stQ
    split
    · unfold tnQ
      rw [tnE_eq h.1]
      split
      · simp
      · exact h.1
    · exact h.1
  · unfold stG
    split
    · unfold grG
      rw [ckE_eq h.1]
      split
      · simp only [h.2 r]
      · exact h.2 r
    · split
      · unfold rvG
        rw [ckE_eq h.1]
        split
        · simp only [h.2 r]
        · exact h.2 r
      · exact h.2 r
/-- two tables in one world, both new since w0 -/
structure Tw (w0 w : World) (F1 F2 : Nat → Prop) (b1 b2 N : Nat) (Q : Qm) (G : Gm) (Q' : Qm) (G' : Gm) : Prop where
  l : Tab w F1 b1 N Q G
  r : Tab w F2 b2 N Q' G'
  ap : ∀ k, F1 k → ¬ F2 k
  n1 : ∀ k, F1 k → w0.heap.size ≤ k
  n2 : ∀ k, F2 k → w0.heap.size ≤ k
  bel : Below w0.heap.size w0 w
variable {w0 w w' : World} {F1 F2 : Nat → Prop} {b1 b2 N : Nat} {Q Q' : Qm} {G G' : Gm}
theorem Tw.keep (h : Tw w0 w F1 F2 b1 b2 N Q G Q' G') (hb : Below w.heap.size w w') : Tw w0 w' F1 F2 b1 b2 N Q G Q' G' := ⟨h.l.keep hb, h.r.keep hb, h.ap, h.n1, h.n2, h.bel.trans (hb.mono h.bel.size)⟩
theorem Tw.more {N' : Nat} (h : Tw w0 w F1 F2 b1 b2 N Q G Q' G') (hN : N ≤ N') : Tw w0 w F1 F2 b1 b2 N' Q G Q' G' := ⟨h.l.more hN, h.r.more hN, h.ap, h.n1, h.n2, h.bel⟩
theorem Tw.left {Q1 : Qm} {G1 : Gm} (h : Tw w0 w F1 F2 b1 b2 N Q G Q' G') (t : Tab w' F1 b1 (N + 1) Q1 G1) (ho : Off F1 w w') : Tw w0 w' F1 F2 b1 b2 (N + 1) Q1 G1 Q' G' := ⟨t, (h.r.apart ho (fun k h2 h1 => h.ap k h1 h2)).more (Nat.le_succ _), h.ap, h.n1, h.n2, h.bel.trans (ho.below h.n1 h.bel.size)⟩
theorem Tw.right {Q1 : Qm} {G1 : Gm} (h : Tw w0 w F1 F2 b1 b2 N Q G Q' G') (t : Tab w' F2 b2 (N + 1) Q1 G1) (ho : Off F2 w w') : Tw w0 w' F1 F2 b1 b2 (N + 1) Q G Q1 G1 := ⟨(h.l.apart ho h.ap).more (Nat.le_succ _), t, h.ap, h.n1, h.n2, h.bel.trans (ho.below h.n2 h.bel.size)⟩
theorem tab_box {F : Nat → Prop} {b : Nat} (h : Tab w F b N Q G) : ∃ cs, w.heap[b]? = some (.cells cs 41 (0, 0)) := by
  obtain ⟨mq, mg, h1, _⟩ := h
  exact ⟨_, h1.box⟩
theorem Tw.ne (h : Tw w0 w F1 F2 b1 b2 N Q G Q' G') : b1 ≠ b2 := fun e => h.ap b1 h.l.own (by rw [e]; exact h.r.own)
theorem infoT : ∃ j, Try.prog.info? 41 = some j ∧ j.size ≠ 0 := by
  have h : (Try.prog.info? 41).map (·.size) = some 2 := by kernel_rfl
  cases hj : Try.prog.info? 41 with
  | none => rw [hj] at h; cases h
  | some j =>
    rw [hj] at h
    simp at h
    exact ⟨j, rfl, by omega⟩
theorem Tw.eqs (h : Tw w0 w F1 F2 b1 b2 N Q G Q' G') : (binOp .eql 23 (.pointer (some ⟨b1, 0, none⟩)) (.pointer (some ⟨b2, 0, none⟩))).run Try.prog w = .ok (.bool false) w ∧ (binOp .eql 23 (.pointer (some ⟨b2, 0, none⟩)) (.pointer (some ⟨b2, 0, none⟩))).run Try.prog w = .ok (.bool true) w := by
  obtain ⟨j, hj, hs⟩ := infoT
  obtain ⟨c1, h1⟩ := tab_box h.l
  obtain ⟨c2, h2⟩ := tab_box h.r
  exact ⟨run_eql_ptr_other w Try.underlying23 hj hs (fun e => h.ne (by injection e)) h1 h2, run_eql_ptr_same w _ Try.underlying23 hj⟩
theorem mod_in8 (x : Int) : ∃ r : Nat, Int.tmod (Int.tmod x 8 + 8) 8 = (r : Int) ∧ r < 8 ∧ -8 < Int.tmod x 8 ∧ Int.tmod x 8 < 8 := by
  have g : -8 < Int.tmod x 8 ∧ Int.tmod x 8 < 8 := by
    rcases Int.le_total 0 x with g | g
    · rw [Int.tmod_eq_emod_of_nonneg g]
      omega
    · have e : x.tmod 8 = -((-x).tmod 8) := by rw [Int.neg_tmod, Int.neg_neg]
      rw [e, Int.tmod_eq_emod_of_nonneg (by omega)]
      omega
  have e := Int.tmod_eq_emod_of_nonneg (a := Int.tmod x 8 + 8) (b := 8) (by omega)
  have h0 := Int.emod_nonneg (Int.tmod x 8 + 8) (show (8 : Int) ≠ 0 by omega)
  have h1 := Int.emod_lt_of_pos (Int.tmod x 8 + 8) (show (0 : Int) < 8 by omega)
  exact ⟨(Int.tmod (Int.tmod x 8 + 8) 8).toNat, by rw [e]; omega, by rw [e]; omega, g⟩
end Go.Proofs.Ytgfjhghhonaiiaa
