/- trail.isPath, Parts. -/
import Derived.Test.YtbefmcagpmgkiaaDoorTrlF
namespace Go.Proofs.YtbefmcagpmgkiaaDoor
open Go.ChangeShapes Go.WideShapes Go.ChangeAt Go.RowKit Go.Deep
set_option linter.unusedVariables false
theorem isPath_is (L : Tx) (hl : L.length ≤ 281474976710656) (w : World) :
    Calls Tryd.prog 42 #[.string (tx L)] w fun e w' => e = .returned (.bool (isP L)) ∧ Below w.heap.size w w' := by
  have K : Hid (Calls Tryd.prog 33 #[.string (tx L)] w fun e w' => e = .returned (.tuple #[.string (tx (cln L).1), .int .i64 (cln L).2]) ∧ Below w.heap.size w w') := clean_is L hl w
  have HI : Hid (isP L = (decide ((cln L).2 = 0) && decide ((cln L).1 = L))) := by
    show _ = _
    rw [Bool.eq_iff_iff, isP_iff, Bool.and_eq_true, decide_eq_true_iff, decide_eq_true_iff]
    constructor
    · intro h; rw [h]; exact ⟨rfl, rfl⟩
    · rintro ⟨h1, h2⟩; exact Prod.ext h2 h1
  have t1 := tx_toList (cln L).1
  have t2 := tx_toList L
  rw [HI.out]
  generalize (cln L).1 = P at *
  generalize (cln L).2 = x at *
  by_cases hx : x = 0
  · subst hx
    have e1 : (P == L) = decide (P = L) := by rw [Bool.eq_iff_iff, beq_iff_eq, decide_eq_true_iff]
    go_enter Tryd.func42, Tryd.ntmps42
    go_wp2_with (go_at_call 33; refine K.out.mono ?_; rintro e w' ⟨rfl, hw⟩)
    go_ret
    refine ⟨?_, hw⟩
    rfl
  · have hd : decide (x = 0) = false := by simp [hx]
    rw [hd]
    go_enter Tryd.func42, Tryd.ntmps42
    go_wp2_with (go_at_call 33; refine K.out.mono ?_; rintro e w' ⟨rfl, hw⟩)
    go_ret
    exact ⟨rfl, hw⟩
/-- a slice of texts in a block of its own, new since 'base': these -/
def Sl (w : World) (base : Nat) (v : Value) (l : List Tx) : Prop :=
  (v = .slice none 0 0 ∧ l = []) ∨ ∃ g, base ≤ g ∧ g < w.heap.size ∧ v = .slice (some ⟨g, 0, none⟩) l.length l.length ∧ w.heap[g]? = some (.cells (sA l) 9)
theorem Sl.below {w w' : World} {base : Nat} {v : Value} {l : List Tx} (h : Sl w base v l) (hb : Below w.heap.size w w') : Sl w' base v l := by
  rcases h with h | ⟨g, h1, h2, h3, h4⟩
  · exact .inl h
  · exact .inr ⟨g, h1, Nat.lt_of_lt_of_le h2 hb.size, h3, (hb.block g h2).trans h4⟩
theorem Sl.cell {w : World} {base g : Nat} {n c : Nat} {l : List Tx} (h : w.heap[g]? = some (.cells (sA l) 9)) (j : Nat) (x : Tx) (hx : l[j]? = some x) : w.cell? ⟨g, j, none⟩ = some (.string (tx x)) := by
  rw [cell_of_row w g j _ _ (0, 0) h]
  exact sA_get l j x hx
theorem isP_len {L : Tx} (h : isP L = true) : L.length ≤ 200 := by
  have h1 := (isP_iff L).1 h
  rcases cln_cases L with ⟨l, e, h2, h3, _⟩ | e | e
  · rw [h1] at e
    rw [(Prod.mk.inj e).1]
    exact jn_len l h3 (fun p hp => ((isPart_iff p).1 (h2 p hp)).2.2.1)
  · rw [h1] at e; simp at e
  · rw [h1] at e; simp at e
theorem parts_is (L : Tx) (hl : L.length ≤ 281474976710656) (w : World) :
    Calls Tryd.prog 25 #[.string (tx L)] w fun e w' => ∃ v, e = .returned v ∧ Sl w' w.heap.size v (prt L) ∧ Below w.heap.size w w' := by
  have K : Hid (Calls Tryd.prog 42 #[.string (tx L)] w fun e w' => e = .returned (.bool (isP L)) ∧ Below w.heap.size w w') := isPath_is L hl w
  have t1 := tx_toList L
  by_cases h0 : L = []
  · have HP : Hid (prt L = []) := by show _ = _; rw [prt, if_neg (by simp [h0])]
    have e1 : (L == []) = true := by simp [h0]
    clear h0
    go_enter Tryd.func25, Tryd.ntmps25
    go_wp2_with fail
    go_ret
    exact ⟨_, rfl, .inl ⟨rfl, HP.out⟩, Below.refl _ _⟩
  · have e1 : (L == []) = false := by simp [h0]
    cases hp : isP L with
    | false =>
      have HP : Hid (prt L = []) := by show _ = _; rw [prt, if_neg (by simp [hp])]
      rw [hp] at K
      clear h0 hp
      go_enter Tryd.func25, Tryd.ntmps25
      go_wp2_with fail
      refine K.out.mono ?_
      rintro e w' ⟨rfl, hw⟩
      go_wp2_with fail
      go_ret
      exact ⟨_, rfl, .inl ⟨rfl, HP.out⟩, hw⟩
    | true =>
      have HP : Hid (prt L = pcs L) := by show _ = _; rw [prt, if_pos ⟨h0, hp⟩]
      have hlen := isP_len hp
      have KS : Hid (∀ w : World, Calls Tryd.prog 43 #[.string (tx L), .string ⟨#[47]⟩] w fun e w' => e = .returned (.slice (some ⟨w.heap.size, 0, none⟩) (pcs L).length (pcs L).length) ∧ w' = w.alloc (.cells (sA (pcs L)) 9)) := split_is L (by omega)
      rw [hp] at K
      clear h0 hp
      go_enter Tryd.func25, Tryd.ntmps25
      go_wp2_with fail
      refine K.out.mono ?_
      rintro e w' ⟨rfl, hw⟩
      have HW : Hid (Below w.heap.size w w') := hw
      clear hw
      go_wp2_with fail
      refine (KS.out _).mono ?_
      rintro e w2 ⟨rfl, hw2⟩
      obtain rfl := hw2.symm
      clear hw2
      go_wp2_with fail
      go_ret
      refine ⟨_, rfl, .inr ⟨w'.heap.size, HW.out.size, by simp, by rw [HP.out]; rfl, ?_⟩, HW.out.alloc HW.out.size _⟩
      rw [HP.out]
      exact heap_alloc_new w' _
theorem prt_facts (L : Tx) : (∀ p ∈ prt L, isPart p = true) ∧ (prt L).length ≤ 8 := by
  unfold prt
  split
  · rename_i h
    have h1 := h.2
    unfold isP at h1
    simp only [Bool.or_eq_true, Bool.and_eq_true, List.all_eq_true, decide_eq_true_eq, List.isEmpty_iff] at h1
    rcases h1 with e | ⟨h1, h2⟩
    · exact absurd e h.1
    · exact ⟨h1, h2⟩
  · simp
theorem jn_le8 {l : List Tx} (h : ∀ p ∈ l, isPart p = true) (h8 : l.length ≤ 8) : (jn l).length ≤ 200 := jn_len l h8 (fun p hp => ((isPart_iff p).1 (h p hp)).2.2.1)
end Go.Proofs.YtbefmcagpmgkiaaDoor
