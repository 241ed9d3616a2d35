/- trail.Up. -/
import Derived.Test.YtbefmcagpmgkiaaDoorTrlG1
namespace Go.Proofs.YtbefmcagpmgkiaaDoor
open Go.ChangeShapes Go.WideShapes Go.ChangeAt Go.RowKit Go.Deep
set_option linter.unusedVariables false
theorem up_is (L : Tx) (hl : L.length ≤ 281474976710656) (w : World) :
    Calls Tryd.prog 24 #[.string (tx L)] w fun e w' => e = .returned (.tuple #[.string (tx (jn (prt L).dropLast)), .bool (!(prt L).isEmpty)]) ∧ Below w.heap.size w w' := by
  have K : Hid (Calls Tryd.prog 25 #[.string (tx L)] w fun e w' => ∃ v, e = .returned v ∧ Sl w' w.heap.size v (prt L) ∧ Below w.heap.size w w') := parts_is L hl w
  have HF : Hid ((∀ p ∈ prt L, isPart p = true) ∧ (prt L).length ≤ 8) := prt_facts L
  generalize prt L = l at *
  go_enter Tryd.func24, Tryd.ntmps24
  go_wp2_with fail
  refine K.out.mono ?_
  rintro e w' ⟨v, rfl, hs, hw⟩
  have HW : Hid (Below w.heap.size w w') := hw
  rcases hs with ⟨rfl, rfl⟩ | ⟨g, hg1, hg2, rfl, hg⟩
  · clear hw K
    go_wp2_with fail
    go_ret2
    exact ⟨rfl, HW.out⟩
  · have HG : Hid (w'.heap[g]? = some (.cells (sA l) 9)) := hg
    clear hw K hg
    by_cases h0 : l = []
    · subst h0
      go_wp2_with fail
      go_ret2
      exact ⟨rfl, HW.out⟩
    · have hlp : 0 < l.length := List.length_pos_iff.2 h0
      have h8 := HF.out.2
      have HIE : Hid (l.isEmpty = false) := by show _ = _; simp [h0]
      have hd : l.dropLast.length = l.length - 1 := List.length_dropLast
      have hpl : ∀ p ∈ l.dropLast, isPart p = true := fun p hp => HF.out.1 p (List.dropLast_subset _ hp)
      have hjl := jn_le8 hpl (by omega)
      have KJ : Hid (Calls Tryd.prog 41 #[.slice (some ⟨g, 0, none⟩) (l.length - 1) l.length, .string ⟨#[47]⟩] w' fun e w2 => e = .returned (.string (tx (jn l.dropLast))) ∧ Below w'.heap.size w' w2) :=
        join_is g 0 l.length l.dropLast (l.length - 1) hd w' (fun j x hx => by
          rw [Nat.zero_add]
          refine Sl.cell (base := 0) (n := 0) (c := 0) HG.out j x ?_
          have hj := (List.getElem?_eq_some_iff.1 hx).1
          rw [List.dropLast_eq_take, List.getElem?_take] at hx
          split at hx
          · exact hx
          · simp at hx) hg2 (by omega) (by omega) (by omega)
      have i1 : ¬ ((l.length : Nat) : Int) = 0 := by omega
      have i2 : (0 : Int) ≤ ((l.length : Nat) : Int) - 1 := by omega
      have i3 : ((l.length : Nat) : Int) - 1 ≤ ((l.length : Nat) : Int) := by omega
      have i4 : (((l.length : Nat) : Int) - 1).toNat = l.length - 1 := by omega
      clear hpl hjl h0
      go_wp2_with fail
      refine KJ.out.mono ?_
      rintro e w2 ⟨rfl, hb2⟩
      have B2 : Hid (Below w.heap.size w w2) := HW.out.trans (hb2.mono HW.out.size)
      clear hb2 KJ
      go_wp2_with fail
      go_ret2
      refine ⟨?_, B2.out⟩
      rw [HIE.out]
      rfl
end Go.Proofs.YtbefmcagpmgkiaaDoor
