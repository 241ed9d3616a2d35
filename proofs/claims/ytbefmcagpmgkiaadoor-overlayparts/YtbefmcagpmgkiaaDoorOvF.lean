/- the law's own few. -/
import Derived.Test.YtbefmcagpmgkiaaDoorOvM
namespace Go.Proofs.YtbefmcagpmgkiaaDoor
open Go.ChangeShapes Go.WideShapes Go.ChangeAt Go.RowKit Go.Deep Go.Maps
set_option linter.unusedVariables false
/-- at most so many layers, of at most so many entries -/
def fewB (st : List (List En)) : Bool := decide (st.length ≤ 20) && st.all (fun l => decide (l.length ≤ 70))
set_option maxRecDepth 100000 in
set_option maxHeartbeats 4000000 in
theorem few_is (st : List (List En)) (n : Nat) (hn : st.length = n) (a : Option Addr) (c : Nat) (hn62 : n ≤ 4611686018427387904) (w : World) (hs : InS w a st) :
    Calls Tryd.prog 9 #[.slice a n c] w fun e w' => e = .returned (.bool (fewB st)) ∧ Below w.heap.size w w' := by
  have HS : Hid (InS w a st) := hs
  have HN : Hid (st.length = n) := hn
  have HB : Hid (fewB st = (decide (n ≤ 20) && st.all (fun l => decide (l.length ≤ 70)))) := by show _ = _; unfold fewB; rw [hn]
  obtain ⟨S, hS⟩ : ∃ S, S = fewB st := ⟨_, rfl⟩
  rw [← hS]
  have HSe : Hid (S = (decide (n ≤ 20) && st.all (fun l => decide (l.length ≤ 70)))) := hS.trans HB.out
  clear hs hn hS HB
  by_cases h20 : 20 < n
  · have e1 : (20 : Int) < (n : Int) := by omega
    have HF : Hid (S = false) := by show _ = _; rw [HSe.out, decide_eq_false (by omega)]; rfl
    go_enter Tryd.func9, Tryd.ntmps9
    go_wp2_with fail
    go_ret
    refine ⟨?_, Below.refl _ _⟩
    rw [HF.out]
    rfl
  · have e1 : ¬ (20 : Int) < (n : Int) := by omega
    go_enter Tryd.func9, Tryd.ntmps9
    go_wp2_with fail
    go_loopg [9] n (fun g i wr => ∃ j : Nat, j ≤ n ∧ g = n - j ∧ i = .int .i64 j ∧ wr = w ∧ Hid (∀ (i : Nat) (l : List En), i < j → st[i]? = some l → l.length ≤ 70))
    case atStart => exact ⟨0, Nat.zero_le _, rfl, rfl, rfl, fun i l hi => absurd hi (Nat.not_lt_zero _)⟩
    case round =>
      obtain ⟨j, hj, rfl, rfl, rfl, CK⟩ := hrel
      by_cases hlt : j < n
      · have j1 : (j : Int) < (n : Int) := by omega
        obtain ⟨l, hl⟩ : ∃ l, st[j]? = some l := ⟨st[j]'(by rw [HN.out]; exact hlt), by simp [HN.out, hlt]⟩
        obtain ⟨b, off, rfl, a', c', hcell, hl62⟩ : ∃ b off, a = some ⟨b, off, none⟩ ∧ ∃ a' c', wr.cell? ⟨b, off + j, none⟩ = some (.slice a' l.length c') ∧ l.length ≤ 4611686018427387904 := by
          rcases HS.out with e | ⟨b, off, h1, h2, h3⟩
          · have := HN.out; rw [e] at this; simp at this; omega
          · obtain ⟨a', c', e1, _, _, e4⟩ := h3 j l hl
            exact ⟨b, off, h1, a', c', e1, e4.1⟩
        have HL : Hid (st[j]? = some l) := hl
        clear hl
        obtain ⟨N, hN⟩ : ∃ N, l.length = N := ⟨_, rfl⟩
        have HLN : Hid (l.length = N) := hN
        rw [hN] at hcell hl62
        clear hN
        by_cases h70 : 70 < N
        · have e2 : (70 : Int) < (N : Int) := by omega
          have HF : Hid (S = false) := by
            show _ = _
            rw [HSe.out]
            have : (st.all fun l => decide (l.length ≤ 70)) = false := by
              cases hh : (st.all fun l => decide (l.length ≤ 70)) with
              | false => rfl
              | true =>
                have := List.all_eq_true.1 hh l (List.mem_of_getElem? HL.out)
                rw [HLN.out] at this
                simp at this
                omega
            rw [this, Bool.and_false]
          go_wp2_with fail
          go_ret
          refine ⟨?_, Below.refl _ _⟩
          rw [HF.out]
          rfl
        · have e2 : ¬ (70 : Int) < (N : Int) := by omega
          have CK2 : Hid (∀ (i : Nat) (l : List En), i < j + 1 → st[i]? = some l → l.length ≤ 70) := fun i l2 hi h2 => by
            by_cases hij : i = j
            · subst hij
              rw [HL.out] at h2
              cases h2
              rw [HLN.out]
              omega
            · exact CK.out i l2 (by omega) h2
          clear CK
          go_wp2_with fail
          go_roundg (n - (j + 1))
          case measure => omega
          case rel => exact ⟨j + 1, by omega, rfl, by go_num, rfl, CK2⟩
      · have ej : j = n := by omega
        subst ej
        have j1 : ¬ (j : Int) < (j : Int) := by omega
        have HF : Hid (S = true) := by
          show _ = _
          rw [HSe.out, decide_eq_true (by omega), Bool.true_and]
          refine List.all_eq_true.2 (fun l hl => ?_)
          obtain ⟨i, hi⟩ := List.getElem?_of_mem hl
          exact decide_eq_true (CK.out i l (by have := (List.getElem?_eq_some_iff.1 hi).1; rw [HN.out] at this; exact this) hi)
        go_wp2_with fail
        go_ret
        refine ⟨?_, Below.refl _ _⟩
        rw [HF.out]
        rfl
end Go.Proofs.YtbefmcagpmgkiaaDoor
