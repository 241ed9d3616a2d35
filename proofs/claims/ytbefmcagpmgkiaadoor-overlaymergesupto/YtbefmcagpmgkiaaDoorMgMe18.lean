/- The document's Check, Size; the law's own. -/
import Derived.Test.YtbefmcagpmgkiaaDoorMgMe17
namespace Go.Proofs.YtbefmcagpmgkiaaDoor
open Go.ChangeShapes Go.WideShapes Go.ChangeAt Go.RowKit Go.Deep
set_option linter.unusedVariables false
set_option maxRecDepth 100000 in
set_option maxHeartbeats 4000000 in
theorem rcheck_is (l : List En) (n : Nat) (hn : l.length = n) (hn2 : n ≤ 200) (hf : Brief l) (a : Option Addr) (c : Nat) (w : World) (hl : InE w a l) :
    Calls Tryd.prog 29 #[.slice a n c] w fun e w' => e = .returned (.tuple #[.int .i64 ((chk l).1 : Nat), .int .i64 (chk l).2]) ∧ Below w.heap.size w w' := by
  by_cases h64 : 64 < n
  · have e1 : (64 : Int) < (n : Int) := by omega
    have HC : Hid (chk l = (0, 3)) := by show _ = _; unfold chk; rw [if_pos (by omega)]
    rw [HC.out]
    clear hl hf hn
    go_enter Tryd.func29, Tryd.ntmps29
    go_wp2_with fail
    go_ret2
    exact ⟨rfl, Below.refl _ _⟩
  · have e1 : ¬ (64 : Int) < (n : Int) := by omega
    have HC : Hid (chk l = ck (prv l 0) 0 (l.drop 0)) := by show _ = _; unfold chk; rw [if_neg (by omega)]; rfl
    obtain ⟨r, hr⟩ : ∃ r, r = chk l := ⟨_, rfl⟩
    rw [← hr] at HC ⊢
    have KW : Hid (∀ (j : Nat) (x : En), l[j]? = some x → ∀ w', Below w.heap.size w w' → Calls Tryd.prog 50 #[.slice a n c, .int .i64 (j : Int)] w' fun e w'' => e = .returned (.int .i64 (wrg l j x)) ∧ Below w'.heap.size w' w'') := fun j x hx w' hb => rwrong_is l n hn hn2 hf a c w' (hl.keep hb) j x hx
    have HN : Hid (l.length = n) := hn
    clear hl hf hn hr
    go_enter Tryd.func29, Tryd.ntmps29
    go_wp2_with fail
    go_loopg [4] n (fun g i wr => ∃ (j : Nat), j ≤ n ∧ g = n - j ∧ i = .int .i64 j ∧ Hid (Pre l j) ∧ Hid (r = ck (prv l j) j (l.drop j)) ∧ Hid (Below w.heap.size w wr))
    case atStart => exact ⟨0, Nat.zero_le _, rfl, rfl, ⟨by simp, by simp⟩, HC, Below.refl _ _⟩
    case round =>
      obtain ⟨j, hj, rfl, rfl, HP, HR, HW⟩ := hrel
      by_cases hlt : j < n
      · have j1 : (j : Int) < (n : Int) := by omega
        obtain ⟨x, hx⟩ : ∃ x, l[j]? = some x := ⟨l[j]'(by rw [HN.out]; exact hlt), by simp [HN.out, hlt]⟩
        have K1 := KW.out j x hx wr HW.out
        have hsz := HW.out.size
        rw [wrg_is HP.out hx] at K1
        have HS : Hid (r = if fo x ≠ 0 then (j, fo x) else if fb (prv l j) x ≠ 0 then (j, fb (prv l j) x) else ck (prv l (j + 1)) (j + 1) (l.drop (j + 1))) := by
          show _ = _
          rw [HR.out, ck_step hx]
        have HX : Hid (l[j]? = some x) := hx
        clear hx
        by_cases hbad : (if fo x ≠ 0 then fo x else fb (prv l j) x) = 0
        · have h1 : fo x = 0 := by
            by_cases h : fo x = 0
            · exact h
            · rw [if_pos h] at hbad; exact hbad
          have h2 : fb (prv l j) x = 0 := by rwa [if_neg (fun h => h h1)] at hbad
          have HP2 : Hid (Pre l (j + 1)) := HP.out.next HX.out h1 h2
          have HR2 : Hid (r = ck (prv l (j + 1)) (j + 1) (l.drop (j + 1))) := by
            show _ = _
            rw [HS.out, if_neg (fun h => h h1), if_neg (fun h => h h2)]
          rw [hbad] at K1
          have K2 : Hid (Calls Tryd.prog 50 #[.slice a n c, .int .i64 (j : Int)] wr fun e w'' => e = .returned (.int .i64 0) ∧ Below wr.heap.size wr w'') := K1
          clear K1 hbad h1 h2 HS
          go_wp2_with fail
          refine K2.out.mono ?_
          rintro e w2 ⟨rfl, hb2⟩
          have B2 : Hid (Below w.heap.size w w2) := HW.out.trans (hb2.mono hsz)
          clear hb2 K2
          go_wp2_with fail
          go_roundg (n - (j + 1))
          case measure => omega
          case rel => exact ⟨j + 1, by omega, rfl, by go_num, HP2, HR2, B2⟩
        · have HR2 : Hid (r = (j, if fo x ≠ 0 then fo x else fb (prv l j) x)) := by
            show _ = _
            rw [HS.out]
            by_cases h : fo x = 0
            · have hnn : ¬ (fo x ≠ 0) := fun k => k h
              rw [if_neg hnn] at hbad
              rw [if_neg hnn, if_neg hnn, if_pos hbad]
            · rw [if_pos h, if_pos h]
          generalize (if fo x ≠ 0 then fo x else fb (prv l j) x) = q at *
          have K2 : Hid (Calls Tryd.prog 50 #[.slice a n c, .int .i64 (j : Int)] wr fun e w'' => e = .returned (.int .i64 q) ∧ Below wr.heap.size wr w'') := K1
          clear K1 HS
          go_wp2_with fail
          refine K2.out.mono ?_
          rintro e w2 ⟨rfl, hb2⟩
          have B2 : Hid (Below w.heap.size w w2) := HW.out.trans (hb2.mono hsz)
          clear hb2 K2
          go_wp2_with fail
          go_ret2
          refine ⟨?_, B2.out⟩
          rw [HR2.out]
          rfl
      · have e : j = n := by omega
        subst e
        have j1 : ¬ (j : Int) < (j : Int) := by omega
        have HR2 : Hid (r = (0, 0)) := by
          show _ = _
          rw [HR.out, List.drop_of_length_le (by rw [HN.out]; omega)]
          rfl
        go_wp2_with fail
        go_ret2
        refine ⟨?_, HW.out⟩
        rw [HR2.out]
        rfl
--if f veneerref06.Size
end Go.Proofs.YtbefmcagpmgkiaaDoor
