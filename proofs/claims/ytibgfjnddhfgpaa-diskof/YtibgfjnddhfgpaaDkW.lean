/- Disks that a call made: Write. -/
import Derived.Test.YtibgfjnddhfgpaaDkU
namespace Go.Proofs.Ytibgfjnddhfgpaa
open Go.ChangeShapes Go.WideShapes Go.ChangeAt Go.RowKit Go.Deep Go.Maps
set_option linter.unusedVariables false
set_option maxHeartbeats 4000000 in
theorem write_ref (w : World) (b g n c mb : Nat) (up : Bool) (done fuse : Int) (hn : 1 ≤ n) (h : D5 w b g n c mb up done fuse) (i : Int) (u : Value) (hr : rdyAt up n i ≠ 0) : Calls Try.prog 12 #[.pointer (some ⟨b, 0, none⟩), .int .i64 i, u] w fun e w' => e = .returned (.int .i64 (rdyAt up n i)) ∧ w' = w := by
  have K : Hid (Calls Try.prog 33 #[.pointer (some ⟨b, 0, none⟩), .int .i64 i] w fun e w' => e = .returned (.int .i64 (rdyAt up n i)) ∧ w' = w) := readyAt_is w b g n c mb up done fuse hn h i
  obtain ⟨c0, c1, c2, c3, c4⟩ := h
  generalize rdyAt up n i = r at *
  have e1 : (r == 0) = false := by rw [beq_eq_false_iff_ne]; exact hr
  go_enter Try.func12, Try.ntmps12
  go_wp2_with fail
  refine K.out.mono ?_
  rintro e w1 ⟨rfl, rfl⟩
  go_wp2_with fail
  go_ret
  exact ⟨rfl, rfl⟩
set_option maxHeartbeats 4000000 in
theorem write_len (w : World) (b g n c mb : Nat) (up : Bool) (done fuse : Int) (hn : 1 ≤ n) (h : D5 w b g n c mb up done fuse) (i : Int) (a : Option Addr) (l cp : Nat) (hr : rdyAt up n i = 0) (hl : l ≠ 64) : Calls Try.prog 12 #[.pointer (some ⟨b, 0, none⟩), .int .i64 i, .slice a l cp] w fun e w' => e = .returned (.int .i64 2) ∧ w' = w := by
  have K : Hid (Calls Try.prog 33 #[.pointer (some ⟨b, 0, none⟩), .int .i64 i] w fun e w' => e = .returned (.int .i64 0) ∧ w' = w) := hr ▸ readyAt_is w b g n c mb up done fuse hn h i
  obtain ⟨c0, c1, c2, c3, c4⟩ := h
  have e1 : ((l : Int) == 64) = false := by rw [beq_eq_false_iff_ne]; omega
  go_enter Try.func12, Try.ntmps12
  go_wp2_with fail
  refine K.out.mono ?_
  rintro e w1 ⟨rfl, rfl⟩
  go_wp2_with fail
  go_ret
  exact ⟨rfl, rfl⟩
set_option maxHeartbeats 4000000 in
theorem write_out (w : World) (h b N : Nat) (D : List (List Int)) (W : Int → List (List Int)) (done : Int) (gd cd mb : Nat) (T : Int → Option Hd) (hd : 0 ≤ done ∧ done < 9223372036854775807) (hn : 1 ≤ D.length) (H : DkP w h b N D W true done 0 gd cd mb T) (i : Int) (hi : 0 ≤ i ∧ i < D.length) (a : Option Addr) (cp : Nat) :
    Calls Try.prog 12 #[.pointer (some ⟨b, 0, none⟩), .int .i64 i, .slice a 64 cp] w fun e w' => e = .returned (.int .i64 15) ∧ w.grownBy w' (some b) ∧ DkP w' h b N D W false done 0 gd cd mb T := by
  have hc := H.cell
  have h5 := d5_of hc
  have K : Hid (Calls Try.prog 33 #[.pointer (some ⟨b, 0, none⟩), .int .i64 i] w fun e w' => e = .returned (.int .i64 0) ∧ w' = w) := (show rdyAt true D.length i = 0 by simp [rdyAt]; omega) ▸ readyAt_is w b gd D.length cd mb true done 0 hn h5 i
  have KB : Hid (Calls Try.prog 34 #[.pointer (some ⟨b, 0, none⟩)] w fun e w' => ∃ k, e = .returned (.int .i64 k) ∧ BurnSaid w w' h b N D W done 0 gd cd mb T k) := burn_is w h b N D W done 0 gd cd mb T (by omega) hd H
  clear hc h5 H hd hi hn
  go_enter Try.func12, Try.ntmps12
  go_wp2_with fail
  refine K.out.mono ?_
  rintro e w1 ⟨rfl, rfl⟩
  go_wp2_with fail
  refine KB.out.mono ?_
  rintro e w2 ⟨k, rfl, hg, hs⟩
  rcases hs with ⟨_, rfl, hs⟩ | ⟨x, _⟩
  · have HS : Hid (DkP w2 h b N D W false done 0 gd cd mb T) := hs
    have HG : Hid (w1.grownBy w2 (some b)) := hg
    clear hs hg K KB
    go_wp2_with fail
    go_ret
    exact ⟨rfl, HG.out, HS.out⟩
  · exact absurd rfl x
end Go.Proofs.Ytibgfjnddhfgpaa
