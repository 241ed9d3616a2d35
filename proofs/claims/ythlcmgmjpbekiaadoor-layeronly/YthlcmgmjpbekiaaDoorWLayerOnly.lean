/- LayerOnly's walk. -/
import Derived.Test.YthlcmgmjpbekiaaDoorLayJ
import Derived.Test.YthlcmgmjpbekiaaDoorLayE
namespace Go.Proofs.YthlcmgmjpbekiaaDoor
open Go.ChangeShapes Go.WideShapes Go.ChangeAt Go.RowKit Go.Deep
set_option linter.unusedVariables false
set_option maxRecDepth 100000 in
set_option maxHeartbeats 4000000 in
theorem layerOnly_walk (a : Option Addr) (n c : Nat) (zs : List Int) (w : World) (hw : IsRow .u8 w a n c zs) :
    Calls Tryd.prog 6 #[.slice a n c] w fun e w' => e = .returned (.bool true) ∧ Below w.heap.size w w' := by
  obtain ⟨L, _, hl, hh, hB, hnone, hn47, hlt, hnc, hc47⟩ := hw.holds
  clear hw
  have KD : Hid (Calls Tryd.prog 18 #[.slice a n c] w (DSaid w L)) := decode_is w n c a L hl hB hh hlt hnc (by omega) (by omega)
  have KW : Hid (∀ w, Calls Tryd.prog 15 #[] w fun e w' => e = .returned (.bool true) ∧ Below w.heap.size w w') := works_is
  have HH : Hid (Holds w a L) := hh
  have HLT : Hid (∀ x, a = some x → L ≠ [] → x.block < w.heap.size) := hlt
  cases hd : dec L with
  | none =>
    go_enter Tryd.func6, Tryd.ntmps6
    go_wp2_with fail
    refine KD.out.mono ?_
    rintro e w1 ⟨hb1, hm⟩
    rw [hd] at hm
    subst hm
    have B1 : Hid (Below w.heap.size w w1) := hb1
    clear hb1 hd KD hh hlt
    go_wp2_with fail
    refine (KW.out _).mono ?_
    rintro e w2 ⟨rfl, hb2⟩
    have B2 : Hid (Below w.heap.size w w2) := B1.out.trans (hb2.mono B1.out.size)
    clear hb2
    go_wp2_with fail
    go_ret
    exact ⟨rfl, B2.out⟩
  | some l =>
    obtain ⟨hck, henc⟩ := dec_some hB hd
    obtain ⟨h64, hfo, _⟩ := (chk_iff l).1 hck
    have hfit : Fit l := fun x hx => by
      obtain ⟨⟨_, hp⟩, _, _, _, h5⟩ := fo_all (hfo x hx)
      have := isP_len hp
      omega
    go_enter Tryd.func6, Tryd.ntmps6
    go_wp2_with fail
    refine KD.out.mono ?_
    rintro e w1 ⟨hb1, hm⟩
    rw [hd] at hm
    obtain ⟨v, rfl, hown⟩ := hm
    obtain ⟨av, cv, rfl, hin, hlc, hcc, _⟩ := hown.slice
    have B1 : Hid (Below w.heap.size w w1) := hb1
    have KE : Hid (Calls Tryd.prog 16 #[.slice av l.length cv] w1 fun e w' => ∃ v, e = .returned (.tuple #[v, .int .i64 0]) ∧ Owned w' w1.heap.size v (enc l) ∧ Below w1.heap.size w1 w') := encode_ok l l.length rfl hfit av cv w1 hin hck
    have KC : Hid (∀ w2, Below w1.heap.size w1 w2 → Calls Tryd.prog 10 #[.slice av l.length cv] w2 fun e w' => e = .returned (.tuple #[.int .i64 (0 : Nat), .int .i64 0]) ∧ Below w2.heap.size w2 w') := by
      intro w2 hb
      have := check_is l l.length rfl (by omega) hfit av cv w2 (hin.keep hb)
      rw [chk_zero l hck] at this
      exact this
    rw [henc] at KE
    clear hb1 hd KD hown hin hfit hfo hck henc hh hlt
    go_wp2_with fail
    refine KE.out.mono ?_
    rintro e w2 ⟨v2, rfl, ho2, hb2⟩
    have B2 : Hid (Below w.heap.size w w2) := B1.out.trans (hb2.mono B1.out.size)
    have HB2 : Hid (Below w1.heap.size w1 w2) := hb2
    have O2 : Hid (Owned w2 w1.heap.size v2 L) := ho2
    clear hb2 ho2 KE
    go_wp2_with fail
    refine (KC.out _ HB2.out).mono ?_
    rintro e w3 ⟨rfl, hb3⟩
    have B3 : Hid (Below w.heap.size w w3) := B2.out.trans (hb3.mono B2.out.size)
    obtain ⟨a2, c2, e2, _, hh2, _⟩ := (O2.out.keep hb3).slice
    rw [hl] at e2
    subst e2
    have cs1 := conv_str hh2 n c2 hl
    have cs2 := conv_str (HH.out.below B3.out HLT.out) n c hl
    have eqs : ((strOfNums L).toList == (strOfNums L).toList) = true := by simp
    clear hb3 KC O2 hh2
    generalize strOfNums L = S at *
    go_wp2_with fail
    refine (KW.out _).mono ?_
    rintro e w4 ⟨rfl, hb4⟩
    have B4 : Hid (Below w.heap.size w w4) := B3.out.trans (hb4.mono B3.out.size)
    clear hb4
    go_wp2_with fail
    go_ret
    exact ⟨rfl, B4.out⟩
end Go.Proofs.YthlcmgmjpbekiaaDoor
