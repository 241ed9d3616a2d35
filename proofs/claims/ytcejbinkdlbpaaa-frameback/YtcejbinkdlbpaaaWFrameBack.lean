/- The walk of FrameBack. -/
import Derived.Test.YtcejbinkdlbpaaaFrmP
import Derived.Test.YtcejbinkdlbpaaaFrmQ
namespace Go.Proofs.Ytcejbinkdlbpaaa
open Go.ChangeShapes Go.WideShapes Go.ChangeAt Go.RowKit Go.Deep
set_option linter.unusedVariables false
theorem back_big (a : Option Addr) (len cap : Nat) (a1 : Option Addr) (len1 cap1 : Nat) (w : World) (h : 4096 < len) (hn : len ≤ 140737488351232) :
    Calls Try.prog 5 #[.slice a len cap, .slice a1 len1 cap1] w fun e w' => e = .returned (.bool true) ∧ Below w.heap.size w w' := by
  have e1 : decide ((4096 : Int) < (len : Int)) = true := by simp; omega
  go_enter Try.func5, Try.ntmps5
  go_wp2_with (first | (go_at_call 9; refine (frame_big _ _ _ _ h (by omega)).mono ?_; rintro e w' ⟨rfl, hw⟩; obtain rfl := hw.symm; clear hw) | (go_at_call 13; refine (works_true _).mono ?_; rintro e w' ⟨rfl, hb⟩))
  go_ret
  exact ⟨rfl, by assumption⟩
set_option maxHeartbeats 1000000 in
theorem back_ok (a : Option Addr) (len cap : Nat) (a1 : Option Addr) (len1 cap1 : Nat) (L L1 : List Int) (w : World) (h : len ≤ 4096)
    (hlen : L.length = len) (hh : Holds w a L) (hb : IsBytes L) (hcap : a = none → cap = 0) (hlt : ∀ x, a = some x → L ≠ [] → x.block < w.heap.size)
    (hlen1 : L1.length = len1) (hh1 : Holds w a1 L1) (hb1 : IsBytes L1) (hcap1 : a1 = none → cap1 = 0) (hreach1 : len1 ≤ 140737488351232) (hlt1 : ∀ x, a1 = some x → L1 ≠ [] → x.block < w.heap.size) :
    Calls Try.prog 5 #[.slice a len cap, .slice a1 len1 cap1] w fun e w' => e = .returned (.bool true) ∧ Below w.heap.size w w' := by
  have e1 : decide ((len : Int) ≤ 4096) = true := by simp; omega
  have HL : Hid (Holds w a L) := hh
  have HC : Hid (a = none → cap = 0) := hcap
  have HT : Hid (∀ x, a = some x → L ≠ [] → x.block < w.heap.size) := hlt
  have HB : Hid (IsBytes L) := hb
  have HL1 : Hid (Holds w a1 L1) := hh1
  have HC1 : Hid (a1 = none → cap1 = 0) := hcap1
  have HT1 : Hid (∀ x, a1 = some x → L1 ≠ [] → x.block < w.heap.size) := hlt1
  have HB1 : Hid (IsBytes L1) := hb1
  have HRD : Hid (rd (frameL L ++ L1) = (L, 8 + len, 0)) := by show rd _ = _; rw [rd_frame L L1 (by omega), hlen]
  have HFL : Hid ((frameL L).length = 8 + len) := by show (frameL L).length = _; rw [frameL_length, hlen]
  clear hh hb hcap hlt hh1 hb1 hcap1 hlt1
  go_enter Try.func5, Try.ntmps5
  go_wp2_with fail
  refine (frame_ok w a len cap L hlen h HB.out HL.out HC.out HT.out).mono ?_
  rintro e w2 ⟨a2, N, c2, rfl, hN, ho2, hb2⟩
  have eN : N = 8 + len := by rw [← hN, HFL.out]
  subst eN
  have O2 : Hid (Owned w2 w.heap.size (.slice a2 (8 + len) c2) (frameL L)) := ho2
  have B2 : Hid (Below w.heap.size w w2) := hb2
  have hs2 := hb2.size
  clear hN ho2 hb2
  have own0 : Hid (Owned (w2.alloc (.cells #[] 5)) w.heap.size (.slice (some ⟨w2.heap.size, 0, none⟩) 0 0) []) := owned_empty w2 w.heap.size hs2
  have hF : Hid (Holds (w2.alloc (.cells #[] 5)) a2 (frameL L)) := (O2.out.alloc _).holds.1
  go_wp2_with (first | (at_builtin; refine append_bytes rfl (.tmp 33) (.tmp 34) rfl w.heap.size _ [] rfl own0.out _ _ _ (frameL L) rfl HFL.out hF.out O2.out.holds.2.2 (8 + len) (by simp) (by omega) (by simp; omega) ?_; intro a3 c3 w3 hown3 hbel3; have O3 : Hid (Owned w3 w.heap.size (.slice a3 (8 + len) c3) (frameL L)) := hown3; have B3 : Hid (Below w.heap.size w w3) := (B2.out.trans (((Below.refl _ _).alloc (by omega) _).trans hbel3)); have hs3 : w.heap.size ≤ w3.heap.size := B3.out.size; clear hown3 hbel3) | (at_builtin; refine append_far2 rfl (.tmp 35) (.tmp 36) rfl w.heap.size _ (8 + len) _ (frameL L) rfl O3.out (by omega) _ _ _ L1 rfl hlen1 (HL1.out.below B3.out HT1.out) HC1.out (8 + len + len1) rfl (by omega) hs3 ?_; intro a4 c4 w4 hown4 hbel4; have O4 : Hid (Owned w4 w.heap.size (.slice a4 (8 + len + len1) c4) (frameL L ++ L1)) := hown4; have B4 : Hid (Below w.heap.size w w4) := (B3.out.trans hbel4); have hs4 : w.heap.size ≤ w4.heap.size := B4.out.size; clear hown4 hbel4))
  refine (read_own O4.out (bytes_app (frameL_bytes HB.out) HB1.out) (by omega)).mono ?_
  rintro e w5 ⟨a5, m, rfl, hm, ho5, hb5⟩
  rw [HRD.out] at hm ho5 ⊢
  have em : m = len := by rw [← hm]; exact hlen
  subst em
  have B5 : Hid (Below w.heap.size w w5) := B4.out.trans (hb5.mono hs4)
  have cR := conv_str ho5.holds.1 m m hlen
  have cL := conv_str (HL.out.below B5.out HT.out) m cap hlen
  have hs5 : w.heap.size ≤ w5.heap.size := B5.out.size
  clear hm ho5 hb5
  have e8 : ((8 : Int) + (m : Int) == (m : Int) + 8) = true := by rw [Int.add_comm]; simp
  generalize strOfNums L = sL at *
  go_wp2_with (go_at_call 13; refine (works_true _).mono ?_; rintro e w6 ⟨rfl, hwk⟩)
  go_ret
  exact ⟨rfl, B5.out.trans (hwk.mono hs5)⟩
theorem frameBack_walk (a : Option Addr) (len cap : Nat) (zs : List Int) (a1 : Option Addr) (len1 cap1 : Nat) (zs1 : List Int) (w : World) (w0 : IsRow .u8 w a len cap zs) (w1 : IsRow .u8 w a1 len1 cap1 zs1) :
    Calls Try.prog 5 #[.slice a len cap, .slice a1 len1 cap1] w fun e w' => e = .returned (.bool true) ∧ Below w.heap.size w w' := by
  obtain ⟨L, hL, hlen, hh, hb, hcap, hreach, hlt, hlc, hcm⟩ := w0.holds
  obtain ⟨L1, hL1, hlen1, hh1, hb1, hcap1, hreach1, hlt1, hlc1, hcm1⟩ := w1.holds
  by_cases h : len ≤ 4096
  · exact back_ok a len cap a1 len1 cap1 L L1 w h hlen hh hb hcap hlt hlen1 hh1 hb1 hcap1 hreach1 hlt1
  · exact back_big a len cap a1 len1 cap1 w (by omega) hreach
end Go.Proofs.Ytcejbinkdlbpaaa
