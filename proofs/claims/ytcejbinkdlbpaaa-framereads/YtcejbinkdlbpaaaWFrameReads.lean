/- The walk of FrameReads. -/
import Derived.Test.YtcejbinkdlbpaaaFrmT
import Derived.Test.YtcejbinkdlbpaaaFrmQ
namespace Go.Proofs.Ytcejbinkdlbpaaa
open Go.ChangeShapes Go.WideShapes Go.ChangeAt Go.RowKit Go.Deep
set_option linter.unusedVariables false
/-- what Frame tells of bytes, and its error -/
def fb (L : List Int) : List Int := if L.length ≤ 4096 then frameL L else []
def fe (L : List Int) : Int := if L.length ≤ 4096 then 0 else 3
theorem frame_any (w : World) (a : Option Addr) (n c : Nat) (L : List Int) (hl : L.length = n) (hn : n ≤ 4611686018427387904) (hB : IsBytes L) (hh : Holds w a L) (hc : a = none → c = 0) (hlt : ∀ x, a = some x → L ≠ [] → x.block < w.heap.size) :
    Calls Try.prog 9 #[.slice a n c] w fun e w' => ∃ a' N c', e = .returned (.tuple #[.slice a' N c', .int .i64 (fe L)]) ∧ (fb L).length = N ∧ Owned w' w.heap.size (.slice a' N c') (fb L) ∧ Below w.heap.size w w' := by
  by_cases h : n ≤ 4096
  · have e1 : fb L = frameL L := by unfold fb; rw [if_pos (by omega)]
    have e2 : fe L = 0 := by unfold fe; rw [if_pos (by omega)]
    rw [e1, e2]
    exact frame_ok w a n c L hl h hB hh hc hlt
  · have e1 : fb L = [] := by unfold fb; rw [if_neg (by omega)]
    have e2 : fe L = 3 := by unfold fe; rw [if_neg (by omega)]
    rw [e1, e2]
    refine (frame_big w a n c (by omega) hn).mono ?_
    rintro e w' ⟨rfl, rfl⟩
    exact ⟨none, 0, 0, rfl, rfl, World.ownsRow_nil _ _ _ _, Below.refl _ _⟩
theorem rframe_any (L : List Int) (n : Nat) (hn : L.length = n) (hb : IsBytes L) (w : World) :
    Calls Try.prog 10 #[.string (strOfNums L)] w fun e w' => e = .returned (.tuple #[.string (strOfNums (fb L)), .int .i64 (fe L)]) ∧ Below w.heap.size w w' := by
  by_cases h : n ≤ 4096
  · have e1 : fb L = frameL L := by unfold fb; rw [if_pos (by omega)]
    have e2 : fe L = 0 := by unfold fe; rw [if_pos (by omega)]
    rw [e1, e2]
    exact rframe_ok L n hn h hb w
  · have e1 : fb L = [] := by unfold fb; rw [if_neg (by omega)]
    have e2 : fe L = 3 := by unfold fe; rw [if_neg (by omega)]
    rw [e1, e2]
    refine (rframe_big (strOfNums L) (by rw [strOfNums_size]; omega) w).mono ?_
    rintro e w' ⟨rfl, rfl⟩
    exact ⟨rfl, Below.refl _ _⟩
set_option maxHeartbeats 1000000 in
theorem frameReads_walk (a : Option Addr) (len cap : Nat) (zs : List Int) (w : World) (w0 : IsRow .u8 w a len cap zs) :
    Calls Try.prog 3 #[.slice a len cap] w fun e w' => e = .returned (.bool true) ∧ Below w.heap.size w w' := by
  obtain ⟨L, hL, hlen, hh, hb, hcap, hreach, hlt, hlc, hcm⟩ := w0.holds
  have HL : Hid (Holds w a L) := hh
  have HC : Hid (a = none → cap = 0) := hcap
  have HT : Hid (∀ x, a = some x → L ≠ [] → x.block < w.heap.size) := hlt
  have HB : Hid (IsBytes L) := hb
  clear w0 hL hh hcap hlt hb
  go_enter Try.func3, Try.ntmps3
  go_wp2_with (first | (at_builtin; refine append_bytes rfl (.tmp 14) (.tmp 15) rfl w.heap.size _ [] rfl (owned_empty w w.heap.size (Nat.le_refl _)) _ _ _ L rfl hlen (HL.out.below ((Below.refl _ _).alloc (Nat.le_refl _) _) HT.out) HC.out len (by simp) (by omega) (by simp) ?_; intro a3 c3 w3 hown3 hbel3; have OWN3 : Hid (Owned w3 w.heap.size (.slice a3 len c3) ([] ++ L)) := hown3; have B3 : Hid (Below w.heap.size _ w3) := hbel3; have hs3 : w.heap.size + 1 ≤ w3.heap.size := (by have := hbel3.size; simp at this; omega); clear hown3 hbel3) | (at_builtin; refine append_bytes rfl (.tmp 16) (.tmp 17) rfl w.heap.size _ ([] ++ L) rfl (OWN3.out.alloc _) _ _ _ [90] rfl rfl (holds_one w3 90) (fun h => by simp at h) (len + 1) (by simp [hlen]) (by omega) (by simp; omega) ?_; intro a4 c4 w4 hown4 hbel4; have OWN4 : Hid (Owned w4 w.heap.size (.slice a4 (len + 1) c4) ([] ++ L ++ [90])) := hown4; have B4 : Hid (Below w.heap.size _ w4) := hbel4; have hs4 : w3.heap.size + 1 ≤ w4.heap.size := (by have := hbel4.size; simp at this; omega); obtain ⟨hc4, hc5⟩ := hown4.cap; clear hown4 hbel4))
  have hO := OWN4.out.holds
  rw [List.nil_append] at hO
  have HP : Hid (Holds w4 a4 (L ++ [90])) := hO.1
  have HPC : Hid (a4 = none → c4 = 0) := hO.2.2
  have HPN : Hid ((L ++ [90]).length = len + 1) := hO.2.1
  have HPT : Hid (∀ x, a4 = some x → x.block < w4.heap.size) := fun x hx => OWN4.out.lt_size x hx
  have B : Hid (Below w.heap.size w w4) := ((Below.refl _ _).alloc (Nat.le_refl _) _).trans (B3.out.trans (((Below.refl _ _).alloc (by omega) _).trans B4.out))
  have hw4 : w.heap.size ≤ w4.heap.size := B.out.size
  clear hO OWN3 OWN4 B3 B4
  refine (frame_any w4 a4 len c4 L hlen (by omega) HB.out HP.out.pre HPC.out (fun x hx _ => HPT.out x hx)).mono ?_
  rintro e w5 ⟨a5, N5, c5, rfl, hN5, ho5, hb5⟩
  have X5 : Hid (Holds w5 a5 (fb L)) := ho5.holds.1
  have X5T : Hid (∀ x, a5 = some x → x.block < w5.heap.size) := fun x hx => ho5.lt_size x hx
  have B5 : Hid (Below w4.heap.size w4 w5) := hb5
  have hw5 := hb5.size
  have cL5 := conv_str (HL.out.below (B.out.trans (hb5.mono hw4)) HT.out) len cap hlen
  clear ho5 hb5
  obtain ⟨sL, hsL⟩ : ∃ s, strOfNums L = s := ⟨_, rfl⟩
  have HSL : Hid (strOfNums L = sL) := hsL
  rw [hsL] at cL5
  clear hsL
  go_wp2_with fail
  rw [← HSL.out]
  refine (rframe_any L len hlen HB.out w5).mono ?_
  rintro e w6 ⟨rfl, hb6⟩
  rw [HSL.out]
  have B6 : Hid (Below w5.heap.size w5 w6) := hb6
  have hw6 := hb6.size
  have B46 : Hid (Below w4.heap.size w4 w6) := B5.out.trans (hb6.mono hw5)
  clear hb6 cL5
  go_wp2_with fail
  refine (read_is w6 len c4 a4 L hlen HB.out (HP.out.pre.below B46.out (fun x hx _ => HPT.out x hx)) (fun x hx _ => Nat.lt_of_lt_of_le (HPT.out x hx) (by omega)) (by omega) (by omega) (by omega)).mono ?_
  rintro e w7 ⟨a7, m7, rfl, hm7, ho7, hb7⟩
  have X7 : Hid (Holds w7 a7 (rd L).1) := ho7.holds.1
  have X7T : Hid (∀ x, a7 = some x → x.block < w7.heap.size) := fun x hx => ho7.lt_size x hx
  have B7 : Hid (Below w6.heap.size w6 w7) := hb7
  have hw7 := hb7.size
  have B47 : Hid (Below w4.heap.size w4 w7) := B46.out.trans (hb7.mono (by omega))
  have cL7 := conv_str (HL.out.below (B.out.trans (B47.out.mono hw4)) HT.out) len cap hlen
  rw [HSL.out] at cL7
  clear ho7 hb7
  go_wp2_with fail
  rw [← HSL.out]
  refine (rread_is L len hlen (by omega) HB.out w7).mono ?_
  rintro e w8 ⟨rfl, hb8⟩
  rw [HSL.out]
  have B8 : Hid (Below w7.heap.size w7 w8) := hb8
  have hw8 := hb8.size
  have B48 : Hid (Below w4.heap.size w4 w8) := B47.out.trans (hb8.mono (by omega))
  have B58 : Hid (Below w5.heap.size w5 w8) := B6.out.trans ((B7.out.mono (by omega)).trans (B8.out.mono (by omega)))
  have cX := conv_str (X5.out.below B58.out (fun x hx _ => X5T.out x hx)) N5 c5 hN5
  have cU := conv_str (X7.out.below B8.out (fun x hx _ => X7T.out x hx)) m7 m7 hm7
  have cI := conv_str (HP.out.below B48.out (fun x hx _ => HPT.out x hx)) (len + 1) c4 HPN.out
  have BW : Hid (Below w.heap.size w w8) := B.out.trans (B48.out.mono hw4)
  have cL8 := conv_str (HL.out.below BW.out HT.out) len cap hlen
  have fs : (strOfNums L).size = len := by rw [strOfNums_size, hlen]
  have fq : (strOfNums (L ++ [90])).toList = (strOfNums L ++ ⟨#[90]⟩).toList := str_snoc L 90
  rw [HSL.out] at cL8 fs fq
  have hwz : w.heap.size ≤ w8.heap.size := BW.out.size
  clear hb8 cL7 hm7 hN5 HPN
  generalize strOfNums (fb L) = sX at *
  generalize fe L = eX at *
  generalize strOfNums (rd L).1 = sU at *
  generalize (rd L).2.1 = nU at *
  generalize (rd L).2.2 = eU at *
  generalize strOfNums (L ++ [90]) = sI at *
  go_wp2_with (go_at_call 13; refine (works_true _).mono ?_; rintro e w' ⟨rfl, hwk⟩)
  go_ret
  exact ⟨rfl, BW.out.trans (Below.mono (by assumption) hwz)⟩
end Go.Proofs.Ytcejbinkdlbpaaa
