/- The walk of NumFixed. -/
import Derived.Test.YtpolnhpefcmilaaNumI
import Derived.Test.YtpolnhpefcmilaaNumS
import Derived.Test.YtpolnhpefcmilaaNumD
namespace Go.Proofs.Ytpolnhpefcmilaa
open Go.ChangeShapes Go.WideShapes Go.ChangeAt Go.RowKit Go.Deep
set_option linter.unusedVariables false
theorem numFixed_walk (v k : Int) (a : Option Addr) (len cap : Nat) (zs : List Int) (w : World) (w0 : (Lit.int .u64 v).wf = true) (w1 : (Lit.int .i64 k).wf = true) (w2 : IsRow .u8 w a len cap zs) :
    Calls Try.prog 3 #[.int .u64 v, .int .i64 k, .slice a len cap] w fun e w' => e = .returned (.bool true) ∧ Below w.heap.size w w' := by
  obtain ⟨v0, v1⟩ := wf_u64 w0
  obtain ⟨L, hL, hlen, hh, hb, hcap, hreach, hlt, hlc, hcm⟩ := w2.holds
  have HL : Hid (Holds w a L) := hh
  have HC : Hid (a = none → cap = 0) := hcap
  have HT : Hid (∀ x, a = some x → L ≠ [] → x.block < w.heap.size) := hlt
  have HB : Hid (IsBytes L) := hb
  clear w0 w1 w2 hL hh hcap hlt hb
  go_enter Try.func3, Try.ntmps3
  go_wp2_with fail
  refine (fixed_all v k v0 w).mono ?_
  rintro e w1 ⟨ax, cx, rfl, hb1, hx1, hx2⟩
  have hs1 := hb1.size
  have B1 : Hid (Below w.heap.size w w1) := hb1
  have X1 : Hid (Holds w1 ax (fixS v k).1) := hx1
  have X2 : Hid (∀ x, ax = some x → x.block < w1.heap.size) := hx2
  clear hb1 hx1 hx2
  go_wp2_with fail
  refine (rfixed_all v k v0 v1 w1).mono ?_
  rintro e w2 ⟨ay, cy, rfl, hb2, hy1, hy2⟩
  have hs2 := hb2.size
  have B2 : Hid (Below w1.heap.size w1 w2) := hb2
  have Y1 : Hid (Holds w2 ay (fixS v k).1) := hy1
  have Y2 : Hid (∀ x, ay = some x → x.block < w2.heap.size) := hy2
  clear hb2 hy1 hy2
  go_wp2_with (first | (at_builtin; refine append_bytes rfl (.tmp 28) (.tmp 29) rfl w2.heap.size _ [] rfl (owned_empty w2 w2.heap.size (Nat.le_refl _)) _ _ _ L rfl hlen (HL.out.below (((B1.out.trans (B2.out.mono hs1)).alloc (by omega) _)) HT.out) HC.out len (by simp) (by omega) (by simp) ?_; intro a3 c3 w3 hown3 hbel3; have OWN3 : Hid (Owned w3 w2.heap.size (.slice a3 len c3) ([] ++ L)) := hown3; have B3 : Hid (Below w2.heap.size _ w3) := hbel3; have hs3 : w2.heap.size + 1 ≤ w3.heap.size := (by have := hbel3.size; simp at this; omega); clear hown3 hbel3) | (at_builtin; refine append_bytes rfl (.tmp 30) (.tmp 31) rfl w2.heap.size _ ([] ++ L) rfl (OWN3.out.alloc _) _ _ _ [90] rfl rfl (holds_one w3 90) (fun h => by simp at h) (len + 1) (by simp [hlen]) (by omega) (by simp; omega) ?_; intro a4 c4 w4 hown4 hbel4; have OWN4 : Hid (Owned w4 w2.heap.size (.slice a4 (len + 1) c4) ([] ++ L ++ [90])) := hown4; have B4 : Hid (Below w2.heap.size _ w4) := hbel4; have hs4 : w3.heap.size + 1 ≤ w4.heap.size := (by have := hbel4.size; simp at this; omega); obtain ⟨hc4, hc5⟩ := hown4.cap; clear hown4 hbel4))
  have hO := OWN4.out.holds
  rw [List.nil_append] at hO
  have hpre : Holds w4 a4 L := hO.1.pre
  have B34 : Below w2.heap.size w2 w4 := ((Below.refl _ _).alloc (Nat.le_refl _) _).trans (B3.out.trans (((Below.refl _ _).alloc (by omega) _).trans B4.out))
  have bw : Below w.heap.size w w4 := (B1.out.trans (B2.out.mono hs1)).trans (B34.mono (by omega))
  have cL := conv_str (HL.out.below bw HT.out) len cap hlen
  have c4' := conv_str hO.1 (len + 1) c4 hO.2.1
  have cX := conv_str (X1.out.below (B2.out.trans (B34.mono hs2)) (fun x hx _ => X2.out x hx)) _ cx rfl
  have cY := conv_str (Y1.out.below B34 (fun x hx _ => Y2.out x hx)) _ cy rfl
  have r1 := readFixed_all L len k a4 c4 hlen (by omega) HB.out w4 hpre
  have HLW : Hid (Holds w4 a L) := HL.out.below bw HT.out
  have BW : Hid (Below w.heap.size w w4) := bw
  have hw4 : w.heap.size ≤ w4.heap.size := bw.size
  refine r1.mono ?_
  rintro e w' ⟨rfl, hw⟩; obtain rfl := hw.symm
  clear hw r1 bw B34 hpre hO
  go_wp2_with fail
  refine (rreadFixed_all L len k a cap hlen (by omega) HB.out w4 HLW.out).mono ?_
  rintro e w' ⟨rfl, hw⟩; obtain rfl := hw.symm
  clear hw
  have fs : (strOfNums L).size = len := by rw [strOfNums_size, hlen]
  have fe : (strOfNums (L ++ [90])).toList = (strOfNums L ++ ⟨#[90]⟩).toList := str_snoc L 90
  go_wp2_with (go_at_call 13; refine (works_true _).mono ?_; rintro e w' ⟨rfl, hwk⟩)
  go_ret
  exact ⟨rfl, BW.out.trans (Below.mono (by assumption) hw4)⟩
end Go.Proofs.Ytpolnhpefcmilaa
