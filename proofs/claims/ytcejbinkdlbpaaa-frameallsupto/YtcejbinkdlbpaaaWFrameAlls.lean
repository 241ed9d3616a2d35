/- The walk of FrameAlls, where there are at most 1048576 bytes. -/
import Derived.Test.YtcejbinkdlbpaaaFrmV
import Derived.Test.YtcejbinkdlbpaaaFrmW
import Derived.Deep.QuietTactic
import Derived.BigQuiet
namespace Go.Proofs.Ytcejbinkdlbpaaa
open Go.ChangeShapes Go.WideShapes Go.ChangeAt Go.RowKit Go.Deep
set_option linter.unusedVariables false
theorem Rows2.slice {w : World} {base : Nat} {v : Value} {vs : List Value} (h : Rows2 w base v vs) : ∃ a c, v = .slice a vs.length c ∧ vs.length ≤ c ∧ c ≤ 9223372036854775807 ∧ (0 < vs.length → ∃ g, a = some ⟨g, 0, none⟩ ∧ ∀ i u, vs[i]? = some u → w.cell? ⟨g, i, none⟩ = some u) := by
  rcases h.2 with ⟨rfl, hn⟩ | ⟨g, cap, cur, rfl, hb, hg, hl, hm, hs, ht⟩
  · exact ⟨none, 0, by rw [hn], by omega, by omega, fun h => by omega⟩
  · refine ⟨_, cap, rfl, hl, by simp only [maxLen] at hm; omega, fun _ => ⟨g, rfl, fun i u hu => ?_⟩⟩
    have := World.ownsRow.cells h (g := g) rfl i u hu
    rwa [add_plain, Nat.zero_add] at this
theorem RowsS.slice {w : World} {base : Nat} {v : Value} {Bs : List (List Int)} (h : RowsS w base v Bs) : ∃ a c, v = .slice a Bs.length c ∧ Bs.length ≤ c ∧ c ≤ 9223372036854775807 ∧ (0 < Bs.length → ∃ g, a = some ⟨g, 0, none⟩ ∧ ∀ i (hi : i < Bs.length), w.cell? ⟨g, i, none⟩ = some (.string (strOfNums Bs[i]))) := by
  rcases h.2 with ⟨rfl, hn⟩ | ⟨g, cap, cur, rfl, hb, hg, hl, hm, hs, ht⟩
  · exact ⟨none, 0, by rw [hn], by omega, by omega, fun h => by omega⟩
  · refine ⟨_, cap, rfl, hl, by simp only [maxLen] at hm; omega, fun _ => ⟨g, rfl, fun i hi => ?_⟩⟩
    have := World.ownsRow.cells h (g := g) rfl i (.string (strOfNums Bs[i])) (by simp [hi])
    rwa [add_plain, Nat.zero_add] at this
set_option maxHeartbeats 1000000 in
theorem frameAlls_walk (a : Option Addr) (len cap : Nat) (zs : List Int) (w : World) (w0 : IsRow .u8 w a len cap zs) (hup : len ≤ 1048576) :
    Calls Try.prog 4 #[.slice a len cap] w fun e w' => e = .returned (.bool true) ∧ Below w.heap.size w w' := by
  obtain ⟨L, hL, hlen, hh, hb, hcap, hreach, hlt, hlc, hcm⟩ := w0.holds
  have HL : Hid (Holds w a L) := hh
  have HC : Hid (a = none → cap = 0) := hcap
  have HT : Hid (∀ x, a = some x → L ≠ [] → x.block < w.heap.size) := hlt
  have HB : Hid (IsBytes L) := hb
  clear w0 hL hh hcap hlt hb
  go_enter Try.func4, Try.ntmps4
  go_wp2_with (at_builtin; refine append_bytes rfl (.tmp 11) (.tmp 12) rfl w.heap.size _ [] rfl (owned_empty w w.heap.size (Nat.le_refl _)) _ _ _ L rfl hlen (HL.out.below ((Below.refl _ _).alloc (Nat.le_refl _) _) HT.out) HC.out len (by simp) (by omega) (by simp) ?_; intro a1 c1 w1 hown1 hbel1; have OWN1 : Hid (Owned w1 w.heap.size (.slice a1 len c1) L) := hown1; have B1 : Hid (Below w.heap.size w w1) := (((Below.refl _ _).alloc (Nat.le_refl _) _).trans hbel1); clear hown1 hbel1)
  have hs1 := B1.out.size
  refine (all_is w1 len c1 a1 L hlen HB.out OWN1.out.holds.1 (fun x hx _ => OWN1.out.lt_size x hx) OWN1.out.cap.1 OWN1.out.cap.2 (by omega)).mono ?_
  rintro e w2 ⟨v, vs, rfl, hr2, hd2, hb2⟩
  have B2 : Hid (Below w.heap.size w w2) := B1.out.trans (hb2.mono hs1)
  have hs2 := B2.out.size
  have cL := conv_str (HL.out.below B2.out HT.out) len cap hlen
  have R2 : Hid (Rows2 w2 w1.heap.size v vs) := hr2
  have D2 : Hid (Bods w2 w1.heap.size vs (al len L).1 w2.heap.size) := hd2
  obtain ⟨sL, hsL⟩ : ∃ s, strOfNums L = s := ⟨_, rfl⟩
  have HSL : Hid (strOfNums L = sL) := hsL
  rw [hsL] at cL
  clear hr2 hd2 hb2 hsL OWN1
  go_wp2_with fail
  rw [← HSL.out]
  refine (rall_is w2 len L hlen HB.out (by omega)).mono ?_
  rintro e w3 ⟨v', rfl, hr3, hb3⟩
  rw [HSL.out]
  have B3 : Hid (Below w.heap.size w w3) := B2.out.trans (hb3.mono hs2)
  have hs3 := B3.out.size
  have R3 : Hid (Rows2 w3 w1.heap.size v vs) := R2.out.below hb3 R2.out.lt
  have D3 : Hid (Bods w3 w1.heap.size vs (al len L).1 w2.heap.size) := D2.out.below hb3 (Nat.le_refl _)
  have S3 : Hid (RowsS w3 w2.heap.size v' (al len L).1) := hr3
  have hvl := D3.out.len
  clear hr3 hb3 cL R2 D2
  generalize (al len L).2.1 = P at *
  generalize (al len L).2.2 = E at *
  generalize (al len L).1 = Bs at *
  obtain ⟨ga, ca, hv, hc1, hc2, hg⟩ := R3.out.slice
  obtain ⟨gb, cb, hv', hc3, hc4, hg'⟩ := S3.out.slice
  rw [hvl] at hv hc1 hg
  obtain ⟨K, hK⟩ : ∃ K, K = Bs.length := ⟨_, rfl⟩
  rw [← hK] at hv hv' hg hc1 hc3
  subst hv hv'
  have HG : Hid (0 < K → ∃ g, ga = some ⟨g, 0, none⟩ ∧ ∀ i u, vs[i]? = some u → w3.cell? ⟨g, i, none⟩ = some u) := hg
  have HG' : Hid (0 < Bs.length → ∃ g, gb = some ⟨g, 0, none⟩ ∧ ∀ i (hi : i < Bs.length), w3.cell? ⟨g, i, none⟩ = some (.string (strOfNums Bs[i]))) := hg'
  have HKK : Hid (K = Bs.length) := hK
  clear hg hg' hK hvl
  go_wp2_with fail
  go_loopg [42] K (fun gh i wr => ∃ j q : Nat, j ≤ K ∧ gh = K - j ∧ i = .int .i64 j ∧ wr = w3.drewN q)
  case atStart => exact ⟨0, 0, Nat.zero_le _, rfl, rfl, rfl⟩
  case round =>
    obtain ⟨j, q, hj, rfl, rfl, rfl⟩ := hrel
    by_cases hjk : j < K
    · obtain ⟨g, rfl, hcell⟩ := HG.out (by omega)
      obtain ⟨g', rfl, hcell'⟩ := HG'.out (by rw [← HKK.out]; omega)
      have hjb : j < Bs.length := by rw [← HKK.out]; exact hjk
      obtain ⟨ab, e1, e2, e3⟩ := D3.out.get j hjb
      have c1 := hcell j _ e1
      have c2 := hcell' j hjb
      have cv : ∀ q, (convert 22 9 (.slice ab (Bs[j]).length (Bs[j]).length)).run Try.prog (w3.drewN q) = .ok (.string (strOfNums Bs[j])) (w3.drewN q) := fun q => conv_str (w := w3.drewN q) e2.holds.1 _ _ rfl
      clear hcell hcell' e1 e2 e3
      generalize (Bs[j]).length = m at *
      generalize strOfNums Bs[j] = sB at *
      have i1 : ((j : Int) < (K : Int)) := by omega
      go_wp2
      go_quiet (fail)
      go_wp2
      go_roundg (K - (j + 1))
      case measure => omega
      case rel => exact ⟨j + 1, _, by omega, rfl, by go_num, rfl⟩
    · have i1 : ¬ ((j : Int) < (K : Int)) := by omega
      have hsq : w.heap.size ≤ (w3.drewN q).heap.size := hs3
      have BQ : Hid (Below w.heap.size w (w3.drewN q)) := below_drewN B3.out q
      clear HG HG' R3 D3 S3
      go_wp2_with (go_at_call 13; refine (works_true _).mono ?_; rintro e w' ⟨rfl, hwk⟩)
      go_ret
      exact ⟨rfl, BQ.out.trans (Below.mono (by assumption) hsq)⟩
end Go.Proofs.Ytcejbinkdlbpaaa
