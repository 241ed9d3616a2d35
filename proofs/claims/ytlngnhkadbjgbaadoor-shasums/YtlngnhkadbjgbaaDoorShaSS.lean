/- sha.Sum at a slice of whatever capacity; the walk of ShaSums, the document's own Sum by its contract. -/
import Derived.Test.YtlngnhkadbjgbaaDoorShaW2
import Derived.Test.YtlngnhkadbjgbaaDoorShaX
import Derived.Test.YtlngnhkadbjgbaaDoorShaK
import Derived.Test.YtlngnhkadbjgbaaDoorShaQ
namespace Go.Proofs.YtlngnhkadbjgbaaDoor
open Go.ChangeShapes Go.WideShapes Go.ChangeAt Go.RowKit Go.Deep
set_option linter.unusedVariables false
theorem sum_any (B : List Int) (a : Option Addr) (n cap : Nat) (w : World) (hB : B.length = n) (hb : IsBytes B) (hc : n ≤ cap) (hcm : cap ≤ 9223372036854775807) (hnm : n ≤ 1152921504606846000) (hh : Holds w a B)
    (hf : ∀ x, a = some x → B ≠ [] → x.block < w.heap.size) (hk : KIs w) :
    Calls Tryd.prog 5 #[.slice a n cap] w fun e w' => e = .returned (.agg (u8s (shaL B))) ∧ Below w.heap.size w w' := by
  have HK : Hid (KIs w) := hk
  have HB : Hid (IsBytes B) := hb
  have HH : Hid (Holds w a B) := hh
  have HF : Hid (∀ x, a = some x → B ≠ [] → x.block < w.heap.size) := hf
  have hz24 := (zero_of_info zero24_info).1
  clear hk hb hh hf
  go_enter Tryd.func5, Tryd.ntmps5
  go_wp2_with (go_at_call 8; refine (new_is _).mono ?_; rintro e w1 ⟨g, rfl, hg, hH1, hb1⟩; have HH1 : Hid (HashAt w1 g []) := hH1; have HB1 : Hid (Below (w.alloc (.cells z32 24)).heap.size (w.alloc (.cells z32 24)) w1) := hb1; have HG : Hid ((w.alloc (.cells z32 24)).heap.size ≤ g) := hg; clear hH1 hb1 hg)
  have hsz : (w.alloc (.cells z32 24)).heap.size = w.heap.size + 1 := by simp
  have hg1 : w.heap.size + 1 ≤ g := by have := HG.out; omega
  have BW1 : Hid (Below w.heap.size w w1) := ((Below.refl _ _).alloc (Nat.le_refl _) _).trans (HB1.out.mono (by rw [hsz]; omega))
  have HZ1 : Hid (w1.heap[w.heap.size]? = some (.cells z32 24)) := (HB1.out.block _ (by rw [hsz]; omega)).trans (heap_alloc_last w _)
  have HK1 : Hid (KIs w1) := HK.out.below BW1.out HK.out.pos
  clear HB1 HG hsz hz24
  refine (write_any g [] B a n cap w1 hB HB.out hc hcm (by omega) (by simp) (HH.out.below BW1.out HF.out) (fun x hx hne => by have := HF.out x hx hne; omega) HH1.out HK1.out).mono ?_
  rintro e w2 ⟨rfl, hH2, hO2⟩
  rw [List.nil_append] at hH2
  have HH2 : Hid (HashAt w2 g B) := hH2
  have BW2 : Hid (Below w.heap.size w w2) := BW1.out.trans (hO2.below _ (by omega) BW1.out.size)
  have HZ2 : Hid (w2.heap[w.heap.size]? = some (.cells z32 24)) := (hO2.block _ (lt_of_heap HZ1.out) (by omega)).trans HZ1.out
  have HK2 : Hid (KIs w2) := HK.out.below BW2.out HK.out.pos
  clear hH2 hO2
  go_wp2_with fail
  refine (sumH_is g B w2 HH2.out HK2.out (by omega)).mono ?_
  rintro e w3 ⟨rfl, hb3⟩
  have HZ3 : Hid (w3.heap[w.heap.size]? = some (.cells z32 24)) := (hb3.block _ (lt_of_heap HZ2.out)).trans HZ2.out
  have BW3 : Hid (Below w.heap.size w w3) := BW2.out.trans (hb3.mono BW2.out.size)
  have hsl := shaL_len B
  clear hb3
  go_wp2_with (refine wpList_store_row rfl 24 (.tmp 2) (.tmp 9) rfl w.heap.size (u8s (shaL B)) rfl rfl 24 z32 HZ3.out (size32l _ hsl) (by rw [z32_size, u8s_size, hsl]) (u8s_one _) ?_)
  refine bodyPost_ret (results_cell_row rfl _ _ w.heap.size 24 (u8s (shaL B)) (0, 0) _ rfl (setRow_heap _ _ _ _ _ _ HZ3.out) Tryd.underlying24 rfl (size32l _ hsl)) rfl ⟨rfl, ?_⟩
  exact below_setRow BW3.out (Nat.le_refl _) _
/-- the contract of the document's own Sum -/
def RSum : Prop := ∀ (L : List Int) (a : Option Addr) (n cap : Nat) (w : World), L.length = n → IsBytes L → n ≤ cap → cap ≤ 140737488351232 → Holds w a L → (a = none → cap = 0) → (∀ x, a = some x → L ≠ [] → x.block < w.heap.size) →
  Calls Tryd.prog 6 #[.slice a n cap] w fun e w' => e = .returned (.agg (u8s (shaL L))) ∧ Below w.heap.size w w'
set_option maxHeartbeats 4000000 in
theorem shaSums_walk0 (KR : RSum) (a : Option Addr) (len cap : Nat) (zs : List Int) (w : World) (w0 : IsRow .u8 w a len cap zs) (hk : KIs w) :
    Calls Tryd.prog 3 #[.slice a len cap] w fun e w' => e = .returned (.bool true) ∧ Below w.heap.size w w' := by
  obtain ⟨L, hL, hlen, hh, hb, hcap, hreach, hlt, hlc, hcm⟩ := w0.holds
  have HL : Hid (Holds w a L) := hh
  have HC : Hid (a = none → cap = 0) := hcap
  have HT : Hid (∀ x, a = some x → L ≠ [] → x.block < w.heap.size) := hlt
  have HB : Hid (IsBytes L) := hb
  have HK : Hid (KIs w) := hk
  have HR : Hid RSum := KR
  clear w0 hL hh hcap hlt hb hk KR
  go_enter Tryd.func3, Tryd.ntmps3
  go_wp2_with (first | (at_builtin; refine append_bytes rfl (.tmp 4) (.tmp 5) rfl w.heap.size _ [] rfl (owned_empty w w.heap.size (Nat.le_refl _)) _ _ _ L rfl hlen (HL.out.below ((Below.refl _ _).alloc (Nat.le_refl _) _) HT.out) HC.out len (by simp) (by omega) (by simp) ?_; intro a3 c3 w3 hown3 hbel3; have OWN3 : Hid (Owned w3 w.heap.size (.slice a3 len c3) ([] ++ L)) := hown3; have B3 : Hid (Below w.heap.size _ w3) := hbel3; have hs3 : w.heap.size + 1 ≤ w3.heap.size := (by have := hbel3.size; simp at this; omega); clear hown3 hbel3) | (at_builtin; refine append_bytes rfl (.tmp 6) (.tmp 7) rfl w.heap.size _ ([] ++ L) rfl (OWN3.out.alloc _) _ _ _ [90] rfl rfl (holds_one w3 90) (fun h => by simp at h) (len + 1) (by simp [hlen]) (by omega) (by simp; omega) ?_; intro a4 c4 w4 hown4 hbel4; have OWN4 : Hid (Owned w4 w.heap.size (.slice a4 (len + 1) c4) ([] ++ L ++ [90])) := hown4; have B4 : Hid (Below w.heap.size _ w4) := hbel4; have hs4 : w3.heap.size + 1 ≤ w4.heap.size := (by have := hbel4.size; simp at this; omega); obtain ⟨hc4, hc5⟩ := hown4.cap; clear hown4 hbel4))
  have hO := OWN4.out.holds
  rw [List.nil_append] at hO
  have HP : Hid (Holds w4 a4 (L ++ [90])) := hO.1
  have HPN : Hid ((L ++ [90]).length = len + 1) := hO.2.1
  have HPT : Hid (∀ x, a4 = some x → x.block < w4.heap.size) := fun x hx => OWN4.out.lt_size x hx
  have B : Hid (Below w.heap.size w w4) := ((Below.refl _ _).alloc (Nat.le_refl _) _).trans (B3.out.trans (((Below.refl _ _).alloc (by omega) _).trans B4.out))
  have hw4 : w.heap.size ≤ w4.heap.size := B.out.size
  clear hO OWN3 OWN4 B3 B4
  refine (sum_any L a4 len c4 w4 hlen HB.out (by omega) (by omega) (by omega) HP.out.pre (fun x hx _ => HPT.out x hx) (HK.out.below B.out HK.out.pos)).mono ?_
  rintro e w5 ⟨rfl, hb5⟩
  have B5 : Hid (Below w4.heap.size w4 w5) := hb5
  have BW5 : Hid (Below w.heap.size w w5) := B.out.trans (hb5.mono hw4)
  have hw5 := BW5.out.size
  clear hb5
  go_wp2_with fail
  refine (HR.out L a len cap w5 hlen HB.out hlc (by omega) (HL.out.below BW5.out HT.out) HC.out (fun x hx hne => Nat.lt_of_lt_of_le (HT.out x hx hne) hw5)).mono ?_
  rintro e w6 ⟨rfl, hb6⟩
  have BW6 : Hid (Below w.heap.size w w6) := BW5.out.trans (hb6.mono hw5)
  have hw6 := BW6.out.size
  have hw45 := B5.out.size
  have B46 : Hid (Below w4.heap.size w4 w6) := B5.out.trans (hb6.mono hw45)
  have eD : ∀ w, (Op.equalIn 10000 24 (.agg (u8s (shaL L))) (.agg (u8s (shaL L)))).run Tryd.prog w = .ok true w := fun w => by rw [eq_digest (shaL L) (shaL L) (shaL_len L) (shaL_len L) w]; simp
  have gD := guard_digest
  have cI := conv_str (HP.out.below B46.out (fun x hx _ => HPT.out x hx)) (len + 1) c4 HPN.out
  have cL := conv_str (HL.out.below BW6.out HT.out) len cap hlen
  have fs : (strOfNums L).size = len := by rw [strOfNums_size, hlen]
  have fq : (strOfNums (L ++ [90])).toList = (strOfNums L ++ ⟨#[90]⟩).toList := str_snoc L 90
  clear hb6
  generalize shaL L = S at *
  generalize strOfNums (L ++ [90]) = sI at *
  generalize strOfNums L = sL at *
  go_wp2_with (go_at_call 7; refine (works_true _ (HK.out.below BW6.out HK.out.pos)).mono ?_; rintro e w' ⟨rfl, hwk⟩)
  go_ret
  exact ⟨rfl, BW6.out.trans (Below.mono (by assumption) hw6)⟩
end Go.Proofs.YtlngnhkadbjgbaaDoor
