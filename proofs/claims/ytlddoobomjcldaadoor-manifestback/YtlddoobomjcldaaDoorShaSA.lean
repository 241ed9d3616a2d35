/- sha.Sum at a slice of whatever capacity. -/
import Derived.Test.YtlddoobomjcldaaDoorShaW2
import Derived.Test.YtlddoobomjcldaaDoorShaX
import Derived.Test.YtlddoobomjcldaaDoorShaQ
namespace Go.Proofs.YtlddoobomjcldaaDoor
open Go.ChangeShapes Go.WideShapes Go.ChangeAt Go.RowKit Go.Deep
set_option linter.unusedVariables false
theorem sum_any (B : List Int) (a : Option Addr) (n cap : Nat) (w : World) (hB : B.length = n) (hb : IsBytes B) (hc : n ≤ cap) (hcm : cap ≤ 9223372036854775807) (hnm : n ≤ 1152921504606846000) (hh : Holds w a B)
    (hf : ∀ x, a = some x → B ≠ [] → x.block < w.heap.size) (hk : KIs w) :
    Calls Tryd.prog 36 #[.slice a n cap] w fun e w' => e = .returned (.agg (u8s (shaL B))) ∧ Below w.heap.size w w' := by
  have HK : Hid (KIs w) := hk
  have HB : Hid (IsBytes B) := hb
  have HH : Hid (Holds w a B) := hh
  have HF : Hid (∀ x, a = some x → B ≠ [] → x.block < w.heap.size) := hf
  have hz24 := (zero_of_info zero24_info).1
  clear hk hb hh hf
  go_enter Tryd.func36, Tryd.ntmps36
  go_wp2_with (go_at_call 56; refine (new_is _).mono ?_; rintro e w1 ⟨g, rfl, hg, hH1, hb1⟩; have HH1 : Hid (HashAt w1 g []) := hH1; have HB1 : Hid (Below (w.alloc (.cells z32 35)).heap.size (w.alloc (.cells z32 35)) w1) := hb1; have HG : Hid ((w.alloc (.cells z32 35)).heap.size ≤ g) := hg; clear hH1 hb1 hg)
  have hsz : (w.alloc (.cells z32 35)).heap.size = w.heap.size + 1 := by simp
  have hg1 : w.heap.size + 1 ≤ g := by have := HG.out; omega
  have BW1 : Hid (Below w.heap.size w w1) := ((Below.refl _ _).alloc (Nat.le_refl _) _).trans (HB1.out.mono (by rw [hsz]; omega))
  have HZ1 : Hid (w1.heap[w.heap.size]? = some (.cells z32 35)) := (HB1.out.block _ (by rw [hsz]; omega)).trans (heap_alloc_last w _)
  have HK1 : Hid (KIs w1) := HK.out.below BW1.out HK.out.pos
  clear HB1 HG hsz hz24
  refine (write_any g [] B a n cap w1 hB HB.out hc hcm (by omega) (by simp) (HH.out.below BW1.out HF.out) (fun x hx hne => by have := HF.out x hx hne; omega) HH1.out HK1.out).mono ?_
  rintro e w2 ⟨rfl, hH2, hO2⟩
  rw [List.nil_append] at hH2
  have HH2 : Hid (HashAt w2 g B) := hH2
  have BW2 : Hid (Below w.heap.size w w2) := BW1.out.trans (hO2.below _ (by omega) BW1.out.size)
  have HZ2 : Hid (w2.heap[w.heap.size]? = some (.cells z32 35)) := (hO2.block _ (lt_of_heap HZ1.out) (by omega)).trans HZ1.out
  have HK2 : Hid (KIs w2) := HK.out.below BW2.out HK.out.pos
  clear hH2 hO2
  go_wp2_with fail
  refine (sumH_is g B w2 HH2.out HK2.out (by omega)).mono ?_
  rintro e w3 ⟨rfl, hb3⟩
  have HZ3 : Hid (w3.heap[w.heap.size]? = some (.cells z32 35)) := (hb3.block _ (lt_of_heap HZ2.out)).trans HZ2.out
  have BW3 : Hid (Below w.heap.size w w3) := BW2.out.trans (hb3.mono BW2.out.size)
  have hsl := shaL_len B
  clear hb3
  go_wp2_with (refine wpList_store_row rfl 35 (.tmp 2) (.tmp 9) rfl w.heap.size (u8s (shaL B)) rfl rfl 35 z32 HZ3.out (size32l _ hsl) (by rw [z32_size, u8s_size, hsl]) (u8s_one _) ?_)
  refine bodyPost_ret (results_cell_row rfl _ _ w.heap.size 35 (u8s (shaL B)) (0, 0) _ rfl (setRow_heap _ _ _ _ _ _ HZ3.out) Tryd.underlying35 rfl (size32l _ hsl)) rfl ⟨rfl, ?_⟩
  exact below_setRow BW3.out (Nat.le_refl _) _
end Go.Proofs.YtlddoobomjcldaaDoor
