/- The law's own works. -/
import Derived.Test.YtldlcbkjhgdolaaDoorLayD
namespace Go.Proofs.YtldlcbkjhgdolaaDoor
open Go.ChangeShapes Go.WideShapes Go.ChangeAt Go.RowKit Go.Deep
set_option linter.unusedVariables false
def exE : En := ([97, 47, 98], 1, 420, [104, 105])
theorem exE_ok : (chk [exE]).2 = 0 := by decide +kernel
theorem exE_enc : enc [exE] = [86, 76, 1, 1, 1, 1, 164, 3, 97, 47, 98, 2, 104, 105] := by decide +kernel
theorem exE_str : strOfNums [86, 76, 1, 1, 1, 1, 164, 3, 97, 47, 98, 2, 104, 105] = ⟨#[86, 76, 1, 1, 1, 1, 164, 3, 97, 47, 98, 2, 104, 105]⟩ := by
  apply ByteArray.ext
  simp [strOfNums]
theorem InE.one (w : World) (x : En) : InE (w.alloc (.cells (ec (tx x.p) x.k x.m (tx x.b)) 50)) (some ⟨w.heap.size, 0, none⟩) [x] := by
  refine .inr ⟨w.heap.size, 0, rfl, by simp, fun i y hy => ?_⟩
  have hi : i = 0 := by
    have := (List.getElem?_eq_some_iff.1 hy).1
    simpa using this
  subst hi
  simp at hy
  subst hy
  obtain ⟨h0, h1, h2, h3⟩ := ec_cells (heap_alloc_new w (.cells (ec (tx x.p) x.k x.m (tx x.b)) 50))
  exact ⟨h0, h1, h2, h3⟩
set_option maxRecDepth 100000 in
theorem works_is (w : World) : Calls Tryd.prog 15 #[] w fun e w' => e = .returned (.bool true) ∧ Below w.heap.size w w' := by
  have K : Hid (Calls Tryd.prog 16 #[.slice (some ⟨w.heap.size, 0, none⟩) 1 1] (w.alloc (.cells #[.string ⟨#[97, 47, 98]⟩, .int .i64 1, .int .i64 420, .string ⟨#[104, 105]⟩] 50)) fun e w' => ∃ v, e = .returned (.tuple #[v, .int .i64 0]) ∧ Owned w' (w.heap.size + 1) v (enc [exE]) ∧ Below (w.heap.size + 1) (w.alloc (.cells #[.string ⟨#[97, 47, 98]⟩, .int .i64 1, .int .i64 420, .string ⟨#[104, 105]⟩] 50)) w') := by
    have := encode_ok [exE] 1 rfl (fun x hx => by simp at hx; subst hx; decide) (some ⟨w.heap.size, 0, none⟩) 1 _ (InE.one w exE) exE_ok
    rw [World.size_alloc] at this
    exact this
  rw [exE_enc] at K
  go_enter Tryd.func15, Tryd.ntmps15
  go_wp2_with fail
  refine K.out.mono ?_
  rintro e w1 ⟨v, rfl, ho, hb⟩
  obtain ⟨a, c, rfl, _, hh, _⟩ := ho.slice
  have cs := conv_str hh 14 c rfl
  rw [exE_str] at cs
  have B1 : Hid (Below w.heap.size w w1) := ((Below.refl w.heap.size w).alloc (Nat.le_refl _) _).trans (hb.mono (by omega))
  clear hb hh ho K
  go_wp2_with fail
  go_ret
  exact ⟨rfl, B1.out⟩
end Go.Proofs.YtldlcbkjhgdolaaDoor
