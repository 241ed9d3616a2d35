/- slices.Clone of references (gen_wt.py). -/
import Derived.Test.YtokakhlkanakcaaWsH
import Derived.Lib.BufferMore
namespace Go.Proofs.Ytokakhlkanakcaa
open Go.ChangeShapes Go.WideShapes Go.ChangeAt Go.RowKit Go.Deep Go.Maps
set_option linter.unusedVariables false
set_option linter.unusedSimpArgs false
set_option maxRecDepth 100000 in
theorem cloneR_none (w : World) : Calls Try.prog 50 #[.slice none 0 0] w fun e w' => e = .returned (.slice none 0 0) ∧ w' = w := by
  have hnil : ∀ W, (binOp .eql 69 (.slice none 0 0) (.slice none 0 0)).run Try.prog W = .ok (.bool true) W := fun W => Lib.run_eql_slice_nil_nil W _ _ Try.underlying69
  go_enter Try.func50, Try.ntmps50
  go_wp2_with fail
  go_ret
  exact ⟨rfl, rfl⟩
set_option maxRecDepth 100000 in
theorem cloneR_some (w : World) (q : Addr) (n c : Nat) (l : List Rf) (hl : l.length = n) (hin : InR w (some q) l) (hd : Dgs l) (hN : n ≤ 3518437208883) :
    Calls Try.prog 50 #[.slice (some q) n c] w fun e w' => ∃ v, e = .returned v ∧ OwnR w' w.heap.size v l ∧ Below w.heap.size w w' := by
  have OE : Hid (OwnR (w.alloc (.cells #[] 81)) w.heap.size (.slice (some ⟨w.heap.size, 0, none⟩) 0 0) []) := World.ownsRow_made (e := 81) (base := w.heap.size) w #[] 0 (by simp) (by simp) (by simp)
  have HI : Hid (InR (w.alloc (.cells #[] 81)) (some q) l) := hin.keep (below1 w _)
  have HQ : Hid (l.length = n ∧ ([] : List Rf).length + n ≤ 3518437208883 ∧ w.heap.size ≤ (w.alloc (.cells #[] 81)).heap.size) := ⟨hl, by simpa using hN, by simp⟩
  have HB : Hid (Below w.heap.size w (w.alloc (.cells #[] 81))) := below1 w _
  have hnil : ∀ W, (binOp .eql 69 (.slice (some q) n c) (.slice none 0 0)).run Try.prog W = .ok (.bool false) W := fun W => Lib.run_eql_slice_some_nil W _ _ _ Try.underlying69
  have HD : Hid (Dgs l) := hd
  clear hl hin hN hd
  go_enter Try.func50, Try.ntmps50
  go_wp2_with (at_builtin; refine append_refs rfl (.tmp 5) (.tmp 6) rfl w.heap.size _ [] rfl OE.out q n c l rfl HQ.out.1 HI.out HD.out HQ.out.2.1 HQ.out.2.2 ?_; intro v5 u5 o5 g5; have O5 : Hid (OwnR u5 w.heap.size v5 l) := o5; have G5 : Hid (Below w.heap.size w u5) := HB.out.grown g5 (by simp) (fun k hk => by cases hk; exact Nat.le_refl _); clear o5 g5)
  go_ret
  exact ⟨v5, rfl, O5.out, G5.out⟩
theorem cloneR_is (w : World) (a : Option Addr) (n c : Nat) (l : List Rf) (hl : l.length = n) (hin : InR w a l) (ha : a = none → n = 0 ∧ c = 0) (hd : Dgs l) (hN : n ≤ 3518437208883) :
    Calls Try.prog 50 #[.slice a n c] w fun e w' => ∃ v, e = .returned v ∧ OwnR w' w.heap.size v l ∧ Below w.heap.size w w' := by
  cases a with
  | none =>
    obtain ⟨rfl, rfl⟩ := ha rfl
    obtain rfl : l = [] := List.length_eq_zero_iff.1 hl
    refine (cloneR_none w).mono ?_
    rintro e w' ⟨rfl, rfl⟩
    exact ⟨_, rfl, OwnR.nil _ _, Below.refl _ _⟩
  | some q => exact cloneR_some w q n c l hl hin hd hN
end Go.Proofs.Ytokakhlkanakcaa
