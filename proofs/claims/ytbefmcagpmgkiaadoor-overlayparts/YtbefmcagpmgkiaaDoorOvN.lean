/- overlay.Merge's answer, good or bad. -/
import Derived.Test.YtbefmcagpmgkiaaDoorOvL
import Derived.Test.YtbefmcagpmgkiaaDoorOvF
import Derived.Test.YtbefmcagpmgkiaaDoorOvO
namespace Go.Proofs.YtbefmcagpmgkiaaDoor
open Go.ChangeShapes Go.WideShapes Go.ChangeAt Go.RowKit Go.Deep Go.Maps
set_option linter.unusedVariables false
/-- Merge's answer, good or bad -/
theorem merge_any (st : List (List En)) (n : Nat) (hn : st.length = n) (a : Option Addr) (c : Nat) (hn62 : n ≤ 4611686018427387904) (w : World) (hs : InS w a st) :
    Calls Tryd.prog 12 #[.slice a n c] w fun e w' => ∃ a' c' l, e = .returned (.tuple #[.slice a' l.length c', .int .i64 (mE st)]) ∧ InE w' a' l ∧ (mE st = 0 → Lst (mg st) l) ∧ (mE st ≠ 0 → l = []) ∧ l.length ≤ 10240 ∧ Below w.heap.size w w' := by
  refine (merge_is st n hn a c hn62 w hs).mono ?_
  rintro e w' ⟨hb, ⟨h1, rfl⟩ | ⟨h1, g, c', l, rfl, hi, hl, _, hl2⟩⟩
  · exact ⟨none, 0, [], rfl, .inl rfl, fun h => absurd h h1, fun _ => rfl, by simp, hb⟩
  · exact ⟨some ⟨g, 0, none⟩, c', l, by rw [h1], hi, fun _ => hl, fun h => absurd h1 h, hl2, hb⟩
end Go.Proofs.YtbefmcagpmgkiaaDoor
