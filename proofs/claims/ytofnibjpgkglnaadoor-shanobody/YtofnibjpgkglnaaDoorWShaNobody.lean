/- The walk of ShaNobody. -/
import Derived.Test.YtofnibjpgkglnaaDoorShaK
import Derived.Test.YtofnibjpgkglnaaDoorShaN
import Derived.Test.YtofnibjpgkglnaaDoorShaQ
namespace Go.Proofs.YtofnibjpgkglnaaDoor
open Go.ChangeShapes Go.WideShapes Go.ChangeAt Go.RowKit Go.Deep
set_option linter.unusedVariables false
set_option maxRecDepth 100000 in
set_option maxHeartbeats 4000000 in
theorem shaNobody_walk (a : Option Addr) (len cap : Nat) (zs : List Int) (w : World) (w0 : IsRow .u8 w a len cap zs) (hk : KIs w) :
    Calls Tryd.prog 8 #[.slice a len cap] w fun e w' => e = .returned (.bool true) ∧ Below w.heap.size w w' := by
  have HK : Hid (KIs w) := hk
  have hz := (zero_of_info hzero_info).1
  have hz24 := (zero_of_info zero24_info).1
  have hz0 : hzero.toArray[0]? = some (.bool false) := rfl
  have heq : ∀ W : World, (Op.equalIn 10000 24 (.agg z32) (.agg z32)).run Tryd.prog W = .ok true W := fun W => by
    have := eq_digest (fillN [] 32 0) (fillN [] 32 0) rfl rfl W
    rw [decide_eq_true rfl] at this
    exact this
  have hgd := guard_digest
  have HZ0 : Hid (hzero.toArray[0]? = some (.bool false)) := hz0
  clear hk hz0 w0
  generalize hzero.toArray = Z at *
  go_enter Tryd.func8, Tryd.ntmps8
  go_wp2_with fail
  clear hz
  go_loopg [9] 2 (fun g i wr => ∃ c : Nat, c ≤ 2 ∧ g = 2 - c ∧ i = .int .i64 c ∧ Below w.heap.size w wr ∧ wr.heap[w.heap.size]? = some (.cells Z 46) ∧ wr.heap[w.heap.size + 1]? = some (.cells #[.pointer none, .pointer (some ⟨w.heap.size, 0, none⟩)] 40))
  case atStart =>
    refine ⟨0, Nat.zero_le _, rfl, rfl, ((Below.refl _ _).alloc (Nat.le_refl _) _).alloc (by simp) _, (Below.heap_alloc _ _ _ (by simp)).trans (heap_alloc_last w _), ?_⟩
    have := heap_alloc_last (w.alloc (.cells Z 46)) (.cells #[.pointer none, .pointer (some ⟨w.heap.size, 0, none⟩)] 40)
    rwa [World.size_alloc] at this
  case round =>
    obtain ⟨c, hc, rfl, rfl, hbel, h0, h1⟩ := hrel
    have G : Hid (Below w.heap.size w wr ∧ wr.heap[w.heap.size]? = some (.cells Z 46) ∧ wr.heap[w.heap.size + 1]? = some (.cells #[.pointer none, .pointer (some ⟨w.heap.size, 0, none⟩)] 40)) := ⟨hbel, h0, h1⟩
    by_cases hlt : c < 2
    · obtain ⟨p, hp, HN⟩ : ∃ p : Option Addr, wr.cell? ⟨w.heap.size + 1, c, none⟩ = some (.pointer p) ∧ Hid (NoHash wr p) := by
        rcases (by omega : c = 0 ∨ c = 1) with rfl | rfl
        · exact ⟨none, by rw [cell_of_row _ _ _ _ _ (0, 0) h1]; rfl, .inl rfl⟩
        · exact ⟨some ⟨w.heap.size, 0, none⟩, by rw [cell_of_row _ _ _ _ _ (0, 0) h1]; rfl, .inr ⟨w.heap.size, rfl, by rw [cell_of_row _ _ _ _ _ (0, 0) h0]; exact HZ0.out⟩⟩
      clear hbel h0 h1
      go_wp2_with (first | (go_at_call 18; refine (write_no p _ wr HN.out).mono ?_; rintro e w' ⟨rfl, hw⟩; obtain rfl := hw.symm; clear hw) | (go_at_call 19; refine (sum_no p wr HN.out).mono ?_; rintro e w2 ⟨rfl, hb2⟩; have B2 : Hid (Below wr.heap.size wr w2) := hb2; clear hb2) | (refine wpList_build_is rfl 24 _ rfl z32 built_zero ?_) | (go_at_call 20; refine (len_no p _ (HN.out.below B2.out)).mono ?_; rintro e w' ⟨rfl, hw⟩; obtain rfl := hw.symm; clear hw) | (go_at_call 21; refine (copy_no p _ (HN.out.below B2.out)).mono ?_; rintro e w' ⟨rfl, hw⟩; obtain rfl := hw.symm; clear hw))
      go_roundg (2 - (c + 1))
      case measure => omega
      case rel => exact ⟨c + 1, by omega, rfl, by go_num, G.out.1.trans (B2.out.mono G.out.1.size), (B2.out.block _ (lt_of_heap G.out.2.1)).trans G.out.2.1, (B2.out.block _ (lt_of_heap G.out.2.2)).trans G.out.2.2⟩
    · have e : c = 2 := by omega
      subst e
      clear hbel h0 h1
      go_wp2_with (go_at_call 11; refine (works_true _ (HK.out.below G.out.1 HK.out.pos)).mono ?_; rintro e w2 ⟨rfl, hb2⟩; have B2 : Hid (Below wr.heap.size wr w2) := hb2; clear hb2)
      go_ret
      exact ⟨rfl, G.out.1.trans (B2.out.mono G.out.1.size)⟩
end Go.Proofs.YtofnibjpgkglnaaDoor
