/- What part sorts; Good. -/
import Derived.Test.YtmokonaodoiflaaPtSo
namespace Go.Proofs.Ytmokonaodoiflaa
open Go.ChangeShapes Go.WideShapes Go.ChangeAt Go.RowKit Go.Deep Go.Maps
set_option linter.unusedVariables false
set_option linter.unusedSimpArgs false
theorem grownBy_sortedZ {w : World} {g n : Nat} {os : Array Obj} (F : Array Int) : w.grownBy (Sort.grow (Sort.putRow (Value.int .i64) (Sort.ahead w n) g 0 F) os) (some g) := by
  refine ⟨rfl, rfl, rfl, by simp, fun k hk hne => ?_⟩
  rw [Sort.heap_grow_old _ _ (by simpa using hk)]
  have : g ≠ k := fun e => hne (by rw [e])
  simp [Sort.putRow, Sort.mapBlock, Sort.ahead, Array.getElem?_modify, this]
theorem len0_is (w : World) : Calls Try.prog 45 #[.int .u64 0] w fun e w' => e = .returned (.int .i64 0) ∧ w' = w := by
  have h := calls_of_every_depth (P := Try.prog) fun D => AnyS.bits_LenIn (ρ := soRenZ) { soLaysZ with } D 0 w (by omega) (by omega)
  refine h.mono ?_
  rintro e w' ⟨rfl, rfl⟩
  exact ⟨rfl, rfl⟩
set_option maxRecDepth 100000 in
theorem insert0_is (w : World) : Calls Try.prog 49 #[.slice none 0 0, .int .i64 0, .int .i64 0] w fun e w' => e = .returned (.tuple #[]) ∧ w' = w := by
  go_enter Try.func49, Try.ntmps49
  go_wp2_with fail
  go_loopg [6] 0 (fun g i wr => i = .int .i64 1 ∧ Hid (wr = w))
  case atStart => exact ⟨rfl, rfl⟩
  obtain ⟨rfl, RW⟩ := hrel
  go_wp2_with fail
  first | refine bodyPost_end (results_none rfl _ _ _) rfl ?_ | refine bodyPost_ret (results_none rfl _ _ _) rfl ?_
  exact ⟨rfl, RW.out⟩
set_option maxRecDepth 100000 in
theorem pdq0_is (w : World) : Calls Try.prog 44 #[.slice none 0 0, .int .i64 0, .int .i64 0, .int .i64 0] w fun e w' => e = .returned (.tuple #[]) ∧ w' = w := by
  have K : Hid (∀ W, Calls Try.prog 49 #[.slice none 0 0, .int .i64 0, .int .i64 0] W fun e w' => e = .returned (.tuple #[]) ∧ w' = W) := insert0_is
  go_enter Try.func44, Try.ntmps44
  go_wp2_with fail
  go_loopg [1, 2] 0 (fun g a b wr => a = .int .i64 0 ∧ b = .int .i64 0 ∧ Hid (wr = w))
  case atStart => exact ⟨rfl, rfl, rfl⟩
  obtain ⟨rfl, rfl, RW⟩ := hrel
  go_wp2_with (go_at_call 49; refine (K.out _).mono ?_; rintro e1 w1 ⟨rfl, rfl⟩)
  first | refine bodyPost_end (results_none rfl _ _ _) rfl ?_ | refine bodyPost_ret (results_none rfl _ _ _) rfl ?_
  exact ⟨rfl, RW.out⟩
set_option maxRecDepth 100000 in
theorem sort0_is (w : World) : Calls Try.prog 35 #[.slice none 0 0] w fun e w' => e = .returned (.tuple #[]) ∧ w' = w := by
  have K : Hid (∀ W, Calls Try.prog 44 #[.slice none 0 0, .int .i64 0, .int .i64 0, .int .i64 0] W fun e w' => e = .returned (.tuple #[]) ∧ w' = W) := pdq0_is
  have KL : Hid (∀ W, Calls Try.prog 45 #[.int .u64 0] W fun e w' => e = .returned (.int .i64 0) ∧ w' = W) := len0_is
  go_enter Try.func35, Try.ntmps35
  go_wp2_with (first | (go_at_call 45; refine (KL.out _).mono ?_; rintro e1 w1 ⟨rfl, rfl⟩) | (go_at_call 44; refine (K.out _).mono ?_; rintro e1 w1 ⟨rfl, rfl⟩))
  first | refine bodyPost_end (results_none rfl _ _ _) rfl ?_ | refine bodyPost_ret (results_none rfl _ _ _) rfl ?_
  exact ⟨rfl, rfl⟩
def srt (l : List Int) : List Int := l.mergeSort fun x y => decide (x ≤ y)
theorem sortZ_is (w : World) (base : Nat) (v : Value) (l : List Int) (ho : OwnZ w base v l) (hn : l.length < 4611686018427387904) :
    Calls Try.prog 35 #[v] w fun e w' => e = .returned (.tuple #[]) ∧ OwnZ w' base v (srt l) ∧ w.grownBy w' v.ownBlock := by
  rcases ho.2 with ⟨rfl, hl⟩ | ⟨g, cap, cur, rfl, hb, hg, hle, hm, hs, ht⟩
  · obtain rfl : l = [] := List.length_eq_zero_iff.1 hl
    refine (sort0_is w).mono ?_
    rintro e w' ⟨rfl, rfl⟩
    exact ⟨rfl, by rw [show srt [] = [] by simp [srt]]; exact OwnZ.nil _ _, rfl, rfl, rfl, Nat.le_refl _, fun _ _ _ => rfl⟩
  · have hgl : g < w.heap.size := (Array.getElem?_eq_some_iff.1 hg).1
    have hH : Sort.Holds (Value.int .i64) w g 0 l.toArray := by
      intro j hj
      have hj' : j < l.length := by simpa using hj
      refine ⟨?_, by simp [World.frozen?, hg]⟩
      have := World.ownsRow.cells ho (g := g) rfl j (.int .i64 l[j]) (by rw [List.getElem?_map, List.getElem?_eq_getElem hj']; rfl)
      rw [add_plain, Nat.zero_add] at this
      rw [Nat.zero_add, this]
      simp [hj']
    have hcon := Any.slices_Sort_int soLaysZ g 0 cap l w hH hgl hn
    change Calls Try.prog 35 _ _ _ at hcon
    refine hcon.mono ?_
    rintro e w' ⟨rfl, n, os, rfl⟩
    refine ⟨rfl, ?_, grownBy_sortedZ _⟩
    have hss : (srt l).length = l.length := by unfold srt; exact List.length_mergeSort _
    have hsz2 : (srt l).toArray.size = l.toArray.size := by simp [hss]
    have hg2 : ∃ cur', (Sort.grow (Sort.putRow (Value.int .i64) (Sort.ahead w n) g 0 (srt l).toArray) os).heap[g]? = some (.cells cur' 3) ∧ cur'.size = cur.size := by
      refine ⟨Sort.putCells (Value.int .i64) 0 (srt l).toArray cur, ?_, by simp [Sort.putCells]⟩
      rw [Sort.heap_grow_old _ _ (by simpa using hgl)]
      simp [Sort.putRow, Sort.mapBlock, Sort.ahead, Array.getElem?_modify, hg, Sort.onCells]
    obtain ⟨cur', hc1, hc2⟩ := hg2
    have hHp : Sort.Holds (Value.int .i64) (Sort.grow (Sort.putRow (Value.int .i64) (Sort.ahead w n) g 0 (srt l).toArray) os) g 0 (srt l).toArray := Sort.holds_grow _ _ os g 0 _ (by simpa using hgl) (Sort.holds_putRow _ _ g 0 l.toArray _ (Sort.holds_ahead _ w n g 0 _ hH) hsz2)
    refine ⟨by simp, .inr ⟨g, cap, cur', ?_, hb, hc1, ?_, hm, ?_, ?_⟩⟩
    · rw [hss]
    · rw [hss]; exact hle
    · omega
    · apply List.ext_getElem?
      intro i
      by_cases hi : i < (srt l).length
      · have h1 := (hHp i (by simpa using hi)).1
        rw [Nat.zero_add] at h1
        simp only [World.cell?, hc1] at h1
        rw [List.getElem?_take, if_pos (by omega), List.getElem?_map, List.getElem?_eq_getElem hi]
        simp [hi] at h1
        simpa [zi] using h1
      · rw [List.getElem?_eq_none (by rw [List.length_take]; omega), List.getElem?_eq_none (by simp; omega)]
end Go.Proofs.Ytmokonaodoiflaa
