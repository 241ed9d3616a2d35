/- A digest out of the numbers; what comes behind the bytes. -/
import Derived.Test.YtlddoobomjcldaaDoorShaD
namespace Go.Proofs.YtlddoobomjcldaaDoor
open Go.ChangeShapes Go.WideShapes Go.ChangeAt Go.RowKit Go.Deep
set_option linter.unusedVariables false
theorem u8s_set (l : List Int) (i : Nat) (x : Int) : (u8s l).setIfInBounds i (.int .u8 x) = u8s (l.set i x) := by
  simp [u8s, List.map_set]
/-- the first c of D, then zeros -/
def fillN (D : List Int) (n c : Nat) : List Int := D.take c ++ List.replicate (n - c) 0
theorem fillN_len (D : List Int) (n c : Nat) (hD : D.length = n) (hc : c ≤ n) : (fillN D n c).length = n := by simp [fillN]; omega
theorem fillN_step (D : List Int) (n c : Nat) (hD : D.length = n) (hc : c < n) : (fillN D n c).set c (D.getD c 0) = fillN D n (c + 1) := by
  have e : List.replicate (n - c) (0 : Int) = 0 :: List.replicate (n - (c + 1)) 0 := by
    rw [← List.replicate_succ]; congr 1; omega
  have hl : (D.take c).length = c := by simp; omega
  unfold fillN
  rw [e, List.set_append_right _ _ (by omega), hl, Nat.sub_self, List.set_cons_zero]
  have ht : D.take (c + 1) = D.take c ++ [D.getD c 0] := by
    rw [List.take_add_one]
    simp [List.getD, List.getElem?_eq_getElem (show c < D.length by omega)]
  rw [ht, List.append_assoc]; rfl
theorem fillN_all (D : List Int) (n : Nat) (hD : D.length = n) : fillN D n n = D := by
  unfold fillN
  rw [Nat.sub_self, List.take_of_length_le (by omega)]; simp
theorem digL_len (s : List Nat) : (digL s).length = 32 := by simp [digL]
theorem digL_get (s : List Nat) (c : Nat) (h : c < 32) : (digL s).getD c 0 = ((s.getD (c / 4) 0 / 2 ^ (24 - 8 * (c % 4)) % 256 : Nat) : Int) := by
  simp [digL, List.getD, h]
theorem digL_bytes (s : List Nat) : IsBytes (digL s) := bytes_of_mem fun x hx => by
  simp only [digL, List.mem_map] at hx
  obtain ⟨i, _, rfl⟩ := hx
  omega
theorem z32_is : u8s (fillN [] 32 0) = #[.int .u8 0, .int .u8 0, .int .u8 0, .int .u8 0, .int .u8 0, .int .u8 0, .int .u8 0, .int .u8 0, .int .u8 0, .int .u8 0, .int .u8 0, .int .u8 0, .int .u8 0, .int .u8 0, .int .u8 0, .int .u8 0, .int .u8 0, .int .u8 0, .int .u8 0, .int .u8 0, .int .u8 0, .int .u8 0, .int .u8 0, .int .u8 0, .int .u8 0, .int .u8 0, .int .u8 0, .int .u8 0, .int .u8 0, .int .u8 0, .int .u8 0, .int .u8 0] := by kernel_rfl
theorem fill0 (D : List Int) (n : Nat) : fillN D n 0 = fillN [] n 0 := by simp [fillN]
theorem size32 : (Tryd.prog.info? 35).map (·.size) = some 32 := by kernel_rfl
theorem size32l (l : List Int) (h : l.length = 32) : (Tryd.prog.info? 35).map (·.size) = some (u8s l).size := by rw [u8s_size, h]; exact size32
theorem tmodI (c k : Nat) : Int.tmod (c : Int) (k : Int) = ((c % k : Nat) : Int) := by simp [Int.tmod_eq_emod]
set_option maxHeartbeats 4000000 in
theorem digest_is (s : List Nat) (hs : s.length = 8) (w : World) :
    Calls Tryd.prog 81 #[.agg (u32s s)] w fun e w' => e = .returned (.agg (u8s (digL s))) ∧ Below w.heap.size w w' := by
  go_enter Tryd.func81, Tryd.ntmps81
  go_wp2
  go_loopg [5] 32 (fun g i wr => ∃ c : Nat, c ≤ 32 ∧ g = 32 - c ∧ i = .int .i64 c ∧ wr = ((w.alloc (.cells (u32s s) 119)).alloc (.cells (u8s (fillN (digL s) 32 0)) 35)).alloc (.cells (u8s (fillN (digL s) 32 c)) 35))
  case atStart => exact ⟨0, Nat.zero_le _, rfl, rfl, by rw [fill0, z32_is]⟩
  case round =>
    obtain ⟨c, hc, rfl, rfl, rfl⟩ := hrel
    by_cases hlt : c < 32
    · have hg1 := u32s_get s (c / 4) (by omega)
      have hg2 := u8s_get (fillN (digL s) 32 c) c (by rw [fillN_len _ _ _ (digL_len s) hc]; exact hlt)
      have HS : Hid (u8s (fillN (digL s) 32 (c + 1)) = (u8s (fillN (digL s) 32 c)).setIfInBounds c (.int .u8 ((s.getD (c / 4) 0 / 2 ^ (24 - 8 * (c % 4)) % 256 : Nat) : Int))) := by
        show _ = _
        rw [u8s_set, ← digL_get s c hlt, fillN_step _ _ _ (digL_len s) hlt]
      have htd : Int.tdiv (c : Int) 4 = ((c / 4 : Nat) : Int) := tdivI c 4
      have htm : Int.tmod (c : Int) 4 = ((c % 4 : Nat) : Int) := tmodI c 4
      have hr : c % 4 = 0 ∨ c % 4 = 1 ∨ c % 4 = 2 ∨ c % 4 = 3 := by omega
      have hq : c / 4 < 8 := by omega
      generalize s.getD (c / 4) 0 = x at *
      generalize c / 4 = q at *
      generalize fillN (digL s) 32 0 = Z at *
      generalize c % 4 = r at *
      generalize (fillN (digL s) 32 c).getD c 0 = old at *
      rcases hr with rfl | rfl | rfl | rfl
      all_goals
        go_wp2
        go_roundg (32 - (c + 1))
        case measure => omega
        case rel => exact ⟨c + 1, by omega, rfl, by go_num, by rw [HS.out]; simp⟩
    · have e : c = 32 := by omega
      subst e
      rw [fillN_all _ _ (digL_len s)]
      have HZ : Hid ((u8s (fillN (digL s) 32 0)).size = 32) := by
        show _ = _
        rw [u8s_size, fillN_len _ _ _ (digL_len s) (by omega)]
      generalize u8s (fillN (digL s) 32 0) = Z at *
      have hl := digL_len s
      have H1 : Hid ((((w.alloc (.cells (u32s s) 119)).alloc (.cells Z 35)).alloc (.cells (u8s (digL s)) 35)).heap[w.heap.size + 1]? = some (.cells Z 35)) := heap_second _ _ _ _
      have H2 : Hid ((((w.alloc (.cells (u32s s) 119)).alloc (.cells Z 35)).alloc (.cells (u8s (digL s)) 35)).heap[w.heap.size + 1 + 1]? = some (.cells (u8s (digL s)) 35)) := heap_third _ _ _ _
      go_wp2_with (first | (refine wpList_load_row rfl 35 (.tmp 3) rfl (w.heap.size + 1 + 1) rfl 35 (u8s (digL s)) (0, 0) _ H2.out Tryd.underlying35 rfl (size32l _ hl) ?_) | (refine wpList_store_row rfl 35 (.tmp 2) (.tmp 21) rfl (w.heap.size + 1) (u8s (digL s)) rfl rfl 35 Z H1.out (size32l _ hl) (by rw [HZ.out, u8s_size, hl]) (u8s_one _) ?_))
      refine bodyPost_ret (results_cell_row rfl _ _ (w.heap.size + 1) 35 (u8s (digL s)) (0, 0) _ rfl (setRow_heap _ _ _ _ _ _ H1.out) Tryd.underlying35 rfl (size32l _ hl)) rfl ⟨rfl, ?_⟩
      exact below_setRow ((((Below.refl _ _).alloc (Nat.le_refl _) _).alloc (by simp) _).alloc (by simp; omega) _) (by omega) _
end Go.Proofs.YtlddoobomjcldaaDoor
