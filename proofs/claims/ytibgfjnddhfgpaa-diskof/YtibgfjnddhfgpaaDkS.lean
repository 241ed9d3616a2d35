/- What a disk is in memory; disk.New. -/
import Derived.Test.YtibgfjnddhfgpaaDkN
import Derived.Laws.MakeOwn
namespace Go.Proofs.Ytibgfjnddhfgpaa
open Go.ChangeShapes Go.WideShapes Go.ChangeAt Go.RowKit Go.Deep Go.Maps
set_option linter.unusedVariables false
/-- block b is a disk: its durable blocks D, of each block's number the writes W that wait, whether it is up, how many were done, the fuse; all of it lies from block h on. N bounds how many numbers have writes. -/
def DkAt (w : World) (h b N : Nat) (D : List (List Int)) (W : Int → List (List Int)) (up : Bool) (done fuse : Int) : Prop :=
  ∃ (gd cd mb : Nat) (H : Int → Option Hd), h ≤ b ∧ h ≤ mb ∧
    w.heap[b]? = some (.cells #[.slice (some ⟨gd, 0, none⟩) D.length cd, .map (some mb), .bool up, .int .i64 done, .int .i64 fuse] 72) ∧
    OwnB w h (.slice (some ⟨gd, 0, none⟩) D.length cd) D ∧ Is64 D ∧ Sc w mb N H ∧
    (∀ i, H i = none ↔ W i = []) ∧
    (∀ i x, H i = some x → InI i ∧ (∃ g c, x = (g + 1, (W i).length, c) ∧ g ≠ gd) ∧ OwnB w h (hv x) (W i) ∧ Is64 (W i)) ∧
    (∀ i j x y, i ≠ j → H i = some x → H j = some y → x.1 ≠ y.1)
set_option maxHeartbeats 4000000 in
theorem mayHave_is (n : Int) (w : World) : Calls Try.prog 29 #[.int .i64 n] w fun e w' => e = .returned (.bool (decide (1 ≤ n ∧ n ≤ 4096))) ∧ w' = w := by
  by_cases h1 : 1 ≤ n
  · by_cases h2 : n ≤ 4096
    · have e1 : decide (1 ≤ n) = true := by simpa using h1
      have e2 : decide (n ≤ 4096) = true := by simpa using h2
      rw [decide_eq_true (⟨h1, h2⟩ : 1 ≤ n ∧ n ≤ 4096)]
      go_enter Try.func29, Try.ntmps29
      go_wp2_with fail
      go_ret
      exact ⟨rfl, rfl⟩
    · have e1 : decide (1 ≤ n) = true := by simpa using h1
      have e2 : decide (n ≤ 4096) = false := by simpa using h2
      rw [decide_eq_false (fun h : 1 ≤ n ∧ n ≤ 4096 => h2 h.2)]
      go_enter Try.func29, Try.ntmps29
      go_wp2_with fail
      go_ret
      exact ⟨rfl, rfl⟩
  · have e1 : decide (1 ≤ n) = false := by simpa using h1
    rw [decide_eq_false (fun h : 1 ≤ n ∧ n ≤ 4096 => h1 h.1)]
    go_enter Try.func29, Try.ntmps29
    go_wp2_with fail
    go_ret
    exact ⟨rfl, rfl⟩
/-- noughts alone -/
def nought : List Int := List.replicate 64 0
def noughts (n : Nat) : List (List Int) := List.replicate n nought
theorem noughts_64 (n : Nat) : Is64 (noughts n) := fun x hx => by
  rw [(List.mem_replicate.1 hx).2]
  exact ⟨by simp [nought], bytes_of_mem fun y hy => by rw [(List.mem_replicate.1 hy).2]; omega⟩
theorem noughts_flat (n : Nat) : (noughts n).flatten = List.replicate (n * 64) 0 := by
  unfold noughts nought
  rw [List.flatten_replicate_replicate]
theorem z64_at (i : Nat) (h : i < z64.size) : z64[i] = Value.int .u8 0 := by
  simp only [z64, List.getElem_toArray, List.getElem_replicate]
theorem made64 (n : Nat) : madeCells z64 (n * 64) = ((List.replicate (n * 64) (0 : Int)).map (Value.int .u8)).toArray := by
  apply Array.ext'
  simp only [madeCells]
  rw [List.map_replicate, List.eq_replicate_iff]
  refine ⟨by simp, fun b hb => ?_⟩
  simp at hb
  obtain ⟨x, _, rfl⟩ := hb
  have h64 : z64.size = 64 := by simp [z64]
  have hx : x % z64.size < z64.size := Nat.mod_lt _ (by rw [h64]; omega)
  rw [getElem!_pos z64 _ hx]
  exact z64_at _ hx
theorem ownB_made (w : World) (n : Nat) (hn : n ≤ 4096) : OwnB (w.alloc (.cells (madeCells z64 (n * 64)) 75)) w.heap.size (.slice (some ⟨w.heap.size, 0, none⟩) n n) (noughts n) := by
  have hl : (noughts n).length = n := by simp [noughts]
  unfold OwnB bcs
  rw [hl, noughts_flat, made64]
  refine ⟨by simp, .inr ⟨w.heap.size, n, _, rfl, Nat.le_refl _, heap_alloc_new w _, Nat.le_refl _, by simp only [maxLen]; omega, by simp, ?_⟩⟩
  simp
theorem sc_none (w : World) (o : Obj) : Sc ((w.alloc (.map #[] 0)).alloc o) w.heap.size 0 (fun _ => none) := (Sc.empty w).keep ((Below.refl _ _).alloc (Nat.le_refl _) _)
set_option maxHeartbeats 4000000 in
theorem fresh_is (g n c : Nat) (D : List (List Int)) (h : Nat) (hn : D.length = n) (w : World) (hD : OwnB w h (.slice (some ⟨g, 0, none⟩) n c) D) (h64 : Is64 D) (hh : h ≤ w.heap.size) :
    Calls Try.prog 30 #[.slice (some ⟨g, 0, none⟩) n c] w fun e w' => ∃ b, e = .returned (.pointer (some ⟨b, 0, none⟩)) ∧ DkAt w' h b 0 D (fun _ => []) true 0 (-1) ∧ Below w.heap.size w w' := by
  have hmk : (Instr.makeMap 70 none).run Try.prog w = .ok (.map (some w.heap.size)) (w.alloc (.map #[] 0)) := rfl
  have HD : Hid (OwnB w h (.slice (some ⟨g, 0, none⟩) n c) D) := hD
  have H6 : Hid (Is64 D) := h64
  have HN : Hid (D.length = n) := hn
  clear hD h64 hn
  go_enter Try.func30, Try.ntmps30
  go_wp2_with fail
  go_ret
  have hb : Below w.heap.size w ((w.alloc (.map #[] 0)).alloc (.cells #[.slice (some ⟨g, 0, none⟩) n c, .map (some w.heap.size), .bool true, .int .i64 0, .int .i64 (-1)] 72)) := ((Below.refl _ _).alloc (Nat.le_refl _) _).alloc (by simp) _
  refine ⟨w.heap.size + 1, rfl, ⟨g, c, w.heap.size, fun _ => none, by omega, hh, ?_, ?_, H6.out, sc_none w _, (fun i => by simp), (fun i x hx => by cases hx), (fun i j x y _ hx => by cases hx)⟩, hb⟩
  · have := heap_alloc_new (w.alloc (.map #[] 0)) (.cells #[.slice (some ⟨g, 0, none⟩) n c, .map (some w.heap.size), .bool true, .int .i64 0, .int .i64 (-1)] 72)
    rw [show (w.alloc (.map #[] 0)).heap.size = w.heap.size + 1 by simp] at this
    rw [HN.out]
    exact this
  · rw [HN.out]
    exact HD.out.keep hb
set_option maxHeartbeats 4000000 in
theorem new_bad (n : Int) (hn : ¬ (1 ≤ n ∧ n ≤ 4096)) (w : World) : Calls Try.prog 9 #[.int .i64 n] w fun e w' => e = .returned (.tuple #[.pointer none, .int .i64 2]) ∧ w' = w := by
  have K : Hid (Calls Try.prog 29 #[.int .i64 n] w fun e w' => e = .returned (.bool false) ∧ w' = w) := by
    have := mayHave_is n w
    rw [decide_eq_false hn] at this
    exact this
  go_enter Try.func9, Try.ntmps9
  go_wp2_with fail
  refine K.out.mono ?_
  rintro e w1 ⟨rfl, hw⟩
  obtain rfl := hw.symm
  go_wp2_with fail
  go_ret2
  exact ⟨rfl, rfl⟩
set_option maxHeartbeats 4000000 in
theorem new_is (n : Nat) (h1 : 1 ≤ n) (h2 : n ≤ 4096) (w : World) : Calls Try.prog 9 #[.int .i64 (n : Int)] w fun e w' => ∃ b, e = .returned (.tuple #[.pointer (some ⟨b, 0, none⟩), .int .i64 0]) ∧ DkAt w' w.heap.size b 0 (noughts n) (fun _ => []) true 0 (-1) ∧ Below w.heap.size w w' := by
  have K : Hid (Calls Try.prog 29 #[.int .i64 (n : Int)] w fun e w' => e = .returned (.bool true) ∧ w' = w) := by
    have := mayHave_is n w
    rw [decide_eq_true (by omega)] at this
    exact this
  have hmk : (Instr.makeSlice 66 (.int .i64 (n : Int)) (.int .i64 (n : Int))).run Try.prog w = .ok (.slice (some ⟨w.heap.size, 0, none⟩) n n) (w.alloc (.cells (madeCells z64 (n * 64)) 75)) := by
    obtain ⟨i, hi, hz, hs, hb⟩ := infoB
    have := run_make (P := Try.prog) w 66 75 i _ Try.underlying66 hi hz .i64 .i64 (n : Int) (n : Int) (by omega) (Int.le_refl _) (by rw [hb]; omega) (by omega)
    rw [hs] at this
    simpa [show (Value.agg z64).cells = z64 from rfl] using this
  have KF : Hid (Calls Try.prog 30 #[.slice (some ⟨w.heap.size, 0, none⟩) n n] (w.alloc (.cells (madeCells z64 (n * 64)) 75)) fun e w' => ∃ b, e = .returned (.pointer (some ⟨b, 0, none⟩)) ∧ DkAt w' w.heap.size b 0 (noughts n) (fun _ => []) true 0 (-1) ∧ Below (w.alloc (.cells (madeCells z64 (n * 64)) 75)).heap.size (w.alloc (.cells (madeCells z64 (n * 64)) 75)) w') := fresh_is w.heap.size n n (noughts n) w.heap.size (by simp [noughts]) _ (ownB_made w n h2) (noughts_64 n) (by simp)
  have B0 : Hid (Below w.heap.size w (w.alloc (.cells (madeCells z64 (n * 64)) 75))) := (Below.refl _ _).alloc (Nat.le_refl _) _
  generalize madeCells z64 (n * 64) = mc at *
  go_enter Try.func9, Try.ntmps9
  go_wp2_with fail
  refine K.out.mono ?_
  rintro e w1 ⟨rfl, hw⟩
  obtain rfl := hw.symm
  clear hw K
  go_wp2_with fail
  refine KF.out.mono ?_
  rintro e w2 ⟨b, rfl, hd, hb2⟩
  have HD : Hid (DkAt w2 w.heap.size b 0 (noughts n) (fun _ => []) true 0 (-1)) := hd
  have B2 : Hid (Below w.heap.size w w2) := B0.out.trans (hb2.mono B0.out.size)
  clear hd hb2 KF
  go_wp2_with fail
  go_ret2
  exact ⟨b, rfl, HD.out, B2.out⟩
end Go.Proofs.Ytibgfjnddhfgpaa
