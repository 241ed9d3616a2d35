/- A Hash in memory: New, isNone, Len, Copy. -/
import Derived.Test.YtlddoobomjcldaaDoorShaE
import Derived.Test.YtlddoobomjcldaaDoorShaF
namespace Go.Proofs.YtlddoobomjcldaaDoor
open Go.ChangeShapes Go.WideShapes Go.ChangeAt Go.RowKit Go.Deep
set_option linter.unusedVariables false
/-- a Hash's cells -/
def hcells (s : List Nat) (R : List Int) (n : Nat) : List Value := .bool true :: ((s.map fun x : Nat => Value.int .u32 (x : Int)) ++ (R.map (Value.int .u8) ++ [.int .i64 (n : Int)]))
/-- the cells of a Hash that no call made -/
def hzero : List Value := .bool false :: (List.replicate 8 (.int .u32 0) ++ (List.replicate 64 (.int .u8 0) ++ [.int .i64 0]))
theorem hzero_info : (Tryd.prog.info? 123).map (fun i => (i.zero, i.size)) = some (some (.agg hzero.toArray), 74) := by kernel_rfl
theorem hsize : (Tryd.prog.info? 123).map (·.size) = some 74 := (zero_of_info hzero_info).2
theorem hcells_len (s : List Nat) (R : List Int) (n : Nat) (hs : s.length = 8) (hR : R.length = 64) : (hcells s R n).length = 74 := by simp [hcells, hs, hR]
theorem hcells_one (s : List Nat) (R : List Int) (n : Nat) : (hcells s R n).toArray.all (·.oneCell') = true := all_oneCell_toArray fun v hv => by
  simp only [hcells, List.mem_cons, List.mem_append, List.mem_map, List.not_mem_nil, or_false] at hv
  rcases hv with rfl | ⟨x, _, rfl⟩ | ⟨x, _, rfl⟩ | rfl <;> rfl
/-- at block g lies a Hash to which the bytes L were written -/
def HashAt (w : World) (g : Nat) (L : List Int) : Prop :=
  ∃ R : List Int, R.length = 64 ∧ IsBytes R ∧ R.take (L.length % 64) = L.drop (64 * (L.length / 64)) ∧ w.heap[g]? = some (.cells (hcells (nums L) R L.length).toArray 123)
theorem HashAt.of_heap {w w' : World} {g : Nat} {L : List Int} (h : HashAt w g L) (e : w'.heap[g]? = w.heap[g]?) : HashAt w' g L := by
  obtain ⟨R, h1, h2, h3, h4⟩ := h
  exact ⟨R, h1, h2, h3, e.trans h4⟩
theorem HashAt.lt {w : World} {g : Nat} {L : List Int} (h : HashAt w g L) : g < w.heap.size := by
  obtain ⟨R, h1, h2, h3, h4⟩ := h
  exact lt_of_heap h4
theorem first8_len : first8.length = 8 := rfl
theorem first8_all : all32 first8 := by unfold all32; decide
theorem numsN_len (L : List Int) : ∀ n, (numsN L n).length = 8
  | 0 => rfl
  | n + 1 => blk_len _ _ (numsN_len L n)
theorem numsN_all (L : List Int) : ∀ n, all32 (numsN L n)
  | 0 => first8_all
  | n + 1 => blk_all _ _ (numsN_all L n)
theorem nums_len (L : List Int) : (nums L).length = 8 := numsN_len _ _
theorem nums_all (L : List Int) : all32 (nums L) := numsN_all _ _
theorem HashAt.made {w : World} {g : Nat} {L : List Int} (h : HashAt w g L) : w.cell? ⟨g, 0, none⟩ = some (.bool true) := by
  obtain ⟨R, h1, h2, h3, h4⟩ := h
  rw [cell_of_row _ _ 0 _ _ (0, 0) h4]; rfl
theorem HashAt.length {w : World} {g : Nat} {L : List Int} (h : HashAt w g L) : w.cell? ⟨g, 73, none⟩ = some (.int .i64 (L.length : Int)) := by
  obtain ⟨R, h1, h2, h3, h4⟩ := h
  rw [cell_of_row _ _ 73 _ _ (0, 0) h4]
  simp [hcells, nums_len, h1]
theorem isNone_made (g : Nat) (b : Bool) (w : World) (h : w.cell? ⟨g, 0, none⟩ = some (.bool b)) :
    Calls Tryd.prog 78 #[.pointer (some ⟨g, 0, none⟩)] w fun e w' => e = .returned (.bool (!b)) ∧ w' = w := by
  go_enter Tryd.func78, Tryd.ntmps78
  go_wp2
  go_ret
  exact ⟨rfl, rfl⟩
theorem isNone_nil (w : World) :
    Calls Tryd.prog 78 #[.pointer none] w fun e w' => e = .returned (.bool true) ∧ w' = w := by
  go_enter Tryd.func78, Tryd.ntmps78
  go_wp2
  go_ret
  exact ⟨rfl, rfl⟩
theorem firstNumbers_is (w : World) :
    Calls Tryd.prog 77 #[] w fun e w' => e = .returned (.agg (u32s first8)) ∧ Below w.heap.size w w' := by
  go_enter Tryd.func77, Tryd.ntmps77
  go_wp2
  refine bodyPost_ret (results_cell_row rfl _ _ w.heap.size 119 (u32s first8) (0, 0) _ rfl (heap_alloc_last w _) Tryd.underlying119 rfl size8) rfl ⟨rfl, ?_⟩
  exact (Below.refl _ _).alloc (Nat.le_refl _) _
theorem wpList_build_is {ops : Array Oper} {rest : List Oper} {o : Oper} {a : Act} {w : World} {Q : Exit → Act → World → Prop} (hg : o.guard = none) (t : TypeId) (parts : Array (Nat × Operand)) (ho : o.op = .build t parts) (C : Array Value)
    (hf : Tryd.prog.built t (parts.map fun (i, x) => (i, a.eval x)).toList = some C)
    (h : wpList Tryd.prog ops Q rest (a.put o.dst (.agg C)) w) : wpList Tryd.prog ops Q (o :: rest) a w := by
  refine wpList_build hg t parts ho (by rw [hf]; rfl) ?_
  rw [hf]; exact h
theorem new_is (w : World) :
    Calls Tryd.prog 56 #[] w fun e w' => ∃ g, e = .returned (.pointer (some ⟨g, 0, none⟩)) ∧ w.heap.size ≤ g ∧ HashAt w' g [] ∧ Below w.heap.size w w' := by
  go_enter Tryd.func56, Tryd.ntmps56
  go_wp2_with (first | (go_at_call 77; refine (firstNumbers_is _).mono ?_; rintro e w1 ⟨rfl, hb⟩; have HB : Hid (Below w.heap.size w w1) := hb; clear hb) | (refine wpList_build_is rfl 123 _ rfl (hcells first8 (List.replicate 64 0) 0).toArray (by kernel_rfl) ?_; generalize hC : (hcells first8 (List.replicate 64 0) 0).toArray = C; have HC : Hid ((hcells first8 (List.replicate 64 0) 0).toArray = C) := hC; clear hC))
  go_ret
  refine ⟨w1.heap.size, rfl, HB.out.size, ⟨List.replicate 64 0, by simp, bytes_of_mem (fun x hx => by have := List.eq_of_mem_replicate hx; omega), by simp, ?_⟩, HB.out.alloc HB.out.size _⟩
  rw [heap_alloc_last, ← HC.out]; rfl
end Go.Proofs.YtlddoobomjcldaaDoor
