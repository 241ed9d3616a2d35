/- What a block makes of the numbers: behind. A digest out of the numbers; what comes behind the bytes. Digests held against each other. -/
import Derived.Test.YtlddoobomjcldaaDoorMgMc8
import Derived.Laws.StructEq
namespace Go.Proofs.YtlddoobomjcldaaDoor
open Go.ChangeShapes Go.WideShapes Go.ChangeAt Go.RowKit Go.Deep
set_option linter.unusedVariables false
/-- the table of the numbers k lies where the program lays it -/
def KIs (w : World) : Prop := ∀ i, i < 64 → w.cell? ⟨0, i, none⟩ = some (.int .u32 ((kT.getD i 0 : Nat) : Int))
theorem KIs.below {w w' : World} {B : Nat} (h : KIs w) (hb : Below B w w') (h0 : 0 < B) : KIs w' := fun i hi => by
  rw [hb.cell (p := ⟨0, i, none⟩) h0]
  exact h i hi
theorem KIs.pos {w : World} (h : KIs w) : 0 < w.heap.size := World.block_lt_of_cell? _ _ (h 0 (by decide))
theorem kT_all : all32 kT := by unfold all32; decide
theorem tn_len (s W : List Nat) (h : s.length = 8) : ∀ c, (tn s W c).length = 8
  | 0 => h
  | c + 1 => turn_len _ _
theorem tn_all (s W : List Nat) (h : all32 s) : ∀ c, all32 (tn s W c)
  | 0 => h
  | c + 1 => turn_all _ _ (tn_all s W h c)
theorem adds_len (s t : List Nat) (h : s.length = 8) : ∀ c, (adds s t c).length = 8
  | 0 => h
  | c + 1 => by simp [adds, adds_len s t h c]
theorem adds_all (s t : List Nat) (h : all32 s) : ∀ c, all32 (adds s t c)
  | 0 => h
  | c + 1 => (adds_all s t h c).set _ _ (ad_lt _ _)
theorem blk_len (s : List Nat) (B : List Int) (h : s.length = 8) : (blk s B).length = 8 := adds_len _ _ h _
theorem blk_all (s : List Nat) (B : List Int) (h : all32 s) : all32 (blk s B) := adds_all _ _ h _
def z8s : Array Value := #[.int .u32 0, .int .u32 0, .int .u32 0, .int .u32 0, .int .u32 0, .int .u32 0, .int .u32 0, .int .u32 0]
theorem heap4 (w : World) (a b c d : Obj) : ((((w.alloc a).alloc b).alloc c).alloc d).heap[w.heap.size]? = some a ∧ ((((w.alloc a).alloc b).alloc c).alloc d).heap[w.heap.size + 1]? = some b ∧ ((((w.alloc a).alloc b).alloc c).alloc d).heap[w.heap.size + 2]? = some c ∧ ((((w.alloc a).alloc b).alloc c).alloc d).heap[w.heap.size + 3]? = some d := by
  refine ⟨?_, ?_, ?_, ?_⟩
  · rw [Below.heap_alloc _ _ _ (by simp; omega)]; exact heap_first w a b c
  · rw [Below.heap_alloc _ _ _ (by simp)]; exact heap_second w a b c
  · rw [Below.heap_alloc _ _ _ (by simp)]; exact heap_third w a b c
  · have := heap_alloc_last (((w.alloc a).alloc b).alloc c) d
    rwa [World.size_alloc, World.size_alloc, World.size_alloc] at this
theorem wp_store_one {op : Oper} {a : Act} {w : World} {K : Act → World → Prop} {Q : Exit → Act → World → Prop} (ty : TypeId) (x y : Operand) (ho : op.op = .store ty x y)
    (b o : Nat) (k : IntKind) (v : Int) (hx : a.eval x = .pointer (some ⟨b, o, none⟩)) (hy : a.eval y = .int k v)
    (hc : (w.cell? ⟨b, o, none⟩).isSome = true) (hf : w.frozen? ⟨b, o, none⟩ = false) (hi : (Tryd.prog.info? ty).map (·.size) = some 1)
    (h : K (a.put op.dst undef) (w.setCell ⟨b, o, none⟩ (.int k v))) : op.wp Tryd.prog a w K Q := by
  have hr := run_storeCells_cells (P := Tryd.prog) b o [.int k v] 0 w (fun j hj => by obtain rfl : j = 0 := (by simpa using hj); exact hc) (fun j hj => by obtain rfl : j = 0 := (by simpa using hj); exact hf) (fun u hu => by obtain rfl : u = .int k v := (by simpa using hu); rfl)
  cases hq : Tryd.prog.info? ty with
  | none => simp [hq] at hi
  | some i =>
    have hs : i.size = 1 := by simpa [hq] using hi
    have hr' : (storeCells ⟨b, o, none⟩ [.int k v] 0).run Tryd.prog w = .ok () (w.setCell ⟨b, o, none⟩ (.int k v)) := hr
    have hst : (storeVar ty ⟨b, o, none⟩ (.int k v)).run Tryd.prog w = .ok () (w.setCell ⟨b, o, none⟩ (.int k v)) := by
      simp [storeVar, sizeOf, typeInfo, hq, hs, Value.cells, hr']
    unfold Oper.wp execOp
    simp only [ho, hx, hy, Instr.storeAt, Instr.sureAddr, Sem.run_bind, Sem.run_pure, Result.andThen_ok, hst]
    exact h
set_option maxRecDepth 100000 in
set_option maxHeartbeats 4000000 in
theorem behind_is (s : List Nat) (hs : s.length = 8) (ha : all32 s) (B : List Int) (hB : B.length = 64) (hb : IsBytes B) (w : World) (hk : KIs w) :
    Calls Tryd.prog 79 #[.agg (u32s s), .agg (u8s B)] w fun e w' => e = .returned (.agg (u32s (blk s B))) ∧ Below w.heap.size w w' := by
  have HK : Hid (KIs w) := hk
  have HBy : Hid (IsBytes B) := hb
  have HA : Hid (all32 s) := ha
  clear hk hb ha
  have R0 : Hid ((((w.alloc (.cells (u32s s) 119)).alloc (.cells (u8s B) 121)).alloc (.cells #[.int .u32 0, .int .u32 0, .int .u32 0, .int .u32 0, .int .u32 0, .int .u32 0, .int .u32 0, .int .u32 0] 119)).heap[w.heap.size]? = some (.cells (u32s s) 119)) := heap_first _ _ _ _
  have R1 : Hid ((((((w.alloc (.cells (u32s s) 119)).alloc (.cells (u8s B) 121)).alloc (.cells #[.int .u32 0, .int .u32 0, .int .u32 0, .int .u32 0, .int .u32 0, .int .u32 0, .int .u32 0, .int .u32 0] 119))).alloc (.cells #[.int .u32 0, .int .u32 0, .int .u32 0, .int .u32 0, .int .u32 0, .int .u32 0, .int .u32 0, .int .u32 0] 119)).heap[w.heap.size + 1 + 1 + 1]? = some (.cells #[.int .u32 0, .int .u32 0, .int .u32 0, .int .u32 0, .int .u32 0, .int .u32 0, .int .u32 0, .int .u32 0] 119)) := (heap4 _ _ _ _ _).2.2.2
  have R2 : Hid (((((((w.alloc (.cells (u32s s) 119)).alloc (.cells (u8s B) 121)).alloc (.cells #[.int .u32 0, .int .u32 0, .int .u32 0, .int .u32 0, .int .u32 0, .int .u32 0, .int .u32 0, .int .u32 0] 119))).alloc (.cells #[.int .u32 0, .int .u32 0, .int .u32 0, .int .u32 0, .int .u32 0, .int .u32 0, .int .u32 0, .int .u32 0] 119)).setRow (w.heap.size + 1 + 1 + 1) (u32s s)).heap[w.heap.size + 1]? = some (.cells (u8s B) 121)) := (setRow_other _ _ _ _ (by omega)).trans (heap4 _ _ _ _ _).2.1
  have HW : Hid (Below w.heap.size w ((((((w.alloc (.cells (u32s s) 119)).alloc (.cells (u8s B) 121)).alloc (.cells #[.int .u32 0, .int .u32 0, .int .u32 0, .int .u32 0, .int .u32 0, .int .u32 0, .int .u32 0, .int .u32 0] 119))).alloc (.cells #[.int .u32 0, .int .u32 0, .int .u32 0, .int .u32 0, .int .u32 0, .int .u32 0, .int .u32 0, .int .u32 0] 119)).setRow (w.heap.size + 1 + 1 + 1) (u32s s))) := below_setRow (((((Below.refl _ _).alloc (Nat.le_refl _) _).alloc (by simp) _).alloc (by simp; omega) _).alloc (by simp; omega) _) (by omega) _
  have HW0 : Hid (((((((w.alloc (.cells (u32s s) 119)).alloc (.cells (u8s B) 121)).alloc (.cells #[.int .u32 0, .int .u32 0, .int .u32 0, .int .u32 0, .int .u32 0, .int .u32 0, .int .u32 0, .int .u32 0] 119))).alloc (.cells #[.int .u32 0, .int .u32 0, .int .u32 0, .int .u32 0, .int .u32 0, .int .u32 0, .int .u32 0, .int .u32 0] 119)).setRow (w.heap.size + 1 + 1 + 1) (u32s s)).heap[w.heap.size]? = some (.cells (u32s s) 119)) := (setRow_other _ _ _ _ (by omega)).trans (heap4 _ _ _ _ _).1
  have HW2 : Hid (((((((w.alloc (.cells (u32s s) 119)).alloc (.cells (u8s B) 121)).alloc (.cells #[.int .u32 0, .int .u32 0, .int .u32 0, .int .u32 0, .int .u32 0, .int .u32 0, .int .u32 0, .int .u32 0] 119))).alloc (.cells #[.int .u32 0, .int .u32 0, .int .u32 0, .int .u32 0, .int .u32 0, .int .u32 0, .int .u32 0, .int .u32 0] 119)).setRow (w.heap.size + 1 + 1 + 1) (u32s s)).heap[w.heap.size + 1 + 1]? = some (.cells #[.int .u32 0, .int .u32 0, .int .u32 0, .int .u32 0, .int .u32 0, .int .u32 0, .int .u32 0, .int .u32 0] 119)) := (setRow_other _ _ _ _ (by omega)).trans (heap4 _ _ _ _ _).2.2.1
  have HW3 : Hid (((((((w.alloc (.cells (u32s s) 119)).alloc (.cells (u8s B) 121)).alloc (.cells #[.int .u32 0, .int .u32 0, .int .u32 0, .int .u32 0, .int .u32 0, .int .u32 0, .int .u32 0, .int .u32 0] 119))).alloc (.cells #[.int .u32 0, .int .u32 0, .int .u32 0, .int .u32 0, .int .u32 0, .int .u32 0, .int .u32 0, .int .u32 0] 119)).setRow (w.heap.size + 1 + 1 + 1) (u32s s)).heap[w.heap.size + 1 + 1 + 1]? = some (.cells (u32s s) 119)) := setRow_heap _ _ _ _ _ _ R1.out
  have HW4 : Hid (((((((w.alloc (.cells (u32s s) 119)).alloc (.cells (u8s B) 121)).alloc (.cells #[.int .u32 0, .int .u32 0, .int .u32 0, .int .u32 0, .int .u32 0, .int .u32 0, .int .u32 0, .int .u32 0] 119))).alloc (.cells #[.int .u32 0, .int .u32 0, .int .u32 0, .int .u32 0, .int .u32 0, .int .u32 0, .int .u32 0, .int .u32 0] 119)).setRow (w.heap.size + 1 + 1 + 1) (u32s s)).heap.size = w.heap.size + 4) := by
    show _ = _
    simp [World.setRow]
  go_enter Tryd.func79, Tryd.ntmps79
  go_wp2_with (first | (refine wpList_load_row rfl 119 (.tmp 2) rfl w.heap.size rfl 119 (u32s s) (0, 0) _ R0.out Tryd.underlying119 rfl (size8l s hs) ?_) | (refine wpList_store_row rfl 119 (.tmp 5) (.tmp 9) rfl (w.heap.size + 1 + 1 + 1) (u32s s) rfl rfl 119 #[.int .u32 0, .int .u32 0, .int .u32 0, .int .u32 0, .int .u32 0, .int .u32 0, .int .u32 0, .int .u32 0] R1.out (size8l s hs) (by rw [u32s_size, hs]; rfl) (u32s_one _) ?_) | (refine wpList_load_row rfl 121 (.tmp 3) rfl (w.heap.size + 1) rfl 121 (u8s B) (0, 0) _ R2.out Tryd.underlying121 rfl (size64bl B hB) ?_) | (go_at_call 95; refine (words_is B hB HBy.out _).mono ?_; rintro e w5 ⟨rfl, hb5⟩; have B5 : Hid (Below _ _ w5) := hb5; clear hb5))
  have hWl := words_len B
  have HWa : Hid (all32 (words B)) := words_all B
  have B6 : Hid (Below w.heap.size w w5 ∧ w5.heap[w.heap.size]? = some (.cells (u32s s) 119) ∧ w5.heap[w.heap.size + 1 + 1]? = some (.cells #[.int .u32 0, .int .u32 0, .int .u32 0, .int .u32 0, .int .u32 0, .int .u32 0, .int .u32 0, .int .u32 0] 119) ∧ w5.heap[w.heap.size + 1 + 1 + 1]? = some (.cells (u32s s) 119)) := by
    have hz := HW4.out
    refine ⟨HW.out.trans (B5.out.mono (by rw [hz]; omega)), (B5.out.block _ (by rw [hz]; omega)).trans HW0.out, (B5.out.block _ (by rw [hz]; omega)).trans HW2.out, (B5.out.block _ (by rw [hz]; omega)).trans HW3.out⟩
  have HF : Hid (blk s B = adds s (tn s (words B) 64) 8) := rfl
  clear B5 HW HW0 HW2 HW3 HW4 R0 R1 R2 HBy
  generalize words B = V at *
  go_loopg [12] 64 (fun g i wr => ∃ c : Nat, c ≤ 64 ∧ g = 64 - c ∧ i = .int .i64 c ∧ Below w.heap.size w wr ∧ wr.heap[w.heap.size]? = some (.cells (u32s s) 119) ∧ wr.heap[w.heap.size + 1 + 1]? = some (.cells #[.int .u32 0, .int .u32 0, .int .u32 0, .int .u32 0, .int .u32 0, .int .u32 0, .int .u32 0, .int .u32 0] 119) ∧ wr.heap[w.heap.size + 1 + 1 + 1]? = some (.cells (u32s (tn s V c)) 119))
  case atStart => exact ⟨0, Nat.zero_le _, rfl, rfl, B6.out.1, B6.out.2.1, B6.out.2.2.1, B6.out.2.2.2⟩
  case round =>
    obtain ⟨c, hc, rfl, rfl, hbel, h0, h2, h3⟩ := hrel
    clear B6
    have G : Hid (Below w.heap.size w wr ∧ wr.heap[w.heap.size]? = some (.cells (u32s s) 119) ∧ wr.heap[w.heap.size + 1 + 1]? = some (.cells #[.int .u32 0, .int .u32 0, .int .u32 0, .int .u32 0, .int .u32 0, .int .u32 0, .int .u32 0, .int .u32 0] 119) ∧ wr.heap[w.heap.size + 1 + 1 + 1]? = some (.cells (u32s (tn s V c)) 119)) := ⟨hbel, h0, h2, h3⟩
    clear hbel h0 h2 h3
    by_cases hlt : c < 64
    · have hl := tn_len s V hs c
      have HL : Hid (all32 (tn s V c)) := tn_all s V HA.out c
      have HS : Hid (tn s V (c + 1) = turn (tn s V c) (ad (kT.getD c 0) (V.getD c 0))) := rfl
      have hg1 := u32s_get V c (by omega)
      have hix := fun W : World => run_index_cell W 129 76 64 (u32s V) c _ Tryd.underlying129 hlt (by kernel_rfl) .u32 Tryd.underlying76 hg1
      have HKr : Hid (KIs wr) := HK.out.below G.out.1 HK.out.pos
      have hkc := HKr.out c hlt
      have HKc : Hid (∀ W : World, KIs W → W.cell? ⟨0, c, none⟩ = some (.int .u32 ((kT.getD c 0 : Nat) : Int))) := fun W h => h c hlt
      have av : IntKind.u32.wrap (((kT.getD c 0 : Nat) : Int) + ((V.getD c 0 : Nat) : Int)) = ((ad (kT.getD c 0) (V.getD c 0) : Nat) : Int) := by
        rw [IntKind.wrap_u32]; exact add32 _ _
      have hx := ad_lt (kT.getD c 0) (V.getD c 0)
      clear hg1
      generalize kT.getD c 0 = kc at *
      generalize V.getD c 0 = vc at *
      generalize tn s V c = l at *
      have i0 : (c : Int) < 64 := by omega
      go_wp2_with fail
      refine wp_region_noPanic ?_
      refine wp_region_held_drew (S := (fun W : World => W.cell? ⟨0, c, none⟩ = some (.int .u32 (kc : Nat)))) (by kernel_rfl) ?hSaA (fun hHeld => ?restaA)
      case hSaA => exact hkc
      case restaA =>
        refine wpAnyH_take (i := 1) (v := ?v1A) rfl (by kernel_rfl) (by kernel_rfl) (by kernel_rfl) (fun _ _ _ h => h) (Or.inl ⟨by rfl, ?hy1A⟩) hHeld ?rest1A
        case hy1A => (intro w hSw; (try dsimp only at hSw); go_simp; try with_reducible rfl)
        try simp only [Act.put, List.setIfInBounds_toArray, List.set_cons_zero, List.set_cons_succ, List.getElem_toArray, List.getElem_cons_zero, List.getElem_cons_succ]
        refine wpAnyH_take (i := 2) (v := ?v2A) rfl (by kernel_rfl) (by kernel_rfl) (by kernel_rfl) (fun _ _ _ h => h) (Or.inl ⟨by rfl, ?hy2A⟩) hHeld ?rest2A
        case hy2A => (intro w hSw; (try dsimp only at hSw); go_simp; try with_reducible rfl)
        try simp only [Act.put, List.setIfInBounds_toArray, List.set_cons_zero, List.set_cons_succ, List.getElem_toArray, List.getElem_cons_zero, List.getElem_cons_succ]
        refine wpAnyH_take (i := 3) (v := .int .u32 (kc : Nat)) rfl (by kernel_rfl) (by kernel_rfl) (by kernel_rfl) (fun _ _ _ h => h) (Or.inl ⟨by rfl, ?hy3A⟩) hHeld ?rest3A
        case hy3A => (intro w hSw; (try dsimp only at hSw); go_simp; try with_reducible rfl)
        try simp only [Act.put, List.setIfInBounds_toArray, List.set_cons_zero, List.set_cons_succ, List.getElem_toArray, List.getElem_cons_zero, List.getElem_cons_succ]
        refine wpAnyH_take (i := 4) (v := ?v4A) rfl (by kernel_rfl) (by kernel_rfl) (by kernel_rfl) (fun _ _ _ h => h) (Or.inl ⟨by rfl, ?hy4A⟩) hHeld ?rest4A
        case hy4A => (intro w hSw; (try dsimp only at hSw); go_simp; try with_reducible rfl)
        try simp only [Act.put, List.setIfInBounds_toArray, List.set_cons_zero, List.set_cons_succ, List.getElem_toArray, List.getElem_cons_zero, List.getElem_cons_succ]
        refine wpAnyH_take (i := 5) (v := .int .u32 (ad kc vc : Nat)) rfl (by kernel_rfl) (by kernel_rfl) (by kernel_rfl) (fun _ _ _ h => h) (Or.inl ⟨by rfl, ?hy5A⟩) hHeld ?rest5A
        case hy5A => (intro w hSw; (try dsimp only at hSw); go_simp; try with_reducible rfl)
        try simp only [Act.put, List.setIfInBounds_toArray, List.set_cons_zero, List.set_cons_succ, List.getElem_toArray, List.getElem_cons_zero, List.getElem_cons_succ]
        refine wpAnyH_ready (rs := [0]) (by kernel_rfl) (by simp) ?_
        refine AllReadyH.cons rfl (fun K hK => ?_) AllReadyH.nil
        rw [if_pos (by kernel_rfl)]; refine wp_load_row 119 (.tmp 5) rfl (w.heap.size + 1 + 1 + 1) rfl 119 (u32s l) (0, 0) _ G.out.2.2.2 Tryd.underlying119 rfl (size8l l hl) ?_
        refine hK.out _ _ ?hS0A (fun hHeld => ?rest0A)
        case hS0A => exact hkc
        clear hK K
        try simp only [Act.put, List.setIfInBounds_toArray, List.set_cons_zero, List.set_cons_succ, List.getElem_toArray, List.getElem_cons_zero]
        refine wpAnyH_ready (rs := [6]) (by kernel_rfl) (by simp) ?_
        refine AllReadyH.cons rfl (fun K hK => ?_) AllReadyH.nil
        go_simp; refine (turned_is l hl HL.out _ hx _).mono ?_; rintro e w6 ⟨rfl, hb6⟩; have B6 : Hid (Below wr.drew.heap.size wr.drew w6) := hb6; clear hb6; go_wp2_with fail
        refine hK.out _ _ ?hS6A (fun hHeld => ?rest6A)
        case hS6A => exact HKc.out _ (HKr.out.below (w := wr.drew) B6.out HKr.out.pos)
        clear hK K
        try simp only [Act.put, List.setIfInBounds_toArray, List.set_cons_zero, List.set_cons_succ, List.getElem_toArray, List.getElem_cons_zero, List.getElem_cons_succ]
        have h6 : Hid (w6.heap[w.heap.size + 1 + 1 + 1]? = some (.cells (u32s l) 119)) := (B6.out.block _ (lt_of_heap G.out.2.2.2)).trans G.out.2.2.2
        have G6 : Hid (Below w.heap.size w w6) := G.out.1.drew.trans (B6.out.mono (Nat.le_trans G.out.1.size (Nat.le_refl _)))
        have G7 : Hid (Below w.heap.size w (w6.setRow (w.heap.size + 1 + 1 + 1) (u32s (turn l (ad kc vc))))) := below_setRow G6.out (by omega) _
        refine wpAnyH_ready (rs := [7]) (by kernel_rfl) (by simp) ?_
        refine AllReadyH.cons rfl (fun K hK => ?_) AllReadyH.nil
        rw [if_pos (by kernel_rfl)]; refine wp_store_row 119 (.tmp 5) (.tmp 22) rfl (w.heap.size + 1 + 1 + 1) (u32s (turn l (ad kc vc))) rfl rfl 119 (u32s l) h6.out (size8l _ (turn_len _ _)) (by rw [u32s_size, u32s_size, hl, turn_len]) (u32s_one _) ?_
        refine hK.out _ _ ?hS7A (fun hHeld => ?rest7A)
        case hS7A => exact HKc.out _ (HK.out.below G7.out HK.out.pos)
        clear hK K
        refine wpAnyH_done (by kernel_rfl) ?_ _
        refine NoPanic.normal ?_
        go_wp2_with fail
        go_roundg (64 - (c + 1))
        case measure => omega
        case rel =>
          refine ⟨c + 1, by omega, rfl, by go_num, G7.out, ?_, ?_, ?_⟩
          · exact (setRow_other _ _ _ _ (by omega)).trans ((B6.out.block _ (lt_of_heap G.out.2.1)).trans G.out.2.1)
          · exact (setRow_other _ _ _ _ (by omega)).trans ((B6.out.block _ (lt_of_heap G.out.2.2.1)).trans G.out.2.2.1)
          · have := setRow_heap w6 (w.heap.size + 1 + 1 + 1) _ (u32s (turn l (ad kc vc))) 119 (0, 0) h6.out
            rw [HS.out]; exact this
    · have e : c = 64 := by omega
      subst e
      clear hlt hc HWa hWl
      have hl := tn_len s V hs 64
      generalize tn s V 64 = l at *
      go_wp2_with fail
      go_loopg [24] 8 (fun g i wr => ∃ c : Nat, c ≤ 8 ∧ g = 8 - c ∧ i = .int .i64 c ∧ Below w.heap.size w wr ∧ wr.heap[w.heap.size]? = some (.cells (u32s (adds s l c)) 119) ∧ wr.heap[w.heap.size + 1 + 1]? = some (.cells #[.int .u32 0, .int .u32 0, .int .u32 0, .int .u32 0, .int .u32 0, .int .u32 0, .int .u32 0, .int .u32 0] 119) ∧ wr.heap[w.heap.size + 1 + 1 + 1]? = some (.cells (u32s l) 119))
      case atStart => exact ⟨0, Nat.zero_le _, rfl, rfl, G.out.1, G.out.2.1, G.out.2.2.1, G.out.2.2.2⟩
      case round =>
        clear G
        obtain ⟨c, hc, rfl, rfl, hbel, h0, h2, h3⟩ := hrel
        have G : Hid (Below w.heap.size w wr ∧ wr.heap[w.heap.size]? = some (.cells (u32s (adds s l c)) 119) ∧ wr.heap[w.heap.size + 1 + 1]? = some (.cells #[.int .u32 0, .int .u32 0, .int .u32 0, .int .u32 0, .int .u32 0, .int .u32 0, .int .u32 0, .int .u32 0] 119) ∧ wr.heap[w.heap.size + 1 + 1 + 1]? = some (.cells (u32s l) 119)) := ⟨hbel, h0, h2, h3⟩
        clear hbel h0 h2 h3
        by_cases hlt : c < 8
        · have hal := adds_len s l hs c
          have HS : Hid (u32s (adds s l (c + 1)) = (u32s (adds s l c)).setIfInBounds c (.int .u32 ((ad ((adds s l c).getD c 0) (l.getD c 0) : Nat) : Int))) := by
            show _ = _
            rw [u32s_set]; rfl
          have cs : wr.cell? ⟨w.heap.size, c, none⟩ = _ := (cell_of_row _ _ c _ _ (0, 0) G.out.2.1).trans (u32s_get (adds s l c) c (by omega))
          have cl : wr.cell? ⟨w.heap.size + 1 + 1 + 1, c, none⟩ = _ := (cell_of_row _ _ c _ _ (0, 0) G.out.2.2.2).trans (u32s_get l c (by omega))
          have av : IntKind.u32.wrap ((((adds s l c).getD c 0 : Nat) : Int) + ((l.getD c 0 : Nat) : Int)) = ((ad ((adds s l c).getD c 0) (l.getD c 0) : Nat) : Int) := by
            rw [IntKind.wrap_u32]; exact add32 _ _
          have fz : wr.drew.frozen? ⟨w.heap.size, c, none⟩ = false := by simp only [World.frozen?, show wr.drew.heap[w.heap.size]? = _ from G.out.2.1]; simp
          generalize (adds s l c).getD c 0 = x at *
          generalize l.getD c 0 = y at *
          have i0 : (c : Int) < 8 := by omega
          go_wp2_with fail
          refine wp_region_noPanic ?_
          refine wp_region_held_drew (S := (fun W : World => W.cell? ⟨w.heap.size + 1 + 1 + 1, c, none⟩ = some (.int .u32 (y : Nat)))) (by kernel_rfl) ?hSaB (fun hHeld => ?restaB)
          case hSaB => exact cl
          case restaB =>
            have cd : wr.drew.cell? ⟨w.heap.size, c, none⟩ = some (.int .u32 (x : Nat)) := cs
            have KW : Hid (Below w.heap.size w (wr.drew.setCell ⟨w.heap.size, c, none⟩ (.int .u32 (ad x y : Nat))) ∧ (wr.drew.setCell ⟨w.heap.size, c, none⟩ (.int .u32 (ad x y : Nat))).heap[w.heap.size]? = some (.cells (u32s (adds s l (c + 1))) 119) ∧ (wr.drew.setCell ⟨w.heap.size, c, none⟩ (.int .u32 (ad x y : Nat))).heap[w.heap.size + 1 + 1]? = some (.cells #[.int .u32 0, .int .u32 0, .int .u32 0, .int .u32 0, .int .u32 0, .int .u32 0, .int .u32 0, .int .u32 0] 119) ∧ (wr.drew.setCell ⟨w.heap.size, c, none⟩ (.int .u32 (ad x y : Nat))).heap[w.heap.size + 1 + 1 + 1]? = some (.cells (u32s l) 119) ∧ (wr.drew.setCell ⟨w.heap.size, c, none⟩ (.int .u32 (ad x y : Nat))).cell? ⟨w.heap.size + 1 + 1 + 1, c, none⟩ = some (.int .u32 (y : Nat))) := by
              have k2 := heap_setCell_mine wr.drew w.heap.size c _ _ _ G.out.2.1 (.int .u32 (ad x y : Nat))
              rw [← HS.out] at k2
              exact ⟨G.out.1.drew.setCell (p := ⟨w.heap.size, c, none⟩) (Nat.le_refl _) _, k2, (Below.heap_setCell wr.drew _ _ _ (by show w.heap.size + 1 + 1 ≠ w.heap.size; omega)).trans G.out.2.2.1, (Below.heap_setCell wr.drew _ _ _ (by show w.heap.size + 1 + 1 + 1 ≠ w.heap.size; omega)).trans G.out.2.2.2, by rw [World.cell?_setCell_other _ _ _ _ (by simp)]; exact cl⟩
            refine wpAnyH_take (i := 0) (v := ?v0B) rfl (by kernel_rfl) (by kernel_rfl) (by kernel_rfl) (fun _ _ _ h => h) (Or.inl ⟨by rfl, ?hy0B⟩) hHeld ?rest0B
            case hy0B => (intro w hSw; (try dsimp only at hSw); go_simp; try with_reducible rfl)
            try simp only [Act.put, List.setIfInBounds_toArray, List.set_cons_zero, List.set_cons_succ, List.getElem_toArray, List.getElem_cons_zero]
            refine wpAnyH_take (i := 1) (v := ?v1B) rfl (by kernel_rfl) (by kernel_rfl) (by kernel_rfl) (fun _ _ _ h => h) (Or.inl ⟨by rfl, ?hy1B⟩) hHeld ?rest1B
            case hy1B => (intro w hSw; (try dsimp only at hSw); go_simp; try with_reducible rfl)
            try simp only [Act.put, List.setIfInBounds_toArray, List.set_cons_zero, List.set_cons_succ, List.getElem_toArray, List.getElem_cons_zero, List.getElem_cons_succ]
            refine wpAnyH_take (i := 3) (v := ?v3B) rfl (by kernel_rfl) (by kernel_rfl) (by kernel_rfl) (fun _ _ _ h => h) (Or.inl ⟨by rfl, ?hy3B⟩) hHeld ?rest3B
            case hy3B => (intro w hSw; (try dsimp only at hSw); go_simp; try with_reducible rfl)
            try simp only [Act.put, List.setIfInBounds_toArray, List.set_cons_zero, List.set_cons_succ, List.getElem_toArray, List.getElem_cons_zero, List.getElem_cons_succ]
            refine wpAnyH_take (i := 4) (v := ?v4B) rfl (by kernel_rfl) (by kernel_rfl) (by kernel_rfl) (fun _ _ _ h => h) (Or.inl ⟨by rfl, ?hy4B⟩) hHeld ?rest4B
            case hy4B => (intro w hSw; (try dsimp only at hSw); go_simp; try with_reducible rfl)
            try simp only [Act.put, List.setIfInBounds_toArray, List.set_cons_zero, List.set_cons_succ, List.getElem_toArray, List.getElem_cons_zero, List.getElem_cons_succ]
            refine wpAnyH_take (i := 5) (v := .int .u32 (y : Nat)) rfl (by kernel_rfl) (by kernel_rfl) (by kernel_rfl) (fun _ _ _ h => h) (Or.inl ⟨by rfl, ?hy5B⟩) hHeld ?rest5B
            case hy5B => (intro w hSw; (try dsimp only at hSw); go_simp; try with_reducible rfl)
            try simp only [Act.put, List.setIfInBounds_toArray, List.set_cons_zero, List.set_cons_succ, List.getElem_toArray, List.getElem_cons_zero, List.getElem_cons_succ]
            refine wpAnyH_ready (rs := [2]) (by kernel_rfl) (by simp) ?_
            refine AllReadyH.cons rfl (fun K hK => ?_) AllReadyH.nil
            go_wp2_with fail
            refine hK.out _ _ ?hS2B (fun hHeld => ?rest2B)
            case hS2B => exact cl
            clear hK K
            try simp only [Act.put, List.setIfInBounds_toArray, List.set_cons_zero, List.set_cons_succ, List.getElem_toArray, List.getElem_cons_zero, List.getElem_cons_succ]
            refine wpAnyH_take (i := 6) (v := .int .u32 (ad x y : Nat)) rfl (by kernel_rfl) (by kernel_rfl) (by kernel_rfl) (fun _ _ _ h => h) (Or.inl ⟨by rfl, ?hy6B⟩) hHeld ?rest6B
            case hy6B => (intro w hSw; (try dsimp only at hSw); go_simp; try with_reducible rfl)
            try simp only [Act.put, List.setIfInBounds_toArray, List.set_cons_zero, List.set_cons_succ, List.getElem_toArray, List.getElem_cons_zero, List.getElem_cons_succ]
            refine wpAnyH_take (i := 7) (v := ?v7B) rfl (by kernel_rfl) (by kernel_rfl) (by kernel_rfl) (fun _ _ _ h => h) (Or.inl ⟨by rfl, ?hy7B⟩) hHeld ?rest7B
            case hy7B => (intro w hSw; (try dsimp only at hSw); go_simp; try with_reducible rfl)
            try simp only [Act.put, List.setIfInBounds_toArray, List.set_cons_zero, List.set_cons_succ, List.getElem_toArray, List.getElem_cons_zero, List.getElem_cons_succ]
            refine wpAnyH_ready (rs := [8]) (by kernel_rfl) (by simp) ?_
            refine AllReadyH.cons rfl (fun K hK => ?_) AllReadyH.nil
            rw [if_pos (by kernel_rfl)]; refine wp_store_one 76 (.tmp 34) (.tmp 33) rfl w.heap.size c .u32 _ rfl rfl (by rw [cd]; rfl) fz (by kernel_rfl) ?_
            refine hK.out _ _ ?hS8B (fun hHeld => ?rest8B)
            case hS8B => exact KW.out.2.2.2.2
            clear hK K
            refine wpAnyH_done (by kernel_rfl) ?_ _
            refine NoPanic.normal ?_
            generalize hWW : (wr.drew.setCell ⟨w.heap.size, c, none⟩ (.int .u32 (ad x y : Nat))) = WW at *
            clear hWW hHeld
            go_wp2_with fail
            go_roundg (8 - (c + 1))
            case measure => omega
            case rel => exact ⟨c + 1, by omega, rfl, by go_num, KW.out.1, KW.out.2.1, KW.out.2.2.1, KW.out.2.2.2.1⟩
        · have e : c = 8 := by omega
          subst e
          have hfl : (blk s B).length = 8 := by rw [HF.out]; exact adds_len s l hs 8
          rw [← HF.out] at G
          clear hlt hc
          go_wp2_with (first | (refine wpList_load_row rfl 119 (.tmp 2) rfl w.heap.size rfl 119 (u32s (blk s B)) (0, 0) _ G.out.2.1 Tryd.underlying119 rfl (size8l _ hfl) ?_) | (refine wpList_store_row rfl 119 (.tmp 4) (.tmp 36) rfl (w.heap.size + 1 + 1) (u32s (blk s B)) rfl rfl 119 #[.int .u32 0, .int .u32 0, .int .u32 0, .int .u32 0, .int .u32 0, .int .u32 0, .int .u32 0, .int .u32 0] G.out.2.2.1 (size8l _ hfl) (by rw [u32s_size, hfl]; rfl) (u32s_one _) ?_))
          refine bodyPost_ret (results_cell_row rfl _ _ (w.heap.size + 1 + 1) 119 (u32s (blk s B)) (0, 0) _ rfl (setRow_heap _ _ _ _ _ _ G.out.2.2.1) Tryd.underlying119 rfl (size8l _ hfl)) rfl ⟨rfl, ?_⟩
          exact below_setRow G.out.1 (by omega) _
end Go.Proofs.YtlddoobomjcldaaDoor
namespace Go.Proofs.YtlddoobomjcldaaDoor
open Go.ChangeShapes Go.WideShapes Go.ChangeAt Go.RowKit Go.Deep
set_option linter.unusedVariables false
theorem u8s_set (l : List Int) (i : Nat) (x : Int) : (u8s l).setIfInBounds i (.int .u8 x) = u8s (l.set i x) := by
  simp [u8s, List.map_set]
/-- the first c of D, then zeros -/
def fillN (D : List Int) (n c : Nat) : List Int := D.take c ++ List.replicate (n - c) 0
theorem fillN_len (D : List Int) (n c : Nat) (hD : D.length = n) (hc : c ≤ n) : (fillN D n c).length = n := by simp [fillN]; omega
theorem fillN_step (D : List Int) (n c : Nat) (hD : D.length = n) (hc : c < n) : (fillN D n c).set c (D.getD c 0) = fillN D n (c + 1) := by
  have e : List.replicate (n - c) (0 : Int) = 0 :: List.replicate (n - (c + 1)) 0 := by
    rw [← List.replicate_succ]; congr 1; omega
  have hl : (D.take c).length = c := by simp; omega
  unfold fillN
  rw [e, List.set_append_right _ _ (by omega), hl, Nat.sub_self, List.set_cons_zero]
  have ht : D.take (c + 1) = D.take c ++ [D.getD c 0] := by
    rw [List.take_add_one]
    simp [List.getD, List.getElem?_eq_getElem (show c < D.length by omega)]
  rw [ht, List.append_assoc]; rfl
theorem fillN_all (D : List Int) (n : Nat) (hD : D.length = n) : fillN D n n = D := by
  unfold fillN
  rw [Nat.sub_self, List.take_of_length_le (by omega)]; simp
theorem digL_len (s : List Nat) : (digL s).length = 32 := by simp [digL]
theorem digL_get (s : List Nat) (c : Nat) (h : c < 32) : (digL s).getD c 0 = ((s.getD (c / 4) 0 / 2 ^ (24 - 8 * (c % 4)) % 256 : Nat) : Int) := by
  simp [digL, List.getD, h]
theorem digL_bytes (s : List Nat) : IsBytes (digL s) := bytes_of_mem fun x hx => by
  simp only [digL, List.mem_map] at hx
  obtain ⟨i, _, rfl⟩ := hx
  omega
theorem z32_is : u8s (fillN [] 32 0) = #[.int .u8 0, .int .u8 0, .int .u8 0, .int .u8 0, .int .u8 0, .int .u8 0, .int .u8 0, .int .u8 0, .int .u8 0, .int .u8 0, .int .u8 0, .int .u8 0, .int .u8 0, .int .u8 0, .int .u8 0, .int .u8 0, .int .u8 0, .int .u8 0, .int .u8 0, .int .u8 0, .int .u8 0, .int .u8 0, .int .u8 0, .int .u8 0, .int .u8 0, .int .u8 0, .int .u8 0, .int .u8 0, .int .u8 0, .int .u8 0, .int .u8 0, .int .u8 0] := by kernel_rfl
theorem fill0 (D : List Int) (n : Nat) : fillN D n 0 = fillN [] n 0 := by simp [fillN]
theorem size32 : (Tryd.prog.info? 35).map (·.size) = some 32 := by kernel_rfl
theorem size32l (l : List Int) (h : l.length = 32) : (Tryd.prog.info? 35).map (·.size) = some (u8s l).size := by rw [u8s_size, h]; exact size32
theorem tmodI (c k : Nat) : Int.tmod (c : Int) (k : Int) = ((c % k : Nat) : Int) := by simp [Int.tmod_eq_emod]
set_option maxHeartbeats 4000000 in
theorem digest_is (s : List Nat) (hs : s.length = 8) (w : World) :
    Calls Tryd.prog 81 #[.agg (u32s s)] w fun e w' => e = .returned (.agg (u8s (digL s))) ∧ Below w.heap.size w w' := by
  go_enter Tryd.func81, Tryd.ntmps81
  go_wp2
  go_loopg [5] 32 (fun g i wr => ∃ c : Nat, c ≤ 32 ∧ g = 32 - c ∧ i = .int .i64 c ∧ wr = ((w.alloc (.cells (u32s s) 119)).alloc (.cells (u8s (fillN (digL s) 32 0)) 35)).alloc (.cells (u8s (fillN (digL s) 32 c)) 35))
  case atStart => exact ⟨0, Nat.zero_le _, rfl, rfl, by rw [fill0, z32_is]⟩
  case round =>
    obtain ⟨c, hc, rfl, rfl, rfl⟩ := hrel
    by_cases hlt : c < 32
    · have hg1 := u32s_get s (c / 4) (by omega)
      have hg2 := u8s_get (fillN (digL s) 32 c) c (by rw [fillN_len _ _ _ (digL_len s) hc]; exact hlt)
      have HS : Hid (u8s (fillN (digL s) 32 (c + 1)) = (u8s (fillN (digL s) 32 c)).setIfInBounds c (.int .u8 ((s.getD (c / 4) 0 / 2 ^ (24 - 8 * (c % 4)) % 256 : Nat) : Int))) := by
        show _ = _
        rw [u8s_set, ← digL_get s c hlt, fillN_step _ _ _ (digL_len s) hlt]
      have htd : Int.tdiv (c : Int) 4 = ((c / 4 : Nat) : Int) := tdivI c 4
      have htm : Int.tmod (c : Int) 4 = ((c % 4 : Nat) : Int) := tmodI c 4
      have hr : c % 4 = 0 ∨ c % 4 = 1 ∨ c % 4 = 2 ∨ c % 4 = 3 := by omega
      have hq : c / 4 < 8 := by omega
      generalize s.getD (c / 4) 0 = x at *
      generalize c / 4 = q at *
      generalize fillN (digL s) 32 0 = Z at *
      generalize c % 4 = r at *
      generalize (fillN (digL s) 32 c).getD c 0 = old at *
      rcases hr with rfl | rfl | rfl | rfl
      all_goals
        go_wp2
        go_roundg (32 - (c + 1))
        case measure => omega
        case rel => exact ⟨c + 1, by omega, rfl, by go_num, by rw [HS.out]; simp⟩
    · have e : c = 32 := by omega
      subst e
      rw [fillN_all _ _ (digL_len s)]
      have HZ : Hid ((u8s (fillN (digL s) 32 0)).size = 32) := by
        show _ = _
        rw [u8s_size, fillN_len _ _ _ (digL_len s) (by omega)]
      generalize u8s (fillN (digL s) 32 0) = Z at *
      have hl := digL_len s
      have H1 : Hid ((((w.alloc (.cells (u32s s) 119)).alloc (.cells Z 35)).alloc (.cells (u8s (digL s)) 35)).heap[w.heap.size + 1]? = some (.cells Z 35)) := heap_second _ _ _ _
      have H2 : Hid ((((w.alloc (.cells (u32s s) 119)).alloc (.cells Z 35)).alloc (.cells (u8s (digL s)) 35)).heap[w.heap.size + 1 + 1]? = some (.cells (u8s (digL s)) 35)) := heap_third _ _ _ _
      go_wp2_with (first | (refine wpList_load_row rfl 35 (.tmp 3) rfl (w.heap.size + 1 + 1) rfl 35 (u8s (digL s)) (0, 0) _ H2.out Tryd.underlying35 rfl (size32l _ hl) ?_) | (refine wpList_store_row rfl 35 (.tmp 2) (.tmp 21) rfl (w.heap.size + 1) (u8s (digL s)) rfl rfl 35 Z H1.out (size32l _ hl) (by rw [HZ.out, u8s_size, hl]) (u8s_one _) ?_))
      refine bodyPost_ret (results_cell_row rfl _ _ (w.heap.size + 1) 35 (u8s (digL s)) (0, 0) _ rfl (setRow_heap _ _ _ _ _ _ H1.out) Tryd.underlying35 rfl (size32l _ hl)) rfl ⟨rfl, ?_⟩
      exact below_setRow ((((Below.refl _ _).alloc (Nat.le_refl _) _).alloc (by simp) _).alloc (by simp; omega) _) (by omega) _
end Go.Proofs.YtlddoobomjcldaaDoor
namespace Go.Proofs.YtlddoobomjcldaaDoor
open Go.ChangeShapes Go.WideShapes Go.ChangeAt Go.RowKit Go.Deep
set_option linter.unusedVariables false
theorem all_range_ints : ∀ (xs ys : List Int), xs.length = ys.length → ((List.range xs.length).all fun i => decide (xs.getD i 0 = ys.getD i 0)) = decide (xs = ys)
  | [], [], _ => rfl
  | x :: xs, y :: ys, h => by
    have ih := all_range_ints xs ys (by simpa using h)
    rw [List.length_cons, List.range_succ_eq_map, List.all_cons, List.all_map]
    simp only [List.getD_cons_zero, Function.comp_def, List.getD_cons_succ, ih]
    by_cases h1 : x = y <;> by_cases h2 : xs = ys <;> simp [h1, h2]
  | [], _ :: _, h => by simp at h
  | _ :: _, [], h => by simp at h
theorem size8_run (w : World) : (sizeOf 5).run Tryd.prog w = .ok 1 w := by
  obtain ⟨i, hi8, _, h1, _⟩ := info8p
  simp [sizeOf, typeInfo, hi8, h1]
theorem equal_digest (d : Nat) (A B : List Int) (hA : A.length = 32) (hB : B.length = 32) (w : World) :
    (Op.equalIn (d + 2) 35 (.agg (u8s A)) (.agg (u8s B))).run Tryd.prog w = .ok (decide (A = B)) w := by
  rw [← all_range_ints A B (hA.trans hB.symm), hA, List.range_eq_range', Op.equalIn]
  simp only [Sem.run_bind, run_underlying Tryd.underlying35, Result.andThen_ok, size8_run, Std.Legacy.Range.forIn_eq_forIn_range', Std.Legacy.Range.size, Nat.sub_zero, Nat.add_sub_cancel, Nat.div_one]
  have hl : ∀ i ∈ List.range' 0 32 1, i < 32 := fun i hi => by simpa using (List.mem_range'_1.1 hi).2
  generalize List.range' 0 32 1 = l at hl ⊢
  induction l with
  | nil => simp
  | cons i l ih =>
    have hi : i < 32 := hl i (by simp)
    have px : (part 5 (u8s A) (i * 1)).run Tryd.prog w = .ok (.int .u8 (A.getD i 0)) w := by
      simp [part, isAgg, run_underlying Tryd.underlying5, u8s, List.getD, List.getElem?_eq_getElem (show i < A.length by omega)]
    have py : (part 5 (u8s B) (i * 1)).run Tryd.prog w = .ok (.int .u8 (B.getD i 0)) w := by
      simp [part, isAgg, run_underlying Tryd.underlying5, u8s, List.getD, List.getElem?_eq_getElem (show i < B.length by omega)]
    have pe : (Op.equalIn (d + 1) 5 (.int .u8 (A.getD i 0)) (.int .u8 (B.getD i 0))).run Tryd.prog w = .ok (decide (A.getD i 0 = B.getD i 0)) w := by
      rw [run_equalIn_int w d 5 .u8 .u8 _ _ Tryd.underlying5]
      congr 1
    simp only [List.forIn_cons, Sem.run_bind, px, py, pe, Result.andThen_ok, List.all_cons]
    cases hb : decide (A.getD i 0 = B.getD i 0)
    · simp
    · simp only [Bool.not_true, Bool.false_eq_true, if_false, Sem.run_pure, Result.andThen_ok, Bool.true_and]
      exact ih fun j hj => hl j (by simp [hj])
theorem eq_digest (A B : List Int) (hA : A.length = 32) (hB : B.length = 32) (w : World) :
    (Op.equalIn 10000 35 (.agg (u8s A)) (.agg (u8s B))).run Tryd.prog w = .ok (decide (A = B)) w := equal_digest 9998 A B hA hB w
theorem guard_digest : Tryd.prog.eqGuardType Tryd.prog.depth 35 = false := by kernel_rfl
theorem wpList_load_row_g {ops : Array Oper} {rest : List Oper} {o : Oper} {a : Act} {w : World} {Q : Exit → Act → World → Prop} (ty : TypeId) (x : Operand) (ho : o.op = .load ty x) (hw : Region.wanted o (yielded ops a.tmps) = true)
    (g : Nat) (hx : a.eval x = .pointer (some ⟨g, 0, none⟩)) (t : TypeId) (cs : Array Value) (fr : Nat × Nat) (n : Nat) (el : TypeId) (hg : w.heap[g]? = some (.cells cs t fr))
    (hu : Tryd.prog.underlying ty = some (.array n el)) (hi : (Tryd.prog.info? ty).map (·.size) = some cs.size)
    (h : wpList Tryd.prog ops Q rest (a.put o.dst (.agg cs)) w) : wpList Tryd.prog ops Q (o :: rest) a w := by
  unfold wpList
  rw [if_pos hw]
  exact .inl (wp_load_row ty x ho g hx t cs fr _ hg hu rfl hi h)
end Go.Proofs.YtlddoobomjcldaaDoor
