/- What a block makes of the numbers: behind. A digest out of the numbers; what comes behind the bytes. What comes behind the bytes: end. A Hash in memory: New, isNone, Len, Copy. -/
import Derived.Test.YtlddoobomjcldaaDoorMgLc12
namespace Go.Proofs.YtlddoobomjcldaaDoor
open Go.ChangeShapes Go.WideShapes Go.ChangeAt Go.RowKit Go.Deep
set_option linter.unusedVariables false
/-- the table of the numbers k lies where the program lays it -/
def KIs (w : World) : Prop := ∀ i, i < 64 → w.cell? ⟨0, i, none⟩ = some (.int .u32 ((kT.getD i 0 : Nat) : Int))
theorem KIs.below {w w' : World} {B : Nat} (h : KIs w) (hb : Below B w w') (h0 : 0 < B) : KIs w' := fun i hi => by
  rw [hb.cell (p := ⟨0, i, none⟩) h0]
  exact h i hi
theorem KIs.pos {w : World} (h : KIs w) : 0 < w.heap.size := World.block_lt_of_cell? _ _ (h 0 (by decide))
theorem kT_all : all32 kT := by unfold all32; decide
theorem tn_len (s W : List Nat) (h : s.length = 8) : ∀ c, (tn s W c).length = 8
  | 0 => h
  | c + 1 => turn_len _ _
theorem tn_all (s W : List Nat) (h : all32 s) : ∀ c, all32 (tn s W c)
  | 0 => h
  | c + 1 => turn_all _ _ (tn_all s W h c)
theorem adds_len (s t : List Nat) (h : s.length = 8) : ∀ c, (adds s t c).length = 8
  | 0 => h
  | c + 1 => by simp [adds, adds_len s t h c]
theorem adds_all (s t : List Nat) (h : all32 s) : ∀ c, all32 (adds s t c)
  | 0 => h
  | c + 1 => (adds_all s t h c).set _ _ (ad_lt _ _)
theorem blk_len (s : List Nat) (B : List Int) (h : s.length = 8) : (blk s B).length = 8 := adds_len _ _ h _
theorem blk_all (s : List Nat) (B : List Int) (h : all32 s) : all32 (blk s B) := adds_all _ _ h _
def z8s : Array Value := #[.int .u32 0, .int .u32 0, .int .u32 0, .int .u32 0, .int .u32 0, .int .u32 0, .int .u32 0, .int .u32 0]
theorem heap4 (w : World) (a b c d : Obj) : ((((w.alloc a).alloc b).alloc c).alloc d).heap[w.heap.size]? = some a ∧ ((((w.alloc a).alloc b).alloc c).alloc d).heap[w.heap.size + 1]? = some b ∧ ((((w.alloc a).alloc b).alloc c).alloc d).heap[w.heap.size + 2]? = some c ∧ ((((w.alloc a).alloc b).alloc c).alloc d).heap[w.heap.size + 3]? = some d := by
  refine ⟨?_, ?_, ?_, ?_⟩
  · rw [Below.heap_alloc _ _ _ (by simp; omega)]; exact heap_first w a b c
  · rw [Below.heap_alloc _ _ _ (by simp)]; exact heap_second w a b c
  · rw [Below.heap_alloc _ _ _ (by simp)]; exact heap_third w a b c
  · have := heap_alloc_last (((w.alloc a).alloc b).alloc c) d
    rwa [World.size_alloc, World.size_alloc, World.size_alloc] at this
theorem wp_store_one {op : Oper} {a : Act} {w : World} {K : Act → World → Prop} {Q : Exit → Act → World → Prop} (ty : TypeId) (x y : Operand) (ho : op.op = .store ty x y)
    (b o : Nat) (k : IntKind) (v : Int) (hx : a.eval x = .pointer (some ⟨b, o, none⟩)) (hy : a.eval y = .int k v)
    (hc : (w.cell? ⟨b, o, none⟩).isSome = true) (hf : w.frozen? ⟨b, o, none⟩ = false) (hi : (Tryd.prog.info? ty).map (·.size) = some 1)
    (h : K (a.put op.dst undef) (w.setCell ⟨b, o, none⟩ (.int k v))) : op.wp Tryd.prog a w K Q := by
  have hr := run_storeCells_cells (P := Tryd.prog) b o [.int k v] 0 w (fun j hj => by obtain rfl : j = 0 := (by simpa using hj); exact hc) (fun j hj => by obtain rfl : j = 0 := (by simpa using hj); exact hf) (fun u hu => by obtain rfl : u = .int k v := (by simpa using hu); rfl)
  cases hq : Tryd.prog.info? ty with
  | none => simp [hq] at hi
  | some i =>
    have hs : i.size = 1 := by simpa [hq] using hi
    have hr' : (storeCells ⟨b, o, none⟩ [.int k v] 0).run Tryd.prog w = .ok () (w.setCell ⟨b, o, none⟩ (.int k v)) := hr
    have hst : (storeVar ty ⟨b, o, none⟩ (.int k v)).run Tryd.prog w = .ok () (w.setCell ⟨b, o, none⟩ (.int k v)) := by
      simp [storeVar, sizeOf, typeInfo, hq, hs, Value.cells, hr']
    unfold Oper.wp execOp
    simp only [ho, hx, hy, Instr.storeAt, Instr.sureAddr, Sem.run_bind, Sem.run_pure, Result.andThen_ok, hst]
    exact h
set_option maxRecDepth 100000 in
set_option maxHeartbeats 4000000 in
theorem behind_is (s : List Nat) (hs : s.length = 8) (ha : all32 s) (B : List Int) (hB : B.length = 64) (hb : IsBytes B) (w : World) (hk : KIs w) :
    Calls Tryd.prog 79 #[.agg (u32s s), .agg (u8s B)] w fun e w' => e = .returned (.agg (u32s (blk s B))) ∧ Below w.heap.size w w' := by
  have HK : Hid (KIs w) := hk
  have HBy : Hid (IsBytes B) := hb
  have HA : Hid (all32 s) := ha
  clear hk hb ha
  have R0 : Hid ((((w.alloc (.cells (u32s s) 119)).alloc (.cells (u8s B) 121)).alloc (.cells #[.int .u32 0, .int .u32 0, .int .u32 0, .int .u32 0, .int .u32 0, .int .u32 0, .int .u32 0, .int .u32 0] 119)).heap[w.heap.size]? = some (.cells (u32s s) 119)) := heap_first _ _ _ _
  have R1 : Hid ((((((w.alloc (.cells (u32s s) 119)).alloc (.cells (u8s B) 121)).alloc (.cells #[.int .u32 0, .int .u32 0, .int .u32 0, .int .u32 0, .int .u32 0, .int .u32 0, .int .u32 0, .int .u32 0] 119))).alloc (.cells #[.int .u32 0, .int .u32 0, .int .u32 0, .int .u32 0, .int .u32 0, .int .u32 0, .int .u32 0, .int .u32 0] 119)).heap[w.heap.size + 1 + 1 + 1]? = some (.cells #[.int .u32 0, .int .u32 0, .int .u32 0, .int .u32 0, .int .u32 0, .int .u32 0, .int .u32 0, .int .u32 0] 119)) := (heap4 _ _ _ _ _).2.2.2
  have R2 : Hid (((((((w.alloc (.cells (u32s s) 119)).alloc (.cells (u8s B) 121)).alloc (.cells #[.int .u32 0, .int .u32 0, .int .u32 0, .int .u32 0, .int .u32 0, .int .u32 0, .int .u32 0, .int .u32 0] 119))).alloc (.cells #[.int .u32 0, .int .u32 0, .int .u32 0, .int .u32 0, .int .u32 0, .int .u32 0, .int .u32 0, .int .u32 0] 119)).setRow (w.heap.size + 1 + 1 + 1) (u32s s)).heap[w.heap.size + 1]? = some (.cells (u8s B) 121)) := (setRow_other _ _ _ _ (by omega)).trans (heap4 _ _ _ _ _).2.1
  have HW : Hid (Below w.heap.size w ((((((w.alloc (.cells (u32s s) 119)).alloc (.cells (u8s B) 121)).alloc (.cells #[.int .u32 0, .int .u32 0, .int .u32 0, .int .u32 0, .int .u32 0, .int .u32 0, .int .u32 0, .int .u32 0] 119))).alloc (.cells #[.int .u32 0, .int .u32 0, .int .u32 0, .int .u32 0, .int .u32 0, .int .u32 0, .int .u32 0, .int .u32 0] 119)).setRow (w.heap.size + 1 + 1 + 1) (u32s s))) := below_setRow (((((Below.refl _ _).alloc (Nat.le_refl _) _).alloc (by simp) _).alloc (by simp; omega) _).alloc (by simp; omega) _) (by omega) _
  have HW0 : Hid (((((((w.alloc (.cells (u32s s) 119)).alloc (.cells (u8s B) 121)).alloc (.cells #[.int .u32 0, .int .u32 0, .int .u32 0, .int .u32 0, .int .u32 0, .int .u32 0, .int .u32 0, .int .u32 0] 119))).alloc (.cells #[.int .u32 0, .int .u32 0, .int .u32 0, .int .u32 0, .int .u32 0, .int .u32 0, .int .u32 0, .int .u32 0] 119)).setRow (w.heap.size + 1 + 1 + 1) (u32s s)).heap[w.heap.size]? = some (.cells (u32s s) 119)) := (setRow_other _ _ _ _ (by omega)).trans (heap4 _ _ _ _ _).1
  have HW2 : Hid (((((((w.alloc (.cells (u32s s) 119)).alloc (.cells (u8s B) 121)).alloc (.cells #[.int .u32 0, .int .u32 0, .int .u32 0, .int .u32 0, .int .u32 0, .int .u32 0, .int .u32 0, .int .u32 0] 119))).alloc (.cells #[.int .u32 0, .int .u32 0, .int .u32 0, .int .u32 0, .int .u32 0, .int .u32 0, .int .u32 0, .int .u32 0] 119)).setRow (w.heap.size + 1 + 1 + 1) (u32s s)).heap[w.heap.size + 1 + 1]? = some (.cells #[.int .u32 0, .int .u32 0, .int .u32 0, .int .u32 0, .int .u32 0, .int .u32 0, .int .u32 0, .int .u32 0] 119)) := (setRow_other _ _ _ _ (by omega)).trans (heap4 _ _ _ _ _).2.2.1
  have HW3 : Hid (((((((w.alloc (.cells (u32s s) 119)).alloc (.cells (u8s B) 121)).alloc (.cells #[.int .u32 0, .int .u32 0, .int .u32 0, .int .u32 0, .int .u32 0, .int .u32 0, .int .u32 0, .int .u32 0] 119))).alloc (.cells #[.int .u32 0, .int .u32 0, .int .u32 0, .int .u32 0, .int .u32 0, .int .u32 0, .int .u32 0, .int .u32 0] 119)).setRow (w.heap.size + 1 + 1 + 1) (u32s s)).heap[w.heap.size + 1 + 1 + 1]? = some (.cells (u32s s) 119)) := setRow_heap _ _ _ _ _ _ R1.out
  have HW4 : Hid (((((((w.alloc (.cells (u32s s) 119)).alloc (.cells (u8s B) 121)).alloc (.cells #[.int .u32 0, .int .u32 0, .int .u32 0, .int .u32 0, .int .u32 0, .int .u32 0, .int .u32 0, .int .u32 0] 119))).alloc (.cells #[.int .u32 0, .int .u32 0, .int .u32 0, .int .u32 0, .int .u32 0, .int .u32 0, .int .u32 0, .int .u32 0] 119)).setRow (w.heap.size + 1 + 1 + 1) (u32s s)).heap.size = w.heap.size + 4) := by
    show _ = _
    simp [World.setRow]
  go_enter Tryd.func79, Tryd.ntmps79
  go_wp2_with (first | (refine wpList_load_row rfl 119 (.tmp 2) rfl w.heap.size rfl 119 (u32s s) (0, 0) _ R0.out Tryd.underlying119 rfl (size8l s hs) ?_) | (refine wpList_store_row rfl 119 (.tmp 5) (.tmp 9) rfl (w.heap.size + 1 + 1 + 1) (u32s s) rfl rfl 119 #[.int .u32 0, .int .u32 0, .int .u32 0, .int .u32 0, .int .u32 0, .int .u32 0, .int .u32 0, .int .u32 0] R1.out (size8l s hs) (by rw [u32s_size, hs]; rfl) (u32s_one _) ?_) | (refine wpList_load_row rfl 121 (.tmp 3) rfl (w.heap.size + 1) rfl 121 (u8s B) (0, 0) _ R2.out Tryd.underlying121 rfl (size64bl B hB) ?_) | (go_at_call 95; refine (words_is B hB HBy.out _).mono ?_; rintro e w5 ⟨rfl, hb5⟩; have B5 : Hid (Below _ _ w5) := hb5; clear hb5))
  have hWl := words_len B
  have HWa : Hid (all32 (words B)) := words_all B
  have B6 : Hid (Below w.heap.size w w5 ∧ w5.heap[w.heap.size]? = some (.cells (u32s s) 119) ∧ w5.heap[w.heap.size + 1 + 1]? = some (.cells #[.int .u32 0, .int .u32 0, .int .u32 0, .int .u32 0, .int .u32 0, .int .u32 0, .int .u32 0, .int .u32 0] 119) ∧ w5.heap[w.heap.size + 1 + 1 + 1]? = some (.cells (u32s s) 119)) := by
    have hz := HW4.out
    refine ⟨HW.out.trans (B5.out.mono (by rw [hz]; omega)), (B5.out.block _ (by rw [hz]; omega)).trans HW0.out, (B5.out.block _ (by rw [hz]; omega)).trans HW2.out, (B5.out.block _ (by rw [hz]; omega)).trans HW3.out⟩
  have HF : Hid (blk s B = adds s (tn s (words B) 64) 8) := rfl
  clear B5 HW HW0 HW2 HW3 HW4 R0 R1 R2 HBy
  generalize words B = V at *
  go_loopg [12] 64 (fun g i wr => ∃ c : Nat, c ≤ 64 ∧ g = 64 - c ∧ i = .int .i64 c ∧ Below w.heap.size w wr ∧ wr.heap[w.heap.size]? = some (.cells (u32s s) 119) ∧ wr.heap[w.heap.size + 1 + 1]? = some (.cells #[.int .u32 0, .int .u32 0, .int .u32 0, .int .u32 0, .int .u32 0, .int .u32 0, .int .u32 0, .int .u32 0] 119) ∧ wr.heap[w.heap.size + 1 + 1 + 1]? = some (.cells (u32s (tn s V c)) 119))
  case atStart => exact ⟨0, Nat.zero_le _, rfl, rfl, B6.out.1, B6.out.2.1, B6.out.2.2.1, B6.out.2.2.2⟩
  case round =>
    obtain ⟨c, hc, rfl, rfl, hbel, h0, h2, h3⟩ := hrel
    clear B6
    have G : Hid (Below w.heap.size w wr ∧ wr.heap[w.heap.size]? = some (.cells (u32s s) 119) ∧ wr.heap[w.heap.size + 1 + 1]? = some (.cells #[.int .u32 0, .int .u32 0, .int .u32 0, .int .u32 0, .int .u32 0, .int .u32 0, .int .u32 0, .int .u32 0] 119) ∧ wr.heap[w.heap.size + 1 + 1 + 1]? = some (.cells (u32s (tn s V c)) 119)) := ⟨hbel, h0, h2, h3⟩
    clear hbel h0 h2 h3
    by_cases hlt : c < 64
    · have hl := tn_len s V hs c
      have HL : Hid (all32 (tn s V c)) := tn_all s V HA.out c
      have HS : Hid (tn s V (c + 1) = turn (tn s V c) (ad (kT.getD c 0) (V.getD c 0))) := rfl
      have hg1 := u32s_get V c (by omega)
      have hix := fun W : World => run_index_cell W 129 76 64 (u32s V) c _ Tryd.underlying129 hlt (by kernel_rfl) .u32 Tryd.underlying76 hg1
      have HKr : Hid (KIs wr) := HK.out.below G.out.1 HK.out.pos
      have hkc := HKr.out c hlt
      have HKc : Hid (∀ W : World, KIs W → W.cell? ⟨0, c, none⟩ = some (.int .u32 ((kT.getD c 0 : Nat) : Int))) := fun W h => h c hlt
      have av : IntKind.u32.wrap (((kT.getD c 0 : Nat) : Int) + ((V.getD c 0 : Nat) : Int)) = ((ad (kT.getD c 0) (V.getD c 0) : Nat) : Int) := by
        rw [IntKind.wrap_u32]; exact add32 _ _
      have hx := ad_lt (kT.getD c 0) (V.getD c 0)
      clear hg1
      generalize kT.getD c 0 = kc at *
      generalize V.getD c 0 = vc at *
      generalize tn s V c = l at *
      have i0 : (c : Int) < 64 := by omega
      go_wp2_with fail
      refine wp_region_noPanic ?_
      refine wp_region_held_drew (S := (fun W : World => W.cell? ⟨0, c, none⟩ = some (.int .u32 (kc : Nat)))) (by kernel_rfl) ?hSaA (fun hHeld => ?restaA)
      case hSaA => exact hkc
      case restaA =>
        refine wpAnyH_take (i := 1) (v := ?v1A) rfl (by kernel_rfl) (by kernel_rfl) (by kernel_rfl) (fun _ _ _ h => h) (Or.inl ⟨by rfl, ?hy1A⟩) hHeld ?rest1A
        case hy1A => (intro w hSw; (try dsimp only at hSw); go_simp; try with_reducible rfl)
        try simp only [Act.put, List.setIfInBounds_toArray, List.set_cons_zero, List.set_cons_succ, List.getElem_toArray, List.getElem_cons_zero, List.getElem_cons_succ]
        refine wpAnyH_take (i := 2) (v := ?v2A) rfl (by kernel_rfl) (by kernel_rfl) (by kernel_rfl) (fun _ _ _ h => h) (Or.inl ⟨by rfl, ?hy2A⟩) hHeld ?rest2A
        case hy2A => (intro w hSw; (try dsimp only at hSw); go_simp; try with_reducible rfl)
        try simp only [Act.put, List.setIfInBounds_toArray, List.set_cons_zero, List.set_cons_succ, List.getElem_toArray, List.getElem_cons_zero, List.getElem_cons_succ]
        refine wpAnyH_take (i := 3) (v := .int .u32 (kc : Nat)) rfl (by kernel_rfl) (by kernel_rfl) (by kernel_rfl) (fun _ _ _ h => h) (Or.inl ⟨by rfl, ?hy3A⟩) hHeld ?rest3A
        case hy3A => (intro w hSw; (try dsimp only at hSw); go_simp; try with_reducible rfl)
        try simp only [Act.put, List.setIfInBounds_toArray, List.set_cons_zero, List.set_cons_succ, List.getElem_toArray, List.getElem_cons_zero, List.getElem_cons_succ]
        refine wpAnyH_take (i := 4) (v := ?v4A) rfl (by kernel_rfl) (by kernel_rfl) (by kernel_rfl) (fun _ _ _ h => h) (Or.inl ⟨by rfl, ?hy4A⟩) hHeld ?rest4A
        case hy4A => (intro w hSw; (try dsimp only at hSw); go_simp; try with_reducible rfl)
        try simp only [Act.put, List.setIfInBounds_toArray, List.set_cons_zero, List.set_cons_succ, List.getElem_toArray, List.getElem_cons_zero, List.getElem_cons_succ]
        refine wpAnyH_take (i := 5) (v := .int .u32 (ad kc vc : Nat)) rfl (by kernel_rfl) (by kernel_rfl) (by kernel_rfl) (fun _ _ _ h => h) (Or.inl ⟨by rfl, ?hy5A⟩) hHeld ?rest5A
        case hy5A => (intro w hSw; (try dsimp only at hSw); go_simp; try with_reducible rfl)
        try simp only [Act.put, List.setIfInBounds_toArray, List.set_cons_zero, List.set_cons_succ, List.getElem_toArray, List.getElem_cons_zero, List.getElem_cons_succ]
        refine wpAnyH_ready (rs := [0]) (by kernel_rfl) (by simp) ?_
        refine AllReadyH.cons rfl (fun K hK => ?_) AllReadyH.nil
        rw [if_pos (by kernel_rfl)]; refine wp_load_row 119 (.tmp 5) rfl (w.heap.size + 1 + 1 + 1) rfl 119 (u32s l) (0, 0) _ G.out.2.2.2 Tryd.underlying119 rfl (size8l l hl) ?_
        refine hK.out _ _ ?hS0A (fun hHeld => ?rest0A)
        case hS0A => exact hkc
        clear hK K
        try simp only [Act.put, List.setIfInBounds_toArray, List.set_cons_zero, List.set_cons_succ, List.getElem_toArray, List.getElem_cons_zero]
        refine wpAnyH_ready (rs := [6]) (by kernel_rfl) (by simp) ?_
        refine AllReadyH.cons rfl (fun K hK => ?_) AllReadyH.nil
        go_simp; refine (turned_is l hl HL.out _ hx _).mono ?_; rintro e w6 ⟨rfl, hb6⟩; have B6 : Hid (Below wr.drew.heap.size wr.drew w6) := hb6; clear hb6; go_wp2_with fail
        refine hK.out _ _ ?hS6A (fun hHeld => ?rest6A)
        case hS6A => exact HKc.out _ (HKr.out.below (w := wr.drew) B6.out HKr.out.pos)
        clear hK K
        try simp only [Act.put, List.setIfInBounds_toArray, List.set_cons_zero, List.set_cons_succ, List.getElem_toArray, List.getElem_cons_zero, List.getElem_cons_succ]
        have h6 : Hid (w6.heap[w.heap.size + 1 + 1 + 1]? = some (.cells (u32s l) 119)) := (B6.out.block _ (lt_of_heap G.out.2.2.2)).trans G.out.2.2.2
        have G6 : Hid (Below w.heap.size w w6) := G.out.1.drew.trans (B6.out.mono (Nat.le_trans G.out.1.size (Nat.le_refl _)))
        have G7 : Hid (Below w.heap.size w (w6.setRow (w.heap.size + 1 + 1 + 1) (u32s (turn l (ad kc vc))))) := below_setRow G6.out (by omega) _
        refine wpAnyH_ready (rs := [7]) (by kernel_rfl) (by simp) ?_
        refine AllReadyH.cons rfl (fun K hK => ?_) AllReadyH.nil
        rw [if_pos (by kernel_rfl)]; refine wp_store_row 119 (.tmp 5) (.tmp 22) rfl (w.heap.size + 1 + 1 + 1) (u32s (turn l (ad kc vc))) rfl rfl 119 (u32s l) h6.out (size8l _ (turn_len _ _)) (by rw [u32s_size, u32s_size, hl, turn_len]) (u32s_one _) ?_
        refine hK.out _ _ ?hS7A (fun hHeld => ?rest7A)
        case hS7A => exact HKc.out _ (HK.out.below G7.out HK.out.pos)
        clear hK K
        refine wpAnyH_done (by kernel_rfl) ?_ _
        refine NoPanic.normal ?_
        go_wp2_with fail
        go_roundg (64 - (c + 1))
        case measure => omega
        case rel =>
          refine ⟨c + 1, by omega, rfl, by go_num, G7.out, ?_, ?_, ?_⟩
          · exact (setRow_other _ _ _ _ (by omega)).trans ((B6.out.block _ (lt_of_heap G.out.2.1)).trans G.out.2.1)
          · exact (setRow_other _ _ _ _ (by omega)).trans ((B6.out.block _ (lt_of_heap G.out.2.2.1)).trans G.out.2.2.1)
          · have := setRow_heap w6 (w.heap.size + 1 + 1 + 1) _ (u32s (turn l (ad kc vc))) 119 (0, 0) h6.out
            rw [HS.out]; exact this
    · have e : c = 64 := by omega
      subst e
      clear hlt hc HWa hWl
      have hl := tn_len s V hs 64
      generalize tn s V 64 = l at *
      go_wp2_with fail
      go_loopg [24] 8 (fun g i wr => ∃ c : Nat, c ≤ 8 ∧ g = 8 - c ∧ i = .int .i64 c ∧ Below w.heap.size w wr ∧ wr.heap[w.heap.size]? = some (.cells (u32s (adds s l c)) 119) ∧ wr.heap[w.heap.size + 1 + 1]? = some (.cells #[.int .u32 0, .int .u32 0, .int .u32 0, .int .u32 0, .int .u32 0, .int .u32 0, .int .u32 0, .int .u32 0] 119) ∧ wr.heap[w.heap.size + 1 + 1 + 1]? = some (.cells (u32s l) 119))
      case atStart => exact ⟨0, Nat.zero_le _, rfl, rfl, G.out.1, G.out.2.1, G.out.2.2.1, G.out.2.2.2⟩
      case round =>
        clear G
        obtain ⟨c, hc, rfl, rfl, hbel, h0, h2, h3⟩ := hrel
        have G : Hid (Below w.heap.size w wr ∧ wr.heap[w.heap.size]? = some (.cells (u32s (adds s l c)) 119) ∧ wr.heap[w.heap.size + 1 + 1]? = some (.cells #[.int .u32 0, .int .u32 0, .int .u32 0, .int .u32 0, .int .u32 0, .int .u32 0, .int .u32 0, .int .u32 0] 119) ∧ wr.heap[w.heap.size + 1 + 1 + 1]? = some (.cells (u32s l) 119)) := ⟨hbel, h0, h2, h3⟩
        clear hbel h0 h2 h3
        by_cases hlt : c < 8
        · have hal := adds_len s l hs c
          have HS : Hid (u32s (adds s l (c + 1)) = (u32s (adds s l c)).setIfInBounds c (.int .u32 ((ad ((adds s l c).getD c 0) (l.getD c 0) : Nat) : Int))) := by
            show _ = _
            rw [u32s_set]; rfl
          have cs : wr.cell? ⟨w.heap.size, c, none⟩ = _ := (cell_of_row _ _ c _ _ (0, 0) G.out.2.1).trans (u32s_get (adds s l c) c (by omega))
          have cl : wr.cell? ⟨w.heap.size + 1 + 1 + 1, c, none⟩ = _ := (cell_of_row _ _ c _ _ (0, 0) G.out.2.2.2).trans (u32s_get l c (by omega))
          have av : IntKind.u32.wrap ((((adds s l c).getD c 0 : Nat) : Int) + ((l.getD c 0 : Nat) : Int)) = ((ad ((adds s l c).getD c 0) (l.getD c 0) : Nat) : Int) := by
            rw [IntKind.wrap_u32]; exact add32 _ _
          have fz : wr.drew.frozen? ⟨w.heap.size, c, none⟩ = false := by simp only [World.frozen?, show wr.drew.heap[w.heap.size]? = _ from G.out.2.1]; simp
          generalize (adds s l c).getD c 0 = x at *
          generalize l.getD c 0 = y at *
          have i0 : (c : Int) < 8 := by omega
          go_wp2_with fail
          refine wp_region_noPanic ?_
          refine wp_region_held_drew (S := (fun W : World => W.cell? ⟨w.heap.size + 1 + 1 + 1, c, none⟩ = some (.int .u32 (y : Nat)))) (by kernel_rfl) ?hSaB (fun hHeld => ?restaB)
          case hSaB => exact cl
          case restaB =>
            have cd : wr.drew.cell? ⟨w.heap.size, c, none⟩ = some (.int .u32 (x : Nat)) := cs
            have KW : Hid (Below w.heap.size w (wr.drew.setCell ⟨w.heap.size, c, none⟩ (.int .u32 (ad x y : Nat))) ∧ (wr.drew.setCell ⟨w.heap.size, c, none⟩ (.int .u32 (ad x y : Nat))).heap[w.heap.size]? = some (.cells (u32s (adds s l (c + 1))) 119) ∧ (wr.drew.setCell ⟨w.heap.size, c, none⟩ (.int .u32 (ad x y : Nat))).heap[w.heap.size + 1 + 1]? = some (.cells #[.int .u32 0, .int .u32 0, .int .u32 0, .int .u32 0, .int .u32 0, .int .u32 0, .int .u32 0, .int .u32 0] 119) ∧ (wr.drew.setCell ⟨w.heap.size, c, none⟩ (.int .u32 (ad x y : Nat))).heap[w.heap.size + 1 + 1 + 1]? = some (.cells (u32s l) 119) ∧ (wr.drew.setCell ⟨w.heap.size, c, none⟩ (.int .u32 (ad x y : Nat))).cell? ⟨w.heap.size + 1 + 1 + 1, c, none⟩ = some (.int .u32 (y : Nat))) := by
              have k2 := heap_setCell_mine wr.drew w.heap.size c _ _ _ G.out.2.1 (.int .u32 (ad x y : Nat))
              rw [← HS.out] at k2
              exact ⟨G.out.1.drew.setCell (p := ⟨w.heap.size, c, none⟩) (Nat.le_refl _) _, k2, (Below.heap_setCell wr.drew _ _ _ (by show w.heap.size + 1 + 1 ≠ w.heap.size; omega)).trans G.out.2.2.1, (Below.heap_setCell wr.drew _ _ _ (by show w.heap.size + 1 + 1 + 1 ≠ w.heap.size; omega)).trans G.out.2.2.2, by rw [World.cell?_setCell_other _ _ _ _ (by simp)]; exact cl⟩
            refine wpAnyH_take (i := 0) (v := ?v0B) rfl (by kernel_rfl) (by kernel_rfl) (by kernel_rfl) (fun _ _ _ h => h) (Or.inl ⟨by rfl, ?hy0B⟩) hHeld ?rest0B
            case hy0B => (intro w hSw; (try dsimp only at hSw); go_simp; try with_reducible rfl)
            try simp only [Act.put, List.setIfInBounds_toArray, List.set_cons_zero, List.set_cons_succ, List.getElem_toArray, List.getElem_cons_zero]
            refine wpAnyH_take (i := 1) (v := ?v1B) rfl (by kernel_rfl) (by kernel_rfl) (by kernel_rfl) (fun _ _ _ h => h) (Or.inl ⟨by rfl, ?hy1B⟩) hHeld ?rest1B
            case hy1B => (intro w hSw; (try dsimp only at hSw); go_simp; try with_reducible rfl)
            try simp only [Act.put, List.setIfInBounds_toArray, List.set_cons_zero, List.set_cons_succ, List.getElem_toArray, List.getElem_cons_zero, List.getElem_cons_succ]
            refine wpAnyH_take (i := 3) (v := ?v3B) rfl (by kernel_rfl) (by kernel_rfl) (by kernel_rfl) (fun _ _ _ h => h) (Or.inl ⟨by rfl, ?hy3B⟩) hHeld ?rest3B
            case hy3B => (intro w hSw; (try dsimp only at hSw); go_simp; try with_reducible rfl)
            try simp only [Act.put, List.setIfInBounds_toArray, List.set_cons_zero, List.set_cons_succ, List.getElem_toArray, List.getElem_cons_zero, List.getElem_cons_succ]
            refine wpAnyH_take (i := 4) (v := ?v4B) rfl (by kernel_rfl) (by kernel_rfl) (by kernel_rfl) (fun _ _ _ h => h) (Or.inl ⟨by rfl, ?hy4B⟩) hHeld ?rest4B
            case hy4B => (intro w hSw; (try dsimp only at hSw); go_simp; try with_reducible rfl)
            try simp only [Act.put, List.setIfInBounds_toArray, List.set_cons_zero, List.set_cons_succ, List.getElem_toArray, List.getElem_cons_zero, List.getElem_cons_succ]
            refine wpAnyH_take (i := 5) (v := .int .u32 (y : Nat)) rfl (by kernel_rfl) (by kernel_rfl) (by kernel_rfl) (fun _ _ _ h => h) (Or.inl ⟨by rfl, ?hy5B⟩) hHeld ?rest5B
            case hy5B => (intro w hSw; (try dsimp only at hSw); go_simp; try with_reducible rfl)
            try simp only [Act.put, List.setIfInBounds_toArray, List.set_cons_zero, List.set_cons_succ, List.getElem_toArray, List.getElem_cons_zero, List.getElem_cons_succ]
            refine wpAnyH_ready (rs := [2]) (by kernel_rfl) (by simp) ?_
            refine AllReadyH.cons rfl (fun K hK => ?_) AllReadyH.nil
            go_wp2_with fail
            refine hK.out _ _ ?hS2B (fun hHeld => ?rest2B)
            case hS2B => exact cl
            clear hK K
            try simp only [Act.put, List.setIfInBounds_toArray, List.set_cons_zero, List.set_cons_succ, List.getElem_toArray, List.getElem_cons_zero, List.getElem_cons_succ]
            refine wpAnyH_take (i := 6) (v := .int .u32 (ad x y : Nat)) rfl (by kernel_rfl) (by kernel_rfl) (by kernel_rfl) (fun _ _ _ h => h) (Or.inl ⟨by rfl, ?hy6B⟩) hHeld ?rest6B
            case hy6B => (intro w hSw; (try dsimp only at hSw); go_simp; try with_reducible rfl)
            try simp only [Act.put, List.setIfInBounds_toArray, List.set_cons_zero, List.set_cons_succ, List.getElem_toArray, List.getElem_cons_zero, List.getElem_cons_succ]
            refine wpAnyH_take (i := 7) (v := ?v7B) rfl (by kernel_rfl) (by kernel_rfl) (by kernel_rfl) (fun _ _ _ h => h) (Or.inl ⟨by rfl, ?hy7B⟩) hHeld ?rest7B
            case hy7B => (intro w hSw; (try dsimp only at hSw); go_simp; try with_reducible rfl)
            try simp only [Act.put, List.setIfInBounds_toArray, List.set_cons_zero, List.set_cons_succ, List.getElem_toArray, List.getElem_cons_zero, List.getElem_cons_succ]
            refine wpAnyH_ready (rs := [8]) (by kernel_rfl) (by simp) ?_
            refine AllReadyH.cons rfl (fun K hK => ?_) AllReadyH.nil
            rw [if_pos (by kernel_rfl)]; refine wp_store_one 76 (.tmp 34) (.tmp 33) rfl w.heap.size c .u32 _ rfl rfl (by rw [cd]; rfl) fz (by kernel_rfl) ?_
            refine hK.out _ _ ?hS8B (fun hHeld => ?rest8B)
            case hS8B => exact KW.out.2.2.2.2
            clear hK K
            refine wpAnyH_done (by kernel_rfl) ?_ _
            refine NoPanic.normal ?_
            generalize hWW : (wr.drew.setCell ⟨w.heap.size, c, none⟩ (.int .u32 (ad x y : Nat))) = WW at *
            clear hWW hHeld
            go_wp2_with fail
            go_roundg (8 - (c + 1))
            case measure => omega
            case rel => exact ⟨c + 1, by omega, rfl, by go_num, KW.out.1, KW.out.2.1, KW.out.2.2.1, KW.out.2.2.2.1⟩
        · have e : c = 8 := by omega
          subst e
          have hfl : (blk s B).length = 8 := by rw [HF.out]; exact adds_len s l hs 8
          rw [← HF.out] at G
          clear hlt hc
          go_wp2_with (first | (refine wpList_load_row rfl 119 (.tmp 2) rfl w.heap.size rfl 119 (u32s (blk s B)) (0, 0) _ G.out.2.1 Tryd.underlying119 rfl (size8l _ hfl) ?_) | (refine wpList_store_row rfl 119 (.tmp 4) (.tmp 36) rfl (w.heap.size + 1 + 1) (u32s (blk s B)) rfl rfl 119 #[.int .u32 0, .int .u32 0, .int .u32 0, .int .u32 0, .int .u32 0, .int .u32 0, .int .u32 0, .int .u32 0] G.out.2.2.1 (size8l _ hfl) (by rw [u32s_size, hfl]; rfl) (u32s_one _) ?_))
          refine bodyPost_ret (results_cell_row rfl _ _ (w.heap.size + 1 + 1) 119 (u32s (blk s B)) (0, 0) _ rfl (setRow_heap _ _ _ _ _ _ G.out.2.2.1) Tryd.underlying119 rfl (size8l _ hfl)) rfl ⟨rfl, ?_⟩
          exact below_setRow G.out.1 (by omega) _
end Go.Proofs.YtlddoobomjcldaaDoor
namespace Go.Proofs.YtlddoobomjcldaaDoor
open Go.ChangeShapes Go.WideShapes Go.ChangeAt Go.RowKit Go.Deep
set_option linter.unusedVariables false
theorem u8s_set (l : List Int) (i : Nat) (x : Int) : (u8s l).setIfInBounds i (.int .u8 x) = u8s (l.set i x) := by
  simp [u8s, List.map_set]
/-- the first c of D, then zeros -/
def fillN (D : List Int) (n c : Nat) : List Int := D.take c ++ List.replicate (n - c) 0
theorem fillN_len (D : List Int) (n c : Nat) (hD : D.length = n) (hc : c ≤ n) : (fillN D n c).length = n := by simp [fillN]; omega
theorem fillN_step (D : List Int) (n c : Nat) (hD : D.length = n) (hc : c < n) : (fillN D n c).set c (D.getD c 0) = fillN D n (c + 1) := by
  have e : List.replicate (n - c) (0 : Int) = 0 :: List.replicate (n - (c + 1)) 0 := by
    rw [← List.replicate_succ]; congr 1; omega
  have hl : (D.take c).length = c := by simp; omega
  unfold fillN
  rw [e, List.set_append_right _ _ (by omega), hl, Nat.sub_self, List.set_cons_zero]
  have ht : D.take (c + 1) = D.take c ++ [D.getD c 0] := by
    rw [List.take_add_one]
    simp [List.getD, List.getElem?_eq_getElem (show c < D.length by omega)]
  rw [ht, List.append_assoc]; rfl
theorem fillN_all (D : List Int) (n : Nat) (hD : D.length = n) : fillN D n n = D := by
  unfold fillN
  rw [Nat.sub_self, List.take_of_length_le (by omega)]; simp
theorem digL_len (s : List Nat) : (digL s).length = 32 := by simp [digL]
theorem digL_get (s : List Nat) (c : Nat) (h : c < 32) : (digL s).getD c 0 = ((s.getD (c / 4) 0 / 2 ^ (24 - 8 * (c % 4)) % 256 : Nat) : Int) := by
  simp [digL, List.getD, h]
theorem digL_bytes (s : List Nat) : IsBytes (digL s) := bytes_of_mem fun x hx => by
  simp only [digL, List.mem_map] at hx
  obtain ⟨i, _, rfl⟩ := hx
  omega
theorem z32_is : u8s (fillN [] 32 0) = #[.int .u8 0, .int .u8 0, .int .u8 0, .int .u8 0, .int .u8 0, .int .u8 0, .int .u8 0, .int .u8 0, .int .u8 0, .int .u8 0, .int .u8 0, .int .u8 0, .int .u8 0, .int .u8 0, .int .u8 0, .int .u8 0, .int .u8 0, .int .u8 0, .int .u8 0, .int .u8 0, .int .u8 0, .int .u8 0, .int .u8 0, .int .u8 0, .int .u8 0, .int .u8 0, .int .u8 0, .int .u8 0, .int .u8 0, .int .u8 0, .int .u8 0, .int .u8 0] := by kernel_rfl
theorem fill0 (D : List Int) (n : Nat) : fillN D n 0 = fillN [] n 0 := by simp [fillN]
theorem size32 : (Tryd.prog.info? 35).map (·.size) = some 32 := by kernel_rfl
theorem size32l (l : List Int) (h : l.length = 32) : (Tryd.prog.info? 35).map (·.size) = some (u8s l).size := by rw [u8s_size, h]; exact size32
theorem tmodI (c k : Nat) : Int.tmod (c : Int) (k : Int) = ((c % k : Nat) : Int) := by simp [Int.tmod_eq_emod]
set_option maxHeartbeats 4000000 in
theorem digest_is (s : List Nat) (hs : s.length = 8) (w : World) :
    Calls Tryd.prog 81 #[.agg (u32s s)] w fun e w' => e = .returned (.agg (u8s (digL s))) ∧ Below w.heap.size w w' := by
  go_enter Tryd.func81, Tryd.ntmps81
  go_wp2
  go_loopg [5] 32 (fun g i wr => ∃ c : Nat, c ≤ 32 ∧ g = 32 - c ∧ i = .int .i64 c ∧ wr = ((w.alloc (.cells (u32s s) 119)).alloc (.cells (u8s (fillN (digL s) 32 0)) 35)).alloc (.cells (u8s (fillN (digL s) 32 c)) 35))
  case atStart => exact ⟨0, Nat.zero_le _, rfl, rfl, by rw [fill0, z32_is]⟩
  case round =>
    obtain ⟨c, hc, rfl, rfl, rfl⟩ := hrel
    by_cases hlt : c < 32
    · have hg1 := u32s_get s (c / 4) (by omega)
      have hg2 := u8s_get (fillN (digL s) 32 c) c (by rw [fillN_len _ _ _ (digL_len s) hc]; exact hlt)
      have HS : Hid (u8s (fillN (digL s) 32 (c + 1)) = (u8s (fillN (digL s) 32 c)).setIfInBounds c (.int .u8 ((s.getD (c / 4) 0 / 2 ^ (24 - 8 * (c % 4)) % 256 : Nat) : Int))) := by
        show _ = _
        rw [u8s_set, ← digL_get s c hlt, fillN_step _ _ _ (digL_len s) hlt]
      have htd : Int.tdiv (c : Int) 4 = ((c / 4 : Nat) : Int) := tdivI c 4
      have htm : Int.tmod (c : Int) 4 = ((c % 4 : Nat) : Int) := tmodI c 4
      have hr : c % 4 = 0 ∨ c % 4 = 1 ∨ c % 4 = 2 ∨ c % 4 = 3 := by omega
      have hq : c / 4 < 8 := by omega
      generalize s.getD (c / 4) 0 = x at *
      generalize c / 4 = q at *
      generalize fillN (digL s) 32 0 = Z at *
      generalize c % 4 = r at *
      generalize (fillN (digL s) 32 c).getD c 0 = old at *
      rcases hr with rfl | rfl | rfl | rfl
      all_goals
        go_wp2
        go_roundg (32 - (c + 1))
        case measure => omega
        case rel => exact ⟨c + 1, by omega, rfl, by go_num, by rw [HS.out]; simp⟩
    · have e : c = 32 := by omega
      subst e
      rw [fillN_all _ _ (digL_len s)]
      have HZ : Hid ((u8s (fillN (digL s) 32 0)).size = 32) := by
        show _ = _
        rw [u8s_size, fillN_len _ _ _ (digL_len s) (by omega)]
      generalize u8s (fillN (digL s) 32 0) = Z at *
      have hl := digL_len s
      have H1 : Hid ((((w.alloc (.cells (u32s s) 119)).alloc (.cells Z 35)).alloc (.cells (u8s (digL s)) 35)).heap[w.heap.size + 1]? = some (.cells Z 35)) := heap_second _ _ _ _
      have H2 : Hid ((((w.alloc (.cells (u32s s) 119)).alloc (.cells Z 35)).alloc (.cells (u8s (digL s)) 35)).heap[w.heap.size + 1 + 1]? = some (.cells (u8s (digL s)) 35)) := heap_third _ _ _ _
      go_wp2_with (first | (refine wpList_load_row rfl 35 (.tmp 3) rfl (w.heap.size + 1 + 1) rfl 35 (u8s (digL s)) (0, 0) _ H2.out Tryd.underlying35 rfl (size32l _ hl) ?_) | (refine wpList_store_row rfl 35 (.tmp 2) (.tmp 21) rfl (w.heap.size + 1) (u8s (digL s)) rfl rfl 35 Z H1.out (size32l _ hl) (by rw [HZ.out, u8s_size, hl]) (u8s_one _) ?_))
      refine bodyPost_ret (results_cell_row rfl _ _ (w.heap.size + 1) 35 (u8s (digL s)) (0, 0) _ rfl (setRow_heap _ _ _ _ _ _ H1.out) Tryd.underlying35 rfl (size32l _ hl)) rfl ⟨rfl, ?_⟩
      exact below_setRow ((((Below.refl _ _).alloc (Nat.le_refl _) _).alloc (by simp) _).alloc (by simp; omega) _) (by omega) _
end Go.Proofs.YtlddoobomjcldaaDoor
namespace Go.Proofs.YtlddoobomjcldaaDoor
open Go.ChangeShapes Go.WideShapes Go.ChangeAt Go.RowKit Go.Deep
set_option linter.unusedVariables false
theorem zerosN_lt (n : Nat) : zerosN n < 64 := Nat.mod_lt _ (by decide)
theorem endL_len (n : Nat) : (endL n).length = 9 + zerosN n := by simp [endL, fixL_length]; omega
theorem endL_bytes (n : Nat) : IsBytes (endL n) := bytes_of_mem fun x hx => by
  simp only [endL, List.mem_cons, List.mem_append] at hx
  rcases hx with rfl | h | h
  · omega
  · have := List.eq_of_mem_replicate h
    omega
  · exact fixL_range _ _ x h
theorem end_mod (n : Nat) : (n + (endL n).length) % 64 = 0 := by rw [endL_len]; unfold zerosN; omega
/-- behind c bytes of the count -/
def endC (n c : Nat) : List Int := 128 :: (List.replicate (zerosN n + (8 - c)) 0 ++ (fixL (8 * n : Nat) 8).drop (8 - c))
theorem endC_len (n c : Nat) (h : c ≤ 8) : (endC n c).length = 9 + zerosN n := by simp [endC, fixL_length]; omega
theorem endC_all (n : Nat) : endC n 8 = endL n := by simp [endC, endL]
theorem endC_step (n c : Nat) (h : c < 8) : (endC n c).set (8 + zerosN n - c) ((fixL (8 * n : Nat) 8).getD (7 - c) 0) = endC n (c + 1) := by
  have e8 : 8 + zerosN n - c = (zerosN n + (7 - c)) + 1 := by omega
  have er : List.replicate (zerosN n + (8 - c)) (0 : Int) = List.replicate (zerosN n + (7 - c)) 0 ++ [0] := by
    rw [← List.replicate_succ']; congr 1; omega
  have ed : (fixL (8 * n : Nat) 8).drop (8 - (c + 1)) = (fixL (8 * n : Nat) 8).getD (7 - c) 0 :: (fixL (8 * n : Nat) 8).drop (8 - c) := by
    have hl : 7 - c < (fixL (8 * n : Nat) 8).length := by rw [fixL_length]; omega
    rw [show 8 - (c + 1) = 7 - c by omega, List.drop_eq_getElem_cons hl]
    congr 1
    · rw [List.getD, List.getElem?_eq_getElem hl, Option.getD_some]
    · congr 1; omega
  unfold endC
  rw [e8, List.set_cons_succ, ed, er, List.append_assoc, List.set_append_right _ _ (by simp)]
  simp only [List.length_replicate, Nat.sub_self, List.singleton_append, List.set_cons_zero]
  rw [show 8 - (c + 1) = 7 - c by omega]
theorem fix8_get (n c : Nat) (h : c < 8) : (fixL (8 * n : Nat) 8).getD (7 - c) 0 = ((8 * n / 2 ^ (8 * c) % 256 : Nat) : Int) := by
  have hl : 7 - c < 8 := by omega
  simp only [fixL, List.getD]
  rw [List.getElem?_eq_getElem (by simpa using hl)]
  simp only [List.getElem_map, List.getElem_range, Option.getD_some]
  rw [show 8 - 1 - (7 - c) = c by omega]
  have e : (2 : Nat) ^ (8 * c) = 256 ^ c := by rw [Nat.pow_mul]
  rw [e]
  simp
theorem run_tmp (n : Nat) : Int.tmod (n : Int) 64 = ((n % 64 : Nat) : Int) := by
  have : Int.tmod (n : Int) ((64 : Nat) : Int) = ((n % 64 : Nat) : Int) := by simp [Int.tmod_eq_emod]
  exact this
set_option maxHeartbeats 4000000 in
theorem end_is (n : Nat) (hn : n ≤ 1152921504606846976) (w : World) :
    Calls Tryd.prog 80 #[.int .i64 n] w fun e w' => e = .returned (.slice (some ⟨w.heap.size, 0, none⟩) (9 + zerosN n) (9 + zerosN n)) ∧ w' = w.alloc (.cells (u8s (endL n)) 5) := by
  have z64 := zerosN_lt n
  have hm1 : Int.tmod ((n : Int) + 1 + 8) 64 = (((n + 9) % 64 : Nat) : Int) := by
    rw [show (n : Int) + 1 + 8 = ((n + 9 : Nat) : Int) by omega]; exact run_tmp _
  have hm2 : Int.tmod (64 - (((n + 9) % 64 : Nat) : Int)) 64 = ((zerosN n : Nat) : Int) := by
    rw [show (64 : Int) - (((n + 9) % 64 : Nat) : Int) = ((64 - (n + 9) % 64 : Nat) : Int) by omega]; exact run_tmp _
  have hlt1 : (n + 9) % 64 < 64 := Nat.mod_lt _ (by decide)
  have E0 : Hid (madeCells #[.int .u8 0] (9 + zerosN n) = u8s (List.replicate (9 + zerosN n) 0)) := by
    show _ = _
    apply Array.ext
    · simp [madeCells, u8s]
    · intro i h1 h2
      simp [madeCells, u8s, Nat.mod_one]
  have hmk := run_make_row' (P := Tryd.prog) 23 5 (.int .u8 0) 1 Tryd.underlying23 info8 rfl .i64 .i64 (9 + zerosN n) (by omega) (by omega)
  rw [E0.out] at hmk
  have E1 : Hid ((u8s (List.replicate (9 + zerosN n) 0)).setIfInBounds 0 (.int .u8 128) = u8s (endC n 0)) := by
    show _ = _
    have h := (List.replicate_succ (n := 8 + zerosN n) (a := (0 : Int)))
    rw [show 9 + zerosN n = 8 + zerosN n + 1 by omega, h]
    simp [u8s, endC, fixL_length, Nat.add_comm]
  have LN : Hid (∀ c, c ≤ 8 → (endC n c).length = 9 + zerosN n) := fun c h => endC_len n c h
  have ES : Hid (∀ c, c < 8 → (u8s (endC n c)).setIfInBounds (8 + zerosN n - c) (.int .u8 ((8 * n / 2 ^ (8 * c) % 256 : Nat) : Int)) = u8s (endC n (c + 1))) := fun c h => by
    have : (u8s (endC n c)).setIfInBounds (8 + zerosN n - c) (.int .u8 ((fixL (8 * n : Nat) 8).getD (7 - c) 0)) = u8s ((endC n c).set (8 + zerosN n - c) ((fixL (8 * n : Nat) 8).getD (7 - c) 0)) := by
      simp [u8s, List.map_set]
    rw [← fix8_get n c h, this, endC_step n c h]
  have EA : Hid (endC n 8 = endL n) := endC_all n
  have hg0 := u8s_get (List.replicate (9 + zerosN n) 0) 0 (by simp; omega)
  have i9 : ((9 + zerosN n : Nat) : Int) = 1 + ((zerosN n : Nat) : Int) + 8 := by omega
  rw [i9] at hmk
  generalize zerosN n = z at *
  generalize (n + 9) % 64 = y at *
  go_enter Tryd.func80, Tryd.ntmps80
  go_wp2_with fail
  rw [E1.out]
  clear hmk hm1 hm2 E0 hg0
  go_loopg [24] 8 (fun g i wr => ∃ c : Nat, c ≤ 8 ∧ g = 8 - c ∧ i = .int .i64 c ∧ wr = w.alloc (.cells (u8s (endC n c)) 5))
  case atStart => exact ⟨0, Nat.zero_le _, rfl, rfl, rfl⟩
  case round =>
    obtain ⟨c, hc, rfl, rfl, rfl⟩ := hrel
    by_cases hlt : c < 8
    · have hs := ES.out c hlt
      have hg := u8s_get (endC n c) (8 + z - c) (by rw [LN.out c hc]; omega)
      generalize (endC n c).getD (8 + z - c) 0 = old at *
      have ix : 1 + (z : Int) + 8 - 1 - (c : Int) = ((8 + z - c : Nat) : Int) := by omega
      have ip : 8 + z - c < 9 + z := by omega
      have HS : Hid ((u8s (endC n c)).setIfInBounds (8 + z - c) (.int .u8 ((8 * n / 2 ^ (8 * c) % 256 : Nat) : Int)) = u8s (endC n (c + 1))) := hs
      clear hs
      generalize 8 + z - c = p at *
      go_wp2_with fail
      go_roundg (8 - (c + 1))
      case measure => omega
      case rel => exact ⟨c + 1, by omega, rfl, by go_num, by rw [← HS.out]; simp⟩
    · have e : c = 8 := by omega
      subst e
      rw [EA.out]
      go_wp2
      go_ret
      exact ⟨rfl, rfl⟩
end Go.Proofs.YtlddoobomjcldaaDoor
namespace Go.Proofs.YtlddoobomjcldaaDoor
open Go.ChangeShapes Go.WideShapes Go.ChangeAt Go.RowKit Go.Deep
set_option linter.unusedVariables false
/-- a Hash's cells -/
def hcells (s : List Nat) (R : List Int) (n : Nat) : List Value := .bool true :: ((s.map fun x : Nat => Value.int .u32 (x : Int)) ++ (R.map (Value.int .u8) ++ [.int .i64 (n : Int)]))
/-- the cells of a Hash that no call made -/
def hzero : List Value := .bool false :: (List.replicate 8 (.int .u32 0) ++ (List.replicate 64 (.int .u8 0) ++ [.int .i64 0]))
theorem hzero_info : (Tryd.prog.info? 123).map (fun i => (i.zero, i.size)) = some (some (.agg hzero.toArray), 74) := by kernel_rfl
theorem hsize : (Tryd.prog.info? 123).map (·.size) = some 74 := (zero_of_info hzero_info).2
theorem hcells_len (s : List Nat) (R : List Int) (n : Nat) (hs : s.length = 8) (hR : R.length = 64) : (hcells s R n).length = 74 := by simp [hcells, hs, hR]
theorem hcells_one (s : List Nat) (R : List Int) (n : Nat) : (hcells s R n).toArray.all (·.oneCell') = true := all_oneCell_toArray fun v hv => by
  simp only [hcells, List.mem_cons, List.mem_append, List.mem_map, List.not_mem_nil, or_false] at hv
  rcases hv with rfl | ⟨x, _, rfl⟩ | ⟨x, _, rfl⟩ | rfl <;> rfl
/-- at block g lies a Hash to which the bytes L were written -/
def HashAt (w : World) (g : Nat) (L : List Int) : Prop :=
  ∃ R : List Int, R.length = 64 ∧ IsBytes R ∧ R.take (L.length % 64) = L.drop (64 * (L.length / 64)) ∧ w.heap[g]? = some (.cells (hcells (nums L) R L.length).toArray 123)
theorem HashAt.of_heap {w w' : World} {g : Nat} {L : List Int} (h : HashAt w g L) (e : w'.heap[g]? = w.heap[g]?) : HashAt w' g L := by
  obtain ⟨R, h1, h2, h3, h4⟩ := h
  exact ⟨R, h1, h2, h3, e.trans h4⟩
theorem HashAt.lt {w : World} {g : Nat} {L : List Int} (h : HashAt w g L) : g < w.heap.size := by
  obtain ⟨R, h1, h2, h3, h4⟩ := h
  exact lt_of_heap h4
theorem first8_len : first8.length = 8 := rfl
theorem first8_all : all32 first8 := by unfold all32; decide
theorem numsN_len (L : List Int) : ∀ n, (numsN L n).length = 8
  | 0 => rfl
  | n + 1 => blk_len _ _ (numsN_len L n)
theorem numsN_all (L : List Int) : ∀ n, all32 (numsN L n)
  | 0 => first8_all
  | n + 1 => blk_all _ _ (numsN_all L n)
theorem nums_len (L : List Int) : (nums L).length = 8 := numsN_len _ _
theorem nums_all (L : List Int) : all32 (nums L) := numsN_all _ _
theorem HashAt.made {w : World} {g : Nat} {L : List Int} (h : HashAt w g L) : w.cell? ⟨g, 0, none⟩ = some (.bool true) := by
  obtain ⟨R, h1, h2, h3, h4⟩ := h
  rw [cell_of_row _ _ 0 _ _ (0, 0) h4]; rfl
theorem HashAt.length {w : World} {g : Nat} {L : List Int} (h : HashAt w g L) : w.cell? ⟨g, 73, none⟩ = some (.int .i64 (L.length : Int)) := by
  obtain ⟨R, h1, h2, h3, h4⟩ := h
  rw [cell_of_row _ _ 73 _ _ (0, 0) h4]
  simp [hcells, nums_len, h1]
theorem isNone_made (g : Nat) (b : Bool) (w : World) (h : w.cell? ⟨g, 0, none⟩ = some (.bool b)) :
    Calls Tryd.prog 78 #[.pointer (some ⟨g, 0, none⟩)] w fun e w' => e = .returned (.bool (!b)) ∧ w' = w := by
  go_enter Tryd.func78, Tryd.ntmps78
  go_wp2
  go_ret
  exact ⟨rfl, rfl⟩
theorem isNone_nil (w : World) :
    Calls Tryd.prog 78 #[.pointer none] w fun e w' => e = .returned (.bool true) ∧ w' = w := by
  go_enter Tryd.func78, Tryd.ntmps78
  go_wp2
  go_ret
  exact ⟨rfl, rfl⟩
theorem firstNumbers_is (w : World) :
    Calls Tryd.prog 77 #[] w fun e w' => e = .returned (.agg (u32s first8)) ∧ Below w.heap.size w w' := by
  go_enter Tryd.func77, Tryd.ntmps77
  go_wp2
  refine bodyPost_ret (results_cell_row rfl _ _ w.heap.size 119 (u32s first8) (0, 0) _ rfl (heap_alloc_last w _) Tryd.underlying119 rfl size8) rfl ⟨rfl, ?_⟩
  exact (Below.refl _ _).alloc (Nat.le_refl _) _
theorem wpList_build_is {ops : Array Oper} {rest : List Oper} {o : Oper} {a : Act} {w : World} {Q : Exit → Act → World → Prop} (hg : o.guard = none) (t : TypeId) (parts : Array (Nat × Operand)) (ho : o.op = .build t parts) (C : Array Value)
    (hf : Tryd.prog.built t (parts.map fun (i, x) => (i, a.eval x)).toList = some C)
    (h : wpList Tryd.prog ops Q rest (a.put o.dst (.agg C)) w) : wpList Tryd.prog ops Q (o :: rest) a w := by
  refine wpList_build hg t parts ho (by rw [hf]; rfl) ?_
  rw [hf]; exact h
theorem new_is (w : World) :
    Calls Tryd.prog 56 #[] w fun e w' => ∃ g, e = .returned (.pointer (some ⟨g, 0, none⟩)) ∧ w.heap.size ≤ g ∧ HashAt w' g [] ∧ Below w.heap.size w w' := by
  go_enter Tryd.func56, Tryd.ntmps56
  go_wp2_with (first | (go_at_call 77; refine (firstNumbers_is _).mono ?_; rintro e w1 ⟨rfl, hb⟩; have HB : Hid (Below w.heap.size w w1) := hb; clear hb) | (refine wpList_build_is rfl 123 _ rfl (hcells first8 (List.replicate 64 0) 0).toArray (by kernel_rfl) ?_; generalize hC : (hcells first8 (List.replicate 64 0) 0).toArray = C; have HC : Hid ((hcells first8 (List.replicate 64 0) 0).toArray = C) := hC; clear hC))
  go_ret
  refine ⟨w1.heap.size, rfl, HB.out.size, ⟨List.replicate 64 0, by simp, bytes_of_mem (fun x hx => by have := List.eq_of_mem_replicate hx; omega), by simp, ?_⟩, HB.out.alloc HB.out.size _⟩
  rw [heap_alloc_last, ← HC.out]; rfl
end Go.Proofs.YtlddoobomjcldaaDoor
