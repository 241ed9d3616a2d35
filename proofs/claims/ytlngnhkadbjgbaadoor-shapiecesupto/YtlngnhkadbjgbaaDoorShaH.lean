/- A digest's text: Hex. -/
import Derived.Test.YtlngnhkadbjgbaaDoorShaE
namespace Go.Proofs.YtlngnhkadbjgbaaDoor
open Go.ChangeShapes Go.WideShapes Go.ChangeAt Go.RowKit Go.Deep
set_option linter.unusedVariables false
/-- a sign -/
def sgn (n : Nat) : Int := if n < 10 then 48 + n else 87 + n
/-- the two signs of a byte -/
def two (d : Int) : List Int := [sgn (d.toNat / 16), sgn (d.toNat % 16)]
def hexL (D : List Int) : List Int := D.flatMap two
theorem hexL_len : ∀ D : List Int, (hexL D).length = 2 * D.length
  | [] => rfl
  | d :: D => by
    have := hexL_len D
    simp only [hexL, List.flatMap_cons, List.length_append, List.length_cons] at this ⊢
    simp only [two, List.length_cons, List.length_nil]
    omega
theorem hexL_append (A B : List Int) : hexL (A ++ B) = hexL A ++ hexL B := by simp [hexL]
theorem run_sign (i : Nat) (h : i < 16) (k : IntKind) (W : World) : (Instr.index 9 (.string ⟨#[48, 49, 50, 51, 52, 53, 54, 55, 56, 57, 97, 98, 99, 100, 101, 102]⟩) (.int k (i : Int))).run Tryd.prog W = .ok (.int .u8 (sgn i)) W := by
  rw [run_index_string (P := Tryd.prog) W 9 _ k _ Tryd.underlying9]
  have hi : (0 : Int) ≤ (i : Int) ∧ (i : Int) < (((⟨#[48, 49, 50, 51, 52, 53, 54, 55, 56, 57, 97, 98, 99, 100, 101, 102]⟩ : ByteArray).size : Nat) : Int) := ⟨by omega, by show (i : Int) < 16; omega⟩
  rw [dif_pos hi]
  rcases (by omega : i = 0 ∨ i = 1 ∨ i = 2 ∨ i = 3 ∨ i = 4 ∨ i = 5 ∨ i = 6 ∨ i = 7 ∨ i = 8 ∨ i = 9 ∨ i = 10 ∨ i = 11 ∨ i = 12 ∨ i = 13 ∨ i = 14 ∨ i = 15) with rfl | rfl | rfl | rfl | rfl | rfl | rfl | rfl | rfl | rfl | rfl | rfl | rfl | rfl | rfl | rfl <;> rfl
theorem sign_run (w : World) (a : Act) (o : Oper) (x : Operand) (ho : o.op = .index 9 (.const (.string ⟨#[48, 49, 50, 51, 52, 53, 54, 55, 56, 57, 97, 98, 99, 100, 101, 102]⟩)) x) (i : Nat) (h : i < 16) (k : IntKind) (hx : a.eval x = .int k (i : Int)) :
    (execOp a.eval o).run Tryd.prog w = .ok (.value (.int .u8 (sgn i))) w := by
  have hc : a.eval (.const (.string ⟨#[48, 49, 50, 51, 52, 53, 54, 55, 56, 57, 97, 98, 99, 100, 101, 102]⟩)) = .string ⟨#[48, 49, 50, 51, 52, 53, 54, 55, 56, 57, 97, 98, 99, 100, 101, 102]⟩ := rfl
  unfold execOp
  simp only [ho, hx, hc, Sem.run_bind, Sem.run_pure, Result.andThen_ok, run_sign i h k w]
theorem sgn_byte (i : Nat) (h : i < 16) : 0 ≤ sgn i ∧ sgn i ≤ 255 := by
  unfold sgn
  split <;> omega
theorem hexL_bytes (D : List Int) (h : IsBytes D) : IsBytes (hexL D) := bytes_of_mem fun x hx => by
  simp only [hexL, List.mem_flatMap, two, List.mem_cons, List.not_mem_nil, or_false] at hx
  obtain ⟨d, hd, hx⟩ := hx
  obtain ⟨d0, d1⟩ := bytes_mem h d hd
  rcases hx with rfl | rfl
  · exact sgn_byte _ (by omega)
  · exact sgn_byte _ (by omega)
/-- behind c bytes -/
def hexC (D : List Int) (c : Nat) : List Int := hexL (D.take c) ++ List.replicate (64 - 2 * c) 0
theorem hexC_len (D : List Int) (hD : D.length = 32) (c : Nat) (hc : c ≤ 32) : (hexC D c).length = 64 := by
  simp only [hexC, List.length_append, hexL_len, List.length_take, List.length_replicate]; omega
theorem hexC_step (D : List Int) (hD : D.length = 32) (c n : Nat) (hc : c < 32) (hn : D.getD c 0 = (n : Int)) : ((hexC D c).set (2 * c) (sgn (n / 16))).set (2 * c + 1) (sgn (n % 16)) = hexC D (c + 1) := by
  have e : List.replicate (64 - 2 * c) (0 : Int) = 0 :: 0 :: List.replicate (64 - 2 * (c + 1)) 0 := by
    rw [← List.replicate_succ, ← List.replicate_succ]; congr 1; omega
  have hl : (hexL (D.take c)).length = 2 * c := by rw [hexL_len, List.length_take]; omega
  have ht : D.take (c + 1) = D.take c ++ [(n : Int)] := by
    rw [List.take_add_one, ← hn]
    simp [List.getD, List.getElem?_eq_getElem (show c < D.length by omega)]
  unfold hexC
  rw [e, List.set_append_right _ _ (by omega), List.set_append_right _ _ (by omega), hl, Nat.sub_self, show 2 * c + 1 - 2 * c = 1 by omega, ht, hexL_append]
  simp [hexL, two]
theorem hexC_all (D : List Int) (hD : D.length = 32) : hexC D 32 = hexL D := by
  unfold hexC
  rw [List.take_of_length_le (by omega)]; simp
theorem and15 (n : Nat) (h : n ≤ 255) : bits .and .u8 (n : Int) 15 = ((n % 16 : Nat) : Int) := by
  have : bits .and .u8 (n : Int) ((15 : Nat) : Int) = ((n &&& 15 : Nat) : Int) := u8_and_nat n 15 (by omega) (by omega)
  rw [show (15 : Int) = ((15 : Nat) : Int) from rfl, this, show (15 : Nat) = 2 ^ 4 - 1 from rfl, Nat.and_two_pow_sub_one_eq_mod]
theorem z64b_is : u8s (hexC [] 0) = #[.int .u8 0, .int .u8 0, .int .u8 0, .int .u8 0, .int .u8 0, .int .u8 0, .int .u8 0, .int .u8 0, .int .u8 0, .int .u8 0, .int .u8 0, .int .u8 0, .int .u8 0, .int .u8 0, .int .u8 0, .int .u8 0, .int .u8 0, .int .u8 0, .int .u8 0, .int .u8 0, .int .u8 0, .int .u8 0, .int .u8 0, .int .u8 0, .int .u8 0, .int .u8 0, .int .u8 0, .int .u8 0, .int .u8 0, .int .u8 0, .int .u8 0, .int .u8 0, .int .u8 0, .int .u8 0, .int .u8 0, .int .u8 0, .int .u8 0, .int .u8 0, .int .u8 0, .int .u8 0, .int .u8 0, .int .u8 0, .int .u8 0, .int .u8 0, .int .u8 0, .int .u8 0, .int .u8 0, .int .u8 0, .int .u8 0, .int .u8 0, .int .u8 0, .int .u8 0, .int .u8 0, .int .u8 0, .int .u8 0, .int .u8 0, .int .u8 0, .int .u8 0, .int .u8 0, .int .u8 0, .int .u8 0, .int .u8 0, .int .u8 0, .int .u8 0] := by kernel_rfl
theorem hexC0 (D : List Int) : hexC D 0 = hexC [] 0 := by simp [hexC]
set_option maxRecDepth 100000 in
set_option maxHeartbeats 8000000 in
theorem hex_is (D : List Int) (hD : D.length = 32) (hb : IsBytes D) (w : World) :
    Calls Tryd.prog 15 #[.agg (u8s D)] w fun e w' => e = .returned (.string (strOfNums (hexL D))) ∧ Below w.heap.size w w' := by
  have HBy : Hid (IsBytes D) := hb
  have R0 : Hid (((w.alloc (.cells (u8s D) 24)).alloc (.cells (u8s (hexC [] 0)) 47)).heap[w.heap.size]? = some (.cells (u8s D) 24)) := (Below.heap_alloc _ _ _ (by simp)).trans (heap_alloc_last w _)
  rw [z64b_is] at R0
  clear hb
  go_enter Tryd.func15, Tryd.ntmps15
  go_wp2_with (refine wpList_load_row rfl 24 (.tmp 1) rfl w.heap.size rfl 24 (u8s D) (0, 0) _ R0.out Tryd.underlying24 rfl (size32l D hD) ?_)
  clear R0
  rw [← z64b_is]
  go_loopg [7] 32 (fun g i wr => ∃ c : Nat, c ≤ 32 ∧ g = 32 - c ∧ i = .int .i64 c ∧ Below w.heap.size w wr ∧ wr.heap[w.heap.size + 1]? = some (.cells (u8s (hexC D c)) 47))
  case atStart => exact ⟨0, Nat.zero_le _, rfl, rfl, ((Below.refl _ _).alloc (Nat.le_refl _) _).alloc (by simp) _, by rw [hexC0]; have := heap_alloc_last (w.alloc (.cells (u8s D) 24)) (.cells (u8s (hexC [] 0)) 47); rwa [World.size_alloc] at this⟩
  case round =>
    obtain ⟨c, hc, rfl, rfl, hbel, h1⟩ := hrel
    have HB : Hid (Below w.heap.size w wr) := hbel
    have H1 : Hid (wr.heap[w.heap.size + 1]? = some (.cells (u8s (hexC D c)) 47)) := h1
    clear hbel h1
    by_cases hlt : c < 32
    · obtain ⟨d0, d1⟩ := HBy.out c (by omega)
      obtain ⟨n, hn⟩ := Int.eq_ofNat_of_zero_le d0
      have hg1 := u8s_get D c (by omega)
      rw [hn] at hg1
      have hix := fun W : World => run_index_cell W 24 5 32 (u8s D) c _ Tryd.underlying24 hlt (by kernel_rfl) .u8 Tryd.underlying5 hg1
      have n255 : n ≤ 255 := by omega
      have HS : Hid (((u8s (hexC D c)).setIfInBounds (2 * c) (.int .u8 (sgn (n / 16)))).setIfInBounds (2 * c + 1) (.int .u8 (sgn (n % 16))) = u8s (hexC D (c + 1))) := by
        show _ = _
        rw [u8s_set, u8s_set, hexC_step D hD c n hlt hn]
      have s1 := fun W : World => run_sign (n / 16) (by omega) .u8 W
      have s2 := fun W : World => run_sign (n % 16) (by omega) .u8 W
      rw [show ((n / 16 : Nat) : Int) = (n : Int) / 16 by omega] at s1
      have ha := and15 n n255
      have HL : Hid ((hexC D c).length = 64) := hexC_len D hD c hc
      clear d0 d1 hn hg1
      have hc0 : (wr.drew.cell? ⟨w.heap.size + 1, 2 * c, none⟩).isSome = true := by
        rw [cell_of_row _ _ _ _ _ (0, 0) (show wr.drew.heap[w.heap.size + 1]? = _ from H1.out), u8s_get _ _ (by rw [HL.out]; omega)]; rfl
      have hf0 : wr.drew.frozen? ⟨w.heap.size + 1, 2 * c, none⟩ = false := by simp only [World.frozen?, show wr.drew.heap[w.heap.size + 1]? = _ from H1.out]; simp
      have K1 : Hid ((wr.drew.setCell ⟨w.heap.size + 1, 2 * c, none⟩ (.int .u8 (sgn (n / 16)))).heap[w.heap.size + 1]? = some (.cells ((u8s (hexC D c)).setIfInBounds (2 * c) (.int .u8 (sgn (n / 16)))) 47)) := heap_setCell_own wr.drew _ _ _ _ _ H1.out _
      have hc1 : ((wr.drew.setCell ⟨w.heap.size + 1, 2 * c, none⟩ (.int .u8 (sgn (n / 16)))).cell? ⟨w.heap.size + 1, 2 * c + 1, none⟩).isSome = true := by
        rw [cell_of_row _ _ _ _ _ (0, 0) K1.out, u8s_set, u8s_get _ _ (by rw [List.length_set, HL.out]; omega)]; rfl
      have hf1 : (wr.drew.setCell ⟨w.heap.size + 1, 2 * c, none⟩ (.int .u8 (sgn (n / 16)))).frozen? ⟨w.heap.size + 1, 2 * c + 1, none⟩ = false := by simp only [World.frozen?, K1.out]; simp
      have K2 : Hid (((wr.drew.setCell ⟨w.heap.size + 1, 2 * c, none⟩ (.int .u8 (sgn (n / 16)))).setCell ⟨w.heap.size + 1, 2 * c + 1, none⟩ (.int .u8 (sgn (n % 16)))).heap[w.heap.size + 1]? = some (.cells (u8s (hexC D (c + 1))) 47)) := by
        have h := heap_setCell_own _ (w.heap.size + 1) (2 * c + 1) _ _ _ K1.out (.int .u8 (sgn (n % 16)))
        rw [HS.out] at h; exact h
      have B2 : Hid (Below w.heap.size w ((wr.drew.setCell ⟨w.heap.size + 1, 2 * c, none⟩ (.int .u8 (sgn (n / 16)))).setCell ⟨w.heap.size + 1, 2 * c + 1, none⟩ (.int .u8 (sgn (n % 16))))) := (HB.out.drew.setCell (by show w.heap.size ≤ w.heap.size + 1; omega) _).setCell (by show w.heap.size ≤ w.heap.size + 1; omega) _
      have i2 : (2 : Int) * (c : Int) < 64 := by omega
      have i3 : (2 : Int) * (c : Int) + 1 < 64 := by omega
      have v2 : IntKind.i64.wrap (2 * (c : Int)) = 2 * (c : Int) := by rw [IntKind.wrap_i64]; omega
      have v3 : IntKind.i64.wrap (2 * (c : Int) + 1) = 2 * (c : Int) + 1 := by rw [IntKind.wrap_i64]; omega
      have n2 : ¬ (2 * (c : Int) < 0) := by omega
      have n3 : ¬ (2 * (c : Int) + 1 < 0) := by omega
      have n4 : 0 ≤ 2 * (c : Int) := by omega
      have n5 : 0 ≤ 2 * (c : Int) + 1 := by omega
      have t2 : (2 * (c : Int)).toNat = 2 * c := by omega
      have t3 : (2 * (c : Int) + 1).toNat = 2 * c + 1 := by omega
      go_wp2_with fail
      refine wp_region_noPanic ?_
      refine wp_region_held_drew (S := (fun _ : World => True)) (by kernel_rfl) ?hSa (fun hHeld => ?resta)
      case hSa => trivial
      case resta =>
        refine wpAnyH_take (i := 0) (v := ?v0) rfl (by kernel_rfl) (by kernel_rfl) (by kernel_rfl) (fun _ _ _ h => h) (Or.inl ⟨by rfl, ?hy0⟩) hHeld ?rest0
        case hy0 => (intro w hSw; (try dsimp only at hSw); go_simp; try with_reducible rfl)
        try simp only [Act.put, List.setIfInBounds_toArray, List.set_cons_zero, List.set_cons_succ, List.getElem_toArray, List.getElem_cons_zero]
        refine wpAnyH_take (i := 1) (v := ?v1) rfl (by kernel_rfl) (by kernel_rfl) (by kernel_rfl) (fun _ _ _ h => h) (Or.inl ⟨by rfl, ?hy1⟩) hHeld ?rest1
        case hy1 => (intro w hSw; (try dsimp only at hSw); go_simp; try with_reducible rfl)
        try simp only [Act.put, List.setIfInBounds_toArray, List.set_cons_zero, List.set_cons_succ, List.getElem_toArray, List.getElem_cons_zero, List.getElem_cons_succ]
        refine wpAnyH_take (i := 2) (v := ?v2) rfl (by kernel_rfl) (by kernel_rfl) (by kernel_rfl) (fun _ _ _ h => h) (Or.inl ⟨by rfl, ?hy2⟩) hHeld ?rest2
        case hy2 => (intro w hSw; (try dsimp only at hSw); go_simp; try with_reducible rfl)
        try simp only [Act.put, List.setIfInBounds_toArray, List.set_cons_zero, List.set_cons_succ, List.getElem_toArray, List.getElem_cons_zero, List.getElem_cons_succ]
        refine wpAnyH_take (i := 3) (v := ?v3) rfl (by kernel_rfl) (by kernel_rfl) (by kernel_rfl) (fun _ _ _ h => h) (Or.inl ⟨by rfl, ?hy3⟩) hHeld ?rest3
        case hy3 => (intro w hSw; (try dsimp only at hSw); go_simp; try with_reducible rfl)
        try simp only [Act.put, List.setIfInBounds_toArray, List.set_cons_zero, List.set_cons_succ, List.getElem_toArray, List.getElem_cons_zero, List.getElem_cons_succ]
        refine wpAnyH_take (i := 4) (v := ?v4) rfl (by kernel_rfl) (by kernel_rfl) (by kernel_rfl) (fun _ _ _ h => h) (Or.inl ⟨by rfl, ?hy4⟩) hHeld ?rest4
        case hy4 => (intro w hSw; (try dsimp only at hSw); go_simp; try with_reducible rfl)
        try simp only [Act.put, List.setIfInBounds_toArray, List.set_cons_zero, List.set_cons_succ, List.getElem_toArray, List.getElem_cons_zero, List.getElem_cons_succ]
        refine wpAnyH_take (i := 5) (v := ?v5) rfl (by kernel_rfl) (by kernel_rfl) (by kernel_rfl) (fun _ _ _ h => h) (Or.inl ⟨by rfl, ?hy5⟩) hHeld ?rest5
        case hy5 => (intro w hSw; (try dsimp only at hSw); go_simp; try with_reducible rfl)
        try simp only [Act.put, List.setIfInBounds_toArray, List.set_cons_zero, List.set_cons_succ, List.getElem_toArray, List.getElem_cons_zero, List.getElem_cons_succ]
        refine wpAnyH_take (i := 6) (v := ?v6) rfl (by kernel_rfl) (by kernel_rfl) (by kernel_rfl) (fun _ _ _ h => h) (Or.inl ⟨by rfl, ?hy6⟩) hHeld ?rest6
        case hy6 => (intro w hSw; (try dsimp only at hSw); go_simp; try with_reducible rfl)
        try simp only [Act.put, List.setIfInBounds_toArray, List.set_cons_zero, List.set_cons_succ, List.getElem_toArray, List.getElem_cons_zero, List.getElem_cons_succ]
        refine wpAnyH_take (i := 7) (v := .int .u8 (sgn (n / 16))) rfl (by kernel_rfl) (by kernel_rfl) (by kernel_rfl) (fun _ _ _ h => h) (Or.inl ⟨by rfl, ?hy7⟩) hHeld ?rest7
        case hy7 => (intro w hSw; exact sign_run w _ _ (.tmp 17) rfl (n / 16) (by omega) .u8 rfl)
        try simp only [Act.put, List.setIfInBounds_toArray, List.set_cons_zero, List.set_cons_succ, List.getElem_toArray, List.getElem_cons_zero, List.getElem_cons_succ]
        refine wpAnyH_take (i := 8) (v := ?v8) rfl (by kernel_rfl) (by kernel_rfl) (by kernel_rfl) (fun _ _ _ h => h) (Or.inl ⟨by rfl, ?hy8⟩) hHeld ?rest8
        case hy8 => (intro w hSw; (try dsimp only at hSw); go_simp; try with_reducible rfl)
        try simp only [Act.put, List.setIfInBounds_toArray, List.set_cons_zero, List.set_cons_succ, List.getElem_toArray, List.getElem_cons_zero, List.getElem_cons_succ]
        refine wpAnyH_take (i := 9) (v := ?v9) rfl (by kernel_rfl) (by kernel_rfl) (by kernel_rfl) (fun _ _ _ h => h) (Or.inl ⟨by rfl, ?hy9⟩) hHeld ?rest9
        case hy9 => (intro w hSw; (try dsimp only at hSw); go_simp; try with_reducible rfl)
        try simp only [Act.put, List.setIfInBounds_toArray, List.set_cons_zero, List.set_cons_succ, List.getElem_toArray, List.getElem_cons_zero, List.getElem_cons_succ]
        refine wpAnyH_take (i := 10) (v := .int .u8 (sgn (n % 16))) rfl (by kernel_rfl) (by kernel_rfl) (by kernel_rfl) (fun _ _ _ h => h) (Or.inl ⟨by rfl, ?hy10⟩) hHeld ?rest10
        case hy10 => (intro w hSw; exact sign_run w _ _ (.tmp 20) rfl (n % 16) (by omega) .u8 rfl)
        try simp only [Act.put, List.setIfInBounds_toArray, List.set_cons_zero, List.set_cons_succ, List.getElem_toArray, List.getElem_cons_zero, List.getElem_cons_succ]
        refine wpAnyH_take (i := 11) (v := .pointer (some ⟨w.heap.size + 1, 2 * c, none⟩)) rfl (by kernel_rfl) (by kernel_rfl) (by kernel_rfl) (fun _ _ _ h => h) (Or.inl ⟨by rfl, ?hy11⟩) hHeld ?rest11
        case hy11 => (intro w hSw; clear hSw; go_simp; try with_reducible rfl)
        try simp only [Act.put, List.setIfInBounds_toArray, List.set_cons_zero, List.set_cons_succ, List.getElem_toArray, List.getElem_cons_zero, List.getElem_cons_succ]
        refine wpAnyH_ready (rs := [12]) (by kernel_rfl) (by simp) ?_
        refine AllReadyH.cons rfl (fun K hK => ?_) AllReadyH.nil
        rw [if_pos (by kernel_rfl)]; refine wp_store_one 5 (.tmp 22) (.tmp 18) rfl (w.heap.size + 1) (2 * c) .u8 _ rfl rfl hc0 hf0 (by kernel_rfl) ?_
        refine hK.out _ _ ?hS12 (fun hHeld => ?rest12)
        case hS12 => trivial
        clear hK K
        refine wpAnyH_take (i := 13) (v := .pointer (some ⟨w.heap.size + 1, 2 * c + 1, none⟩)) rfl (by kernel_rfl) (by kernel_rfl) (by kernel_rfl) (fun _ _ _ h => h) (Or.inl ⟨by rfl, ?hy13⟩) hHeld ?rest13
        case hy13 => (intro w hSw; clear hSw; go_simp; try with_reducible rfl)
        try simp only [Act.put, List.setIfInBounds_toArray, List.set_cons_zero, List.set_cons_succ, List.getElem_toArray, List.getElem_cons_zero, List.getElem_cons_succ]
        refine wpAnyH_ready (rs := [14]) (by kernel_rfl) (by simp) ?_
        refine AllReadyH.cons rfl (fun K hK => ?_) AllReadyH.nil
        rw [if_pos (by kernel_rfl)]; refine wp_store_one 5 (.tmp 23) (.tmp 21) rfl (w.heap.size + 1) (2 * c + 1) .u8 _ rfl rfl hc1 hf1 (by kernel_rfl) ?_
        refine hK.out _ _ ?hS14 (fun hHeld => ?rest14)
        case hS14 => trivial
        clear hK K
        refine wpAnyH_done (by kernel_rfl) ?_ _
        refine NoPanic.normal ?_
        generalize (wr.drew.setCell ⟨w.heap.size + 1, 2 * c, none⟩ (.int .u8 (sgn (n / 16)))).setCell ⟨w.heap.size + 1, 2 * c + 1, none⟩ (.int .u8 (sgn (n % 16))) = w2 at *
        clear hHeld
        go_wp2_with fail
        go_roundg (32 - (c + 1))
        case measure => omega
        case rel => exact ⟨c + 1, by omega, rfl, by go_num, B2.out, K2.out⟩
    · have e : c = 32 := by omega
      subst e
      rw [hexC_all D hD] at H1
      have hcv := conv_str (w := wr) (a := some ⟨w.heap.size + 1, 0, none⟩) (L := hexL D) (.inr ⟨w.heap.size + 1, 0, rfl, fun i hi => by rw [Nat.zero_add, cell_of_row _ _ _ _ _ (0, 0) H1.out]; exact u8s_get _ _ hi⟩) 64 64 (by rw [hexL_len, hD])
      go_wp2
      go_ret
      exact ⟨rfl, HB.out⟩
end Go.Proofs.YtlngnhkadbjgbaaDoor
