/- A slice of pieces that came in, opened; its bulk. -/
import Derived.Test.YtlngnhkadbjgbaaDoorShaPP
namespace Go.Proofs.YtlngnhkadbjgbaaDoor
open Go.ChangeShapes Go.WideShapes Go.ChangeAt Go.RowKit Go.Deep
set_option linter.unusedVariables false
theorem bulk_lits {H : Type} (zs : List Int) : Rows.uptoBulkAll (lits (H := H) .u8 zs) = zs.length := by
  induction zs with
  | nil => simp [lits, Rows.uptoBulkAll]
  | cons z r ih =>
    simp only [lits, List.map_cons, Rows.uptoBulkAll, Rows.uptoBulk, List.length_cons] at ih ⊢
    omega
theorem bulk_snoc {H : Type} (d : DataW H) : ∀ l : List (DataW H), Rows.uptoBulkAll (l ++ [d]) = Rows.uptoBulkAll l + Rows.uptoBulk d
  | [] => by simp [Rows.uptoBulkAll]
  | x :: r => by
    have := bulk_snoc d r
    simp only [List.cons_append, Rows.uptoBulkAll] at this ⊢
    omega
theorem bulk_range {H : Type} (D : Nat → DataW H) (j : Nat) : Rows.uptoBulkAll ((List.range (j + 1)).map D) = Rows.uptoBulkAll ((List.range j).map D) + Rows.uptoBulk (D j) := by
  rw [List.range_succ, List.map_append]
  exact bulk_snoc (D j) _
theorem cat_bulk {H : Type} (D : Nat → DataW H) (M : Nat → List Int) (len : Nat) (h : ∀ i, i < len → (M i).length + 1 ≤ Rows.uptoBulk (D i)) : ∀ j, j ≤ len → (catM M j).length + j ≤ Rows.uptoBulkAll ((List.range j).map D)
  | 0, _ => by simp [catM]
  | j + 1, hj => by
    have h1 := cat_bulk D M len h j (by omega)
    have h2 := h j (by omega)
    rw [bulk_range, show catM M (j + 1) = catM M j ++ M j from rfl, List.length_append]
    omega
theorem bulk_mono {H : Type} (D : Nat → DataW H) (j : Nat) : ∀ k, Rows.uptoBulkAll ((List.range j).map D) ≤ Rows.uptoBulkAll ((List.range (j + k)).map D)
  | 0 => Nat.le_refl _
  | k + 1 => by
    have h1 := bulk_mono D j k
    rw [show j + (k + 1) = (j + k) + 1 from rfl, bulk_range]
    omega
/-- what one piece's cells say -/
def PieceSaid (W : World) (B : Nat) (cs : List Value) (q : (Option Addr × Nat × Nat) × List Int × Bool × Bool) : Prop :=
  cs = [.slice q.1.1 q.1.2.1 q.1.2.2, .bool q.2.2.1, .bool q.2.2.2] ∧ (Holds W q.1.1 q.2.1 ∧ q.2.1.length = q.1.2.1 ∧ IsBytes q.2.1 ∧ (q.1.1 = none → q.1.2.2 = 0) ∧ (∀ x, q.1.1 = some x → q.2.1 ≠ [] → x.block < W.heap.size) ∧ q.1.2.1 ≤ q.1.2.2 ∧ q.1.2.2 ≤ 9223372036854775807) ∧ q.2.1.length + 1 ≤ B
theorem open_piece {H : Type} {enc : TypeId × Value → H} {W : World} {fuel : Nat} {cs : List Value} {x : DataW H × List MemPlace} (h : DataW.trod enc Tryd.prog W 0 (fun _ => true) true fuel 32 cs = some x) :
    ∃ q, PieceSaid W (Rows.uptoBulk x.1) cs q := by
  obtain ⟨xs, k, hk, hxy, hlen, hxl, hf⟩ := DataW.trod_struct Tryd.underlying32 h
  rw [cellsP] at hlen
  match xs, hxl, cs, hlen with
  | [y0, y1, y2], _, [v0, v1, v2], _ =>
    have g0 := hf 0 _ rfl
    have g1 := hf 1 _ rfl
    have g2 := hf 2 _ rfl
    simp [cellsS, cellsB] at g0 g1 g2
    obtain ⟨l, hl1, _⟩ := DataW.trod_bool Tryd.underlying4 g1
    obtain ⟨f, hf1, _⟩ := DataW.trod_bool Tryd.underlying4 g2
    simp only [List.cons.injEq, and_true] at hl1 hf1
    subst hl1 hf1 hxy
    rcases open_ints Tryd.underlying22 Tryd.underlying5 (by kernel_rfl) g0 with ⟨hcs, hx⟩ | ⟨a, ln, cp, zs, hcs, _, hle, hm, hz, hx, hcell, hwz⟩
    · simp only [List.cons.injEq, and_true] at hcs
      subst hcs hx
      refine ⟨((none, 0, 0), [], l, f), rfl, ⟨.inl rfl, rfl, fun i hi => by simp at hi, fun _ => rfl, fun x hx => by simp at hx, Nat.le_refl _, Nat.zero_le _⟩, ?_⟩
      simp [Rows.uptoBulk, Rows.uptoBulkAll]
    · simp only [List.cons.injEq, and_true] at hcs
      subst hcs hx
      have hz' : zs.length = cp := by simpa using hz
      have hL : (zs.take ln).length = ln := by rw [List.length_take]; omega
      simp only [maxLen] at hm
      refine ⟨((some a, ln, cp), zs.take ln, l, f), rfl, ⟨?_, hL, bytes_of_mem fun n hn => wf_u8 (hwz n (List.mem_of_mem_take hn)), fun h => by simp at h, fun y hy hne => ?_, hle, by omega⟩, ?_⟩
      · by_cases h0 : ln = 0
        · left; rw [h0]; rfl
        · obtain ⟨b, off, spot⟩ := a
          have hc0 := hcell 0 (by omega)
          have hspot : spot = none := by simpa [Addr.add] using World.cell?_spot hc0
          subst hspot
          refine .inr ⟨b, off, rfl, fun j hj => ?_⟩
          have hj' : j < ln := by have : j < (zs.take ln).length := hj; rwa [hL] at this
          have := hcell j (by omega)
          rw [add_plain] at this
          rw [this]
          simp [List.getD, hj']
      · have hy' : some a = some y := hy
        cases hy'
        have h0 : 0 < ln := by
          rcases Nat.eq_zero_or_pos ln with e | e
          · exact absurd (show zs.take ln = [] by rw [e]; rfl) hne
          · exact e
        have hc0 := hcell 0 (by omega)
        have := World.block_lt_of_cell? _ _ hc0
        simpa [Addr.add] using this
      · simp only [List.map_cons, List.map_nil, Rows.uptoBulk, Rows.uptoBulkAll, bulk_lits]
        omega
theorem open_pieces {H : Type} {enc : TypeId × Value → H} {W : World} {fuel : Nat} {a : Option Addr} {len cap : Nat} {x : DataW H × List MemPlace} (h : DataW.trod enc Tryd.prog W 0 (fun _ => true) true fuel 28 [.slice a len cap] = some x) :
    ∃ V M lk fk, InP W a len V M lk fk ∧ (∀ j, j ≤ len → (catM M j).length ≤ Rows.uptoBulk x.1) ∧ len ≤ Rows.uptoBulk x.1 := by
  rcases open_slice Tryd.underlying28 h with ⟨hcs, hx⟩ | ⟨a', len', cap', m, n, D, Pl, hcs, _, hl, hm, hmm, hx, hel⟩
  · simp only [List.cons.injEq, and_true, Value.slice.injEq] at hcs
    obtain ⟨rfl, rfl, rfl⟩ := hcs
    refine ⟨fun _ => (none, 0, 0), fun _ => [], fun _ => false, fun _ => false, ⟨fun h => by omega, fun i hi => by omega⟩, fun j hj => ?_, Nat.zero_le _⟩
    obtain rfl : j = 0 := by omega
    exact Nat.zero_le _
  · simp only [List.cons.injEq, and_true, Value.slice.injEq] at hcs
    obtain ⟨rfl, rfl, rfl⟩ := hcs
    have hmc : m = cap := by simpa using hmm
    subst hmc hx
    have each : ∀ i, i < len → ∃ q : (Option Addr × Nat × Nat) × List Int × Bool × Bool, ∃ cs', W.cells? 0 (a'.add (i * 3)) 3 = some cs' ∧ PieceSaid W (Rows.uptoBulk (D i)) cs' q := by
      intro i hi
      obtain ⟨cs', h1, h2⟩ := hel i (by omega)
      rw [cellsP] at h1
      obtain ⟨q, hq⟩ := open_piece h2
      exact ⟨q, cs', h1, hq⟩
    obtain ⟨q, hq⟩ := choose_lt each
    refine ⟨fun i => (q i).1, fun i => (q i).2.1, fun i => (q i).2.2.1, fun i => (q i).2.2.2, ⟨fun h0 => ?_, fun i hi => ?_⟩, ?_, ?_⟩
    · have hsp : ∀ i, i < len → W.cell? (a'.add (i * 3)) = some (.slice (q i).1.1 (q i).1.2.1 (q i).1.2.2) ∧ W.cell? (a'.add (i * 3 + 1)) = some (.bool (q i).2.2.1) ∧ W.cell? (a'.add (i * 3 + 2)) = some (.bool (q i).2.2.2) := by
        intro i hi
        obtain ⟨cs', h1, h2⟩ := hq i hi
        obtain ⟨_, hlen, hcell⟩ := World.cells?_some h1
        have hcs' := h2.1
        subst hcs'
        have e0 := hcell 0 (by omega)
        have e1 := hcell 1 (by omega)
        have e2 := hcell 2 (by omega)
        rw [add_add] at e0 e1 e2
        exact ⟨by simpa using e0, by simpa using e1, by simpa using e2⟩
      obtain ⟨b, off, spot⟩ := a'
      have hc := (hsp 0 h0).1
      have hspot : spot = none := by simpa [Addr.add] using World.cell?_spot hc
      subst hspot
      rw [add_plain] at hc
      refine ⟨b, off, rfl, World.block_lt_of_cell? _ _ hc, fun i hi => ?_⟩
      have := hsp i hi
      rw [add_plain, add_plain, add_plain] at this
      exact this
    · obtain ⟨cs', h1, h2⟩ := hq i hi
      exact h2.2.1
    · intro j hj
      have h1 := cat_bulk D (fun i => (q i).2.1) len (fun i hi => by obtain ⟨cs', h1, h2⟩ := hq i hi; exact h2.2.2) j hj
      have h2 := bulk_mono D j (len - j)
      rw [show j + (len - j) = len by omega] at h2
      simp only [Rows.uptoBulk]
      omega
    · have h1 := cat_bulk D (fun i => (q i).2.1) len (fun i hi => by obtain ⟨cs', h1, h2⟩ := hq i hi; exact h2.2.2) len (Nat.le_refl _)
      simp only [Rows.uptoBulk]
      omega
end Go.Proofs.YtlngnhkadbjgbaaDoor
