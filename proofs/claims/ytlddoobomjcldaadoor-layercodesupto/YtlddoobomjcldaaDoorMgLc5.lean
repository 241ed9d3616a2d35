/- layer's reader: entry. A slice of entries of one's own; layer's reader: layer. Slices of texts that grow; the document's own Pieces. The document's own Part and Text. -/
import Derived.Test.YtlddoobomjcldaaDoorMgLc4
import Derived.Test.YtlddoobomjcldaaDoorMgLc2
import Derived.OwnWalk
import Derived.Laws.AppendOwnNone
namespace Go.Proofs.YtlddoobomjcldaaDoor
open Go.ChangeShapes Go.WideShapes Go.ChangeAt Go.RowKit Go.Deep
set_option linter.unusedVariables false
/-- what entry tells -/
def ESaid (w : World) (R : Nat) (L : List Int) (e : Ending) (w' : World) : Prop := Gr w w' (some R) (some R) ∧ match re L with
  | none => Pan e
  | some (x, r) => e = .returned (ag x) ∧ RdB w' R r
theorem RdB.lt {w : World} {R : Nat} {L : List Int} (h : RdB w R L) : R < w.heap.size := by obtain ⟨a, n, c, hr, _⟩ := h; exact hr.lt
theorem RdB.keep {w w' : World} {R : Nat} {L : List Int} (h : RdB w R L) (hb : Below w.heap.size w w') : RdB w' R L := by
  have hlt0 := h.lt
  obtain ⟨a, n, c, hr, hl, hh, hb', hn, hc, hn47, hlt⟩ := h
  exact ⟨a, n, c, (hb.block R hlt0).trans hr, hl, hh.below hb (fun x hx hne => Nat.lt_trans (hlt x hx hne) hlt0), hb', hn, hc, hn47, hlt⟩
theorem RdB.block {w w' : World} {R : Nat} {L : List Int} (h : RdB w R L) (hb : ∀ g, g ≤ R → w'.heap[g]? = w.heap[g]?) : RdB w' R L := by
  obtain ⟨a, n, c, hr, hl, hh, hb', hn, hc, hn47, hlt⟩ := h
  refine ⟨a, n, c, (hb R (Nat.le_refl _)).trans hr, hl, ?_, hb', hn, hc, hn47, hlt⟩
  rcases hh with e | ⟨b, off, rfl, hcell⟩
  · exact .inl e
  · by_cases hL : L = []
    · exact .inl hL
    · have := hlt _ rfl hL
      exact .inr ⟨b, off, rfl, fun i hi => by rw [← hcell i hi]; exact World.cell?_of_block (a := ⟨b, off + i, none⟩) (hb b (Nat.le_of_lt this))⟩
theorem Gr.setNew {w w' : World} {r r' : Option Nat} (h : Gr w w' r r') {g : Nat} (hg : w.heap.size ≤ g) (i : Nat) (v : Value) : Gr w (w'.setCell ⟨g, i, none⟩ v) r r' :=
  ⟨⟨h.1.os, h.1.tape, h.1.output, by have := h.1.size; simpa [World.setCell] using this, fun k hk hr => (Below.heap_setCell _ ⟨g, i, none⟩ _ _ (show k ≠ g by omega)).trans (h.1.block k hk hr)⟩, h.2⟩
theorem RdB.setAt {w : World} {R : Nat} {L : List Int} (h : RdB w R L) {g : Nat} (hg : R < g) (i : Nat) (v : Value) : RdB (w.setCell ⟨g, i, none⟩ v) R L :=
  h.block (fun k hk => Below.heap_setCell _ ⟨g, i, none⟩ _ _ (show k ≠ g by omega))
theorem xc_all {w : World} {g : Nat} {P B : ByteArray} {k m : Int} {t : TypeId} (h : w.heap[g]? = some (.cells (ec P k m B) t)) :
    (w.cell? ⟨g, 0, none⟩ = some (.string P) ∧ w.cell? ⟨g, 1, none⟩ = some (.int .i64 k) ∧ w.cell? ⟨g, 2, none⟩ = some (.int .i64 m) ∧ w.cell? ⟨g, 3, none⟩ = some (.string B)) ∧
    w.frozen? ⟨g, 0, none⟩ = false ∧ w.frozen? ⟨g, 1, none⟩ = false ∧ w.frozen? ⟨g, 2, none⟩ = false ∧ w.frozen? ⟨g, 3, none⟩ = false :=
  ⟨ec_cells h, frozen_of_row w g 0 _ _ h, frozen_of_row w g 1 _ _ h, frozen_of_row w g 2 _ _ h, frozen_of_row w g 3 _ _ h⟩
set_option maxRecDepth 100000 in
theorem entry_none (w : World) (R : Nat) (h : RdB w R []) : Calls Tryd.prog 54 #[.pointer (some ⟨R, 0, none⟩)] w (ESaid w R []) := by
  have HE : Hid (∀ e w', Pan e → Gr w w' (some R) (some R) → ESaid w R [] e w') := fun e w' h1 h2 => ⟨h2, h1⟩
  have K : Hid (∀ w', Below w.heap.size w w' → Calls Tryd.prog 52 #[.pointer (some ⟨R, 0, none⟩), .int .u64 1] w' fun e w2 => Pan e ∧ w2 = w') := fun w' hb => take_end w' R 1 [] (h.keep hb) (by simp) (by decide)
  clear h
  generalize ESaid w R [] = T at *
  go_enter Tryd.func54, Tryd.ntmps54
  go_wp2_with fail
  refine (K.out _ ((Below.refl _ _).alloc (Nat.le_refl _) _)).mono ?_
  rintro e w1 ⟨⟨k, rfl⟩, hw⟩
  obtain rfl := hw.symm
  clear hw K
  go_wp2_with fail
  exact ⟨rfl, HE.out _ _ ⟨_, rfl⟩ (Gr.alloc _ _ _)⟩
/-- a byte that a slice of one holds -/
theorem holds1 {w : World} {a : Option Addr} {x : Int} (h : Holds w a [x]) : ∃ b off, a = some ⟨b, off, none⟩ ∧ w.cell? ⟨b, off, none⟩ = some (.int .u8 x) := by
  rcases h with e | ⟨b, off, rfl, hc⟩
  · simp at e
  · exact ⟨b, off, rfl, hc 0 (by simp)⟩
set_option maxRecDepth 100000 in
set_option maxHeartbeats 4000000 in
theorem entry_few (w : World) (R : Nat) (k : Int) (L : List Int) (hL : L.length < 2) (h : RdB w R (k :: L)) : Calls Tryd.prog 54 #[.pointer (some ⟨R, 0, none⟩)] w (ESaid w R (k :: L)) := by
  have HE : Hid (∀ e w', Pan e → Gr w w' (some R) (some R) → ESaid w R (k :: L) e w') := by
    intro e w' h1 h2
    refine ⟨h2, ?_⟩
    have : re (k :: L) = none := by
      match L, hL with
      | [], _ => rfl
      | [m], _ => rfl
    rw [this]
    exact h1
  have hk : 0 ≤ k ∧ k ≤ 255 := by obtain ⟨a, n, c, _, _, _, hb, _⟩ := h; have := hb 0 (by simp); simpa using this
  have hR := h.lt
  have K : Hid (∀ w', Below w.heap.size w w' → Calls Tryd.prog 52 #[.pointer (some ⟨R, 0, none⟩), .int .u64 1] w' (Took w' R 1 (k :: L))) := fun w' hb => take_ok w' R 1 (k :: L) (h.keep hb) (by simp)
  obtain ⟨k0, k1⟩ := hk
  clear h
  generalize ESaid w R (k :: L) = T at *
  go_enter Tryd.func54, Tryd.ntmps54
  go_wp2_with fail
  refine (K.out _ ((Below.refl _ _).alloc (Nat.le_refl _) _)).mono ?_
  rintro e w1 ⟨a, c, rfl, hh, hr, hg, hc⟩
  obtain ⟨b, off, rfl, c0⟩ := holds1 hh
  have X1 : w1.heap[w.heap.size]? = some (.cells (ec ⟨#[]⟩ 0 0 ⟨#[]⟩) 64) := (hg.block _ (by simp) (fun e => by have := Option.some.inj e; omega)).trans (heap_alloc_new w _)
  have G1 : Hid (Gr w w1 (some R) (some R)) := (Gr.alloc w _ _).trans hg
  have HX1 : Hid (w1.heap[w.heap.size]? = some (.cells (ec ⟨#[]⟩ 0 0 ⟨#[]⟩) 64)) := X1
  obtain ⟨⟨x0, x1, x2, x3⟩, f0, f1, f2, f3⟩ := xc_all X1
  have R1 : Hid (RdB w1 R ((k :: L).drop 1)) := hr
  clear hh hr hg K X1
  have K2 : Hid (∀ w', Below w1.heap.size w1 w' → Calls Tryd.prog 52 #[.pointer (some ⟨R, 0, none⟩), .int .u64 2] w' fun e w2 => Pan e ∧ w2 = w') := fun w' hb => take_end w' R 2 _ (R1.out.keep hb) (by simp; omega) (by decide)
  go_wp2_with fail
  refine (K2.out _ ((Below.refl _ _).alloc (Nat.le_refl _) _)).mono ?_
  rintro e w2 ⟨⟨q, rfl⟩, hw⟩
  obtain rfl := hw.symm
  clear hw K2
  go_wp2_with fail
  exact ⟨rfl, HE.out _ _ ⟨_, rfl⟩ (G1.out.trans (Gr.alloc _ _ _))⟩
set_option maxRecDepth 100000 in
set_option maxHeartbeats 8000000 in
theorem entry_full (w : World) (R : Nat) (k m1 m2 : Int) (L : List Int) (h : RdB w R (k :: m1 :: m2 :: L)) : Calls Tryd.prog 54 #[.pointer (some ⟨R, 0, none⟩)] w (ESaid w R (k :: m1 :: m2 :: L)) := by
  have hall : (0 ≤ k ∧ k ≤ 255) ∧ (0 ≤ m1 ∧ m1 ≤ 255) ∧ (0 ≤ m2 ∧ m2 ≤ 255) := by
    obtain ⟨a, n, c, _, _, _, hb, _⟩ := h
    have h0 := hb 0 (by simp)
    have h1 := hb 1 (by simp)
    have h2 := hb 2 (by simp)
    simp at h0 h1 h2
    exact ⟨h0, h1, h2⟩
  have HE : Hid (∀ e w', Pan e → Gr w w' (some R) (some R) → rt L = none → ESaid w R (k :: m1 :: m2 :: L) e w') := by
    intro e w' h1 h2 h3
    refine ⟨h2, ?_⟩
    have : re (k :: m1 :: m2 :: L) = none := by simp only [re, h3]
    rw [this]
    exact h1
  have HE2 : Hid (∀ e w' p s, Pan e → Gr w w' (some R) (some R) → rt L = some (p, s) → k = 1 → rt s = none → ESaid w R (k :: m1 :: m2 :: L) e w') := by
    intro e w' p s h1 h2 h3 h4 h5
    refine ⟨h2, ?_⟩
    have : re (k :: m1 :: m2 :: L) = none := by simp only [re, h3]; rw [if_pos h4, h5]
    rw [this]
    exact h1
  have HE3 : Hid (∀ e w' p s b r, Gr w w' (some R) (some R) → rt L = some (p, s) → k = 1 → rt s = some (b, r) → e = .returned (ag (p, k, 256 * m1 + m2, b)) → RdB w' R r → ESaid w R (k :: m1 :: m2 :: L) e w') := by
    intro e w' p s b r h2 h3 h4 h5 h6 h7
    refine ⟨h2, ?_⟩
    have : re (k :: m1 :: m2 :: L) = some ((p, k, 256 * m1 + m2, b), r) := by simp only [re, h3]; rw [if_pos h4, h5]
    rw [this]
    exact ⟨h6, h7⟩
  have HE4 : Hid (∀ e w' p s, Gr w w' (some R) (some R) → rt L = some (p, s) → ¬ k = 1 → e = .returned (ag (p, k, 256 * m1 + m2, [])) → RdB w' R s → ESaid w R (k :: m1 :: m2 :: L) e w') := by
    intro e w' p s h2 h3 h4 h6 h7
    refine ⟨h2, ?_⟩
    have : re (k :: m1 :: m2 :: L) = some ((p, k, 256 * m1 + m2, []), s) := by simp only [re, h3]; rw [if_neg h4]
    rw [this]
    exact ⟨h6, h7⟩
  have hR := h.lt
  have K : Hid (∀ w', Below w.heap.size w w' → Calls Tryd.prog 52 #[.pointer (some ⟨R, 0, none⟩), .int .u64 1] w' (Took w' R 1 (k :: m1 :: m2 :: L))) := fun w' hb => take_ok w' R 1 _ (h.keep hb) (by simp)
  obtain ⟨⟨k0, k1⟩, ⟨a0, a1⟩, ⟨b0, b1⟩⟩ := hall
  clear h
  generalize ESaid w R (k :: m1 :: m2 :: L) = T at *
  go_enter Tryd.func54, Tryd.ntmps54
  go_wp2_with fail
  refine (K.out _ ((Below.refl _ _).alloc (Nat.le_refl _) _)).mono ?_
  rintro e w1 ⟨a, c, rfl, hh, hr, hg, hc⟩
  obtain ⟨b, off, rfl, c0⟩ := holds1 hh
  have G1 : Hid (Gr w w1 (some R) (some R)) := (Gr.alloc w _ _).trans hg
  have HX1 : Hid (w1.heap[w.heap.size]? = some (.cells (ec ⟨#[]⟩ 0 0 ⟨#[]⟩) 64)) := (hg.block _ (by simp) (fun e => by have := Option.some.inj e; omega)).trans (heap_alloc_new w _)
  have R1 : Hid (RdB w1 R (m1 :: m2 :: L)) := hr
  have hs1 : w.heap.size < w1.heap.size := (Array.getElem?_eq_some_iff.1 HX1.out).1
  have K2 : Hid (∀ w', Below w1.heap.size w1 w' → Calls Tryd.prog 52 #[.pointer (some ⟨R, 0, none⟩), .int .u64 2] w' (Took w' R 2 (m1 :: m2 :: L))) := fun w' hb => take_ok w' R 2 _ (R1.out.keep hb) (by simp)
  clear hh hr hg K
  go_wp2_with fail
  refine (K2.out _ ((Below.refl _ _).alloc (Nat.le_refl _) _)).mono ?_
  rintro e w2 ⟨a, c2, rfl, hh, hr, hg, hc2⟩
  have KF : Hid (Calls Tryd.prog 62 #[.slice a 2 c2, .int .i64 2] w2 fun e w' => e = .returned (.tuple #[.int .u64 (256 * m1 + m2), .int .i64 0]) ∧ w' = w2) := by
    have := readFixed_ok [m1, m2] 2 2 a c2 rfl (by decide) (bytes_of_mem (by simp; omega)) w2 hh (by decide) (by decide) (by decide)
    have e : val ([m1, m2].take 2) = 256 * m1 + m2 := by simp [val]; omega
    rw [e] at this
    exact this
  have G2 : Hid (Gr w w2 (some R) (some R)) := G1.out.trans ((Gr.alloc w1 _ _).trans hg)
  have X2 : w2.heap[w1.heap.size]? = some (.cells (ec ⟨#[]⟩ k 0 ⟨#[]⟩) 64) := (hg.block _ (by simp) (fun e => by have := Option.some.inj e; omega)).trans (heap_alloc_new w1 _)
  have HX2 : Hid (w2.heap[w1.heap.size]? = some (.cells (ec ⟨#[]⟩ k 0 ⟨#[]⟩) 64)) := X2
  have Y2 : Hid (w2.heap[w.heap.size]? = some (.cells (ec ⟨#[]⟩ 0 0 ⟨#[]⟩) 64)) := (hg.block _ (by simp; omega) (fun e => by have := Option.some.inj e; omega)).trans ((Below.heap_alloc _ _ _ hs1).trans HX1.out)
  have R2 : Hid (RdB w2 R L) := hr
  obtain ⟨⟨x0, x1, x2, x3⟩, f0, f1, f2, f3⟩ := xc_all X2
  have hs2 : w1.heap.size < w2.heap.size := (Array.getElem?_eq_some_iff.1 X2).1
  clear hh hr hg K2 X2 c0
  go_wp2_with fail
  refine KF.out.mono ?_
  rintro e w' ⟨rfl, hw⟩
  obtain rfl := hw.symm
  clear hw KF
  have X3 : Hid ((w2.setCell ⟨w1.heap.size, 2, none⟩ (.int .i64 (256 * m1 + m2))).heap[w1.heap.size]? = some (.cells (ec ⟨#[]⟩ k (256 * m1 + m2) ⟨#[]⟩) 64)) := heap_setCell_own _ _ _ _ _ _ HX2.out _
  have Y3 : Hid ((w2.setCell ⟨w1.heap.size, 2, none⟩ (.int .i64 (256 * m1 + m2))).heap[w.heap.size]? = some (.cells (ec ⟨#[]⟩ 0 0 ⟨#[]⟩) 64)) := (Below.heap_setCell _ ⟨w1.heap.size, 2, none⟩ _ _ (show w.heap.size ≠ w1.heap.size by omega)).trans Y2.out
  have R3 : Hid (RdB (w2.setCell ⟨w1.heap.size, 2, none⟩ (.int .i64 (256 * m1 + m2))) R L) := R2.out.block (fun g hg => Below.heap_setCell _ ⟨w1.heap.size, 2, none⟩ _ _ (show g ≠ w1.heap.size by omega))
  have G3 : Hid (Gr w (w2.setCell ⟨w1.heap.size, 2, none⟩ (.int .i64 (256 * m1 + m2))) (some R) (some R)) := G2.out.setNew (by omega) _ _
  have hs3 : w2.heap.size = (w2.setCell ⟨w1.heap.size, 2, none⟩ (.int .i64 (256 * m1 + m2))).heap.size := by simp [World.setCell]
  have M0 : 0 ≤ 256 * m1 + m2 := by omega
  have M1 : 256 * m1 + m2 ≤ 65535 := by omega
  clear HX2 Y2 R2 G2
  generalize 256 * m1 + m2 = M at *
  cases ht : rt L with
  | none =>
    have KT : Hid (Calls Tryd.prog 76 #[.pointer (some ⟨R, 0, none⟩)] (w2.setCell ⟨w1.heap.size, 2, none⟩ (.int .i64 M)) fun e w' => Pan e ∧ Gr (w2.setCell ⟨w1.heap.size, 2, none⟩ (.int .i64 M)) w' (some R) (some R)) := text_bad _ R L R3.out ht
    go_wp2_with fail
    refine KT.out.mono ?_
    rintro e w4 ⟨⟨q, rfl⟩, hg⟩
    have G4 : Hid (Gr w w4 (some R) (some R)) := G3.out.trans hg
    clear hg KT
    go_wp2_with fail
    exact ⟨rfl, HE.out _ _ ⟨_, rfl⟩ G4.out ht⟩
  | some ps =>
    obtain ⟨p, s⟩ := ps
    have HT : Hid (rt L = some (p, s)) := ht
    clear ht HE
    have KT : Hid (Calls Tryd.prog 76 #[.pointer (some ⟨R, 0, none⟩)] (w2.setCell ⟨w1.heap.size, 2, none⟩ (.int .i64 M)) fun e w' => e = .returned (.string (tx p)) ∧ RdB w' R s ∧ Gr (w2.setCell ⟨w1.heap.size, 2, none⟩ (.int .i64 M)) w' (some R) (some R)) := text_ok _ R L R3.out p s HT.out
    go_wp2_with fail
    refine KT.out.mono ?_
    rintro e w4 ⟨rfl, hr4, hg⟩
    clear x0 x1 x2 x3 f0 f1 f2 f3
    have G4 : Hid (Gr w w4 (some R) (some R)) := G3.out.trans hg
    have X4 : w4.heap[w1.heap.size]? = some (.cells (ec ⟨#[]⟩ k M ⟨#[]⟩) 64) := (hg.block _ (by omega) (fun e => by have := Option.some.inj e; omega)).trans X3.out
    have Y4 : w4.heap[w.heap.size]? = some (.cells (ec ⟨#[]⟩ 0 0 ⟨#[]⟩) 64) := (hg.block _ (by omega) (fun e => by have := Option.some.inj e; omega)).trans Y3.out
    have X5 : Hid ((w4.setCell ⟨w1.heap.size, 0, none⟩ (.string (tx p))).heap[w1.heap.size]? = some (.cells (ec (tx p) k M ⟨#[]⟩) 64)) := heap_setCell_own _ _ _ _ _ _ X4 _
    have Y5 : Hid ((w4.setCell ⟨w1.heap.size, 0, none⟩ (.string (tx p))).heap[w.heap.size]? = some (.cells (ec ⟨#[]⟩ 0 0 ⟨#[]⟩) 64)) := (Below.heap_setCell _ ⟨w1.heap.size, 0, none⟩ _ _ (show w.heap.size ≠ w1.heap.size by omega)).trans Y4
    have R5 : Hid (RdB (w4.setCell ⟨w1.heap.size, 0, none⟩ (.string (tx p))) R s) := hr4.block (fun g hg => Below.heap_setCell _ ⟨w1.heap.size, 0, none⟩ _ _ (show g ≠ w1.heap.size by omega))
    have G5 : Hid (Gr w (w4.setCell ⟨w1.heap.size, 0, none⟩ (.string (tx p))) (some R) (some R)) := G4.out.setNew (by omega) _ _
    have hs4 : w1.heap.size < w4.heap.size := (Array.getElem?_eq_some_iff.1 X4).1
    have hs5 : w4.heap.size = (w4.setCell ⟨w1.heap.size, 0, none⟩ (.string (tx p))).heap.size := by simp [World.setCell]
    obtain ⟨⟨x0, x1, x2, x3⟩, f0, f1, f2, f3⟩ := xc_all X4
    obtain ⟨⟨y0, y1, y2, y3⟩, e0, e1, e2, e3⟩ := xc_all Y4
    clear hg KT X3 Y3 R3 G3 hr4 X4 Y4
    by_cases hk : k = 1
    · cases ht : rt s with
      | none =>
        have KT : Hid (Calls Tryd.prog 76 #[.pointer (some ⟨R, 0, none⟩)] (w4.setCell ⟨w1.heap.size, 0, none⟩ (.string (tx p))) fun e w' => Pan e ∧ Gr (w4.setCell ⟨w1.heap.size, 0, none⟩ (.string (tx p))) w' (some R) (some R)) := text_bad _ R s R5.out ht
        subst hk
        go_wp2_with fail
        refine KT.out.mono ?_
        rintro e w6 ⟨⟨q, rfl⟩, hg⟩
        have G6 : Hid (Gr w w6 (some R) (some R)) := G5.out.trans hg
        clear hg KT
        go_wp2_with fail
        exact ⟨rfl, HE2.out _ _ p s ⟨_, rfl⟩ G6.out HT.out trivial ht⟩
      | some bs =>
        obtain ⟨b, r⟩ := bs
        have HT2 : Hid (rt s = some (b, r)) := ht
        have KT : Hid (Calls Tryd.prog 76 #[.pointer (some ⟨R, 0, none⟩)] (w4.setCell ⟨w1.heap.size, 0, none⟩ (.string (tx p))) fun e w' => e = .returned (.string (tx b)) ∧ RdB w' R r ∧ Gr (w4.setCell ⟨w1.heap.size, 0, none⟩ (.string (tx p))) w' (some R) (some R)) := text_ok _ R s R5.out b r ht
        subst hk
        clear ht
        go_wp2_with fail
        refine KT.out.mono ?_
        rintro e w6 ⟨rfl, hr6, hg⟩
        clear x0 x1 x2 x3 f0 f1 f2 f3 y0 y1 y2 y3 e0 e1 e2 e3
        have G6 : Hid (Gr w w6 (some R) (some R)) := G5.out.trans hg
        have X6 : w6.heap[w1.heap.size]? = some (.cells (ec (tx p) 1 M ⟨#[]⟩) 64) := (hg.block _ (by omega) (fun e => by have := Option.some.inj e; omega)).trans X5.out
        have Y6 : w6.heap[w.heap.size]? = some (.cells (ec ⟨#[]⟩ 0 0 ⟨#[]⟩) 64) := (hg.block _ (by omega) (fun e => by have := Option.some.inj e; omega)).trans Y5.out
        have R6 : Hid (RdB w6 R r) := hr6
        obtain ⟨⟨x0, x1, x2, x3⟩, f0, f1, f2, f3⟩ := xc_all X6
        obtain ⟨⟨y0, y1, y2, y3⟩, e0, e1, e2, e3⟩ := xc_all Y6
        clear hg KT X5 Y5 R5 G5 hr6 X6
        have ROW : Hid ((((((w6.setCell ⟨w1.heap.size, 3, none⟩ (.string (tx b))).setCell ⟨w.heap.size, 0, none⟩ (.string (tx p))).setCell ⟨w.heap.size, 1, none⟩ (.int .i64 1)).setCell ⟨w.heap.size, 2, none⟩ (.int .i64 M)).setCell ⟨w.heap.size, 3, none⟩ (.string (tx b))).heap[w.heap.size]? = some (.cells (ec (tx p) 1 M (tx b)) 64)) := ec_set ((Below.heap_setCell _ ⟨w1.heap.size, 3, none⟩ _ _ (show w.heap.size ≠ w1.heap.size by omega)).trans Y6)
        have RR : Hid (RdB (((((w6.setCell ⟨w1.heap.size, 3, none⟩ (.string (tx b))).setCell ⟨w.heap.size, 0, none⟩ (.string (tx p))).setCell ⟨w.heap.size, 1, none⟩ (.int .i64 1)).setCell ⟨w.heap.size, 2, none⟩ (.int .i64 M)).setCell ⟨w.heap.size, 3, none⟩ (.string (tx b))) R r) := ((((R6.out.setAt (by omega) _ _).setAt hR _ _).setAt hR _ _).setAt hR _ _).setAt hR _ _
        have GG : Hid (Gr w (((((w6.setCell ⟨w1.heap.size, 3, none⟩ (.string (tx b))).setCell ⟨w.heap.size, 0, none⟩ (.string (tx p))).setCell ⟨w.heap.size, 1, none⟩ (.int .i64 1)).setCell ⟨w.heap.size, 2, none⟩ (.int .i64 M)).setCell ⟨w.heap.size, 3, none⟩ (.string (tx b))) (some R) (some R)) := ((((G6.out.setNew (by omega) _ _).setNew (Nat.le_refl _) _ _).setNew (Nat.le_refl _) _ _).setNew (Nat.le_refl _) _ _).setNew (Nat.le_refl _) _ _
        clear Y6
        go_wp2_with fail
        refine bodyPost_ret (results_cell_row Tryd.results54 _ _ w.heap.size _ _ _ _ rfl ROW.out Tryd.underlying64 rfl sizeE) rfl ?_
        exact HE3.out _ _ p s b r GG.out HT.out trivial HT2.out rfl RR.out
    · have HK : Hid (¬ k = 1) := hk
      have Y4 : (w4.setCell ⟨w1.heap.size, 0, none⟩ (.string (tx p))).heap[w.heap.size]? = some (.cells (ec ⟨#[]⟩ 0 0 ⟨#[]⟩) 64) := Y5.out
      have ROW : Hid ((((((w4.setCell ⟨w1.heap.size, 0, none⟩ (.string (tx p))).setCell ⟨w.heap.size, 0, none⟩ (.string (tx p))).setCell ⟨w.heap.size, 1, none⟩ (.int .i64 k)).setCell ⟨w.heap.size, 2, none⟩ (.int .i64 M)).setCell ⟨w.heap.size, 3, none⟩ (.string ⟨#[]⟩)).heap[w.heap.size]? = some (.cells (ec (tx p) k M ⟨#[]⟩) 64)) := ec_set Y4
      have RR : Hid (RdB (((((w4.setCell ⟨w1.heap.size, 0, none⟩ (.string (tx p))).setCell ⟨w.heap.size, 0, none⟩ (.string (tx p))).setCell ⟨w.heap.size, 1, none⟩ (.int .i64 k)).setCell ⟨w.heap.size, 2, none⟩ (.int .i64 M)).setCell ⟨w.heap.size, 3, none⟩ (.string ⟨#[]⟩)) R s) := (((R5.out.setAt hR _ _).setAt hR _ _).setAt hR _ _).setAt hR _ _
      have GG : Hid (Gr w (((((w4.setCell ⟨w1.heap.size, 0, none⟩ (.string (tx p))).setCell ⟨w.heap.size, 0, none⟩ (.string (tx p))).setCell ⟨w.heap.size, 1, none⟩ (.int .i64 k)).setCell ⟨w.heap.size, 2, none⟩ (.int .i64 M)).setCell ⟨w.heap.size, 3, none⟩ (.string ⟨#[]⟩)) (some R) (some R)) := (((G5.out.setNew (Nat.le_refl _) _ _).setNew (Nat.le_refl _) _ _).setNew (Nat.le_refl _) _ _).setNew (Nat.le_refl _) _ _
      clear Y4
      go_wp2_with fail
      refine bodyPost_ret (results_cell_row Tryd.results54 _ _ w.heap.size _ _ _ _ rfl ROW.out Tryd.underlying64 rfl sizeE) rfl ?_
      exact HE4.out _ _ p s GG.out HT.out HK.out rfl RR.out
theorem entry_is (w : World) (R : Nat) (L : List Int) (h : RdB w R L) : Calls Tryd.prog 54 #[.pointer (some ⟨R, 0, none⟩)] w (ESaid w R L) := by
  match L, h with
  | [], h => exact entry_none w R h
  | [k], h => exact entry_few w R k [] (by simp) h
  | [k, m], h => exact entry_few w R k [m] (by simp) h
  | k :: m1 :: m2 :: L, h => exact entry_full w R k m1 m2 L h
end Go.Proofs.YtlddoobomjcldaaDoor
namespace Go.Proofs.YtlddoobomjcldaaDoor
open Go.ChangeShapes Go.WideShapes Go.ChangeAt Go.RowKit Go.Deep
set_option linter.unusedVariables false
def ecl (x : En) : List Value := [.string (tx x.p), .int .i64 x.k, .int .i64 x.m, .string (tx x.b)]
def ecs (l : List En) : List Value := l.flatMap ecl
theorem ecs_len (l : List En) : (ecs l).length = l.length * 4 := by
  induction l with
  | nil => rfl
  | cons x l ih => simp only [ecs, List.flatMap_cons, List.length_append, List.length_cons] at ih ⊢; rw [ih]; simp [ecl]; omega
theorem ecs_at (l : List En) (i : Nat) (x : En) (h : l[i]? = some x) (k : Nat) (hk : k < 4) : (ecs l)[i * 4 + k]? = (ecl x)[k]? := by
  induction l generalizing i with
  | nil => simp at h
  | cons y l ih =>
    cases i with
    | zero =>
      simp at h
      subst h
      simp only [ecs, List.flatMap_cons, Nat.zero_mul, Nat.zero_add]
      rw [List.getElem?_append_left (by simp [ecl]; omega)]
    | succ i =>
      simp only [List.getElem?_cons_succ] at h
      have := ih i h
      simp only [ecs, List.flatMap_cons] at this ⊢
      rw [List.getElem?_append_right (by simp [ecl]; omega), ← this]
      congr 1
      simp [ecl]
      omega
/-- a slice of entries of one's own, from block 'base' on -/
def OwnE (w : World) (base : Nat) (v : Value) (l : List En) : Prop := w.ownsRow base 64 4 v l.length (ecs l)
theorem OwnE.nil (w : World) (base : Nat) : OwnE w base (.slice none 0 0) [] := World.ownsRow_nil _ _ _ _
theorem OwnE.own {w : World} {base : Nat} {v : Value} {l : List En} (h : OwnE w base v l) : ∀ k, v.ownBlock = some k → base ≤ k ∧ k < w.heap.size := fun k hk => World.ownsRow.lt h k hk
theorem OwnE.block {w w' : World} {base : Nat} {v : Value} {l : List En} (h : OwnE w base v l) (hb : ∀ k, v.ownBlock = some k → w'.heap[k]? = w.heap[k]?) : OwnE w' base v l := by
  refine ⟨h.1, ?_⟩
  rcases h.2 with h1 | ⟨g, cap, cur, rfl, hbg, hg, rest⟩
  · exact .inl h1
  · exact .inr ⟨g, cap, cur, rfl, hbg, (hb g rfl).trans hg, rest⟩
theorem OwnE.keep {w w' : World} {base : Nat} {v : Value} {l : List En} (h : OwnE w base v l) (hb : Below w.heap.size w w') : OwnE w' base v l := h.block fun k hk => hb.block k (h.own k hk).2
theorem OwnE.base {w : World} {a b : Nat} {v : Value} {l : List En} (h : OwnE w b v l) (hab : a ≤ b) : OwnE w a v l := by
  refine ⟨h.1, ?_⟩
  rcases h.2 with h1 | ⟨g, cap, cur, rfl, hbg, rest⟩
  · exact .inl h1
  · exact .inr ⟨g, cap, cur, rfl, Nat.le_trans hab hbg, rest⟩
theorem OwnE.slice {w : World} {base : Nat} {v : Value} {l : List En} (h : OwnE w base v l) : ∃ a c, v = .slice a l.length c ∧ InE w a l ∧ l.length ≤ c ∧ c ≤ 9223372036854775807 ∧ (a = none → c = 0) := by
  rcases h.2 with ⟨rfl, hn⟩ | ⟨g, cap, cur, rfl, hb, hg, hl, hm, hs, ht⟩
  · have : l = [] := List.length_eq_zero_iff.1 hn
    subst this
    exact ⟨none, 0, rfl, .inl rfl, by simp, by omega, fun _ => rfl⟩
  · simp only [maxLen] at hm
    refine ⟨_, _, rfl, .inr ⟨g, 0, rfl, (h.own g rfl).2, fun i x hx => ?_⟩, hl, by omega, fun h => by simp at h⟩
    have hc : ∀ k v, k < 4 → (ecl x)[k]? = some v → w.cell? ⟨g, 0 + i * 4 + k, none⟩ = some v := by
      intro k v hk hv
      have := World.ownsRow.cells h (g := g) rfl (i * 4 + k) v (by rw [ecs_at l i x hx k hk]; exact hv)
      rw [add_plain, Nat.zero_add] at this
      rw [Nat.zero_add]
      exact this
    exact ⟨hc 0 _ (by omega) rfl, hc 1 _ (by omega) rfl, hc 2 _ (by omega) rfl, hc 3 _ (by omega) rfl⟩
theorem infoE : ∃ i, Tryd.prog.info? 64 = some i ∧ i.zero = some (.agg #[.string ⟨#[]⟩, .int .i64 0, .int .i64 0, .string ⟨#[]⟩]) ∧ i.size = 4 ∧ i.bytes = 48 := info_parts (show (Tryd.prog.info? 64).map (fun i => (i.zero, i.size, i.bytes)) = some (some (.agg #[.string ⟨#[]⟩, .int .i64 0, .int .i64 0, .string ⟨#[]⟩]), 4, 48) by kernel_rfl)
theorem append_entry {w : World} {ops : Array Oper} {rest : List Oper} {o : Oper} {act : Act} {Q : Exit → Act → World → Prop} (hgd : o.guard = none) (s x : Operand)
    (ho : o.op = .call { callee := .builtin .append, args := #[s, x], argTypes := #[22, 22] })
    (base : Nat) (v : Value) (l : List En) (hs : act.eval s = v) (hown : OwnE w base v l)
    (g c : Nat) (y : En) (hx : act.eval x = .slice (some ⟨g, 0, none⟩) 1 c) (hc : w.heap[g]? = some (.cells (ec (tx y.p) y.k y.m (tx y.b)) 64))
    (hN : l.length ≤ 1000000000) (hbase : base ≤ w.heap.size)
    (h : ∀ v' w', OwnE w' base v' (l ++ [y]) → w.grownBy w' v.ownBlock → wpList Tryd.prog ops Q rest (act.put o.dst v') w') :
    wpList Tryd.prog ops Q (o :: rest) act w := by
  obtain ⟨i, hi, hz, h1, h2⟩ := infoE
  refine wpList_append_own w hgd s x 22 ho base 64 i _ 4 48 Tryd.underlying22 hi hz h1 h2 rfl (by decide) v l.length _ hs hown ⟨g, 0, none⟩ 1 c (ecl y) hx rfl ?_ (by simp [ecl, Value.oneCell']) (by simp only [maxLen]; omega) (by omega) hbase ?_
  · intro j u hu
    obtain ⟨h0, h1, h2, h3⟩ := ec_cells hc
    rw [add_plain, Nat.zero_add]
    have hj : j < 4 := by
      have := (List.getElem?_eq_some_iff.1 hu).1
      simpa [ecl] using this
    rcases (by omega : j = 0 ∨ j = 1 ∨ j = 2 ∨ j = 3) with rfl | rfl | rfl | rfl <;> (simp [ecl] at hu; subst hu; assumption)
  · intro v' w' hown' hg _
    refine h v' w' ?_ hg
    unfold OwnE
    rw [List.length_append]
    have : ecs (l ++ [y]) = ecs l ++ ecl y := by simp [ecs]
    rw [this]
    exact hown'
end Go.Proofs.YtlddoobomjcldaaDoor
namespace Go.Proofs.YtlddoobomjcldaaDoor
open Go.ChangeShapes Go.WideShapes Go.ChangeAt Go.RowKit Go.Deep
set_option linter.unusedVariables false
theorem infoT : (Tryd.prog.info? 9).map (fun i => (i.zero, i.size, i.bytes)) = some (some (.string ⟨#[]⟩), 1, 16) := by kernel_rfl
/-- a slice of texts, of one's own, from block 'base' on -/
def RowsS (w : World) (base : Nat) (v : Value) (l : List Tx) : Prop := w.ownsRow base 9 1 v l.length (l.map fun x => .string (tx x))
theorem RowsS.below {w w' : World} {base B : Nat} {v : Value} {l : List Tx} (h : RowsS w base v l) (hb : Below B w w') (hB : ∀ k, v.ownBlock = some k → k < B) : RowsS w' base v l := by
  refine ⟨h.1, ?_⟩
  rcases h.2 with h1 | ⟨g, cap, cur, rfl, hbg, hg, rest⟩
  · exact .inl h1
  · exact .inr ⟨g, cap, cur, rfl, hbg, (hb.block g (hB g rfl)).trans hg, rest⟩
theorem RowsS.lt {w : World} {base : Nat} {v : Value} {l : List Tx} (h : RowsS w base v l) : ∀ k, v.ownBlock = some k → k < w.heap.size := fun k hk => (World.ownsRow.lt h k hk).2
theorem RowsS.keep {w w' : World} {base : Nat} {v : Value} {l : List Tx} (h : RowsS w base v l) (hb : Below w.heap.size w w') : RowsS w' base v l := h.below hb h.lt
/-- what may be read of a slice of texts -/
def Rd (w : World) (v : Value) (l : List Tx) : Prop := ∃ o c, v = .slice o l.length c ∧ l.length ≤ c ∧ c ≤ 9223372036854775807 ∧ ∀ j x, l[j]? = some x → ∃ g, o = some ⟨g, 0, none⟩ ∧ w.cell? ⟨g, j, none⟩ = some (.string (tx x))
theorem add0 (g i : Nat) : (⟨g, 0, none⟩ : Addr).add i = ⟨g, i, none⟩ := by unfold Addr.add; split <;> simp_all
theorem RowsS.rd {w : World} {base : Nat} {v : Value} {l : List Tx} (h : RowsS w base v l) : Rd w v l := by
  rcases h.2 with ⟨rfl, hn⟩ | ⟨g, cap, cur, rfl, hb, hg, hl, hm, hs, ht⟩
  · have : l = [] := List.length_eq_zero_iff.1 hn
    subst this
    exact ⟨none, 0, rfl, by simp, by simp, fun j x hx => by simp at hx⟩
  · refine ⟨_, _, rfl, hl, by simpa [maxLen] using hm, fun j x hx => ⟨g, rfl, ?_⟩⟩
    have hc := World.ownsRow.cells h (g := g) rfl j (.string (tx x)) (by simp [hx])
    rwa [add0] at hc
theorem Rd.keep {w w' : World} {v : Value} {l : List Tx} (h : Rd w v l) (hb : Below w.heap.size w w') : Rd w' v l := by
  obtain ⟨o, c, h1, h2, h3, h4⟩ := h
  refine ⟨o, c, h1, h2, h3, fun j x hx => ?_⟩
  obtain ⟨g, e, hc⟩ := h4 j x hx
  exact ⟨g, e, (hb.cell (p := ⟨g, j, none⟩) (World.block_lt_of_cell? _ _ hc)).trans hc⟩
theorem append_text {w : World} {ops : Array Oper} {rest : List Oper} {o : Oper} {act : Act} {Q : Exit → Act → World → Prop} (hgd : o.guard = none) (s x : Operand)
    (ho : o.op = .call { callee := .builtin .append, args := #[s, x], argTypes := #[113, 113] })
    (base : Nat) (v : Value) (l : List Tx) (hs : act.eval s = v) (hown : RowsS w base v l)
    (a : Addr) (B : Tx) (hx : act.eval x = .slice (some a) 1 1) (hc : w.cell? a = some (.string (tx B)))
    (hN : l.length ≤ 5000000000000) (hbase : base ≤ w.heap.size)
    (h : ∀ v' w', RowsS w' base v' (l ++ [B]) → Below base w w' → wpList Tryd.prog ops Q rest (act.put o.dst v') w') :
    wpList Tryd.prog ops Q (o :: rest) act w := by
  obtain ⟨i, hi, hz, h1, h2⟩ := info_parts infoT
  refine wpList_append_own w hgd s x 113 ho base 9 i (.string ⟨#[]⟩) 1 16 Tryd.underlying113 hi hz h1 h2 rfl (by decide) v l.length _ hs hown a 1 1 [.string (tx B)] hx rfl ?_ (by simp [Value.oneCell']) (by simp only [maxLen]; omega) (by omega) hbase ?_
  · intro j y hy
    have hj : j = 0 := by
      have := (List.getElem?_eq_some_iff.1 hy).1
      simpa using this
    subst hj
    simp at hy
    subst hy
    have : a.add 0 = a := by unfold Addr.add; split <;> simp_all
    rw [this]
    exact hc
  · intro v' w' hown' hg _
    exact h v' w' (by unfold RowsS; rw [List.length_append, List.map_append]; exact hown') ((Below.refl base w).grown hg hbase (fun k hk => (World.ownsRow.lt hown k hk).1))
theorem cell_one (w : World) (B : Tx) : (w.alloc (.cells #[.string (tx B)] 9)).cell? ⟨w.heap.size, 0, none⟩ = some (.string (tx B)) := by
  rw [cell_of_row _ w.heap.size 0 _ _ (0, 0) (heap_alloc_new w _)]
  rfl
theorem getD_at (S : Tx) (i : Nat) (h : i < S.length) : S.getD i 0 = S[i] := by simp [List.getD, h]
theorem drop_cut (S : Tx) (f i : Nat) (hfi : f ≤ i) (hi : i < S.length) (hs : S.getD i 0 = 47) (hno : ∀ j, f ≤ j → j < i → S.getD j 0 ≠ 47) : pcs (S.drop f) = (S.drop f).take (i - f) :: pcs (S.drop (i + 1)) := by
  have e : S.drop f = (S.drop f).take (i - f) ++ 47 :: S.drop (i + 1) := by
    conv => lhs; rw [← List.take_append_drop (i - f) (S.drop f)]
    congr 1
    rw [List.drop_drop, show f + (i - f) = i by omega, List.drop_eq_getElem_cons hi]
    congr 1
    rw [getD_at _ _ hi] at hs
    exact hs
  have hn : (47 : UInt8) ∉ (S.drop f).take (i - f) := by
    intro hm
    obtain ⟨j, hj, he⟩ := List.getElem_of_mem hm
    have hj2 : j < i - f ∧ f + j < S.length := by
      simp only [List.length_take, List.length_drop] at hj
      omega
    refine hno (f + j) (by omega) (by omega) ?_
    rw [List.getElem_take, List.getElem_drop] at he
    rw [getD_at _ _ hj2.2]
    exact he
  conv => lhs; rw [e]
  exact pcs_cut _ _ hn
theorem drop_last (S : Tx) (f : Nat) (hno : ∀ j, f ≤ j → j < S.length → S.getD j 0 ≠ 47) : pcs (S.drop f) = [S.drop f] := by
  refine pcs_no _ (fun hm => ?_)
  obtain ⟨j, hj, he⟩ := List.getElem_of_mem hm
  have hj2 : f + j < S.length := by
    simp only [List.length_drop] at hj
    omega
  refine hno (f + j) (by omega) hj2 ?_
  rw [List.getElem_drop] at he
  rw [getD_at _ _ hj2]
  exact he
set_option maxHeartbeats 2000000 in
theorem rpieces_is (S : Tx) (hl : S.length ≤ 1000000000) (w : World) :
    Calls Tryd.prog 92 #[.string (tx S)] w fun e w' => ∃ v, e = .returned v ∧ RowsS w' w.heap.size v (pcs S) ∧ Below w.heap.size w w' := by
  have hs := tx_size S
  go_enter Tryd.func92, Tryd.ntmps92
  go_wp2
  obtain ⟨h, hh⟩ : ∃ h, h = w.heap.size := ⟨_, rfl⟩
  have HH : Hid (h = w.heap.size) := hh
  clear hh
  go_loopg [3, 4, 5] S.length (fun g v fr ii wr => ∃ (done : List Tx) (f i : Nat), fr = .int .i64 f ∧ ii = .int .i64 i ∧ f ≤ i ∧ i ≤ S.length ∧ g = S.length - i ∧ done.length ≤ f ∧ Hid (done ++ pcs (S.drop f) = pcs S) ∧ Hid (∀ j, f ≤ j → j < i → S.getD j 0 ≠ 47) ∧ Hid (RowsS wr h v done) ∧ Hid (Below h w wr))
  case atStart => exact ⟨[], 0, 0, rfl, rfl, Nat.le_refl _, Nat.zero_le _, rfl, by simp, rfl, fun j h1 h2 => by omega, World.ownsRow_nil _ _ _ _, Below.refl _ _⟩
  case round =>
    obtain ⟨done, f, i, rfl, rfl, hfi, hi, rfl, hd, HP, HN, HR, HW⟩ := hrel
    have hsz := HW.out.size
    by_cases hlt : i < S.length
    · have j1 : (i : Int) < ((S.length : Nat) : Int) := by omega
      have ix := run_index_tx S i hlt
      by_cases h47 : S.getD i 0 = 47
      · have e47 : ((S.getD i 0).toNat : Int) = 47 := by rw [h47]; rfl
        rw [e47] at ix
        have x1 : (tx S).extract f i = tx ((S.drop f).take (i - f)) := tx_extract S f i
        have HP2 : Hid ((done ++ [(S.drop f).take (i - f)]) ++ pcs (S.drop (i + 1)) = pcs S) := by
          show _ = _
          rw [← HP.out, drop_cut S f i hfi hlt h47 HN.out]
          simp
        have j2 : (0 : Int) ≤ (f : Int) := by omega
        have j3 : (f : Int) ≤ (i : Int) := by omega
        have j4 : (i : Int) ≤ ((S.length : Nat) : Int) := by omega
        generalize (S.drop f).take (i - f) = B at *
        have R1 : Hid (RowsS (wr.alloc (.cells #[.string (tx B)] 9)) h u3 done) := HR.out.keep ((Below.refl wr.heap.size wr).alloc (Nat.le_refl _) _)
        have C1 : Hid ((wr.alloc (.cells #[.string (tx B)] 9)).cell? ⟨wr.heap.size, 0, none⟩ = some (.string (tx B))) := cell_one wr B
        have hhw : h ≤ wr.heap.size := by rw [HH.out]; exact hsz
        clear HP HN e47
        go_wp2_with (at_builtin; refine append_text rfl (.tmp 16) (.tmp 21) rfl h _ done rfl R1.out ⟨wr.heap.size, 0, none⟩ B rfl C1.out (by omega) (by simp; omega) ?_; intro v3 w3 hr3 hb3; have R3 : Hid (RowsS w3 h v3 (done ++ [B])) := hr3; have B3 : Hid (Below h (wr.alloc (.cells #[.string (tx B)] 9)) w3) := hb3; clear hr3 hb3)
        go_roundg (S.length - (i + 1))
        case measure => omega
        case rel =>
          have al1 : Below wr.heap.size wr (wr.alloc (.cells #[.string (tx B)] 9)) := (Below.refl _ _).alloc (Nat.le_refl _) _
          exact ⟨done ++ [B], i + 1, i + 1, by go_num, by go_num, Nat.le_refl _, by omega, rfl, by simp; omega, HP2, fun j h1 h2 => by omega, R3, HW.out.trans ((al1.mono hhw).trans B3.out)⟩
      · have e47 : ¬ ((S.getD i 0).toNat : Int) = 47 := by
          intro e
          exact h47 (UInt8.toNat_inj.1 (by show (S.getD i 0).toNat = 47; omega))
        have HN2 : Hid (∀ j, f ≤ j → j < i + 1 → S.getD j 0 ≠ 47) := fun j h1 h2 => by
          rcases (by omega : j < i ∨ j = i) with h3 | rfl
          · exact HN.out j h1 h3
          · exact h47
        generalize S.getD i 0 = y at *
        clear HN
        go_wp2_with fail
        go_roundg (S.length - (i + 1))
        case measure => omega
        case rel => exact ⟨done, f, i + 1, rfl, by go_num, by omega, by omega, rfl, hd, HP, HN2, HR, HW⟩
    · have e : i = S.length := by omega
      subst e
      have j1 : ¬ ((S.length : Nat) : Int) < ((S.length : Nat) : Int) := by omega
      have HP2 : Hid (pcs S = done ++ [S.drop f]) := by
        show _ = _
        rw [← HP.out, drop_last S f HN.out]
      have x1 : (tx S).extract f S.length = tx (S.drop f) := by rw [tx_extract, List.take_of_length_le (by simp)]
      have j2 : (0 : Int) ≤ (f : Int) := by omega
      have j3 : (f : Int) ≤ ((S.length : Nat) : Int) := by omega
      generalize S.drop f = B at *
      have R1 : Hid (RowsS (wr.alloc (.cells #[.string (tx B)] 9)) h u3 done) := HR.out.keep ((Below.refl wr.heap.size wr).alloc (Nat.le_refl _) _)
      have C1 : Hid ((wr.alloc (.cells #[.string (tx B)] 9)).cell? ⟨wr.heap.size, 0, none⟩ = some (.string (tx B))) := cell_one wr B
      have hhw : h ≤ wr.heap.size := by rw [HH.out]; exact hsz
      clear HP HN
      go_wp2_with (at_builtin; refine append_text rfl (.tmp 25) (.tmp 29) rfl h _ done rfl R1.out ⟨wr.heap.size, 0, none⟩ B rfl C1.out (by omega) (by simp; omega) ?_; intro v3 w3 hr3 hb3; have R3 : Hid (RowsS w3 h v3 (done ++ [B])) := hr3; have B3 : Hid (Below h (wr.alloc (.cells #[.string (tx B)] 9)) w3) := hb3; clear hr3 hb3)
      go_ret
      have al1 : Below wr.heap.size wr (wr.alloc (.cells #[.string (tx B)] 9)) := (Below.refl _ _).alloc (Nat.le_refl _) _
      refine ⟨_, rfl, ?_, ?_⟩
      · rw [HP2.out, ← HH.out]; exact R3.out
      · rw [← HH.out]; exact HW.out.trans ((al1.mono hhw).trans B3.out)
end Go.Proofs.YtlddoobomjcldaaDoor
namespace Go.Proofs.YtlddoobomjcldaaDoor
open Go.ChangeShapes Go.WideShapes Go.ChangeAt Go.RowKit Go.Deep
set_option linter.unusedVariables false
/-- the signs that a part may have -/
def sg : Tx := [97, 98, 99, 100, 101, 102, 103, 104, 105, 106, 107, 108, 109, 110, 111, 112, 113, 114, 115, 116, 117, 118, 119, 120, 121, 122, 48, 49, 50, 51, 52, 53, 54, 55, 56, 57, 95, 45, 46]
theorem sg_all : ∀ n : Fin 256, sg.contains (UInt8.ofNat n.val) = may (UInt8.ofNat n.val) := by decide +kernel
theorem sg_may (b : UInt8) : sg.contains b = may b := by
  have := sg_all ⟨b.toNat, b.toNat_lt⟩
  simpa using this
theorem sg_step (k : Nat) (b : UInt8) (h : k < 39) : (sg.take (k + 1)).contains b = ((sg.take k).contains b || decide (((sg.getD k 0).toNat : Int) = (b.toNat : Int))) := by
  have hk : k < sg.length := h
  rw [List.take_add_one, List.getElem?_eq_getElem hk]
  have e : sg.getD k 0 = sg[k] := getD_at sg k hk
  rw [e, Bool.eq_iff_iff]
  simp only [Option.toList_some, List.contains_eq_mem, List.mem_append, List.mem_singleton, decide_eq_true_eq, Bool.or_eq_true]
  constructor
  · rintro (h1 | h1)
    · exact .inl h1
    · exact .inr (by rw [h1])
  · rintro (h1 | h1)
    · exact .inl h1
    · exact .inr (UInt8.toNat_inj.1 (by omega))
set_option maxHeartbeats 4000000 in
theorem rpart_is (a : Tx) (hl : a.length ≤ 1000000000) (w : World) :
    Calls Tryd.prog 93 #[.string (tx a)] w fun e w' => e = .returned (.bool (isPart a)) ∧ Below w.heap.size w w' := by
  have hs := tx_size a
  have t1 := tx_toList a
  go_enter Tryd.func93, Tryd.ntmps93
  go_wp2
  go_loopg [3] a.length (fun g ii wr => ∃ i : Nat, ii = .int .i64 i ∧ i ≤ a.length ∧ g = a.length - i ∧ Hid (∀ j, j < i → may (a.getD j 0) = true) ∧ Hid (Below w.heap.size w wr))
  case atStart => exact ⟨0, rfl, Nat.zero_le _, rfl, fun j hj => by omega, Below.refl _ _⟩
  case round =>
    obtain ⟨i, rfl, hi, rfl, HY, HW⟩ := hrel
    by_cases hlt : i < a.length
    · have j1 : (i : Int) < ((a.length : Nat) : Int) := by omega
      have ix := run_index_tx a i hlt
      have HY2 : Hid (may (a.getD i 0) = true → ∀ j, j < i + 1 → may (a.getD j 0) = true) := fun hm j hj => by
        rcases (by omega : j < i ∨ j = i) with h | rfl
        · exact HY.out j h
        · exact hm
      have HF : Hid (may (a.getD i 0) = false → isPart a = false) := part_no2 i hlt
      have HG : Hid (sg.contains (a.getD i 0) = may (a.getD i 0)) := sg_may _
      generalize a.getD i 0 = y at *
      rename World => wo
      go_wp2_with fail
      go_loopg [4, 5] 39 (fun g ok kk wr => ∃ k : Nat, ok = .bool ((sg.take k).contains y) ∧ kk = .int .i64 k ∧ k ≤ 39 ∧ g = 39 - k ∧ Hid (Below w.heap.size w wr))
      case atStart => exact ⟨0, rfl, rfl, Nat.zero_le _, rfl, HW⟩
      case round =>
        obtain ⟨k, rfl, rfl, hk, rfl, HW2⟩ := hrel
        by_cases hk39 : k < 39
        · have j2 : (k : Int) < 39 := by omega
          have iy : ∀ w, (Instr.index 9 (.string ⟨#[97, 98, 99, 100, 101, 102, 103, 104, 105, 106, 107, 108, 109, 110, 111, 112, 113, 114, 115, 116, 117, 118, 119, 120, 121, 122, 48, 49, 50, 51, 52, 53, 54, 55, 56, 57, 95, 45, 46]⟩) (.int .i64 (k : Int))).run Tryd.prog w = .ok (.int .u8 ((sg.getD k 0).toNat : Int)) w := run_index_tx sg k hk39
          have HS : Hid ((sg.take (k + 1)).contains y = ((sg.take k).contains y || decide (((sg.getD k 0).toNat : Int) = (y.toNat : Int)))) := sg_step k y hk39
          generalize (sg.take k).contains y = ok at *
          generalize ((sg.getD k 0).toNat : Int) = z at *
          generalize hyy : (y.toNat : Int) = yy at *
          have HYY : Hid ((y.toNat : Int) = yy) := hyy
          clear hyy
          cases ok with
          | true =>
            have HS2 : Hid ((sg.take (k + 1)).contains y = true) := by show _ = _; rw [HS.out]; rfl
            clear HS
            go_wp2_with fail
            go_quiet (fail)
            go_wp2_with fail
            go_roundg (39 - (k + 1))
            case measure => omega
            case rel => exact ⟨k + 1, by rw [HS2.out], by go_num, by omega, rfl, below_drewN HW2.out _⟩
          | false =>
            have HS2 : Hid ((sg.take (k + 1)).contains y = decide (z = yy)) := by show _ = _; rw [HS.out]; rfl
            have ezy : (z == yy) = decide (z = yy) := by rw [Bool.eq_iff_iff, beq_iff_eq, decide_eq_true_iff]
            clear HS
            go_wp2_with fail
            go_quiet (fail)
            go_wp2_with fail
            go_roundg (39 - (k + 1))
            case measure => omega
            case rel => exact ⟨k + 1, by rw [HS2.out], by go_num, by omega, rfl, below_drewN HW2.out _⟩
        · have ek : k = 39 := by omega
          subst ek
          have j2 : ¬ ((39 : Nat) : Int) < 39 := by omega
          have e39 : (sg.take 39).contains y = may y := by rw [List.take_of_length_le (by decide)]; exact HG.out
          rw [e39]
          cases hm : may y with
          | true =>
            have HY3 : Hid (∀ j, j < i + 1 → may (a.getD j 0) = true) := HY2.out hm
            clear e39 HY2 HF
            go_wp2_with fail
            go_roundg (a.length - (i + 1))
            case measure => omega
            case rel => exact ⟨i + 1, by go_num, by omega, rfl, HY3, HW2⟩
          | false =>
            have HF2 : Hid (isPart a = false) := HF.out hm
            clear e39 HY2 HF
            go_wp2_with fail
            go_ret
            exact ⟨by rw [HF2.out]; rfl, HW2.out⟩
    · have e : i = a.length := by omega
      subst e
      have j1 : ¬ ((a.length : Nat) : Int) < ((a.length : Nat) : Int) := by omega
      have HA : Hid (isPart a = (decide (1 ≤ ((a.length : Nat) : Int)) && decide (((a.length : Nat) : Int) ≤ 24) && !(a == [46]) && !(a == [46, 46]))) := by
        show _ = _
        have : a.all may = true := List.all_eq_true.2 fun b hb => by
          obtain ⟨j, hj, rfl⟩ := List.getElem_of_mem hb
          have := HY.out j hj
          rwa [getD_at a j hj] at this
        rw [isPart, this, Bool.eq_iff_iff]
        simp
        omega
      have H46 : Hid (isPart [46] = false) := by show _ = _; decide
      clear HY
      go_wp2_with fail
      · go_ret
        refine ⟨?_, HW.out⟩
        rw [H46.out]
        rfl
      · have a1 : (1 : Int) ≤ ((a.length : Nat) : Int) := by assumption
        have a2 : ((a.length : Nat) : Int) ≤ 24 := by assumption
        go_ret
        refine ⟨?_, HW.out⟩
        rw [HA.out, decide_eq_true a1, decide_eq_true a2]
        rfl
      · have a2 : (24 : Int) < ((a.length : Nat) : Int) := by assumption
        go_ret
        refine ⟨?_, HW.out⟩
        rw [HA.out, decide_eq_false (show ¬ ((a.length : Nat) : Int) ≤ 24 by omega), Bool.and_false]
        rfl
      · have a2 : ((a.length : Nat) : Int) < 1 := by assumption
        go_ret
        refine ⟨?_, HW.out⟩
        rw [HA.out, decide_eq_false (show ¬ (1 : Int) ≤ ((a.length : Nat) : Int) by omega)]
        rfl
theorem jn_grow (l : List Tx) (i : Nat) : (jn (l.take i)).length ≤ (jn l).length := by
  induction l generalizing i with
  | nil => simp
  | cons x l ih =>
    cases i with
    | zero => simp [jn_nil]
    | succ i =>
      rw [List.take_succ_cons]
      cases l with
      | nil => simp
      | cons y l =>
        cases i with
        | zero => rw [List.take_zero, jn_one, jn_cons]; simp
        | succ i =>
          have := ih (i + 1)
          rw [List.take_succ_cons] at this ⊢
          rw [jn_cons, jn_cons]
          simp only [List.length_append, List.length_cons]
          omega
theorem jn_take' (l : List Tx) (i : Nat) (x : Tx) (h : l[i]? = some x) : jn (l.take (i + 1)) = if i = 0 then x else jn (l.take i) ++ 47 :: x := by
  induction l generalizing i with
  | nil => simp at h
  | cons y l ih =>
    cases i with
    | zero => simp at h; subst h; simp [jn_one]
    | succ i =>
      simp only [List.getElem?_cons_succ] at h
      have := ih i h
      rw [if_neg (by omega), List.take_succ_cons, List.take_succ_cons]
      cases i with
      | zero =>
        simp only [if_true] at this
        cases l with
        | nil => simp at h
        | cons z l =>
          simp at h
          subst h
          simp [jn_cons, jn_one]
      | succ i =>
        rw [if_neg (by omega)] at this
        cases l with
        | nil => simp at h
        | cons z l =>
          rw [List.take_succ_cons, jn_cons, List.take_succ_cons, jn_cons]
          rw [List.take_succ_cons, List.take_succ_cons] at this
          rw [this]
          simp
theorem part_le_jn (l : List Tx) (i : Nat) (x : Tx) (h : l[i]? = some x) : x.length ≤ (jn l).length := by
  have h1 := jn_take' l i x h
  have h2 := jn_grow l (i + 1)
  rw [h1] at h2
  split at h2
  · exact h2
  · simp at h2; omega
end Go.Proofs.YtlddoobomjcldaaDoor
