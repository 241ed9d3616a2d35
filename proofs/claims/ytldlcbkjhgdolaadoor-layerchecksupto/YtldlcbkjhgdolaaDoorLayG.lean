/- layer's reader: entry. -/
import Derived.Test.YtldlcbkjhgdolaaDoorLayF
namespace Go.Proofs.YtldlcbkjhgdolaaDoor
open Go.ChangeShapes Go.WideShapes Go.ChangeAt Go.RowKit Go.Deep
set_option linter.unusedVariables false
/-- what entry tells -/
def ESaid (w : World) (R : Nat) (L : List Int) (e : Ending) (w' : World) : Prop := Gr w w' (some R) (some R) ∧ match re L with
  | none => Pan e
  | some (x, r) => e = .returned (ag x) ∧ RdB w' R r
theorem RdB.lt {w : World} {R : Nat} {L : List Int} (h : RdB w R L) : R < w.heap.size := by obtain ⟨a, n, c, hr, _⟩ := h; exact hr.lt
theorem RdB.keep {w w' : World} {R : Nat} {L : List Int} (h : RdB w R L) (hb : Below w.heap.size w w') : RdB w' R L := by
  have hlt0 := h.lt
  obtain ⟨a, n, c, hr, hl, hh, hb', hn, hc, hn47, hlt⟩ := h
  exact ⟨a, n, c, (hb.block R hlt0).trans hr, hl, hh.below hb (fun x hx hne => Nat.lt_trans (hlt x hx hne) hlt0), hb', hn, hc, hn47, hlt⟩
theorem RdB.block {w w' : World} {R : Nat} {L : List Int} (h : RdB w R L) (hb : ∀ g, g ≤ R → w'.heap[g]? = w.heap[g]?) : RdB w' R L := by
  obtain ⟨a, n, c, hr, hl, hh, hb', hn, hc, hn47, hlt⟩ := h
  refine ⟨a, n, c, (hb R (Nat.le_refl _)).trans hr, hl, ?_, hb', hn, hc, hn47, hlt⟩
  rcases hh with e | ⟨b, off, rfl, hcell⟩
  · exact .inl e
  · by_cases hL : L = []
    · exact .inl hL
    · have := hlt _ rfl hL
      exact .inr ⟨b, off, rfl, fun i hi => by rw [← hcell i hi]; exact World.cell?_of_block (a := ⟨b, off + i, none⟩) (hb b (Nat.le_of_lt this))⟩
theorem Gr.setNew {w w' : World} {r r' : Option Nat} (h : Gr w w' r r') {g : Nat} (hg : w.heap.size ≤ g) (i : Nat) (v : Value) : Gr w (w'.setCell ⟨g, i, none⟩ v) r r' :=
  ⟨⟨h.1.os, h.1.tape, h.1.output, by have := h.1.size; simpa [World.setCell] using this, fun k hk hr => (Below.heap_setCell _ ⟨g, i, none⟩ _ _ (show k ≠ g by omega)).trans (h.1.block k hk hr)⟩, h.2⟩
theorem RdB.setAt {w : World} {R : Nat} {L : List Int} (h : RdB w R L) {g : Nat} (hg : R < g) (i : Nat) (v : Value) : RdB (w.setCell ⟨g, i, none⟩ v) R L :=
  h.block (fun k hk => Below.heap_setCell _ ⟨g, i, none⟩ _ _ (show k ≠ g by omega))
theorem xc_all {w : World} {g : Nat} {P B : ByteArray} {k m : Int} {t : TypeId} (h : w.heap[g]? = some (.cells (ec P k m B) t)) :
    (w.cell? ⟨g, 0, none⟩ = some (.string P) ∧ w.cell? ⟨g, 1, none⟩ = some (.int .i64 k) ∧ w.cell? ⟨g, 2, none⟩ = some (.int .i64 m) ∧ w.cell? ⟨g, 3, none⟩ = some (.string B)) ∧
    w.frozen? ⟨g, 0, none⟩ = false ∧ w.frozen? ⟨g, 1, none⟩ = false ∧ w.frozen? ⟨g, 2, none⟩ = false ∧ w.frozen? ⟨g, 3, none⟩ = false :=
  ⟨ec_cells h, frozen_of_row w g 0 _ _ h, frozen_of_row w g 1 _ _ h, frozen_of_row w g 2 _ _ h, frozen_of_row w g 3 _ _ h⟩
set_option maxRecDepth 100000 in
theorem entry_none (w : World) (R : Nat) (h : RdB w R []) : Calls Tryd.prog 66 #[.pointer (some ⟨R, 0, none⟩)] w (ESaid w R []) := by
  have HE : Hid (∀ e w', Pan e → Gr w w' (some R) (some R) → ESaid w R [] e w') := fun e w' h1 h2 => ⟨h2, h1⟩
  have K : Hid (∀ w', Below w.heap.size w w' → Calls Tryd.prog 64 #[.pointer (some ⟨R, 0, none⟩), .int .u64 1] w' fun e w2 => Pan e ∧ w2 = w') := fun w' hb => take_end w' R 1 [] (h.keep hb) (by simp) (by decide)
  clear h
  generalize ESaid w R [] = T at *
  go_enter Tryd.func66, Tryd.ntmps66
  go_wp2_with fail
  refine (K.out _ ((Below.refl _ _).alloc (Nat.le_refl _) _)).mono ?_
  rintro e w1 ⟨⟨k, rfl⟩, hw⟩
  obtain rfl := hw.symm
  clear hw K
  go_wp2_with fail
  exact ⟨rfl, HE.out _ _ ⟨_, rfl⟩ (Gr.alloc _ _ _)⟩
/-- a byte that a slice of one holds -/
theorem holds1 {w : World} {a : Option Addr} {x : Int} (h : Holds w a [x]) : ∃ b off, a = some ⟨b, off, none⟩ ∧ w.cell? ⟨b, off, none⟩ = some (.int .u8 x) := by
  rcases h with e | ⟨b, off, rfl, hc⟩
  · simp at e
  · exact ⟨b, off, rfl, hc 0 (by simp)⟩
set_option maxRecDepth 100000 in
set_option maxHeartbeats 4000000 in
theorem entry_few (w : World) (R : Nat) (k : Int) (L : List Int) (hL : L.length < 2) (h : RdB w R (k :: L)) : Calls Tryd.prog 66 #[.pointer (some ⟨R, 0, none⟩)] w (ESaid w R (k :: L)) := by
  have HE : Hid (∀ e w', Pan e → Gr w w' (some R) (some R) → ESaid w R (k :: L) e w') := by
    intro e w' h1 h2
    refine ⟨h2, ?_⟩
    have : re (k :: L) = none := by
      match L, hL with
      | [], _ => rfl
      | [m], _ => rfl
    rw [this]
    exact h1
  have hk : 0 ≤ k ∧ k ≤ 255 := by obtain ⟨a, n, c, _, _, _, hb, _⟩ := h; have := hb 0 (by simp); simpa using this
  have hR := h.lt
  have K : Hid (∀ w', Below w.heap.size w w' → Calls Tryd.prog 64 #[.pointer (some ⟨R, 0, none⟩), .int .u64 1] w' (Took w' R 1 (k :: L))) := fun w' hb => take_ok w' R 1 (k :: L) (h.keep hb) (by simp)
  obtain ⟨k0, k1⟩ := hk
  clear h
  generalize ESaid w R (k :: L) = T at *
  go_enter Tryd.func66, Tryd.ntmps66
  go_wp2_with fail
  refine (K.out _ ((Below.refl _ _).alloc (Nat.le_refl _) _)).mono ?_
  rintro e w1 ⟨a, c, rfl, hh, hr, hg, hc⟩
  obtain ⟨b, off, rfl, c0⟩ := holds1 hh
  have X1 : w1.heap[w.heap.size]? = some (.cells (ec ⟨#[]⟩ 0 0 ⟨#[]⟩) 50) := (hg.block _ (by simp) (fun e => by have := Option.some.inj e; omega)).trans (heap_alloc_new w _)
  have G1 : Hid (Gr w w1 (some R) (some R)) := (Gr.alloc w _ _).trans hg
  have HX1 : Hid (w1.heap[w.heap.size]? = some (.cells (ec ⟨#[]⟩ 0 0 ⟨#[]⟩) 50)) := X1
  obtain ⟨⟨x0, x1, x2, x3⟩, f0, f1, f2, f3⟩ := xc_all X1
  have R1 : Hid (RdB w1 R ((k :: L).drop 1)) := hr
  clear hh hr hg K X1
  have K2 : Hid (∀ w', Below w1.heap.size w1 w' → Calls Tryd.prog 64 #[.pointer (some ⟨R, 0, none⟩), .int .u64 2] w' fun e w2 => Pan e ∧ w2 = w') := fun w' hb => take_end w' R 2 _ (R1.out.keep hb) (by simp; omega) (by decide)
  go_wp2_with fail
  refine (K2.out _ ((Below.refl _ _).alloc (Nat.le_refl _) _)).mono ?_
  rintro e w2 ⟨⟨q, rfl⟩, hw⟩
  obtain rfl := hw.symm
  clear hw K2
  go_wp2_with fail
  exact ⟨rfl, HE.out _ _ ⟨_, rfl⟩ (G1.out.trans (Gr.alloc _ _ _))⟩
set_option maxRecDepth 100000 in
set_option maxHeartbeats 8000000 in
theorem entry_full (w : World) (R : Nat) (k m1 m2 : Int) (L : List Int) (h : RdB w R (k :: m1 :: m2 :: L)) : Calls Tryd.prog 66 #[.pointer (some ⟨R, 0, none⟩)] w (ESaid w R (k :: m1 :: m2 :: L)) := by
  have hall : (0 ≤ k ∧ k ≤ 255) ∧ (0 ≤ m1 ∧ m1 ≤ 255) ∧ (0 ≤ m2 ∧ m2 ≤ 255) := by
    obtain ⟨a, n, c, _, _, _, hb, _⟩ := h
    have h0 := hb 0 (by simp)
    have h1 := hb 1 (by simp)
    have h2 := hb 2 (by simp)
    simp at h0 h1 h2
    exact ⟨h0, h1, h2⟩
  have HE : Hid (∀ e w', Pan e → Gr w w' (some R) (some R) → rt L = none → ESaid w R (k :: m1 :: m2 :: L) e w') := by
    intro e w' h1 h2 h3
    refine ⟨h2, ?_⟩
    have : re (k :: m1 :: m2 :: L) = none := by simp only [re, h3]
    rw [this]
    exact h1
  have HE2 : Hid (∀ e w' p s, Pan e → Gr w w' (some R) (some R) → rt L = some (p, s) → k = 1 → rt s = none → ESaid w R (k :: m1 :: m2 :: L) e w') := by
    intro e w' p s h1 h2 h3 h4 h5
    refine ⟨h2, ?_⟩
    have : re (k :: m1 :: m2 :: L) = none := by simp only [re, h3]; rw [if_pos h4, h5]
    rw [this]
    exact h1
  have HE3 : Hid (∀ e w' p s b r, Gr w w' (some R) (some R) → rt L = some (p, s) → k = 1 → rt s = some (b, r) → e = .returned (ag (p, k, 256 * m1 + m2, b)) → RdB w' R r → ESaid w R (k :: m1 :: m2 :: L) e w') := by
    intro e w' p s b r h2 h3 h4 h5 h6 h7
    refine ⟨h2, ?_⟩
    have : re (k :: m1 :: m2 :: L) = some ((p, k, 256 * m1 + m2, b), r) := by simp only [re, h3]; rw [if_pos h4, h5]
    rw [this]
    exact ⟨h6, h7⟩
  have HE4 : Hid (∀ e w' p s, Gr w w' (some R) (some R) → rt L = some (p, s) → ¬ k = 1 → e = .returned (ag (p, k, 256 * m1 + m2, [])) → RdB w' R s → ESaid w R (k :: m1 :: m2 :: L) e w') := by
    intro e w' p s h2 h3 h4 h6 h7
    refine ⟨h2, ?_⟩
    have : re (k :: m1 :: m2 :: L) = some ((p, k, 256 * m1 + m2, []), s) := by simp only [re, h3]; rw [if_neg h4]
    rw [this]
    exact ⟨h6, h7⟩
  have hR := h.lt
  have K : Hid (∀ w', Below w.heap.size w w' → Calls Tryd.prog 64 #[.pointer (some ⟨R, 0, none⟩), .int .u64 1] w' (Took w' R 1 (k :: m1 :: m2 :: L))) := fun w' hb => take_ok w' R 1 _ (h.keep hb) (by simp)
  obtain ⟨⟨k0, k1⟩, ⟨a0, a1⟩, ⟨b0, b1⟩⟩ := hall
  clear h
  generalize ESaid w R (k :: m1 :: m2 :: L) = T at *
  go_enter Tryd.func66, Tryd.ntmps66
  go_wp2_with fail
  refine (K.out _ ((Below.refl _ _).alloc (Nat.le_refl _) _)).mono ?_
  rintro e w1 ⟨a, c, rfl, hh, hr, hg, hc⟩
  obtain ⟨b, off, rfl, c0⟩ := holds1 hh
  have G1 : Hid (Gr w w1 (some R) (some R)) := (Gr.alloc w _ _).trans hg
  have HX1 : Hid (w1.heap[w.heap.size]? = some (.cells (ec ⟨#[]⟩ 0 0 ⟨#[]⟩) 50)) := (hg.block _ (by simp) (fun e => by have := Option.some.inj e; omega)).trans (heap_alloc_new w _)
  have R1 : Hid (RdB w1 R (m1 :: m2 :: L)) := hr
  have hs1 : w.heap.size < w1.heap.size := (Array.getElem?_eq_some_iff.1 HX1.out).1
  have K2 : Hid (∀ w', Below w1.heap.size w1 w' → Calls Tryd.prog 64 #[.pointer (some ⟨R, 0, none⟩), .int .u64 2] w' (Took w' R 2 (m1 :: m2 :: L))) := fun w' hb => take_ok w' R 2 _ (R1.out.keep hb) (by simp)
  clear hh hr hg K
  go_wp2_with fail
  refine (K2.out _ ((Below.refl _ _).alloc (Nat.le_refl _) _)).mono ?_
  rintro e w2 ⟨a, c2, rfl, hh, hr, hg, hc2⟩
  have KF : Hid (Calls Tryd.prog 77 #[.slice a 2 c2, .int .i64 2] w2 fun e w' => e = .returned (.tuple #[.int .u64 (256 * m1 + m2), .int .i64 0]) ∧ w' = w2) := by
    have := readFixed_ok [m1, m2] 2 2 a c2 rfl (by decide) (bytes_of_mem (by simp; omega)) w2 hh (by decide) (by decide) (by decide)
    have e : val ([m1, m2].take 2) = 256 * m1 + m2 := by simp [val]; omega
    rw [e] at this
    exact this
  have G2 : Hid (Gr w w2 (some R) (some R)) := G1.out.trans ((Gr.alloc w1 _ _).trans hg)
  have X2 : w2.heap[w1.heap.size]? = some (.cells (ec ⟨#[]⟩ k 0 ⟨#[]⟩) 50) := (hg.block _ (by simp) (fun e => by have := Option.some.inj e; omega)).trans (heap_alloc_new w1 _)
  have HX2 : Hid (w2.heap[w1.heap.size]? = some (.cells (ec ⟨#[]⟩ k 0 ⟨#[]⟩) 50)) := X2
  have Y2 : Hid (w2.heap[w.heap.size]? = some (.cells (ec ⟨#[]⟩ 0 0 ⟨#[]⟩) 50)) := (hg.block _ (by simp; omega) (fun e => by have := Option.some.inj e; omega)).trans ((Below.heap_alloc _ _ _ hs1).trans HX1.out)
  have R2 : Hid (RdB w2 R L) := hr
  obtain ⟨⟨x0, x1, x2, x3⟩, f0, f1, f2, f3⟩ := xc_all X2
  have hs2 : w1.heap.size < w2.heap.size := (Array.getElem?_eq_some_iff.1 X2).1
  clear hh hr hg K2 X2 c0
  go_wp2_with fail
  refine KF.out.mono ?_
  rintro e w' ⟨rfl, hw⟩
  obtain rfl := hw.symm
  clear hw KF
  have X3 : Hid ((w2.setCell ⟨w1.heap.size, 2, none⟩ (.int .i64 (256 * m1 + m2))).heap[w1.heap.size]? = some (.cells (ec ⟨#[]⟩ k (256 * m1 + m2) ⟨#[]⟩) 50)) := heap_setCell_own _ _ _ _ _ _ HX2.out _
  have Y3 : Hid ((w2.setCell ⟨w1.heap.size, 2, none⟩ (.int .i64 (256 * m1 + m2))).heap[w.heap.size]? = some (.cells (ec ⟨#[]⟩ 0 0 ⟨#[]⟩) 50)) := (Below.heap_setCell _ ⟨w1.heap.size, 2, none⟩ _ _ (show w.heap.size ≠ w1.heap.size by omega)).trans Y2.out
  have R3 : Hid (RdB (w2.setCell ⟨w1.heap.size, 2, none⟩ (.int .i64 (256 * m1 + m2))) R L) := R2.out.block (fun g hg => Below.heap_setCell _ ⟨w1.heap.size, 2, none⟩ _ _ (show g ≠ w1.heap.size by omega))
  have G3 : Hid (Gr w (w2.setCell ⟨w1.heap.size, 2, none⟩ (.int .i64 (256 * m1 + m2))) (some R) (some R)) := G2.out.setNew (by omega) _ _
  have hs3 : w2.heap.size = (w2.setCell ⟨w1.heap.size, 2, none⟩ (.int .i64 (256 * m1 + m2))).heap.size := by simp [World.setCell]
  have M0 : 0 ≤ 256 * m1 + m2 := by omega
  have M1 : 256 * m1 + m2 ≤ 65535 := by omega
  clear HX2 Y2 R2 G2
  generalize 256 * m1 + m2 = M at *
  cases ht : rt L with
  | none =>
    have KT : Hid (Calls Tryd.prog 88 #[.pointer (some ⟨R, 0, none⟩)] (w2.setCell ⟨w1.heap.size, 2, none⟩ (.int .i64 M)) fun e w' => Pan e ∧ Gr (w2.setCell ⟨w1.heap.size, 2, none⟩ (.int .i64 M)) w' (some R) (some R)) := text_bad _ R L R3.out ht
    go_wp2_with fail
    refine KT.out.mono ?_
    rintro e w4 ⟨⟨q, rfl⟩, hg⟩
    have G4 : Hid (Gr w w4 (some R) (some R)) := G3.out.trans hg
    clear hg KT
    go_wp2_with fail
    exact ⟨rfl, HE.out _ _ ⟨_, rfl⟩ G4.out ht⟩
  | some ps =>
    obtain ⟨p, s⟩ := ps
    have HT : Hid (rt L = some (p, s)) := ht
    clear ht HE
    have KT : Hid (Calls Tryd.prog 88 #[.pointer (some ⟨R, 0, none⟩)] (w2.setCell ⟨w1.heap.size, 2, none⟩ (.int .i64 M)) fun e w' => e = .returned (.string (tx p)) ∧ RdB w' R s ∧ Gr (w2.setCell ⟨w1.heap.size, 2, none⟩ (.int .i64 M)) w' (some R) (some R)) := text_ok _ R L R3.out p s HT.out
    go_wp2_with fail
    refine KT.out.mono ?_
    rintro e w4 ⟨rfl, hr4, hg⟩
    clear x0 x1 x2 x3 f0 f1 f2 f3
    have G4 : Hid (Gr w w4 (some R) (some R)) := G3.out.trans hg
    have X4 : w4.heap[w1.heap.size]? = some (.cells (ec ⟨#[]⟩ k M ⟨#[]⟩) 50) := (hg.block _ (by omega) (fun e => by have := Option.some.inj e; omega)).trans X3.out
    have Y4 : w4.heap[w.heap.size]? = some (.cells (ec ⟨#[]⟩ 0 0 ⟨#[]⟩) 50) := (hg.block _ (by omega) (fun e => by have := Option.some.inj e; omega)).trans Y3.out
    have X5 : Hid ((w4.setCell ⟨w1.heap.size, 0, none⟩ (.string (tx p))).heap[w1.heap.size]? = some (.cells (ec (tx p) k M ⟨#[]⟩) 50)) := heap_setCell_own _ _ _ _ _ _ X4 _
    have Y5 : Hid ((w4.setCell ⟨w1.heap.size, 0, none⟩ (.string (tx p))).heap[w.heap.size]? = some (.cells (ec ⟨#[]⟩ 0 0 ⟨#[]⟩) 50)) := (Below.heap_setCell _ ⟨w1.heap.size, 0, none⟩ _ _ (show w.heap.size ≠ w1.heap.size by omega)).trans Y4
    have R5 : Hid (RdB (w4.setCell ⟨w1.heap.size, 0, none⟩ (.string (tx p))) R s) := hr4.block (fun g hg => Below.heap_setCell _ ⟨w1.heap.size, 0, none⟩ _ _ (show g ≠ w1.heap.size by omega))
    have G5 : Hid (Gr w (w4.setCell ⟨w1.heap.size, 0, none⟩ (.string (tx p))) (some R) (some R)) := G4.out.setNew (by omega) _ _
    have hs4 : w1.heap.size < w4.heap.size := (Array.getElem?_eq_some_iff.1 X4).1
    have hs5 : w4.heap.size = (w4.setCell ⟨w1.heap.size, 0, none⟩ (.string (tx p))).heap.size := by simp [World.setCell]
    obtain ⟨⟨x0, x1, x2, x3⟩, f0, f1, f2, f3⟩ := xc_all X4
    obtain ⟨⟨y0, y1, y2, y3⟩, e0, e1, e2, e3⟩ := xc_all Y4
    clear hg KT X3 Y3 R3 G3 hr4 X4 Y4
    by_cases hk : k = 1
    · cases ht : rt s with
      | none =>
        have KT : Hid (Calls Tryd.prog 88 #[.pointer (some ⟨R, 0, none⟩)] (w4.setCell ⟨w1.heap.size, 0, none⟩ (.string (tx p))) fun e w' => Pan e ∧ Gr (w4.setCell ⟨w1.heap.size, 0, none⟩ (.string (tx p))) w' (some R) (some R)) := text_bad _ R s R5.out ht
        subst hk
        go_wp2_with fail
        refine KT.out.mono ?_
        rintro e w6 ⟨⟨q, rfl⟩, hg⟩
        have G6 : Hid (Gr w w6 (some R) (some R)) := G5.out.trans hg
        clear hg KT
        go_wp2_with fail
        exact ⟨rfl, HE2.out _ _ p s ⟨_, rfl⟩ G6.out HT.out trivial ht⟩
      | some bs =>
        obtain ⟨b, r⟩ := bs
        have HT2 : Hid (rt s = some (b, r)) := ht
        have KT : Hid (Calls Tryd.prog 88 #[.pointer (some ⟨R, 0, none⟩)] (w4.setCell ⟨w1.heap.size, 0, none⟩ (.string (tx p))) fun e w' => e = .returned (.string (tx b)) ∧ RdB w' R r ∧ Gr (w4.setCell ⟨w1.heap.size, 0, none⟩ (.string (tx p))) w' (some R) (some R)) := text_ok _ R s R5.out b r ht
        subst hk
        clear ht
        go_wp2_with fail
        refine KT.out.mono ?_
        rintro e w6 ⟨rfl, hr6, hg⟩
        clear x0 x1 x2 x3 f0 f1 f2 f3 y0 y1 y2 y3 e0 e1 e2 e3
        have G6 : Hid (Gr w w6 (some R) (some R)) := G5.out.trans hg
        have X6 : w6.heap[w1.heap.size]? = some (.cells (ec (tx p) 1 M ⟨#[]⟩) 50) := (hg.block _ (by omega) (fun e => by have := Option.some.inj e; omega)).trans X5.out
        have Y6 : w6.heap[w.heap.size]? = some (.cells (ec ⟨#[]⟩ 0 0 ⟨#[]⟩) 50) := (hg.block _ (by omega) (fun e => by have := Option.some.inj e; omega)).trans Y5.out
        have R6 : Hid (RdB w6 R r) := hr6
        obtain ⟨⟨x0, x1, x2, x3⟩, f0, f1, f2, f3⟩ := xc_all X6
        obtain ⟨⟨y0, y1, y2, y3⟩, e0, e1, e2, e3⟩ := xc_all Y6
        clear hg KT X5 Y5 R5 G5 hr6 X6
        have ROW : Hid ((((((w6.setCell ⟨w1.heap.size, 3, none⟩ (.string (tx b))).setCell ⟨w.heap.size, 0, none⟩ (.string (tx p))).setCell ⟨w.heap.size, 1, none⟩ (.int .i64 1)).setCell ⟨w.heap.size, 2, none⟩ (.int .i64 M)).setCell ⟨w.heap.size, 3, none⟩ (.string (tx b))).heap[w.heap.size]? = some (.cells (ec (tx p) 1 M (tx b)) 50)) := ec_set ((Below.heap_setCell _ ⟨w1.heap.size, 3, none⟩ _ _ (show w.heap.size ≠ w1.heap.size by omega)).trans Y6)
        have RR : Hid (RdB (((((w6.setCell ⟨w1.heap.size, 3, none⟩ (.string (tx b))).setCell ⟨w.heap.size, 0, none⟩ (.string (tx p))).setCell ⟨w.heap.size, 1, none⟩ (.int .i64 1)).setCell ⟨w.heap.size, 2, none⟩ (.int .i64 M)).setCell ⟨w.heap.size, 3, none⟩ (.string (tx b))) R r) := ((((R6.out.setAt (by omega) _ _).setAt hR _ _).setAt hR _ _).setAt hR _ _).setAt hR _ _
        have GG : Hid (Gr w (((((w6.setCell ⟨w1.heap.size, 3, none⟩ (.string (tx b))).setCell ⟨w.heap.size, 0, none⟩ (.string (tx p))).setCell ⟨w.heap.size, 1, none⟩ (.int .i64 1)).setCell ⟨w.heap.size, 2, none⟩ (.int .i64 M)).setCell ⟨w.heap.size, 3, none⟩ (.string (tx b))) (some R) (some R)) := ((((G6.out.setNew (by omega) _ _).setNew (Nat.le_refl _) _ _).setNew (Nat.le_refl _) _ _).setNew (Nat.le_refl _) _ _).setNew (Nat.le_refl _) _ _
        clear Y6
        go_wp2_with fail
        refine bodyPost_ret (results_cell_row Tryd.results66 _ _ w.heap.size _ _ _ _ rfl ROW.out Tryd.underlying50 rfl sizeE) rfl ?_
        exact HE3.out _ _ p s b r GG.out HT.out trivial HT2.out rfl RR.out
    · have HK : Hid (¬ k = 1) := hk
      have Y4 : (w4.setCell ⟨w1.heap.size, 0, none⟩ (.string (tx p))).heap[w.heap.size]? = some (.cells (ec ⟨#[]⟩ 0 0 ⟨#[]⟩) 50) := Y5.out
      have ROW : Hid ((((((w4.setCell ⟨w1.heap.size, 0, none⟩ (.string (tx p))).setCell ⟨w.heap.size, 0, none⟩ (.string (tx p))).setCell ⟨w.heap.size, 1, none⟩ (.int .i64 k)).setCell ⟨w.heap.size, 2, none⟩ (.int .i64 M)).setCell ⟨w.heap.size, 3, none⟩ (.string ⟨#[]⟩)).heap[w.heap.size]? = some (.cells (ec (tx p) k M ⟨#[]⟩) 50)) := ec_set Y4
      have RR : Hid (RdB (((((w4.setCell ⟨w1.heap.size, 0, none⟩ (.string (tx p))).setCell ⟨w.heap.size, 0, none⟩ (.string (tx p))).setCell ⟨w.heap.size, 1, none⟩ (.int .i64 k)).setCell ⟨w.heap.size, 2, none⟩ (.int .i64 M)).setCell ⟨w.heap.size, 3, none⟩ (.string ⟨#[]⟩)) R s) := (((R5.out.setAt hR _ _).setAt hR _ _).setAt hR _ _).setAt hR _ _
      have GG : Hid (Gr w (((((w4.setCell ⟨w1.heap.size, 0, none⟩ (.string (tx p))).setCell ⟨w.heap.size, 0, none⟩ (.string (tx p))).setCell ⟨w.heap.size, 1, none⟩ (.int .i64 k)).setCell ⟨w.heap.size, 2, none⟩ (.int .i64 M)).setCell ⟨w.heap.size, 3, none⟩ (.string ⟨#[]⟩)) (some R) (some R)) := (((G5.out.setNew (Nat.le_refl _) _ _).setNew (Nat.le_refl _) _ _).setNew (Nat.le_refl _) _ _).setNew (Nat.le_refl _) _ _
      clear Y4
      go_wp2_with fail
      refine bodyPost_ret (results_cell_row Tryd.results66 _ _ w.heap.size _ _ _ _ rfl ROW.out Tryd.underlying50 rfl sizeE) rfl ?_
      exact HE4.out _ _ p s GG.out HT.out HK.out rfl RR.out
theorem entry_is (w : World) (R : Nat) (L : List Int) (h : RdB w R L) : Calls Tryd.prog 66 #[.pointer (some ⟨R, 0, none⟩)] w (ESaid w R L) := by
  match L, h with
  | [], h => exact entry_none w R h
  | [k], h => exact entry_few w R k [] (by simp) h
  | [k, m], h => exact entry_few w R k [m] (by simp) h
  | k :: m1 :: m2 :: L, h => exact entry_full w R k m1 m2 L h
end Go.Proofs.YtldlcbkjhgdolaaDoor
