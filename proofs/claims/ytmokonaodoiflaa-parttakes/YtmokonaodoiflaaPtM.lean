/- Behind few: what the two boxes hold. -/
import Derived.Test.YtmokonaodoiflaaPtL
import Derived.Test.YtmokonaodoiflaaPtW
import Derived.Test.YtmokonaodoiflaaPtO
namespace Go.Proofs.Ytmokonaodoiflaa
open Go.ChangeShapes Go.WideShapes Go.ChangeAt Go.RowKit Go.Deep Go.Maps
set_option linter.unusedVariables false
set_option linter.unusedSimpArgs false
/-- a participant that may be read -/
structure PrtAt (w : World) (a : Option Addr) (n c : Nat) (D : List Int) : Prop where
  inz : InZ w a D
  len : D.length = n
  nil : a = none → n = 0 ∧ c = 0
  cap : n ≤ c
  big : n ≤ 10000
/-- a message's packages that may be read -/
structure MsgAt (w : World) (a : Option Addr) (n c : Nat) (M : List Pk) : Prop where
  inp : InPk w a M
  len : M.length = n
  nil : a = none → n = 0 ∧ c = 0
  cap : n ≤ c
  cap9 : c ≤ 9223372036854775807
  big : n ≤ 20
  pk : ∀ x ∈ M, PkOk w x ∧ NilOk x ∧ x.ln ≤ 3518437208883
theorem PrtAt.keep {w w' : World} {a : Option Addr} {n c : Nat} {D : List Int} (h : PrtAt w a n c D) (hb : Below w.heap.size w w') : PrtAt w' a n c D := ⟨h.inz.keep hb, h.len, h.nil, h.cap, h.big⟩
theorem MsgAt.keep {w w' : World} {a : Option Addr} {n c : Nat} {M : List Pk} (h : MsgAt w a n c M) (hb : Below w.heap.size w w') : MsgAt w' a n c M := ⟨h.inp.keep hb, h.len, h.nil, h.cap, h.cap9, h.big, fun x hx => ⟨(h.pk x hx).1.keep hb, (h.pk x hx).2⟩⟩
theorem take_at {w : World} {a pa : Option Addr} {n c pn pc : Nat} {D : List Int} {L : List Pk} (h : PrtAt w a n c D) (hm : MsgAt w pa pn pc L) (r s k f t x : Int) (y : Bool) :
    Calls Try.prog 10 #[.agg #[.int .i64 r, .int .i64 s, .slice a n c], .agg #[.int .i64 k, .int .i64 f, .int .i64 t, .int .i64 x, .bool y, .slice pa pn pc]] w fun e w' => ∃ V, e = .returned V ∧ TkSaid w w' r s D k f t x y L V :=
  take_is w r s a n c D h.len h.inz h.nil (by have := h.big; omega) k f t x y pa pn pc L hm.len hm.inp hm.nil hm.pk (by have := hm.big; omega) hm.cap hm.cap9
theorem good_at {w : World} {a : Option Addr} {n c : Nat} {D : List Int} (h : PrtAt w a n c D) (r s : Int) :
    Calls Try.prog 13 #[.agg #[.int .i64 r, .int .i64 s, .slice a n c]] w fun e w' => e = .returned (.bool (gdP r s D)) ∧ Below w.heap.size w w' := pgood_is w r s a n c D h.len h.inz h.nil (by have := h.big; omega)
theorem tick_at {w : World} {a : Option Addr} {n c : Nat} {D : List Int} (h : PrtAt w a n c D) (r s : Int) :
    Calls Try.prog 18 #[.agg #[.int .i64 r, .int .i64 s, .slice a n c]] w fun e w' => ∃ V, e = .returned V ∧ TcSaid w w' r s D V := tick_is w r s a n c D h.len h.inz h.nil (by have := h.big; omega)
theorem OwnPk.nilok {w : World} {base n c : Nat} {a : Option Addr} {l : List Pk} (h : OwnPk w base (.slice a n c) l) : a = none → n = 0 ∧ c = 0 := by
  intro e
  rcases h.2 with ⟨e1, _⟩ | ⟨g, cap, cur, e1, _⟩
  · injection e1 with h1 h2 h3; exact ⟨h2, h3⟩
  · injection e1 with h1; rw [e] at h1; cases h1
/-- what few told -/
theorem fw_open {w w' : World} {r s k f t x : Int} {y : Bool} {D : List Int} {L : List Pk} {e : Ending} (h : FwSaid w w' r s k f t x y D L e) :
    ∃ a5 m5 c5 a9 m9 c9 M, e = .returned (.tuple #[.agg #[.int .i64 r, .int .i64 s, .slice a5 m5 c5], .agg #[.int .i64 k, .int .i64 f, .int .i64 t, .int .i64 x, .bool y, .slice a9 m9 c9]]) ∧ OwnZ w' w.heap.size (.slice a5 m5 c5) (D.take 100) ∧ Few w' w.heap.size (.slice a9 m9 c9) L M ∧ PrtAt w' a5 m5 c5 (D.take 100) ∧ MsgAt w' a9 m9 c9 M ∧ M.length = min L.length 20 ∧ Below w.heap.size w w' := by
  obtain ⟨Vd, V, M, rfl, oz, hF, hM, hb⟩ := h
  obtain ⟨a5, c5, rfl, iz, lz, mz, nz, _⟩ := oz.slice
  obtain ⟨a9, c9, rfl, i9, l9, m9⟩ := hF.1.slice (fun x hx => (hF.2.2 x hx).1)
  refine ⟨a5, _, c5, a9, _, c9, M, rfl, oz, hF, ⟨iz, rfl, ?_, lz, ?_⟩, ⟨i9, rfl, hF.1.nilok, l9, m9, by omega, fun x hx => ⟨(hF.2.2 x hx).1, (hF.2.2 x hx).2.2, ?_⟩⟩, hM, hb⟩
  · intro e; have := nz e; omega
  · rw [List.length_take]; omega
  · obtain ⟨i, hi, e⟩ := List.mem_iff_getElem.1 hx
    obtain ⟨x', _, _, _, _, hl⟩ := hF.2.1 i x (by rw [List.getElem?_eq_getElem hi, e])
    have h1 := (hF.2.2 x hx).1.len
    rw [hl, List.length_take] at h1
    omega
/-- a box with a participant, one with a message -/
def Bx (w : World) (b : Nat) (r s : Int) (a : Option Addr) (n c : Nat) : Prop := w.heap[b]? = some (.cells #[.int .i64 r, .int .i64 s, .slice a n c] 24)
def Bm (w : World) (b : Nat) (k f t x : Int) (y : Bool) (a : Option Addr) (n c : Nat) : Prop := w.heap[b]? = some (.cells #[.int .i64 k, .int .i64 f, .int .i64 t, .int .i64 x, .bool y, .slice a n c] 27)
theorem Bx.cells {w : World} {b : Nat} {r s : Int} {a : Option Addr} {n c : Nat} (p1 : Bx w b r s a n c) : w.cell? ⟨b, 0, none⟩ = some (.int .i64 r) ∧ w.cell? ⟨b, 1, none⟩ = some (.int .i64 s) ∧ w.cell? ⟨b, 2, none⟩ = some (.slice a n c) := by
  refine ⟨?_, ?_, ?_⟩
  · rw [cell_of_row _ b 0 _ _ (0, 0) p1]; rfl
  · rw [cell_of_row _ b 1 _ _ (0, 0) p1]; rfl
  · rw [cell_of_row _ b 2 _ _ (0, 0) p1]; rfl
theorem Bm.cells {w : World} {b : Nat} {k f t x : Int} {y : Bool} {a : Option Addr} {n c : Nat} (p1 : Bm w b k f t x y a n c) : w.cell? ⟨b, 0, none⟩ = some (.int .i64 k) ∧ w.cell? ⟨b, 1, none⟩ = some (.int .i64 f) ∧ w.cell? ⟨b, 2, none⟩ = some (.int .i64 t) ∧ w.cell? ⟨b, 3, none⟩ = some (.int .i64 x) ∧ w.cell? ⟨b, 4, none⟩ = some (.bool y) ∧ w.cell? ⟨b, 5, none⟩ = some (.slice a n c) := by
  refine ⟨?_, ?_, ?_, ?_, ?_, ?_⟩
  · rw [cell_of_row _ b 0 _ _ (0, 0) p1]; rfl
  · rw [cell_of_row _ b 1 _ _ (0, 0) p1]; rfl
  · rw [cell_of_row _ b 2 _ _ (0, 0) p1]; rfl
  · rw [cell_of_row _ b 3 _ _ (0, 0) p1]; rfl
  · rw [cell_of_row _ b 4 _ _ (0, 0) p1]; rfl
  · rw [cell_of_row _ b 5 _ _ (0, 0) p1]; rfl
theorem Bx.lt {w : World} {b : Nat} {r s : Int} {a : Option Addr} {n c : Nat} (h : Bx w b r s a n c) : b < w.heap.size := lt_of_heapK h
theorem Bm.lt {w : World} {b : Nat} {k f t x : Int} {y : Bool} {a : Option Addr} {n c : Nat} (h : Bm w b k f t x y a n c) : b < w.heap.size := lt_of_heapK h
theorem Bx.keep {w w' : World} {b : Nat} {r s : Int} {a : Option Addr} {n c : Nat} (h : Bx w b r s a n c) (hb : Below w.heap.size w w') : Bx w' b r s a n c := (hb.block b h.lt).trans h
theorem Bm.keep {w w' : World} {b : Nat} {k f t x : Int} {y : Bool} {a : Option Addr} {n c : Nat} (h : Bm w b k f t x y a n c) (hb : Below w.heap.size w w') : Bm w' b k f t x y a n c := (hb.block b h.lt).trans h
/-- where it all lies -/
def Lo (z : Nat) (a5 a9 : Option Addr) (M : List Pk) : Prop := (∀ q, a5 = some q → z ≤ q.block) ∧ (∀ q, a9 = some q → z ≤ q.block) ∧ ∀ x ∈ M, ∀ q, x.la = some q → z ≤ q.block
theorem PrtAt.far {w w' : World} {z : Nat} {a a9 : Option Addr} {n c : Nat} {D : List Int} {M : List Pk} (h : PrtAt w a n c D) (hl : Lo z a a9 M) (hs : w.heap.size ≤ w'.heap.size) (hb : ∀ k, z ≤ k → w'.heap[k]? = w.heap[k]?) : PrtAt w' a n c D := ⟨h.inz.kept hs (fun q hq _ => hb _ (hl.1 q hq)), h.len, h.nil, h.cap, h.big⟩
theorem MsgAt.far {w w' : World} {z : Nat} {a a5 : Option Addr} {n c : Nat} {M : List Pk} (h : MsgAt w a n c M) (hl : Lo z a5 a M) (hs : w.heap.size ≤ w'.heap.size) (hb : ∀ k, z ≤ k → w'.heap[k]? = w.heap[k]?) : MsgAt w' a n c M := by
  have ok : ∀ x ∈ M, PkOk w' x := fun x hx => by
    have p1 := (h.pk x hx).1
    exact ⟨p1.inr.kept hs (fun q hq _ => hb _ (hl.2.2 x hx q hq)), p1.len, p1.le, p1.big, p1.dg, p1.sn, p1.sv⟩
  refine ⟨?_, h.len, h.nil, h.cap, h.cap9, h.big, fun x hx => ⟨ok x hx, (h.pk x hx).2⟩⟩
  rcases h.inp with e | ⟨b, off, e, h1, h2⟩
  · exact .inl e
  · exact .inr ⟨b, off, e, Nat.lt_of_lt_of_le h1 hs, fun i x hx => ⟨(h2 i x hx).1.kept (hb b (hl.2.1 _ e)), ok x (List.mem_of_getElem? hx)⟩⟩
/-- the two boxes, rewritten by what few told -/
theorem fw_boxes {w W0 w1 : World} {b1 b2 : Nat} {P0 M0 : Array Value} {r s k f t x : Int} {y : Bool} {a5 a9 : Option Addr} {m5 c5 m9 c9 : Nat} {DT : List Int} {L M : List Pk}
    (hb0 : Below w.heap.size w W0) (hq1 : W0.heap[b1]? = some (.cells P0 24)) (hq2 : W0.heap[b2]? = some (.cells M0 27)) (hne : b1 ≠ b2) (hw1 : w.heap.size ≤ b1) (hw2 : w.heap.size ≤ b2)
    (oz : OwnZ w1 W0.heap.size (.slice a5 m5 c5) DT) (hF : Few w1 W0.heap.size (.slice a9 m9 c9) L M) (hp : PrtAt w1 a5 m5 c5 DT) (hm : MsgAt w1 a9 m9 c9 M) (hb : Below W0.heap.size W0 w1) :
    w1.heap[b1]? = some (.cells P0 24) ∧ (w1.setRow b1 #[.int .i64 r, .int .i64 s, .slice a5 m5 c5]).heap[b2]? = some (.cells M0 27) ∧
    ∃ w2, w2 = (w1.setRow b1 #[.int .i64 r, .int .i64 s, .slice a5 m5 c5]).setRow b2 #[.int .i64 k, .int .i64 f, .int .i64 t, .int .i64 x, .bool y, .slice a9 m9 c9] ∧ Bx w2 b1 r s a5 m5 c5 ∧ Bm w2 b2 k f t x y a9 m9 c9 ∧ PrtAt w2 a5 m5 c5 DT ∧ MsgAt w2 a9 m9 c9 M ∧ Below w.heap.size w w2 ∧ Lo W0.heap.size a5 a9 M := by
  have l1 := lt_of_heapK hq1
  have l2 := lt_of_heapK hq2
  have p1 := (hb.block b1 l1).trans hq1
  have p2 := (setRow_other w1 b1 b2 #[.int .i64 r, .int .i64 s, .slice a5 m5 c5] (fun e => hne e.symm)).trans ((hb.block b2 l2).trans hq2)
  refine ⟨p1, p2, _, rfl, ?_, ?_, ?_, ?_, ?_, ?_⟩
  · exact (setRow_other _ _ _ _ hne).trans (setRow_heap _ _ _ _ _ _ p1)
  · exact setRow_heap _ _ _ _ _ _ p2
  · have off : ∀ q, W0.heap.size ≤ q → ((w1.setRow b1 #[.int .i64 r, .int .i64 s, .slice a5 m5 c5]).setRow b2 #[.int .i64 k, .int .i64 f, .int .i64 t, .int .i64 x, .bool y, .slice a9 m9 c9]).heap[q]? = w1.heap[q]? := fun q hq => (setRow_other _ _ _ _ (by omega)).trans (setRow_other _ _ _ _ (by omega))
    refine ⟨hp.inz.kept (by rw [setRow_size, setRow_size]; exact Nat.le_refl _) (fun q hq hl => off _ ?_), hp.len, hp.nil, hp.cap, hp.big⟩
    exact (oz.own q.block (by rw [hq]; rfl)).1
  · have off : ∀ q, W0.heap.size ≤ q → ((w1.setRow b1 #[.int .i64 r, .int .i64 s, .slice a5 m5 c5]).setRow b2 #[.int .i64 k, .int .i64 f, .int .i64 t, .int .i64 x, .bool y, .slice a9 m9 c9]).heap[q]? = w1.heap[q]? := fun q hq => (setRow_other _ _ _ _ (by omega)).trans (setRow_other _ _ _ _ (by omega))
    have hF2 := few_end (w' := (w1.setRow b1 #[.int .i64 r, .int .i64 s, .slice a5 m5 c5]).setRow b2 #[.int .i64 k, .int .i64 f, .int .i64 t, .int .i64 x, .bool y, .slice a9 m9 c9]) hF (Nat.le_refl _) (by rw [setRow_size, setRow_size]; exact Nat.le_refl _) off
    obtain ⟨a', c', e, h, _⟩ := hF2.1.slice (fun x hx => (hF2.2.2 x hx).1)
    injection e with e1 e2 e3
    subst e1
    exact ⟨h, hm.len, hm.nil, hm.cap, hm.cap9, hm.big, fun x hx => ⟨(hF2.2.2 x hx).1, (hm.pk x hx).2⟩⟩
  · refine hb0.trans ⟨hb.os, hb.tape, hb.output, by rw [setRow_size, setRow_size]; exact hb.size, fun q hq => ?_⟩
    exact (setRow_other _ _ _ _ (by omega)).trans ((setRow_other _ _ _ _ (by omega)).trans (hb.block q (by have := hb0.size; omega)))
  · refine ⟨fun q hq => (oz.own q.block (by rw [hq]; rfl)).1, fun q hq => (hF.1.own q.block (by rw [hq]; rfl)).1, fun x hx q hq => ((hF.2.2 x hx).2.1 q hq).1⟩
end Go.Proofs.Ytmokonaodoiflaa
