/- The parts of a disk, and its blocks. -/
import Derived.Test.YtibgfjnddhfgpaaDkT
namespace Go.Proofs.Ytibgfjnddhfgpaa
open Go.ChangeShapes Go.WideShapes Go.ChangeAt Go.RowKit Go.Deep Go.Maps
set_option linter.unusedVariables false
theorem OwnB.at {w : World} {base : Nat} {v : Value} {B : List (List Int)} (h : OwnB w base v B) (k : Nat) (hk : v.ownBlock = some k) : ∃ cs, w.heap[k]? = some (.cells cs 75) := by
  rcases h.2 with ⟨rfl, _⟩ | ⟨g, cap, cur, rfl, _, hgb, _⟩
  · simp [Value.ownBlock] at hk
  · have : g = k := by simpa [Value.ownBlock] using hk
    subst this
    exact ⟨cur, hgb⟩
theorem Sc.at {w : World} {b n : Nat} {T : Int → Option Hd} (h : Sc w b n T) : ∃ es c, w.heap[b]? = some (.map es c) := by
  obtain ⟨D, hm, _⟩ := h
  obtain ⟨es, v, hmb, _⟩ := hm
  exact ⟨es, v, hmb⟩
theorem own_hv (g n c : Nat) : (hv (g + 1, n, c)).ownBlock = some g := rfl
/-- the parts of DkAt -/
structure DkP (w : World) (h b N : Nat) (D : List (List Int)) (W : Int → List (List Int)) (up : Bool) (done fuse : Int) (gd cd mb : Nat) (H : Int → Option Hd) : Prop where
  hb : h ≤ b
  hm : h ≤ mb
  cell : w.heap[b]? = some (.cells #[.slice (some ⟨gd, 0, none⟩) D.length cd, .map (some mb), .bool up, .int .i64 done, .int .i64 fuse] 72)
  dur : OwnB w h (.slice (some ⟨gd, 0, none⟩) D.length cd) D
  is64 : Is64 D
  mp : Sc w mb N H
  nil : ∀ i, H i = none ↔ W i = []
  row : ∀ i x, H i = some x → InI i ∧ (∃ g c, x = (g + 1, (W i).length, c) ∧ g ≠ gd) ∧ OwnB w h (hv x) (W i) ∧ Is64 (W i)
  apart : ∀ i j x y, i ≠ j → H i = some x → H j = some y → x.1 ≠ y.1
theorem DkP.of {w : World} {h b N : Nat} {D : List (List Int)} {W : Int → List (List Int)} {up : Bool} {done fuse : Int} (H : DkAt w h b N D W up done fuse) : ∃ gd cd mb T, DkP w h b N D W up done fuse gd cd mb T := by
  obtain ⟨gd, cd, mb, T, a1, a2, a3, a4, a5, a6, a7, a8, a9⟩ := H
  exact ⟨gd, cd, mb, T, a1, a2, a3, a4, a5, a6, a7, a8, a9⟩
theorem DkP.to {w : World} {h b N : Nat} {D : List (List Int)} {W : Int → List (List Int)} {up : Bool} {done fuse : Int} {gd cd mb : Nat} {T : Int → Option Hd} (H : DkP w h b N D W up done fuse gd cd mb T) : DkAt w h b N D W up done fuse :=
  ⟨gd, cd, mb, T, H.hb, H.hm, H.cell, H.dur, H.is64, H.mp, H.nil, H.row, H.apart⟩
/-- the slice of a block's writes -/
theorem DkP.writes {w : World} {h b N : Nat} {D : List (List Int)} {W : Int → List (List Int)} {up : Bool} {done fuse : Int} {gd cd mb : Nat} {T : Int → Option Hd} (H : DkP w h b N D W up done fuse gd cd mb T) (i : Int) : OwnB w h (hv ((T i).getD noH)) (W i) ∧ Is64 (W i) := by
  cases hT : T i with
  | none =>
    rw [(H.nil i).1 hT]
    exact ⟨OwnB.nil _ _, fun x hx => by cases hx⟩
  | some x => exact (H.row i x hT).2.2
/-- its block is apart from the disk's others -/
theorem DkP.off {w : World} {h b N : Nat} {D : List (List Int)} {W : Int → List (List Int)} {up : Bool} {done fuse : Int} {gd cd mb : Nat} {T : Int → Option Hd} (H : DkP w h b N D W up done fuse gd cd mb T) (i : Int) (k : Nat) (hk : (hv ((T i).getD noH)).ownBlock = some k) :
    k < w.heap.size ∧ k ≠ b ∧ k ≠ mb ∧ k ≠ gd ∧ h ≤ k ∧ ∀ j y, j ≠ i → T j = some y → y.1 ≠ k + 1 := by
  have ho := (H.writes i).1
  obtain ⟨cs, hcs⟩ := ho.at k hk
  obtain ⟨es, c, hm⟩ := H.mp.at
  refine ⟨(ho.own k hk).2, ?_, ?_, ?_, (ho.own k hk).1, ?_⟩
  · rintro rfl
    rw [H.cell] at hcs
    simp at hcs
  · rintro rfl
    rw [hm] at hcs
    cases hcs
  · cases hT : T i with
    | none => rw [hT] at hk; simp [hv, noH, Value.ownBlock] at hk
    | some x =>
      obtain ⟨_, ⟨g, c, rfl, hg⟩, _⟩ := H.row i x hT
      rw [hT] at hk
      have : g = k := by simpa [hv, Value.ownBlock] using hk
      subst this
      exact hg
  · intro j y hj hy e
    cases hT : T i with
    | none => rw [hT] at hk; simp [hv, noH, Value.ownBlock] at hk
    | some x =>
      have := H.apart j i y x hj hy hT
      obtain ⟨_, ⟨g, c, rfl, hg⟩, _⟩ := H.row i x hT
      rw [hT] at hk
      have e2 : g = k := by simpa [hv, Value.ownBlock] using hk
      subst e2
      exact this e
theorem DkP.apart3 {w : World} {h b N : Nat} {D : List (List Int)} {W : Int → List (List Int)} {up : Bool} {done fuse : Int} {gd cd mb : Nat} {T : Int → Option Hd} (H : DkP w h b N D W up done fuse gd cd mb T) : b ≠ mb ∧ gd ≠ mb ∧ gd < w.heap.size ∧ b < w.heap.size ∧ mb < w.heap.size := by
  obtain ⟨es, c, hm⟩ := H.mp.at
  obtain ⟨cs, hd⟩ := H.dur.at gd rfl
  refine ⟨?_, ?_, (H.dur.own gd rfl).2, (Array.getElem?_eq_some_iff.1 H.cell).1, (Array.getElem?_eq_some_iff.1 hm).1⟩
  · rintro rfl
    rw [H.cell] at hm
    cases hm
  · rintro rfl
    rw [hd] at hm
    cases hm
theorem DkP.apart4 {w : World} {h b N : Nat} {D : List (List Int)} {W : Int → List (List Int)} {up : Bool} {done fuse : Int} {gd cd mb : Nat} {T : Int → Option Hd} (H : DkP w h b N D W up done fuse gd cd mb T) : b ≠ gd := by
  obtain ⟨cs, hd⟩ := H.dur.at gd rfl
  rintro rfl
  rw [H.cell] at hd
  simp at hd
/-- the blocks of a disk -/
def Fp (b gd mb : Nat) (T : Int → Option Hd) (k : Nat) : Prop := k = b ∨ k = gd ∨ k = mb ∨ ∃ i x, T i = some x ∧ x.1 = k + 1
/-- only what is in F, or is new, has changed -/
structure Off (F : Nat → Prop) (w w' : World) : Prop where
  os : w'.os = w.os
  tape : w'.tape = w.tape
  output : w'.output = w.output
  size : w.heap.size ≤ w'.heap.size
  block : ∀ k, k < w.heap.size → ¬ F k → w'.heap[k]? = w.heap[k]?
theorem Off.refl (F : Nat → Prop) (w : World) : Off F w w := ⟨rfl, rfl, rfl, Nat.le_refl _, fun _ _ _ => rfl⟩
theorem Off.grown {F : Nat → Prop} {a w w' : World} {row : Option Nat} (h : Off F a w) (hg : w.grownBy w' row) (hr : ∀ k, row = some k → F k ∨ a.heap.size ≤ k) : Off F a w' :=
  ⟨hg.os.trans h.os, hg.tape.trans h.tape, hg.output.trans h.output, Nat.le_trans h.size hg.size, fun k hk hF => (hg.block k (Nat.lt_of_lt_of_le hk h.size) (fun e => by
    rcases hr k e.symm with h1 | h1
    · exact hF h1
    · omega)).trans (h.block k hk hF)⟩
theorem Off.andBelow {F : Nat → Prop} {a w w' : World} (h : Off F a w) (hb : Below w.heap.size w w') : Off F a w' :=
  ⟨hb.os.trans h.os, hb.tape.trans h.tape, hb.output.trans h.output, Nat.le_trans h.size hb.size, fun k hk hF => (hb.block k (Nat.lt_of_lt_of_le hk h.size)).trans (h.block k hk hF)⟩
theorem Off.trans {F G : Nat → Prop} {a w w' : World} (h : Off F a w) (g : Off G w w') (hG : ∀ k, G k → F k ∨ a.heap.size ≤ k) : Off F a w' :=
  ⟨g.os.trans h.os, g.tape.trans h.tape, g.output.trans h.output, Nat.le_trans h.size g.size, fun k hk hF => (g.block k (Nat.lt_of_lt_of_le hk h.size) (fun e => by
    rcases hG k e with h1 | h1
    · exact hF h1
    · omega)).trans (h.block k hk hF)⟩
theorem Off.below {F : Nat → Prop} {a w : World} {B : Nat} (h : Off F a w) (hF : ∀ k, F k → B ≤ k) (hB : B ≤ a.heap.size) : Below B a w :=
  ⟨h.os, h.tape, h.output, h.size, fun k hk => h.block k (by omega) (fun e => by have := hF k e; omega)⟩
theorem Off.ofBelow (F : Nat → Prop) {a w : World} (h : Below a.heap.size a w) : Off F a w := (Off.refl F a).andBelow h
theorem DkP.own_fp {w : World} {h b N : Nat} {D : List (List Int)} {W : Int → List (List Int)} {up : Bool} {done fuse : Int} {gd cd mb : Nat} {T : Int → Option Hd} (H : DkP w h b N D W up done fuse gd cd mb T) (i : Int) (k : Nat) (hk : (hv ((T i).getD noH)).ownBlock = some k) : Fp b gd mb T k := by
  cases hT : T i with
  | none => rw [hT] at hk; simp [hv, noH, Value.ownBlock] at hk
  | some x =>
    obtain ⟨_, ⟨g, c, rfl, hg⟩, _⟩ := H.row i x hT
    rw [hT] at hk
    have : g = k := by simpa [hv, Value.ownBlock] using hk
    subst this
    exact .inr (.inr (.inr ⟨i, _, hT, rfl⟩))
theorem DkP.fp_lt {w : World} {h b N : Nat} {D : List (List Int)} {W : Int → List (List Int)} {up : Bool} {done fuse : Int} {gd cd mb : Nat} {T : Int → Option Hd} (H : DkP w h b N D W up done fuse gd cd mb T) (k : Nat) (hk : Fp b gd mb T k) : k < w.heap.size ∧ h ≤ k := by
  obtain ⟨_, _, l1, l2, l3⟩ := H.apart3
  rcases hk with rfl | rfl | rfl | ⟨i, x, hT, hx⟩
  · exact ⟨l2, H.hb⟩
  · exact ⟨l1, (H.dur.own k rfl).1⟩
  · exact ⟨l3, H.hm⟩
  · obtain ⟨_, ⟨g, c, rfl, hg⟩, ho, _⟩ := H.row i x hT
    have e : g = k := by simpa using hx
    subst e
    have := ho.own g rfl
    exact ⟨this.2, this.1⟩
/-- a disk in a world where its blocks are as they were -/
theorem DkP.kept {w w' : World} {h b N : Nat} {D : List (List Int)} {W : Int → List (List Int)} {up : Bool} {done fuse : Int} {gd cd mb : Nat} {T : Int → Option Hd} (H : DkP w h b N D W up done fuse gd cd mb T) (hs : w.heap.size ≤ w'.heap.size) (hb : ∀ k, Fp b gd mb T k → w'.heap[k]? = w.heap[k]?) (ho : w'.os = w.os) (ht : w'.tape = w.tape) (hp : w'.output = w.output) : DkP w' h b N D W up done fuse gd cd mb T := by
  obtain ⟨n1, n2, l1, l2, l3⟩ := H.apart3
  refine ⟨H.hb, H.hm, (hb b (.inl rfl)).trans H.cell, H.dur.block fun k hk => ?_, H.is64, ?_, H.nil, fun i x hx => ?_, H.apart⟩
  · have : gd = k := by simpa [Value.ownBlock] using hk
    subst this
    exact hb _ (.inr (.inl rfl))
  · obtain ⟨D', h1, h2⟩ := H.mp
    refine ⟨D', ?_, h2⟩
    obtain ⟨es, clock, hm, rest⟩ := h1
    exact ⟨es, clock, (hb mb (.inr (.inr (.inl rfl)))).trans hm, rest⟩
  · obtain ⟨a1, a2, a3, a4⟩ := H.row i x hx
    refine ⟨a1, a2, a3.block fun k hk => ?_, a4⟩
    exact hb k (H.own_fp i k (by rw [hx]; exact hk))
end Go.Proofs.Ytibgfjnddhfgpaa
