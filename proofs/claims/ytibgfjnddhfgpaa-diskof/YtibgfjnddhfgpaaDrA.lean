/- The document's disk in memory. -/
import Derived.Test.YtibgfjnddhfgpaaDkG
import Derived.Deep.AppendLies
namespace Go.Proofs.Ytibgfjnddhfgpaa
open Go.ChangeShapes Go.WideShapes Go.ChangeAt Go.RowKit Go.Deep Go.Maps
set_option linter.unusedVariables false
/-- a write that waits: its block, its bytes -/
abbrev Sw := Int × List Int
def scl (x : Sw) : List Value := [.int .i64 x.1, sT x.2]
def scs (l : List Sw) : List Value := l.flatMap scl
theorem scs_len (l : List Sw) : (scs l).length = l.length * 2 := by
  induction l with
  | nil => rfl
  | cons x l ih => simp only [scs, List.flatMap_cons, List.length_append, List.length_cons] at ih ⊢; rw [ih]; simp [scl]; omega
theorem scs_at (l : List Sw) (i : Nat) (x : Sw) (h : l[i]? = some x) (k : Nat) (hk : k < 2) : (scs l)[i * 2 + k]? = (scl x)[k]? := by
  induction l generalizing i with
  | nil => simp at h
  | cons y l ih =>
    cases i with
    | zero =>
      simp at h
      subst h
      simp only [scs, List.flatMap_cons, Nat.zero_mul, Nat.zero_add]
      rw [List.getElem?_append_left (by simp [scl]; omega)]
    | succ i =>
      simp only [List.getElem?_cons_succ] at h
      have := ih i h
      simp only [scs, List.flatMap_cons] at this ⊢
      rw [List.getElem?_append_right (by simp [scl]; omega), ← this]
      congr 1
      simp [scl]
      omega
/-- a slice of them of one's own -/
def OwnN (w : World) (base : Nat) (v : Value) (l : List Sw) : Prop := w.ownsRow base 88 2 v l.length (scs l)
theorem OwnN.nil (w : World) (base : Nat) : OwnN w base (.slice none 0 0) [] := World.ownsRow_nil _ _ _ _
theorem OwnN.own {w : World} {base : Nat} {v : Value} {l : List Sw} (h : OwnN w base v l) : ∀ k, v.ownBlock = some k → base ≤ k ∧ k < w.heap.size := fun k hk => World.ownsRow.lt h k hk
theorem OwnN.kept {w w' : World} {base : Nat} {v : Value} {l : List Sw} (h : OwnN w base v l) (hb : ∀ k, v.ownBlock = some k → w'.heap[k]? = w.heap[k]?) : OwnN w' base v l := ownsRow_kept h hb
theorem OwnN.at {w : World} {base : Nat} {v : Value} {l : List Sw} (h : OwnN w base v l) (k : Nat) (hk : v.ownBlock = some k) : ∃ cs, w.heap[k]? = some (.cells cs 88) := by
  rcases h.2 with ⟨rfl, _⟩ | ⟨g, cap, cur, rfl, _, hgb, _⟩
  · simp [Value.ownBlock] at hk
  · have : g = k := by simpa [Value.ownBlock] using hk
    subst this
    exact ⟨cur, hgb⟩
/-- an element's two cells -/
theorem OwnN.cells {w : World} {base : Nat} {v : Value} {l : List Sw} (h : OwnN w base v l) (i : Nat) (x : Sw) (hx : l[i]? = some x) : ∃ g c, v = .slice (some ⟨g, 0, none⟩) l.length c ∧ w.cell? ⟨g, i * 2, none⟩ = some (.int .i64 x.1) ∧ w.cell? ⟨g, i * 2 + 1, none⟩ = some (.string (strOfNums x.2)) := by
  have hi := (List.getElem?_eq_some_iff.1 hx).1
  rcases h.2 with ⟨_, hn⟩ | ⟨g, cap, cur, rfl, _⟩
  · omega
  · refine ⟨g, cap, rfl, ?_, ?_⟩
    · have := World.ownsRow.cellAt h (i * 2) (by omega)
      rw [this]
      exact scs_at l i x hx 0 (by omega)
    · have := World.ownsRow.cellAt h (i * 2 + 1) (by omega)
      rw [this]
      exact scs_at l i x hx 1 (by omega)
theorem OwnN.form {w : World} {base : Nat} {v : Value} {l : List Sw} (h : OwnN w base v l) : ∃ a c, v = .slice a l.length c := by
  rcases h.2 with ⟨e, h0⟩ | ⟨g, c, cur, e, _⟩
  · exact ⟨none, 0, by rw [e]; congr 1; exact h0.symm⟩
  · exact ⟨_, c, e⟩
theorem RowT.form {w : World} {base : Nat} {v : Value} {l : List (List Int)} (h : RowT w base v l) : ∃ a c, v = .slice a l.length c := by
  rcases h.2 with ⟨e, h0⟩ | ⟨g, c, cur, e, _⟩
  · exact ⟨none, 0, by rw [e]; congr 1; exact h0.symm⟩
  · exact ⟨_, c, e⟩
theorem RowT.cell {w : World} {base : Nat} {v : Value} {l : List (List Int)} (h : RowT w base v l) (i : Nat) (x : List Int) (hx : l[i]? = some x) : ∃ g c, v = .slice (some ⟨g, 0, none⟩) l.length c ∧ w.cell? ⟨g, i, none⟩ = some (.string (strOfNums x)) := by
  have hi := (List.getElem?_eq_some_iff.1 hx).1
  rcases h.2 with ⟨_, hn⟩ | ⟨g, cap, cur, rfl, _⟩
  · omega
  · refine ⟨g, cap, rfl, ?_⟩
    rw [World.ownsRow.cellAt h i (by omega), List.getElem?_map, hx]
    rfl
/-- the writes of a block -/
def sel (L : List Sw) (i : Int) : List (List Int) := (L.filter fun x => decide (x.1 = i)).map (·.2)
theorem sel_nil (i : Int) : sel [] i = [] := rfl
theorem sel_snoc (L : List Sw) (x : Sw) (i : Int) : sel (L ++ [x]) i = sel L i ++ (if x.1 = i then [x.2] else []) := by
  unfold sel
  rw [List.filter_append, List.map_append]
  by_cases h : x.1 = i <;> simp [h]
theorem sel_take (L : List Sw) (k : Nat) (x : Sw) (h : L[k]? = some x) (i : Int) : sel (L.take (k + 1)) i = sel (L.take k) i ++ (if x.1 = i then [x.2] else []) := by
  obtain ⟨hk, rfl⟩ := List.getElem?_eq_some_iff.1 h
  rw [List.take_succ_eq_append_getElem hk, sel_snoc]
theorem sel_len (L : List Sw) (i : Int) : (sel L i).length ≤ L.length := by
  unfold sel
  rw [List.length_map]
  exact List.length_filter_le _ _
/-- block b is the document's disk: durable B, the writes L -/
structure RkP (w : World) (b : Nat) (B : List (List Int)) (L : List Sw) (down : Bool) (done fuse : Int) (vB vL : Value) : Prop where
  cell : w.heap[b]? = some (.cells #[vB, vL, .int .i64 fuse, .bool down, .int .i64 done] 69)
  dur : RowT w 0 vB B
  wts : OwnN w 0 vL L
def RFp (b : Nat) (vB vL : Value) (k : Nat) : Prop := k = b ∨ vB.ownBlock = some k ∨ vL.ownBlock = some k
theorem RkP.lt {w : World} {b : Nat} {B : List (List Int)} {L : List Sw} {down : Bool} {done fuse : Int} {vB vL : Value} (h : RkP w b B L down done fuse vB vL) (k : Nat) (hk : RFp b vB vL k) : k < w.heap.size := by
  rcases hk with e | e | e
  · rw [e]; exact (Array.getElem?_eq_some_iff.1 h.cell).1
  · exact (h.dur.own k e).2
  · exact (h.wts.own k e).2
theorem RkP.off {w : World} {b : Nat} {B : List (List Int)} {L : List Sw} {down : Bool} {done fuse : Int} {vB vL : Value} (h : RkP w b B L down done fuse vB vL) : (∀ k, vB.ownBlock = some k → k ≠ b ∧ vL.ownBlock ≠ some k) ∧ (∀ k, vL.ownBlock = some k → k ≠ b) := by
  refine ⟨fun k hk => ⟨?_, fun e => ?_⟩, fun k hk => ?_⟩
  · rintro rfl
    obtain ⟨cs, hcs⟩ := h.dur.at k hk
    rw [h.cell] at hcs
    simp at hcs
  · obtain ⟨cs, hcs⟩ := h.dur.at k hk
    obtain ⟨cs2, hcs2⟩ := h.wts.at k e
    rw [hcs] at hcs2
    simp at hcs2
  · rintro rfl
    obtain ⟨cs, hcs⟩ := h.wts.at k hk
    rw [h.cell] at hcs
    simp at hcs
theorem RkP.kept {w w' : World} {b : Nat} {B : List (List Int)} {L : List Sw} {down : Bool} {done fuse : Int} {vB vL : Value} (h : RkP w b B L down done fuse vB vL) (hb : ∀ k, RFp b vB vL k → w'.heap[k]? = w.heap[k]?) : RkP w' b B L down done fuse vB vL :=
  ⟨(hb b (.inl rfl)).trans h.cell, h.dur.kept fun k hk => hb k (.inr (.inl hk)), h.wts.kept fun k hk => hb k (.inr (.inr hk))⟩
/-- the five cells -/
theorem r5_of {w : World} {b : Nat} {v0 v1 : Value} {fuse done : Int} {down : Bool} {t : TypeId} (h : w.heap[b]? = some (.cells #[v0, v1, .int .i64 fuse, .bool down, .int .i64 done] t)) : w.cell? ⟨b, 0, none⟩ = some v0 ∧ w.cell? ⟨b, 1, none⟩ = some v1 ∧ w.cell? ⟨b, 2, none⟩ = some (.int .i64 fuse) ∧ w.cell? ⟨b, 3, none⟩ = some (.bool down) ∧ w.cell? ⟨b, 4, none⟩ = some (.int .i64 done) := by
  refine ⟨?_, ?_, ?_, ?_, ?_⟩ <;> simp [World.cell?, h]
/-- only the disk's own five cells change -/
theorem RkP.fields {w w' : World} {b : Nat} {B : List (List Int)} {L : List Sw} {down down' : Bool} {done fuse done' fuse' : Int} {vB vL : Value} (h : RkP w b B L down done fuse vB vL) (hg : w.grownBy w' (some b))
    (hc : w'.heap[b]? = some (.cells #[vB, vL, .int .i64 fuse', .bool down', .int .i64 done'] 69)) : RkP w' b B L down' done' fuse' vB vL :=
  ⟨hc, h.dur.kept fun k hk => hg.block k (h.dur.own k hk).2 (by have := (h.off.1 k hk).1; simpa using this), h.wts.kept fun k hk => hg.block k (h.wts.own k hk).2 (by have := h.off.2 k hk; simpa using this)⟩
end Go.Proofs.Ytibgfjnddhfgpaa
