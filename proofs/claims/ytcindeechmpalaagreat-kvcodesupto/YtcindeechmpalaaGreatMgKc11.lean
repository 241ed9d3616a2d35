/- A log in memory; Waiting, Used, Room, Records. A log's slices, laid anew; Add. append onto a slice of bytes of one's own: bytes, a text; with where the new slice lies and what else changed (as MemA, texts as they are). Changes (api.Put) in memory: slices that may be read, slices of one's own. -/
import Derived.Test.YtcindeechmpalaaGreatMgKc10
import Derived.Deep.RegionHeld3
import Derived.Test.YtcindeechmpalaaGreatMgKc3
import Derived.Lib.AppendStr
import Derived.ArgAppend
import Derived.OwnWalk
namespace Go.Proofs.YtcindeechmpalaaGreat
open Go.ChangeShapes Go.WideShapes Go.ChangeAt Go.RowKit Go.Deep Go.Maps
set_option linter.unusedVariables false
/-- the plain log, without its disk -/
structure Lg where
  m : Nat
  no : Nat
  ar : Nat
  R : List (List Int)
  W : List (List Int)
  lost : Bool
def Lg.ln (l : Lg) : Nat := (joinL l.R).length
structure Lg.Ok (l : Lg) (N : Nat) : Prop where
  m : l.m ≤ 2047
  no : l.no ≤ 1152921504606846976 + N
  ar : l.ar ≤ 1
  room : l.ln + (joinL l.W).length ≤ 64 * l.m
  rb : ∀ B ∈ l.R, IsBytes B ∧ B.length ≤ 4096
  wb : ∀ B ∈ l.W, IsBytes B ∧ B.length ≤ 4096
theorem joinL_count : ∀ (Bs : List (List Int)), 8 * Bs.length ≤ (joinL Bs).length
  | [] => Nat.zero_le _
  | B :: Bs => by
    have := joinL_count Bs
    rw [joinL, List.length_append, frameL_length, List.length_cons]
    omega
theorem Lg.Ok.few {l : Lg} {N : Nat} (h : l.Ok N) : l.R.length ≤ 16376 ∧ l.W.length ≤ 16376 ∧ l.ln ≤ 131008 ∧ (joinL l.W).length ≤ 131008 := by
  have h1 := joinL_count l.R
  have h2 := joinL_count l.W
  have h3 := h.room
  have h4 := h.m
  unfold Lg.ln at *
  omega
theorem Lg.Ok.more {l : Lg} {N N' : Nat} (h : l.Ok N) (hN : N ≤ N') : l.Ok N' := ⟨h.m, by have := h.no; omega, h.ar, h.room, h.rb, h.wb⟩
/-- the parts of a log in memory -/
structure LmP (w : World) (bl bd : Nat) (l : Lg) (vr vw vf : Value) : Prop where
  cell : LgC w bl bd l.m l.no l.ar l.ln vr vw vf l.lost
  recs : RowsS w 0 vr l.R
  wait : RowsS w 0 vw l.W
  frs : Owned w 0 vf (joinL l.W)
  apart : ∀ k, vr.ownBlock = some k → vw.ownBlock ≠ some k
/-- its blocks -/
def Lf (bl : Nat) (vr vw vf : Value) (k : Nat) : Prop := k = bl ∨ vr.ownBlock = some k ∨ vw.ownBlock = some k ∨ vf.ownBlock = some k
/-- block bl is the log l of the disk in block bd; G are its blocks -/
def Lm (w : World) (G : Nat → Prop) (bl bd : Nat) (l : Lg) : Prop := ∃ vr vw vf, LmP w bl bd l vr vw vf ∧ ∀ k, G k ↔ Lf bl vr vw vf k
theorem LmP.lt {w : World} {bl bd : Nat} {l : Lg} {vr vw vf : Value} (h : LmP w bl bd l vr vw vf) (k : Nat) (hk : Lf bl vr vw vf k) : k < w.heap.size := by
  rcases hk with rfl | hk | hk | hk
  · exact h.cell.lt
  · exact h.recs.lt k hk
  · exact h.wait.lt k hk
  · exact Owned.lt' h.frs k hk
theorem Lm.lt {w : World} {G : Nat → Prop} {bl bd : Nat} {l : Lg} (h : Lm w G bl bd l) : ∀ k, G k → k < w.heap.size := by
  obtain ⟨vr, vw, vf, p, hG⟩ := h
  exact fun k hk => p.lt k ((hG k).1 hk)
theorem Lm.b {w : World} {G : Nat → Prop} {bl bd : Nat} {l : Lg} (h : Lm w G bl bd l) : G bl := by
  obtain ⟨vr, vw, vf, p, hG⟩ := h
  exact (hG bl).2 (.inl rfl)
theorem LmP.kept {w w' : World} {bl bd : Nat} {l : Lg} {vr vw vf : Value} (h : LmP w bl bd l vr vw vf) (hb : ∀ k, Lf bl vr vw vf k → w'.heap[k]? = w.heap[k]?) : LmP w' bl bd l vr vw vf :=
  ⟨(hb bl (.inl rfl)).trans h.cell, h.recs.kept fun k hk => hb k (.inr (.inl hk)), h.wait.kept fun k hk => hb k (.inr (.inr (.inl hk))), owned_kept h.frs fun k hk => hb k (.inr (.inr (.inr hk))), h.apart⟩
theorem Lm.kept {w w' : World} {G : Nat → Prop} {bl bd : Nat} {l : Lg} (h : Lm w G bl bd l) (hb : ∀ k, G k → w'.heap[k]? = w.heap[k]?) : Lm w' G bl bd l := by
  obtain ⟨vr, vw, vf, p, hG⟩ := h
  exact ⟨vr, vw, vf, p.kept fun k hk => hb k ((hG k).2 hk), hG⟩
theorem Lm.keep {w w' : World} {G : Nat → Prop} {bl bd : Nat} {l : Lg} (h : Lm w G bl bd l) (hb : Below w.heap.size w w') : Lm w' G bl bd l := h.kept fun k hk => hb.block k (h.lt k hk)
theorem Lm.apart {w w' : World} {F G : Nat → Prop} {bl bd : Nat} {l : Lg} (h : Lm w G bl bd l) (ho : Off F w w') (hd : ∀ k, G k → ¬ F k) : Lm w' G bl bd l := h.kept fun k hk => ho.block k (h.lt k hk) (hd k hk)
theorem cells_type {w : World} {base e n : Nat} {v : Value} {xs : List Value} (h : w.ownsRow base e 1 v n xs) (k : Nat) (hk : v.ownBlock = some k) : ∃ cs, w.heap[k]? = some (.cells cs e) := by
  rcases h.2 with ⟨rfl, _⟩ | ⟨g, cap, cur, rfl, _, hgb, _⟩
  · simp [Value.ownBlock] at hk
  · have : g = k := by simpa [Value.ownBlock] using hk
    subst this
    exact ⟨cur, hgb⟩
/-- its blocks are unlike one another -/
theorem LmP.offs {w : World} {bl bd : Nat} {l : Lg} {vr vw vf : Value} (h : LmP w bl bd l vr vw vf) : (∀ k, vr.ownBlock = some k → k ≠ bl ∧ vf.ownBlock ≠ some k) ∧ (∀ k, vw.ownBlock = some k → k ≠ bl ∧ vf.ownBlock ≠ some k) ∧ (∀ k, vf.ownBlock = some k → k ≠ bl) := by
  have hc : w.heap[bl]? = some (lgO bd l.m l.no l.ar l.ln vr vw vf l.lost) := h.cell
  refine ⟨fun k hk => ⟨?_, fun hf => ?_⟩, fun k hk => ⟨?_, fun hf => ?_⟩, fun k hk => ?_⟩
  · rintro rfl
    obtain ⟨cs, hx⟩ := cells_type h.recs k hk
    rw [hc] at hx
    simp [lgO] at hx
  · obtain ⟨cs, hx⟩ := cells_type h.recs k hk
    obtain ⟨ds, hy⟩ := cells_type h.frs k hf
    rw [hx] at hy
    simp at hy
  · rintro rfl
    obtain ⟨cs, hx⟩ := cells_type h.wait k hk
    rw [hc] at hx
    simp [lgO] at hx
  · obtain ⟨cs, hx⟩ := cells_type h.wait k hk
    obtain ⟨ds, hy⟩ := cells_type h.frs k hf
    rw [hx] at hy
    simp at hy
  · rintro rfl
    obtain ⟨cs, hx⟩ := cells_type h.frs k hk
    rw [hc] at hx
    simp [lgO] at hx
def Lg.room (l : Lg) : Nat := 64 * l.m - l.ln - (joinL l.W).length
theorem wroom_is (w : World) (G : Nat → Prop) (bl bd N : Nat) (l : Lg) (h : Lm w G bl bd l) (hok : l.Ok N) : Calls Tryz.prog 110 #[.pointer (some ⟨bl, 0, none⟩)] w fun e w' => e = .returned (.int .i64 (l.room : Nat)) ∧ Below w.heap.size w w' := by
  obtain ⟨vr, vw, vf, p, hG⟩ := h
  have hm := hok.m
  have hf := hok.few
  have hr := hok.room
  have K : Hid (Calls Tryz.prog 72 #[.pointer (some ⟨bl, 0, none⟩)] w fun e w' => e = .returned (.bool false) ∧ w' = w) := isNone_no w bl bd p.cell.cells.c0
  have KS : Hid (∀ k, Calls Tryz.prog 88 #[.pointer (some ⟨bl, 0, none⟩)] (w.drewN k) fun e w' => e = .returned (.int .i64 (64 * (l.m : Int))) ∧ w' = w.drewN k) := fun k => wsize_is _ bl l.m (by omega) p.cell.cells.c1
  have c4 := p.cell.cells.c4
  have c7 := p.cell.cells.c7
  obtain ⟨a, c, rfl, _⟩ := p.frs.slice
  have e1 : ((l.room : Nat) : Int) = 64 * (l.m : Int) - (l.ln : Nat) - ((joinL l.W).length : Nat) := by unfold Lg.room; omega
  have E1 : Hid (((l.room : Nat) : Int) = 64 * (l.m : Int) - (l.ln : Nat) - ((joinL l.W).length : Nat)) := e1
  rw [e1]
  clear e1 p hG hok
  generalize (joinL l.W).length = y at *
  generalize l.ln = x at *
  go_enter Tryz.func110, Tryz.ntmps110
  go_wp2_with fail
  refine K.out.mono ?_
  rintro e w1 ⟨rfl, rfl⟩
  go_wp2_with fail
  go_quiet ((go_at_call 88; refine (KS.out _).mono ?_; exact fun _ _ h => ⟨h.1, _, h.2⟩))
  go_wp2_with fail
  go_ret
  exact ⟨rfl, below_drewN (Below.refl _ _) _⟩
theorem wrecords_is (w : World) (G : Nat → Prop) (bl bd N : Nat) (l : Lg) (h : Lm w G bl bd l) (hok : l.Ok N) : Calls Tryz.prog 38 #[.pointer (some ⟨bl, 0, none⟩)] w fun e w' => ∃ v, e = .returned v ∧ RowsS w' w.heap.size v l.R ∧ Below w.heap.size w w' := by
  obtain ⟨vr, vw, vf, p, hG⟩ := h
  have hf := hok.few
  have K : Hid (Calls Tryz.prog 72 #[.pointer (some ⟨bl, 0, none⟩)] w fun e w' => e = .returned (.bool false) ∧ w' = w) := isNone_no w bl bd p.cell.cells.c0
  have c5 := p.cell.cells.c5
  obtain ⟨a, c, rfl, ha, hin, _, _⟩ := p.recs.slice
  have KC : Hid (Calls Tryz.prog 73 #[.slice a l.R.length c] w fun e w' => ∃ v, e = .returned v ∧ RowsS w' w.heap.size v l.R ∧ Below w.heap.size w w') := cloneS_is w l.R _ c a rfl (by omega) (fun e => by have := ha e; rw [this.2]; exact ⟨rfl, this.1⟩) hin
  clear hin
  go_enter Tryz.func38, Tryz.ntmps38
  go_wp2_with fail
  refine K.out.mono ?_
  rintro e w1 ⟨rfl, rfl⟩
  go_wp2_with fail
  refine KC.out.mono ?_
  rintro e w2 ⟨v, rfl, hv, hb⟩
  have HV : Hid (RowsS w2 w1.heap.size v l.R ∧ Below w1.heap.size w1 w2) := ⟨hv, hb⟩
  clear hv hb
  go_wp2_with fail
  go_ret
  exact ⟨v, rfl, HV.out.1, HV.out.2⟩
end Go.Proofs.YtcindeechmpalaaGreat
namespace Go.Proofs.YtcindeechmpalaaGreat
open Go.ChangeShapes Go.WideShapes Go.ChangeAt Go.RowKit Go.Deep Go.Maps
set_option linter.unusedVariables false
/-- the parts of a log in memory, whatever its numbers and frames are -/
structure LmQ (w : World) (bl bd m no ar ln : Nat) (R W : List (List Int)) (Fr : List Int) (lost : Bool) (vr vw vf : Value) : Prop where
  cell : LgC w bl bd m no ar ln vr vw vf lost
  recs : RowsS w 0 vr R
  wait : RowsS w 0 vw W
  frs : Owned w 0 vf Fr
  apart : ∀ k, vr.ownBlock = some k → vw.ownBlock ≠ some k
theorem LmP.q {w : World} {bl bd : Nat} {l : Lg} {vr vw vf : Value} (h : LmP w bl bd l vr vw vf) : LmQ w bl bd l.m l.no l.ar l.ln l.R l.W (joinL l.W) l.lost vr vw vf := ⟨h.cell, h.recs, h.wait, h.frs, h.apart⟩
theorem LmQ.p {w : World} {bl bd : Nat} {l : Lg} {vr vw vf : Value} (h : LmQ w bl bd l.m l.no l.ar l.ln l.R l.W (joinL l.W) l.lost vr vw vf) : LmP w bl bd l vr vw vf := ⟨h.cell, h.recs, h.wait, h.frs, h.apart⟩
theorem LmQ.offs {w : World} {bl bd m no ar ln : Nat} {R W : List (List Int)} {Fr : List Int} {lost : Bool} {vr vw vf : Value} (h : LmQ w bl bd m no ar ln R W Fr lost vr vw vf) : (∀ k, vr.ownBlock = some k → k ≠ bl ∧ vf.ownBlock ≠ some k ∧ vw.ownBlock ≠ some k) ∧ (∀ k, vw.ownBlock = some k → k ≠ bl ∧ vf.ownBlock ≠ some k ∧ vr.ownBlock ≠ some k) ∧ (∀ k, vf.ownBlock = some k → k ≠ bl ∧ vr.ownBlock ≠ some k ∧ vw.ownBlock ≠ some k) := by
  have hc : w.heap[bl]? = some (lgO bd m no ar ln vr vw vf lost) := h.cell
  have t1 : ∀ k, vr.ownBlock = some k → vf.ownBlock ≠ some k := fun k hk hf => by
    obtain ⟨cs, hx⟩ := cells_type h.recs k hk
    obtain ⟨ds, hy⟩ := cells_type h.frs k hf
    rw [hx] at hy
    simp at hy
  have t2 : ∀ k, vw.ownBlock = some k → vf.ownBlock ≠ some k := fun k hk hf => by
    obtain ⟨cs, hx⟩ := cells_type h.wait k hk
    obtain ⟨ds, hy⟩ := cells_type h.frs k hf
    rw [hx] at hy
    simp at hy
  refine ⟨fun k hk => ⟨?_, t1 k hk, h.apart k hk⟩, fun k hk => ⟨?_, t2 k hk, fun hr => h.apart k hr hk⟩, fun k hk => ⟨?_, fun e => t1 k e hk, fun e => t2 k e hk⟩⟩
  · rintro rfl
    obtain ⟨cs, hx⟩ := cells_type h.recs k hk
    rw [hc] at hx
    simp [lgO] at hx
  · rintro rfl
    obtain ⟨cs, hx⟩ := cells_type h.wait k hk
    rw [hc] at hx
    simp [lgO] at hx
  · rintro rfl
    obtain ⟨cs, hx⟩ := cells_type h.frs k hk
    rw [hc] at hx
    simp [lgO] at hx
theorem LmQ.lt {w : World} {bl bd m no ar ln : Nat} {R W : List (List Int)} {Fr : List Int} {lost : Bool} {vr vw vf : Value} (h : LmQ w bl bd m no ar ln R W Fr lost vr vw vf) (k : Nat) (hk : Lf bl vr vw vf k) : k < w.heap.size := by
  rcases hk with rfl | hk | hk | hk
  · exact h.cell.lt
  · exact h.recs.lt k hk
  · exact h.wait.lt k hk
  · exact Owned.lt' h.frs k hk
theorem LmQ.kept {w w' : World} {bl bd m no ar ln : Nat} {R W : List (List Int)} {Fr : List Int} {lost : Bool} {vr vw vf : Value} (h : LmQ w bl bd m no ar ln R W Fr lost vr vw vf) (hb : ∀ k, Lf bl vr vw vf k → w'.heap[k]? = w.heap[k]?) : LmQ w' bl bd m no ar ln R W Fr lost vr vw vf :=
  ⟨(hb bl (.inl rfl)).trans h.cell, h.recs.kept fun k hk => hb k (.inr (.inl hk)), h.wait.kept fun k hk => hb k (.inr (.inr (.inl hk))), owned_kept h.frs fun k hk => hb k (.inr (.inr (.inr hk))), h.apart⟩
theorem LmQ.keep {w w' : World} {bl bd m no ar ln : Nat} {R W : List (List Int)} {Fr : List Int} {lost : Bool} {vr vw vf : Value} (h : LmQ w bl bd m no ar ln R W Fr lost vr vw vf) (hb : Below w.heap.size w w') : LmQ w' bl bd m no ar ln R W Fr lost vr vw vf := h.kept fun k hk => hb.block k (h.lt k hk)
theorem LgC.setR {w : World} {bl bd m no ar ln : Nat} {vr vw vf : Value} {lost : Bool} (h : LgC w bl bd m no ar ln vr vw vf lost) (v : Value) : LgC (w.setCell ⟨bl, 5, none⟩ v) bl bd m no ar ln v vw vf lost := heap_setCell_same _ h
theorem LgC.setW {w : World} {bl bd m no ar ln : Nat} {vr vw vf : Value} {lost : Bool} (h : LgC w bl bd m no ar ln vr vw vf lost) (v : Value) : LgC (w.setCell ⟨bl, 6, none⟩ v) bl bd m no ar ln vr v vf lost := heap_setCell_same _ h
theorem LgC.setF {w : World} {bl bd m no ar ln : Nat} {vr vw vf : Value} {lost : Bool} (h : LgC w bl bd m no ar ln vr vw vf lost) (v : Value) : LgC (w.setCell ⟨bl, 7, none⟩ v) bl bd m no ar ln vr vw v lost := heap_setCell_same _ h
theorem gB_refl (w : World) (row : Option Nat) : w.grownBy w row := ⟨rfl, rfl, rfl, Nat.le_refl _, fun _ _ _ => rfl⟩
theorem off_set {G : Nat → Prop} {w w1 : World} {bl i : Nat} {v : Value} (h : Off G w w1) (hG : G bl) : Off G w (w1.setCell ⟨bl, i, none⟩ v) := h.grown (grown_setCell w1 bl i v) (fun k e => .inl (Option.some.inj e ▸ hG))
theorem set_other {w : World} {bl i k : Nat} {v : Value} (h : k ≠ bl) : (w.setCell ⟨bl, i, none⟩ v).heap[k]? = w.heap[k]? := Below.heap_setCell _ _ _ _ h
/-- what waits is laid anew -/
theorem LmQ.setW {w w1 : World} {bl bd m no ar ln : Nat} {R W W' : List (List Int)} {Fr : List Int} {lost : Bool} {vr vw vf v : Value} (h : LmQ w bl bd m no ar ln R W Fr lost vr vw vf) (hg : w.grownBy w1 vw.ownBlock) (ho : RowsS w1 0 v W') (hat : v.ownBlock = vw.ownBlock ∨ v.ownBlock = some w.heap.size ∨ v.ownBlock = none) :
    LmQ (w1.setCell ⟨bl, 6, none⟩ v) bl bd m no ar ln R W' Fr lost vr v vf ∧ Step (Lf bl vr vw vf) (Lf bl vr v vf) w (w1.setCell ⟨bl, 6, none⟩ v) := by
  obtain ⟨o1, o2, o3⟩ := h.offs
  have hvb : ∀ k, v.ownBlock = some k → k ≠ bl ∧ vr.ownBlock ≠ some k := fun k hk => by
    rcases hat with e | e | e
    · have := o2 k (by rw [← e]; exact hk); exact ⟨this.1, this.2.2⟩
    · have e2 : w.heap.size = k := by rw [e] at hk; exact Option.some.inj hk
      exact ⟨fun e => by have := h.cell.lt; omega, fun e => by have := h.recs.lt k e; omega⟩
    · rw [e] at hk; cases hk
  refine ⟨⟨LgC.setW ((hg.block bl h.cell.lt (fun e => (o2 bl e.symm).1 rfl)).trans h.cell) v, ?_, ?_, ?_, fun k hk hw => (hvb k hw).2 hk⟩, ⟨off_set ((Off.refl _ w).grown hg (fun k e => .inl (.inr (.inr (.inl e))))) (.inl rfl), fun k hk => ?_⟩⟩
  · exact h.recs.kept fun k hk => (set_other (o1 k hk).1).trans (hg.block k (h.recs.lt k hk) (fun e => (o1 k hk).2.2 e.symm))
  · exact ho.kept fun k hk => set_other (hvb k hk).1
  · exact owned_kept h.frs fun k hk => (set_other (o3 k hk).1).trans (hg.block k (Owned.lt' h.frs k hk) (fun e => (o3 k hk).2.2 e.symm))
  · rcases hk with hk | hk | hk | hk
    · exact .inl (.inl hk)
    · exact .inl (.inr (.inl hk))
    · rcases hat with e | e | e
      · exact .inl (.inr (.inr (.inl (by rw [← e]; exact hk))))
      · rw [e] at hk; exact .inr (Nat.le_of_eq (Option.some.inj hk))
      · rw [e] at hk; cases hk
    · exact .inl (.inr (.inr (.inr hk)))
/-- the frames are laid anew -/
theorem LmQ.setF {w w1 : World} {bl bd m no ar ln : Nat} {R W : List (List Int)} {Fr Fr' : List Int} {lost : Bool} {vr vw vf v : Value} (h : LmQ w bl bd m no ar ln R W Fr lost vr vw vf) (hg : w.grownBy w1 vf.ownBlock) (ho : Owned w1 0 v Fr') (hat : v.ownBlock = vf.ownBlock ∨ v.ownBlock = some w.heap.size ∨ v.ownBlock = none) :
    LmQ (w1.setCell ⟨bl, 7, none⟩ v) bl bd m no ar ln R W Fr' lost vr vw v ∧ Step (Lf bl vr vw vf) (Lf bl vr vw v) w (w1.setCell ⟨bl, 7, none⟩ v) := by
  obtain ⟨o1, o2, o3⟩ := h.offs
  have hvb : ∀ k, v.ownBlock = some k → k ≠ bl := fun k hk => by
    rcases hat with e | e | e
    · exact (o3 k (by rw [← e]; exact hk)).1
    · have e2 : w.heap.size = k := by rw [e] at hk; exact Option.some.inj hk
      exact fun e => by have := h.cell.lt; omega
    · rw [e] at hk; cases hk
  refine ⟨⟨LgC.setF ((hg.block bl h.cell.lt (fun e => (o3 bl e.symm).1 rfl)).trans h.cell) v, ?_, ?_, ?_, h.apart⟩, ⟨off_set ((Off.refl _ w).grown hg (fun k e => .inl (.inr (.inr (.inr e))))) (.inl rfl), fun k hk => ?_⟩⟩
  · exact h.recs.kept fun k hk => (set_other (o1 k hk).1).trans (hg.block k (h.recs.lt k hk) (fun e => (o1 k hk).2.1 e.symm))
  · exact h.wait.kept fun k hk => (set_other (o2 k hk).1).trans (hg.block k (h.wait.lt k hk) (fun e => (o2 k hk).2.1 e.symm))
  · exact owned_kept ho fun k hk => set_other (hvb k hk)
  · rcases hk with hk | hk | hk | hk
    · exact .inl (.inl hk)
    · exact .inl (.inr (.inl hk))
    · exact .inl (.inr (.inr (.inl hk)))
    · rcases hat with e | e | e
      · exact .inl (.inr (.inr (.inr (by rw [← e]; exact hk))))
      · rw [e] at hk; exact .inr (Nat.le_of_eq (Option.some.inj hk))
      · rw [e] at hk; cases hk
/-- the records are laid anew -/
theorem LmQ.setR {w w1 : World} {bl bd m no ar ln : Nat} {R W R' : List (List Int)} {Fr : List Int} {lost : Bool} {vr vw vf v : Value} (h : LmQ w bl bd m no ar ln R W Fr lost vr vw vf) (hg : w.grownBy w1 vr.ownBlock) (ho : RowsS w1 0 v R') (hat : v.ownBlock = vr.ownBlock ∨ (∀ k, v.ownBlock = some k → w.heap.size ≤ k)) :
    LmQ (w1.setCell ⟨bl, 5, none⟩ v) bl bd m no ar ln R' W Fr lost v vw vf ∧ Step (Lf bl vr vw vf) (Lf bl v vw vf) w (w1.setCell ⟨bl, 5, none⟩ v) := by
  obtain ⟨o1, o2, o3⟩ := h.offs
  have hvb : ∀ k, v.ownBlock = some k → k ≠ bl ∧ vw.ownBlock ≠ some k := fun k hk => by
    rcases hat with e | e
    · have := o1 k (by rw [← e]; exact hk); exact ⟨this.1, this.2.2⟩
    · have e2 := e k hk
      exact ⟨fun e => by have := h.cell.lt; omega, fun e => by have := h.wait.lt k e; omega⟩
  refine ⟨⟨LgC.setR ((hg.block bl h.cell.lt (fun e => (o1 bl e.symm).1 rfl)).trans h.cell) v, ?_, ?_, ?_, fun k hk hw => (hvb k hk).2 hw⟩, ⟨off_set ((Off.refl _ w).grown hg (fun k e => .inl (.inr (.inl e)))) (.inl rfl), fun k hk => ?_⟩⟩
  · exact ho.kept fun k hk => set_other (hvb k hk).1
  · exact h.wait.kept fun k hk => (set_other (o2 k hk).1).trans (hg.block k (h.wait.lt k hk) (fun e => (o2 k hk).2.2 e.symm))
  · exact owned_kept h.frs fun k hk => (set_other (o3 k hk).1).trans (hg.block k (Owned.lt' h.frs k hk) (fun e => (o3 k hk).2.1 e.symm))
  · rcases hk with hk | hk | hk | hk
    · exact .inl (.inl hk)
    · rcases hat with e | e
      · exact .inl (.inr (.inl (by rw [← e]; exact hk)))
      · exact .inr (e k hk)
    · exact .inl (.inr (.inr (.inl hk)))
    · exact .inl (.inr (.inr (.inr hk)))
theorem LmQ.steps {w w' : World} {bl bd m no ar ln : Nat} {R W : List (List Int)} {Fr : List Int} {lost : Bool} {vr vw vf : Value} (h : LmQ w bl bd m no ar ln R W Fr lost vr vw vf) (hb : Below w.heap.size w w') : Step (Lf bl vr vw vf) (Lf bl vr vw vf) w w' := ⟨Off.ofBelow _ hb, fun _ hk => .inl hk⟩
theorem LmQ.fr {w : World} {bl bd m no ar ln : Nat} {R W : List (List Int)} {Fr : List Int} {lost : Bool} {vr vw vf : Value} {w1 : World} {row : Option Nat} (h : LmQ w bl bd m no ar ln R W Fr lost vr vw vf) (hg : w.grownBy w1 row) (hr : row ≠ some bl) : LgC w1 bl bd m no ar ln vr vw vf lost := (hg.block bl h.cell.lt (fun e => hr e.symm)).trans h.cell
theorem one_in {w : World} {a : Addr} {rec : List Int} (h : w.cell? a = some (.string (strOfNums rec))) : InS w (some a) [rec] := by
  obtain ⟨b, off, sp⟩ := a
  have hsp : sp = none := by simpa using World.cell?_spot h
  subst hsp
  exact .inr ⟨b, off, rfl, fun i hi => by
    have : i = 0 := by simpa using hi
    subst this
    exact h⟩
/-- l.waiting = append(l.waiting, rec), up to the store -/
theorem appW {w : World} {ops : Array Oper} {rest : List Oper} {o : Oper} {act : Act} {Q : Exit → Act → World → Prop} (hgd : o.guard = none) (s x : Operand)
    (ho : o.op = .call { callee := .builtin .append, args := #[s, x], argTypes := #[82, 82] })
    {bl bd m no ar ln : Nat} {R W : List (List Int)} {Fr : List Int} {lost : Bool} {vr vw vf : Value} (q : LmQ w bl bd m no ar ln R W Fr lost vr vw vf) (hs : act.eval s = vw)
    (a : Addr) (rec : List Int) (hx : act.eval x = .slice (some a) 1 1) (hc : w.cell? a = some (.string (strOfNums rec))) (hW : W.length ≤ 1000000)
    (h : ∀ a' c' w', Hid (LmQ (w'.setCell ⟨bl, 6, none⟩ (.slice a' (W.length + 1) c')) bl bd m no ar ln R (W ++ [rec]) Fr lost vr (.slice a' (W.length + 1) c') vf ∧ Step (Lf bl vr vw vf) (Lf bl vr (.slice a' (W.length + 1) c') vf) w (w'.setCell ⟨bl, 6, none⟩ (.slice a' (W.length + 1) c'))) → w'.cell? ⟨bl, 6, none⟩ = some vw → w'.frozen? ⟨bl, 6, none⟩ = false → w'.cell? ⟨bl, 7, none⟩ = some vf → wpList Tryz.prog ops Q rest (act.put o.dst (.slice a' (W.length + 1) c')) w') : wpList Tryz.prog ops Q (o :: rest) act w := by
  refine appTL hgd s x ho 0 vw W hs q.wait a 1 1 [rec] hx rfl (one_in hc) (by omega) (Nat.zero_le _) fun v' w' h1 h2 h3 => ?_
  obtain ⟨a', c', rfl, _⟩ := h1.slice
  rw [List.length_append, List.length_singleton] at h1 h3 ⊢
  have c := (q.fr h2 (fun e => (q.offs.2.1 bl e).1 rfl)).cells
  exact h a' c' w' (q.setW h2 h1 (h3.elim Or.inl fun e => .inr (.inl e))) c.c6 (c.f 6) c.c7
/-- l.frames = append(l.frames, b...), up to the store -/
theorem appF {w : World} {ops : Array Oper} {rest : List Oper} {o : Oper} {act : Act} {Q : Exit → Act → World → Prop} (hgd : o.guard = none) (s x : Operand)
    (ho : o.op = .call { callee := .builtin .append, args := #[s, x], argTypes := #[86, 86] })
    {bl bd m no ar ln : Nat} {R W : List (List Int)} {Fr : List Int} {lost : Bool} {vr vw vf : Value} (q : LmQ w bl bd m no ar ln R W Fr lost vr vw vf) (hs : act.eval s = vf)
    (a : Addr) (n c : Nat) (L : List Int) (hx : act.eval x = .slice (some a) n c) (hn : L.length = n) (hc : Holds w (some a) L) (hW : Fr.length + n ≤ 1000000)
    (h : ∀ a' c' w', Hid (LmQ (w'.setCell ⟨bl, 7, none⟩ (.slice a' (Fr.length + n) c')) bl bd m no ar ln R W (Fr ++ L) lost vr vw (.slice a' (Fr.length + n) c') ∧ Step (Lf bl vr vw vf) (Lf bl vr vw (.slice a' (Fr.length + n) c')) w (w'.setCell ⟨bl, 7, none⟩ (.slice a' (Fr.length + n) c'))) → w'.cell? ⟨bl, 7, none⟩ = some vf → w'.frozen? ⟨bl, 7, none⟩ = false → wpList Tryz.prog ops Q rest (act.put o.dst (.slice a' (Fr.length + n) c')) w') : wpList Tryz.prog ops Q (o :: rest) act w := by
  refine appOL hgd s x ho 0 vf Fr hs q.frs a n c L hx hn hc (by omega) (Nat.zero_le _) fun v' w' h1 h2 h3 => ?_
  obtain ⟨a', c', rfl, _⟩ := h1.slice
  rw [List.length_append, hn] at h1 h3 ⊢
  have c := (q.fr h2 (fun e => (q.offs.2.2 bl e).1 rfl)).cells
  exact h a' c' w' (q.setF h2 h1 (h3.elim Or.inl fun e => .inr (.inl e))) c.c7 (c.f 7)
theorem Step.iff {F F' G : Nat → Prop} {w w' : World} (h : Step F F' w w') (hG : ∀ k, G k ↔ F k) : Step G F' w w' := ⟨⟨h.off.os, h.off.tape, h.off.output, h.off.size, fun k hk hn => h.off.block k hk (fun e => hn ((hG k).2 e))⟩, fun k hk => (h.sub k hk).elim (fun e => .inl ((hG k).2 e)) .inr⟩
/-- Add, plainly -/
def Lg.add (l : Lg) (rec : List Int) : Int × Lg := if l.lost = true then (15, l) else if (frO [rec] l.room).2 ≠ 0 then ((frO [rec] l.room).2, l) else (0, { l with W := l.W ++ [rec] })
theorem frO_one (rec : List Int) (room : Nat) : frO [rec] room = if 4096 < rec.length then ([], 3) else if room < 8 + rec.length then ([], 7) else (frameL rec, 0) := by
  unfold frO
  rw [joinL_one, frameL_length]
  by_cases h : 4096 < rec.length
  · rw [if_pos h, if_pos ⟨rec, by simp, h⟩]
  · rw [if_neg h, if_neg (by simpa using h)]
theorem Lg.add_ok {l : Lg} {N : Nat} (h : l.Ok N) {rec : List Int} (hB : IsBytes rec) : (l.add rec).2.Ok N := by
  unfold Lg.add
  split
  · exact h
  · split
    · exact h
    · rename_i h1 h2
      rw [frO_one] at h2
      have h3 : ¬ 4096 < rec.length := fun e => h2 (by rw [if_pos e]; simp)
      rw [if_neg h3] at h2
      have h4 : ¬ l.room < 8 + rec.length := fun e => h2 (by rw [if_pos e]; simp)
      refine ⟨h.m, h.no, h.ar, ?_, h.rb, fun B hB2 => ?_⟩
      · show l.ln + (joinL (l.W ++ [rec])).length ≤ _
        rw [joinL_snoc, List.length_append, frameL_length]
        have := h.room
        unfold Lg.room at h4
        show _ ≤ 64 * l.m
        omega
      · rcases List.mem_append.1 hB2 with e | e
        · exact h.wb B e
        · have : B = rec := by simpa using e
          rw [this]
          exact ⟨hB, by omega⟩
set_option maxRecDepth 100000 in
set_option maxHeartbeats 4000000 in
theorem add_is (w : World) (G : Nat → Prop) (bl bd N : Nat) (l : Lg) (h : Lm w G bl bd l) (hok : l.Ok N) (rec : List Int) (hB : IsBytes rec) :
    Calls Tryz.prog 79 #[.pointer (some ⟨bl, 0, none⟩), .string (strOfNums rec)] w fun e w' => e = .returned (.int .i64 (l.add rec).1) ∧ ∃ G', Lm w' G' bl bd (l.add rec).2 ∧ Step G G' w w' := by
  have H0 := h
  obtain ⟨vr, vw, vf, p, hG⟩ := h
  have hf := hok.few
  have K : Hid (Calls Tryz.prog 86 #[.pointer (some ⟨bl, 0, none⟩)] w fun e w' => e = .returned (.int .i64 (if l.lost then 15 else 0)) ∧ w' = w) := wready_is w bl bd l.lost p.cell.cells.c0 p.cell.cells.c8
  have hr1 : l.room ≤ 131008 := by have := hok.m; unfold Lg.room; omega
  by_cases hlost : l.lost = true
  · have e1 : l.add rec = (15, l) := by unfold Lg.add; rw [if_pos hlost]
    rw [e1]
    rw [if_pos hlost] at K
    go_enter Tryz.func79, Tryz.ntmps79
    go_wp2_with fail
    refine K.out.mono ?_
    rintro e w1 ⟨rfl, rfl⟩
    go_wp2_with fail
    go_ret
    exact ⟨rfl, G, H0, Step.refl G _⟩
  · rw [if_neg hlost] at K
    obtain ⟨X, hX⟩ : ∃ X, X = frO [rec] l.room := ⟨_, rfl⟩
    have HA : Hid (l.add rec = if X.2 ≠ 0 then (X.2, l) else (0, { l with W := l.W ++ [rec] })) := by show _ = _; unfold Lg.add; rw [if_neg hlost, hX]
    obtain ⟨A, hA⟩ : ∃ A, A = l.add rec := ⟨_, rfl⟩
    rw [← hA]
    rw [← hA] at HA
    have KR : Hid (∀ u, Below w.heap.size w u → Calls Tryz.prog 110 #[.pointer (some ⟨bl, 0, none⟩)] u fun e w' => e = .returned (.int .i64 (l.room : Nat)) ∧ Below u.heap.size u w') := fun u hu => wroom_is u G bl bd N l (H0.keep hu) hok
    have KF : Hid (∀ (u : World), u.cell? ⟨w.heap.size, 0, none⟩ = some (.string (strOfNums rec)) → Calls Tryz.prog 87 #[.slice (some ⟨w.heap.size, 0, none⟩) 1 1, .int .i64 (l.room : Nat)] u fun e w' => ∃ a' m' c', e = .returned (.tuple #[.slice a' m' c', .int .i64 X.2]) ∧ X.1.length = m' ∧ Owned w' u.heap.size (.slice a' m' c') X.1 ∧ Below u.heap.size u w') := fun u hu => by
      rw [hX]
      exact framesOf_is u _ 1 1 [rec] rfl (by omega) (.inr ⟨w.heap.size, 0, rfl, fun i hi => by
        have : i = 0 := by simpa using hi
        subst this
        exact hu⟩) (fun B hB2 => by have : B = rec := by simpa using hB2
                                    rw [this]; exact hB) l.room (by omega)
    have Q0 : Hid (LmQ w bl bd l.m l.no l.ar l.ln l.R l.W (joinL l.W) l.lost vr vw vf) := p.q
    have HG : Hid (∀ k, G k ↔ Lf bl vr vw vf k) := hG
    have HX0 : Hid (X.2 = 0 → X.1 = frameL rec ∧ rec.length ≤ 4096) := fun e => by
      rw [hX, frO_one] at e ⊢
      by_cases h1 : 4096 < rec.length
      · rw [if_pos h1] at e; cases e
      · rw [if_neg h1] at e ⊢
        by_cases h2 : l.room < 8 + rec.length
        · rw [if_pos h2] at e; cases e
        · rw [if_neg h2]; exact ⟨rfl, by omega⟩
    have hbl := p.cell.lt
    clear p hG H0 hX hA
    have B0 : Hid (Below w.heap.size w (w.alloc (.cells #[.string (strOfNums rec)] 9))) := gB_alloc w _
    have C0 : Hid ((w.alloc (.cells #[.string (strOfNums rec)] 9)).cell? ⟨w.heap.size, 0, none⟩ = some (.string (strOfNums rec))) := by show _ = _; rw [cell_of_row _ w.heap.size 0 _ _ (0, 0) (heap_alloc_new w _)]; rfl
    generalize hroom : l.room = room at *
    go_enter Tryz.func79, Tryz.ntmps79
    go_wp2_with fail
    refine K.out.mono ?_
    rintro e w1 ⟨rfl, rfl⟩
    go_wp2_with fail
    refine (KR.out _ B0.out).mono ?_
    rintro e w2 ⟨rfl, hb2⟩
    have B2 : Hid (Below w1.heap.size w1 w2) := B0.out.trans (hb2.mono B0.out.size)
    have C2 : w2.cell? ⟨w1.heap.size, 0, none⟩ = some (.string (strOfNums rec)) := (hb2.cell (p := ⟨w1.heap.size, 0, none⟩) (World.block_lt_of_cell? _ _ C0.out)).trans C0.out
    clear hb2
    go_wp2_with fail
    refine (KF.out w2 C2).mono ?_
    rintro e w3 ⟨a3, m3, c3, rfl, hm3, ho3, hb3⟩
    have B3 : Hid (Below w1.heap.size w1 w3) := B2.out.trans (hb3.mono B2.out.size)
    have Q3 : Hid (LmQ w3 bl bd l.m l.no l.ar l.ln l.R l.W (joinL l.W) l.lost vr vw vf) := Q0.out.keep B3.out
    by_cases he : X.2 = 0
    · have HA2 : Hid (A = (0, { l with W := l.W ++ [rec] })) := by show _ = _; rw [HA.out, if_neg (by simpa using he)]
      obtain ⟨hx1, hx2⟩ := HX0.out he
      rw [hx1] at hm3 ho3
      have O3 : Hid (Owned w3 w2.heap.size (.slice a3 m3 c3) (frameL rec)) := ho3
      have HM3 : Hid ((frameL rec).length = m3) := hm3
      have hm3' : m3 = 8 + rec.length := by rw [← hm3, frameL_length]
      have S2 : Hid (w1.heap.size ≤ w2.heap.size) := B2.out.size
      obtain ⟨g3, rfl⟩ : ∃ g3, a3 = Option.some ⟨g3, 0, none⟩ := by
        obtain ⟨g3, hg3⟩ := Owned.some ho3 (by omega)
        exact ⟨g3, hg3⟩
      have hg3w : g3 < w3.heap.size := Owned.lt' ho3 g3 rfl
      have hg3b : w2.heap.size ≤ g3 := (World.ownsRow.lt ho3 g3 rfl).1
      rw [he]
      have c6 := Q3.out.cell.cells.c6
      have Q4 : Hid (LmQ (w3.alloc (.cells #[.string (strOfNums rec)] 9)) bl bd l.m l.no l.ar l.ln l.R l.W (joinL l.W) l.lost vr vw vf) := Q3.out.keep (gB_alloc w3 _)
      have C4 : Hid ((w3.alloc (.cells #[.string (strOfNums rec)] 9)).cell? ⟨w3.heap.size, 0, none⟩ = some (.string (strOfNums rec))) := by show _ = _; rw [cell_of_row _ w3.heap.size 0 _ _ (0, 0) (heap_alloc_new w3 _)]; rfl
      have O4 : Hid (Owned (w3.alloc (.cells #[.string (strOfNums rec)] 9)) w2.heap.size (.slice (some ⟨g3, 0, none⟩) m3 c3) (frameL rec)) := O3.out.below (gB_alloc w3 _) (Owned.lt' O3.out)
      have Z4 : Hid ((w3.alloc (.cells #[.string (strOfNums rec)] 9)).heap.size = w3.heap.size + 1) := by show _ = _; simp
      clear hm3 ho3 hb3 hx1 C2
      have NL : Hid (∀ x : Addr, some (⟨g3, 0, none⟩ : Addr) = some x → frameL rec ≠ [] → x.block < (w3.alloc (.cells #[.string (strOfNums rec)] 9)).heap.size ∧ ¬ Lf bl vr vw vf x.block) := fun x hx _ => by
        obtain rfl := Option.some.inj hx
        refine ⟨by rw [Z4.out]; show g3 < _; omega, fun e => ?_⟩
        have h1 := Q0.out.lt g3 e
        have h2 := S2.out
        omega
      go_wp2_with (first | (at_builtin; refine appW rfl (.tmp 28) (.tmp 30) rfl Q4.out rfl ⟨w3.heap.size, 0, none⟩ rec rfl C4.out (by omega) ?_; intro a5 c5 w5 Q5 k6 f6 k7) | (at_builtin; refine appF rfl (.tmp 38) (.tmp 39) rfl Q5.out.1 rfl ⟨g3, 0, none⟩ (8 + rec.length) c3 (frameL rec) rfl (frameL_length rec) (Holds.step O4.out.holds.1 Q5.out.2 NL.out) (by omega) ?_; intro a6 c6 w6 Q6 k7b f7))
      go_ret
      refine ⟨by rw [HA2.out]; rfl, _, ⟨vr, .slice a5 (l.W.length + 1) c5, .slice a6 ((joinL l.W).length + (8 + rec.length)) c6, ?_, fun k => Iff.rfl⟩, ?_⟩
      · rw [HA2.out]
        have q := Q6.out.1
        rw [← joinL_snoc] at q
        exact LmQ.p (l := { l with W := l.W ++ [rec] }) q
      · exact ((((Q0.out.steps B3.out).trans (Q3.out.steps (gB_alloc w3 _))).trans Q5.out.2).trans Q6.out.2).iff HG.out
    · have HA2 : Hid (A = (X.2, l)) := by show _ = _; rw [HA.out, if_pos he]
      have e9 : (X.2 == 0) = false := by rw [beq_eq_false_iff_ne]; exact he
      clear hm3 ho3 hb3
      go_wp2_with fail
      go_ret
      exact ⟨by rw [HA2.out]; rfl, G, by rw [HA2.out]; exact ⟨vr, vw, vf, LmQ.p Q3.out, HG.out⟩, ⟨Off.ofBelow _ B3.out, fun _ hk => .inl hk⟩⟩
end Go.Proofs.YtcindeechmpalaaGreat
namespace Go.Proofs.YtcindeechmpalaaGreat
open Go.ChangeShapes Go.WideShapes Go.ChangeAt Go.RowKit Go.Deep
set_option linter.unusedVariables false
theorem strCells_sN (t : ByteArray) : Lib.strCells t = (sN t).map (Value.int .u8) := by
  conv => lhs; rw [← sN_str t]
  simp only [Lib.strCells, strOfNums, List.map_map]
  unfold sN
  simp only [List.map_map]
  apply List.map_congr_left
  intro b hb
  simp
theorem holds_cells {w : World} {ad : Addr} {L : List Int} (hh : Holds w (some ad) L) : ∀ j u, (L.map (Value.int .u8))[j]? = some u → w.cell? (ad.add j) = some u := by
  intro j u hu
  have hj : j < L.length := by
    have := (List.getElem?_eq_some_iff.1 hu).1
    simpa using this
  rcases hh with h | ⟨b, off, hb, hcell⟩
  · subst h; simp at hj
  · simp only [Option.some.injEq] at hb
    subst hb
    rw [add_plain, hcell j hj]
    simp [List.getElem?_eq_getElem hj] at hu
    simp [List.getD, List.getElem?_eq_getElem hj, hu]
theorem appB_run {w : World} (base : Nat) (v : Value) (A : List Int) (hown : Owned w base v A)
    (a : Option Addr) (m c : Nat) (L : List Int) (hm : L.length = m) (hh : Holds w a L) (hc : a = none → c = 0) (hN : A.length + m ≤ 100000000000000) (hbase : base ≤ w.heap.size) (ty : TypeId) :
    ∃ v' w', (Builtin.append_ #[86, 86] ty #[v, .slice a m c]).run Tryz.prog w = .ok v' w' ∧ Owned w' base v' (A ++ L) ∧ w.grownBy w' v.ownBlock ∧ (v'.ownBlock = v.ownBlock ∨ v'.ownBlock = some w.heap.size) := by
  obtain ⟨i, hi, hz, h1, h2⟩ := info8p
  rcases hown.2 with ⟨rfl, hn0⟩ | ⟨g, cap, cur, rfl, hbg, hg, hnc, hcm, hcs, htake⟩
  · have hA0 : A = [] := List.length_eq_zero_iff.1 hn0
    subst hA0
    by_cases hm0 : m = 0
    · subst hm0
      have hL : L = [] := List.length_eq_zero_iff.1 hm
      subst hL
      refine ⟨.slice none 0 0, w, ?_, hown, gB_refl _ _, .inl rfl⟩
      cases a with
      | none => simp [Builtin.append_, run_underlying Tryz.underlying86, sizeOf, typeInfo, hi, Builtin.lenOf, Builtin.firstCells]
      | some ad => simp [Builtin.append_, run_underlying Tryz.underlying86, sizeOf, typeInfo, hi, Builtin.lenOf, Builtin.firstCells, loadCells, loadCellsFrom]
    · cases a with
      | none =>
        exfalso
        rcases hh with h | ⟨b, off, hb, _⟩
        · rw [h] at hm; simp at hm; omega
        · simp at hb
      | some ad =>
        have hr := run_append_nil (P := Tryz.prog) w 86 ty 5 i (.int .u8 0) Tryz.underlying86 hi hz ad m c (L.map (Value.int .u8)) (by simp [hm, h1]) (holds_cells hh) (by omega) (by omega) (by rw [h2]; omega)
        have hge := grownCap_ge w m 0 5
        have hle := grownCap_le_maxLen w m 0 5 (by simp only [maxLen]; omega)
        refine ⟨_, _, hr, ?_, ⟨rfl, rfl, rfl, by simp, fun k hk _ => Below.heap_alloc w.drew _ k hk⟩, .inr rfl⟩
        refine ⟨by simp, .inr ⟨w.heap.size, _, _, by simp [hm], hbase, heap_alloc_new w.drew _, by simp [hm]; exact hge, hle, ?_, ?_⟩⟩
        · simp [size_zeroCells, hm, Value.cells]; omega
        · rw [List.nil_append, hm, Nat.mul_one]
          simp only [Array.toList_append]
          have : (L.map (Value.int .u8)).toArray.toList.length = m := by simp [hm]
          rw [← this]
          exact List.take_left
  · have hAl : (A.map (Value.int .u8)).length = A.length := by simp
    rw [Nat.mul_one] at hcs htake
    cases a with
    | none =>
      have hL : L = [] := by
        rcases hh with h | ⟨b, off, hb, _⟩
        · exact h
        · simp at hb
      subst hL
      have hc0 := hc rfl
      subst hc0
      have hm0 : m = 0 := by rw [← hm]; rfl
      subst hm0
      refine ⟨.slice (some ⟨g, 0, none⟩) A.length cap, w, ?_, ?_, gB_refl _ _, .inl rfl⟩
      · simp [Builtin.append_, run_underlying Tryz.underlying86, sizeOf, typeInfo, hi, Builtin.lenOf, hnc, Builtin.firstCells, storeCells]
      · rw [List.append_nil]; exact hown
    | some ad =>
      have hlen : ((A ++ L).map (Value.int .u8)).length = A.length + m := by simp [hm]
      by_cases hroom : A.length + m ≤ cap
      · have hr := run_append_room (P := Tryz.prog) w 86 ty 5 i Tryz.underlying86 hi g A.length cap cur hg ad m c (L.map (Value.int .u8)) (by simp [hm, h1]) (holds_cells hh) (ints_oneCell _ _) hroom (by simp [h1, hm, hcs]; exact hroom)
        refine ⟨_, _, hr, ?_, ⟨rfl, rfl, rfl, by simp, fun k _ hk => setRow_other w g k _ (fun e => hk (by simp [Value.ownBlock, e]))⟩, .inl rfl⟩
        refine ⟨by simp, .inr ⟨g, cap, _, by simp [hm], hbg, setRow_heap w g cur _ 5 _ hg, by simp [hm]; exact hroom, hcm, ?_, ?_⟩⟩
        · simp [h1, hm]; omega
        · rw [h1]
          simp only [Nat.mul_one]
          rw [htake, List.length_append, hm, ← hlen, List.map_append]
          exact List.take_left
      · have holds : ∀ j u, (A.map (Value.int .u8))[j]? = some u → w.cell? ((⟨g, 0, none⟩ : Addr).add j) = some u := World.ownsRow.cells hown (g := g) rfl
        have hr := run_append_grow (P := Tryz.prog) w 86 ty 5 i (.int .u8 0) Tryz.underlying86 hi hz ⟨g, 0, none⟩ A.length cap (A.map (Value.int .u8)) (by simp [h1]) holds ad m c (L.map (Value.int .u8)) (by simp [hm, h1]) (holds_cells hh) (by omega) (by omega) (growslice_fits (by omega) (by rw [h2]; omega))
        have hge := grownCap_ge w (A.length + m) cap 5
        have hle := grownCap_le_maxLen w (A.length + m) cap 5 (by simp only [maxLen]; omega)
        refine ⟨_, _, hr, ?_, ⟨rfl, rfl, rfl, by simp, fun k hk _ => Below.heap_alloc w.drew _ k hk⟩, .inr rfl⟩
        refine ⟨by simp, .inr ⟨w.heap.size, _, _, by simp [hm], hbase, heap_alloc_new w.drew _, by simp [hm]; exact hge, hle, ?_, ?_⟩⟩
        · simp [size_zeroCells, hm, Value.cells]; omega
        · rw [List.length_append, hm, Nat.mul_one, ← hlen]
          simp only [Array.toList_append, List.append_assoc, List.map_append]
          rw [← List.append_assoc, ← List.map_append]
          exact List.take_left
theorem Owned.base {w : World} {a b : Nat} {v : Value} {A : List Int} (h : Owned w b v A) (hab : a ≤ b) : Owned w a v A := by
  refine ⟨h.1, ?_⟩
  rcases h.2 with h1 | ⟨g, cap, cur, rfl, hbg, rest⟩
  · exact .inl h1
  · exact .inr ⟨g, cap, cur, rfl, Nat.le_trans hab hbg, rest⟩
/-- append onto a slice that has no room -/
theorem append_grow {w : World} {ops : Array Oper} {rest : List Oper} {o : Oper} {act : Act} {Q : Exit → Act → World → Prop} (hgd : o.guard = none) (s x : Operand)
    (ho : o.op = .call { callee := .builtin .append, args := #[s, x], argTypes := #[86, 86] })
    (A : List Int) (q : Nat) (hq : A.length = q) (g : Addr) (hs : act.eval s = .slice (some g) q q) (hA : Holds w (some g) A)
    (ad : Addr) (m c : Nat) (L : List Int) (hx : act.eval x = .slice (some ad) m c) (hm : L.length = m) (hh : Holds w (some ad) L) (h0 : 0 < m) (hN : q + m ≤ 140737488355328)
    (h : ∀ v' w', Owned w' w.heap.size v' (A ++ L) → Below w.heap.size w w' → wpList Tryz.prog ops Q rest (act.put o.dst v') w') :
    wpList Tryz.prog ops Q (o :: rest) act w := by
  subst hq
  obtain ⟨i, hi, hz, h1, h2⟩ := info8p
  obtain ⟨v', w', hr, h3, h4⟩ := run_append_arg_grows (P := Tryz.prog) (w := w) 86 o.type 5 i (.int .u8 0) 1 1 Tryz.underlying86 hi hz h1 h2 rfl (by decide) g A.length A.length (A.map (Value.int .u8)) (by simp) (holds_cells hA) ad m c (L.map (Value.int .u8)) (by simp [hm]) (holds_cells hh) (by omega) (by simp only [maxLen]; omega) (by omega)
  refine wpList_plain hgd fun _ hK => ?_
  unfold Oper.wp execOp
  simp only [ho, resolve, invoke, builtin, Sem.run_bind, Sem.run_pure, Result.andThen_ok, List.map_toArray, List.map_cons, List.map_nil, hs, hx, hr]
  refine hK _ _ (h v' w' ?_ ((Below.refl w.heap.size w).grown h4 (Nat.le_refl _) (fun k hk => by cases hk)))
  unfold Owned
  rw [List.length_append, hm, List.map_append]
  exact h3
/-- what grew: the row r (now r'), new blocks, and nothing else -/
def Gr (w w' : World) (r r' : Option Nat) : Prop := w.grownBy w' r ∧ (r' = r ∨ ∃ k, r' = some k ∧ w.heap.size ≤ k)
theorem Gr.trans {w w1 w2 : World} {r r1 r2 : Option Nat} (h : Gr w w1 r r1) (k : Gr w1 w2 r1 r2) : Gr w w2 r r2 := by
  refine ⟨⟨k.1.os.trans h.1.os, k.1.tape.trans h.1.tape, k.1.output.trans h.1.output, Nat.le_trans h.1.size k.1.size, fun g hg hr => (k.1.block g (Nat.lt_of_lt_of_le hg h.1.size) ?_).trans (h.1.block g hg hr)⟩, ?_⟩
  · rcases h.2 with e | ⟨q, e, hq⟩
    · rw [e]; exact hr
    · rw [e]; intro h2; have := Option.some.inj h2; omega
  · rcases k.2 with e | ⟨q, e, hq⟩
    · rw [e]; exact h.2
    · exact .inr ⟨q, e, Nat.le_trans h.1.size hq⟩
theorem Gr.ofBelow {w w' : World} (h : Below w.heap.size w w') (r : Option Nat) : Gr w w' r r := ⟨⟨h.os, h.tape, h.output, h.size, fun g hg _ => h.block g hg⟩, .inl rfl⟩
theorem Gr.alloc (w : World) (o : Obj) (r : Option Nat) : Gr w (w.alloc o) r r := Gr.ofBelow ((Below.refl _ _).alloc (Nat.le_refl _) _) r
theorem Gr.below {w w' : World} {r r' : Option Nat} (h : Gr w w' r r') (B : Nat) (hB : B ≤ w.heap.size) (hr : ∀ k, r = some k → B ≤ k) : Below B w w' :=
  ⟨h.1.os, h.1.tape, h.1.output, h.1.size, fun k hk => h.1.block k (by omega) (fun e => by have := hr k e.symm; omega)⟩
theorem Gr.block {w w' : World} {r r' : Option Nat} (h : Gr w w' r r') (k : Nat) (hk : k < w.heap.size) (hr : r ≠ some k) : w'.heap[k]? = w.heap[k]? := h.1.block k hk (fun e => hr e.symm)
theorem Owned.keep {w w' : World} {base : Nat} {v : Value} {A : List Int} (h : Owned w base v A) (hb : Below w.heap.size w w') : Owned w' base v A := by
  refine ⟨h.1, ?_⟩
  have hlt := fun k hk => (World.ownsRow.lt h k hk).2
  rcases h.2 with h1 | ⟨g, cap, cur, rfl, hbg, hg, rest⟩
  · exact .inl h1
  · exact .inr ⟨g, cap, cur, rfl, hbg, (hb.block g (hlt g rfl)).trans hg, rest⟩
theorem owned_own {w : World} {base : Nat} {v : Value} {A : List Int} (h : Owned w base v A) : ∀ k, v.ownBlock = some k → base ≤ k ∧ k < w.heap.size := fun k hk => World.ownsRow.lt h k hk
/-- bytes in a block of which nothing changed -/
theorem Holds.gr {w w' : World} {r r' : Option Nat} {x : Addr} {L : List Int} (h : Holds w (some x) L) (hg : Gr w w' r r') (hx : x.block < w.heap.size) (hr : r ≠ some x.block) : Holds w' (some x) L := by
  rcases h with e | ⟨b, off, e, hc⟩
  · exact .inl e
  · cases e
    refine .inr ⟨b, off, rfl, fun i hi => ?_⟩
    rw [← hc i hi]
    exact World.cell?_of_block (a := ⟨b, off + i, none⟩) (hg.block b hx hr)
theorem appB {w : World} {ops : Array Oper} {rest : List Oper} {o : Oper} {act : Act} {Q : Exit → Act → World → Prop} (hgd : o.guard = none) (s x : Operand)
    (ho : o.op = .call { callee := .builtin .append, args := #[s, x], argTypes := #[86, 86] })
    (base : Nat) (v : Value) (A : List Int) (hs : act.eval s = v) (hown : Owned w base v A)
    (a : Option Addr) (m c : Nat) (L : List Int) (hx : act.eval x = .slice a m c) (hm : L.length = m) (hh : Holds w a L) (hc : a = none → c = 0) (hN : A.length + m ≤ 100000000000000) (hbase : base ≤ w.heap.size)
    (h : ∀ v' w', Owned w' base v' (A ++ L) → Gr w w' v.ownBlock v'.ownBlock → wpList Tryz.prog ops Q rest (act.put o.dst v') w') :
    wpList Tryz.prog ops Q (o :: rest) act w := by
  obtain ⟨v', w', hr, h2, h3, h4⟩ := appB_run base v A hown a m c L hm hh hc hN hbase o.type
  refine wpList_plain hgd fun _ hK => ?_
  unfold Oper.wp execOp
  simp only [ho, resolve, invoke, builtin, Sem.run_bind, Sem.run_pure, Result.andThen_ok, List.map_toArray, List.map_cons, List.map_nil, hs, hx, hr]
  refine hK _ _ (h v' w' h2 ⟨h3, ?_⟩)
  rcases h4 with e | e
  · exact .inl e
  · exact .inr ⟨_, e, Nat.le_refl _⟩
theorem appS_run {w : World} (base : Nat) (v : Value) (A : List Int) (hown : Owned w base v A) (t : ByteArray) (hN : A.length + t.size ≤ 140737488355328) (hbase : base ≤ w.heap.size) (ty : TypeId) :
    ∃ v' w', (Builtin.append_ #[86, 9] ty #[v, .string t]).run Tryz.prog w = .ok v' w' ∧ Owned w' base v' (A ++ sN t) ∧ Gr w w' v.ownBlock v'.ownBlock := by
  obtain ⟨i, hi, hz, h1, h2⟩ := info8p
  obtain ⟨v', w', hr, h3, h4, h5⟩ := Lib.run_append_own_string (P := Tryz.prog) w base 86 9 ty 5 i Tryz.underlying86 Tryz.underlying9 hi hz h1 h2 v A.length _ hown t (by simp only [maxLen]; omega) hN hbase
  have ho' : Owned w' base v' (A ++ sN t) := by
    unfold Owned
    rw [List.length_append, sN_len, List.map_append, ← strCells_sN]
    exact h3
  refine ⟨v', w', hr, ho', h4, ?_⟩
  rcases hown.2 with ⟨rfl, hn0⟩ | ⟨g, cap, cur, rfl, hbg, hg, hnc, hcm, hcs, htake⟩
  · by_cases hm : t.size = 0
    · left; rw [h5.2 ⟨rfl, hm⟩]
    · have hr2 := run_append_nil_string (P := Tryz.prog) w 86 9 ty 5 i (.int .u8 0) Tryz.underlying86 Tryz.underlying9 hi hz t (by omega) (by omega) (by rw [h2]; omega)
      rw [hr2] at hr
      cases hr
      exact .inr ⟨_, rfl, Nat.le_refl _⟩
  · by_cases hroom : A.length + t.size ≤ cap
    · have hcs' : cur.size = cap := by simpa using hcs
      have hr2 := Lib.run_append_room_string (P := Tryz.prog) w 86 9 ty 5 i Tryz.underlying86 Tryz.underlying9 hi h1 g A.length cap cur hg t hroom (by omega)
      rw [hr2] at hr
      cases hr
      exact .inl rfl
    · have holds : ∀ j u, (A.map (Value.int .u8))[j]? = some u → w.cell? ((⟨g, 0, none⟩ : Addr).add j) = some u := World.ownsRow.cells hown (g := g) rfl
      have hr2 := Lib.run_append_grow_string (P := Tryz.prog) w 86 9 ty 5 i (.int .u8 0) Tryz.underlying86 Tryz.underlying9 hi hz ⟨g, 0, none⟩ A.length cap (A.map (Value.int .u8)) (by simp [h1]) holds t (by omega) (by omega) (by rw [h2]; exact growslice_fits (by omega) (by omega))
      rw [hr2] at hr
      cases hr
      exact .inr ⟨_, rfl, Nat.le_refl _⟩
/-- append(s, text...) -/
theorem appS {w : World} {ops : Array Oper} {rest : List Oper} {o : Oper} {act : Act} {Q : Exit → Act → World → Prop} (hgd : o.guard = none) (s x : Operand)
    (ho : o.op = .call { callee := .builtin .append, args := #[s, x], argTypes := #[86, 9] })
    (base : Nat) (v : Value) (A : List Int) (hs : act.eval s = v) (hown : Owned w base v A) (t : ByteArray) (hx : act.eval x = .string t) (hN : A.length + t.size ≤ 140737488355328) (hbase : base ≤ w.heap.size)
    (h : ∀ v' w', Owned w' base v' (A ++ sN t) → Gr w w' v.ownBlock v'.ownBlock → wpList Tryz.prog ops Q rest (act.put o.dst v') w') :
    wpList Tryz.prog ops Q (o :: rest) act w := by
  obtain ⟨v', w', hr, h2, h3⟩ := appS_run base v A hown t hN hbase o.type
  refine wpList_plain hgd fun _ hK => ?_
  unfold Oper.wp execOp
  simp only [ho, resolve, invoke, builtin, Sem.run_bind, Sem.run_pure, Result.andThen_ok, List.map_toArray, List.map_cons, List.map_nil, hs, hx, hr]
  exact hK _ _ (h v' w' h2 h3)
end Go.Proofs.YtcindeechmpalaaGreat
namespace Go.Proofs.YtcindeechmpalaaGreat
open Go.ChangeShapes Go.WideShapes Go.ChangeAt Go.RowKit Go.Deep
set_option linter.unusedVariables false
/-- a change: key, value, gone -/
structure Pt where
  k : ByteArray
  v : ByteArray
  g : Bool
def noP : Pt := ⟨⟨#[]⟩, ⟨#[]⟩, false⟩
def pC (x : Pt) : Array Value := #[.string x.k, .string x.v, .bool x.g]
def pcl (x : Pt) : List Value := [.string x.k, .string x.v, .bool x.g]
def pcs (l : List Pt) : List Value := l.flatMap pcl
theorem pcs_len (l : List Pt) : (pcs l).length = l.length * 3 := by
  induction l with
  | nil => rfl
  | cons x l ih => simp only [pcs, List.flatMap_cons, List.length_append, List.length_cons] at ih ⊢; rw [ih]; simp [pcl]; omega
theorem pcs_at (l : List Pt) (i : Nat) (x : Pt) (h : l[i]? = some x) (k : Nat) (hk : k < 3) : (pcs l)[i * 3 + k]? = (pcl x)[k]? := by
  induction l generalizing i with
  | nil => simp at h
  | cons y l ih =>
    cases i with
    | zero =>
      simp at h
      subst h
      simp only [pcs, List.flatMap_cons, Nat.zero_mul, Nat.zero_add]
      rw [List.getElem?_append_left (by simp [pcl]; omega)]
    | succ i =>
      simp only [List.getElem?_cons_succ] at h
      have := ih i h
      simp only [pcs, List.flatMap_cons] at this ⊢
      rw [List.getElem?_append_right (by simp [pcl]; omega), ← this]
      congr 1
      simp [pcl]
      omega
/-- a change's three cells -/
def Pc (w : World) (b o : Nat) (x : Pt) : Prop := w.cell? ⟨b, o, none⟩ = some (.string x.k) ∧ w.cell? ⟨b, o + 1, none⟩ = some (.string x.v) ∧ w.cell? ⟨b, o + 2, none⟩ = some (.bool x.g)
theorem Pc.kept {w w' : World} {b o : Nat} {x : Pt} (h : Pc w b o x) (hb : w'.heap[b]? = w.heap[b]?) : Pc w' b o x :=
  ⟨(World.cell?_of_block (a := ⟨b, o, none⟩) hb).trans h.1, (World.cell?_of_block (a := ⟨b, o + 1, none⟩) hb).trans h.2.1, (World.cell?_of_block (a := ⟨b, o + 2, none⟩) hb).trans h.2.2⟩
/-- a slice of changes may be read -/
def InP (w : World) (a : Option Addr) (l : List Pt) : Prop := l = [] ∨ ∃ b off, a = some ⟨b, off, none⟩ ∧ b < w.heap.size ∧ ∀ i x, l[i]? = some x → Pc w b (off + i * 3) x
theorem InP.kept {w w' : World} {a : Option Addr} {l : List Pt} (h : InP w a l) (hs : w.heap.size ≤ w'.heap.size) (hb : ∀ x, a = some x → l ≠ [] → w'.heap[x.block]? = w.heap[x.block]?) : InP w' a l := by
  rcases h with h | ⟨b, off, rfl, h1, h2⟩
  · exact .inl h
  · by_cases hl : l = []
    · exact .inl hl
    · exact .inr ⟨b, off, rfl, Nat.lt_of_lt_of_le h1 hs, fun i x hx => (h2 i x hx).kept (hb _ rfl hl)⟩
theorem InP.lt {w : World} {a : Option Addr} {l : List Pt} (h : InP w a l) : ∀ x, a = some x → l ≠ [] → x.block < w.heap.size := by
  intro x hx hl
  rcases h with h | ⟨b, off, rfl, h1, h2⟩
  · exact absurd h hl
  · cases hx; exact h1
theorem InP.keep {w w' : World} {a : Option Addr} {l : List Pt} (h : InP w a l) (hb : Below w.heap.size w w') : InP w' a l := h.kept hb.size fun x hx hl => hb.block _ (h.lt x hx hl)
theorem InP.at {w : World} {a : Option Addr} {l : List Pt} (h : InP w a l) {i : Nat} {x : Pt} (hx : l[i]? = some x) : ∃ b off, a = some ⟨b, off, none⟩ ∧ b < w.heap.size ∧ Pc w b (off + i * 3) x := by
  rcases h with h | ⟨b, off, e, h1, h2⟩
  · rw [h] at hx; cases hx
  · exact ⟨b, off, e, h1, h2 i x hx⟩
/-- a slice of changes of one's own, from block 'base' on -/
def OwnP (w : World) (base : Nat) (v : Value) (l : List Pt) : Prop := w.ownsRow base 45 3 v l.length (pcs l)
theorem OwnP.nil (w : World) (base : Nat) : OwnP w base (.slice none 0 0) [] := World.ownsRow_nil _ _ _ _
theorem OwnP.own {w : World} {base : Nat} {v : Value} {l : List Pt} (h : OwnP w base v l) : ∀ k, v.ownBlock = some k → base ≤ k ∧ k < w.heap.size := fun k hk => World.ownsRow.lt h k hk
theorem OwnP.kept {w w' : World} {base : Nat} {v : Value} {l : List Pt} (h : OwnP w base v l) (hb : ∀ k, v.ownBlock = some k → w'.heap[k]? = w.heap[k]?) : OwnP w' base v l := by
  refine ⟨h.1, ?_⟩
  rcases h.2 with h1 | ⟨g, cap, cur, rfl, hbg, hg, rest⟩
  · exact .inl h1
  · exact .inr ⟨g, cap, cur, rfl, hbg, (hb g rfl).trans hg, rest⟩
theorem OwnP.keep {w w' : World} {base : Nat} {v : Value} {l : List Pt} (h : OwnP w base v l) (hb : Below w.heap.size w w') : OwnP w' base v l := h.kept fun k hk => hb.block k (h.own k hk).2
theorem OwnP.base {w : World} {a b : Nat} {v : Value} {l : List Pt} (h : OwnP w b v l) (hab : a ≤ b) : OwnP w a v l := by
  refine ⟨h.1, ?_⟩
  rcases h.2 with h1 | ⟨g, cap, cur, rfl, hbg, rest⟩
  · exact .inl h1
  · exact .inr ⟨g, cap, cur, rfl, Nat.le_trans hab hbg, rest⟩
theorem OwnP.slice {w : World} {base : Nat} {v : Value} {l : List Pt} (h : OwnP w base v l) : ∃ a c, v = .slice a l.length c ∧ InP w a l ∧ l.length ≤ c ∧ c ≤ 9223372036854775807 ∧ (a = none → c = 0 ∧ l = []) ∧ ∀ x, a = some x → base ≤ x.block ∧ x.block < w.heap.size := by
  rcases h.2 with ⟨rfl, hn⟩ | ⟨g, cap, cur, rfl, hb, hg, hl, hm, hs, ht⟩
  · have : l = [] := List.length_eq_zero_iff.1 hn
    subst this
    exact ⟨none, 0, rfl, .inl rfl, by simp, by omega, fun _ => ⟨rfl, rfl⟩, fun x hx => by cases hx⟩
  · simp only [maxLen] at hm
    refine ⟨_, _, rfl, .inr ⟨g, 0, rfl, (h.own g rfl).2, fun i x hx => ?_⟩, hl, by omega, fun h => by simp at h, fun x hx => by cases hx; exact h.own g rfl⟩
    have hc : ∀ k v, k < 3 → (pcl x)[k]? = some v → w.cell? ⟨g, 0 + i * 3 + k, none⟩ = some v := by
      intro k v hk hv
      have := World.ownsRow.cells h (g := g) rfl (i * 3 + k) v (by rw [pcs_at l i x hx k hk]; exact hv)
      rw [add_plain, Nat.zero_add] at this
      rw [Nat.zero_add]
      exact this
    exact ⟨hc 0 _ (by omega) rfl, hc 1 _ (by omega) rfl, hc 2 _ (by omega) rfl⟩
theorem infoP : ∃ i, Tryz.prog.info? 45 = some i ∧ i.zero = some (.agg #[.string ⟨#[]⟩, .string ⟨#[]⟩, .bool false]) ∧ i.size = 3 ∧ i.bytes = 40 := info_parts (show (Tryz.prog.info? 45).map (fun i => (i.zero, i.size, i.bytes)) = some (some (.agg #[.string ⟨#[]⟩, .string ⟨#[]⟩, .bool false]), 3, 40) by kernel_rfl)
theorem pc_cells {w : World} {g : Nat} {x : Pt} {t : TypeId} (h : w.heap[g]? = some (.cells (pC x) t)) : Pc w g 0 x := by
  refine ⟨?_, ?_, ?_⟩ <;> simp [World.cell?, h, pC]
theorem append_put {w : World} {ops : Array Oper} {rest : List Oper} {o : Oper} {act : Act} {Q : Exit → Act → World → Prop} (hgd : o.guard = none) (s x : Operand)
    (ho : o.op = .call { callee := .builtin .append, args := #[s, x], argTypes := #[37, 37] })
    (base : Nat) (v : Value) (l : List Pt) (hs : act.eval s = v) (hown : OwnP w base v l)
    (g c : Nat) (y : Pt) (hx : act.eval x = .slice (some ⟨g, 0, none⟩) 1 c) (hc : w.heap[g]? = some (.cells (pC y) 45))
    (hN : l.length ≤ 1000000000) (hbase : base ≤ w.heap.size)
    (h : ∀ v' w', OwnP w' base v' (l ++ [y]) → w.grownBy w' v.ownBlock → wpList Tryz.prog ops Q rest (act.put o.dst v') w') :
    wpList Tryz.prog ops Q (o :: rest) act w := by
  obtain ⟨i, hi, hz, h1, h2⟩ := infoP
  refine wpList_append_own w hgd s x 37 ho base 45 i _ 3 40 Tryz.underlying37 hi hz h1 h2 rfl (by decide) v l.length _ hs hown ⟨g, 0, none⟩ 1 c (pcl y) hx rfl ?_ (by simp [pcl, Value.oneCell']) (by simp only [maxLen]; omega) (by omega) hbase ?_
  · intro j u hu
    obtain ⟨h0, h1, h2⟩ := pc_cells hc
    rw [add_plain, Nat.zero_add]
    have hj : j < 3 := by
      have := (List.getElem?_eq_some_iff.1 hu).1
      simpa [pcl] using this
    rcases (by omega : j = 0 ∨ j = 1 ∨ j = 2) with rfl | rfl | rfl <;> (simp [pcl] at hu; subst hu; assumption)
  · intro v' w' hown' hg _
    refine h v' w' ?_ hg
    unfold OwnP
    rw [List.length_append]
    have : pcs (l ++ [y]) = pcs l ++ pcl y := by simp [pcs]
    rw [this]
    exact hown'
end Go.Proofs.YtcindeechmpalaaGreat
