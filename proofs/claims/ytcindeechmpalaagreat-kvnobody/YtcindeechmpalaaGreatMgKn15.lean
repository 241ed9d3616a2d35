/- A log in memory; Waiting, Used, Room, Records. A log's slices, laid anew; Add. -/
import Derived.Test.YtcindeechmpalaaGreatMgKn14
import Derived.Deep.RegionHeld3
namespace Go.Proofs.YtcindeechmpalaaGreat
open Go.ChangeShapes Go.WideShapes Go.ChangeAt Go.RowKit Go.Deep Go.Maps
set_option linter.unusedVariables false
/-- the plain log, without its disk -/
structure Lg where
  m : Nat
  no : Nat
  ar : Nat
  R : List (List Int)
  W : List (List Int)
  lost : Bool
def Lg.ln (l : Lg) : Nat := (joinL l.R).length
structure Lg.Ok (l : Lg) (N : Nat) : Prop where
  m : l.m ≤ 2047
  no : l.no ≤ 1152921504606846976 + N
  ar : l.ar ≤ 1
  room : l.ln + (joinL l.W).length ≤ 64 * l.m
  rb : ∀ B ∈ l.R, IsBytes B ∧ B.length ≤ 4096
  wb : ∀ B ∈ l.W, IsBytes B ∧ B.length ≤ 4096
theorem joinL_count : ∀ (Bs : List (List Int)), 8 * Bs.length ≤ (joinL Bs).length
  | [] => Nat.zero_le _
  | B :: Bs => by
    have := joinL_count Bs
    rw [joinL, List.length_append, frameL_length, List.length_cons]
    omega
theorem Lg.Ok.few {l : Lg} {N : Nat} (h : l.Ok N) : l.R.length ≤ 16376 ∧ l.W.length ≤ 16376 ∧ l.ln ≤ 131008 ∧ (joinL l.W).length ≤ 131008 := by
  have h1 := joinL_count l.R
  have h2 := joinL_count l.W
  have h3 := h.room
  have h4 := h.m
  unfold Lg.ln at *
  omega
theorem Lg.Ok.more {l : Lg} {N N' : Nat} (h : l.Ok N) (hN : N ≤ N') : l.Ok N' := ⟨h.m, by have := h.no; omega, h.ar, h.room, h.rb, h.wb⟩
/-- the parts of a log in memory -/
structure LmP (w : World) (bl bd : Nat) (l : Lg) (vr vw vf : Value) : Prop where
  cell : LgC w bl bd l.m l.no l.ar l.ln vr vw vf l.lost
  recs : RowsS w 0 vr l.R
  wait : RowsS w 0 vw l.W
  frs : Owned w 0 vf (joinL l.W)
  apart : ∀ k, vr.ownBlock = some k → vw.ownBlock ≠ some k
/-- its blocks -/
def Lf (bl : Nat) (vr vw vf : Value) (k : Nat) : Prop := k = bl ∨ vr.ownBlock = some k ∨ vw.ownBlock = some k ∨ vf.ownBlock = some k
/-- block bl is the log l of the disk in block bd; G are its blocks -/
def Lm (w : World) (G : Nat → Prop) (bl bd : Nat) (l : Lg) : Prop := ∃ vr vw vf, LmP w bl bd l vr vw vf ∧ ∀ k, G k ↔ Lf bl vr vw vf k
theorem LmP.lt {w : World} {bl bd : Nat} {l : Lg} {vr vw vf : Value} (h : LmP w bl bd l vr vw vf) (k : Nat) (hk : Lf bl vr vw vf k) : k < w.heap.size := by
  rcases hk with rfl | hk | hk | hk
  · exact h.cell.lt
  · exact h.recs.lt k hk
  · exact h.wait.lt k hk
  · exact Owned.lt' h.frs k hk
theorem Lm.lt {w : World} {G : Nat → Prop} {bl bd : Nat} {l : Lg} (h : Lm w G bl bd l) : ∀ k, G k → k < w.heap.size := by
  obtain ⟨vr, vw, vf, p, hG⟩ := h
  exact fun k hk => p.lt k ((hG k).1 hk)
theorem Lm.b {w : World} {G : Nat → Prop} {bl bd : Nat} {l : Lg} (h : Lm w G bl bd l) : G bl := by
  obtain ⟨vr, vw, vf, p, hG⟩ := h
  exact (hG bl).2 (.inl rfl)
theorem LmP.kept {w w' : World} {bl bd : Nat} {l : Lg} {vr vw vf : Value} (h : LmP w bl bd l vr vw vf) (hb : ∀ k, Lf bl vr vw vf k → w'.heap[k]? = w.heap[k]?) : LmP w' bl bd l vr vw vf :=
  ⟨(hb bl (.inl rfl)).trans h.cell, h.recs.kept fun k hk => hb k (.inr (.inl hk)), h.wait.kept fun k hk => hb k (.inr (.inr (.inl hk))), owned_kept h.frs fun k hk => hb k (.inr (.inr (.inr hk))), h.apart⟩
theorem Lm.kept {w w' : World} {G : Nat → Prop} {bl bd : Nat} {l : Lg} (h : Lm w G bl bd l) (hb : ∀ k, G k → w'.heap[k]? = w.heap[k]?) : Lm w' G bl bd l := by
  obtain ⟨vr, vw, vf, p, hG⟩ := h
  exact ⟨vr, vw, vf, p.kept fun k hk => hb k ((hG k).2 hk), hG⟩
theorem Lm.keep {w w' : World} {G : Nat → Prop} {bl bd : Nat} {l : Lg} (h : Lm w G bl bd l) (hb : Below w.heap.size w w') : Lm w' G bl bd l := h.kept fun k hk => hb.block k (h.lt k hk)
theorem Lm.apart {w w' : World} {F G : Nat → Prop} {bl bd : Nat} {l : Lg} (h : Lm w G bl bd l) (ho : Off F w w') (hd : ∀ k, G k → ¬ F k) : Lm w' G bl bd l := h.kept fun k hk => ho.block k (h.lt k hk) (hd k hk)
theorem cells_type {w : World} {base e n : Nat} {v : Value} {xs : List Value} (h : w.ownsRow base e 1 v n xs) (k : Nat) (hk : v.ownBlock = some k) : ∃ cs, w.heap[k]? = some (.cells cs e) := by
  rcases h.2 with ⟨rfl, _⟩ | ⟨g, cap, cur, rfl, _, hgb, _⟩
  · simp [Value.ownBlock] at hk
  · have : g = k := by simpa [Value.ownBlock] using hk
    subst this
    exact ⟨cur, hgb⟩
/-- its blocks are unlike one another -/
theorem LmP.offs {w : World} {bl bd : Nat} {l : Lg} {vr vw vf : Value} (h : LmP w bl bd l vr vw vf) : (∀ k, vr.ownBlock = some k → k ≠ bl ∧ vf.ownBlock ≠ some k) ∧ (∀ k, vw.ownBlock = some k → k ≠ bl ∧ vf.ownBlock ≠ some k) ∧ (∀ k, vf.ownBlock = some k → k ≠ bl) := by
  have hc : w.heap[bl]? = some (lgO bd l.m l.no l.ar l.ln vr vw vf l.lost) := h.cell
  refine ⟨fun k hk => ⟨?_, fun hf => ?_⟩, fun k hk => ⟨?_, fun hf => ?_⟩, fun k hk => ?_⟩
  · rintro rfl
    obtain ⟨cs, hx⟩ := cells_type h.recs k hk
    rw [hc] at hx
    simp [lgO] at hx
  · obtain ⟨cs, hx⟩ := cells_type h.recs k hk
    obtain ⟨ds, hy⟩ := cells_type h.frs k hf
    rw [hx] at hy
    simp at hy
  · rintro rfl
    obtain ⟨cs, hx⟩ := cells_type h.wait k hk
    rw [hc] at hx
    simp [lgO] at hx
  · obtain ⟨cs, hx⟩ := cells_type h.wait k hk
    obtain ⟨ds, hy⟩ := cells_type h.frs k hf
    rw [hx] at hy
    simp at hy
  · rintro rfl
    obtain ⟨cs, hx⟩ := cells_type h.frs k hk
    rw [hc] at hx
    simp [lgO] at hx
def Lg.room (l : Lg) : Nat := 64 * l.m - l.ln - (joinL l.W).length
theorem wroom_is (w : World) (G : Nat → Prop) (bl bd N : Nat) (l : Lg) (h : Lm w G bl bd l) (hok : l.Ok N) : Calls Tryz.prog 110 #[.pointer (some ⟨bl, 0, none⟩)] w fun e w' => e = .returned (.int .i64 (l.room : Nat)) ∧ Below w.heap.size w w' := by
  obtain ⟨vr, vw, vf, p, hG⟩ := h
  have hm := hok.m
  have hf := hok.few
  have hr := hok.room
  have K : Hid (Calls Tryz.prog 72 #[.pointer (some ⟨bl, 0, none⟩)] w fun e w' => e = .returned (.bool false) ∧ w' = w) := isNone_no w bl bd p.cell.cells.c0
  have KS : Hid (∀ k, Calls Tryz.prog 88 #[.pointer (some ⟨bl, 0, none⟩)] (w.drewN k) fun e w' => e = .returned (.int .i64 (64 * (l.m : Int))) ∧ w' = w.drewN k) := fun k => wsize_is _ bl l.m (by omega) p.cell.cells.c1
  have c4 := p.cell.cells.c4
  have c7 := p.cell.cells.c7
  obtain ⟨a, c, rfl, _⟩ := p.frs.slice
  have e1 : ((l.room : Nat) : Int) = 64 * (l.m : Int) - (l.ln : Nat) - ((joinL l.W).length : Nat) := by unfold Lg.room; omega
  have E1 : Hid (((l.room : Nat) : Int) = 64 * (l.m : Int) - (l.ln : Nat) - ((joinL l.W).length : Nat)) := e1
  rw [e1]
  clear e1 p hG hok
  generalize (joinL l.W).length = y at *
  generalize l.ln = x at *
  go_enter Tryz.func110, Tryz.ntmps110
  go_wp2_with fail
  refine K.out.mono ?_
  rintro e w1 ⟨rfl, rfl⟩
  go_wp2_with fail
  go_quiet ((go_at_call 88; refine (KS.out _).mono ?_; exact fun _ _ h => ⟨h.1, _, h.2⟩))
  go_wp2_with fail
  go_ret
  exact ⟨rfl, below_drewN (Below.refl _ _) _⟩
theorem wrecords_is (w : World) (G : Nat → Prop) (bl bd N : Nat) (l : Lg) (h : Lm w G bl bd l) (hok : l.Ok N) : Calls Tryz.prog 38 #[.pointer (some ⟨bl, 0, none⟩)] w fun e w' => ∃ v, e = .returned v ∧ RowsS w' w.heap.size v l.R ∧ Below w.heap.size w w' := by
  obtain ⟨vr, vw, vf, p, hG⟩ := h
  have hf := hok.few
  have K : Hid (Calls Tryz.prog 72 #[.pointer (some ⟨bl, 0, none⟩)] w fun e w' => e = .returned (.bool false) ∧ w' = w) := isNone_no w bl bd p.cell.cells.c0
  have c5 := p.cell.cells.c5
  obtain ⟨a, c, rfl, ha, hin, _, _⟩ := p.recs.slice
  have KC : Hid (Calls Tryz.prog 73 #[.slice a l.R.length c] w fun e w' => ∃ v, e = .returned v ∧ RowsS w' w.heap.size v l.R ∧ Below w.heap.size w w') := cloneS_is w l.R _ c a rfl (by omega) (fun e => by have := ha e; rw [this.2]; exact ⟨rfl, this.1⟩) hin
  clear hin
  go_enter Tryz.func38, Tryz.ntmps38
  go_wp2_with fail
  refine K.out.mono ?_
  rintro e w1 ⟨rfl, rfl⟩
  go_wp2_with fail
  refine KC.out.mono ?_
  rintro e w2 ⟨v, rfl, hv, hb⟩
  have HV : Hid (RowsS w2 w1.heap.size v l.R ∧ Below w1.heap.size w1 w2) := ⟨hv, hb⟩
  clear hv hb
  go_wp2_with fail
  go_ret
  exact ⟨v, rfl, HV.out.1, HV.out.2⟩
end Go.Proofs.YtcindeechmpalaaGreat
namespace Go.Proofs.YtcindeechmpalaaGreat
open Go.ChangeShapes Go.WideShapes Go.ChangeAt Go.RowKit Go.Deep Go.Maps
set_option linter.unusedVariables false
/-- the parts of a log in memory, whatever its numbers and frames are -/
structure LmQ (w : World) (bl bd m no ar ln : Nat) (R W : List (List Int)) (Fr : List Int) (lost : Bool) (vr vw vf : Value) : Prop where
  cell : LgC w bl bd m no ar ln vr vw vf lost
  recs : RowsS w 0 vr R
  wait : RowsS w 0 vw W
  frs : Owned w 0 vf Fr
  apart : ∀ k, vr.ownBlock = some k → vw.ownBlock ≠ some k
theorem LmP.q {w : World} {bl bd : Nat} {l : Lg} {vr vw vf : Value} (h : LmP w bl bd l vr vw vf) : LmQ w bl bd l.m l.no l.ar l.ln l.R l.W (joinL l.W) l.lost vr vw vf := ⟨h.cell, h.recs, h.wait, h.frs, h.apart⟩
theorem LmQ.p {w : World} {bl bd : Nat} {l : Lg} {vr vw vf : Value} (h : LmQ w bl bd l.m l.no l.ar l.ln l.R l.W (joinL l.W) l.lost vr vw vf) : LmP w bl bd l vr vw vf := ⟨h.cell, h.recs, h.wait, h.frs, h.apart⟩
theorem LmQ.offs {w : World} {bl bd m no ar ln : Nat} {R W : List (List Int)} {Fr : List Int} {lost : Bool} {vr vw vf : Value} (h : LmQ w bl bd m no ar ln R W Fr lost vr vw vf) : (∀ k, vr.ownBlock = some k → k ≠ bl ∧ vf.ownBlock ≠ some k ∧ vw.ownBlock ≠ some k) ∧ (∀ k, vw.ownBlock = some k → k ≠ bl ∧ vf.ownBlock ≠ some k ∧ vr.ownBlock ≠ some k) ∧ (∀ k, vf.ownBlock = some k → k ≠ bl ∧ vr.ownBlock ≠ some k ∧ vw.ownBlock ≠ some k) := by
  have hc : w.heap[bl]? = some (lgO bd m no ar ln vr vw vf lost) := h.cell
  have t1 : ∀ k, vr.ownBlock = some k → vf.ownBlock ≠ some k := fun k hk hf => by
    obtain ⟨cs, hx⟩ := cells_type h.recs k hk
    obtain ⟨ds, hy⟩ := cells_type h.frs k hf
    rw [hx] at hy
    simp at hy
  have t2 : ∀ k, vw.ownBlock = some k → vf.ownBlock ≠ some k := fun k hk hf => by
    obtain ⟨cs, hx⟩ := cells_type h.wait k hk
    obtain ⟨ds, hy⟩ := cells_type h.frs k hf
    rw [hx] at hy
    simp at hy
  refine ⟨fun k hk => ⟨?_, t1 k hk, h.apart k hk⟩, fun k hk => ⟨?_, t2 k hk, fun hr => h.apart k hr hk⟩, fun k hk => ⟨?_, fun e => t1 k e hk, fun e => t2 k e hk⟩⟩
  · rintro rfl
    obtain ⟨cs, hx⟩ := cells_type h.recs k hk
    rw [hc] at hx
    simp [lgO] at hx
  · rintro rfl
    obtain ⟨cs, hx⟩ := cells_type h.wait k hk
    rw [hc] at hx
    simp [lgO] at hx
  · rintro rfl
    obtain ⟨cs, hx⟩ := cells_type h.frs k hk
    rw [hc] at hx
    simp [lgO] at hx
theorem LmQ.lt {w : World} {bl bd m no ar ln : Nat} {R W : List (List Int)} {Fr : List Int} {lost : Bool} {vr vw vf : Value} (h : LmQ w bl bd m no ar ln R W Fr lost vr vw vf) (k : Nat) (hk : Lf bl vr vw vf k) : k < w.heap.size := by
  rcases hk with rfl | hk | hk | hk
  · exact h.cell.lt
  · exact h.recs.lt k hk
  · exact h.wait.lt k hk
  · exact Owned.lt' h.frs k hk
theorem LmQ.kept {w w' : World} {bl bd m no ar ln : Nat} {R W : List (List Int)} {Fr : List Int} {lost : Bool} {vr vw vf : Value} (h : LmQ w bl bd m no ar ln R W Fr lost vr vw vf) (hb : ∀ k, Lf bl vr vw vf k → w'.heap[k]? = w.heap[k]?) : LmQ w' bl bd m no ar ln R W Fr lost vr vw vf :=
  ⟨(hb bl (.inl rfl)).trans h.cell, h.recs.kept fun k hk => hb k (.inr (.inl hk)), h.wait.kept fun k hk => hb k (.inr (.inr (.inl hk))), owned_kept h.frs fun k hk => hb k (.inr (.inr (.inr hk))), h.apart⟩
theorem LmQ.keep {w w' : World} {bl bd m no ar ln : Nat} {R W : List (List Int)} {Fr : List Int} {lost : Bool} {vr vw vf : Value} (h : LmQ w bl bd m no ar ln R W Fr lost vr vw vf) (hb : Below w.heap.size w w') : LmQ w' bl bd m no ar ln R W Fr lost vr vw vf := h.kept fun k hk => hb.block k (h.lt k hk)
theorem LgC.setR {w : World} {bl bd m no ar ln : Nat} {vr vw vf : Value} {lost : Bool} (h : LgC w bl bd m no ar ln vr vw vf lost) (v : Value) : LgC (w.setCell ⟨bl, 5, none⟩ v) bl bd m no ar ln v vw vf lost := heap_setCell_same _ h
theorem LgC.setW {w : World} {bl bd m no ar ln : Nat} {vr vw vf : Value} {lost : Bool} (h : LgC w bl bd m no ar ln vr vw vf lost) (v : Value) : LgC (w.setCell ⟨bl, 6, none⟩ v) bl bd m no ar ln vr v vf lost := heap_setCell_same _ h
theorem LgC.setF {w : World} {bl bd m no ar ln : Nat} {vr vw vf : Value} {lost : Bool} (h : LgC w bl bd m no ar ln vr vw vf lost) (v : Value) : LgC (w.setCell ⟨bl, 7, none⟩ v) bl bd m no ar ln vr vw v lost := heap_setCell_same _ h
theorem gB_refl (w : World) (row : Option Nat) : w.grownBy w row := ⟨rfl, rfl, rfl, Nat.le_refl _, fun _ _ _ => rfl⟩
theorem off_set {G : Nat → Prop} {w w1 : World} {bl i : Nat} {v : Value} (h : Off G w w1) (hG : G bl) : Off G w (w1.setCell ⟨bl, i, none⟩ v) := h.grown (grown_setCell w1 bl i v) (fun k e => .inl (Option.some.inj e ▸ hG))
theorem set_other {w : World} {bl i k : Nat} {v : Value} (h : k ≠ bl) : (w.setCell ⟨bl, i, none⟩ v).heap[k]? = w.heap[k]? := Below.heap_setCell _ _ _ _ h
/-- what waits is laid anew -/
theorem LmQ.setW {w w1 : World} {bl bd m no ar ln : Nat} {R W W' : List (List Int)} {Fr : List Int} {lost : Bool} {vr vw vf v : Value} (h : LmQ w bl bd m no ar ln R W Fr lost vr vw vf) (hg : w.grownBy w1 vw.ownBlock) (ho : RowsS w1 0 v W') (hat : v.ownBlock = vw.ownBlock ∨ v.ownBlock = some w.heap.size ∨ v.ownBlock = none) :
    LmQ (w1.setCell ⟨bl, 6, none⟩ v) bl bd m no ar ln R W' Fr lost vr v vf ∧ Step (Lf bl vr vw vf) (Lf bl vr v vf) w (w1.setCell ⟨bl, 6, none⟩ v) := by
  obtain ⟨o1, o2, o3⟩ := h.offs
  have hvb : ∀ k, v.ownBlock = some k → k ≠ bl ∧ vr.ownBlock ≠ some k := fun k hk => by
    rcases hat with e | e | e
    · have := o2 k (by rw [← e]; exact hk); exact ⟨this.1, this.2.2⟩
    · have e2 : w.heap.size = k := by rw [e] at hk; exact Option.some.inj hk
      exact ⟨fun e => by have := h.cell.lt; omega, fun e => by have := h.recs.lt k e; omega⟩
    · rw [e] at hk; cases hk
  refine ⟨⟨LgC.setW ((hg.block bl h.cell.lt (fun e => (o2 bl e.symm).1 rfl)).trans h.cell) v, ?_, ?_, ?_, fun k hk hw => (hvb k hw).2 hk⟩, ⟨off_set ((Off.refl _ w).grown hg (fun k e => .inl (.inr (.inr (.inl e))))) (.inl rfl), fun k hk => ?_⟩⟩
  · exact h.recs.kept fun k hk => (set_other (o1 k hk).1).trans (hg.block k (h.recs.lt k hk) (fun e => (o1 k hk).2.2 e.symm))
  · exact ho.kept fun k hk => set_other (hvb k hk).1
  · exact owned_kept h.frs fun k hk => (set_other (o3 k hk).1).trans (hg.block k (Owned.lt' h.frs k hk) (fun e => (o3 k hk).2.2 e.symm))
  · rcases hk with hk | hk | hk | hk
    · exact .inl (.inl hk)
    · exact .inl (.inr (.inl hk))
    · rcases hat with e | e | e
      · exact .inl (.inr (.inr (.inl (by rw [← e]; exact hk))))
      · rw [e] at hk; exact .inr (Nat.le_of_eq (Option.some.inj hk))
      · rw [e] at hk; cases hk
    · exact .inl (.inr (.inr (.inr hk)))
/-- the frames are laid anew -/
theorem LmQ.setF {w w1 : World} {bl bd m no ar ln : Nat} {R W : List (List Int)} {Fr Fr' : List Int} {lost : Bool} {vr vw vf v : Value} (h : LmQ w bl bd m no ar ln R W Fr lost vr vw vf) (hg : w.grownBy w1 vf.ownBlock) (ho : Owned w1 0 v Fr') (hat : v.ownBlock = vf.ownBlock ∨ v.ownBlock = some w.heap.size ∨ v.ownBlock = none) :
    LmQ (w1.setCell ⟨bl, 7, none⟩ v) bl bd m no ar ln R W Fr' lost vr vw v ∧ Step (Lf bl vr vw vf) (Lf bl vr vw v) w (w1.setCell ⟨bl, 7, none⟩ v) := by
  obtain ⟨o1, o2, o3⟩ := h.offs
  have hvb : ∀ k, v.ownBlock = some k → k ≠ bl := fun k hk => by
    rcases hat with e | e | e
    · exact (o3 k (by rw [← e]; exact hk)).1
    · have e2 : w.heap.size = k := by rw [e] at hk; exact Option.some.inj hk
      exact fun e => by have := h.cell.lt; omega
    · rw [e] at hk; cases hk
  refine ⟨⟨LgC.setF ((hg.block bl h.cell.lt (fun e => (o3 bl e.symm).1 rfl)).trans h.cell) v, ?_, ?_, ?_, h.apart⟩, ⟨off_set ((Off.refl _ w).grown hg (fun k e => .inl (.inr (.inr (.inr e))))) (.inl rfl), fun k hk => ?_⟩⟩
  · exact h.recs.kept fun k hk => (set_other (o1 k hk).1).trans (hg.block k (h.recs.lt k hk) (fun e => (o1 k hk).2.1 e.symm))
  · exact h.wait.kept fun k hk => (set_other (o2 k hk).1).trans (hg.block k (h.wait.lt k hk) (fun e => (o2 k hk).2.1 e.symm))
  · exact owned_kept ho fun k hk => set_other (hvb k hk)
  · rcases hk with hk | hk | hk | hk
    · exact .inl (.inl hk)
    · exact .inl (.inr (.inl hk))
    · exact .inl (.inr (.inr (.inl hk)))
    · rcases hat with e | e | e
      · exact .inl (.inr (.inr (.inr (by rw [← e]; exact hk))))
      · rw [e] at hk; exact .inr (Nat.le_of_eq (Option.some.inj hk))
      · rw [e] at hk; cases hk
/-- the records are laid anew -/
theorem LmQ.setR {w w1 : World} {bl bd m no ar ln : Nat} {R W R' : List (List Int)} {Fr : List Int} {lost : Bool} {vr vw vf v : Value} (h : LmQ w bl bd m no ar ln R W Fr lost vr vw vf) (hg : w.grownBy w1 vr.ownBlock) (ho : RowsS w1 0 v R') (hat : v.ownBlock = vr.ownBlock ∨ (∀ k, v.ownBlock = some k → w.heap.size ≤ k)) :
    LmQ (w1.setCell ⟨bl, 5, none⟩ v) bl bd m no ar ln R' W Fr lost v vw vf ∧ Step (Lf bl vr vw vf) (Lf bl v vw vf) w (w1.setCell ⟨bl, 5, none⟩ v) := by
  obtain ⟨o1, o2, o3⟩ := h.offs
  have hvb : ∀ k, v.ownBlock = some k → k ≠ bl ∧ vw.ownBlock ≠ some k := fun k hk => by
    rcases hat with e | e
    · have := o1 k (by rw [← e]; exact hk); exact ⟨this.1, this.2.2⟩
    · have e2 := e k hk
      exact ⟨fun e => by have := h.cell.lt; omega, fun e => by have := h.wait.lt k e; omega⟩
  refine ⟨⟨LgC.setR ((hg.block bl h.cell.lt (fun e => (o1 bl e.symm).1 rfl)).trans h.cell) v, ?_, ?_, ?_, fun k hk hw => (hvb k hk).2 hw⟩, ⟨off_set ((Off.refl _ w).grown hg (fun k e => .inl (.inr (.inl e)))) (.inl rfl), fun k hk => ?_⟩⟩
  · exact ho.kept fun k hk => set_other (hvb k hk).1
  · exact h.wait.kept fun k hk => (set_other (o2 k hk).1).trans (hg.block k (h.wait.lt k hk) (fun e => (o2 k hk).2.2 e.symm))
  · exact owned_kept h.frs fun k hk => (set_other (o3 k hk).1).trans (hg.block k (Owned.lt' h.frs k hk) (fun e => (o3 k hk).2.1 e.symm))
  · rcases hk with hk | hk | hk | hk
    · exact .inl (.inl hk)
    · rcases hat with e | e
      · exact .inl (.inr (.inl (by rw [← e]; exact hk)))
      · exact .inr (e k hk)
    · exact .inl (.inr (.inr (.inl hk)))
    · exact .inl (.inr (.inr (.inr hk)))
theorem LmQ.steps {w w' : World} {bl bd m no ar ln : Nat} {R W : List (List Int)} {Fr : List Int} {lost : Bool} {vr vw vf : Value} (h : LmQ w bl bd m no ar ln R W Fr lost vr vw vf) (hb : Below w.heap.size w w') : Step (Lf bl vr vw vf) (Lf bl vr vw vf) w w' := ⟨Off.ofBelow _ hb, fun _ hk => .inl hk⟩
theorem LmQ.fr {w : World} {bl bd m no ar ln : Nat} {R W : List (List Int)} {Fr : List Int} {lost : Bool} {vr vw vf : Value} {w1 : World} {row : Option Nat} (h : LmQ w bl bd m no ar ln R W Fr lost vr vw vf) (hg : w.grownBy w1 row) (hr : row ≠ some bl) : LgC w1 bl bd m no ar ln vr vw vf lost := (hg.block bl h.cell.lt (fun e => hr e.symm)).trans h.cell
theorem one_in {w : World} {a : Addr} {rec : List Int} (h : w.cell? a = some (.string (strOfNums rec))) : InS w (some a) [rec] := by
  obtain ⟨b, off, sp⟩ := a
  have hsp : sp = none := by simpa using World.cell?_spot h
  subst hsp
  exact .inr ⟨b, off, rfl, fun i hi => by
    have : i = 0 := by simpa using hi
    subst this
    exact h⟩
/-- l.waiting = append(l.waiting, rec), up to the store -/
theorem appW {w : World} {ops : Array Oper} {rest : List Oper} {o : Oper} {act : Act} {Q : Exit → Act → World → Prop} (hgd : o.guard = none) (s x : Operand)
    (ho : o.op = .call { callee := .builtin .append, args := #[s, x], argTypes := #[82, 82] })
    {bl bd m no ar ln : Nat} {R W : List (List Int)} {Fr : List Int} {lost : Bool} {vr vw vf : Value} (q : LmQ w bl bd m no ar ln R W Fr lost vr vw vf) (hs : act.eval s = vw)
    (a : Addr) (rec : List Int) (hx : act.eval x = .slice (some a) 1 1) (hc : w.cell? a = some (.string (strOfNums rec))) (hW : W.length ≤ 1000000)
    (h : ∀ a' c' w', Hid (LmQ (w'.setCell ⟨bl, 6, none⟩ (.slice a' (W.length + 1) c')) bl bd m no ar ln R (W ++ [rec]) Fr lost vr (.slice a' (W.length + 1) c') vf ∧ Step (Lf bl vr vw vf) (Lf bl vr (.slice a' (W.length + 1) c') vf) w (w'.setCell ⟨bl, 6, none⟩ (.slice a' (W.length + 1) c'))) → w'.cell? ⟨bl, 6, none⟩ = some vw → w'.frozen? ⟨bl, 6, none⟩ = false → w'.cell? ⟨bl, 7, none⟩ = some vf → wpList Tryz.prog ops Q rest (act.put o.dst (.slice a' (W.length + 1) c')) w') : wpList Tryz.prog ops Q (o :: rest) act w := by
  refine appTL hgd s x ho 0 vw W hs q.wait a 1 1 [rec] hx rfl (one_in hc) (by omega) (Nat.zero_le _) fun v' w' h1 h2 h3 => ?_
  obtain ⟨a', c', rfl, _⟩ := h1.slice
  rw [List.length_append, List.length_singleton] at h1 h3 ⊢
  have c := (q.fr h2 (fun e => (q.offs.2.1 bl e).1 rfl)).cells
  exact h a' c' w' (q.setW h2 h1 (h3.elim Or.inl fun e => .inr (.inl e))) c.c6 (c.f 6) c.c7
/-- l.frames = append(l.frames, b...), up to the store -/
theorem appF {w : World} {ops : Array Oper} {rest : List Oper} {o : Oper} {act : Act} {Q : Exit → Act → World → Prop} (hgd : o.guard = none) (s x : Operand)
    (ho : o.op = .call { callee := .builtin .append, args := #[s, x], argTypes := #[86, 86] })
    {bl bd m no ar ln : Nat} {R W : List (List Int)} {Fr : List Int} {lost : Bool} {vr vw vf : Value} (q : LmQ w bl bd m no ar ln R W Fr lost vr vw vf) (hs : act.eval s = vf)
    (a : Addr) (n c : Nat) (L : List Int) (hx : act.eval x = .slice (some a) n c) (hn : L.length = n) (hc : Holds w (some a) L) (hW : Fr.length + n ≤ 1000000)
    (h : ∀ a' c' w', Hid (LmQ (w'.setCell ⟨bl, 7, none⟩ (.slice a' (Fr.length + n) c')) bl bd m no ar ln R W (Fr ++ L) lost vr vw (.slice a' (Fr.length + n) c') ∧ Step (Lf bl vr vw vf) (Lf bl vr vw (.slice a' (Fr.length + n) c')) w (w'.setCell ⟨bl, 7, none⟩ (.slice a' (Fr.length + n) c'))) → w'.cell? ⟨bl, 7, none⟩ = some vf → w'.frozen? ⟨bl, 7, none⟩ = false → wpList Tryz.prog ops Q rest (act.put o.dst (.slice a' (Fr.length + n) c')) w') : wpList Tryz.prog ops Q (o :: rest) act w := by
  refine appOL hgd s x ho 0 vf Fr hs q.frs a n c L hx hn hc (by omega) (Nat.zero_le _) fun v' w' h1 h2 h3 => ?_
  obtain ⟨a', c', rfl, _⟩ := h1.slice
  rw [List.length_append, hn] at h1 h3 ⊢
  have c := (q.fr h2 (fun e => (q.offs.2.2 bl e).1 rfl)).cells
  exact h a' c' w' (q.setF h2 h1 (h3.elim Or.inl fun e => .inr (.inl e))) c.c7 (c.f 7)
theorem Step.iff {F F' G : Nat → Prop} {w w' : World} (h : Step F F' w w') (hG : ∀ k, G k ↔ F k) : Step G F' w w' := ⟨⟨h.off.os, h.off.tape, h.off.output, h.off.size, fun k hk hn => h.off.block k hk (fun e => hn ((hG k).2 e))⟩, fun k hk => (h.sub k hk).elim (fun e => .inl ((hG k).2 e)) .inr⟩
/-- Add, plainly -/
def Lg.add (l : Lg) (rec : List Int) : Int × Lg := if l.lost = true then (15, l) else if (frO [rec] l.room).2 ≠ 0 then ((frO [rec] l.room).2, l) else (0, { l with W := l.W ++ [rec] })
theorem frO_one (rec : List Int) (room : Nat) : frO [rec] room = if 4096 < rec.length then ([], 3) else if room < 8 + rec.length then ([], 7) else (frameL rec, 0) := by
  unfold frO
  rw [joinL_one, frameL_length]
  by_cases h : 4096 < rec.length
  · rw [if_pos h, if_pos ⟨rec, by simp, h⟩]
  · rw [if_neg h, if_neg (by simpa using h)]
theorem Lg.add_ok {l : Lg} {N : Nat} (h : l.Ok N) {rec : List Int} (hB : IsBytes rec) : (l.add rec).2.Ok N := by
  unfold Lg.add
  split
  · exact h
  · split
    · exact h
    · rename_i h1 h2
      rw [frO_one] at h2
      have h3 : ¬ 4096 < rec.length := fun e => h2 (by rw [if_pos e]; simp)
      rw [if_neg h3] at h2
      have h4 : ¬ l.room < 8 + rec.length := fun e => h2 (by rw [if_pos e]; simp)
      refine ⟨h.m, h.no, h.ar, ?_, h.rb, fun B hB2 => ?_⟩
      · show l.ln + (joinL (l.W ++ [rec])).length ≤ _
        rw [joinL_snoc, List.length_append, frameL_length]
        have := h.room
        unfold Lg.room at h4
        show _ ≤ 64 * l.m
        omega
      · rcases List.mem_append.1 hB2 with e | e
        · exact h.wb B e
        · have : B = rec := by simpa using e
          rw [this]
          exact ⟨hB, by omega⟩
set_option maxRecDepth 100000 in
set_option maxHeartbeats 4000000 in
theorem add_is (w : World) (G : Nat → Prop) (bl bd N : Nat) (l : Lg) (h : Lm w G bl bd l) (hok : l.Ok N) (rec : List Int) (hB : IsBytes rec) :
    Calls Tryz.prog 79 #[.pointer (some ⟨bl, 0, none⟩), .string (strOfNums rec)] w fun e w' => e = .returned (.int .i64 (l.add rec).1) ∧ ∃ G', Lm w' G' bl bd (l.add rec).2 ∧ Step G G' w w' := by
  have H0 := h
  obtain ⟨vr, vw, vf, p, hG⟩ := h
  have hf := hok.few
  have K : Hid (Calls Tryz.prog 86 #[.pointer (some ⟨bl, 0, none⟩)] w fun e w' => e = .returned (.int .i64 (if l.lost then 15 else 0)) ∧ w' = w) := wready_is w bl bd l.lost p.cell.cells.c0 p.cell.cells.c8
  have hr1 : l.room ≤ 131008 := by have := hok.m; unfold Lg.room; omega
  by_cases hlost : l.lost = true
  · have e1 : l.add rec = (15, l) := by unfold Lg.add; rw [if_pos hlost]
    rw [e1]
    rw [if_pos hlost] at K
    go_enter Tryz.func79, Tryz.ntmps79
    go_wp2_with fail
    refine K.out.mono ?_
    rintro e w1 ⟨rfl, rfl⟩
    go_wp2_with fail
    go_ret
    exact ⟨rfl, G, H0, Step.refl G _⟩
  · rw [if_neg hlost] at K
    obtain ⟨X, hX⟩ : ∃ X, X = frO [rec] l.room := ⟨_, rfl⟩
    have HA : Hid (l.add rec = if X.2 ≠ 0 then (X.2, l) else (0, { l with W := l.W ++ [rec] })) := by show _ = _; unfold Lg.add; rw [if_neg hlost, hX]
    obtain ⟨A, hA⟩ : ∃ A, A = l.add rec := ⟨_, rfl⟩
    rw [← hA]
    rw [← hA] at HA
    have KR : Hid (∀ u, Below w.heap.size w u → Calls Tryz.prog 110 #[.pointer (some ⟨bl, 0, none⟩)] u fun e w' => e = .returned (.int .i64 (l.room : Nat)) ∧ Below u.heap.size u w') := fun u hu => wroom_is u G bl bd N l (H0.keep hu) hok
    have KF : Hid (∀ (u : World), u.cell? ⟨w.heap.size, 0, none⟩ = some (.string (strOfNums rec)) → Calls Tryz.prog 87 #[.slice (some ⟨w.heap.size, 0, none⟩) 1 1, .int .i64 (l.room : Nat)] u fun e w' => ∃ a' m' c', e = .returned (.tuple #[.slice a' m' c', .int .i64 X.2]) ∧ X.1.length = m' ∧ Owned w' u.heap.size (.slice a' m' c') X.1 ∧ Below u.heap.size u w') := fun u hu => by
      rw [hX]
      exact framesOf_is u _ 1 1 [rec] rfl (by omega) (.inr ⟨w.heap.size, 0, rfl, fun i hi => by
        have : i = 0 := by simpa using hi
        subst this
        exact hu⟩) (fun B hB2 => by have : B = rec := by simpa using hB2
                                    rw [this]; exact hB) l.room (by omega)
    have Q0 : Hid (LmQ w bl bd l.m l.no l.ar l.ln l.R l.W (joinL l.W) l.lost vr vw vf) := p.q
    have HG : Hid (∀ k, G k ↔ Lf bl vr vw vf k) := hG
    have HX0 : Hid (X.2 = 0 → X.1 = frameL rec ∧ rec.length ≤ 4096) := fun e => by
      rw [hX, frO_one] at e ⊢
      by_cases h1 : 4096 < rec.length
      · rw [if_pos h1] at e; cases e
      · rw [if_neg h1] at e ⊢
        by_cases h2 : l.room < 8 + rec.length
        · rw [if_pos h2] at e; cases e
        · rw [if_neg h2]; exact ⟨rfl, by omega⟩
    have hbl := p.cell.lt
    clear p hG H0 hX hA
    have B0 : Hid (Below w.heap.size w (w.alloc (.cells #[.string (strOfNums rec)] 9))) := gB_alloc w _
    have C0 : Hid ((w.alloc (.cells #[.string (strOfNums rec)] 9)).cell? ⟨w.heap.size, 0, none⟩ = some (.string (strOfNums rec))) := by show _ = _; rw [cell_of_row _ w.heap.size 0 _ _ (0, 0) (heap_alloc_new w _)]; rfl
    generalize hroom : l.room = room at *
    go_enter Tryz.func79, Tryz.ntmps79
    go_wp2_with fail
    refine K.out.mono ?_
    rintro e w1 ⟨rfl, rfl⟩
    go_wp2_with fail
    refine (KR.out _ B0.out).mono ?_
    rintro e w2 ⟨rfl, hb2⟩
    have B2 : Hid (Below w1.heap.size w1 w2) := B0.out.trans (hb2.mono B0.out.size)
    have C2 : w2.cell? ⟨w1.heap.size, 0, none⟩ = some (.string (strOfNums rec)) := (hb2.cell (p := ⟨w1.heap.size, 0, none⟩) (World.block_lt_of_cell? _ _ C0.out)).trans C0.out
    clear hb2
    go_wp2_with fail
    refine (KF.out w2 C2).mono ?_
    rintro e w3 ⟨a3, m3, c3, rfl, hm3, ho3, hb3⟩
    have B3 : Hid (Below w1.heap.size w1 w3) := B2.out.trans (hb3.mono B2.out.size)
    have Q3 : Hid (LmQ w3 bl bd l.m l.no l.ar l.ln l.R l.W (joinL l.W) l.lost vr vw vf) := Q0.out.keep B3.out
    by_cases he : X.2 = 0
    · have HA2 : Hid (A = (0, { l with W := l.W ++ [rec] })) := by show _ = _; rw [HA.out, if_neg (by simpa using he)]
      obtain ⟨hx1, hx2⟩ := HX0.out he
      rw [hx1] at hm3 ho3
      have O3 : Hid (Owned w3 w2.heap.size (.slice a3 m3 c3) (frameL rec)) := ho3
      have HM3 : Hid ((frameL rec).length = m3) := hm3
      have hm3' : m3 = 8 + rec.length := by rw [← hm3, frameL_length]
      have S2 : Hid (w1.heap.size ≤ w2.heap.size) := B2.out.size
      obtain ⟨g3, rfl⟩ : ∃ g3, a3 = Option.some ⟨g3, 0, none⟩ := by
        obtain ⟨g3, hg3⟩ := Owned.some ho3 (by omega)
        exact ⟨g3, hg3⟩
      have hg3w : g3 < w3.heap.size := Owned.lt' ho3 g3 rfl
      have hg3b : w2.heap.size ≤ g3 := (World.ownsRow.lt ho3 g3 rfl).1
      rw [he]
      have c6 := Q3.out.cell.cells.c6
      have Q4 : Hid (LmQ (w3.alloc (.cells #[.string (strOfNums rec)] 9)) bl bd l.m l.no l.ar l.ln l.R l.W (joinL l.W) l.lost vr vw vf) := Q3.out.keep (gB_alloc w3 _)
      have C4 : Hid ((w3.alloc (.cells #[.string (strOfNums rec)] 9)).cell? ⟨w3.heap.size, 0, none⟩ = some (.string (strOfNums rec))) := by show _ = _; rw [cell_of_row _ w3.heap.size 0 _ _ (0, 0) (heap_alloc_new w3 _)]; rfl
      have O4 : Hid (Owned (w3.alloc (.cells #[.string (strOfNums rec)] 9)) w2.heap.size (.slice (some ⟨g3, 0, none⟩) m3 c3) (frameL rec)) := O3.out.below (gB_alloc w3 _) (Owned.lt' O3.out)
      have Z4 : Hid ((w3.alloc (.cells #[.string (strOfNums rec)] 9)).heap.size = w3.heap.size + 1) := by show _ = _; simp
      clear hm3 ho3 hb3 hx1 C2
      have NL : Hid (∀ x : Addr, some (⟨g3, 0, none⟩ : Addr) = some x → frameL rec ≠ [] → x.block < (w3.alloc (.cells #[.string (strOfNums rec)] 9)).heap.size ∧ ¬ Lf bl vr vw vf x.block) := fun x hx _ => by
        obtain rfl := Option.some.inj hx
        refine ⟨by rw [Z4.out]; show g3 < _; omega, fun e => ?_⟩
        have h1 := Q0.out.lt g3 e
        have h2 := S2.out
        omega
      go_wp2_with (first | (at_builtin; refine appW rfl (.tmp 28) (.tmp 30) rfl Q4.out rfl ⟨w3.heap.size, 0, none⟩ rec rfl C4.out (by omega) ?_; intro a5 c5 w5 Q5 k6 f6 k7) | (at_builtin; refine appF rfl (.tmp 38) (.tmp 39) rfl Q5.out.1 rfl ⟨g3, 0, none⟩ (8 + rec.length) c3 (frameL rec) rfl (frameL_length rec) (Holds.step O4.out.holds.1 Q5.out.2 NL.out) (by omega) ?_; intro a6 c6 w6 Q6 k7b f7))
      go_ret
      refine ⟨by rw [HA2.out]; rfl, _, ⟨vr, .slice a5 (l.W.length + 1) c5, .slice a6 ((joinL l.W).length + (8 + rec.length)) c6, ?_, fun k => Iff.rfl⟩, ?_⟩
      · rw [HA2.out]
        have q := Q6.out.1
        rw [← joinL_snoc] at q
        exact LmQ.p (l := { l with W := l.W ++ [rec] }) q
      · exact ((((Q0.out.steps B3.out).trans (Q3.out.steps (gB_alloc w3 _))).trans Q5.out.2).trans Q6.out.2).iff HG.out
    · have HA2 : Hid (A = (X.2, l)) := by show _ = _; rw [HA.out, if_pos he]
      have e9 : (X.2 == 0) = false := by rw [beq_eq_false_iff_ne]; exact he
      clear hm3 ho3 hb3
      go_wp2_with fail
      go_ret
      exact ⟨by rw [HA2.out]; rfl, G, by rw [HA2.out]; exact ⟨vr, vw, vf, LmQ.p Q3.out, HG.out⟩, ⟨Off.ofBelow _ B3.out, fun _ hk => .inl hk⟩⟩
end Go.Proofs.YtcindeechmpalaaGreat
