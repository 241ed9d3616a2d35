/- bytes.Clone; Read. Image. -/
import Derived.Test.YtcindeechmpalaaGreatMgKn9
import Derived.Laws.CopyOwn
import Derived.Lib.BufferMore
import Derived.Laws.OwnMore
namespace Go.Proofs.YtcindeechmpalaaGreat
open Go.ChangeShapes Go.WideShapes Go.ChangeAt Go.RowKit Go.Deep Go.Maps
set_option linter.unusedVariables false
theorem owned_low {w : World} {a b : Nat} {v : Value} {A : List Int} (h : Owned w b v A) (hab : a ≤ b) : Owned w a v A := by
  refine ⟨h.1, ?_⟩
  rcases h.2 with h1 | ⟨g, cap, cur, rfl, hbg, rest⟩
  · exact .inl h1
  · exact .inr ⟨g, cap, cur, rfl, Nat.le_trans hab hbg, rest⟩
theorem owned_kept {w w' : World} {base : Nat} {v : Value} {A : List Int} (h : Owned w base v A) (hb : ∀ k, v.ownBlock = some k → w'.heap[k]? = w.heap[k]?) : Owned w' base v A := by
  refine ⟨h.1, ?_⟩
  rcases h.2 with h1 | ⟨g, cap, cur, rfl, hbg, hg, rest⟩
  · exact .inl h1
  · exact .inr ⟨g, cap, cur, rfl, hbg, (hb g rfl).trans hg, rest⟩
theorem bclone_is (w : World) (L : List Int) (n c : Nat) (x : Addr) (hn : L.length = n) (hm : n ≤ 140737488355328) (h0 : n ≠ 0) (hh : Holds w (some x) L) :
    Calls Tryz.prog 93 #[.slice (some x) n c] w fun e w' => ∃ g' c', e = .returned (.slice (some ⟨g', 0, none⟩) n c') ∧ Owned w' w.heap.size (.slice (some ⟨g', 0, none⟩) n c') L ∧ Below w.heap.size w w' := by
  have HL : Hid (Holds (w.alloc (.cells #[] 5)) (some x) L) := by
    rcases hh with rfl | ⟨b, off, hx, hc⟩
    · exact .inl rfl
    · refine .inr ⟨b, off, hx, fun i hi => ?_⟩
      have := hc i hi
      have hlt := World.block_lt_of_cell? _ _ this
      rw [((Below.refl w.heap.size w).alloc (Nat.le_refl _) _).cell hlt]
      exact this
  have hnil : ∀ W, (binOp .eql 86 (.slice (some x) n c) (.slice none 0 0)).run Tryz.prog W = .ok (.bool false) W := fun W => Lib.run_eql_slice_some_nil W _ _ _ Tryz.underlying86
  have HN : Hid (L.length = n ∧ n ≠ 0) := ⟨hn, h0⟩
  clear hh h0
  go_enter Tryz.func93, Tryz.ntmps93
  go_wp2_with (at_builtin; refine append_bytes rfl (.tmp 5) (.tmp 6) rfl w.heap.size _ [] rfl (owned_empty w w.heap.size (Nat.le_refl _)) _ _ _ L rfl hn HL.out (fun h => by simp at h) n (by simp) (by omega) (by simp) ?_; intro a1 c1 w1 hown1 hbel1; have OWN1 : Hid (Owned w1 w.heap.size (.slice a1 n c1) ([] ++ L)) := hown1; have B1 : Hid (Below w.heap.size w w1) := (((Below.refl _ _).alloc (Nat.le_refl _) _).trans hbel1); clear hown1 hbel1)
  go_ret
  have o := OWN1.out
  rw [List.nil_append] at o
  rcases o.2 with ⟨e, h1⟩ | ⟨g, cap, cur, e, hb, hg, _⟩
  · exact absurd (HN.out.1.symm.trans h1) HN.out.2
  · cases e
    exact ⟨g, _, rfl, o, B1.out⟩
set_option maxHeartbeats 4000000 in
theorem read_ref (w : World) (b g n c mb : Nat) (up : Bool) (done fuse : Int) (hn : 1 ≤ n) (h : D5 w b g n c mb up done fuse) (i : Int) (hr : rdyAt up n i ≠ 0) : Calls Tryz.prog 102 #[.pointer (some ⟨b, 0, none⟩), .int .i64 i] w fun e w' => e = .returned (.tuple #[.slice none 0 0, .int .i64 (rdyAt up n i)]) ∧ w' = w := by
  have K : Hid (Calls Tryz.prog 126 #[.pointer (some ⟨b, 0, none⟩), .int .i64 i] w fun e w' => e = .returned (.int .i64 (rdyAt up n i)) ∧ w' = w) := readyAt_is w b g n c mb up done fuse hn h i
  obtain ⟨c0, c1, c2, c3, c4⟩ := h
  generalize rdyAt up n i = r at *
  have e1 : (r == 0) = false := by rw [beq_eq_false_iff_ne]; exact hr
  go_enter Tryz.func102, Tryz.ntmps102
  go_wp2_with fail
  refine K.out.mono ?_
  rintro e w1 ⟨rfl, rfl⟩
  go_wp2_with fail
  go_ret2
  exact ⟨rfl, rfl⟩
theorem u8_one (C : List Int) : ((C.map (Value.int .u8)).toArray.all (·.oneCell')) = true := by
  rw [Array.all_eq_true_iff_forall_mem]; intro v hv; simp at hv; obtain ⟨z, _, rfl⟩ := hv; rfl
theorem holds_row {w : World} {g : Nat} {C : List Int} {t : TypeId} (h : w.heap[g]? = some (.cells (C.map (Value.int .u8)).toArray t)) : Holds w (some ⟨g, 0, none⟩) C := by
  refine .inr ⟨g, 0, rfl, fun i hi => ?_⟩
  simp only [World.cell?, h]
  simp [List.getD_eq_getElem?_getD, hi]
/-- what is behind a store of a whole block into a new one -/
theorem stored64 (w : World) (zz : Array Value) (C : List Int) : ((w.alloc (.cells zz 144)).setRow w.heap.size (C.map (Value.int .u8)).toArray).heap[w.heap.size]? = some (.cells (C.map (Value.int .u8)).toArray 144) ∧ Below w.heap.size w ((w.alloc (.cells zz 144)).setRow w.heap.size (C.map (Value.int .u8)).toArray) :=
  ⟨setRow_heap _ _ _ _ _ _ (heap_alloc_new w _), below_setRow ((Below.refl w.heap.size w).alloc (Nat.le_refl _) _) (Nat.le_refl _) _⟩
set_option maxRecDepth 100000 in
set_option maxHeartbeats 4000000 in
theorem dkread_is (w : World) (h b N : Nat) (D : List (List Int)) (W : Int → List (List Int)) (done fuse : Int) (gd cd mb : Nat) (T : Int → Option Hd) (hn : 1 ≤ D.length ∧ D.length ≤ 4096) (H : DkP w h b N D W true done fuse gd cd mb T) (i : Nat) (x : List Int) (hx : D[i]? = some x) (hWl : (W (i : Int)).length ≤ 1000000000) :
    Calls Tryz.prog 102 #[.pointer (some ⟨b, 0, none⟩), .int .i64 (i : Int)] w fun e w' => ∃ g' c', e = .returned (.tuple #[.slice (some ⟨g', 0, none⟩) 64 c', .int .i64 0]) ∧ Owned w' w.heap.size (.slice (some ⟨g', 0, none⟩) 64 c') (lastOf (W (i : Int)) x) ∧ Below w.heap.size w w' := by
  have h5 := d5_of H.cell
  have hi := (List.getElem?_eq_some_iff.1 hx).1
  have K : Hid (Calls Tryz.prog 126 #[.pointer (some ⟨b, 0, none⟩), .int .i64 (i : Int)] w fun e w' => e = .returned (.int .i64 0) ∧ w' = w) := (show rdyAt true D.length (i : Int) = 0 by simp [rdyAt]; omega) ▸ readyAt_is w b gd D.length cd mb true done fuse hn.1 h5 (i : Int)
  obtain ⟨q0, q1, q2, q3, q4⟩ := h5
  have hx64 := H.is64 x (List.mem_of_getElem? hx)
  have HR : Hid (w.rangeAt gd (i * 64) (x.map (Value.int .u8))) := OwnB.range H.dur H.is64 i x hx
  have LN : Hid ((x.map (Value.int .u8)).length = 64) := by show _ = _; simp [hx64.1]
  have AS : Hid ((x.map (Value.int .u8)).toArray.size = 64) := by show _ = _; simp [hx64.1]
  have AL : Hid ((x.map (Value.int .u8)).toArray.all (·.oneCell') = true) := u8_one x
  have HI : Hid (InI (i : Int)) := ⟨by omega, by omega⟩
  have HP : Hid (DkP w h b N D W true done fuse gd cd mb T) := H
  have HX : Hid (x.length = 64) := hx64.1
  clear H hx hx64
  cases hT : T (i : Int) with
  | none =>
    rw [(HP.out.nil _).1 hT, show lastOf [] x = x from rfl]
    have LK : Hid (∀ Wd, Below w.heap.size w Wd → (Instr.lookup 73 (.map (some mb)) (.int .i64 (i : Int)) false).run Tryz.prog Wd = .ok (.slice none 0 0) Wd) := fun Wd hb => by
      have := (HP.out.mp.keep hb).look (i : Int) HI.out
      rw [hT] at this
      exact this
    clear hT hWl
    go_enter Tryz.func102, Tryz.ntmps102
    go_wp2_with fail
    refine K.out.mono ?_
    rintro e w1 ⟨rfl, hw⟩
    obtain rfl := hw.symm
    clear hw K
    go_wp2_with (first | (refine wpList_load_mid rfl 144 (.tmp 20) rfl gd (i * 64) rfl ((x).map (Value.int .u8)) _ HR.out Tryz.underlying144 rfl (by rw [LN.out]; kernel_rfl) ?_) | (refine wpList_store_row rfl 144 (.tmp 7) (.tmp 21) rfl w.heap.size (x.map (Value.int .u8)).toArray rfl rfl 144 _ (heap_alloc_new w _) (by rw [AS.out]; kernel_rfl) (by rw [AS.out]; rfl) AL.out ?_; generalize hW2 : World.setRow _ _ _ = W2; have S2 : Hid (W2.heap[w.heap.size]? = some (.cells (x.map (Value.int .u8)).toArray 144) ∧ Below w.heap.size w W2) := (by rw [← hW2]; exact stored64 w _ x); have q1' : W2.cell? ⟨b, 1, none⟩ = some (.map (some mb)) := (S2.out.2.cell (p := ⟨b, 1, none⟩) (World.block_lt_of_cell? _ _ q1)).trans q1; have lk := LK.out W2 S2.out.2; clear hW2))
    refine (bclone_is W2 x 64 64 ⟨w.heap.size, 0, none⟩ HX.out (by omega) (by omega) (holds_row S2.out.1)).mono ?_
    rintro e w5 ⟨g', c', rfl, o5, b5⟩
    have O5 : Hid (Owned w5 w.heap.size (.slice (some ⟨g', 0, none⟩) 64 c') x) := owned_low o5 S2.out.2.size
    have B5 : Hid (Below w.heap.size w w5) := S2.out.2.trans (b5.mono S2.out.2.size)
    clear o5 b5
    go_wp2_with fail
    go_ret2
    exact ⟨g', c', rfl, O5.out, B5.out⟩
  | some z =>
    obtain ⟨_, ⟨g, c, rfl, hgd⟩, hown, h64⟩ := HP.out.row _ z hT
    have hne : W (i : Int) ≠ [] := fun e => by have := (HP.out.nil _).2 e; rw [this] at hT; cases hT
    obtain ⟨k, hk⟩ : ∃ k, (W (i : Int)).length = k + 1 := by
      cases h0 : W (i : Int) with
      | nil => exact absurd h0 hne
      | cons a l => exact ⟨l.length, rfl⟩
    obtain ⟨y, hy⟩ : ∃ y, (W (i : Int))[k]? = some y := ⟨_, List.getElem?_eq_getElem (by omega)⟩
    have hlast : lastOf (W (i : Int)) x = y := by unfold lastOf; rw [List.getLast?_eq_getElem?, show (W (i : Int)).length - 1 = k by omega, hy]; rfl
    rw [hlast]
    have hy64 := h64 y (List.mem_of_getElem? hy)
    have HR0 : w.rangeAt g (k * 64) (y.map (Value.int .u8)) := OwnB.range hown h64 k y hy
    have HR2 : Hid (∀ Wd, Below w.heap.size w Wd → Wd.rangeAt g (k * 64) (y.map (Value.int .u8))) := fun Wd hb j v hv => (hb.cell (p := ⟨g, k * 64 + j, none⟩) (hown.own g rfl).2).trans (HR0 j v hv)
    have LN2 : Hid ((y.map (Value.int .u8)).length = 64) := by show _ = _; simp [hy64.1]
    have AS2 : Hid ((y.map (Value.int .u8)).toArray.size = 64) := by show _ = _; simp [hy64.1]
    have AL2 : Hid ((y.map (Value.int .u8)).toArray.all (·.oneCell') = true) := u8_one y
    have HY : Hid (y.length = 64) := hy64.1
    have LK : Hid (∀ Wd, Below w.heap.size w Wd → (Instr.lookup 73 (.map (some mb)) (.int .i64 (i : Int)) false).run Tryz.prog Wd = .ok (.slice (some ⟨g, 0, none⟩) (k + 1) c) Wd) := fun Wd hb => by
      have := (HP.out.mp.keep hb).look (i : Int) HI.out
      rw [hT] at this
      rw [← hk]
      exact this
    have r1 : IntKind.i64.wrap ((k : Int) + 1 - 1) = (k : Int) := by rw [IntKind.wrap_i64]; omega
    have e1 : decide (0 < (k : Int) + 1) = true := by rw [decide_eq_true_eq]; omega
    have hk9 : k < 1000000000 := by omega
    clear hT hWl hown h64 hne hy hlast hy64 hgd HR0 hk
    go_enter Tryz.func102, Tryz.ntmps102
    go_wp2_with fail
    refine K.out.mono ?_
    rintro e w1 ⟨rfl, hw⟩
    obtain rfl := hw.symm
    clear hw K
    go_wp2_with (first | (refine wpList_load_mid rfl 144 (.tmp 20) rfl gd (i * 64) rfl ((x).map (Value.int .u8)) _ HR.out Tryz.underlying144 rfl (by rw [LN.out]; kernel_rfl) ?_) | (refine wpList_store_row rfl 144 (.tmp 7) (.tmp 21) rfl w.heap.size (x.map (Value.int .u8)).toArray rfl rfl 144 _ (heap_alloc_new w _) (by rw [AS.out]; kernel_rfl) (by rw [AS.out]; rfl) AL.out ?_; generalize hW2 : World.setRow _ _ _ = W2; have S2 : Hid (W2.heap[w.heap.size]? = some (.cells (x.map (Value.int .u8)).toArray 144) ∧ Below w.heap.size w W2) := (by rw [← hW2]; exact stored64 w _ x); have q1' : W2.cell? ⟨b, 1, none⟩ = some (.map (some mb)) := (S2.out.2.cell (p := ⟨b, 1, none⟩) (World.block_lt_of_cell? _ _ q1)).trans q1; have lk := LK.out W2 S2.out.2; clear hW2) | (refine wpList_load_mid rfl 144 (.tmp 35) rfl g (k * 64) rfl ((y).map (Value.int .u8)) _ (HR2.out W2 S2.out.2) Tryz.underlying144 rfl (by rw [LN2.out]; kernel_rfl) ?_) | (refine wpList_store_row rfl 144 (.tmp 7) (.tmp 36) rfl w.heap.size (y.map (Value.int .u8)).toArray rfl rfl 144 _ S2.out.1 (by rw [AS2.out]; kernel_rfl) (by rw [AS2.out, AS.out]) AL2.out ?_; generalize hW3 : World.setRow _ _ _ = W3; have S3 : Hid (W3.heap[w.heap.size]? = some (.cells (y.map (Value.int .u8)).toArray 144) ∧ Below w.heap.size w W3) := (by rw [← hW3]; exact ⟨setRow_heap _ _ _ _ _ _ S2.out.1, below_setRow S2.out.2 (Nat.le_refl _) _⟩); clear hW3))
    refine (bclone_is W3 y 64 64 ⟨w.heap.size, 0, none⟩ HY.out (by omega) (by omega) (holds_row S3.out.1)).mono ?_
    rintro e w5 ⟨g', c', rfl, o5, b5⟩
    have O5 : Hid (Owned w5 w.heap.size (.slice (some ⟨g', 0, none⟩) 64 c') y) := owned_low o5 S3.out.2.size
    have B5 : Hid (Below w.heap.size w w5) := S3.out.2.trans (b5.mono S3.out.2.size)
    clear o5 b5
    go_wp2_with fail
    go_ret2
    exact ⟨g', c', rfl, O5.out, B5.out⟩
end Go.Proofs.YtcindeechmpalaaGreat
namespace Go.Proofs.YtcindeechmpalaaGreat
open Go.ChangeShapes Go.WideShapes Go.ChangeAt Go.RowKit Go.Deep Go.Maps
set_option linter.unusedVariables false
theorem ownsRow_kept {w w' : World} {base e size n : Nat} {v : Value} {xs : List Value} (h : w.ownsRow base e size v n xs) (hb : ∀ k, v.ownBlock = some k → w'.heap[k]? = w.heap[k]?) : w'.ownsRow base e size v n xs := by
  refine ⟨h.1, ?_⟩
  rcases h.2 with h1 | ⟨g, cap, cur, rfl, hbg, hg, rest⟩
  · exact .inl h1
  · exact .inr ⟨g, cap, cur, rfl, hbg, (hb g rfl).trans hg, rest⟩
/-- slices of sixty-four bytes each, and such as are not laid yet -/
def sv (p : Nat × Nat) : Value := .slice (some ⟨p.1, 0, none⟩) 64 p.2
def vlS (V : List (Nat × Nat)) (n : Nat) : List Value := V.map sv ++ List.replicate (n - V.length) (.slice none 0 0)
theorem vlS_more (V : List (Nat × Nat)) (n : Nat) (p : Nat × Nat) (h : V.length < n) : (vlS V n).set V.length (sv p) = vlS (V ++ [p]) n := by
  unfold vlS
  obtain ⟨m, rfl⟩ : ∃ m, n = V.length + (m + 1) := ⟨n - V.length - 1, by omega⟩
  rw [show V.length + (m + 1) - V.length = m + 1 by omega, List.replicate_succ, List.set_append_right _ _ (by simp)]
  simp [List.append_assoc]
  omega
theorem vlS_len (V : List (Nat × Nat)) (n : Nat) (h : V.length ≤ n) : (vlS V n).length = n := by simp [vlS]; omega
theorem vlS_at (V : List (Nat × Nat)) (n i : Nat) (p : Nat × Nat) (h : V[i]? = some p) : (vlS V n)[i]? = some (sv p) := by
  have hi := (List.getElem?_eq_some_iff.1 h).1
  unfold vlS
  rw [List.getElem?_append_left (by simpa using hi), List.getElem?_map, h]
  rfl
/-- rows of sixty-four bytes each, of one's own, in blocks apart from one another -/
structure Img (w : World) (B go n : Nat) (V : List (Nat × Nat)) (L : List (List Int)) : Prop where
  row : w.ownsRow B 86 1 (.slice (some ⟨go, 0, none⟩) n n) n (vlS V n)
  len : V.length ≤ n
  own : ∀ (i : Nat) (p : Nat × Nat), V[i]? = some p → ∃ x, L[i]? = some x ∧ Owned w B (sv p) x
  nodup : (V.map (·.1)).Nodup
  off : ∀ p ∈ V, p.1 ≠ go
theorem Img.lt {w : World} {B go n : Nat} {V : List (Nat × Nat)} {L : List (List Int)} (h : Img w B go n V L) : B ≤ go ∧ go < w.heap.size ∧ ∀ p ∈ V, B ≤ p.1 ∧ p.1 < w.heap.size := by
  refine ⟨(h.row.lt go rfl).1, (h.row.lt go rfl).2, fun p hp => ?_⟩
  obtain ⟨i, hi⟩ := List.mem_iff_getElem?.1 hp
  obtain ⟨x, _, ho⟩ := h.own i p hi
  exact World.ownsRow.lt ho p.1 rfl
theorem Img.kept {w w' : World} {B go n : Nat} {V : List (Nat × Nat)} {L : List (List Int)} (h : Img w B go n V L) (hb : ∀ k, (k = go ∨ ∃ p ∈ V, k = p.1) → w'.heap[k]? = w.heap[k]?) : Img w' B go n V L := by
  refine ⟨ownsRow_kept h.row fun k hk => ?_, h.len, fun i p hp => ?_, h.nodup, h.off⟩
  · have : go = k := by simpa [Value.ownBlock] using hk
    exact hb k (.inl this.symm)
  · obtain ⟨x, hx, ho⟩ := h.own i p hp
    refine ⟨x, hx, owned_kept ho fun k hk => ?_⟩
    have : p.1 = k := by simpa [sv, Value.ownBlock] using hk
    exact hb k (.inr ⟨p, List.mem_of_getElem? hp, this.symm⟩)
theorem Img.keep {w w' : World} {B go n : Nat} {V : List (Nat × Nat)} {L : List (List Int)} (h : Img w B go n V L) (hb : Below w.heap.size w w') : Img w' B go n V L := by
  refine h.kept fun k hk => hb.block k ?_
  rcases hk with rfl | ⟨p, hp, rfl⟩
  · exact h.lt.2.1
  · exact (h.lt.2.2 p hp).2
theorem Img.more {w w2 : World} {B go n : Nat} {V : List (Nat × Nat)} {L : List (List Int)} (h : Img w B go n V L) (hb : Below w.heap.size w w2) (hj : V.length < n) (x : List Int) (hx : L[V.length]? = some x) (g' c' : Nat) (ho : Owned w2 w.heap.size (sv (g', c')) x) (hB : B ≤ w.heap.size) :
    Img (w2.setCell ⟨go, V.length, none⟩ (sv (g', c'))) B go n (V ++ [(g', c')]) L := by
  have h2 := h.keep hb
  have hst := h2.row.stored V.length (sv (g', c'))
  have hg' := World.ownsRow.lt ho g' rfl
  have hlt := h.lt
  refine ⟨?_, by simp; omega, fun i p hp => ?_, ?_, fun p hp => ?_⟩
  · rw [← vlS_more V n (g', c') hj]
    exact hst.1
  · rcases Nat.lt_or_ge i V.length with hi | hi
    · rw [List.getElem?_append_left hi] at hp
      obtain ⟨x', hx', ho'⟩ := h2.own i p hp
      refine ⟨x', hx', owned_kept ho' fun k hk => ?_⟩
      have e : p.1 = k := by simpa [sv, Value.ownBlock] using hk
      subst e
      exact hst.2.block _ (by have := (hlt.2.2 p (List.mem_of_getElem? hp)).2; have := hb.size; omega) (by have := h.off p (List.mem_of_getElem? hp); simpa using this)
    · rw [List.getElem?_append_right hi] at hp
      have hi0 : i - V.length = 0 := by
        have := (List.getElem?_eq_some_iff.1 hp).1
        simp at this
        omega
      rw [hi0] at hp
      obtain rfl := (Option.some.inj hp).symm
      have hiV : i = V.length := by omega
      subst hiV
      refine ⟨x, hx, owned_kept (owned_low ho hB) fun k hk => ?_⟩
      have e : g' = k := by simpa [sv, Value.ownBlock] using hk
      subst e
      exact hst.2.block _ hg'.2 (by have := hlt.2.1; have := hg'.1; simp; omega)
  · rw [List.map_append, List.nodup_append]
    refine ⟨h.nodup, by simp, fun a ha b hb' => ?_⟩
    simp at hb'
    subst hb'
    obtain ⟨p, hp, rfl⟩ := List.mem_map.1 ha
    have := (hlt.2.2 p hp).2
    omega
  · rcases List.mem_append.1 hp with h1 | h1
    · exact h.off p h1
    · rw [List.mem_singleton.1 h1]
      have := hlt.2.1
      have := hg'.1
      show g' ≠ go
      omega
theorem infoSl : ∃ i, Tryz.prog.info? 86 = some i ∧ i.zero = some (.slice none 0 0) ∧ i.size = 1 ∧ i.bytes = 24 := info_parts (show (Tryz.prog.info? 86).map (fun i => (i.zero, i.size, i.bytes)) = some (some (.slice none 0 0), 1, 24) by kernel_rfl)
theorem made1 (z : Value) (N : Nat) : madeCells #[z] N = (List.replicate N z).toArray := by
  apply Array.ext'
  simp only [madeCells]
  rw [List.eq_replicate_iff]
  refine ⟨by simp, fun b hb => ?_⟩
  simp at hb
  obtain ⟨x, _, rfl⟩ := hb
  simp [Nat.mod_one]
theorem img_made (w : World) (n : Nat) (hn : n ≤ 4096) (L : List (List Int)) : Img (w.alloc (.cells (madeCells #[.slice none 0 0] n) 86)) w.heap.size w.heap.size n [] L := by
  refine ⟨?_, by simp, fun i p hp => by simp at hp, by simp, fun p hp => by cases hp⟩
  rw [made1]
  have := World.ownsRow_lit (e := 86) (size := 1) (base := w.heap.size) w (List.replicate n (Value.slice none 0 0)).toArray n (Nat.le_refl _) (by simp only [maxLen]; omega) (by simp)
  simpa [vlS] using this
theorem OwnB.holds {w : World} {base g n c : Nat} {B : List (List Int)} (h : OwnB w base (.slice (some ⟨g, 0, none⟩) n c) B) (h64 : Is64 B) (i : Nat) (x : List Int) (hx : B[i]? = some x) : Holds w (some ⟨g, i * 64, none⟩) x := by
  refine .inr ⟨g, i * 64, rfl, fun k hk => ?_⟩
  have := (h64 x (List.mem_of_getElem? hx)).1
  exact h.cell h64 i k x hx (by omega)
set_option maxRecDepth 100000 in
set_option maxHeartbeats 4000000 in
theorem image_is (w : World) (h b N : Nat) (D : List (List Int)) (W : Int → List (List Int)) (up : Bool) (done fuse : Int) (gd cd mb : Nat) (T : Int → Option Hd) (hn : 1 ≤ D.length ∧ D.length ≤ 4096) (H : DkP w h b N D W up done fuse gd cd mb T) :
    Calls Tryz.prog 56 #[.pointer (some ⟨b, 0, none⟩)] w fun e w' => ∃ go V, e = .returned (.slice (some ⟨go, 0, none⟩) D.length D.length) ∧ V.length = D.length ∧ Img w' w.heap.size go D.length V D ∧ Below w.heap.size w w' := by
  have h5 := d5_of H.cell
  have K : Hid (Calls Tryz.prog 51 #[.pointer (some ⟨b, 0, none⟩)] w fun e w' => e = .returned (.bool false) ∧ w' = w) := isNone_not w b gd D.length cd mb up done fuse hn.1 h5
  obtain ⟨q0, q1, q2, q3, q4⟩ := h5
  have HP : Hid (DkP w h b N D W up done fuse gd cd mb T) := H
  obtain ⟨n, hnD⟩ : ∃ n, D.length = n := ⟨_, rfl⟩
  have HND : Hid (D.length = n) := hnD
  rw [hnD] at q0 hn ⊢
  have hmk : (Instr.makeSlice 111 (.int .i64 (n : Int)) (.int .i64 (n : Int))).run Tryz.prog w = .ok (.slice (some ⟨w.heap.size, 0, none⟩) n n) (w.alloc (.cells (madeCells #[.slice none 0 0] n) 86)) := by
    obtain ⟨i, hi, hz, hs, hb⟩ := infoSl
    have := run_make (P := Tryz.prog) w 111 86 i _ Tryz.underlying111 hi hz .i64 .i64 (n : Int) (n : Int) (by omega) (Int.le_refl _) (by rw [hb]; omega) (by omega)
    rw [hs] at this
    simpa [show (Value.slice none 0 0).cells = #[Value.slice none 0 0] from rfl] using this
  have I0 : Hid (Img (w.alloc (.cells (madeCells #[.slice none 0 0] n) 86)) w.heap.size w.heap.size n [] D) := img_made w n hn.2 D
  have B0 : Hid (Below w.heap.size w (w.alloc (.cells (madeCells #[.slice none 0 0] n) 86))) := (Below.refl _ _).alloc (Nat.le_refl _) _
  clear H hnD
  generalize madeCells #[.slice none 0 0] n = mc at *
  go_enter Tryz.func56, Tryz.ntmps56
  go_wp2_with fail
  refine K.out.mono ?_
  rintro e w0 ⟨rfl, hw⟩
  obtain rfl := hw.symm
  clear hw K
  go_wp2_with fail
  go_loopg [15] n (fun gg i wr => ∃ (V : List (Nat × Nat)), V.length ≤ n ∧ gg = n - V.length ∧ i = .int .i64 (V.length : Int) ∧ Hid (Img wr w.heap.size w.heap.size n V D) ∧ Hid (Below w.heap.size w wr))
  case atStart => exact ⟨[], by simp, rfl, rfl, I0, B0⟩
  case round =>
    obtain ⟨V, hV, rfl, rfl, IM, BW⟩ := hrel
    by_cases hjl : V.length < n
    · have e1 : decide ((V.length : Int) < (n : Int)) = true := by rw [decide_eq_true_eq]; omega
      obtain ⟨x, hx⟩ : ∃ x, D[V.length]? = some x := ⟨_, List.getElem?_eq_getElem (by have := HND.out; omega)⟩
      have hx64 := (HP.out.is64 x (List.mem_of_getElem? hx)).1
      have hlt3 := HP.out.apart3
      have q0' : wr.cell? ⟨b, 0, none⟩ = some (.slice (some ⟨gd, 0, none⟩) n cd) := (BW.out.cell (p := ⟨b, 0, none⟩) hlt3.2.2.2.1).trans q0
      have KC : Hid (Calls Tryz.prog 93 #[.slice (some ⟨gd, V.length * 64, none⟩) 64 64] wr fun e w' => ∃ g' c', e = .returned (.slice (some ⟨g', 0, none⟩) 64 c') ∧ Owned w' wr.heap.size (.slice (some ⟨g', 0, none⟩) 64 c') x ∧ Below wr.heap.size wr w') := bclone_is wr x 64 64 ⟨gd, V.length * 64, none⟩ hx64 (by omega) (by omega) (OwnB.holds (HP.out.dur.keep BW.out) HP.out.is64 V.length x hx)
      have r2 : IntKind.i64.wrap ((V.length : Int) + 1) = (V.length : Int) + 1 := by rw [IntKind.wrap_i64]; omega
      have HX : Hid (D[V.length]? = some x) := hx
      clear hx hx64 hlt3
      go_wp2_with fail
      refine KC.out.mono ?_
      rintro e w2 ⟨g', c', rfl, o2, b2⟩
      have i2 := IM.out.keep b2
      have cj : w2.cell? ⟨w.heap.size, V.length, none⟩ = some (.slice none 0 0) := by
        rw [i2.row.cellAt V.length (by omega)]
        unfold vlS
        rw [List.getElem?_append_right (by simp), List.length_map, Nat.sub_self, List.getElem?_replicate, if_pos (by omega)]
      have fj : w2.frozen? ⟨w.heap.size, V.length, none⟩ = false := i2.row.frozenAt V.length
      have I3 : Hid (Img (w2.setCell ⟨w.heap.size, V.length, none⟩ (sv (g', c'))) w.heap.size w.heap.size n (V ++ [(g', c')]) D) := IM.out.more b2 hjl x HX.out g' c' o2 BW.out.size
      have B3 : Hid (Below w.heap.size w (w2.setCell ⟨w.heap.size, V.length, none⟩ (sv (g', c')))) := (BW.out.trans (b2.mono BW.out.size)).setCell (Nat.le_refl _) _
      simp only [sv] at I3 B3
      clear i2 o2 b2 KC
      go_wp2_with fail
      go_roundg (n - (V.length + 1))
      case measure => omega
      case rel => exact ⟨V ++ [(g', c')], by simp; omega, by simp, by simp, I3, B3⟩
    · have e1 : decide ((V.length : Int) < (n : Int)) = false := by rw [decide_eq_false_iff_not]; omega
      go_wp2_with fail
      go_ret
      exact ⟨w.heap.size, V, rfl, by omega, IM.out, BW.out⟩
end Go.Proofs.YtcindeechmpalaaGreat
