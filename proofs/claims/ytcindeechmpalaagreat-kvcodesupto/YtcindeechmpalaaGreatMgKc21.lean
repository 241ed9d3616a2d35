/- What a loss of power leaves, in one word; Sync and Reset of any log that agrees with its disk. A database in memory; isNone, Get, Len. kv.Open of a log whose records are batches. kv.write and kv.Do where there is room. The statements' own works (veneerlaw11). A slice of changes that came in, opened; how great its texts may be. -/
import Derived.Test.YtcindeechmpalaaGreatMgKc20
import Derived.Test.YtcindeechmpalaaGreatMgKc16
import Derived.Test.YtcindeechmpalaaGreatMgKc14
import Derived.Test.YtcindeechmpalaaGreatMgKc13
import Derived.Deep.Slices
import Derived.Deep.Strs
import Derived.SizedLaws
import Derived.ChangeSame
namespace Go.Proofs.YtcindeechmpalaaGreat
open Go.ChangeShapes Go.WideShapes Go.ChangeAt Go.RowKit Go.Deep Go.Maps
set_option linter.unusedVariables false
/-- what is found behind a loss of power: the log l, or nothing that was ever written -/
def Inv (n : Nat) (t : Ds) (l : Lg) : Prop := Free t ∧ l.W = [] ∧ (Gd t l ∨ (l = lg0 n ∧ Bare n t))
def Aft (n : Nat) (t : Ds) (H N : List (List Int)) : Prop := ∃ l, Inv n t l ∧ (l.R = H ∨ l.R = N)
theorem bare_open {n : Nat} {t : Ds} (h6 : 6 ≤ n) (hn : n ≤ 4096) (h : Bare n t) (f : Free t) : ∃ s', t.opn = (0, some (lg0 n), s') := by
  obtain ⟨c, o, s', e, hor⟩ := open_cut h6 hn h
  rcases hor with ⟨rfl, rfl, g, hl⟩ | ⟨rfl, rfl, hu, _⟩
  · exact ⟨s', e⟩
  · exfalso
    have hl1 : t.D.length = n := by rw [h.D]; simp [noughts]
    obtain ⟨s2, k1, k2, k3⟩ := run_flush (A := [some (1, hdB 1 0 0)]) (s := t) f (by simp) (fun p hp => by
      have : p = (1, hdB 1 0 0) := by simpa using hp
      subst this
      exact ⟨by show 1 < _; omega, hdB_len _ _ _⟩)
    have k1' : t.run [some (1, hdB 1 0 0), none] = (0, s2) := k1
    have hz : ∀ i, i < n → t.cur i = List.replicate 64 0 := fun i hi => by
      rw [cur_nil h.W, bAt, h.D]
      unfold noughts
      rw [List.getElem?_replicate, if_pos hi]
      rfl
    rw [Ds.opn, if_neg (by rw [h.up]; simp), if_neg (by omega), Ds.fob, if_pos ⟨hz 0 (by omega), hz 1 (by omega)⟩, k1', if_pos rfl] at e
    cases (Prod.mk.inj e).1
theorem cr_len {s : Ds} (keep : List Int) (h : ∀ i, s.W i = []) : (s.cr keep).D = s.D := crD_nil keep s.D s.W h
theorem gu_cr {s : Ds} {l : Lg} (h : Gu s l) (keep : List Int) : Gd (s.cr keep) l := gd_same h.gd (free_cr _ _) (cr_len keep h.W)
theorem inv_gd {n : Nat} {t : Ds} {l : Lg} (h : Gd t l) : Inv n t { l with W := [] } := ⟨h.free, rfl, .inl (gd_drop h)⟩
theorem inv_open {n : Nat} {t : Ds} {l : Lg} (h6 : 6 ≤ n) (hn : n ≤ 4096) (h : Inv n t l) : ∃ s', t.opn = (0, some l, s') := by
  obtain ⟨f, hW, h | ⟨rfl, h⟩⟩ := h
  · have e := gd_open h
    rw [show ({ l with W := [] } : Lg) = l by rw [← hW]] at e
    exact ⟨t, e⟩
  · exact bare_open h6 hn h f
theorem inv_again {n : Nat} {t : Ds} {l : Lg} (h6 : 6 ≤ n) (hn : n ≤ 4096) (h : Inv n t l) (k : Int) (keep : List Int) : Inv n (((t.fs k).2.opn.2.2).cr keep) l := by
  obtain ⟨f, hW, h | ⟨rfl, h⟩⟩ := h
  · have g : Gu (t.fs k).2 l := Gu.made h f.up f.W rfl
    rw [gu_open g]
    exact ⟨free_cr _ _, hW, .inl (gu_cr g keep)⟩
  · have b : Bare n (t.fs k).2 := ⟨f.up, f.W, h.D⟩
    obtain ⟨c, o, s', e, hor⟩ := open_cut h6 hn b
    rw [e]
    rcases hor with ⟨rfl, rfl, g, hl'⟩ | ⟨rfl, rfl, hu, hk⟩
    · exact ⟨free_cr _ _, rfl, .inl (gu_cr g keep)⟩
    · rcases hk keep with m | m
      · exact ⟨free_cr _ _, rfl, .inr ⟨rfl, m⟩⟩
      · exact ⟨free_cr _ _, rfl, .inl m⟩
theorem op_len (s : Ds) (o : Option (Nat × List Int)) : (s.op o).2.D.length = s.D.length := by
  cases o with
  | none =>
    show s.fl.2.D.length = _
    unfold Ds.fl
    split
    · rfl
    · split
      · rfl
      · exact flD_len _ _
  | some p =>
    show (s.wr (p.1 : Int) p.2).2.D.length = _
    unfold Ds.wr
    split
    · rfl
    · split
      · rfl
      · split <;> rfl
theorem run_len : ∀ (A : List (Option (Nat × List Int))) (s : Ds), (s.run A).2.D.length = s.D.length
  | [], s => rfl
  | o :: r, s => by
    rw [Ds.run_cons]
    split
    · exact op_len s o
    · exact (run_len r _).trans (op_len s o)
theorem sync_len {s s' : Ds} {l l' : Lg} {c : Int} (e : l.sync s = (c, l', s')) : s'.D.length = s.D.length := by
  have h : (l.sync s).2.2 = s' := by rw [e]
  rw [← h]
  unfold Lg.sync
  split
  · rfl
  · split
    · rfl
    · split
      · rfl
      · split
        · exact run_len _ _
        · exact run_len _ _
theorem reset_len {s s' : Ds} {l l' : Lg} {c : Int} {recs : List (List Int)} (e : l.reset s recs = (c, l', s')) : s'.D.length = s.D.length := by
  have h : (l.reset s recs).2.2 = s' := by rw [e]
  rw [← h]
  unfold Lg.reset
  split
  · rfl
  · split
    · rfl
    · split
      · rfl
      · split
        · exact run_len _ _
        · exact run_len _ _
theorem sync_any {n : Nat} {s : Ds} {l : Lg} (h : Gu s l) (hno : l.no < 1152921504606846976) : ∃ c l' s', l.sync s = (c, l', s') ∧ ((c = 0 ∧ l'.R = l.R ++ l.W ∧ l'.W = [] ∧ Gu s' l' ∧ s'.D.length = s.D.length ∧ l'.no ≤ l.no + 1 ∧ l'.m = l.m) ∨ (c = 15 ∧ l' = { l with lost := true } ∧ s'.up = false ∧ s'.D.length = s.D.length ∧ ∀ keep, Aft n (s'.cr keep) l.R (l.R ++ l.W))) := by
  by_cases hW : l.W = []
  · refine ⟨0, l, s, ?_, .inl ⟨rfl, by rw [hW, List.append_nil], hW, h, rfl, Nat.le_succ _, rfl⟩⟩
    unfold Lg.sync
    rw [if_neg (by rw [h.gd.lost]; simp), if_pos hW]
  · obtain ⟨c, l', s', e, hor⟩ := sync_cut h hno hW
    refine ⟨c, l', s', e, ?_⟩
    rcases hor with ⟨rfl, rfl, g, hD⟩ | ⟨rfl, rfl, hu, hk⟩
    · exact .inl ⟨rfl, rfl, rfl, g, hD, Nat.le_refl _, rfl⟩
    · refine .inr ⟨rfl, rfl, hu, sync_len e, fun keep => ?_⟩
      rcases hk keep with m | m
      · exact ⟨_, inv_gd m, .inl rfl⟩
      · exact ⟨_, inv_gd m, .inr rfl⟩
theorem reset_any {n : Nat} {s : Ds} {l : Lg} (h : Gu s l) (hno : l.no < 1152921504606846976) (recs : List (List Int)) (hb : ∀ B ∈ recs, IsBytes B) : ∃ c l' s', l.reset s recs = (c, l', s') ∧ ((c = 0 ∧ l'.R = recs ∧ l'.W = [] ∧ Gu s' l' ∧ s'.D.length = s.D.length ∧ l'.no ≤ l.no + 1 ∧ l'.m = l.m) ∨ (c = 15 ∧ l' = { l with lost := true } ∧ s'.up = false ∧ s'.D.length = s.D.length ∧ ∀ keep, Aft n (s'.cr keep) l.R recs) ∨ ((c = 3 ∨ c = 7 ∨ c = 11) ∧ l' = l ∧ s' = s)) := by
  by_cases hW : l.W = []
  · by_cases hf : (frO recs (64 * l.m)).2 = 0
    · obtain ⟨c, l', s', e, hor⟩ := reset_cut h hno hW recs hb hf
      refine ⟨c, l', s', e, ?_⟩
      rcases hor with ⟨rfl, rfl, g, hD⟩ | ⟨rfl, rfl, hu, hk⟩
      · exact .inl ⟨rfl, rfl, rfl, g, hD, Nat.le_refl _, rfl⟩
      · refine .inr (.inl ⟨rfl, rfl, hu, reset_len e, fun keep => ?_⟩)
        rcases hk keep with m | m
        · exact ⟨_, inv_gd m, .inl rfl⟩
        · exact ⟨_, inv_gd m, .inr rfl⟩
    · refine ⟨(frO recs (64 * l.m)).2, l, s, ?_, .inr (.inr ⟨?_, rfl, rfl⟩)⟩
      · unfold Lg.reset
        rw [if_neg (by rw [h.gd.lost]; simp), if_neg (by simpa using hW), if_pos hf]
      · rcases frO_code recs (64 * l.m) with e | e | e
        · exact absurd e hf
        · exact .inl e
        · exact .inr (.inl e)
  · exact ⟨11, l, s, reset_state h.gd.lost hW recs, .inr (.inr ⟨.inr (.inr rfl), rfl, rfl⟩)⟩
theorem add_gu {s : Ds} {l : Lg} (h : Gu s l) (X : List Int) (hX : IsBytes X) : Gu s (l.add X).2 := ⟨h.up, h.W, gd_add h.gd X hX⟩
theorem sync_lost {l : Lg} {s : Ds} (h : l.lost = true) : l.sync s = (15, l, s) := by
  unfold Lg.sync
  rw [if_pos h]
theorem add_lost {l : Lg} (h : l.lost = true) (X : List Int) : l.add X = (15, l) := by
  unfold Lg.add
  rw [if_pos h]
/-- a write into what is neither the disk's nor the log's -/
theorem Wl.grown {w wr w' : World} {P : Nat → Prop} {bd bl N : Nat} {s : Ds} {l : Lg} {row : Option Nat} (h : Wl w wr P bd bl N s l) (hg : wr.grownBy w' row) (hr : ∀ k, row = some k → P k ∧ w.heap.size ≤ k) : Wl w w' (fun k => P k ∨ (wr.heap.size ≤ k ∧ k < w'.heap.size)) bd bl N s l := by
  obtain ⟨F, G, a1, a2, a3, a4, a5, a6⟩ := h.ex
  refine ⟨⟨F, G, a1.grown hg (fun k e hk => (a6 k (hr k e).1).2.1 hk), a2.kept (fun k hk => hg.block k (a2.lt k hk) (fun e => (a6 k (hr k e.symm).1).2.2 hk)), a3, a4, a5, fun k hk => ?_⟩, h.ok, h.bel.grown hg h.bel.size (fun k e => (hr k e).2)⟩
  rcases hk with hk | ⟨k1, k2⟩
  · have := a6 k hk
    exact ⟨Nat.lt_of_lt_of_le this.1 hg.size, this.2⟩
  · exact ⟨k2, fun e => by have := a1.lt k e; omega, fun e => by have := a2.lt k e; omega⟩
theorem Wd.grown {w wr w' : World} {P : Nat → Prop} {bd N : Nat} {s : Ds} {row : Option Nat} (h : Wd w wr P bd N s) (hg : wr.grownBy w' row) (hr : ∀ k, row = some k → P k ∧ w.heap.size ≤ k) : Wd w w' (fun k => P k ∨ (wr.heap.size ≤ k ∧ k < w'.heap.size)) bd N s := by
  obtain ⟨F, a1, a4, a6⟩ := h.ex
  refine ⟨⟨F, a1.grown hg (fun k e hk => (a6 k (hr k e).1).2 hk), a4, fun k hk => ?_⟩, h.bel.grown hg h.bel.size (fun k e => (hr k e).2)⟩
  rcases hk with hk | ⟨k1, k2⟩
  · have := a6 k hk
    exact ⟨Nat.lt_of_lt_of_le this.1 hg.size, this.2⟩
  · exact ⟨k2, fun e => by have := a1.lt k e; omega⟩
theorem Wd.less {w wr : World} {P Q : Nat → Prop} {bd N : Nat} {s : Ds} (h : Wd w wr P bd N s) (hQ : ∀ k, Q k → P k) : Wd w wr Q bd N s := by
  obtain ⟨F, a1, a4, a6⟩ := h.ex
  exact ⟨⟨F, a1, a4, fun k hk => a6 k (hQ k hk)⟩, h.bel⟩
theorem Wl.grown0 {w wr w' : World} {P : Nat → Prop} {bd bl N : Nat} {s : Ds} {l : Lg} {row : Option Nat} (h : Wl w wr P bd bl N s l) (hg : wr.grownBy w' row) (hr : ∀ k, row = some k → P k ∧ w.heap.size ≤ k) : Wl w w' P bd bl N s l := (h.grown hg hr).less fun _ hk => .inl hk
theorem Wd.grown0 {w wr w' : World} {P : Nat → Prop} {bd N : Nat} {s : Ds} {row : Option Nat} (h : Wd w wr P bd N s) (hg : wr.grownBy w' row) (hr : ∀ k, row = some k → P k ∧ w.heap.size ≤ k) : Wd w w' P bd N s := (h.grown hg hr).less fun _ hk => .inl hk
theorem Wd.keep0 {w wr w' : World} {P : Nat → Prop} {bd N : Nat} {s : Ds} (h : Wd w wr P bd N s) (hb : Below wr.heap.size wr w') : Wd w w' P bd N s := (h.keep hb).less fun _ hk => .inl hk
end Go.Proofs.YtcindeechmpalaaGreat
namespace Go.Proofs.YtcindeechmpalaaGreat
open Go.ChangeShapes Go.WideShapes Go.ChangeAt Go.RowKit Go.Deep Go.Maps
set_option linter.unusedVariables false
set_option linter.unusedSimpArgs false
/-- a database's two cells -/
def kO (bl mb : Nat) : Obj := .cells #[.pointer (some ⟨bl, 0, none⟩), .map (some mb)] 67
theorem ko_cells {w : World} {bb bl mb : Nat} (h : w.heap[bb]? = some (kO bl mb)) : w.cell? ⟨bb, 0, none⟩ = some (.pointer (some ⟨bl, 0, none⟩)) ∧ w.cell? ⟨bb, 1, none⟩ = some (.map (some mb)) := by
  unfold kO at h
  refine ⟨?_, ?_⟩ <;> simp [World.cell?, h]
/-- block bb is a database over the log in block bl, with the map in block mb -/
structure Kb (w wr : World) (P : Nat → Prop) (bb bd bl mb N C : Nat) (s : Ds) (l : Lg) (T : ByteArray → Option Pt) : Prop where
  wl : Wl w wr (fun k => P k ∨ k = bb ∨ k = mb) bd bl N s l
  box : wr.heap[bb]? = some (kO bl mb)
  mp : Pm wr mb C T
  ge : w.heap.size ≤ bb ∧ w.heap.size ≤ mb
  ne : bb ≠ mb ∧ ∀ k, P k → k ≠ bb ∧ k ≠ mb
theorem kNone_is (w : World) (bb bl mb : Nat) (h : w.heap[bb]? = some (kO bl mb)) : Calls Tryz.prog 42 #[.pointer (some ⟨bb, 0, none⟩)] w fun e w' => e = .returned (.bool false) ∧ w' = w := by
  obtain ⟨q0, q1⟩ := ko_cells h
  clear h
  go_enter Tryz.func42, Tryz.ntmps42
  go_wp2_with fail
  go_ret
  exact ⟨rfl, rfl⟩
set_option maxRecDepth 100000 in
set_option maxHeartbeats 4000000 in
theorem kGet_is (w : World) (bb bl mb N : Nat) (T : ByteArray → Option Pt) (h : w.heap[bb]? = some (kO bl mb)) (hm : Pm w mb N T) (key : ByteArray) (hk : key.size ≤ 140737488355328) :
    Calls Tryz.prog 29 #[.pointer (some ⟨bb, 0, none⟩), .string key] w fun e w' => e = .returned (.tuple #[.string ((T key).getD noP).v, .bool (T key).isSome]) ∧ Below w.heap.size w w' := by
  have KN : Hid (Calls Tryz.prog 42 #[.pointer (some ⟨bb, 0, none⟩)] w fun e w' => e = .returned (.bool false) ∧ w' = w) := kNone_is w bb bl mb h
  obtain ⟨q0, q1⟩ := ko_cells h
  have hlk := hm.look2 key hk
  generalize (T key).getD noP = x at *
  generalize (T key).isSome = b at *
  obtain ⟨xk, xv, xg⟩ := x
  unfold pA pC at hlk
  simp only at hlk ⊢
  have HB : Hid (Below w.heap.size w (w.alloc (.cells #[.string xk, .string xv, .bool xg] 45))) := below1 _ _
  clear h hm hk
  go_enter Tryz.func29, Tryz.ntmps29
  go_wp2_with fail
  refine KN.out.mono ?_
  rintro e w1 ⟨rfl, rfl⟩
  go_wp2_with fail
  go_ret2
  exact ⟨rfl, HB.out⟩
set_option maxHeartbeats 4000000 in
theorem kLen_is (w : World) (bb bl mb N : Nat) (T : ByteArray → Option Pt) (h : w.heap[bb]? = some (kO bl mb)) (hm : Pm w mb N T) (ks : List ByteArray) (hks : Ks T ks) :
    Calls Tryz.prog 31 #[.pointer (some ⟨bb, 0, none⟩)] w fun e w' => e = .returned (.int .i64 (ks.length : Int)) ∧ w' = w := by
  have KN : Hid (Calls Tryz.prog 42 #[.pointer (some ⟨bb, 0, none⟩)] w fun e w' => e = .returned (.bool false) ∧ w' = w) := kNone_is w bb bl mb h
  obtain ⟨q0, q1⟩ := ko_cells h
  obtain ⟨D, hD, hz⟩ := pm_exact hm ks hks
  have HD : Hid (w.ownsMap Tryz.prog 9 pR mb N D) := hD
  have HZ : Hid (Maps.size D = ks.length) := hz
  clear h hm hks hD hz
  generalize ks.length = q at *
  go_enter Tryz.func31, Tryz.ntmps31
  go_wp2_with fail
  refine KN.out.mono ?_
  rintro e w1 ⟨rfl, rfl⟩
  go_wp2_with (first | (at_len; (refine wpList_len_own w1 rfl (.tmp 8) 65 rfl 9 45 Tryz.underlying65 pR mb _ D rfl HD.out ?_; rw [HZ.out])))
  go_ret
  exact ⟨rfl, rfl⟩
end Go.Proofs.YtcindeechmpalaaGreat
namespace Go.Proofs.YtcindeechmpalaaGreat
open Go.ChangeShapes Go.WideShapes Go.ChangeAt Go.RowKit Go.Deep Go.Maps
set_option linter.unusedVariables false
set_option linter.unusedSimpArgs false
def noT : ByteArray → Option Pt := fun _ => none
def chTs (bs : List (List Pt)) : ByteArray → Option Pt := bs.foldl chT noT
theorem chTs_snoc (bs : List (List Pt)) (b : List Pt) : chTs (bs ++ [b]) = chT (chTs bs) b := by unfold chTs; rw [List.foldl_append]; rfl
/-- the records are the bytes of these batches -/
def Bts (R : List (List Int)) (bs : List (List Pt)) : Prop := R = bs.map eB ∧ ∀ b ∈ bs, encA b = (0, eB b)
theorem Pm.grownK {w w' : World} {b n : Nat} {T : ByteArray → Option Pt} (h : Pm w b n T) (hs : w.heap.size ≤ w'.heap.size) (hb : w'.heap[b]? = w.heap[b]?) (ho : w'.os = w.os) (ht : w'.tape = w.tape) (hp : w'.output = w.output) : Pm w' b n T := by
  obtain ⟨D, ⟨es, clock, h1, r⟩, h2⟩ := h
  exact ⟨D, ⟨es, clock, hb.trans h1, r⟩, h2⟩
set_option maxRecDepth 100000 in
set_option maxHeartbeats 8000000 in
theorem kOpen_ok {w wz : World} {P : Nat → Prop} {bd N : Nat} {s s' : Ds} {l : Lg} (T : Wd w wz P bd N s) (hN : N < 900000) (hop : s.opn = (0, some l, s')) (bs : List (List Pt)) (hR : Bts l.R bs) :
    Calls Tryz.prog 12 #[.pointer (some ⟨bd, 0, none⟩)] wz fun e w' => ∃ bb bl mb, e = .returned (.tuple #[.pointer (some ⟨bb, 0, none⟩), .int .i64 0]) ∧ Kb w w' P bb bd bl mb (N + 2) (64 * bs.length) s' l (chTs bs) ∧ ∀ k, P k → w'.heap[k]? = wz.heap[k]? := by
  have KO : Hid (Calls Tryz.prog 37 #[.pointer (some ⟨bd, 0, none⟩)] wz fun e w' => (∀ k, P k → w'.heap[k]? = wz.heap[k]?) ∧ wz.heap.size ≤ w'.heap.size ∧ ∃ bl, e = .returned (.tuple #[.pointer (some ⟨bl, 0, none⟩), .int .i64 0]) ∧ Wl w w' P bd bl (N + 2) s' l) := by
    have k := wd_open T (by omega)
    rw [hop] at k
    refine k.mono ?_
    rintro e w' ⟨h1, h2, ⟨_, bl, l', hl, he, hw, _⟩ | ⟨h0, _⟩⟩
    · have e2 : l = l' := Option.some.inj hl
      subst e2
      exact ⟨h1, h2, bl, he, hw⟩
    · exact absurd rfl h0
  have HP0 : Hid (∀ k, P k → k < wz.heap.size) := fun k hk => by
    obtain ⟨F, _, _, a3⟩ := T.ex
    exact (a3 k hk).1
  have HWB : Hid (w.heap.size ≤ wz.heap.size) := T.bel.size
  obtain ⟨hR1, hR2⟩ := hR
  have HR : Hid (l.R = bs.map eB) := hR1
  have HE : Hid (∀ b ∈ bs, encA b = (0, eB b)) := hR2
  clear T hop hR1 hR2
  go_enter Tryz.func12, Tryz.ntmps12
  go_wp2_with fail
  refine KO.out.mono ?_
  rintro e w1 ⟨hk1, hz1, bl, rfl, hw1⟩
  have W1 : Hid (Wl w w1 P bd bl (N + 2) s' l ∧ (∀ k, P k → w1.heap[k]? = wz.heap[k]?) ∧ wz.heap.size ≤ w1.heap.size) := ⟨hw1, hk1, hz1⟩
  clear hk1 hz1 hw1 KO
  obtain ⟨w2, hw2⟩ : ∃ w2, w1.alloc (.map #[] 0) = w2 := ⟨_, rfl⟩
  obtain ⟨w3, hw3⟩ : ∃ w3, w2.alloc (.cells #[.pointer (some ⟨bl, 0, none⟩), .map (some w1.heap.size)] 67) = w3 := ⟨_, rfl⟩
  have hz2 : w2.heap.size = w1.heap.size + 1 := by rw [← hw2]; simp
  have hmm : (Instr.makeMap 65 none).run Tryz.prog w1 = .ok (.map (some w1.heap.size)) w2 := by rw [← hw2]; rfl
  have hb2 : Below w1.heap.size w1 w2 := by rw [← hw2]; exact below1 _ _
  have hb3 : Below w2.heap.size w2 w3 := by rw [← hw3]; exact below1 _ _
  obtain ⟨mb, hmb⟩ : ∃ mb, w1.heap.size = mb := ⟨_, rfl⟩
  obtain ⟨bb, hbb⟩ : ∃ bb, w2.heap.size = bb := ⟨_, rfl⟩
  have M3 : Hid (Pm w3 mb 0 noT) := by
    have q := Pm.empty w1
    rw [hw2, hmb] at q
    exact q.keep hb3
  have X3 : Hid (w3.heap[bb]? = some (kO bl mb)) := by show _ = _; rw [← hw3, ← hbb, hmb]; exact heap_alloc_new w2 _
  obtain ⟨Q, hQ⟩ : ∃ Q : Nat → Prop, Q = fun k => (P k ∨ k = bb ∨ k = mb) ∨ (w3.heap.size ≤ k) := ⟨_, rfl⟩
  have hz3 : w3.heap.size = bb + 1 := by rw [← hw3, ← hbb]; simp
  have W3 : Hid (Wl w w3 (fun k => P k ∨ k = bb ∨ k = mb) bd bl (N + 2) s' l) := ((W1.out.1.keep hb2).keep hb3).less fun k hk => by
    rcases hk with h | h | h
    · exact .inl (.inl h)
    · exact .inr ⟨by omega, by omega⟩
    · exact .inl (.inr ⟨by omega, by omega⟩)
  have HBM : Hid (bb = mb + 1 ∧ w3.heap.size = bb + 1 ∧ wz.heap.size ≤ mb) := ⟨by omega, hz3, by have := W1.out.2.2; omega⟩
  have HPK : Hid (∀ k, P k → w3.heap[k]? = wz.heap[k]? ∧ k < wz.heap.size) := fun k hk => ⟨((hb3.block k (by have := HP0.out k hk; have := W1.out.2.2; omega)).trans (hb2.block k (by have := HP0.out k hk; have := W1.out.2.2; omega))).trans (W1.out.2.1 k hk), HP0.out k hk⟩
  have KRec : Hid (Calls Tryz.prog 38 #[.pointer (some ⟨bl, 0, none⟩)] w3 fun e w' => ∃ v, e = .returned v ∧ RowsS w' w3.heap.size v l.R ∧ Below w3.heap.size w3 w') := wl_records W3.out
  have HFew : Hid (l.R.length ≤ 16376) := W3.out.ok.few.1
  have W3E : Hid (w2.alloc (.cells #[.pointer (some ⟨bl, 0, none⟩), .map (some w1.heap.size)] 67) = w3 ∧ w1.heap.size = mb ∧ w2.heap.size = bb) := ⟨hw3, hmb, hbb⟩
  clear hw2 hw3 hz2 hz3 hb2 hb3 hmb hbb hQ W1
  go_wp2_with fail
  rw [show World.alloc w2 _ = w3 from W3E.out.1, W3E.out.2.2, W3E.out.2.1]
  refine KRec.out.mono ?_
  rintro e w4 ⟨v, rfl, hr4, hb4⟩
  obtain ⟨ar, cr, rfl, hn4, hi4, hl4, hc4⟩ := RowsS.slice hr4
  obtain ⟨n, hn⟩ : ∃ n, l.R.length = n := ⟨_, rfl⟩
  have HN : Hid (l.R.length = n ∧ bs.length = n ∧ n ≤ 16376) := ⟨hn, by rw [← hn, HR.out, List.length_map], by rw [← hn]; exact HFew.out⟩
  have HAR : Hid (∀ x, ar = some x → w3.heap.size ≤ x.block) := fun x hx => (hr4.own x.block (by rw [hx]; rfl)).1
  have S4 : Hid (Wl w w4 (fun k => P k ∨ k = bb ∨ k = mb) bd bl (N + 2) s' l ∧ w4.heap[bb]? = some (kO bl mb) ∧ Pm w4 mb 0 noT ∧ InS w4 ar l.R ∧ (∀ k, P k → w4.heap[k]? = wz.heap[k]?)) := ⟨W3.out.keep0 hb4, (hb4.block bb (by have := HBM.out; omega)).trans X3.out, M3.out.keep hb4, hi4, fun k hk => (hb4.block k (by have := (HPK.out k hk).2; have := HBM.out; omega)).trans (HPK.out k hk).1⟩
  rw [hn] at hl4 ⊢
  clear hr4 hb4 hn4 hi4 hn KRec W3 X3 M3
  go_wp2_with fail
  go_loopg [26] n (fun gg iv wq => ∃ j : Nat, j ≤ n ∧ gg = n - j ∧ iv = .int .i64 (j : Int) ∧ Hid (Wl w wq (fun k => P k ∨ k = bb ∨ k = mb) bd bl (N + 2) s' l ∧ wq.heap[bb]? = some (kO bl mb) ∧ Pm wq mb (64 * j) (chTs (bs.take j)) ∧ InS wq ar l.R ∧ (∀ k, P k → wq.heap[k]? = wz.heap[k]?)))
  case atStart => exact ⟨0, Nat.zero_le _, rfl, rfl, S4⟩
  case round =>
    obtain ⟨j, hj, rfl, rfl, RW⟩ := hrel
    clear S4
    by_cases hlt : j < n
    · have j1 : decide ((j : Int) < (n : Int)) = true := by rw [decide_eq_true_eq]; omega
      obtain ⟨b, hb⟩ : ∃ b, bs[j]? = some b := ⟨bs[j]'(by have := HN.out; omega), List.getElem?_eq_getElem _⟩
      have hEb := HE.out b (List.mem_of_getElem? hb)
      obtain ⟨_, _, h64, hok, _⟩ := encA_ok hEb
      have hLb : l.R.getD j [] = eB b := by rw [HR.out, List.getD_eq_getElem?_getD, List.getElem?_map, hb]; rfl
      obtain ⟨g, off, rfl, hc⟩ : ∃ g off, ar = some ⟨g, off, none⟩ ∧ ∀ i, i < l.R.length → wr.cell? ⟨g, off + i, none⟩ = some (.string (strOfNums (l.R.getD i []))) := by
        rcases RW.out.2.2.2.1 with e | h
        · have := HN.out.1; rw [e] at this; simp at this; omega
        · exact h
      have kc := hc j (by have := HN.out; omega)
      rw [hLb] at kc
      have hgm : g ≠ mb := by have q1 := HAR.out _ rfl; have q2 := HBM.out; simp only at q1; omega
      have KD : Hid (Calls Tryz.prog 26 #[.string (strOfNums (eB b))] wr fun e w' => ∃ v, e = .returned (.tuple #[v, .int .i64 0]) ∧ OwnP w' wr.heap.size v b ∧ Below wr.heap.size wr w') := kDecode_ok b (eB b) hEb wr
      have HBK : Hid (b.length ≤ 64 ∧ ∀ x ∈ b, x.k.size ≤ 140737488355328) := ⟨h64, fun x hx => by have := badP_no (hok x hx); omega⟩
      have HTK : Hid (chTs (bs.take (j + 1)) = chT (chTs (bs.take j)) b) := by
        show _ = _
        obtain ⟨h1, h2⟩ := List.getElem?_eq_some_iff.1 hb
        rw [List.take_succ_eq_append_getElem h1, h2, chTs_snoc]
      have ri : IntKind.i64.wrap ((j : Int) + 1) = (j : Int) + 1 := by rw [IntKind.wrap_i64]; have := HN.out; omega
      have HLT : Hid (mb < wr.heap.size ∧ bb < wr.heap.size) := ⟨RW.out.2.2.1.lt, lt_of_heapK RW.out.2.1⟩
      clear hb hEb h64 hok hLb hc
      generalize strOfNums (eB b) = st at *
      go_wp2_with fail
      refine KD.out.mono ?_
      rintro e w5 ⟨v, rfl, ho5, hb5⟩
      obtain ⟨a5, c5, rfl, hi5, _, _, _, hbl5⟩ := ho5.slice
      have S5 : Hid (Wl w w5 (fun k => P k ∨ k = bb ∨ k = mb) bd bl (N + 2) s' l ∧ w5.heap[bb]? = some (kO bl mb) ∧ Pm w5 mb (64 * j) (chTs (bs.take j)) ∧ InS w5 (some ⟨g, off, none⟩) l.R ∧ (∀ k, P k → w5.heap[k]? = wz.heap[k]?)) := ⟨RW.out.1.keep0 hb5, (hb5.block bb HLT.out.2).trans RW.out.2.1, RW.out.2.2.1.keep hb5, RW.out.2.2.2.1.keep hb5, fun k hk => (hb5.block k (by have := (HPK.out k hk).2; have := HBM.out; have := HLT.out; omega)).trans (RW.out.2.2.2.2 k hk)⟩
      have KS : Hid (Calls Tryz.prog 39 #[.map (some mb), .slice a5 b.length c5] w5 fun e w' => e = .returned (.tuple #[]) ∧ Pm w' mb (64 * j + b.length) (chT (chTs (bs.take j)) b) ∧ w5.grownBy w' (some mb)) := kSet_is b b.length rfl (by have := HBK.out; omega) HBK.out.2 a5 c5 mb (64 * j) (by have := HN.out; omega) _ w5 hi5 S5.out.2.2.1 (fun x hx _ => by have := (hbl5 x hx).1; have := HLT.out; omega)
      obtain ⟨q0, q1⟩ := ko_cells S5.out.2.1
      clear ho5 hb5 hi5 hbl5 kc KD RW
      go_wp2_with fail
      refine KS.out.mono ?_
      rintro e w6 ⟨rfl, hm6, hg6⟩
      have S6 : Hid (Wl w w6 (fun k => P k ∨ k = bb ∨ k = mb) bd bl (N + 2) s' l ∧ w6.heap[bb]? = some (kO bl mb) ∧ Pm w6 mb (64 * (j + 1)) (chTs (bs.take (j + 1))) ∧ InS w6 (some ⟨g, off, none⟩) l.R ∧ (∀ k, P k → w6.heap[k]? = wz.heap[k]?)) := by
        refine ⟨S5.out.1.grown0 hg6 (fun k e => ⟨.inr (.inr (Option.some.inj e).symm), by have := HBM.out; have := HWB.out; have := Option.some.inj e; omega⟩), (hg6.block bb (lt_of_heapK S5.out.2.1) (fun e => by have := HBM.out; have := Option.some.inj e; omega)).trans S5.out.2.1, ?_, S5.out.2.2.2.1.kept fun x hx hne => ?_, fun k hk => (hg6.block k ?_ (fun e => by have := (HPK.out k hk).2; have := HBM.out; have := Option.some.inj e; omega)).trans (S5.out.2.2.2.2 k hk)⟩
        · rw [HTK.out]
          exact hm6.mono (by have := HBK.out.1; omega)
        · cases hx
          exact hg6.block g (S5.out.2.2.2.1.lt _ rfl hne) (fun e => hgm (Option.some.inj e))
        · have h1 := (HPK.out k hk).2
          have h2 := HBM.out
          have h3 := S5.out.2.2.1.lt
          omega
      clear hm6 hg6 q0 q1 KS S5
      go_wp2_with fail
      go_roundg (n - (j + 1))
      case measure => omega
      case rel => exact ⟨j + 1, by omega, rfl, by simp, S6⟩
    · have j1 : decide ((j : Int) < (n : Int)) = false := by rw [decide_eq_false_iff_not]; omega
      have HF : Hid (Kb w wr P bb bd bl mb (N + 2) (64 * bs.length) s' l (chTs bs) ∧ ∀ k, P k → wr.heap[k]? = wz.heap[k]?) := by
        obtain ⟨a1, a2, a3, a4, a5⟩ := RW.out
        rw [List.take_of_length_le (by have := HN.out; omega)] at a3
        have h1 := HBM.out
        have h2 := HWB.out
        exact ⟨⟨a1, a2, a3.mono (by have := HN.out; omega), ⟨by omega, by omega⟩, by omega, fun k hk => by have := (HPK.out k hk).2; exact ⟨by omega, by omega⟩⟩, a5⟩
      go_wp2_with fail
      go_ret2
      exact ⟨bb, bl, mb, rfl, HF.out⟩
end Go.Proofs.YtcindeechmpalaaGreat
namespace Go.Proofs.YtcindeechmpalaaGreat
open Go.ChangeShapes Go.WideShapes Go.ChangeAt Go.RowKit Go.Deep Go.Maps
set_option linter.unusedVariables false
set_option linter.unusedSimpArgs false
theorem Kb.more {w wr : World} {P : Nat → Prop} {bb bd bl mb N C N' C' : Nat} {s : Ds} {l : Lg} {T : ByteArray → Option Pt} (h : Kb w wr P bb bd bl mb N C s l T) (hN : N ≤ N') (hC : C ≤ C') : Kb w wr P bb bd bl mb N' C' s l T :=
  ⟨h.wl.more hN, h.box, h.mp.mono hC, h.ge, h.ne⟩
theorem Kb.step {w wr w' : World} {P : Nat → Prop} {bb bd bl mb N N' C : Nat} {s s' : Ds} {l l' : Lg} {T : ByteArray → Option Pt} (h : Kb w wr P bb bd bl mb N C s l T) (hw : Wl w w' (fun k => P k ∨ k = bb ∨ k = mb) bd bl N' s' l') (hk : ∀ k, P k ∨ k = bb ∨ k = mb → w'.heap[k]? = wr.heap[k]?) : Kb w w' P bb bd bl mb N' C s' l' T := by
  refine ⟨hw, (hk bb (.inr (.inl rfl))).trans h.box, ?_, h.ge, h.ne⟩
  obtain ⟨D, ⟨es, clock, h1, r⟩, h2⟩ := h.mp
  exact ⟨D, ⟨es, clock, (hk mb (.inr (.inr rfl))).trans h1, r⟩, h2⟩
theorem Kb.keep {w wr w' : World} {P : Nat → Prop} {bb bd bl mb N C : Nat} {s : Ds} {l : Lg} {T : ByteArray → Option Pt} (h : Kb w wr P bb bd bl mb N C s l T) (hb : Below wr.heap.size wr w') : Kb w w' (fun k => P k ∨ (wr.heap.size ≤ k ∧ k < w'.heap.size)) bb bd bl mb N C s l T := by
  have h1 := lt_of_heapK h.box
  have h2 := h.mp.lt
  refine ⟨(h.wl.keep hb).less fun k hk => ?_, (hb.block bb h1).trans h.box, h.mp.keep hb, h.ge, h.ne.1, fun k hk => ?_⟩
  · rcases hk with (h | h) | h | h
    · exact .inl (.inl h)
    · exact .inr h
    · exact .inl (.inr (.inl h))
    · exact .inl (.inr (.inr h))
  · rcases hk with hk | hk
    · exact h.ne.2 k hk
    · exact ⟨by omega, by omega⟩
theorem Kb.less {w wr : World} {P Q : Nat → Prop} {bb bd bl mb N C : Nat} {s : Ds} {l : Lg} {T : ByteArray → Option Pt} (h : Kb w wr P bb bd bl mb N C s l T) (hq : ∀ k, Q k → P k) : Kb w wr Q bb bd bl mb N C s l T :=
  ⟨h.wl.less fun k hk => hk.elim (fun e => .inl (hq k e)) .inr, h.box, h.mp, h.ge, h.ne.1, fun k hk => h.ne.2 k (hq k hk)⟩
set_option maxRecDepth 100000 in
set_option maxHeartbeats 4000000 in
theorem kWrite_ok {w wr : World} {P : Nat → Prop} {bb bd bl mb N C : Nat} {s : Ds} {l : Lg} {T : ByteArray → Option Pt} (K : Kb w wr P bb bd bl mb N C s l T) (hN : N + 3000 < 999900) (B : List Int) (hB : IsBytes B) (hadd : (l.add B).1 = 0) (hfit : 2 + (l.add B).2.ar * (l.add B).2.m + (l.add B).2.m ≤ s.D.length) (v : Value) :
    Calls Tryz.prog 43 #[.pointer (some ⟨bb, 0, none⟩), .string (strOfNums B), v] wr fun e w' => e = .returned (.int .i64 ((l.add B).2.sync s).1) ∧ Kb w w' P bb bd bl mb (N + 2100) C ((l.add B).2.sync s).2.2 ((l.add B).2.sync s).2.1 T ∧ ∀ k, P k → w'.heap[k]? = wr.heap[k]? := by
  have KA : Hid (Calls Tryz.prog 79 #[.pointer (some ⟨bl, 0, none⟩), .string (strOfNums B)] wr fun e w' => e = .returned (.int .i64 0) ∧ Kb w w' P bb bd bl mb N C s (l.add B).2 T ∧ ∀ k, P k → w'.heap[k]? = wr.heap[k]?) := by
    have k := wl_add K.wl B hB
    rw [hadd] at k
    refine k.mono ?_
    rintro e w' ⟨rfl, h1, h2⟩
    exact ⟨rfl, K.step h1 h2, fun k hk => h2 k (.inl hk)⟩
  obtain ⟨l1, hl1⟩ : ∃ l1, (l.add B).2 = l1 := ⟨_, rfl⟩
  rw [hl1] at KA hfit ⊢
  have KS : Hid (∀ W, Kb w W P bb bd bl mb N C s l1 T → Calls Tryz.prog 80 #[.pointer (some ⟨bl, 0, none⟩)] W fun e w' => e = .returned (.int .i64 (l1.sync s).1) ∧ Kb w w' P bb bd bl mb (N + 2100) C (l1.sync s).2.2 (l1.sync s).2.1 T ∧ ∀ k, P k → w'.heap[k]? = W.heap[k]?) := fun W hW => by
    refine (wl_sync hW.wl hfit hN).mono ?_
    rintro e w' ⟨rfl, h1, h2⟩
    exact ⟨rfl, hW.step h1 h2, fun k hk => h2 k (.inl hk)⟩
  obtain ⟨q0, q1⟩ := ko_cells K.box
  clear hl1 hadd hfit hB K
  generalize strOfNums B = st at *
  go_enter Tryz.func43, Tryz.ntmps43
  go_wp2_with fail
  refine KA.out.mono ?_
  rintro e w1 ⟨rfl, hk1, hp1⟩
  have K1 : Hid (Kb w w1 P bb bd bl mb N C s l1 T ∧ ∀ k, P k → w1.heap[k]? = wr.heap[k]?) := ⟨hk1, hp1⟩
  clear q0 q1 hk1 hp1 KA
  obtain ⟨q0, q1⟩ := ko_cells K1.out.1.box
  go_wp2_with fail
  refine (KS.out w1 K1.out.1).mono ?_
  rintro e w2 ⟨rfl, hk2, hp2⟩
  have K2 : Hid (Kb w w2 P bb bd bl mb (N + 2100) C (l1.sync s).2.2 (l1.sync s).2.1 T ∧ ∀ k, P k → w2.heap[k]? = wr.heap[k]?) := ⟨hk2, fun k hk => (hp2 k hk).trans (K1.out.2 k hk)⟩
  clear hk2 hp2 q0 q1
  go_wp2_with fail
  go_ret
  exact ⟨rfl, K2.out⟩
set_option maxRecDepth 100000 in
set_option maxHeartbeats 4000000 in
theorem kDo_ok {w wr : World} {P : Nat → Prop} {bb bd bl mb N C : Nat} {s s2 : Ds} {l l2 : Lg} {T : ByteArray → Option Pt} (K : Kb w wr P bb bd bl mb N C s l T) (hN : N + 3000 < 999900) (hC : C ≤ 900000000) (pts : List Pt) (B : List Int) (hE : encA pts = (0, B)) (hadd : (l.add B).1 = 0) (hfit : 2 + (l.add B).2.ar * (l.add B).2.m + (l.add B).2.m ≤ s.D.length) (hsy : (l.add B).2.sync s = (0, l2, s2)) (a : Option Addr) (n c : Nat) (hn : pts.length = n) (hin : InP wr a pts) (ha : ∀ x, a = some x → pts ≠ [] → P x.block) :
    Calls Tryz.prog 15 #[.pointer (some ⟨bb, 0, none⟩), .slice a n c] wr fun e w' => e = .returned (.int .i64 0) ∧ Kb w w' P bb bd bl mb (N + 2100) (C + n) s2 l2 (chT T pts) ∧ ∀ k, P k → w'.heap[k]? = wr.heap[k]? := by
  obtain ⟨_, _, h64, hok, _⟩ := encA_ok hE
  have KN : Hid (Calls Tryz.prog 42 #[.pointer (some ⟨bb, 0, none⟩)] wr fun e w' => e = .returned (.bool false) ∧ w' = wr) := kNone_is wr bb bl mb K.box
  have KE : Hid (Calls Tryz.prog 24 #[.slice a n c] wr fun e w' => e = .returned (.tuple #[.string (strOfNums B), .int .i64 0]) ∧ Below wr.heap.size wr w') := by
    have k := kEncode_is pts n hn (by omega) (fit_ok hok) a c wr hin
    rw [hE] at k
    exact k
  have KW : Hid (∀ W, Kb w W P bb bd bl mb N C s l T → Calls Tryz.prog 43 #[.pointer (some ⟨bb, 0, none⟩), .string (strOfNums B), .slice a n c] W fun e w' => e = .returned (.int .i64 0) ∧ Kb w w' P bb bd bl mb (N + 2100) C s2 l2 T ∧ ∀ k, P k → w'.heap[k]? = W.heap[k]?) := fun W hW => by
    have k := kWrite_ok hW hN B (encA_bytes hE).1 hadd hfit (.slice a n c)
    rw [hsy] at k
    exact k
  have KC : Hid (∀ W, Kb w W P bb bd bl mb (N + 2100) C s2 l2 T → InP W a pts → Calls Tryz.prog 39 #[.map (some mb), .slice a n c] W fun e w' => e = .returned (.tuple #[]) ∧ Kb w w' P bb bd bl mb (N + 2100) (C + n) s2 l2 (chT T pts) ∧ ∀ k, P k → w'.heap[k]? = W.heap[k]?) := fun W hW hi => by
    refine (kSet_is pts n hn (by omega) (fun x hx => by have := badP_no (hok x hx); omega) a c mb C (by omega) T W hi hW.mp (fun x hx hne => (hW.ne.2 _ (ha x hx hne)).2)).mono ?_
    rintro e w' ⟨rfl, h1, h2⟩
    have hPl : ∀ k, P k → k < W.heap.size := fun k hk => by
      obtain ⟨F, G, _, _, _, _, _, a6⟩ := hW.wl.ex
      exact (a6 k (.inl hk)).1
    exact ⟨rfl, ⟨hW.wl.grown0 h2 (fun k e => ⟨.inr (.inr (Option.some.inj e).symm), by rw [← Option.some.inj e]; exact hW.ge.2⟩), (h2.block bb (lt_of_heapK hW.box) (fun e => hW.ne.1 (Option.some.inj e))).trans hW.box, h1, hW.ge, hW.ne⟩, fun k hk => h2.block k (hPl k hk) (fun e => (hW.ne.2 k hk).2 (Option.some.inj e))⟩
  have HK : Hid (Kb w wr P bb bd bl mb N C s l T) := K
  have HI : Hid (InP wr a pts ∧ ∀ x, a = some x → pts ≠ [] → P x.block) := ⟨hin, ha⟩
  have HPL : Hid (∀ k, P k → k < wr.heap.size) := fun k hk => by
    obtain ⟨F, G, _, _, _, _, _, a6⟩ := K.wl.ex
    exact (a6 k (.inl hk)).1
  clear K hE hadd hfit hsy hin ha h64 hok hn
  generalize strOfNums B = st at *
  go_enter Tryz.func15, Tryz.ntmps15
  go_wp2_with fail
  refine KN.out.mono ?_
  rintro e w1 ⟨rfl, rfl⟩
  go_wp2_with fail
  refine KE.out.mono ?_
  rintro e w2 ⟨rfl, hb2⟩
  have K2 : Hid (Kb w w2 P bb bd bl mb N C s l T ∧ (∀ k, P k → w2.heap[k]? = w1.heap[k]?) ∧ w1.heap.size ≤ w2.heap.size) := ⟨(HK.out.keep hb2).less (fun _ h => .inl h), fun k hk => hb2.block k (HPL.out k hk), hb2.size⟩
  clear hb2 KE KN
  go_wp2_with fail
  refine (KW.out w2 K2.out.1).mono ?_
  rintro e w3 ⟨rfl, hk3, hp3⟩
  have K3 : Hid (Kb w w3 P bb bd bl mb (N + 2100) C s2 l2 T ∧ (∀ k, P k → w3.heap[k]? = w1.heap[k]?)) := ⟨hk3, fun k hk => (hp3 k hk).trans (K2.out.2.1 k hk)⟩
  have I3 : Hid (InP w3 a pts) := by
    rcases HI.out.1 with e | ⟨b, off, e, h1, h2⟩
    · exact .inl e
    · by_cases hne : pts = []
      · exact .inl hne
      · have hp := HI.out.2 _ e hne
        refine .inr ⟨b, off, e, ?_, fun i x hx => (h2 i x hx).kept (K3.out.2 b hp)⟩
        obtain ⟨F, G, _, _, _, _, _, a6⟩ := hk3.wl.ex
        exact (a6 b (.inl hp)).1
  obtain ⟨q0, q1⟩ := ko_cells hk3.box
  clear hk3 hp3 KW K2
  go_wp2_with fail
  refine (KC.out w3 K3.out.1 I3.out).mono ?_
  rintro e w4 ⟨rfl, hk4, hp4⟩
  have K4 : Hid (Kb w w4 P bb bd bl mb (N + 2100) (C + n) s2 l2 (chT T pts) ∧ ∀ k, P k → w4.heap[k]? = w1.heap[k]?) := ⟨hk4, fun k hk => (hp4 k hk).trans (K3.out.2 k hk)⟩
  clear hk4 hp4 q0 q1 KC
  go_wp2_with fail
  go_ret
  exact ⟨rfl, K4.out⟩
end Go.Proofs.YtcindeechmpalaaGreat
namespace Go.Proofs.YtcindeechmpalaaGreat
open Go.ChangeShapes Go.WideShapes Go.ChangeAt Go.RowKit Go.Deep Go.Maps
set_option linter.unusedVariables false
set_option linter.unusedSimpArgs false
theorem sN_lit (A : List Int) (ha : ∀ x ∈ A, 0 ≤ x ∧ x ≤ 255) : sN (strOfNums A) = A := sN_nums (bytes_of_mem ha)
def pKv : Pt := ⟨⟨#[107]⟩, ⟨#[118]⟩, false⟩
def pAx : Pt := ⟨⟨#[97]⟩, ⟨#[120]⟩, false⟩
def pBg : Pt := ⟨⟨#[98]⟩, ⟨#[]⟩, true⟩
theorem tB_one (c : Nat) (hc : c ≤ 255) (S : ByteArray) (h : S = strOfNums [(c : Int)]) (hz : S.size = 1) : tB S = [1, (c : Int)] := by
  unfold tB
  rw [hz, h, sN_lit _ (fun x hx => by have : x = (c : Int) := by simpa using hx
                                      omega)]
  rfl
theorem eB_k : eB [pKv] = [1, 0, 1, 107, 1, 118] := by
  unfold eB csB cB pKv
  simp only [List.flatMap_cons, List.flatMap_nil, List.append_nil, List.length_cons, List.length_nil]
  rw [if_neg (by simp), tB_one 107 (by omega) ⟨#[107]⟩ rfl rfl, tB_one 118 (by omega) ⟨#[118]⟩ rfl rfl]
  rfl
theorem eB_ab : eB [pAx, pBg] = [2, 0, 1, 97, 1, 120, 1, 1, 98] := by
  unfold eB csB
  simp only [List.flatMap_cons, List.flatMap_nil, List.append_nil, List.length_cons, List.length_nil]
  have e1 : cB pAx = [0, 1, 97, 1, 120] := by
    unfold cB pAx
    simp only
    rw [if_neg (by simp), tB_one 97 (by omega) ⟨#[97]⟩ rfl rfl, tB_one 120 (by omega) ⟨#[120]⟩ rfl rfl]
    rfl
  have e2 : cB pBg = [1, 1, 98] := by
    unfold cB pBg
    simp only
    rw [if_pos trivial, tB_one 98 (by omega) ⟨#[98]⟩ rfl rfl]
    rfl
  rw [e1, e2]
  rfl
theorem encA_k : encA [pKv] = (0, [1, 0, 1, 107, 1, 118]) := by
  unfold encA
  rw [eB_k, if_neg (by simp [pKv, badP]; decide), if_neg (by simp), if_neg (by simp)]
theorem encA_ab : encA [pAx, pBg] = (0, [2, 0, 1, 97, 1, 120, 1, 1, 98]) := by
  unfold encA
  rw [eB_ab, if_neg (by simp [pAx, pBg, badP]; decide), if_neg (by simp), if_neg (by simp)]
def kvB : List Int := [1, 0, 1, 107, 1, 118]
theorem kvB_bytes : IsBytes kvB := (encA_bytes encA_k).1
theorem Ks_k : Ks (chTs [[pKv]]) [⟨#[107]⟩] := by
  refine ⟨by simp, fun k => ?_⟩
  show ((ch1 noT pKv) k).isSome = true ↔ _
  unfold ch1 pKv noT
  by_cases h : k = ⟨#[107]⟩
  · simp [h]
  · simp [h]
theorem get_k : (chTs [[pKv]]) ⟨#[107]⟩ = some pKv := by
  show (ch1 noT pKv) ⟨#[107]⟩ = _
  unfold ch1 pKv
  simp
theorem plain_kv : ∃ l1 s1 l2 l3 s3, (Ds.new 20).opn = (0, some l1, s1) ∧ l1.R = [] ∧ (l1.add kvB).1 = 0 ∧ (l1.add kvB).2 = l2 ∧ 2 + l2.ar * l2.m + l2.m ≤ s1.D.length ∧ l2.sync s1 = (0, l3, s3) ∧ (s3.cr []).opn = (0, some l3, s3.cr []) ∧ l3.R = [kvB] := by
  obtain ⟨s1, o1, G1, hD1⟩ := gd_new 20 (by omega) (by omega)
  obtain ⟨l1, hl1⟩ : ∃ l1, l1 = (⟨(20 - 2) / 2, 1, 0, [], [], false⟩ : Lg) := ⟨_, rfl⟩
  rw [← hl1] at o1 G1
  have r1 : l1.room = 576 := by rw [hl1]; rfl
  have a1 : l1.add kvB = (0, ⟨9, 1, 0, [], [kvB], false⟩) := by
    have hx : (frO [kvB] l1.room).2 = 0 := by rw [r1, frO_one]; rfl
    unfold Lg.add
    rw [if_neg (by rw [hl1]; simp), if_neg (by rw [hx]; simp), hl1]
    rfl
  have G2 := gd_add G1 kvB kvB_bytes
  rw [a1] at G2
  obtain ⟨l2, hl2⟩ : ∃ l2, l2 = (⟨9, 1, 0, [], [kvB], false⟩ : Lg) := ⟨_, rfl⟩
  rw [← hl2] at a1 G2
  obtain ⟨s3, y3, G3, hD3⟩ := gd_sync G2 (by rw [hl2]; decide) (by rw [hl2]; simp)
  obtain ⟨l3, hl3⟩ : ∃ l3, l3 = ({ l2 with no := l2.no + 1, R := l2.R ++ l2.W, W := [] } : Lg) := ⟨_, rfl⟩
  rw [← hl3] at y3 G3
  have G4 := gd_crash G3 []
  have o4 := gd_open G4
  have e4 : ({ l3 with W := [] } : Lg) = l3 := by rw [hl3]
  rw [e4] at o4
  exact ⟨l1, s1, l2, l3, s3, o1, by rw [hl1], by rw [a1], by rw [a1], by rw [hD1, hl2]; decide, y3, o4, by rw [hl3, hl2]; rfl⟩
theorem bts_k : Bts [kvB] [[pKv]] := by
  refine ⟨by show [kvB] = [eB [pKv]]; rw [eB_k]; rfl, fun b hb => ?_⟩
  obtain rfl : b = [pKv] := by simpa using hb
  rw [encA_k, eB_k]
theorem in_two (w : World) : InP (w.alloc (.cells #[.string ⟨#[97]⟩, .string ⟨#[120]⟩, .bool false, .string ⟨#[98]⟩, .string ⟨#[]⟩, .bool true] 45)) (some ⟨w.heap.size, 0, none⟩) [pAx, pBg] := by
  have h := heap_alloc_new w (.cells #[.string ⟨#[97]⟩, .string ⟨#[120]⟩, .bool false, .string ⟨#[98]⟩, .string ⟨#[]⟩, .bool true] 45)
  refine .inr ⟨w.heap.size, 0, rfl, by simp, fun i x hx => ?_⟩
  match i, hx with
  | 0, hx =>
    have : pAx = x := by simpa using hx
    subst this
    refine ⟨?_, ?_, ?_⟩ <;> (rw [cell_of_row _ _ _ _ _ (0, 0) h]; rfl)
  | 1, hx =>
    have : pBg = x := by simpa using hx
    subst this
    refine ⟨?_, ?_, ?_⟩ <;> (rw [cell_of_row _ _ _ _ _ (0, 0) h]; rfl)
  | i + 2, hx => simp at hx
theorem in_one (w : World) : InP (w.alloc (.cells #[.string ⟨#[107]⟩, .string ⟨#[118]⟩, .bool false] 45)) (some ⟨w.heap.size, 0, none⟩) [pKv] := by
  have h := heap_alloc_new w (.cells #[.string ⟨#[107]⟩, .string ⟨#[118]⟩, .bool false] 45)
  refine .inr ⟨w.heap.size, 0, rfl, by simp, fun i x hx => ?_⟩
  match i, hx with
  | 0, hx =>
    have : pKv = x := by simpa using hx
    subst this
    refine ⟨?_, ?_, ?_⟩ <;> (rw [cell_of_row _ _ _ _ _ (0, 0) h]; rfl)
  | i + 1, hx => simp at hx
theorem fit_small {l : List Pt} (h : ∀ x ∈ l, badP x = false) : FitP l := fit_ok h
set_option maxRecDepth 100000 in
set_option maxHeartbeats 8000000 in
theorem kworks_true (w : World) : Calls Tryz.prog 11 #[] w fun e w' => e = .returned (.bool true) ∧ Below w.heap.size w w' := by
  obtain ⟨l1, s1, l2, l3, s3, p1, p2, p3, p4, p5, p6, p7, p8⟩ := plain_kv
  have HPL : Hid ((Ds.new 20).opn = (0, some l1, s1) ∧ l1.R = [] ∧ (l1.add kvB).1 = 0 ∧ (l1.add kvB).2 = l2 ∧ 2 + l2.ar * l2.m + l2.m ≤ s1.D.length ∧ l2.sync s1 = (0, l3, s3) ∧ (s3.cr []).opn = (0, some l3, s3.cr []) ∧ l3.R = [kvB]) := ⟨p1, p2, p3, p4, p5, p6, p7, p8⟩
  have K1 : Hid (Calls Tryz.prog 9 #[.int .i64 20] w fun e w' => ∃ b, e = .returned (.tuple #[.pointer (some ⟨b, 0, none⟩), .int .i64 0]) ∧ Wd w w' (fun k => k < w.heap.size) b 0 (Ds.new 20) ∧ Below w.heap.size w w') := wd_new 20 (by omega) (by omega) w w (Below.refl _ _)
  have KE : Hid (∀ W : World, Calls Tryz.prog 24 #[.slice (some ⟨W.heap.size, 0, none⟩) 2 2] (W.alloc (.cells #[.string ⟨#[97]⟩, .string ⟨#[120]⟩, .bool false, .string ⟨#[98]⟩, .string ⟨#[]⟩, .bool true] 45)) fun e w' => e = .returned (.tuple #[.string ⟨#[2, 0, 1, 97, 1, 120, 1, 1, 98]⟩, .int .i64 0]) ∧ Below W.heap.size W w') := fun W => by
    have k := kEncode_is [pAx, pBg] 2 rfl (by omega) (fit_ok (encA_ok encA_ab).2.2.2.1) (some ⟨W.heap.size, 0, none⟩) 2 _ (in_two W)
    rw [encA_ab] at k
    refine k.mono ?_
    rintro e w' ⟨rfl, hb⟩
    exact ⟨rfl, (below1 W _).trans (hb.mono (by simp))⟩
  clear p1 p2 p3 p4 p5 p6 p7 p8
  go_enter Tryz.func11, Tryz.ntmps11
  go_wp2_with fail
  refine K1.out.mono ?_
  rintro e w1 ⟨bd, rfl, T1, hb1⟩
  have HT1 : Hid (Wd w w1 (fun k => k < w.heap.size) bd 0 (Ds.new 20)) := T1
  clear T1 hb1
  have KO : Hid (Calls Tryz.prog 12 #[.pointer (some ⟨bd, 0, none⟩)] w1 fun e w' => ∃ bb bl mb, e = .returned (.tuple #[.pointer (some ⟨bb, 0, none⟩), .int .i64 0]) ∧ Kb w w' (fun k => k < w.heap.size) bb bd bl mb 2 0 s1 l1 noT) := by
    refine (kOpen_ok HT1.out (by omega) HPL.out.1 [] ⟨HPL.out.2.1, fun b hb => by cases hb⟩).mono ?_
    rintro e w' ⟨bb, bl, mb, rfl, h1, _⟩
    exact ⟨bb, bl, mb, rfl, h1⟩
  go_wp2_with fail
  refine KO.out.mono ?_
  rintro e w2 ⟨bb, bl, mb, rfl, hk2⟩
  have HK2 : Hid (Kb w w2 (fun k => k < w.heap.size) bb bd bl mb 2 0 s1 l1 noT) := hk2
  have KE2 := KE.out w2
  clear hk2 KO
  go_wp2_with fail
  refine KE2.mono ?_
  rintro e w3 ⟨rfl, hb3⟩
  have HK3 : Hid (Kb w w3 (fun k => k < w.heap.size) bb bd bl mb 2 0 s1 l1 noT) := (HK2.out.keep hb3).less (fun _ h => .inl h)
  clear hb3 KE2 KE
  obtain ⟨w4, hw4⟩ : ∃ w4, w3.alloc (.cells #[.string ⟨#[107]⟩, .string ⟨#[118]⟩, .bool false] 45) = w4 := ⟨_, rfl⟩
  have W4E : Hid (w3.alloc (.cells #[.string ⟨#[107]⟩, .string ⟨#[118]⟩, .bool false] 45) = w4) := hw4
  have HK4 : Hid (Kb w w4 (fun k => k = w3.heap.size) bb bd bl mb 2 0 s1 l1 noT) := (HK3.out.keep (by rw [← hw4]; exact below1 _ _)).less (fun k hk => .inr ⟨by omega, by rw [← hw4]; simp; omega⟩)
  have KD : Hid (Calls Tryz.prog 15 #[.pointer (some ⟨bb, 0, none⟩), .slice (some ⟨w3.heap.size, 0, none⟩) 1 1] w4 fun e w' => e = .returned (.int .i64 0) ∧ Wd w w' (fun _ => False) bd 2102 s3) := by
    obtain ⟨_, _, q3, q4, q5, q6, _⟩ := HPL.out
    refine (kDo_ok HK4.out (by omega) (by omega) [pKv] kvB encA_k q3 (by rw [q4]; exact q5) (by rw [q4]; exact q6) (some ⟨w3.heap.size, 0, none⟩) 1 1 rfl (by rw [← hw4]; exact in_one w3) (fun x hx _ => by cases hx; rfl)).mono ?_
    rintro e w' ⟨rfl, h1, _⟩
    exact ⟨rfl, h1.wl.disk.less (fun _ h => h.elim)⟩
  clear hw4
  go_wp2_with fail
  rw [show World.alloc w3 _ = w4 from W4E.out]
  refine KD.out.mono ?_
  rintro e w5 ⟨rfl, hd5⟩
  have HD5 : Hid (Wd w w5 (fun _ => False) bd 2102 s3) := hd5
  clear hd5 KD
  have KC : Hid (Calls Tryz.prog 21 #[.pointer (some ⟨bd, 0, none⟩), .slice none 0 0] w5 fun e w' => e = .returned (.int .i64 0) ∧ Wd w w' (fun _ => False) bd 2102 (s3.cr [])) := by
    refine (wd_crash HD5.out (by omega) none 0 0 [] rfl (.inl rfl) (fun x hx => by cases hx)).mono ?_
    rintro e w' ⟨rfl, h1, _⟩
    exact ⟨rfl, h1⟩
  go_wp2_with fail
  refine KC.out.mono ?_
  rintro e w6 ⟨rfl, hd6⟩
  have HD6 : Hid (Wd w w6 (fun _ => False) bd 2102 (s3.cr [])) := hd6
  clear hd6 KC
  have KO2 : Hid (Calls Tryz.prog 12 #[.pointer (some ⟨bd, 0, none⟩)] w6 fun e w' => ∃ bb bl mb, e = .returned (.tuple #[.pointer (some ⟨bb, 0, none⟩), .int .i64 0]) ∧ Kb w w' (fun _ => False) bb bd bl mb 2104 64 (s3.cr []) l3 (chTs [[pKv]])) := by
    obtain ⟨_, _, _, _, _, _, q7, q8⟩ := HPL.out
    refine (kOpen_ok HD6.out (by omega) q7 [[pKv]] (by rw [q8]; exact bts_k)).mono ?_
    rintro e w' ⟨bb, bl, mb, rfl, h1, _⟩
    exact ⟨bb, bl, mb, rfl, h1⟩
  go_wp2_with fail
  refine KO2.out.mono ?_
  rintro e w7 ⟨b2, bl2, mb2, rfl, hk7⟩
  have HK7 : Hid (Kb w w7 (fun _ => False) b2 bd bl2 mb2 2104 64 (s3.cr []) l3 (chTs [[pKv]])) := hk7
  have KG : Hid (Calls Tryz.prog 29 #[.pointer (some ⟨b2, 0, none⟩), .string ⟨#[107]⟩] w7 fun e w' => e = .returned (.tuple #[.string ⟨#[118]⟩, .bool true]) ∧ Below w7.heap.size w7 w') := by
    have k := kGet_is w7 b2 bl2 mb2 64 _ hk7.box hk7.mp ⟨#[107]⟩ (by show 1 ≤ _; omega)
    rw [get_k] at k
    exact k
  clear hk7 KO2
  go_wp2_with fail
  refine KG.out.mono ?_
  rintro e w8 ⟨rfl, hb8⟩
  have HB8 : Hid (Below w.heap.size w w8) := (HK7.out.keep hb8).wl.bel
  have KL : Hid (Calls Tryz.prog 31 #[.pointer (some ⟨b2, 0, none⟩)] w8 fun e w' => e = .returned (.int .i64 1) ∧ w' = w8) := kLen_is w8 b2 bl2 mb2 64 _ (HK7.out.keep hb8).box (HK7.out.keep hb8).mp [⟨#[107]⟩] Ks_k
  clear hb8 KG
  go_wp2_with fail
  refine KL.out.mono ?_
  rintro e w9 ⟨rfl, rfl⟩
  go_wp2_with fail
  go_ret
  exact ⟨rfl, HB8.out⟩
end Go.Proofs.YtcindeechmpalaaGreat
namespace Go.Proofs.YtcindeechmpalaaGreat
open Go.ChangeShapes Go.WideShapes Go.ChangeAt Go.RowKit Go.Deep
set_option linter.unusedVariables false
/-- a change as data -/
def pDw {H : Type} (q : Pt) : DataW H := .agg [.lit (.string q.k.data.toList), .lit (.string q.v.data.toList), .lit (.bool q.g)]
theorem cellsPt : Tryz.prog.cellsOf 45 = 3 := by kernel_rfl
theorem cellsTx : Tryz.prog.cellsOf 9 = 1 := by kernel_rfl
theorem cellsBo : Tryz.prog.cellsOf 4 = 1 := by kernel_rfl
theorem bytesPt : Tryz.prog.bytesOf 45 = 40 := by kernel_rfl
theorem list3P {α : Type} {l : List α} (h : l.length = 3) : ∃ v0 v1 v2, l = [v0, v1, v2] := by
  match l, h with
  | [v0, v1, v2], _ => exact ⟨v0, v1, v2, rfl⟩
theorem open_put {H : Type} {enc : TypeId × Value → H} {W : World} {fuel : Nat} {cs : List Value} {x : DataW H × List MemPlace} (h : DataW.trod enc Tryz.prog W 0 (fun _ => true) true fuel 45 cs = some x) :
    ∃ q : Pt, cs = [.string q.k, .string q.v, .bool q.g] ∧ x.1 = pDw q := by
  obtain ⟨y0, y1, y2, n, hxy, hlen, g0, g1, g2⟩ := trod_struct3 Tryz.underlying45 h
  rw [cellsPt] at hlen
  obtain ⟨v0, v1, v2, rfl⟩ := list3P hlen
  simp [cellsTx, cellsBo] at g0 g1 g2
  obtain ⟨s0, e0, rfl, _⟩ := DataW.trod_string Tryz.underlying9 g0
  obtain ⟨s1, e1, rfl, _⟩ := DataW.trod_string Tryz.underlying9 g1
  obtain ⟨b2, e2, rfl⟩ := DataW.trod_bool Tryz.underlying4 g2
  simp only [List.cons.injEq, and_true] at e0 e1 e2
  subst e0 e1 e2 hxy
  exact ⟨⟨s0, s1, b2⟩, rfl, rfl⟩
theorem mem_weightsAllP {H : Type} {P : Program} {e : TypeId} {q : Nat} : ∀ {l : List (DataW H)} {d : DataW H}, d ∈ l → q ∈ d.weights P e → q ∈ DataW.weightsAll P e l
  | [], _, h, _ => by cases h
  | x :: r, d, h, hq => by
    rw [DataW.weightsAll]
    rcases List.mem_cons.1 h with rfl | h
    · exact List.mem_append_left _ hq
    · exact List.mem_append_right _ (mem_weightsAllP h hq)
theorem weights_pDw {H : Type} (q : Pt) : q.k.data.toList.length ∈ (pDw (H := H) q).weights Tryz.prog 45 ∧ q.v.data.toList.length ∈ (pDw (H := H) q).weights Tryz.prog 45 := by
  have hu := Tryz.underlying45
  constructor <;> simp [pDw, DataW.weights, DataW.weightsEach, hu]
theorem open_puts {H : Type} {enc : TypeId × Value → H} {W : World} {fuel : Nat} {a : Option Addr} {len cap : Nat} {x : DataW H × List MemPlace} (h : DataW.trod enc Tryz.prog W 0 (fun _ => true) true fuel 37 [.slice a len cap] = some x) (hw : ∀ q ∈ x.1.weights Tryz.prog 37, q ≤ 140737488351232) :
    ∃ l : List Pt, l.length = len ∧ InP W a l ∧ len ≤ 140737488355328 ∧ FitP l ∧ (l = [] ∨ ∃ sp, x.1 = .slice (l.map pDw) sp) := by
  rcases open_slice Tryz.underlying37 h with ⟨hcs, hx⟩ | ⟨a', len', cap', m, n, D, Pl, hcs, _, hl, hm, hmm, hx, hel⟩
  · simp only [List.cons.injEq, and_true, Value.slice.injEq] at hcs
    obtain ⟨rfl, rfl, rfl⟩ := hcs
    exact ⟨[], rfl, .inl rfl, by omega, fun x hx => (by cases hx), .inl rfl⟩
  · simp only [List.cons.injEq, and_true, Value.slice.injEq] at hcs
    obtain ⟨rfl, rfl, rfl⟩ := hcs
    have hmc : m = cap := by simpa using hmm
    subst hmc hx
    have each : ∀ i, i < len → ∃ q : Pt, ∃ cs', W.cells? 0 (a'.add (i * 3)) 3 = some cs' ∧ cs' = [.string q.k, .string q.v, .bool q.g] ∧ D i = pDw q := by
      intro i hi
      obtain ⟨cs', h1, h2⟩ := hel i (by omega)
      rw [cellsPt] at h1
      obtain ⟨q, hq, hd⟩ := open_put h2
      exact ⟨q, cs', h1, hq, hd⟩
    letI : Inhabited Pt := ⟨noP⟩
    obtain ⟨q, hq⟩ := choose_lt each
    simp only [maxLen] at hm
    have hdat : (l : List Pt) → l = (List.range len).map q → ∃ sp, (DataW.slice ((List.range len).map D) ((List.range (m - len)).map fun j => D (len + j)) : DataW H) = .slice (l.map pDw) sp := by
      intro l hl
      refine ⟨(List.range (m - len)).map fun j => D (len + j), ?_⟩
      congr 1
      subst hl
      apply List.ext_getElem
      · simp
      · intro i h1 h2
        have hi : i < len := by simpa using h1
        obtain ⟨_, _, _, h3⟩ := hq i hi
        simp [h3]
    obtain ⟨sp, hsp⟩ := hdat _ rfl
    refine ⟨(List.range len).map q, by simp, ?_, ?_, ?_, .inr ⟨sp, hsp⟩⟩
    · by_cases h0 : len = 0
      · left; subst h0; rfl
      · right
        have hsp : ∀ i, i < len → W.cell? (a'.add (i * 3)) = some (.string (q i).k) ∧ W.cell? (a'.add (i * 3 + 1)) = some (.string (q i).v) ∧ W.cell? (a'.add (i * 3 + 2)) = some (.bool (q i).g) := by
          intro i hi
          obtain ⟨cs', h1, h2, _⟩ := hq i hi
          obtain ⟨_, hlen, hcell⟩ := World.cells?_some h1
          subst h2
          have e0 := hcell 0 (by omega)
          have e1 := hcell 1 (by omega)
          have e2 := hcell 2 (by omega)
          rw [add_add] at e0 e1 e2
          exact ⟨by simpa using e0, by simpa using e1, by simpa using e2⟩
        obtain ⟨b, off, spot⟩ := a'
        have hc := (hsp 0 (by omega)).1
        have hspot : spot = none := by simpa [Addr.add] using World.cell?_spot hc
        subst hspot
        rw [add_plain] at hc
        refine ⟨b, off, rfl, World.block_lt_of_cell? _ _ hc, fun i x hx => ?_⟩
        have hi : i < len := by
          have := (List.getElem?_eq_some_iff.1 hx).1
          simpa using this
        have hxq : x = q i := by simpa [hi] using hx.symm
        subst hxq
        have := hsp i hi
        rw [add_plain, add_plain, add_plain] at this
        exact this
    · have hq2 := hw ((((List.range len).map D).length + ((List.range (m - len)).map fun j => D (len + j)).length) * 40) (by
        simp only [DataW.weights, Tryz.underlying37, bytesPt]
        exact List.mem_cons_self)
      simp only [List.length_map, List.length_range] at hq2
      omega
    · intro y hy
      obtain ⟨i, hi, rfl⟩ := List.mem_map.1 hy
      have hi' : i < len := List.mem_range.1 hi
      obtain ⟨_, _, _, h3⟩ := hq i hi'
      have key : ∀ n ∈ (pDw (H := H) (q i)).weights Tryz.prog 45, n ≤ 140737488351232 := fun n hn => by
        refine hw n ?_
        simp only [DataW.weights, Tryz.underlying37]
        exact List.mem_cons_of_mem _ (List.mem_append_left _ (mem_weightsAllP (List.mem_map.2 ⟨i, hi, h3⟩) hn))
      obtain ⟨w1, w2⟩ := weights_pDw (H := H) (q i)
      have h1 := key _ w1
      have h2 := key _ w2
      have e1 : (q i).k.data.toList.length = (q i).k.size := by simp
      have e2 : (q i).v.data.toList.length = (q i).v.size := by simp
      omega
end Go.Proofs.YtcindeechmpalaaGreat
