/- What a loss of power leaves, in one word; Sync and Reset of any log that agrees with its disk. A database in memory; isNone, Get, Len. kv.Open of a log whose records are batches. Snapshots, plainly: how many changes go into a batch; the batches of a list; what they leave. strings.Compare; kv.byKey. slices.SortFunc at changes, by the library's own contract: the numbers of its closure in this program. What kv sorts: changes, by their keys. kv.rising: keys with their values in order. -/
import Derived.Test.YtcindeechmpalaaGreatMgKl19
import Derived.Test.YtcindeechmpalaaGreatMgKl13
import Derived.Test.YtcindeechmpalaaGreatMgKl15
import Derived.Test.YtcindeechmpalaaGreatMgKl3
import Derived.Lib.Bytealg
import Derived.Lib.Strings
import Derived.Shelf.SlSortCmp.WholeK
namespace Go.Proofs.YtcindeechmpalaaGreat
open Go.ChangeShapes Go.WideShapes Go.ChangeAt Go.RowKit Go.Deep Go.Maps
set_option linter.unusedVariables false
/-- what is found behind a loss of power: the log l, or nothing that was ever written -/
def Inv (n : Nat) (t : Ds) (l : Lg) : Prop := Free t ∧ l.W = [] ∧ (Gd t l ∨ (l = lg0 n ∧ Bare n t))
def Aft (n : Nat) (t : Ds) (H N : List (List Int)) : Prop := ∃ l, Inv n t l ∧ (l.R = H ∨ l.R = N)
theorem bare_open {n : Nat} {t : Ds} (h6 : 6 ≤ n) (hn : n ≤ 4096) (h : Bare n t) (f : Free t) : ∃ s', t.opn = (0, some (lg0 n), s') := by
  obtain ⟨c, o, s', e, hor⟩ := open_cut h6 hn h
  rcases hor with ⟨rfl, rfl, g, hl⟩ | ⟨rfl, rfl, hu, _⟩
  · exact ⟨s', e⟩
  · exfalso
    have hl1 : t.D.length = n := by rw [h.D]; simp [noughts]
    obtain ⟨s2, k1, k2, k3⟩ := run_flush (A := [some (1, hdB 1 0 0)]) (s := t) f (by simp) (fun p hp => by
      have : p = (1, hdB 1 0 0) := by simpa using hp
      subst this
      exact ⟨by show 1 < _; omega, hdB_len _ _ _⟩)
    have k1' : t.run [some (1, hdB 1 0 0), none] = (0, s2) := k1
    have hz : ∀ i, i < n → t.cur i = List.replicate 64 0 := fun i hi => by
      rw [cur_nil h.W, bAt, h.D]
      unfold noughts
      rw [List.getElem?_replicate, if_pos hi]
      rfl
    rw [Ds.opn, if_neg (by rw [h.up]; simp), if_neg (by omega), Ds.fob, if_pos ⟨hz 0 (by omega), hz 1 (by omega)⟩, k1', if_pos rfl] at e
    cases (Prod.mk.inj e).1
theorem cr_len {s : Ds} (keep : List Int) (h : ∀ i, s.W i = []) : (s.cr keep).D = s.D := crD_nil keep s.D s.W h
theorem gu_cr {s : Ds} {l : Lg} (h : Gu s l) (keep : List Int) : Gd (s.cr keep) l := gd_same h.gd (free_cr _ _) (cr_len keep h.W)
theorem inv_gd {n : Nat} {t : Ds} {l : Lg} (h : Gd t l) : Inv n t { l with W := [] } := ⟨h.free, rfl, .inl (gd_drop h)⟩
theorem inv_open {n : Nat} {t : Ds} {l : Lg} (h6 : 6 ≤ n) (hn : n ≤ 4096) (h : Inv n t l) : ∃ s', t.opn = (0, some l, s') := by
  obtain ⟨f, hW, h | ⟨rfl, h⟩⟩ := h
  · have e := gd_open h
    rw [show ({ l with W := [] } : Lg) = l by rw [← hW]] at e
    exact ⟨t, e⟩
  · exact bare_open h6 hn h f
theorem inv_again {n : Nat} {t : Ds} {l : Lg} (h6 : 6 ≤ n) (hn : n ≤ 4096) (h : Inv n t l) (k : Int) (keep : List Int) : Inv n (((t.fs k).2.opn.2.2).cr keep) l := by
  obtain ⟨f, hW, h | ⟨rfl, h⟩⟩ := h
  · have g : Gu (t.fs k).2 l := Gu.made h f.up f.W rfl
    rw [gu_open g]
    exact ⟨free_cr _ _, hW, .inl (gu_cr g keep)⟩
  · have b : Bare n (t.fs k).2 := ⟨f.up, f.W, h.D⟩
    obtain ⟨c, o, s', e, hor⟩ := open_cut h6 hn b
    rw [e]
    rcases hor with ⟨rfl, rfl, g, hl'⟩ | ⟨rfl, rfl, hu, hk⟩
    · exact ⟨free_cr _ _, rfl, .inl (gu_cr g keep)⟩
    · rcases hk keep with m | m
      · exact ⟨free_cr _ _, rfl, .inr ⟨rfl, m⟩⟩
      · exact ⟨free_cr _ _, rfl, .inl m⟩
theorem op_len (s : Ds) (o : Option (Nat × List Int)) : (s.op o).2.D.length = s.D.length := by
  cases o with
  | none =>
    show s.fl.2.D.length = _
    unfold Ds.fl
    split
    · rfl
    · split
      · rfl
      · exact flD_len _ _
  | some p =>
    show (s.wr (p.1 : Int) p.2).2.D.length = _
    unfold Ds.wr
    split
    · rfl
    · split
      · rfl
      · split <;> rfl
theorem run_len : ∀ (A : List (Option (Nat × List Int))) (s : Ds), (s.run A).2.D.length = s.D.length
  | [], s => rfl
  | o :: r, s => by
    rw [Ds.run_cons]
    split
    · exact op_len s o
    · exact (run_len r _).trans (op_len s o)
theorem sync_len {s s' : Ds} {l l' : Lg} {c : Int} (e : l.sync s = (c, l', s')) : s'.D.length = s.D.length := by
  have h : (l.sync s).2.2 = s' := by rw [e]
  rw [← h]
  unfold Lg.sync
  split
  · rfl
  · split
    · rfl
    · split
      · rfl
      · split
        · exact run_len _ _
        · exact run_len _ _
theorem reset_len {s s' : Ds} {l l' : Lg} {c : Int} {recs : List (List Int)} (e : l.reset s recs = (c, l', s')) : s'.D.length = s.D.length := by
  have h : (l.reset s recs).2.2 = s' := by rw [e]
  rw [← h]
  unfold Lg.reset
  split
  · rfl
  · split
    · rfl
    · split
      · rfl
      · split
        · exact run_len _ _
        · exact run_len _ _
theorem sync_any {n : Nat} {s : Ds} {l : Lg} (h : Gu s l) (hno : l.no < 1152921504606846976) : ∃ c l' s', l.sync s = (c, l', s') ∧ ((c = 0 ∧ l'.R = l.R ++ l.W ∧ l'.W = [] ∧ Gu s' l' ∧ s'.D.length = s.D.length ∧ l'.no ≤ l.no + 1 ∧ l'.m = l.m) ∨ (c = 15 ∧ l' = { l with lost := true } ∧ s'.up = false ∧ s'.D.length = s.D.length ∧ ∀ keep, Aft n (s'.cr keep) l.R (l.R ++ l.W))) := by
  by_cases hW : l.W = []
  · refine ⟨0, l, s, ?_, .inl ⟨rfl, by rw [hW, List.append_nil], hW, h, rfl, Nat.le_succ _, rfl⟩⟩
    unfold Lg.sync
    rw [if_neg (by rw [h.gd.lost]; simp), if_pos hW]
  · obtain ⟨c, l', s', e, hor⟩ := sync_cut h hno hW
    refine ⟨c, l', s', e, ?_⟩
    rcases hor with ⟨rfl, rfl, g, hD⟩ | ⟨rfl, rfl, hu, hk⟩
    · exact .inl ⟨rfl, rfl, rfl, g, hD, Nat.le_refl _, rfl⟩
    · refine .inr ⟨rfl, rfl, hu, sync_len e, fun keep => ?_⟩
      rcases hk keep with m | m
      · exact ⟨_, inv_gd m, .inl rfl⟩
      · exact ⟨_, inv_gd m, .inr rfl⟩
theorem reset_any {n : Nat} {s : Ds} {l : Lg} (h : Gu s l) (hno : l.no < 1152921504606846976) (recs : List (List Int)) (hb : ∀ B ∈ recs, IsBytes B) : ∃ c l' s', l.reset s recs = (c, l', s') ∧ ((c = 0 ∧ l'.R = recs ∧ l'.W = [] ∧ Gu s' l' ∧ s'.D.length = s.D.length ∧ l'.no ≤ l.no + 1 ∧ l'.m = l.m) ∨ (c = 15 ∧ l' = { l with lost := true } ∧ s'.up = false ∧ s'.D.length = s.D.length ∧ ∀ keep, Aft n (s'.cr keep) l.R recs) ∨ ((c = 3 ∨ c = 7 ∨ c = 11) ∧ l' = l ∧ s' = s)) := by
  by_cases hW : l.W = []
  · by_cases hf : (frO recs (64 * l.m)).2 = 0
    · obtain ⟨c, l', s', e, hor⟩ := reset_cut h hno hW recs hb hf
      refine ⟨c, l', s', e, ?_⟩
      rcases hor with ⟨rfl, rfl, g, hD⟩ | ⟨rfl, rfl, hu, hk⟩
      · exact .inl ⟨rfl, rfl, rfl, g, hD, Nat.le_refl _, rfl⟩
      · refine .inr (.inl ⟨rfl, rfl, hu, reset_len e, fun keep => ?_⟩)
        rcases hk keep with m | m
        · exact ⟨_, inv_gd m, .inl rfl⟩
        · exact ⟨_, inv_gd m, .inr rfl⟩
    · refine ⟨(frO recs (64 * l.m)).2, l, s, ?_, .inr (.inr ⟨?_, rfl, rfl⟩)⟩
      · unfold Lg.reset
        rw [if_neg (by rw [h.gd.lost]; simp), if_neg (by simpa using hW), if_pos hf]
      · rcases frO_code recs (64 * l.m) with e | e | e
        · exact absurd e hf
        · exact .inl e
        · exact .inr (.inl e)
  · exact ⟨11, l, s, reset_state h.gd.lost hW recs, .inr (.inr ⟨.inr (.inr rfl), rfl, rfl⟩)⟩
theorem add_gu {s : Ds} {l : Lg} (h : Gu s l) (X : List Int) (hX : IsBytes X) : Gu s (l.add X).2 := ⟨h.up, h.W, gd_add h.gd X hX⟩
theorem sync_lost {l : Lg} {s : Ds} (h : l.lost = true) : l.sync s = (15, l, s) := by
  unfold Lg.sync
  rw [if_pos h]
theorem add_lost {l : Lg} (h : l.lost = true) (X : List Int) : l.add X = (15, l) := by
  unfold Lg.add
  rw [if_pos h]
/-- a write into what is neither the disk's nor the log's -/
theorem Wl.grown {w wr w' : World} {P : Nat → Prop} {bd bl N : Nat} {s : Ds} {l : Lg} {row : Option Nat} (h : Wl w wr P bd bl N s l) (hg : wr.grownBy w' row) (hr : ∀ k, row = some k → P k ∧ w.heap.size ≤ k) : Wl w w' (fun k => P k ∨ (wr.heap.size ≤ k ∧ k < w'.heap.size)) bd bl N s l := by
  obtain ⟨F, G, a1, a2, a3, a4, a5, a6⟩ := h.ex
  refine ⟨⟨F, G, a1.grown hg (fun k e hk => (a6 k (hr k e).1).2.1 hk), a2.kept (fun k hk => hg.block k (a2.lt k hk) (fun e => (a6 k (hr k e.symm).1).2.2 hk)), a3, a4, a5, fun k hk => ?_⟩, h.ok, h.bel.grown hg h.bel.size (fun k e => (hr k e).2)⟩
  rcases hk with hk | ⟨k1, k2⟩
  · have := a6 k hk
    exact ⟨Nat.lt_of_lt_of_le this.1 hg.size, this.2⟩
  · exact ⟨k2, fun e => by have := a1.lt k e; omega, fun e => by have := a2.lt k e; omega⟩
theorem Wd.grown {w wr w' : World} {P : Nat → Prop} {bd N : Nat} {s : Ds} {row : Option Nat} (h : Wd w wr P bd N s) (hg : wr.grownBy w' row) (hr : ∀ k, row = some k → P k ∧ w.heap.size ≤ k) : Wd w w' (fun k => P k ∨ (wr.heap.size ≤ k ∧ k < w'.heap.size)) bd N s := by
  obtain ⟨F, a1, a4, a6⟩ := h.ex
  refine ⟨⟨F, a1.grown hg (fun k e hk => (a6 k (hr k e).1).2 hk), a4, fun k hk => ?_⟩, h.bel.grown hg h.bel.size (fun k e => (hr k e).2)⟩
  rcases hk with hk | ⟨k1, k2⟩
  · have := a6 k hk
    exact ⟨Nat.lt_of_lt_of_le this.1 hg.size, this.2⟩
  · exact ⟨k2, fun e => by have := a1.lt k e; omega⟩
theorem Wd.less {w wr : World} {P Q : Nat → Prop} {bd N : Nat} {s : Ds} (h : Wd w wr P bd N s) (hQ : ∀ k, Q k → P k) : Wd w wr Q bd N s := by
  obtain ⟨F, a1, a4, a6⟩ := h.ex
  exact ⟨⟨F, a1, a4, fun k hk => a6 k (hQ k hk)⟩, h.bel⟩
theorem Wl.grown0 {w wr w' : World} {P : Nat → Prop} {bd bl N : Nat} {s : Ds} {l : Lg} {row : Option Nat} (h : Wl w wr P bd bl N s l) (hg : wr.grownBy w' row) (hr : ∀ k, row = some k → P k ∧ w.heap.size ≤ k) : Wl w w' P bd bl N s l := (h.grown hg hr).less fun _ hk => .inl hk
theorem Wd.grown0 {w wr w' : World} {P : Nat → Prop} {bd N : Nat} {s : Ds} {row : Option Nat} (h : Wd w wr P bd N s) (hg : wr.grownBy w' row) (hr : ∀ k, row = some k → P k ∧ w.heap.size ≤ k) : Wd w w' P bd N s := (h.grown hg hr).less fun _ hk => .inl hk
theorem Wd.keep0 {w wr w' : World} {P : Nat → Prop} {bd N : Nat} {s : Ds} (h : Wd w wr P bd N s) (hb : Below wr.heap.size wr w') : Wd w w' P bd N s := (h.keep hb).less fun _ hk => .inl hk
end Go.Proofs.YtcindeechmpalaaGreat
namespace Go.Proofs.YtcindeechmpalaaGreat
open Go.ChangeShapes Go.WideShapes Go.ChangeAt Go.RowKit Go.Deep Go.Maps
set_option linter.unusedVariables false
set_option linter.unusedSimpArgs false
/-- a database's two cells -/
def kO (bl mb : Nat) : Obj := .cells #[.pointer (some ⟨bl, 0, none⟩), .map (some mb)] 67
theorem ko_cells {w : World} {bb bl mb : Nat} (h : w.heap[bb]? = some (kO bl mb)) : w.cell? ⟨bb, 0, none⟩ = some (.pointer (some ⟨bl, 0, none⟩)) ∧ w.cell? ⟨bb, 1, none⟩ = some (.map (some mb)) := by
  unfold kO at h
  refine ⟨?_, ?_⟩ <;> simp [World.cell?, h]
/-- block bb is a database over the log in block bl, with the map in block mb -/
structure Kb (w wr : World) (P : Nat → Prop) (bb bd bl mb N C : Nat) (s : Ds) (l : Lg) (T : ByteArray → Option Pt) : Prop where
  wl : Wl w wr (fun k => P k ∨ k = bb ∨ k = mb) bd bl N s l
  box : wr.heap[bb]? = some (kO bl mb)
  mp : Pm wr mb C T
  ge : w.heap.size ≤ bb ∧ w.heap.size ≤ mb
  ne : bb ≠ mb ∧ ∀ k, P k → k ≠ bb ∧ k ≠ mb
theorem kNone_is (w : World) (bb bl mb : Nat) (h : w.heap[bb]? = some (kO bl mb)) : Calls Tryz.prog 42 #[.pointer (some ⟨bb, 0, none⟩)] w fun e w' => e = .returned (.bool false) ∧ w' = w := by
  obtain ⟨q0, q1⟩ := ko_cells h
  clear h
  go_enter Tryz.func42, Tryz.ntmps42
  go_wp2_with fail
  go_ret
  exact ⟨rfl, rfl⟩
set_option maxRecDepth 100000 in
set_option maxHeartbeats 4000000 in
theorem kGet_is (w : World) (bb bl mb N : Nat) (T : ByteArray → Option Pt) (h : w.heap[bb]? = some (kO bl mb)) (hm : Pm w mb N T) (key : ByteArray) (hk : key.size ≤ 140737488355328) :
    Calls Tryz.prog 29 #[.pointer (some ⟨bb, 0, none⟩), .string key] w fun e w' => e = .returned (.tuple #[.string ((T key).getD noP).v, .bool (T key).isSome]) ∧ Below w.heap.size w w' := by
  have KN : Hid (Calls Tryz.prog 42 #[.pointer (some ⟨bb, 0, none⟩)] w fun e w' => e = .returned (.bool false) ∧ w' = w) := kNone_is w bb bl mb h
  obtain ⟨q0, q1⟩ := ko_cells h
  have hlk := hm.look2 key hk
  generalize (T key).getD noP = x at *
  generalize (T key).isSome = b at *
  obtain ⟨xk, xv, xg⟩ := x
  unfold pA pC at hlk
  simp only at hlk ⊢
  have HB : Hid (Below w.heap.size w (w.alloc (.cells #[.string xk, .string xv, .bool xg] 45))) := below1 _ _
  clear h hm hk
  go_enter Tryz.func29, Tryz.ntmps29
  go_wp2_with fail
  refine KN.out.mono ?_
  rintro e w1 ⟨rfl, rfl⟩
  go_wp2_with fail
  go_ret2
  exact ⟨rfl, HB.out⟩
set_option maxHeartbeats 4000000 in
theorem kLen_is (w : World) (bb bl mb N : Nat) (T : ByteArray → Option Pt) (h : w.heap[bb]? = some (kO bl mb)) (hm : Pm w mb N T) (ks : List ByteArray) (hks : Ks T ks) :
    Calls Tryz.prog 31 #[.pointer (some ⟨bb, 0, none⟩)] w fun e w' => e = .returned (.int .i64 (ks.length : Int)) ∧ w' = w := by
  have KN : Hid (Calls Tryz.prog 42 #[.pointer (some ⟨bb, 0, none⟩)] w fun e w' => e = .returned (.bool false) ∧ w' = w) := kNone_is w bb bl mb h
  obtain ⟨q0, q1⟩ := ko_cells h
  obtain ⟨D, hD, hz⟩ := pm_exact hm ks hks
  have HD : Hid (w.ownsMap Tryz.prog 9 pR mb N D) := hD
  have HZ : Hid (Maps.size D = ks.length) := hz
  clear h hm hks hD hz
  generalize ks.length = q at *
  go_enter Tryz.func31, Tryz.ntmps31
  go_wp2_with fail
  refine KN.out.mono ?_
  rintro e w1 ⟨rfl, rfl⟩
  go_wp2_with (first | (at_len; (refine wpList_len_own w1 rfl (.tmp 8) 65 rfl 9 45 Tryz.underlying65 pR mb _ D rfl HD.out ?_; rw [HZ.out])))
  go_ret
  exact ⟨rfl, rfl⟩
end Go.Proofs.YtcindeechmpalaaGreat
namespace Go.Proofs.YtcindeechmpalaaGreat
open Go.ChangeShapes Go.WideShapes Go.ChangeAt Go.RowKit Go.Deep Go.Maps
set_option linter.unusedVariables false
set_option linter.unusedSimpArgs false
def noT : ByteArray → Option Pt := fun _ => none
def chTs (bs : List (List Pt)) : ByteArray → Option Pt := bs.foldl chT noT
theorem chTs_snoc (bs : List (List Pt)) (b : List Pt) : chTs (bs ++ [b]) = chT (chTs bs) b := by unfold chTs; rw [List.foldl_append]; rfl
/-- the records are the bytes of these batches -/
def Bts (R : List (List Int)) (bs : List (List Pt)) : Prop := R = bs.map eB ∧ ∀ b ∈ bs, encA b = (0, eB b)
theorem Pm.grownK {w w' : World} {b n : Nat} {T : ByteArray → Option Pt} (h : Pm w b n T) (hs : w.heap.size ≤ w'.heap.size) (hb : w'.heap[b]? = w.heap[b]?) (ho : w'.os = w.os) (ht : w'.tape = w.tape) (hp : w'.output = w.output) : Pm w' b n T := by
  obtain ⟨D, ⟨es, clock, h1, r⟩, h2⟩ := h
  exact ⟨D, ⟨es, clock, hb.trans h1, r⟩, h2⟩
set_option maxRecDepth 100000 in
set_option maxHeartbeats 8000000 in
theorem kOpen_ok {w wz : World} {P : Nat → Prop} {bd N : Nat} {s s' : Ds} {l : Lg} (T : Wd w wz P bd N s) (hN : N < 900000) (hop : s.opn = (0, some l, s')) (bs : List (List Pt)) (hR : Bts l.R bs) :
    Calls Tryz.prog 12 #[.pointer (some ⟨bd, 0, none⟩)] wz fun e w' => ∃ bb bl mb, e = .returned (.tuple #[.pointer (some ⟨bb, 0, none⟩), .int .i64 0]) ∧ Kb w w' P bb bd bl mb (N + 2) (64 * bs.length) s' l (chTs bs) ∧ ∀ k, P k → w'.heap[k]? = wz.heap[k]? := by
  have KO : Hid (Calls Tryz.prog 37 #[.pointer (some ⟨bd, 0, none⟩)] wz fun e w' => (∀ k, P k → w'.heap[k]? = wz.heap[k]?) ∧ wz.heap.size ≤ w'.heap.size ∧ ∃ bl, e = .returned (.tuple #[.pointer (some ⟨bl, 0, none⟩), .int .i64 0]) ∧ Wl w w' P bd bl (N + 2) s' l) := by
    have k := wd_open T (by omega)
    rw [hop] at k
    refine k.mono ?_
    rintro e w' ⟨h1, h2, ⟨_, bl, l', hl, he, hw, _⟩ | ⟨h0, _⟩⟩
    · have e2 : l = l' := Option.some.inj hl
      subst e2
      exact ⟨h1, h2, bl, he, hw⟩
    · exact absurd rfl h0
  have HP0 : Hid (∀ k, P k → k < wz.heap.size) := fun k hk => by
    obtain ⟨F, _, _, a3⟩ := T.ex
    exact (a3 k hk).1
  have HWB : Hid (w.heap.size ≤ wz.heap.size) := T.bel.size
  obtain ⟨hR1, hR2⟩ := hR
  have HR : Hid (l.R = bs.map eB) := hR1
  have HE : Hid (∀ b ∈ bs, encA b = (0, eB b)) := hR2
  clear T hop hR1 hR2
  go_enter Tryz.func12, Tryz.ntmps12
  go_wp2_with fail
  refine KO.out.mono ?_
  rintro e w1 ⟨hk1, hz1, bl, rfl, hw1⟩
  have W1 : Hid (Wl w w1 P bd bl (N + 2) s' l ∧ (∀ k, P k → w1.heap[k]? = wz.heap[k]?) ∧ wz.heap.size ≤ w1.heap.size) := ⟨hw1, hk1, hz1⟩
  clear hk1 hz1 hw1 KO
  obtain ⟨w2, hw2⟩ : ∃ w2, w1.alloc (.map #[] 0) = w2 := ⟨_, rfl⟩
  obtain ⟨w3, hw3⟩ : ∃ w3, w2.alloc (.cells #[.pointer (some ⟨bl, 0, none⟩), .map (some w1.heap.size)] 67) = w3 := ⟨_, rfl⟩
  have hz2 : w2.heap.size = w1.heap.size + 1 := by rw [← hw2]; simp
  have hmm : (Instr.makeMap 65 none).run Tryz.prog w1 = .ok (.map (some w1.heap.size)) w2 := by rw [← hw2]; rfl
  have hb2 : Below w1.heap.size w1 w2 := by rw [← hw2]; exact below1 _ _
  have hb3 : Below w2.heap.size w2 w3 := by rw [← hw3]; exact below1 _ _
  obtain ⟨mb, hmb⟩ : ∃ mb, w1.heap.size = mb := ⟨_, rfl⟩
  obtain ⟨bb, hbb⟩ : ∃ bb, w2.heap.size = bb := ⟨_, rfl⟩
  have M3 : Hid (Pm w3 mb 0 noT) := by
    have q := Pm.empty w1
    rw [hw2, hmb] at q
    exact q.keep hb3
  have X3 : Hid (w3.heap[bb]? = some (kO bl mb)) := by show _ = _; rw [← hw3, ← hbb, hmb]; exact heap_alloc_new w2 _
  obtain ⟨Q, hQ⟩ : ∃ Q : Nat → Prop, Q = fun k => (P k ∨ k = bb ∨ k = mb) ∨ (w3.heap.size ≤ k) := ⟨_, rfl⟩
  have hz3 : w3.heap.size = bb + 1 := by rw [← hw3, ← hbb]; simp
  have W3 : Hid (Wl w w3 (fun k => P k ∨ k = bb ∨ k = mb) bd bl (N + 2) s' l) := ((W1.out.1.keep hb2).keep hb3).less fun k hk => by
    rcases hk with h | h | h
    · exact .inl (.inl h)
    · exact .inr ⟨by omega, by omega⟩
    · exact .inl (.inr ⟨by omega, by omega⟩)
  have HBM : Hid (bb = mb + 1 ∧ w3.heap.size = bb + 1 ∧ wz.heap.size ≤ mb) := ⟨by omega, hz3, by have := W1.out.2.2; omega⟩
  have HPK : Hid (∀ k, P k → w3.heap[k]? = wz.heap[k]? ∧ k < wz.heap.size) := fun k hk => ⟨((hb3.block k (by have := HP0.out k hk; have := W1.out.2.2; omega)).trans (hb2.block k (by have := HP0.out k hk; have := W1.out.2.2; omega))).trans (W1.out.2.1 k hk), HP0.out k hk⟩
  have KRec : Hid (Calls Tryz.prog 38 #[.pointer (some ⟨bl, 0, none⟩)] w3 fun e w' => ∃ v, e = .returned v ∧ RowsS w' w3.heap.size v l.R ∧ Below w3.heap.size w3 w') := wl_records W3.out
  have HFew : Hid (l.R.length ≤ 16376) := W3.out.ok.few.1
  have W3E : Hid (w2.alloc (.cells #[.pointer (some ⟨bl, 0, none⟩), .map (some w1.heap.size)] 67) = w3 ∧ w1.heap.size = mb ∧ w2.heap.size = bb) := ⟨hw3, hmb, hbb⟩
  clear hw2 hw3 hz2 hz3 hb2 hb3 hmb hbb hQ W1
  go_wp2_with fail
  rw [show World.alloc w2 _ = w3 from W3E.out.1, W3E.out.2.2, W3E.out.2.1]
  refine KRec.out.mono ?_
  rintro e w4 ⟨v, rfl, hr4, hb4⟩
  obtain ⟨ar, cr, rfl, hn4, hi4, hl4, hc4⟩ := RowsS.slice hr4
  obtain ⟨n, hn⟩ : ∃ n, l.R.length = n := ⟨_, rfl⟩
  have HN : Hid (l.R.length = n ∧ bs.length = n ∧ n ≤ 16376) := ⟨hn, by rw [← hn, HR.out, List.length_map], by rw [← hn]; exact HFew.out⟩
  have HAR : Hid (∀ x, ar = some x → w3.heap.size ≤ x.block) := fun x hx => (hr4.own x.block (by rw [hx]; rfl)).1
  have S4 : Hid (Wl w w4 (fun k => P k ∨ k = bb ∨ k = mb) bd bl (N + 2) s' l ∧ w4.heap[bb]? = some (kO bl mb) ∧ Pm w4 mb 0 noT ∧ InS w4 ar l.R ∧ (∀ k, P k → w4.heap[k]? = wz.heap[k]?)) := ⟨W3.out.keep0 hb4, (hb4.block bb (by have := HBM.out; omega)).trans X3.out, M3.out.keep hb4, hi4, fun k hk => (hb4.block k (by have := (HPK.out k hk).2; have := HBM.out; omega)).trans (HPK.out k hk).1⟩
  rw [hn] at hl4 ⊢
  clear hr4 hb4 hn4 hi4 hn KRec W3 X3 M3
  go_wp2_with fail
  go_loopg [26] n (fun gg iv wq => ∃ j : Nat, j ≤ n ∧ gg = n - j ∧ iv = .int .i64 (j : Int) ∧ Hid (Wl w wq (fun k => P k ∨ k = bb ∨ k = mb) bd bl (N + 2) s' l ∧ wq.heap[bb]? = some (kO bl mb) ∧ Pm wq mb (64 * j) (chTs (bs.take j)) ∧ InS wq ar l.R ∧ (∀ k, P k → wq.heap[k]? = wz.heap[k]?)))
  case atStart => exact ⟨0, Nat.zero_le _, rfl, rfl, S4⟩
  case round =>
    obtain ⟨j, hj, rfl, rfl, RW⟩ := hrel
    clear S4
    by_cases hlt : j < n
    · have j1 : decide ((j : Int) < (n : Int)) = true := by rw [decide_eq_true_eq]; omega
      obtain ⟨b, hb⟩ : ∃ b, bs[j]? = some b := ⟨bs[j]'(by have := HN.out; omega), List.getElem?_eq_getElem _⟩
      have hEb := HE.out b (List.mem_of_getElem? hb)
      obtain ⟨_, _, h64, hok, _⟩ := encA_ok hEb
      have hLb : l.R.getD j [] = eB b := by rw [HR.out, List.getD_eq_getElem?_getD, List.getElem?_map, hb]; rfl
      obtain ⟨g, off, rfl, hc⟩ : ∃ g off, ar = some ⟨g, off, none⟩ ∧ ∀ i, i < l.R.length → wr.cell? ⟨g, off + i, none⟩ = some (.string (strOfNums (l.R.getD i []))) := by
        rcases RW.out.2.2.2.1 with e | h
        · have := HN.out.1; rw [e] at this; simp at this; omega
        · exact h
      have kc := hc j (by have := HN.out; omega)
      rw [hLb] at kc
      have hgm : g ≠ mb := by have q1 := HAR.out _ rfl; have q2 := HBM.out; simp only at q1; omega
      have KD : Hid (Calls Tryz.prog 26 #[.string (strOfNums (eB b))] wr fun e w' => ∃ v, e = .returned (.tuple #[v, .int .i64 0]) ∧ OwnP w' wr.heap.size v b ∧ Below wr.heap.size wr w') := kDecode_ok b (eB b) hEb wr
      have HBK : Hid (b.length ≤ 64 ∧ ∀ x ∈ b, x.k.size ≤ 140737488355328) := ⟨h64, fun x hx => by have := badP_no (hok x hx); omega⟩
      have HTK : Hid (chTs (bs.take (j + 1)) = chT (chTs (bs.take j)) b) := by
        show _ = _
        obtain ⟨h1, h2⟩ := List.getElem?_eq_some_iff.1 hb
        rw [List.take_succ_eq_append_getElem h1, h2, chTs_snoc]
      have ri : IntKind.i64.wrap ((j : Int) + 1) = (j : Int) + 1 := by rw [IntKind.wrap_i64]; have := HN.out; omega
      have HLT : Hid (mb < wr.heap.size ∧ bb < wr.heap.size) := ⟨RW.out.2.2.1.lt, lt_of_heapK RW.out.2.1⟩
      clear hb hEb h64 hok hLb hc
      generalize strOfNums (eB b) = st at *
      go_wp2_with fail
      refine KD.out.mono ?_
      rintro e w5 ⟨v, rfl, ho5, hb5⟩
      obtain ⟨a5, c5, rfl, hi5, _, _, _, hbl5⟩ := ho5.slice
      have S5 : Hid (Wl w w5 (fun k => P k ∨ k = bb ∨ k = mb) bd bl (N + 2) s' l ∧ w5.heap[bb]? = some (kO bl mb) ∧ Pm w5 mb (64 * j) (chTs (bs.take j)) ∧ InS w5 (some ⟨g, off, none⟩) l.R ∧ (∀ k, P k → w5.heap[k]? = wz.heap[k]?)) := ⟨RW.out.1.keep0 hb5, (hb5.block bb HLT.out.2).trans RW.out.2.1, RW.out.2.2.1.keep hb5, RW.out.2.2.2.1.keep hb5, fun k hk => (hb5.block k (by have := (HPK.out k hk).2; have := HBM.out; have := HLT.out; omega)).trans (RW.out.2.2.2.2 k hk)⟩
      have KS : Hid (Calls Tryz.prog 39 #[.map (some mb), .slice a5 b.length c5] w5 fun e w' => e = .returned (.tuple #[]) ∧ Pm w' mb (64 * j + b.length) (chT (chTs (bs.take j)) b) ∧ w5.grownBy w' (some mb)) := kSet_is b b.length rfl (by have := HBK.out; omega) HBK.out.2 a5 c5 mb (64 * j) (by have := HN.out; omega) _ w5 hi5 S5.out.2.2.1 (fun x hx _ => by have := (hbl5 x hx).1; have := HLT.out; omega)
      obtain ⟨q0, q1⟩ := ko_cells S5.out.2.1
      clear ho5 hb5 hi5 hbl5 kc KD RW
      go_wp2_with fail
      refine KS.out.mono ?_
      rintro e w6 ⟨rfl, hm6, hg6⟩
      have S6 : Hid (Wl w w6 (fun k => P k ∨ k = bb ∨ k = mb) bd bl (N + 2) s' l ∧ w6.heap[bb]? = some (kO bl mb) ∧ Pm w6 mb (64 * (j + 1)) (chTs (bs.take (j + 1))) ∧ InS w6 (some ⟨g, off, none⟩) l.R ∧ (∀ k, P k → w6.heap[k]? = wz.heap[k]?)) := by
        refine ⟨S5.out.1.grown0 hg6 (fun k e => ⟨.inr (.inr (Option.some.inj e).symm), by have := HBM.out; have := HWB.out; have := Option.some.inj e; omega⟩), (hg6.block bb (lt_of_heapK S5.out.2.1) (fun e => by have := HBM.out; have := Option.some.inj e; omega)).trans S5.out.2.1, ?_, S5.out.2.2.2.1.kept fun x hx hne => ?_, fun k hk => (hg6.block k ?_ (fun e => by have := (HPK.out k hk).2; have := HBM.out; have := Option.some.inj e; omega)).trans (S5.out.2.2.2.2 k hk)⟩
        · rw [HTK.out]
          exact hm6.mono (by have := HBK.out.1; omega)
        · cases hx
          exact hg6.block g (S5.out.2.2.2.1.lt _ rfl hne) (fun e => hgm (Option.some.inj e))
        · have h1 := (HPK.out k hk).2
          have h2 := HBM.out
          have h3 := S5.out.2.2.1.lt
          omega
      clear hm6 hg6 q0 q1 KS S5
      go_wp2_with fail
      go_roundg (n - (j + 1))
      case measure => omega
      case rel => exact ⟨j + 1, by omega, rfl, by simp, S6⟩
    · have j1 : decide ((j : Int) < (n : Int)) = false := by rw [decide_eq_false_iff_not]; omega
      have HF : Hid (Kb w wr P bb bd bl mb (N + 2) (64 * bs.length) s' l (chTs bs) ∧ ∀ k, P k → wr.heap[k]? = wz.heap[k]?) := by
        obtain ⟨a1, a2, a3, a4, a5⟩ := RW.out
        rw [List.take_of_length_le (by have := HN.out; omega)] at a3
        have h1 := HBM.out
        have h2 := HWB.out
        exact ⟨⟨a1, a2, a3.mono (by have := HN.out; omega), ⟨by omega, by omega⟩, by omega, fun k hk => by have := (HPK.out k hk).2; exact ⟨by omega, by omega⟩⟩, a5⟩
      go_wp2_with fail
      go_ret2
      exact ⟨bb, bl, mb, rfl, HF.out⟩
end Go.Proofs.YtcindeechmpalaaGreat
namespace Go.Proofs.YtcindeechmpalaaGreat
set_option linter.unusedVariables false
/-- how many changes go into one batch, where sz bytes and i changes are in it -/
def fitG : Nat → Nat → List Pt → Nat
  | _, i, [] => i
  | sz, i, x :: r => if i = 64 ∨ 4096 < sz + (cB x).length then i else fitG (sz + (cB x).length) (i + 1) r
def fitN (l : List Pt) : Nat := fitG 1 0 l
theorem fitG_le : ∀ (l : List Pt) (sz i : Nat), i ≤ fitG sz i l ∧ fitG sz i l ≤ i + l.length
  | [], sz, i => ⟨Nat.le_refl _, Nat.le_refl _⟩
  | x :: r, sz, i => by
    rw [fitG]
    split
    · exact ⟨Nat.le_refl _, by omega⟩
    · have := fitG_le r (sz + (cB x).length) (i + 1)
      rw [List.length_cons]
      omega
theorem fitG_64 : ∀ (l : List Pt) (sz i : Nat), i ≤ 64 → fitG sz i l ≤ 64
  | [], sz, i, h => h
  | x :: r, sz, i, h => by
    rw [fitG]
    split
    · exact h
    · rename_i hn
      exact fitG_64 r _ (i + 1) (by omega)
theorem fitG_size : ∀ (l : List Pt) (sz i : Nat), sz ≤ 4096 → sz + (csB (l.take (fitG sz i l - i))).length ≤ 4096
  | [], sz, i, h => by simp [csB]; exact h
  | x :: r, sz, i, h => by
    rw [fitG]
    split
    · simp [csB]; exact h
    · rename_i hn
      have ih := fitG_size r (sz + (cB x).length) (i + 1) (by omega)
      have hle := (fitG_le r (sz + (cB x).length) (i + 1)).1
      obtain ⟨k, hk⟩ : ∃ k, fitG (sz + (cB x).length) (i + 1) r = i + 1 + k := ⟨fitG (sz + (cB x).length) (i + 1) r - (i + 1), by omega⟩
      rw [hk] at ih ⊢
      rw [show i + 1 + k - (i + 1) = k by omega] at ih
      rw [show i + 1 + k - i = k + 1 by omega, List.take_succ_cons]
      unfold csB at ih ⊢
      rw [List.flatMap_cons, List.length_append]
      omega
theorem fitN_pos {x : Pt} {r : List Pt} (h : badP x = false) : 1 ≤ fitN (x :: r) := by
  have := cB_len h
  unfold fitN
  rw [fitG, if_neg (by omega)]
  exact (fitG_le r _ 1).1
theorem fitN_enc {l : List Pt} (hne : l ≠ []) (h : ∀ x ∈ l, badP x = false) : encA (l.take (fitN l)) = (0, eB (l.take (fitN l))) ∧ 1 ≤ fitN l ∧ fitN l ≤ l.length := by
  cases l with
  | nil => exact absurd rfl hne
  | cons x r =>
    have h1 := fitN_pos (r := r) (h x (by simp))
    have h2 : fitN (x :: r) ≤ 64 := fitG_64 (x :: r) 1 0 (by omega)
    have h3 : 1 + (csB ((x :: r).take (fitN (x :: r) - 0))).length ≤ 4096 := fitG_size (x :: r) 1 0 (by omega)
    have h4 : fitN (x :: r) ≤ 0 + (x :: r).length := (fitG_le (x :: r) 1 0).2
    rw [Nat.sub_zero] at h3
    generalize fitN (x :: r) = n at *
    refine ⟨?_, h1, by omega⟩
    have hl : ((x :: r).take n).length = n := by rw [List.length_take]; omega
    have hb : ∀ y ∈ (x :: r).take n, badP y = false := fun y hy => h y (List.mem_of_mem_take hy)
    generalize (x :: r).take n = k at *
    have a1 : ¬ (k = [] ∨ k.any badP = true) := by
      rintro (e | e)
      · rw [e] at hl; simp at hl; omega
      · obtain ⟨y, hy, hyb⟩ := List.any_eq_true.1 e
        rw [hb y hy] at hyb
        cases hyb
    have a2 : ¬ 64 < k.length := by omega
    have a3 : ¬ 4096 < (eB k).length := by
      unfold eB
      rw [List.length_append, hl]
      have : (vk n).length = 1 := by unfold vk; rw [if_pos (by omega)]; rfl
      omega
    unfold encA
    rw [if_neg a1, if_neg a2, if_neg a3]
/-- the batches of a list -/
def snapF : Nat → List Pt → List (List Pt)
  | 0, _ => []
  | f + 1, l => if l = [] then [] else l.take (fitN l) :: snapF f (l.drop (fitN l))
theorem snapF_nil : ∀ f, snapF f [] = []
  | 0 => rfl
  | f + 1 => by rw [snapF, if_pos rfl]
theorem snapF_fuel : ∀ (f g : Nat) (l : List Pt), l.length ≤ f → l.length ≤ g → (∀ x ∈ l, badP x = false) → snapF f l = snapF g l
  | 0, g, l, h1, _, _ => by
    obtain rfl := List.length_eq_zero_iff.1 (Nat.le_zero.1 h1)
    rw [snapF_nil, snapF_nil]
  | f + 1, 0, l, _, h2, _ => by
    obtain rfl := List.length_eq_zero_iff.1 (Nat.le_zero.1 h2)
    rw [snapF_nil, snapF_nil]
  | f + 1, g + 1, l, h1, h2, h => by
    by_cases hne : l = []
    · subst hne
      rw [snapF_nil, snapF_nil]
    · have h3 := fitN_enc hne h
      rw [snapF, snapF, if_neg hne, if_neg hne, snapF_fuel f g (l.drop (fitN l)) (by rw [List.length_drop]; omega) (by rw [List.length_drop]; omega) (fun x hx => h x (List.mem_of_mem_drop hx))]
def snapB (l : List Pt) : List (List Pt) := snapF l.length l
theorem snapB_cons {l : List Pt} (hne : l ≠ []) (h : ∀ x ∈ l, badP x = false) : snapB l = l.take (fitN l) :: snapB (l.drop (fitN l)) := by
  have h3 := fitN_enc hne h
  obtain ⟨n, hn⟩ : ∃ n, l.length = n + 1 := ⟨l.length - 1, by omega⟩
  show snapF l.length l = _
  rw [hn, snapF, if_neg hne, snapF_fuel n (l.drop (fitN l)).length _ (by rw [List.length_drop]; omega) (Nat.le_refl _) (fun x hx => h x (List.mem_of_mem_drop hx))]
  rfl
theorem snap_all : ∀ (n : Nat) (l : List Pt), l.length ≤ n → (∀ x ∈ l, badP x = false) → (snapB l).flatten = l ∧ (∀ b ∈ snapB l, encA b = (0, eB b)) ∧ (snapB l).length ≤ l.length
  | 0, l, h, _ => by
    obtain rfl := List.length_eq_zero_iff.1 (Nat.le_zero.1 h)
    exact ⟨rfl, fun b hb => (by cases hb), Nat.le_refl _⟩
  | n + 1, l, h, hb => by
    by_cases hne : l = []
    · subst hne
      exact ⟨rfl, fun b hb => (by cases hb), Nat.le_refl _⟩
    · obtain ⟨h1, h2, h3⟩ := fitN_enc hne hb
      obtain ⟨i1, i2, i3⟩ := snap_all n (l.drop (fitN l)) (by rw [List.length_drop]; omega) (fun x hx => hb x (List.mem_of_mem_drop hx))
      rw [snapB_cons hne hb]
      refine ⟨?_, fun b hb => ?_, ?_⟩
      · rw [List.flatten_cons, i1, List.take_append_drop]
      · rcases List.mem_cons.1 hb with e | e
        · rw [e]; exact h1
        · exact i2 b e
      · rw [List.length_cons]
        rw [List.length_drop] at i3
        omega
theorem foldl_flat : ∀ (bs : List (List Pt)) (T : ByteArray → Option Pt), bs.foldl chT T = chT T bs.flatten
  | [], T => rfl
  | b :: bs, T => by rw [List.foldl_cons, foldl_flat bs, List.flatten_cons, chT_app]
theorem chTs_flat (bs : List (List Pt)) : chTs bs = chT noT bs.flatten := foldl_flat bs noT
theorem snap_bts {l : List Pt} (h : ∀ x ∈ l, badP x = false) : Bts ((snapB l).map eB) (snapB l) ∧ chTs (snapB l) = chT noT l := by
  obtain ⟨h1, h2, h3⟩ := snap_all l.length l (Nat.le_refl _) h
  exact ⟨⟨rfl, h2⟩, by rw [chTs_flat, h1]⟩
theorem chT_off : ∀ (l : List Pt) (T : ByteArray → Option Pt) (q : ByteArray), (∀ x ∈ l, x.k ≠ q) → chT T l q = T q
  | [], T, q, _ => rfl
  | x :: l, T, q, h => by
    show chT (ch1 T x) l q = T q
    rw [chT_off l _ q (fun y hy => h y (by simp [hy]))]
    unfold ch1
    rw [if_neg (fun e => h x (by simp) e.symm)]
theorem chT_list : ∀ (l : List Pt) (T : ByteArray → Option Pt), l.Pairwise (fun x y => x.k ≠ y.k) → (∀ x ∈ l, x.g = false) → ∀ x ∈ l, chT T l x.k = some x
  | [], T, _, _, x, hx => by cases hx
  | y :: l, T, hp, hg, x, hx => by
    obtain ⟨p1, p2⟩ := List.pairwise_cons.1 hp
    show chT (ch1 T y) l x.k = some x
    rcases List.mem_cons.1 hx with e | e
    · subst e
      rw [chT_off l _ _ (fun z hz => (p1 z hz).symm)]
      unfold ch1
      rw [if_pos rfl, if_neg (by rw [hg x (by simp)]; simp)]
    · exact chT_list l _ p2 (fun z hz => hg z (by simp [hz])) x e
end Go.Proofs.YtcindeechmpalaaGreat
namespace Go.Proofs.YtcindeechmpalaaGreat
open Go.ChangeShapes Go.WideShapes Go.ChangeAt Go.RowKit Go.Deep Go.Maps
set_option linter.unusedVariables false
/-- how two texts stand -/
def cK (a b : ByteArray) : Int := Lib.compareBytes (dL a) (dL b)
theorem cb_self : ∀ a : List UInt8, Lib.compareBytes a a = 0
  | [] => rfl
  | x :: a => by rw [Lib.compareBytes, if_neg (by simp), if_neg (by simp)]; exact cb_self a
theorem cb_range : ∀ a b : List UInt8, Lib.compareBytes a b = -1 ∨ Lib.compareBytes a b = 0 ∨ Lib.compareBytes a b = 1
  | [], [] => .inr (.inl rfl)
  | [], _ :: _ => .inl rfl
  | _ :: _, [] => .inr (.inr rfl)
  | x :: a, y :: b => by
    rw [Lib.compareBytes]
    split
    · exact .inl rfl
    · split
      · exact .inr (.inr rfl)
      · exact cb_range a b
theorem u8_eq {x y : UInt8} (h1 : ¬ x < y) (h2 : ¬ y < x) : x = y := by
  rw [UInt8.lt_iff_toNat_lt] at h1 h2
  exact UInt8.toNat_inj.1 (by omega)
theorem cb_eq : ∀ a b : List UInt8, Lib.compareBytes a b = 0 → a = b
  | [], [], _ => rfl
  | [], _ :: _, h => absurd h (by show ¬ (-1 : Int) = 0; omega)
  | _ :: _, [], h => absurd h (by show ¬ (1 : Int) = 0; omega)
  | x :: a, y :: b, h => by
    rw [Lib.compareBytes] at h
    split at h
    · exact absurd h (by omega)
    · split at h
      · exact absurd h (by omega)
      · rename_i h1 h2
        rw [u8_eq h1 h2, cb_eq a b h]
theorem cb_anti : ∀ a b : List UInt8, Lib.compareBytes b a = - Lib.compareBytes a b
  | [], [] => rfl
  | [], _ :: _ => rfl
  | _ :: _, [] => rfl
  | x :: a, y :: b => by
    rw [Lib.compareBytes, Lib.compareBytes]
    by_cases h1 : x < y
    · have h2 : ¬ y < x := by rw [UInt8.lt_iff_toNat_lt] at *; omega
      rw [if_neg h2, if_pos h1, if_pos h1]
      rfl
    · by_cases h2 : y < x
      · rw [if_pos h2, if_neg h1, if_pos h2]
      · rw [if_neg h2, if_neg h1, if_neg h1, if_neg h2]
        exact cb_anti a b
theorem cb_trans : ∀ a b c : List UInt8, Lib.compareBytes a b < 0 → Lib.compareBytes b c < 0 → Lib.compareBytes a c < 0
  | [], [], _, h, _ => absurd h (by show ¬ (0 : Int) < 0; omega)
  | [], _ :: _, [], _, h => absurd h (by show ¬ (1 : Int) < 0; omega)
  | [], _ :: _, _ :: _, _, _ => by show (-1 : Int) < 0; omega
  | _ :: _, [], _, h, _ => absurd h (by show ¬ (1 : Int) < 0; omega)
  | _ :: _, _ :: _, [], _, h => absurd h (by show ¬ (1 : Int) < 0; omega)
  | x :: a, y :: b, z :: c, h1, h2 => by
    rw [Lib.compareBytes] at h1 h2 ⊢
    by_cases p1 : x < y
    · by_cases p2 : y < z
      · rw [if_pos (by rw [UInt8.lt_iff_toNat_lt] at *; omega)]; omega
      · rw [if_neg p2] at h2
        by_cases p3 : z < y
        · rw [if_pos p3] at h2; omega
        · obtain rfl := u8_eq p2 p3
          rw [if_pos p1]; omega
    · rw [if_neg p1] at h1
      by_cases p2 : y < x
      · rw [if_pos p2] at h1; omega
      · rw [if_neg p2] at h1
        obtain rfl := u8_eq p1 p2
        by_cases p3 : x < z
        · rw [if_pos p3]; omega
        · rw [if_neg p3] at h2 ⊢
          by_cases p4 : z < x
          · rw [if_pos p4] at h2; omega
          · rw [if_neg p4] at h2 ⊢
            exact cb_trans a b c h1 h2
theorem cK_eq {a b : ByteArray} (h : cK a b = 0) : a = b := dL_inj (cb_eq _ _ h)
theorem cK_anti (a b : ByteArray) : cK b a = - cK a b := cb_anti _ _
theorem cK_trans {a b c : ByteArray} (h1 : cK a b < 0) (h2 : cK b c < 0) : cK a c < 0 := cb_trans _ _ _ h1 h2
set_option maxRecDepth 100000 in
set_option maxHeartbeats 2000000 in
theorem cmpString_is (a b : ByteArray) (w : World) : Calls Tryz.prog 158 #[.string a, .string b] w fun e w' => e = .returned (.int .i64 (cK a b)) ∧ w' = w := by
  go_enter Tryz.func158, Tryz.ntmps158
  go_wp2
  rw [run_callFunc_extern Tryz.func175 (by kernel_rfl) (by kernel_rfl) (by kernel_rfl) (e := Extern.BytealgCompare.compare) (by kernel_rfl), Lib.run_compareString]
  simp only [Result.andThen]
  rw [Oper.upon_value]
  go_wp2
  go_ret
  exact ⟨rfl, rfl⟩
theorem compare_is (a b : ByteArray) (w : World) : Calls Tryz.prog 125 #[.string a, .string b] w fun e w' => e = .returned (.int .i64 (cK a b)) ∧ w' = w := by
  have K : Hid (∀ w, Calls Tryz.prog 158 #[.string a, .string b] w fun e w' => e = .returned (.int .i64 (cK a b)) ∧ w' = w) := fun w => cmpString_is a b w
  generalize cK a b = r at *
  go_enter Tryz.func125, Tryz.ntmps125
  go_wp2_with fail
  refine (K.out _).mono ?_
  rintro e w1 ⟨rfl, rfl⟩
  go_wp2_with fail
  go_ret
  exact ⟨rfl, rfl⟩
theorem two_boxesK (w : World) (b1 b2 : Obj) (k : Nat) : ((w.alloc b1).alloc b2).drewN k = Go.Sort.grow (w.drewN k) #[b1, b2] := by
  rw [Go.Sort.alloc_eq_grow, Go.Sort.alloc_eq_grow, Go.Sort.grow_grow]
  rfl
def cfP (x y : Pt) : Int := cK x.k y.k
set_option maxRecDepth 100000 in
set_option maxHeartbeats 2000000 in
theorem byKey_raw (xk xv yk yv : ByteArray) (xg yg : Bool) (w : World) : Calls Tryz.prog 101 #[.agg #[.string xk, .string xv, .bool xg], .agg #[.string yk, .string yv, .bool yg]] w fun e w' => e = .returned (.int .i64 (cK xk yk)) ∧ ∃ q os', w' = Go.Sort.grow (w.drewN q) os' := by
  have K : Hid (∀ W, Calls Tryz.prog 125 #[.string xk, .string yk] W fun e w' => e = .returned (.int .i64 (cK xk yk)) ∧ w' = W) := fun W => compare_is xk yk W
  generalize cK xk yk = r at *
  go_enter Tryz.func101, Tryz.ntmps101
  go_wp2_with fail
  refine (K.out _).mono ?_
  rintro e w3 ⟨rfl, hw⟩
  obtain rfl := hw.symm
  clear hw
  go_wp2_with fail
  go_ret
  exact ⟨rfl, 0, _, two_boxesK w _ _ 0⟩
theorem byKey_is (x y : Pt) (w : World) : Calls Tryz.prog 101 #[.agg (pcl x).toArray, .agg (pcl y).toArray] w fun e w' => e = .returned (.int .i64 (cfP x y)) ∧ ∃ q os', w' = Go.Sort.grow (w.drewN q) os' := byKey_raw x.k x.v y.k y.v x.g y.g w
end Go.Proofs.YtcindeechmpalaaGreat
namespace Go.Proofs.YtcindeechmpalaaGreat
open Go.Shelf Go.RowKit Go.Lib Go.Sort
set_option linter.unusedVariables false
def soRenP : Go.Shelf.Ren := ⟨fun | 6 => 100 | 14 => 124 | 15 => 118 | 20 => 150 | 21 => 151 | 22 => 152 | 23 => 153 | 24 => 154 | 25 => 155 | 26 => 156 | 27 => 157 | 28 => 148 | 29 => 120 | 46 => 172 | 47 => 168 | 48 => 169 | 49 => 173 | 50 => 174 | 57 => 182 | n => n, fun | 0 => 0 | 3 => 3 | 4 => 4 | 5 => 5 | 9 => 9 | 22 => 37 | 24 => 45 | 25 => 159 | 39 => 178 | 45 => 197 | 46 => 198 | 50 => 202 | 53 => 191 | 55 => 116 | 66 => 218 | 70 => 221 | 76 => 230 | 77 => 231 | n => n, fun | n => n⟩
theorem soLaysP : Go.Proofs.SlLaysF0.n6 Tryz.prog soRenP := {
  mixed := by kernel_rfl
  f6 := ⟨Tryz.f100.name, by decide, Tryz.func100.trans (congrArg some (by kernel_rfl))⟩
  f14 := ⟨Tryz.f124.name, by decide, Tryz.func124.trans (congrArg some (by kernel_rfl))⟩
  f15 := Tryz.func118.trans (congrArg some (by kernel_rfl))
  f20 := ⟨Tryz.f150.name, by decide, Tryz.func150.trans (congrArg some (by kernel_rfl))⟩
  f21 := ⟨Tryz.f151.name, by decide, Tryz.func151.trans (congrArg some (by kernel_rfl))⟩
  f22 := ⟨Tryz.f152.name, by decide, Tryz.func152.trans (congrArg some (by kernel_rfl))⟩
  f23 := ⟨Tryz.f153.name, by decide, Tryz.func153.trans (congrArg some (by kernel_rfl))⟩
  f24 := ⟨Tryz.f154.name, by decide, Tryz.func154.trans (congrArg some (by kernel_rfl))⟩
  f25 := ⟨Tryz.f155.name, by decide, Tryz.func155.trans (congrArg some (by kernel_rfl))⟩
  f26 := ⟨Tryz.f156.name, by decide, Tryz.func156.trans (congrArg some (by kernel_rfl))⟩
  f27 := ⟨Tryz.f157.name, by decide, Tryz.func157.trans (congrArg some (by kernel_rfl))⟩
  f28 := Tryz.func148.trans (congrArg some (by kernel_rfl))
  f29 := Tryz.func120.trans (congrArg some (by kernel_rfl))
  f46 := ⟨Tryz.f172.name, by decide, Tryz.func172.trans (congrArg some (by kernel_rfl))⟩
  f47 := Tryz.func168.trans (congrArg some (by kernel_rfl))
  f48 := Tryz.func169.trans (congrArg some (by kernel_rfl))
  f49 := ⟨Tryz.f173.name, by decide, Tryz.func173.trans (congrArg some (by kernel_rfl))⟩
  f50 := ⟨Tryz.f174.name, by decide, Tryz.func174.trans (congrArg some (by kernel_rfl))⟩
  f57 := ⟨Tryz.f182.name, by decide, Tryz.func182.trans (congrArg some (by kernel_rfl))⟩
  t0 := Tryz.underlying0
  a0 := Tryz.isAgg0
  z0 := Tryz.sizeOf0
  v0 := Tryz.zeroValue0
  t3 := Tryz.underlying3
  a3 := Tryz.isAgg3
  z3 := Tryz.sizeOf3
  v3 := Tryz.zeroValue3
  t4 := Tryz.underlying4
  a4 := Tryz.isAgg4
  z4 := Tryz.sizeOf4
  v4 := Tryz.zeroValue4
  t5 := Tryz.underlying5
  a5 := Tryz.isAgg5
  z5 := Tryz.sizeOf5
  v5 := Tryz.zeroValue5
  t9 := Tryz.underlying9
  a9 := Tryz.isAgg9
  z9 := Tryz.sizeOf9
  v9 := Tryz.zeroValue9
  t22 := Tryz.underlying37
  a22 := Tryz.isAgg37
  z22 := Tryz.sizeOf37
  v22 := Tryz.zeroValue37
  t25 := Tryz.underlying159
  a25 := Tryz.isAgg159
  z25 := Tryz.sizeOf159
  v25 := Tryz.zeroValue159
  t39 := Tryz.underlying178
  a39 := Tryz.isAgg178
  z39 := Tryz.sizeOf178
  v39 := Tryz.zeroValue178
  t45 := Tryz.underlying197
  a45 := Tryz.isAgg197
  z45 := Tryz.sizeOf197
  v45 := Tryz.zeroValue197
  t46 := Tryz.underlying198
  a46 := Tryz.isAgg198
  z46 := Tryz.sizeOf198
  v46 := Tryz.zeroValue198
  t50 := Tryz.underlying202
  a50 := Tryz.isAgg202
  z50 := Tryz.sizeOf202
  v50 := Tryz.zeroValue202
  t53 := Tryz.underlying191
  a53 := Tryz.isAgg191
  z53 := Tryz.sizeOf191
  v53 := Tryz.zeroValue191
  t55 := Tryz.underlying116
  a55 := Tryz.isAgg116
  z55 := Tryz.sizeOf116
  v55 := Tryz.zeroValue116
  t66 := Tryz.underlying218
  a66 := Tryz.isAgg218
  z66 := Tryz.sizeOf218
  v66 := Tryz.zeroValue218
  t70 := Tryz.underlying221
  a70 := Tryz.isAgg221
  z70 := Tryz.sizeOf221
  v70 := Tryz.zeroValue221
  t76 := Tryz.underlying230
  a76 := Tryz.isAgg230
  z76 := Tryz.sizeOf230
  v76 := Tryz.zeroValue230
  t77 := Tryz.underlying231
  a77 := Tryz.isAgg231
  z77 := Tryz.sizeOf231
  v77 := Tryz.zeroValue231 }
end Go.Proofs.YtcindeechmpalaaGreat
namespace Go.Proofs.YtcindeechmpalaaGreat
open Go.Shelf Go.RowKit Go.Lib Go.Sort
set_option linter.unusedVariables false
theorem ltOf_cfP (x y : Pt) : ltOf cfP x y = decide (cK x.k y.k < 0) := by
  unfold ltOf cfP
  rfl
theorem swoP : SWO (ltOf cfP) where
  irrefl x := by rw [ltOf_cfP, decide_eq_false_iff_not]; show ¬ Lib.compareBytes (dL x.k) (dL x.k) < 0; rw [cb_self]; omega
  trans x y z h1 h2 := by rw [ltOf_cfP, decide_eq_true_eq] at *; exact cK_trans h1 h2
  ntrans x y z h1 h2 := by
    rw [ltOf_cfP, decide_eq_false_iff_not] at *
    intro h3
    by_cases e1 : cK x.k y.k = 0
    · rw [cK_eq e1] at h3
      exact h2 h3
    · have a1 : cK y.k x.k < 0 := by rw [cK_anti]; omega
      exact h2 (cK_trans a1 h3)
theorem grownBy_sortedK {w : World} {g n : Nat} {os : Array Obj} (F : Array Value) : w.grownBy (grow (putRow id (Sort.ahead w n) g 0 F) os) (some g) := by
  refine ⟨rfl, rfl, rfl, by simp, fun k hk hne => ?_⟩
  rw [heap_grow_old _ _ (by simpa using hk)]
  have : g ≠ k := fun e => hne (by rw [e])
  simp [putRow, mapBlock, Sort.ahead, Array.getElem?_modify, this]
theorem sorted_atK {w : World} {g m : Nat} {os : Array Obj} {F cur : Array Value} {t : TypeId} (hg : w.heap[g]? = some (.cells cur t)) : ∃ cur', (grow (putRow id (Sort.ahead w m) g 0 F) os).heap[g]? = some (.cells cur' t) ∧ cur'.size = cur.size := by
  have hl : g < w.heap.size := (Array.getElem?_eq_some_iff.1 hg).1
  refine ⟨putCells id 0 F cur, ?_, by simp [putCells]⟩
  rw [heap_grow_old _ _ (by simpa using hl)]
  simp [putRow, mapBlock, Sort.ahead, Array.getElem?_modify, hg, onCells]
set_option maxHeartbeats 2000000 in
theorem sortP_is (w : World) (g n cap : Nat) (l : List Pt) (hn : l.length = n) (cur : Array Value) (hg : w.heap[g]? = some (.cells cur 45)) (hin : ∀ i x, l[i]? = some x → Pc w g (i * 3) x) (hn62 : n < 4611686018427387904) :
    Calls Tryz.prog 100 #[.slice (some ⟨g, 0, none⟩) n cap, .func (.func 101) #[] #[]] w fun e w' => e = .returned (.tuple #[]) ∧ ∃ l', l'.Perm l ∧ l'.Pairwise (fun x y => cK y.k x.k < 0 → False) ∧ InP w' (some ⟨g, 0, none⟩) l' ∧ w.grownBy w' (some g) ∧ ∃ cur', w'.heap[g]? = some (.cells cur' 45) ∧ cur'.size = cur.size := by
  letI : Inhabited Pt := ⟨noP⟩
  have hgl : g < w.heap.size := (Array.getElem?_eq_some_iff.1 hg).1
  have hsz : l.toArray.size = n := by simpa using hn
  have hH : HoldsK pcl 3 w g 0 l.toArray := by
    intro j hj
    rw [size_flatK, hsz] at hj
    refine ⟨?_, frozen_of_row w g _ _ _ hg⟩
    rw [get_flatK pcl 3 l.toArray j (by rw [hsz]; exact hj)]
    have hi : j / 3 < l.length := by omega
    have e1 : l.toArray[j / 3]! = l[j / 3] := by simp [hi]
    obtain ⟨c0, c1, c2⟩ := hin _ _ (List.getElem?_eq_getElem hi)
    rw [e1]
    have hj4 : 0 + j = j / 3 * 3 + j % 3 := by omega
    rw [hj4]
    rcases (by omega : j % 3 = 0 ∨ j % 3 = 1 ∨ j % 3 = 2) with e | e | e <;> rw [e]
    · exact c0
    · exact c1
    · exact c2
  have eg : ∀ args w, (callFunc 101 args).run Tryz.prog w = .ok (.enter 101 args) w := enters_of Tryz.func101 (by kernel_rfl) rfl
  have hcmp : CmpLays Tryz.prog 101 #[] pcl 3 cfP g 0 l.toArray.size w := fun m os dk _ x y => byKey_is x y _
  have hcon := AnyQ.slices_SortFunc soLaysP 3 Tryz.isAgg45 Tryz.sizeOf45 pcl (fun _ => rfl) (fun x v hv => by simp [pcl] at hv; rcases hv with rfl | rfl | rfl <;> rfl) cfP swoP 101 #[] g 0 cap l.toArray w eg hcmp hH hgl (by rw [hsz]; exact hn62)
  change Calls Tryz.prog 100 _ _ _ at hcon
  rw [hsz] at hcon
  refine hcon.mono ?_
  rintro e w' ⟨rfl, d', m, os, ⟨hs', _, hperm⟩, hsort, rfl⟩
  rw [hsz] at hs'
  have hH2 : HoldsK pcl 3 (sortWorldK pcl 3 w g 0 m d' os) g 0 d' := holdsK_sortWorldK_c pcl 3 w g 0 l.toArray d' m os hH hgl (by rw [hsz]; exact hs')
  refine ⟨rfl, d'.toList, ?_, ?_, ?_, grownBy_sortedK _, sorted_atK hg⟩
  · have e1 : (d'.extract 0 n).toList = d'.toList := by rw [← hs', Array.extract_size]
    have e2 : (l.toArray.extract 0 n).toList = l := by rw [← hsz, Array.extract_size]
    rw [e1, e2] at hperm
    exact hperm
  · rw [List.pairwise_iff_getElem]
    intro i j hi hj hij
    have hi' : i < d'.size := by simpa using hi
    have hj' : j < d'.size := by simpa using hj
    have := hsort i j (Nat.zero_le _) hij (by omega)
    rw [ltOf_cfP, getElem!_pos d' i hi', getElem!_pos d' j hj'] at this
    intro hlt
    rw [decide_eq_false_iff_not] at this
    exact this (by simpa using hlt)
  · refine .inr ⟨g, 0, rfl, ?_, fun i x hx => ?_⟩
    · have := (grownBy_sortedK (w := w) (g := g) (n := m) (os := os) (flatK pcl 3 d')).size
      exact Nat.lt_of_lt_of_le hgl this
    · have hi : i < d'.size := by
        rcases Nat.lt_or_ge i d'.size with h | h
        · exact h
        · rw [Array.getElem?_toList, Array.getElem?_eq_none h] at hx
          simp at hx
      rw [Array.getElem?_toList, Array.getElem?_eq_getElem hi] at hx
      simp only [Option.some.injEq] at hx
      have hc : ∀ t, t < 3 → (sortWorldK pcl 3 w g 0 m d' os).cell? ⟨g, 0 + i * 3 + t, none⟩ = some ((pcl d'[i])[t]!) := by
        intro t ht
        have := (hH2 (i * 3 + t) (by rw [size_flatK]; omega)).1
        rw [get_flatK pcl 3 d' (i * 3 + t) (by omega), show (i * 3 + t) / 3 = i by omega, show (i * 3 + t) % 3 = t by omega, getElem!_pos d' i hi] at this
        rw [show 0 + i * 3 + t = 0 + (i * 3 + t) by omega]
        exact this
      subst hx
      exact ⟨hc 0 (by omega), hc 1 (by omega), hc 2 (by omega)⟩
end Go.Proofs.YtcindeechmpalaaGreat
namespace Go.Proofs.YtcindeechmpalaaGreat
open Go.ChangeShapes Go.WideShapes Go.ChangeAt Go.RowKit Go.Deep Go.Maps
set_option linter.unusedVariables false
set_option linter.unusedSimpArgs false
/-- each change stands at its own key, and has a value -/
def AtKey (T : ByteArray → Option Pt) : Prop := ∀ q x, T q = some x → x.k = q ∧ x.g = false
/-- what was gathered of a map: the keys that were met, and the changes among them that were asked for -/
structure GotP (T : ByteArray → Option Pt) (f : ByteArray → Bool) (left : ByteArray → Bool) (l : List Pt) : Prop where
  mem : ∀ x, x ∈ l ↔ (T x.k = some x ∧ left x.k = false ∧ f x.k = true)
  nod : (l.map Pt.k).Nodup
  lft : ∀ q, left q = true → (T q).isSome = true
theorem GotP.nil (T : ByteArray → Option Pt) (f : ByteArray → Bool) : GotP T f (fun q => (T q).isSome) [] :=
  ⟨fun x => ⟨fun h => (by cases h), fun ⟨h1, h2, _⟩ => (by rw [h1] at h2; cases h2)⟩, by simp, fun q h => h⟩
theorem GotP.skip {T : ByteArray → Option Pt} {f left : ByteArray → Bool} {l : List Pt} (h : GotP T f left l) {q : ByteArray} (hf : f q = false) : GotP T f (fun z => left z && !decide (z = q)) l := by
  refine ⟨fun x => ?_, h.nod, fun z hz => h.lft z (by simp at hz; exact hz.1)⟩
  rw [h.mem]
  constructor
  · rintro ⟨h1, h2, h3⟩
    exact ⟨h1, by rw [h2]; rfl, h3⟩
  · rintro ⟨h1, h2, h3⟩
    refine ⟨h1, ?_, h3⟩
    cases hl : left x.k with
    | false => rfl
    | true =>
      rw [hl] at h2
      have : x.k = q := by simpa using h2
      rw [this, hf] at h3
      cases h3
theorem GotP.more {T : ByteArray → Option Pt} {f left : ByteArray → Bool} {l : List Pt} (h : GotP T f left l) {q : ByteArray} {y : Pt} (hT : T q = some y) (hk : y.k = q) (hl : left q = true) (hf : f q = true) : GotP T f (fun z => left z && !decide (z = q)) (l ++ [y]) := by
  refine ⟨fun x => ?_, ?_, fun z hz => h.lft z (by simp at hz; exact hz.1)⟩
  · rw [List.mem_append, h.mem]
    constructor
    · rintro (⟨h1, h2, h3⟩ | h1)
      · exact ⟨h1, by rw [h2]; rfl, h3⟩
      · have : x = y := by simpa using h1
        subst this
        rw [hk]
        exact ⟨hT, by simp, hf⟩
    · rintro ⟨h1, h2, h3⟩
      by_cases e : x.k = q
      · right
        rw [e, hT] at h1
        simp [Option.some.inj h1]
      · left
        refine ⟨h1, ?_, h3⟩
        simpa [e] using h2
  · rw [List.map_append, List.nodup_append]
    refine ⟨h.nod, by simp, ?_⟩
    intro a ha b hb e
    have hb' : b = y.k := by simpa using hb
    obtain ⟨x, hx, rfl⟩ := List.mem_map.1 ha
    have := ((h.mem x).1 hx).2.1
    rw [e, hb', hk, hl] at this
    cases this
theorem Pn.cnt_le {w : World} {b r n cnt : Nat} {T : ByteArray → Option Pt} {left : ByteArray → Bool} (h : Pn w b r n T left cnt) : cnt ≤ n := by
  obtain ⟨D, l, ⟨es, clock, since, seen, c0, hb, F, hs, hD, hr, hborn, hcnt, _⟩, h2, h3⟩ := h
  have : (leftOf es seen).size ≤ es.size := by
    unfold leftOf
    exact Array.size_filter_le
  omega
theorem Pn.apart {w : World} {b r n cnt base : Nat} {T : ByteArray → Option Pt} {left : ByteArray → Bool} {v : Value} {l : List Pt} (h : Pn w b r n T left cnt) (ho : OwnP w base v l) : some b ≠ v.ownBlock ∧ some r ≠ v.ownBlock := by
  obtain ⟨D, lf, ⟨es, clock, since, seen, c0, hb, F, hs, hD, hr, _⟩, h2, h3⟩ := h
  rcases ho.2 with ⟨rfl, _⟩ | ⟨g, cap, cur, rfl, hbg, hg, rest⟩
  · exact ⟨by simp [Value.ownBlock], by simp [Value.ownBlock]⟩
  · refine ⟨fun e => ?_, fun e => ?_⟩
    · have : b = g := by simpa [Value.ownBlock] using e
      subst this
      rw [hb] at hg
      simp at hg
    · have : r = g := by simpa [Value.ownBlock] using e
      subst this
      rw [hr] at hg
      simp at hg
end Go.Proofs.YtcindeechmpalaaGreat
