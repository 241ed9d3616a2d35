/- A log and its disk that outlive calls; what is neither's. Slices of texts that came in. Texts appended, of any slice; two logs of one disk; Reset, Add, plainly. What a loss of power leaves, in one word; Sync and Reset of any log that agrees with its disk. A database in memory; isNone, Get, Len. kv.isWrong, slices.ContainsFunc of changes, kv.Encode. kv.Encode. -/
import Derived.Test.YtcindeechmpalabGreatMgKr18
import Derived.Test.YtcindeechmpalabGreatMgKr3
import Derived.SliceStrings
import Derived.SizedLaws
import Derived.Test.YtcindeechmpalabGreatMgKr14
namespace Go.Proofs.YtcindeechmpalabGreat
open Go.ChangeShapes Go.WideShapes Go.ChangeAt Go.RowKit Go.Deep Go.Maps
set_option linter.unusedVariables false
/-- in block bd the disk s, in block bl the log l of it, all made since w; the blocks P are neither's -/
structure Wl (w wr : World) (P : Nat → Prop) (bd bl N : Nat) (s : Ds) (l : Lg) : Prop where
  ex : ∃ F G, Dk wr F bd N s ∧ Lm wr G bl bd l ∧ (∀ k, G k → ¬ F k) ∧ (∀ k, F k → w.heap.size ≤ k) ∧ (∀ k, G k → w.heap.size ≤ k) ∧ ∀ k, P k → k < wr.heap.size ∧ ¬ F k ∧ ¬ G k
  ok : l.Ok N
  bel : Below w.heap.size w wr
/-- in block bd the disk s alone -/
structure Wd (w wr : World) (P : Nat → Prop) (bd N : Nat) (s : Ds) : Prop where
  ex : ∃ F, Dk wr F bd N s ∧ (∀ k, F k → w.heap.size ≤ k) ∧ ∀ k, P k → k < wr.heap.size ∧ ¬ F k
  bel : Below w.heap.size w wr
theorem Wl.disk {w wr : World} {P : Nat → Prop} {bd bl N : Nat} {s : Ds} {l : Lg} (h : Wl w wr P bd bl N s l) : Wd w wr P bd N s := by
  obtain ⟨F, G, d, _, _, f, _, p⟩ := h.ex
  exact ⟨⟨F, d, f, fun k hk => ⟨(p k hk).1, (p k hk).2.1⟩⟩, h.bel⟩
theorem Wl.more {w wr : World} {P : Nat → Prop} {bd bl N N' : Nat} {s : Ds} {l : Lg} (h : Wl w wr P bd bl N s l) (hN : N ≤ N') : Wl w wr P bd bl N' s l := by
  obtain ⟨F, G, d, r⟩ := h.ex
  exact ⟨⟨F, G, d.more hN, r⟩, h.ok.more hN, h.bel⟩
theorem Wd.more {w wr : World} {P : Nat → Prop} {bd N N' : Nat} {s : Ds} (h : Wd w wr P bd N s) (hN : N ≤ N') : Wd w wr P bd N' s := by
  obtain ⟨F, d, r⟩ := h.ex
  exact ⟨⟨F, d.more hN, r⟩, h.bel⟩
theorem Wl.less {w wr : World} {P Q : Nat → Prop} {bd bl N : Nat} {s : Ds} {l : Lg} (h : Wl w wr P bd bl N s l) (hQ : ∀ k, Q k → P k) : Wl w wr Q bd bl N s l := by
  obtain ⟨F, G, a1, a2, a3, a4, a5, a6⟩ := h.ex
  exact ⟨⟨F, G, a1, a2, a3, a4, a5, fun k hk => a6 k (hQ k hk)⟩, h.ok, h.bel⟩
/-- whatever was made since is neither's -/
theorem Wl.keep {w wr w' : World} {P : Nat → Prop} {bd bl N : Nat} {s : Ds} {l : Lg} (h : Wl w wr P bd bl N s l) (hb : Below wr.heap.size wr w') : Wl w w' (fun k => P k ∨ (wr.heap.size ≤ k ∧ k < w'.heap.size)) bd bl N s l := by
  obtain ⟨F, G, a1, a2, a3, a4, a5, a6⟩ := h.ex
  refine ⟨⟨F, G, a1.keep hb, a2.keep hb, a3, a4, a5, fun k hk => ?_⟩, h.ok, h.bel.trans (hb.mono h.bel.size)⟩
  rcases hk with hk | ⟨k1, k2⟩
  · have := a6 k hk
    exact ⟨Nat.lt_of_lt_of_le this.1 hb.size, this.2⟩
  · exact ⟨k2, fun e => by have := a1.lt k e; omega, fun e => by have := a2.lt k e; omega⟩
theorem Wd.keep {w wr w' : World} {P : Nat → Prop} {bd N : Nat} {s : Ds} (h : Wd w wr P bd N s) (hb : Below wr.heap.size wr w') : Wd w w' (fun k => P k ∨ (wr.heap.size ≤ k ∧ k < w'.heap.size)) bd N s := by
  obtain ⟨F, a1, a2, a3⟩ := h.ex
  refine ⟨⟨F, a1.keep hb, a2, fun k hk => ?_⟩, h.bel.trans (hb.mono h.bel.size)⟩
  rcases hk with hk | ⟨k1, k2⟩
  · exact ⟨Nat.lt_of_lt_of_le (a3 k hk).1 hb.size, (a3 k hk).2⟩
  · exact ⟨k2, fun e => by have := a1.lt k e; omega⟩
theorem Wl.keep0 {w wr w' : World} {P : Nat → Prop} {bd bl N : Nat} {s : Ds} {l : Lg} (h : Wl w wr P bd bl N s l) (hb : Below wr.heap.size wr w') : Wl w w' P bd bl N s l := (h.keep hb).less fun _ hk => .inl hk
theorem Wl.stepB {w wr w' : World} {P : Nat → Prop} {bd bl N' : Nat} {s' : Ds} {l' : Lg} {F F' G G' : Nat → Prop} (hB : Below w.heap.size w wr) (hF : ∀ k, F k → w.heap.size ≤ k) (hG : ∀ k, G k → w.heap.size ≤ k) (hP : ∀ k, P k → k < wr.heap.size ∧ ¬ F k ∧ ¬ G k) (hd : Dk w' F' bd N' s') (hl : Lm w' G' bl bd l') (hs : StepB F F' G G' wr w') (hx : ∀ k, G' k → ¬ F' k) (hok : l'.Ok N') : Wl w w' P bd bl N' s' l' ∧ ∀ k, P k → w'.heap[k]? = wr.heap[k]? := by
  refine ⟨⟨⟨F', G', hd, hl, hx, fun k hk => ?_, fun k hk => ?_, fun k hk => ⟨Nat.lt_of_lt_of_le (hP k hk).1 hs.off.size, fun e => ?_, fun e => ?_⟩⟩, hok, hB.trans (hs.off.below (fun k hk => hk.elim (hF k) (hG k)) hB.size)⟩, fun k hk => hs.off.block k (hP k hk).1 (fun e => e.elim (hP k hk).2.1 (hP k hk).2.2)⟩
  · rcases hs.sub k hk with e | e
    · exact hF k e
    · exact Nat.le_trans hB.size e
  · rcases hs.sug k hk with e | e
    · exact hG k e
    · exact Nat.le_trans hB.size e
  · rcases hs.sub k e with e | e
    · exact (hP k hk).2.1 e
    · have := (hP k hk).1; omega
  · rcases hs.sug k e with e | e
    · exact (hP k hk).2.2 e
    · have := (hP k hk).1; omega
theorem sync_ok {l : Lg} {s : Ds} {N : Nat} (h : l.Ok N) : (l.sync s).2.1.Ok (N + 2100) := by
  unfold Lg.sync
  split
  · exact h.more (by omega)
  · split
    · exact h.more (by omega)
    · split
      · exact ⟨h.m, by have := h.no; show l.no ≤ _; omega, h.ar, h.room, h.rb, h.wb⟩
      · split
        · refine ⟨h.m, by have := h.no; show l.no + 1 ≤ _; omega, h.ar, ?_, fun B hB => ?_, fun B hB => by cases hB⟩
          · show (joinL (l.R ++ l.W)).length + 0 ≤ 64 * l.m
            have e : (joinL (l.R ++ l.W)).length = l.ln + (joinL l.W).length := by rw [joinL_app, List.length_append]; rfl
            have := h.room
            omega
          · rcases List.mem_append.1 hB with e | e
            · exact h.rb B e
            · exact h.wb B e
        · exact ⟨h.m, by have := h.no; show l.no ≤ _; omega, h.ar, h.room, h.rb, h.wb⟩
theorem reset_ok {l : Lg} {s : Ds} {N : Nat} (h : l.Ok N) {recs : List (List Int)} (hb : ∀ B ∈ recs, IsBytes B) : (l.reset s recs).2.1.Ok (N + 2100) := by
  unfold Lg.reset
  split
  · exact h.more (by omega)
  · split
    · exact h.more (by omega)
    · split
      · exact h.more (by omega)
      · rename_i h3
        split
        · obtain ⟨f1, f2, f3⟩ := frO_ok (show (frO recs (64 * l.m)).2 = 0 by simpa using h3)
          exact ⟨h.m, by have := h.no; show l.no + 1 ≤ _; omega, by show 1 - l.ar ≤ 1; omega, by show (joinL recs).length + 0 ≤ 64 * l.m; omega, fun B hB => ⟨hb B hB, f3 B hB⟩, fun B hB => by cases hB⟩
        · exact ⟨h.m, by have := h.no; show l.no ≤ _; omega, h.ar, h.room, h.rb, h.wb⟩
theorem wl_add {w wr : World} {P : Nat → Prop} {bd bl N : Nat} {s : Ds} {l : Lg} (T : Wl w wr P bd bl N s l) (rec : List Int) (hB : IsBytes rec) : Calls Tryz.prog 35 #[.pointer (some ⟨bl, 0, none⟩), .string (strOfNums rec)] wr fun e w' => e = .returned (.int .i64 (l.add rec).1) ∧ Wl w w' P bd bl N s (l.add rec).2 ∧ ∀ k, P k → w'.heap[k]? = wr.heap[k]? := by
  obtain ⟨F, G, a1, a2, a3, a4, a5, a6⟩ := T.ex
  refine (add_is wr G bl bd N l a2 T.ok rec hB).mono ?_
  rintro e w' ⟨rfl, G', hl, hs⟩
  exact ⟨rfl, Wl.stepB T.bel a4 a5 a6 (a1.apartL hs a3) hl hs.toBG (fun k hk hf => by
    rcases hs.sub k hk with e | e
    · exact a3 k e hf
    · have := a1.lt k hf; omega) (Lg.add_ok T.ok hB)⟩
theorem wl_sync {w wr : World} {P : Nat → Prop} {bd bl N : Nat} {s : Ds} {l : Lg} (T : Wl w wr P bd bl N s l) (hfit : 2 + l.ar * l.m + l.m ≤ s.D.length) (hN : N + 3000 < 999900) : Calls Tryz.prog 36 #[.pointer (some ⟨bl, 0, none⟩)] wr fun e w' => e = .returned (.int .i64 (l.sync s).1) ∧ Wl w w' P bd bl (N + 2100) (l.sync s).2.2 (l.sync s).2.1 ∧ ∀ k, P k → w'.heap[k]? = wr.heap[k]? := by
  obtain ⟨F, G, a1, a2, a3, a4, a5, a6⟩ := T.ex
  refine (sync_is wr F G bl bd N s l a1 a2 T.ok a3 hfit hN).mono ?_
  rintro e w' ⟨rfl, F', G', hd, hl, hs, hx⟩
  exact ⟨rfl, Wl.stepB T.bel a4 a5 a6 hd hl hs hx (sync_ok T.ok)⟩
theorem wl_reset {w wr : World} {P : Nat → Prop} {bd bl N : Nat} {s : Ds} {l : Lg} (T : Wl w wr P bd bl N s l) (hN : N + 3000 < 999900) (a : Option Addr) (n c : Nat) (recs : List (List Int)) (hn : recs.length = n) (hn2 : n ≤ 1000000) (hin : InS wr a recs) (ha : a = none → n = 0 ∧ c = 0) (hB : ∀ B ∈ recs, IsBytes B) (hx : ∀ x, a = some x → recs ≠ [] → P x.block ∨ x.block < w.heap.size) : Calls Tryz.prog 38 #[.pointer (some ⟨bl, 0, none⟩), .slice a n c] wr fun e w' => e = .returned (.int .i64 (l.reset s recs).1) ∧ Wl w w' P bd bl (N + 2100) (l.reset s recs).2.2 (l.reset s recs).2.1 ∧ ∀ k, P k → w'.heap[k]? = wr.heap[k]? := by
  obtain ⟨F, G, a1, a2, a3, a4, a5, a6⟩ := T.ex
  refine (reset_is wr F G bl bd N s l a1 a2 T.ok a3 hN a n c recs hn hn2 hin ha hB (fun x hx2 hne => ?_)).mono ?_
  · rcases hx x hx2 hne with h | h
    · exact (a6 _ h).2
    · exact ⟨fun e => by have := a4 _ e; omega, fun e => by have := a5 _ e; omega⟩
  · rintro e w' ⟨rfl, F', G', hd, hl, hs, hx⟩
    exact ⟨rfl, Wl.stepB T.bel a4 a5 a6 hd hl hs hx (reset_ok T.ok hB)⟩
theorem wl_room {w wr : World} {P : Nat → Prop} {bd bl N : Nat} {s : Ds} {l : Lg} (T : Wl w wr P bd bl N s l) : Calls Tryz.prog 55 #[.pointer (some ⟨bl, 0, none⟩)] wr fun e w' => e = .returned (.int .i64 (l.room : Nat)) ∧ Below wr.heap.size wr w' := by
  obtain ⟨F, G, a1, a2, _⟩ := T.ex
  exact wroom_is wr G bl bd N l a2 T.ok
theorem wl_records {w wr : World} {P : Nat → Prop} {bd bl N : Nat} {s : Ds} {l : Lg} (T : Wl w wr P bd bl N s l) : Calls Tryz.prog 17 #[.pointer (some ⟨bl, 0, none⟩)] wr fun e w' => ∃ v, e = .returned v ∧ RowsS w' wr.heap.size v l.R ∧ Below wr.heap.size wr w' := by
  obtain ⟨F, G, a1, a2, _⟩ := T.ex
  exact wrecords_is wr G bl bd N l a2 T.ok
theorem wd_blocks {w wr : World} {P : Nat → Prop} {bd N : Nat} {s : Ds} (T : Wd w wr P bd N s) : Calls Tryz.prog 25 #[.pointer (some ⟨bd, 0, none⟩)] wr fun e w' => e = .returned (.int .i64 (s.D.length : Int)) ∧ w' = wr := by
  obtain ⟨F, a1, _⟩ := T.ex
  exact dk_blocks wr F bd N s a1
theorem wd_new (n : Nat) (h1 : 1 ≤ n) (h2 : n ≤ 4096) (w wr : World) (hb : Below w.heap.size w wr) : Calls Tryz.prog 5 #[.int .i64 (n : Int)] wr fun e w' => ∃ b, e = .returned (.tuple #[.pointer (some ⟨b, 0, none⟩), .int .i64 0]) ∧ Wd w w' (fun k => k < wr.heap.size) b 0 (Ds.new n) ∧ Below wr.heap.size wr w' := by
  refine (dk_new n h1 h2 wr).mono ?_
  rintro e w' ⟨b, F, rfl, hd, hb2, hF⟩
  exact ⟨b, rfl, ⟨⟨F, hd, fun k hk => Nat.le_trans hb.size (hF k hk), fun k hk => ⟨Nat.lt_of_lt_of_le hk hb2.size, fun e => by have := hF k e; omega⟩⟩, hb.trans (hb2.mono hb.size)⟩, hb2⟩
/-- Open of a disk: the log is new -/
theorem wd_open {w wr : World} {P : Nat → Prop} {bd N : Nat} {s : Ds} (T : Wd w wr P bd N s) (hN : N < 999998) : Calls Tryz.prog 16 #[.pointer (some ⟨bd, 0, none⟩)] wr fun e w' => (∀ k, P k → w'.heap[k]? = wr.heap[k]?) ∧ wr.heap.size ≤ w'.heap.size ∧ ((s.opn.1 = 0 ∧ ∃ bl l, s.opn.2.1 = some l ∧ e = .returned (.tuple #[.pointer (some ⟨bl, 0, none⟩), .int .i64 0]) ∧ Wl w w' P bd bl (N + 2) s.opn.2.2 l ∧ 1 ≤ l.no) ∨ (s.opn.1 ≠ 0 ∧ e = .returned (.tuple #[.pointer none, .int .i64 s.opn.1]) ∧ Wd w w' P bd (N + 2) s.opn.2.2)) := by
  obtain ⟨F, a1, a2, a3⟩ := T.ex
  refine (open_is wr F bd N s a1 hN).mono ?_
  rintro e w' ⟨F', hd, hs, hor⟩
  have hF' : ∀ k, F' k → w.heap.size ≤ k := fun k hk => by
    rcases hs.sub k hk with e | e
    · exact a2 k e
    · exact Nat.le_trans T.bel.size e
  have hP' : ∀ k, P k → k < w'.heap.size ∧ ¬ F' k := fun k hk => ⟨Nat.lt_of_lt_of_le (a3 k hk).1 hs.off.size, fun e => by
    rcases hs.sub k e with e | e
    · exact (a3 k hk).2 e
    · have := (a3 k hk).1; omega⟩
  have hbel : Below w.heap.size w w' := T.bel.trans (hs.off.below a2 T.bel.size)
  refine ⟨fun k hk => hs.off.block k (a3 k hk).1 (a3 k hk).2, hs.off.size, ?_⟩
  rcases hor with ⟨h0, bl, G, l, hl, he, hm, hok, hno, hg1, hg2⟩ | ⟨h0, he⟩
  · exact .inl ⟨h0, bl, l, hl, he, ⟨⟨F', G, hd, hm, hg2, hF', fun k hk => Nat.le_trans T.bel.size (hg1 k hk), fun k hk => ⟨(hP' k hk).1, (hP' k hk).2, fun e => by have := hg1 k e; have := (a3 k hk).1; omega⟩⟩, hok.more (by omega), hbel⟩, hno⟩
  · exact .inr ⟨h0, he, ⟨⟨F', hd, hF', hP'⟩, hbel⟩⟩
theorem wd_crash {w wr : World} {P : Nat → Prop} {bd N : Nat} {s : Ds} (T : Wd w wr P bd N s) (hN : N ≤ 1000000) (ka : Option Addr) (kl kc : Nat) (keep : List Int) (hkl : keep.length = kl) (hin : InK wr ka keep) (hk : ∀ x, ka = some x → keep ≠ [] → P x.block ∨ x.block < w.heap.size) : Calls Tryz.prog 23 #[.pointer (some ⟨bd, 0, none⟩), .slice ka kl kc] wr fun e w' => e = .returned (.int .i64 0) ∧ Wd w w' P bd N (s.cr keep) ∧ (∀ k, P k → w'.heap[k]? = wr.heap[k]?) ∧ wr.heap.size ≤ w'.heap.size := by
  obtain ⟨F, a1, a2, a3⟩ := T.ex
  refine (dk_crash wr F bd N s a1 hN ka kl kc keep hkl hin (fun x hx hne hF => ?_)).mono ?_
  · rcases hk x hx hne with h | h
    · exact (a3 _ h).2 hF
    · have := a2 _ hF; omega
  · rintro e w' ⟨rfl, F', hd, hs⟩
    refine ⟨rfl, ⟨⟨F', hd, fun k hk => ?_, fun k hk => ⟨Nat.lt_of_lt_of_le (a3 k hk).1 hs.off.size, fun e => ?_⟩⟩, T.bel.trans (hs.off.below a2 T.bel.size)⟩, fun k hk => hs.off.block k (a3 k hk).1 (a3 k hk).2, hs.off.size⟩
    · rcases hs.sub k hk with e | e
      · exact a2 k e
      · exact Nat.le_trans T.bel.size e
    · rcases hs.sub k e with e | e
      · exact (a3 k hk).2 e
      · have := (a3 k hk).1; omega
end Go.Proofs.YtcindeechmpalabGreat
namespace Go.Proofs.YtcindeechmpalabGreat
open Go.ChangeShapes Go.WideShapes Go.ChangeAt Go.RowKit Go.Deep
set_option linter.unusedVariables false
theorem mem_weightsAll {H : Type} {P : Program} {e : TypeId} {q : Nat} : ∀ {l : List (DataW H)} {d : DataW H}, d ∈ l → q ∈ d.weights P e → q ∈ DataW.weightsAll P e l
  | [], _, h, _ => by cases h
  | x :: r, d, h, hq => by
    rw [DataW.weightsAll]
    rcases List.mem_cons.1 h with rfl | h
    · exact List.mem_append_left _ hq
    · exact List.mem_append_right _ (mem_weightsAll h hq)
theorem bytesT : Tryz.prog.bytesOf 9 = 16 := by kernel_rfl
theorem cellsT : Tryz.prog.cellsOf 9 = 1 := by kernel_rfl
/-- a slice of texts that came in: what it holds, with what its reach bounds -/
theorem open_texts {H : Type} {enc : TypeId × Value → H} {W : World} {fuel : Nat} {a : Option Addr} {len cap : Nat} {x : DataW H × List MemPlace} (h : DataW.trod enc Tryz.prog W 0 (fun _ => true) true fuel 22 [.slice a len cap] = some x) (hw : ∀ q ∈ x.1.weights Tryz.prog 22, q ≤ 140737488351232) :
    ∃ l, l.length = len ∧ InS W a l ∧ len ≤ 17592186044416 ∧ ∀ B ∈ l, IsBytes B ∧ B.length ≤ 140737488351232 := by
  rcases open_strings Tryz.underlying22 Tryz.underlying9 cellsT h with ⟨hcs, hx⟩ | ⟨a', len', cap', ss, hcs, _, hl, hm, hz, hx, hcell, hsz⟩
  · simp only [List.cons.injEq, and_true, Value.slice.injEq] at hcs
    obtain ⟨rfl, rfl, rfl⟩ := hcs
    exact ⟨[], rfl, .inl rfl, by omega, fun B hB => by cases hB⟩
  · simp only [List.cons.injEq, and_true, Value.slice.injEq] at hcs
    obtain ⟨rfl, rfl, rfl⟩ := hcs
    have hzl : ss.length = cap := by simpa using hz
    subst hx
    have htl : (ss.take len).length = len := by rw [List.length_take]; omega
    refine ⟨(ss.take len).map sN, by rw [List.length_map, htl], ?_, ?_, ?_⟩
    · by_cases h0 : len = 0
      · left
        subst h0
        rfl
      · right
        have hc0 := hcell 0 (by omega)
        obtain ⟨b, off, spot⟩ := a'
        have hspot : spot = none := by simpa [Addr.add] using World.cell?_spot hc0
        subst hspot
        refine ⟨b, off, rfl, fun i hi => ?_⟩
        rw [List.length_map, htl] at hi
        have hci := hcell i (by omega)
        rw [add_plain] at hci
        rw [hci]
        have hi2 : i < ss.length := by omega
        have hi3 : i < (ss.take len).length := by omega
        rw [List.getD_eq_getElem?_getD, List.getD_eq_getElem?_getD, List.getElem?_map, List.getElem?_eq_getElem hi3, List.getElem?_eq_getElem hi2, List.getElem_take]
        show some (Value.string ss[i]) = some (Value.string (strOfNums (sN ss[i])))
        rw [sN_str]
    · have hq := hw (((ss.take len).length + (ss.drop len).length) * 16) (by
        simp only [DataW.weights, Tryz.underlying22, bytesT, Go.ChangeShapes.strs, List.length_map]
        exact List.mem_cons_self)
      rw [htl, List.length_drop] at hq
      omega
    · intro B hB
      obtain ⟨S, hS, rfl⟩ := List.mem_map.1 hB
      refine ⟨sN_bytes S, ?_⟩
      rw [sN_len]
      refine hw _ ?_
      simp only [DataW.weights, Tryz.underlying22]
      refine List.mem_cons_of_mem _ (List.mem_append_left _ (mem_weightsAll (d := .lit (.string S.data.toList)) ?_ ?_))
      · exact List.mem_map.2 ⟨S, hS, rfl⟩
      · simp [DataW.weights]
end Go.Proofs.YtcindeechmpalabGreat
namespace Go.Proofs.YtcindeechmpalabGreat
open Go.ChangeShapes Go.WideShapes Go.ChangeAt Go.RowKit Go.Deep Go.Maps
set_option linter.unusedVariables false
theorem appTA {w : World} {ops : Array Oper} {rest : List Oper} {o : Oper} {act : Act} {Q : Exit → Act → World → Prop} (hgd : o.guard = none) (s x : Operand)
    (ho : o.op = .call { callee := .builtin .append, args := #[s, x], argTypes := #[22, 22] })
    (base : Nat) (v : Value) (l : List (List Int)) (hs : act.eval s = v) (hown : RowsS w base v l)
    (a : Option Addr) (m c : Nat) (y : List (List Int)) (hx : act.eval x = .slice a m c) (hm : y.length = m) (hin : InS w a y) (ha : a = none → m = 0 ∧ c = 0) (hN : l.length + m ≤ 5000000000000) (hbase : base ≤ w.heap.size)
    (h : ∀ v' w', RowsS w' base v' (l ++ y) → Below base w w' → wpList Tryz.prog ops Q rest (act.put o.dst v') w') : wpList Tryz.prog ops Q (o :: rest) act w := by
  cases a with
  | none =>
    obtain ⟨rfl, rfl⟩ := ha rfl
    obtain rfl : y = [] := List.length_eq_zero_iff.1 hm
    obtain ⟨i, hi, _⟩ := info_parts info9
    refine wpList_append_own_none hgd s x 22 ho base 9 i 1 Tryz.underlying22 hi _ _ _ hs hown hx ?_
    exact h _ _ (by rw [List.append_nil]; exact hown) (Below.refl _ _)
  | some x' => exact appTL hgd s x ho base v l hs hown x' m c y hx hm hin hN hbase fun v' w' h1 h2 _ => h v' w' h1 ((Below.refl _ _).grown h2 hbase fun k hk => (hown.own k hk).1)
theorem frO_code (recs : List (List Int)) (room : Nat) : (frO recs room).2 = 0 ∨ (frO recs room).2 = 3 ∨ (frO recs room).2 = 7 := by
  unfold frO
  split
  · exact .inr (.inl rfl)
  · split
    · exact .inr (.inr rfl)
    · exact .inl rfl
theorem reset_said {s : Ds} {l : Lg} (h : Gd s l) (hno : l.no < 1152921504606846976) (hW : l.W = []) (recs : List (List Int)) (hb : ∀ B ∈ recs, IsBytes B) :
    ∃ c l' s', l.reset s recs = (c, l', s') ∧ Gd s' l' ∧ s'.D.length = s.D.length ∧ l'.W = [] ∧ l'.m = l.m ∧ l'.no ≤ l.no + 1 ∧ ((c = 0 ∧ l'.R = recs) ∨ ((c = 3 ∨ c = 7) ∧ l'.R = l.R)) := by
  by_cases hf : (frO recs (64 * l.m)).2 = 0
  · obtain ⟨s', e, g, hD⟩ := gd_reset h hno hW recs hb hf
    exact ⟨0, _, s', e, g, hD, rfl, rfl, Nat.le_refl _, .inl ⟨rfl, rfl⟩⟩
  · refine ⟨(frO recs (64 * l.m)).2, l, s, ?_, h, rfl, hW, rfl, Nat.le_succ _, .inr ⟨(frO_code recs (64 * l.m)).resolve_left hf, rfl⟩⟩
    unfold Lg.reset
    rw [if_neg (by rw [h.lost]; simp), if_neg (by simpa using hW), if_pos hf]
theorem reset_state {s : Ds} {l : Lg} (hl : l.lost = false) (hW : l.W ≠ []) (recs : List (List Int)) : l.reset s recs = (11, l, s) := by
  unfold Lg.reset
  rw [if_neg (by rw [hl]; simp), if_pos hW]
theorem add_said {l : Lg} (hl : l.lost = false) (X : List Int) : ∃ c l', l.add X = (c, l') ∧ ((c ≠ 0 ∧ l' = l) ∨ (c = 0 ∧ l' = { l with W := l.W ++ [X] })) := by
  unfold Lg.add
  rw [if_neg (by rw [hl]; simp)]
  by_cases hf : (frO [X] l.room).2 = 0
  · rw [if_neg (by simpa using hf)]
    exact ⟨0, _, rfl, .inr ⟨rfl, rfl⟩⟩
  · rw [if_pos hf]
    exact ⟨_, _, rfl, .inl ⟨hf, rfl⟩⟩
/-- the old log, beside a new one -/
def Old (w' : World) (bd bl N : Nat) (l : Lg) : Prop := ∃ G, Lm w' G bl bd l ∧ l.Ok N
theorem Old.keep {w w' : World} {bd bl N : Nat} {l : Lg} (h : Old w bd bl N l) (hb : Below w.heap.size w w') : Old w' bd bl N l := by
  obtain ⟨G, h1, h2⟩ := h
  exact ⟨G, h1.keep hb, h2⟩
theorem old_records {wr : World} {bd bl N : Nat} {l : Lg} (h : Old wr bd bl N l) : Calls Tryz.prog 17 #[.pointer (some ⟨bl, 0, none⟩)] wr fun e w' => ∃ v, e = .returned v ∧ RowsS w' wr.heap.size v l.R ∧ Below wr.heap.size wr w' := by
  obtain ⟨G, h1, h2⟩ := h
  exact wrecords_is wr G bl bd N l h1 h2
theorem wl_open2 {w wr : World} {P : Nat → Prop} {bd bl N : Nat} {s s2 : Ds} {l l2 : Lg} (T : Wl w wr P bd bl N s l) (hN : N < 999998) (ho : s.opn = (0, some l2, s2)) : Calls Tryz.prog 16 #[.pointer (some ⟨bd, 0, none⟩)] wr fun e w' => ∃ bm, e = .returned (.tuple #[.pointer (some ⟨bm, 0, none⟩), .int .i64 0]) ∧ Wl w w' P bd bm (N + 2) s2 l2 ∧ Old w' bd bl N l ∧ ∀ k, P k → w'.heap[k]? = wr.heap[k]? := by
  obtain ⟨F, G, d, lm, x, f, g, p⟩ := T.ex
  have T2 : Wd w wr (fun k => P k ∨ G k) bd N s := ⟨⟨F, d, f, fun k hk => by
    rcases hk with hk | hk
    · exact ⟨(p k hk).1, (p k hk).2.1⟩
    · exact ⟨lm.lt k hk, x k hk⟩⟩, T.bel⟩
  refine (wd_open T2 hN).mono ?_
  rintro e w' ⟨hk, _, hor⟩
  rw [ho] at hor
  rcases hor with ⟨_, bm, l', hl, he, hw, _⟩ | ⟨h0, _⟩
  · obtain rfl := Option.some.inj hl
    exact ⟨bm, he, hw.less (fun k h => .inl h), ⟨G, lm.kept (fun k h => hk k (.inr h)), T.ok⟩, fun k h => hk k (.inl h)⟩
  · exact absurd rfl h0
end Go.Proofs.YtcindeechmpalabGreat
namespace Go.Proofs.YtcindeechmpalabGreat
open Go.ChangeShapes Go.WideShapes Go.ChangeAt Go.RowKit Go.Deep Go.Maps
set_option linter.unusedVariables false
/-- what is found behind a loss of power: the log l, or nothing that was ever written -/
def Inv (n : Nat) (t : Ds) (l : Lg) : Prop := Free t ∧ l.W = [] ∧ (Gd t l ∨ (l = lg0 n ∧ Bare n t))
def Aft (n : Nat) (t : Ds) (H N : List (List Int)) : Prop := ∃ l, Inv n t l ∧ (l.R = H ∨ l.R = N)
theorem bare_open {n : Nat} {t : Ds} (h6 : 6 ≤ n) (hn : n ≤ 4096) (h : Bare n t) (f : Free t) : ∃ s', t.opn = (0, some (lg0 n), s') := by
  obtain ⟨c, o, s', e, hor⟩ := open_cut h6 hn h
  rcases hor with ⟨rfl, rfl, g, hl⟩ | ⟨rfl, rfl, hu, _⟩
  · exact ⟨s', e⟩
  · exfalso
    have hl1 : t.D.length = n := by rw [h.D]; simp [noughts]
    obtain ⟨s2, k1, k2, k3⟩ := run_flush (A := [some (1, hdB 1 0 0)]) (s := t) f (by simp) (fun p hp => by
      have : p = (1, hdB 1 0 0) := by simpa using hp
      subst this
      exact ⟨by show 1 < _; omega, hdB_len _ _ _⟩)
    have k1' : t.run [some (1, hdB 1 0 0), none] = (0, s2) := k1
    have hz : ∀ i, i < n → t.cur i = List.replicate 64 0 := fun i hi => by
      rw [cur_nil h.W, bAt, h.D]
      unfold noughts
      rw [List.getElem?_replicate, if_pos hi]
      rfl
    rw [Ds.opn, if_neg (by rw [h.up]; simp), if_neg (by omega), Ds.fob, if_pos ⟨hz 0 (by omega), hz 1 (by omega)⟩, k1', if_pos rfl] at e
    cases (Prod.mk.inj e).1
theorem cr_len {s : Ds} (keep : List Int) (h : ∀ i, s.W i = []) : (s.cr keep).D = s.D := crD_nil keep s.D s.W h
theorem gu_cr {s : Ds} {l : Lg} (h : Gu s l) (keep : List Int) : Gd (s.cr keep) l := gd_same h.gd (free_cr _ _) (cr_len keep h.W)
theorem inv_gd {n : Nat} {t : Ds} {l : Lg} (h : Gd t l) : Inv n t { l with W := [] } := ⟨h.free, rfl, .inl (gd_drop h)⟩
theorem inv_open {n : Nat} {t : Ds} {l : Lg} (h6 : 6 ≤ n) (hn : n ≤ 4096) (h : Inv n t l) : ∃ s', t.opn = (0, some l, s') := by
  obtain ⟨f, hW, h | ⟨rfl, h⟩⟩ := h
  · have e := gd_open h
    rw [show ({ l with W := [] } : Lg) = l by rw [← hW]] at e
    exact ⟨t, e⟩
  · exact bare_open h6 hn h f
theorem inv_again {n : Nat} {t : Ds} {l : Lg} (h6 : 6 ≤ n) (hn : n ≤ 4096) (h : Inv n t l) (k : Int) (keep : List Int) : Inv n (((t.fs k).2.opn.2.2).cr keep) l := by
  obtain ⟨f, hW, h | ⟨rfl, h⟩⟩ := h
  · have g : Gu (t.fs k).2 l := Gu.made h f.up f.W rfl
    rw [gu_open g]
    exact ⟨free_cr _ _, hW, .inl (gu_cr g keep)⟩
  · have b : Bare n (t.fs k).2 := ⟨f.up, f.W, h.D⟩
    obtain ⟨c, o, s', e, hor⟩ := open_cut h6 hn b
    rw [e]
    rcases hor with ⟨rfl, rfl, g, hl'⟩ | ⟨rfl, rfl, hu, hk⟩
    · exact ⟨free_cr _ _, rfl, .inl (gu_cr g keep)⟩
    · rcases hk keep with m | m
      · exact ⟨free_cr _ _, rfl, .inr ⟨rfl, m⟩⟩
      · exact ⟨free_cr _ _, rfl, .inl m⟩
theorem op_len (s : Ds) (o : Option (Nat × List Int)) : (s.op o).2.D.length = s.D.length := by
  cases o with
  | none =>
    show s.fl.2.D.length = _
    unfold Ds.fl
    split
    · rfl
    · split
      · rfl
      · exact flD_len _ _
  | some p =>
    show (s.wr (p.1 : Int) p.2).2.D.length = _
    unfold Ds.wr
    split
    · rfl
    · split
      · rfl
      · split <;> rfl
theorem run_len : ∀ (A : List (Option (Nat × List Int))) (s : Ds), (s.run A).2.D.length = s.D.length
  | [], s => rfl
  | o :: r, s => by
    rw [Ds.run_cons]
    split
    · exact op_len s o
    · exact (run_len r _).trans (op_len s o)
theorem sync_len {s s' : Ds} {l l' : Lg} {c : Int} (e : l.sync s = (c, l', s')) : s'.D.length = s.D.length := by
  have h : (l.sync s).2.2 = s' := by rw [e]
  rw [← h]
  unfold Lg.sync
  split
  · rfl
  · split
    · rfl
    · split
      · rfl
      · split
        · exact run_len _ _
        · exact run_len _ _
theorem reset_len {s s' : Ds} {l l' : Lg} {c : Int} {recs : List (List Int)} (e : l.reset s recs = (c, l', s')) : s'.D.length = s.D.length := by
  have h : (l.reset s recs).2.2 = s' := by rw [e]
  rw [← h]
  unfold Lg.reset
  split
  · rfl
  · split
    · rfl
    · split
      · rfl
      · split
        · exact run_len _ _
        · exact run_len _ _
theorem sync_any {n : Nat} {s : Ds} {l : Lg} (h : Gu s l) (hno : l.no < 1152921504606846976) : ∃ c l' s', l.sync s = (c, l', s') ∧ ((c = 0 ∧ l'.R = l.R ++ l.W ∧ l'.W = [] ∧ Gu s' l' ∧ s'.D.length = s.D.length ∧ l'.no ≤ l.no + 1 ∧ l'.m = l.m) ∨ (c = 15 ∧ l' = { l with lost := true } ∧ s'.up = false ∧ s'.D.length = s.D.length ∧ ∀ keep, Aft n (s'.cr keep) l.R (l.R ++ l.W))) := by
  by_cases hW : l.W = []
  · refine ⟨0, l, s, ?_, .inl ⟨rfl, by rw [hW, List.append_nil], hW, h, rfl, Nat.le_succ _, rfl⟩⟩
    unfold Lg.sync
    rw [if_neg (by rw [h.gd.lost]; simp), if_pos hW]
  · obtain ⟨c, l', s', e, hor⟩ := sync_cut h hno hW
    refine ⟨c, l', s', e, ?_⟩
    rcases hor with ⟨rfl, rfl, g, hD⟩ | ⟨rfl, rfl, hu, hk⟩
    · exact .inl ⟨rfl, rfl, rfl, g, hD, Nat.le_refl _, rfl⟩
    · refine .inr ⟨rfl, rfl, hu, sync_len e, fun keep => ?_⟩
      rcases hk keep with m | m
      · exact ⟨_, inv_gd m, .inl rfl⟩
      · exact ⟨_, inv_gd m, .inr rfl⟩
theorem reset_any {n : Nat} {s : Ds} {l : Lg} (h : Gu s l) (hno : l.no < 1152921504606846976) (recs : List (List Int)) (hb : ∀ B ∈ recs, IsBytes B) : ∃ c l' s', l.reset s recs = (c, l', s') ∧ ((c = 0 ∧ l'.R = recs ∧ l'.W = [] ∧ Gu s' l' ∧ s'.D.length = s.D.length ∧ l'.no ≤ l.no + 1 ∧ l'.m = l.m) ∨ (c = 15 ∧ l' = { l with lost := true } ∧ s'.up = false ∧ s'.D.length = s.D.length ∧ ∀ keep, Aft n (s'.cr keep) l.R recs) ∨ ((c = 3 ∨ c = 7 ∨ c = 11) ∧ l' = l ∧ s' = s)) := by
  by_cases hW : l.W = []
  · by_cases hf : (frO recs (64 * l.m)).2 = 0
    · obtain ⟨c, l', s', e, hor⟩ := reset_cut h hno hW recs hb hf
      refine ⟨c, l', s', e, ?_⟩
      rcases hor with ⟨rfl, rfl, g, hD⟩ | ⟨rfl, rfl, hu, hk⟩
      · exact .inl ⟨rfl, rfl, rfl, g, hD, Nat.le_refl _, rfl⟩
      · refine .inr (.inl ⟨rfl, rfl, hu, reset_len e, fun keep => ?_⟩)
        rcases hk keep with m | m
        · exact ⟨_, inv_gd m, .inl rfl⟩
        · exact ⟨_, inv_gd m, .inr rfl⟩
    · refine ⟨(frO recs (64 * l.m)).2, l, s, ?_, .inr (.inr ⟨?_, rfl, rfl⟩)⟩
      · unfold Lg.reset
        rw [if_neg (by rw [h.gd.lost]; simp), if_neg (by simpa using hW), if_pos hf]
      · rcases frO_code recs (64 * l.m) with e | e | e
        · exact absurd e hf
        · exact .inl e
        · exact .inr (.inl e)
  · exact ⟨11, l, s, reset_state h.gd.lost hW recs, .inr (.inr ⟨.inr (.inr rfl), rfl, rfl⟩)⟩
theorem add_gu {s : Ds} {l : Lg} (h : Gu s l) (X : List Int) (hX : IsBytes X) : Gu s (l.add X).2 := ⟨h.up, h.W, gd_add h.gd X hX⟩
theorem sync_lost {l : Lg} {s : Ds} (h : l.lost = true) : l.sync s = (15, l, s) := by
  unfold Lg.sync
  rw [if_pos h]
theorem add_lost {l : Lg} (h : l.lost = true) (X : List Int) : l.add X = (15, l) := by
  unfold Lg.add
  rw [if_pos h]
/-- a write into what is neither the disk's nor the log's -/
theorem Wl.grown {w wr w' : World} {P : Nat → Prop} {bd bl N : Nat} {s : Ds} {l : Lg} {row : Option Nat} (h : Wl w wr P bd bl N s l) (hg : wr.grownBy w' row) (hr : ∀ k, row = some k → P k ∧ w.heap.size ≤ k) : Wl w w' (fun k => P k ∨ (wr.heap.size ≤ k ∧ k < w'.heap.size)) bd bl N s l := by
  obtain ⟨F, G, a1, a2, a3, a4, a5, a6⟩ := h.ex
  refine ⟨⟨F, G, a1.grown hg (fun k e hk => (a6 k (hr k e).1).2.1 hk), a2.kept (fun k hk => hg.block k (a2.lt k hk) (fun e => (a6 k (hr k e.symm).1).2.2 hk)), a3, a4, a5, fun k hk => ?_⟩, h.ok, h.bel.grown hg h.bel.size (fun k e => (hr k e).2)⟩
  rcases hk with hk | ⟨k1, k2⟩
  · have := a6 k hk
    exact ⟨Nat.lt_of_lt_of_le this.1 hg.size, this.2⟩
  · exact ⟨k2, fun e => by have := a1.lt k e; omega, fun e => by have := a2.lt k e; omega⟩
theorem Wd.grown {w wr w' : World} {P : Nat → Prop} {bd N : Nat} {s : Ds} {row : Option Nat} (h : Wd w wr P bd N s) (hg : wr.grownBy w' row) (hr : ∀ k, row = some k → P k ∧ w.heap.size ≤ k) : Wd w w' (fun k => P k ∨ (wr.heap.size ≤ k ∧ k < w'.heap.size)) bd N s := by
  obtain ⟨F, a1, a4, a6⟩ := h.ex
  refine ⟨⟨F, a1.grown hg (fun k e hk => (a6 k (hr k e).1).2 hk), a4, fun k hk => ?_⟩, h.bel.grown hg h.bel.size (fun k e => (hr k e).2)⟩
  rcases hk with hk | ⟨k1, k2⟩
  · have := a6 k hk
    exact ⟨Nat.lt_of_lt_of_le this.1 hg.size, this.2⟩
  · exact ⟨k2, fun e => by have := a1.lt k e; omega⟩
theorem Wd.less {w wr : World} {P Q : Nat → Prop} {bd N : Nat} {s : Ds} (h : Wd w wr P bd N s) (hQ : ∀ k, Q k → P k) : Wd w wr Q bd N s := by
  obtain ⟨F, a1, a4, a6⟩ := h.ex
  exact ⟨⟨F, a1, a4, fun k hk => a6 k (hQ k hk)⟩, h.bel⟩
theorem Wl.grown0 {w wr w' : World} {P : Nat → Prop} {bd bl N : Nat} {s : Ds} {l : Lg} {row : Option Nat} (h : Wl w wr P bd bl N s l) (hg : wr.grownBy w' row) (hr : ∀ k, row = some k → P k ∧ w.heap.size ≤ k) : Wl w w' P bd bl N s l := (h.grown hg hr).less fun _ hk => .inl hk
theorem Wd.grown0 {w wr w' : World} {P : Nat → Prop} {bd N : Nat} {s : Ds} {row : Option Nat} (h : Wd w wr P bd N s) (hg : wr.grownBy w' row) (hr : ∀ k, row = some k → P k ∧ w.heap.size ≤ k) : Wd w w' P bd N s := (h.grown hg hr).less fun _ hk => .inl hk
theorem Wd.keep0 {w wr w' : World} {P : Nat → Prop} {bd N : Nat} {s : Ds} (h : Wd w wr P bd N s) (hb : Below wr.heap.size wr w') : Wd w w' P bd N s := (h.keep hb).less fun _ hk => .inl hk
end Go.Proofs.YtcindeechmpalabGreat
namespace Go.Proofs.YtcindeechmpalabGreat
open Go.ChangeShapes Go.WideShapes Go.ChangeAt Go.RowKit Go.Deep Go.Maps
set_option linter.unusedVariables false
set_option linter.unusedSimpArgs false
/-- a database's two cells -/
def kO (bl mb : Nat) : Obj := .cells #[.pointer (some ⟨bl, 0, none⟩), .map (some mb)] 52
theorem ko_cells {w : World} {bb bl mb : Nat} (h : w.heap[bb]? = some (kO bl mb)) : w.cell? ⟨bb, 0, none⟩ = some (.pointer (some ⟨bl, 0, none⟩)) ∧ w.cell? ⟨bb, 1, none⟩ = some (.map (some mb)) := by
  unfold kO at h
  refine ⟨?_, ?_⟩ <;> simp [World.cell?, h]
/-- block bb is a database over the log in block bl, with the map in block mb -/
structure Kb (w wr : World) (P : Nat → Prop) (bb bd bl mb N C : Nat) (s : Ds) (l : Lg) (T : ByteArray → Option Pt) : Prop where
  wl : Wl w wr (fun k => P k ∨ k = bb ∨ k = mb) bd bl N s l
  box : wr.heap[bb]? = some (kO bl mb)
  mp : Pm wr mb C T
  ge : w.heap.size ≤ bb ∧ w.heap.size ≤ mb
  ne : bb ≠ mb ∧ ∀ k, P k → k ≠ bb ∧ k ≠ mb
theorem kNone_is (w : World) (bb bl mb : Nat) (h : w.heap[bb]? = some (kO bl mb)) : Calls Tryz.prog 20 #[.pointer (some ⟨bb, 0, none⟩)] w fun e w' => e = .returned (.bool false) ∧ w' = w := by
  obtain ⟨q0, q1⟩ := ko_cells h
  clear h
  go_enter Tryz.func20, Tryz.ntmps20
  go_wp2_with fail
  go_ret
  exact ⟨rfl, rfl⟩
set_option maxRecDepth 100000 in
set_option maxHeartbeats 4000000 in
theorem kGet_is (w : World) (bb bl mb N : Nat) (T : ByteArray → Option Pt) (h : w.heap[bb]? = some (kO bl mb)) (hm : Pm w mb N T) (key : ByteArray) (hk : key.size ≤ 140737488355328) :
    Calls Tryz.prog 12 #[.pointer (some ⟨bb, 0, none⟩), .string key] w fun e w' => e = .returned (.tuple #[.string ((T key).getD noP).v, .bool (T key).isSome]) ∧ Below w.heap.size w w' := by
  have KN : Hid (Calls Tryz.prog 20 #[.pointer (some ⟨bb, 0, none⟩)] w fun e w' => e = .returned (.bool false) ∧ w' = w) := kNone_is w bb bl mb h
  obtain ⟨q0, q1⟩ := ko_cells h
  have hlk := hm.look2 key hk
  generalize (T key).getD noP = x at *
  generalize (T key).isSome = b at *
  obtain ⟨xk, xv, xg⟩ := x
  unfold pA pC at hlk
  simp only at hlk ⊢
  have HB : Hid (Below w.heap.size w (w.alloc (.cells #[.string xk, .string xv, .bool xg] 32))) := below1 _ _
  clear h hm hk
  go_enter Tryz.func12, Tryz.ntmps12
  go_wp2_with fail
  refine KN.out.mono ?_
  rintro e w1 ⟨rfl, rfl⟩
  go_wp2_with fail
  go_ret2
  exact ⟨rfl, HB.out⟩
set_option maxHeartbeats 4000000 in
theorem kLen_is (w : World) (bb bl mb N : Nat) (T : ByteArray → Option Pt) (h : w.heap[bb]? = some (kO bl mb)) (hm : Pm w mb N T) (ks : List ByteArray) (hks : Ks T ks) :
    Calls Tryz.prog 8 #[.pointer (some ⟨bb, 0, none⟩)] w fun e w' => e = .returned (.int .i64 (ks.length : Int)) ∧ w' = w := by
  have KN : Hid (Calls Tryz.prog 20 #[.pointer (some ⟨bb, 0, none⟩)] w fun e w' => e = .returned (.bool false) ∧ w' = w) := kNone_is w bb bl mb h
  obtain ⟨q0, q1⟩ := ko_cells h
  obtain ⟨D, hD, hz⟩ := pm_exact hm ks hks
  have HD : Hid (w.ownsMap Tryz.prog 9 pR mb N D) := hD
  have HZ : Hid (Maps.size D = ks.length) := hz
  clear h hm hks hD hz
  generalize ks.length = q at *
  go_enter Tryz.func8, Tryz.ntmps8
  go_wp2_with fail
  refine KN.out.mono ?_
  rintro e w1 ⟨rfl, rfl⟩
  go_wp2_with (first | (at_len; (refine wpList_len_own w1 rfl (.tmp 8) 50 rfl 9 32 Tryz.underlying50 pR mb _ D rfl HD.out ?_; rw [HZ.out])))
  go_ret
  exact ⟨rfl, rfl⟩
end Go.Proofs.YtcindeechmpalabGreat
namespace Go.Proofs.YtcindeechmpalabGreat
open Go.ChangeShapes Go.WideShapes Go.ChangeAt Go.RowKit Go.Deep
set_option linter.unusedVariables false
set_option linter.unusedSimpArgs false
/-- each text is short enough for any machine -/
def FitP (l : List Pt) : Prop := ∀ x ∈ l, x.k.size ≤ 140737488355328 ∧ x.v.size ≤ 140737488355328
theorem list_empty {s : ByteArray} (h : s.size ≠ 0) : ¬ s.toList = [] := by
  intro e
  apply h
  rw [← sN_len s]
  unfold sN
  rw [e]
  rfl
set_option maxRecDepth 100000 in
set_option maxHeartbeats 4000000 in
theorem kWrong_is (x : Pt) (hx : x.k.size ≤ 140737488355328 ∧ x.v.size ≤ 140737488355328) (w : World) :
    Calls Tryz.prog 32 #[.agg #[.string x.k, .string x.v, .bool x.g]] w fun e w' => e = .returned (.bool (badP x)) ∧ Below w.heap.size w w' := by
  obtain ⟨k, v, g⟩ := x
  have hB : Hid (Below w.heap.size w (w.alloc (.cells #[.string k, .string v, .bool g] 32))) := below1 _ _
  have HB : Hid (badP ⟨k, v, g⟩ = (decide (k.size = 0) || decide (64 < k.size) || decide ((if g = true then 0 else 1024) < v.size))) := rfl
  generalize badP ⟨k, v, g⟩ = r at *
  obtain ⟨hk, hv⟩ := hx
  simp only at hk hv
  by_cases h0 : k.size = 0
  · obtain rfl := no_bytes h0
    have HR : Hid (r = true) := by show _ = _; rw [HB.out]; rfl
    clear HB h0
    cases g
    · go_enter Tryz.func32, Tryz.ntmps32
      go_wp2_with fail
      go_ret
      exact ⟨by rw [HR.out]; rfl, hB.out⟩
    · go_enter Tryz.func32, Tryz.ntmps32
      go_wp2_with fail
      go_ret
      exact ⟨by rw [HR.out]; rfl, hB.out⟩
  · have e0 := list_empty h0
    by_cases h1 : 64 < k.size
    · have HR : Hid (r = true) := by show _ = _; rw [HB.out]; simp [h1]
      have e1 : decide (64 < (k.size : Int)) = true := by rw [decide_eq_true_eq]; omega
      clear HB
      cases g
      · go_enter Tryz.func32, Tryz.ntmps32
        go_wp2_with fail
        go_ret
        exact ⟨by rw [HR.out]; rfl, hB.out⟩
      · go_enter Tryz.func32, Tryz.ntmps32
        go_wp2_with fail
        go_ret
        exact ⟨by rw [HR.out]; rfl, hB.out⟩
    · have e1 : decide (64 < (k.size : Int)) = false := by rw [decide_eq_false_iff_not]; omega
      cases g
      · have HR : Hid (r = decide (1024 < (v.size : Int))) := by
          show _ = _
          rw [HB.out, decide_eq_false h0, decide_eq_false h1]
          simp
          constructor <;> intro h <;> omega
        clear HB
        go_enter Tryz.func32, Tryz.ntmps32
        go_wp2_with fail
        go_ret
        exact ⟨by rw [HR.out]; simp [e0], hB.out⟩
      · have HR : Hid (r = decide (0 < (v.size : Int))) := by
          show _ = _
          rw [HB.out, decide_eq_false h0, decide_eq_false h1]
          simp
        clear HB
        go_enter Tryz.func32, Tryz.ntmps32
        go_wp2_with fail
        go_ret
        exact ⟨by rw [HR.out]; simp [e0], hB.out⟩
set_option maxRecDepth 100000 in
set_option maxHeartbeats 4000000 in
theorem kIndex_is (l : List Pt) (n : Nat) (hn : l.length = n) (hn62 : n ≤ 4611686018427387904) (hf : FitP l) (a : Option Addr) (c : Nat) (w : World) (hl : InP w a l) :
    Calls Tryz.prog 50 #[.slice a n c, .func (.func 32) #[] #[]] w fun e w' => ∃ r : Int, e = .returned (.int .i64 r) ∧ decide (0 ≤ r) = l.any badP ∧ Below w.heap.size w w' := by
  have HF : Hid (FitP l) := hf
  have HL : Hid (InP w a l) := hl
  have HN : Hid (l.length = n) := hn
  have KW : Hid (∀ x ∈ l, ∀ W, Calls Tryz.prog 32 #[.agg #[.string x.k, .string x.v, .bool x.g]] W fun e w' => e = .returned (.bool (badP x)) ∧ Below W.heap.size W w') := fun x hx W => kWrong_is x (HF.out x hx) W
  clear hf hl hn
  go_enter Tryz.func50, Tryz.ntmps50
  go_wp2_with fail
  go_loopg [8] n (fun gg iv wr => ∃ j : Nat, j ≤ n ∧ gg = n - j ∧ iv = .int .i64 (j : Int) ∧ Hid (∀ i x, i < j → l[i]? = some x → badP x = false) ∧ Hid (Below w.heap.size w wr))
  case atStart => exact ⟨0, Nat.zero_le _, rfl, rfl, fun i x hi => by omega, Below.refl _ _⟩
  case round =>
    obtain ⟨j, hj, rfl, rfl, HA, HW⟩ := hrel
    by_cases hlt : j < n
    · have j1 : decide ((j : Int) < (n : Int)) = true := by rw [decide_eq_true_eq]; omega
      obtain ⟨x, hx⟩ : ∃ x, l[j]? = some x := ⟨l[j]'(by rw [HN.out]; exact hlt), by simp [HN.out, hlt]⟩
      have HX : Hid (l[j]? = some x) := hx
      obtain ⟨b, off, rfl, hbw, hpc⟩ := HL.out.at hx
      obtain ⟨c0, c1, c2⟩ := hpc.kept (HW.out.block b hbw)
      have K := KW.out x (List.mem_of_getElem? hx)
      have KX : Hid (∀ W, Calls Tryz.prog 32 #[.agg #[.string x.k, .string x.v, .bool x.g]] W fun e w' => e = .returned (.bool (badP x)) ∧ Below W.heap.size W w') := K
      have ri : IntKind.i64.wrap ((j : Int) + 1) = (j : Int) + 1 := by rw [IntKind.wrap_i64]; omega
      clear hx hpc K
      obtain ⟨xk, xv, xg⟩ := x
      simp only at c0 c1 c2 KX
      cases hb : badP ⟨xk, xv, xg⟩ with
      | true =>
        rw [hb] at KX
        have HR : Hid (l.any badP = true) := List.any_eq_true.2 ⟨_, List.mem_of_getElem? HX.out, hb⟩
        clear hb
        go_wp2_with (go_at_call 32; refine (KX.out _).mono ?_; rintro e w1 ⟨rfl, hb1⟩; have HW1 : Hid (Below w.heap.size w w1) := HW.out.trans (hb1.mono HW.out.size); clear hb1)
        go_ret
        exact ⟨_, rfl, by rw [HR.out, decide_eq_true_eq]; omega, HW1.out⟩
      | false =>
        rw [hb] at KX
        have HA2 : Hid (∀ i x, i < j + 1 → l[i]? = some x → badP x = false) := fun i y hi hy => by
          rcases (by omega : i < j ∨ i = j) with h | h
          · exact HA.out i y h hy
          · subst h
            rw [HX.out] at hy
            cases hy
            exact hb
        clear hb
        go_wp2_with (go_at_call 32; refine (KX.out _).mono ?_; rintro e w1 ⟨rfl, hb1⟩; have HW1 : Hid (Below w.heap.size w w1) := HW.out.trans (hb1.mono HW.out.size); clear hb1)
        go_roundg (n - (j + 1))
        case measure => omega
        case rel => exact ⟨j + 1, by omega, rfl, by simp, HA2, HW1⟩
    · have j1 : decide ((j : Int) < (n : Int)) = false := by rw [decide_eq_false_iff_not]; omega
      have HR : Hid (l.any badP = false) := by
        show _ = _
        rw [List.any_eq_false]
        intro x hx
        obtain ⟨i, hi⟩ := List.getElem?_of_mem hx
        have h1 := (List.getElem?_eq_some_iff.1 hi).1
        have h2 := HN.out
        rw [HA.out i x (by omega) hi]
        simp
      go_wp2_with fail
      go_ret
      exact ⟨_, rfl, by rw [HR.out]; decide, HW.out⟩
set_option maxHeartbeats 4000000 in
theorem kContains_is (l : List Pt) (n : Nat) (hn : l.length = n) (hn62 : n ≤ 4611686018427387904) (hf : FitP l) (a : Option Addr) (c : Nat) (w : World) (hl : InP w a l) :
    Calls Tryz.prog 31 #[.slice a n c, .func (.func 32) #[] #[]] w fun e w' => e = .returned (.bool (l.any badP)) ∧ Below w.heap.size w w' := by
  have K : Hid (Calls Tryz.prog 50 #[.slice a n c, .func (.func 32) #[] #[]] w fun e w' => ∃ r : Int, e = .returned (.int .i64 r) ∧ decide (0 ≤ r) = l.any badP ∧ Below w.heap.size w w') := kIndex_is l n hn hn62 hf a c w hl
  generalize l.any badP = b at *
  clear hn hf hl
  go_enter Tryz.func31, Tryz.ntmps31
  go_wp2_with fail
  refine K.out.mono ?_
  rintro e w1 ⟨r, rfl, hr, hb1⟩
  have HB : Hid (Below w.heap.size w w1) := hb1
  have HR : Hid (decide (0 ≤ r) = b) := hr
  clear hb1 hr
  go_wp2_with fail
  go_ret
  exact ⟨by rw [← HR.out]; rfl, HB.out⟩
end Go.Proofs.YtcindeechmpalabGreat
namespace Go.Proofs.YtcindeechmpalabGreat
open Go.ChangeShapes Go.WideShapes Go.ChangeAt Go.RowKit Go.Deep
set_option linter.unusedVariables false
set_option linter.unusedSimpArgs false
theorem var_owned (w : World) (n : Nat) (h9 : n ≤ 9) (v : Int) : Owned (w.alloc (.cells ((varL n v).map (Value.int .u8)).toArray 5)) w.heap.size (.slice (some ⟨w.heap.size, 0, none⟩) (n + 1) (n + 1)) (varL n v) := by
  have h := varL_length n v
  refine ⟨by simp [h], .inr ⟨w.heap.size, n + 1, _, by rw [h], Nat.le_refl _, heap_alloc_new w _, by rw [h]; exact Nat.le_refl _, by simp only [maxLen]; omega, by simp [h], ?_⟩⟩
  rw [h, Nat.mul_one]
  exact List.take_of_length_le (by simp [h])
set_option maxRecDepth 100000 in
set_option maxHeartbeats 4000000 in
theorem kEncode_is (l : List Pt) (n : Nat) (hn : l.length = n) (hn62 : n ≤ 4611686018427387904) (hf : FitP l) (a : Option Addr) (c : Nat) (w : World) (hl : InP w a l) :
    Calls Tryz.prog 21 #[.slice a n c] w fun e w' => e = .returned (.tuple #[.string (strOfNums (encA l).2), .int .i64 (encA l).1]) ∧ Below w.heap.size w w' := by
  have KC : Hid (Calls Tryz.prog 31 #[.slice a n c, .func (.func 32) #[] #[]] w fun e w' => e = .returned (.bool (l.any badP)) ∧ Below w.heap.size w w') := kContains_is l n hn hn62 hf a c w hl
  have HL : Hid (InP w a l) := hl
  have HN : Hid (l.length = n) := hn
  have HEA : Hid (encA l = if l = [] ∨ l.any badP = true then (2, []) else if 64 < l.length then (3, []) else if 4096 < (eB l).length then (3, []) else (0, eB l)) := rfl
  generalize encA l = R at *
  clear hf hl
  by_cases h0 : n = 0
  · subst h0
    have HR : Hid (R = (2, [])) := by show _ = _; rw [HEA.out, if_pos (.inl (List.length_eq_zero_iff.1 hn))]
    clear HEA hn
    go_enter Tryz.func21, Tryz.ntmps21
    go_wp2_with fail
    go_ret2
    exact ⟨by rw [HR.out]; rfl, Below.refl _ _⟩
  · have hne : ¬ l = [] := fun e => by rw [e] at hn; exact h0 hn.symm
    have e0 : ((n : Int) == 0) = false := by rw [beq_eq_false_iff_ne]; omega
    have e0' : ¬ (n : Int) = 0 := by omega
    cases hb : l.any badP with
    | true =>
      rw [hb] at KC
      have HR : Hid (R = (2, [])) := by show _ = _; rw [HEA.out, if_pos (.inr hb)]
      clear HEA hn hne hb
      go_enter Tryz.func21, Tryz.ntmps21
      go_wp2_with fail
      refine KC.out.mono ?_
      rintro e w1 ⟨rfl, hb1⟩
      have HW : Hid (Below w.heap.size w w1) := hb1
      clear hb1
      go_wp2_with fail
      go_ret2
      exact ⟨by rw [HR.out]; rfl, HW.out⟩
    | false =>
      rw [hb] at KC
      have HO : Hid (∀ x ∈ l, badP x = false) := fun x hx => by
        cases hq : badP x with
        | false => rfl
        | true => rw [List.any_eq_true.2 ⟨x, hx, hq⟩] at hb; cases hb
      by_cases h64 : 64 < n
      · have e1 : decide (64 < (n : Int)) = true := by rw [decide_eq_true_eq]; omega
        have HR : Hid (R = (3, [])) := by show _ = _; rw [HEA.out, if_neg (by rw [hb]; simp [hne]), if_pos (by rw [hn]; exact h64)]
        clear HEA hn hne hb
        go_enter Tryz.func21, Tryz.ntmps21
        go_wp2_with fail
        refine KC.out.mono ?_
        rintro e w1 ⟨rfl, hb1⟩
        have HW : Hid (Below w.heap.size w w1) := hb1
        clear hb1
        go_wp2_with fail
        go_ret2
        exact ⟨by rw [HR.out]; rfl, HW.out⟩
      · have e1 : decide (64 < (n : Int)) = false := by rw [decide_eq_false_iff_not]; omega
        have HR : Hid (R = if 4096 < (eB l).length then (3, []) else (0, eB l)) := by show _ = _; rw [HEA.out, if_neg (by rw [hb]; simp [hne]), if_neg (by rw [hn]; exact h64)]
        clear HEA hn hne hb
        go_enter Tryz.func21, Tryz.ntmps21
        go_wp2_with fail
        refine KC.out.mono ?_
        rintro e w1 ⟨rfl, hb1⟩
        have HW : Hid (Below w.heap.size w w1) := hb1
        clear hb1
        go_wp2_with fail
        refine (var_any (n : Nat) (by omega) (by omega) _).mono ?_
        rintro e w2 ⟨q2, hsev, rfl, hw⟩
        have HV : Hid (varL q2 (n : Nat) = vk n) := vk_sev _ _ (by omega) hsev
        obtain ⟨h, hh⟩ : ∃ h, h = w.heap.size := ⟨_, rfl⟩
        have HH : Hid (h = w.heap.size) := hh
        have B2 : Hid (Below h w w2) := by rw [hh, hw]; exact HW.out.alloc HW.out.size _
        have O2 : Hid (Owned w2 h (.slice (some ⟨w1.heap.size, 0, none⟩) (q2 + 1) (q2 + 1)) (vk n)) := by
          rw [← HV.out, hw]
          exact (var_owned w1 q2 hsev.1 (n : Nat)).base (by rw [hh]; exact HW.out.size)
        have hvl : (vk n).length = q2 + 1 := by rw [← HV.out, varL_length]
        clear hw hsev HV HW hh
        go_wp2_with fail
        go_loopg [4, 23] n (fun g v i wr => ∃ (j : Nat), j ≤ n ∧ g = n - j ∧ i = .int .i64 (j : Int) ∧ Hid (Owned wr h v (vk n ++ csB (l.take j))) ∧ Hid (Below h w wr))
        case atStart => exact ⟨0, Nat.zero_le _, rfl, rfl, by simp [csB]; exact O2.out, B2⟩
        case round =>
          obtain ⟨j, hj, rfl, rfl, OA, HW⟩ := hrel
          clear O2 B2
          have hhr : h ≤ wr.heap.size := by rw [HH.out]; exact HW.out.size
          by_cases hlt : j < n
          · have j1 : decide ((j : Int) < (n : Int)) = true := by rw [decide_eq_true_eq]; omega
            obtain ⟨x, hx⟩ : ∃ x, l[j]? = some x := ⟨l[j]'(by rw [HN.out]; exact hlt), by simp [HN.out, hlt]⟩
            obtain ⟨b, off, rfl, hbw, hpc⟩ := HL.out.at hx
            obtain ⟨c0, c1, c2⟩ := hpc.kept (HW.out.block b (by rw [HH.out]; exact hbw))
            have HX : Hid (badP x = false) := HO.out x (List.mem_of_getElem? hx)
            have hAl : (vk n ++ csB (l.take j)).length ≤ 800000 := by
              have q1 := csB_len (l := l.take j) (fun y hy => HO.out y (List.mem_of_mem_take hy))
              have q2 := (vk_len n).2
              have q3 : (l.take j).length ≤ j := by rw [List.length_take]; omega
              rw [List.length_append]
              omega
            have HAE : Hid (vk n ++ csB (l.take (j + 1)) = vk n ++ csB (l.take j) ++ cB x) := by show _ = _; rw [csB_take hx, List.append_assoc]
            clear hx hpc
            generalize vk n ++ csB (l.take j) = A at *
            have ri : IntKind.i64.wrap ((j : Int) + 1) = (j : Int) + 1 := by rw [IntKind.wrap_i64]; omega
            obtain ⟨W1, hW1⟩ : ∃ W1, wr.alloc (.cells #[.string x.k, .string x.v, .bool x.g] 32) = W1 := ⟨_, rfl⟩
            have W1E : Hid (wr.alloc (.cells #[.string x.k, .string x.v, .bool x.g] 32) = W1) := hW1
            have O1 : Hid (Owned W1 h u4 A) := by rw [← hW1]; exact OA.out.alloc _
            have B1 : Hid (Below h w W1) := by rw [← hW1]; exact HW.out.alloc hhr _
            have hb1 : h ≤ W1.heap.size := by rw [← hW1]; simp; omega
            have KX : Hid (Calls Tryz.prog 34 #[u4, .agg #[.string x.k, .string x.v, .bool x.g]] W1 fun e w' => ∃ v', e = .returned v' ∧ Owned w' h v' (A ++ cB x) ∧ Gr W1 w' u4.ownBlock v'.ownBlock) := kChange_is x HX.out h u4 A W1 O1.out (by omega) hb1
            have HOB : Hid (∀ k, u4.ownBlock = some k → h ≤ k) := fun k hk => (owned_own OA.out k hk).1
            clear hW1
            obtain ⟨xk, xv, xg⟩ := x
            simp only at c0 c1 c2 KX W1E
            go_wp2_with fail
            rw [show World.alloc wr _ = W1 from W1E.out]
            refine KX.out.mono ?_
            rintro e w5 ⟨v5, rfl, ho5, hg5⟩
            have O5 : Hid (Owned w5 h v5 (vk n ++ csB (l.take (j + 1)))) := by rw [HAE.out]; exact ho5
            have B5 : Hid (Below h w w5) := B1.out.trans (hg5.below h hb1 HOB.out)
            clear ho5 hg5
            go_wp2_with fail
            go_roundg (n - (j + 1))
            case measure => omega
            case rel => exact ⟨j + 1, by omega, rfl, by simp, O5, B5⟩
          · have j1 : decide ((j : Int) < (n : Int)) = false := by rw [decide_eq_false_iff_not]; omega
            have HT : Hid (vk n ++ csB (l.take j) = eB l) := by
              show _ = _
              have h1 := HN.out
              rw [List.take_of_length_le (by omega)]
              unfold eB
              rw [h1]
            rw [HT.out] at OA
            obtain ⟨a4, c4, rfl, hq4, ho4, _⟩ := OA.out.slice
            have hlen : (eB l).length ≤ 140737488355328 := by
              have q1 := csB_len HO.out
              have q2 := (vk_len l.length).2
              have h1 := HN.out
              unfold eB
              rw [List.length_append]
              omega
            have cv : (convert 69 9 (.slice a4 (eB l).length c4)).run Tryz.prog wr = .ok (.string (strOfNums (eB l))) wr := conv_str (w := wr) ho4 _ _ rfl
            have HB : Hid (Below w.heap.size w wr) := by rw [← HH.out]; exact HW.out
            by_cases h4 : 4096 < (eB l).length
            · have e4 : decide (4096 < ((eB l).length : Int)) = true := by rw [decide_eq_true_eq]; omega
              have HR2 : Hid (R = (3, [])) := by show _ = _; rw [HR.out, if_pos h4]
              generalize (eB l).length = q at *
              generalize strOfNums (eB l) = st at *
              go_wp2_with fail
              go_ret2
              exact ⟨by rw [HR2.out]; rfl, HB.out⟩
            · have e4 : decide (4096 < ((eB l).length : Int)) = false := by rw [decide_eq_false_iff_not]; omega
              have HR2 : Hid (R = (0, eB l)) := by show _ = _; rw [HR.out, if_neg h4]
              have HST : Hid (R.1 = 0 ∧ strOfNums R.2 = strOfNums (eB l)) := by rw [HR2.out]; exact ⟨rfl, rfl⟩
              generalize (eB l).length = q at *
              generalize strOfNums (eB l) = st at *
              go_wp2_with fail
              go_ret2
              exact ⟨by rw [HST.out.1, HST.out.2]; rfl, HB.out⟩
end Go.Proofs.YtcindeechmpalabGreat
