/- begun. Written by gen_begun.py. -/
import Derived.Test.YtibgfjnddhfgpaaDkGa
import Derived.Deep.RegionHeld3
import Derived.Deep.WholeRow
import Derived.BigQuiet
import Derived.Deep.QuietTactic
namespace Go.Proofs.Ytibgfjnddhfgpaa
open Go.ChangeShapes Go.WideShapes Go.ChangeAt Go.RowKit Go.Deep Go.Maps
set_option linter.unusedVariables false
theorem size45 : (Try.prog.info? 45).map (·.size) = some 8 := by kernel_rfl
theorem size47 : (Try.prog.info? 47).map (·.size) = some 8 := by kernel_rfl
/-- eight texts, the first j of them noughts -/
def nw (j : Nat) : List Value := List.replicate j (sT nought) ++ List.replicate (8 - j) (.string ⟨#[]⟩)
theorem nw_len {j : Nat} (h : j ≤ 8) : (nw j).length = 8 := by simp [nw]; omega
theorem nw_set {j : Nat} (h : j < 8) : (nw j).toArray.setIfInBounds j (sT nought) = (nw (j + 1)).toArray := by
  unfold nw
  rw [show 8 - j = (8 - (j + 1)) + 1 by omega, List.replicate_succ, List.setIfInBounds_toArray, List.set_append_right _ _ (by simp)]
  simp [List.replicate_succ']
theorem nw_one (j : Nat) : ((nw j).toArray).all (·.oneCell') = true := by
  rw [Array.all_eq_true_iff_forall_mem]
  intro v hv
  have hv2 : v ∈ nw j := by simpa using hv
  rcases List.mem_append.1 hv2 with h | h
  · rw [(List.mem_replicate.1 h).2]; rfl
  · rw [(List.mem_replicate.1 h).2]; rfl
theorem nil8_one : (nil8.toArray).all (·.oneCell') = true := by rw [Array.all_eq_true_iff_forall_mem]; intro v hv; rw [(List.mem_replicate.1 (by simpa [nil8] using hv : v ∈ nil8)).2]; rfl
theorem nw8 : (nw 8).toArray = strs (noughts 8) := rfl
theorem Bg.start {w W4 w1 wr : World} {F : Nat → Prop} {b : Nat} (x1 : W4.heap.size = w.heap.size + 4) (x2 : Below w.heap.size w W4) (x3 : W4.heap[w.heap.size]? = some (.cells #[Value.string ⟨#[]⟩, Value.string ⟨#[]⟩, Value.string ⟨#[]⟩, Value.string ⟨#[]⟩, Value.string ⟨#[]⟩, Value.string ⟨#[]⟩, Value.string ⟨#[]⟩, Value.string ⟨#[]⟩] 45)) (x4 : W4.heap[w.heap.size + 1]? = some (.cells #[Value.slice none 0 0, Value.slice none 0 0, Value.slice none 0 0, Value.slice none 0 0, Value.slice none 0 0, Value.slice none 0 0, Value.slice none 0 0, Value.slice none 0 0] 47)) (x5 : W4.heap[w.heap.size + 2]? = some (.cells (nw 0).toArray 45)) (x6 : W4.heap[w.heap.size + 3]? = some (.cells nil8.toArray 47)) (hd : Dk w1 F b 0 (Ds.new 8)) (hb1 : Below W4.heap.size W4 w1) (hF : ∀ k, F k → W4.heap.size ≤ k) (hn : wr.heap[w1.heap.size]? = some (.cells (nw 8).toArray 45)) (hbr : Below w1.heap.size w1 wr) :
    Bg w (wr.setRow (w.heap.size + 2) (strs (noughts 8))) F b 0 w1.heap.size (Ds.new 8) nil8 := by
  have z1 := hb1.size
  have z2 := hbr.size
  have g := setRow_grown wr (w.heap.size + 2) (strs (noughts 8))
  have old : ∀ k, k < w.heap.size + 4 → k ≠ w.heap.size + 2 → (wr.setRow (w.heap.size + 2) (strs (noughts 8))).heap[k]? = W4.heap[k]? := fun k hk hn => (g.block k (by omega) (by simpa using hn)).trans ((hbr.block k (by omega)).trans (hb1.block k (by omega)))
  have ef : flD (Ds.new 8).D (Ds.new 8).W = noughts 8 := flD_nil _ _ (fun _ _ => rfl)
  refine ⟨(hd.keep hbr).grown g (fun k e hk => by have := hF k hk; have := Option.some.inj e; omega), fun k hk => by have := hF k hk; omega, ?_, rfl, rfl, by simp [Ds.new, noughts], ⟨_, (old _ (by omega) (by omega)).trans x3, rfl⟩, ⟨_, (old _ (by omega) (by omega)).trans x4, rfl⟩, ?_, (old _ (by omega) (by omega)).trans x6, ?_, fun hk => by have := hd.lt _ hk; omega, by omega, rfl, fun k v hv => ?_, fun k v g hv hg => ?_, fun j k u v g hjk hu hv hg => ?_⟩
  · have b1 : Below w.heap.size w w1 := x2.trans (hb1.mono (by omega))
    have b2 : Below w.heap.size w wr := b1.trans (hbr.mono (by omega))
    exact b2.grown g b2.size (fun k e => by have := Option.some.inj e; omega)
  · exact setRow_heap _ _ _ _ _ _ ((hbr.block _ (by omega)).trans ((hb1.block _ (by omega)).trans x5))
  · rw [ef]
    exact (g.block _ (lt_of_heap hn) (by simp; omega)).trans (hn.trans (by rw [nw8]))
  · rw [nil8_at hv]; exact RowT.nil _ _
  · rw [nil8_at hv] at hg; simp [Value.ownBlock] at hg
  · rw [nil8_at hu] at hg; simp [Value.ownBlock] at hg
theorem results_bg {fn : Func} (h : fn.results = #[.tmp 2, .cell 3 45, .cell 4 47, .tmp 5]) (tmps : Array Value) (w : World) (g3 g4 : Nat) (D V : Array Value) (hD : D.size = 8) (hV : V.size = 8) (v u : Value) (h2 : tmps.getD 2 undef = v)
    (h3 : tmps.getD 3 undef = .pointer (some ⟨g3, 0, none⟩)) (h4 : tmps.getD 4 undef = .pointer (some ⟨g4, 0, none⟩)) (h5 : tmps.getD 5 undef = u) (k3 : w.heap[g3]? = some (.cells D 45)) (k4 : w.heap[g4]? = some (.cells V 47)) :
    (results fn tmps).run Try.prog w = .ok (.tuple #[v, .agg D, .agg V, u]) w := by
  have h2' : tmps[2]?.getD undef = v := by simpa using h2
  have h3' : tmps[3]?.getD undef = .pointer (some ⟨g3, 0, none⟩) := by simpa using h3
  have h4' : tmps[4]?.getD undef = .pointer (some ⟨g4, 0, none⟩) := by simpa using h4
  have h5' : tmps[5]?.getD undef = u := by simpa using h5
  simp [results, h, h2', h3', h4', h5', asAddr, run_loadVar_row w g3 45 45 D (0, 0) _ k3 Try.underlying45 rfl (by rw [hD]; exact size45), run_loadVar_row w g4 47 47 V (0, 0) _ k4 Try.underlying47 rfl (by rw [hV]; exact size47)]
theorem Bg.ended {w wr : World} {F : Nat → Prop} {b N Bn : Nat} {s : Ds} {sl : List Value} (h : Bg w wr F b N Bn s sl) : Bg w (((wr.drew).setRow w.heap.size (strs s.D)).setRow (w.heap.size + 1) sl.toArray) F b N Bn s sl ∧ (((wr.drew).setRow w.heap.size (strs s.D)).setRow (w.heap.size + 1) sl.toArray).heap[w.heap.size]? = some (.cells (strs s.D) 45) ∧ (((wr.drew).setRow w.heap.size (strs s.D)).setRow (w.heap.size + 1) sl.toArray).heap[w.heap.size + 1]? = some (.cells sl.toArray 47) := by
  obtain ⟨k3, h3, z3⟩ := h.c3
  obtain ⟨k4, h4, z4⟩ := h.c4
  have hB := h.hBn
  have g1 := setRow_grown wr.drew w.heap.size (strs s.D)
  have g2 := setRow_grown (wr.drew.setRow w.heap.size (strs s.D)) (w.heap.size + 1) sl.toArray
  have old : ∀ k, k < wr.heap.size → k ≠ w.heap.size → k ≠ w.heap.size + 1 → ((wr.drew.setRow w.heap.size (strs s.D)).setRow (w.heap.size + 1) sl.toArray).heap[k]? = wr.heap[k]? := fun k hk n1 n2 => (g2.block k (Nat.lt_of_lt_of_le hk g1.size) (by simpa using n2)).trans (g1.block k hk (by simpa using n1))
  have n3 : ((wr.drew.setRow w.heap.size (strs s.D)).setRow (w.heap.size + 1) sl.toArray).heap[w.heap.size]? = some (.cells (strs s.D) 45) := (g2.block _ (Nat.lt_of_lt_of_le (lt_of_heap h3) g1.size) (by simp)).trans (setRow_heap _ _ _ _ _ _ (show wr.drew.heap[w.heap.size]? = _ from h3))
  have n4 : ((wr.drew.setRow w.heap.size (strs s.D)).setRow (w.heap.size + 1) sl.toArray).heap[w.heap.size + 1]? = some (.cells sl.toArray 47) := setRow_heap _ _ _ _ _ _ ((g1.block _ (lt_of_heap h4) (by simp)).trans (show wr.drew.heap[w.heap.size + 1]? = _ from h4))
  have low : ∀ k, F k → k ≠ w.heap.size ∧ k ≠ w.heap.size + 1 := fun k hk => by have := h.far k hk; omega
  refine ⟨⟨h.dk.kept (Nat.le_trans g1.size g2.size) (fun k hk => old k (h.dk.lt k hk) (low k hk).1 (low k hk).2) rfl rfl rfl, h.far, ?_, h.up, h.fu, h.l8, ⟨_, n3, by rw [strs_size]; exact h.l8⟩, ⟨_, n4, by have := h.svl; simpa using this⟩, (old _ (lt_of_heap h.was) (by omega) (by omega)).trans h.was, (old _ (lt_of_heap h.sn) (by omega) (by omega)).trans h.sn, (old _ (lt_of_heap h.now) (by omega) (by omega)).trans h.now, h.nF, h.hBn, h.svl, fun k v hv => ?_, h.off, h.apart⟩, n3, n4⟩
  · have b1 : Below w.heap.size w wr.drew := h.bel.drew
    exact (b1.grown g1 b1.size (fun k e => by have := Option.some.inj e; omega)).grown g2 (Nat.le_trans b1.size g1.size) (fun k e => by have := Option.some.inj e; omega)
  · refine (h.row k v hv).kept fun x hx => ?_
    have := (h.row k v hv).own x hx
    exact old x this.2 (by omega) (by omega)
/-- what begun answers -/
def BegunSaid (w : World) (e : Ending) (w' : World) : Prop := ∃ F b N Bn s sl, e = .returned (.tuple #[.pointer (some ⟨b, 0, none⟩), .agg (strs s.D), .agg sl.toArray, .bool true]) ∧ Bg w w' F b N Bn s sl ∧ N ≤ 60
set_option linter.unusedSimpArgs false in
set_option maxRecDepth 100000 in
set_option maxHeartbeats 16000000 in
theorem begun_is (a : Option Addr) (len cap : Nat) (A : Nat → Av) (w : World) (hA : InA w a len A) :
    Calls Try.prog 19 #[.slice a len cap] w (BegunSaid w) := by
  have HA : Hid (InA w a len A) := hA
  clear hA
  obtain ⟨W4, hW4⟩ : ∃ W4, (((w.alloc (.cells #[Value.string ⟨#[]⟩, Value.string ⟨#[]⟩, Value.string ⟨#[]⟩, Value.string ⟨#[]⟩, Value.string ⟨#[]⟩, Value.string ⟨#[]⟩, Value.string ⟨#[]⟩, Value.string ⟨#[]⟩] 45)).alloc (.cells #[Value.slice none 0 0, Value.slice none 0 0, Value.slice none 0 0, Value.slice none 0 0, Value.slice none 0 0, Value.slice none 0 0, Value.slice none 0 0, Value.slice none 0 0] 47)).alloc (.cells #[Value.string ⟨#[]⟩, Value.string ⟨#[]⟩, Value.string ⟨#[]⟩, Value.string ⟨#[]⟩, Value.string ⟨#[]⟩, Value.string ⟨#[]⟩, Value.string ⟨#[]⟩, Value.string ⟨#[]⟩] 45)).alloc (.cells #[Value.slice none 0 0, Value.slice none 0 0, Value.slice none 0 0, Value.slice none 0 0, Value.slice none 0 0, Value.slice none 0 0, Value.slice none 0 0, Value.slice none 0 0] 47) = W4 := ⟨_, rfl⟩
  have HW4 : Hid ((((w.alloc (.cells #[Value.string ⟨#[]⟩, Value.string ⟨#[]⟩, Value.string ⟨#[]⟩, Value.string ⟨#[]⟩, Value.string ⟨#[]⟩, Value.string ⟨#[]⟩, Value.string ⟨#[]⟩, Value.string ⟨#[]⟩] 45)).alloc (.cells #[Value.slice none 0 0, Value.slice none 0 0, Value.slice none 0 0, Value.slice none 0 0, Value.slice none 0 0, Value.slice none 0 0, Value.slice none 0 0, Value.slice none 0 0] 47)).alloc (.cells #[Value.string ⟨#[]⟩, Value.string ⟨#[]⟩, Value.string ⟨#[]⟩, Value.string ⟨#[]⟩, Value.string ⟨#[]⟩, Value.string ⟨#[]⟩, Value.string ⟨#[]⟩, Value.string ⟨#[]⟩] 45)).alloc (.cells #[Value.slice none 0 0, Value.slice none 0 0, Value.slice none 0 0, Value.slice none 0 0, Value.slice none 0 0, Value.slice none 0 0, Value.slice none 0 0, Value.slice none 0 0] 47) = W4) := hW4
  have X4 : Hid (W4.heap.size = w.heap.size + 4 ∧ Below w.heap.size w W4 ∧ W4.heap[w.heap.size]? = some (.cells #[Value.string ⟨#[]⟩, Value.string ⟨#[]⟩, Value.string ⟨#[]⟩, Value.string ⟨#[]⟩, Value.string ⟨#[]⟩, Value.string ⟨#[]⟩, Value.string ⟨#[]⟩, Value.string ⟨#[]⟩] 45) ∧ W4.heap[w.heap.size + 1]? = some (.cells #[Value.slice none 0 0, Value.slice none 0 0, Value.slice none 0 0, Value.slice none 0 0, Value.slice none 0 0, Value.slice none 0 0, Value.slice none 0 0, Value.slice none 0 0] 47) ∧ W4.heap[w.heap.size + 2]? = some (.cells (nw 0).toArray 45) ∧ W4.heap[w.heap.size + 3]? = some (.cells nil8.toArray 47)) := by
    rw [← hW4]
    refine ⟨by simp, (((below1 w _).trans ((below1 _ _).mono (by simp))).trans ((below1 _ _).mono (by simp; omega))).trans ((below1 _ _).mono (by simp; omega)), ?_, ?_, ?_, ?_⟩
    · rw [Below.heap_alloc _ _ _ (by simp; omega), Below.heap_alloc _ _ _ (by simp; omega), Below.heap_alloc _ _ _ (by simp)]; exact heap_alloc_new w _
    · rw [Below.heap_alloc _ _ _ (by simp), Below.heap_alloc _ _ _ (by simp)]
      have := heap_alloc_new (w.alloc (.cells #[Value.string ⟨#[]⟩, Value.string ⟨#[]⟩, Value.string ⟨#[]⟩, Value.string ⟨#[]⟩, Value.string ⟨#[]⟩, Value.string ⟨#[]⟩, Value.string ⟨#[]⟩, Value.string ⟨#[]⟩] 45)) (.cells #[Value.slice none 0 0, Value.slice none 0 0, Value.slice none 0 0, Value.slice none 0 0, Value.slice none 0 0, Value.slice none 0 0, Value.slice none 0 0, Value.slice none 0 0] 47)
      simpa using this
    · rw [Below.heap_alloc _ _ _ (by simp)]
      have := heap_alloc_new ((w.alloc (.cells #[Value.string ⟨#[]⟩, Value.string ⟨#[]⟩, Value.string ⟨#[]⟩, Value.string ⟨#[]⟩, Value.string ⟨#[]⟩, Value.string ⟨#[]⟩, Value.string ⟨#[]⟩, Value.string ⟨#[]⟩] 45)).alloc (.cells #[Value.slice none 0 0, Value.slice none 0 0, Value.slice none 0 0, Value.slice none 0 0, Value.slice none 0 0, Value.slice none 0 0, Value.slice none 0 0, Value.slice none 0 0] 47)) (.cells #[Value.string ⟨#[]⟩, Value.string ⟨#[]⟩, Value.string ⟨#[]⟩, Value.string ⟨#[]⟩, Value.string ⟨#[]⟩, Value.string ⟨#[]⟩, Value.string ⟨#[]⟩, Value.string ⟨#[]⟩] 45)
      rw [show ((w.alloc (.cells #[Value.string ⟨#[]⟩, Value.string ⟨#[]⟩, Value.string ⟨#[]⟩, Value.string ⟨#[]⟩, Value.string ⟨#[]⟩, Value.string ⟨#[]⟩, Value.string ⟨#[]⟩, Value.string ⟨#[]⟩] 45)).alloc (.cells #[Value.slice none 0 0, Value.slice none 0 0, Value.slice none 0 0, Value.slice none 0 0, Value.slice none 0 0, Value.slice none 0 0, Value.slice none 0 0, Value.slice none 0 0] 47)).heap.size = w.heap.size + 2 by simp] at this
      exact this
    · have := heap_alloc_new (((w.alloc (.cells #[Value.string ⟨#[]⟩, Value.string ⟨#[]⟩, Value.string ⟨#[]⟩, Value.string ⟨#[]⟩, Value.string ⟨#[]⟩, Value.string ⟨#[]⟩, Value.string ⟨#[]⟩, Value.string ⟨#[]⟩] 45)).alloc (.cells #[Value.slice none 0 0, Value.slice none 0 0, Value.slice none 0 0, Value.slice none 0 0, Value.slice none 0 0, Value.slice none 0 0, Value.slice none 0 0, Value.slice none 0 0] 47)).alloc (.cells #[Value.string ⟨#[]⟩, Value.string ⟨#[]⟩, Value.string ⟨#[]⟩, Value.string ⟨#[]⟩, Value.string ⟨#[]⟩, Value.string ⟨#[]⟩, Value.string ⟨#[]⟩, Value.string ⟨#[]⟩] 45)) (.cells #[Value.slice none 0 0, Value.slice none 0 0, Value.slice none 0 0, Value.slice none 0 0, Value.slice none 0 0, Value.slice none 0 0, Value.slice none 0 0, Value.slice none 0 0] 47)
      rw [show (((w.alloc (.cells #[Value.string ⟨#[]⟩, Value.string ⟨#[]⟩, Value.string ⟨#[]⟩, Value.string ⟨#[]⟩, Value.string ⟨#[]⟩, Value.string ⟨#[]⟩, Value.string ⟨#[]⟩, Value.string ⟨#[]⟩] 45)).alloc (.cells #[Value.slice none 0 0, Value.slice none 0 0, Value.slice none 0 0, Value.slice none 0 0, Value.slice none 0 0, Value.slice none 0 0, Value.slice none 0 0, Value.slice none 0 0] 47)).alloc (.cells #[Value.string ⟨#[]⟩, Value.string ⟨#[]⟩, Value.string ⟨#[]⟩, Value.string ⟨#[]⟩, Value.string ⟨#[]⟩, Value.string ⟨#[]⟩, Value.string ⟨#[]⟩, Value.string ⟨#[]⟩] 45)).heap.size = w.heap.size + 3 by simp] at this
      exact this
  clear hW4
  go_enter Try.func19, Try.ntmps19
  go_wp2_with fail
  rw [show World.alloc _ _ = W4 from HW4.out]
  refine (dk_new 8 (by omega) (by omega) W4).mono ?_
  rintro e w1 ⟨b, F, rfl, hd, hb1, hF⟩
  have D1 : Hid (Dk w1 F b 0 (Ds.new 8) ∧ Below W4.heap.size W4 w1 ∧ ∀ k, F k → W4.heap.size ≤ k) := ⟨hd, hb1, hF⟩
  have s4 := X4.out.1
  have s1 := hb1.size
  have K2 : Hid (w1.heap[w.heap.size + 2]? = some (.cells (nw 0).toArray 45)) := (hb1.block _ (by omega)).trans X4.out.2.2.2.2.1
  clear hd hb1 hF
  go_wp2_with (first | (refine wpList_load_row rfl 45 (.tmp 6) rfl (w.heap.size + 2) rfl 45 (nw 0).toArray (0, 0) _ K2.out Try.underlying45 rfl size45 ?_) | (refine wpList_store_row rfl 45 (.tmp 10) (.tmp 28) rfl w1.heap.size (nw 0).toArray rfl rfl 45 _ (heap_alloc_new w1 _) size45 rfl (nw_one 0) ?_; generalize hW2 : World.setRow _ _ _ = W2; have S2 : Hid (W2.heap[w1.heap.size]? = some (.cells (nw 0).toArray 45) ∧ Below w1.heap.size w1 W2) := (by rw [← hW2]; exact ⟨setRow_heap _ _ _ _ _ _ (heap_alloc_new w1 _), below_setRow (below1 _ _) (Nat.le_refl _) _⟩); clear hW2))
  have hmk : ∀ W : World, (Instr.makeSlice 35 (.int .i64 64) (.int .i64 64)).run Try.prog W = .ok (.slice (some ⟨W.heap.size, 0, none⟩) 64 64) (W.alloc (.cells (madeCells #[.int .u8 0] 64) 5)) := fun W => run_make_row' 35 5 (.int .u8 0) 1 Try.underlying35 info8 rfl .i64 .i64 64 (by omega) (by omega) W
  have OM : Hid (∀ W : World, Owned (W.alloc (.cells (madeCells #[.int .u8 0] 64) 5)) W.heap.size (.slice (some ⟨W.heap.size, 0, none⟩) 64 64) nought) := fun W => madeO W 64 (by omega)
  generalize madeCells #[.int .u8 0] 64 = mc at *
  go_loopg [29] 8 (fun gg iv wr => ∃ j : Nat, j ≤ 8 ∧ gg = 8 - j ∧ iv = .int .i64 (j : Int) ∧ Hid (wr.heap[w1.heap.size]? = some (.cells (nw j).toArray 45)) ∧ Hid (Below w1.heap.size w1 wr))
  case atStart => exact ⟨0, by omega, rfl, rfl, S2.out.1, S2.out.2⟩
  case round =>
    obtain ⟨j, hj8, rfl, rfl, NW, BR⟩ := hrel
    by_cases hj : j < 8
    · have f1 : decide ((j : Int) < 8) = true := by rw [decide_eq_true_eq]; omega
      have rj : IntKind.i64.wrap ((j : Int) + 1) = (j : Int) + 1 := by rw [IntKind.wrap_i64]; omega
      have cvz : (convert 35 9 (.slice (some ⟨wr.heap.size, 0, none⟩) 64 64)).run Try.prog (wr.alloc (.cells mc 5)) = .ok (sT nought) (wr.alloc (.cells mc 5)) := conv_str (OM.out wr).holds.1 64 64 rfl
      obtain ⟨wm, hwm⟩ : ∃ wm, wr.alloc (.cells mc 5) = wm := ⟨_, rfl⟩
      have HM : Hid (wm.heap[w1.heap.size]? = some (.cells (nw j).toArray 45) ∧ Below w1.heap.size w1 wm) := by
        rw [← hwm]
        exact ⟨((below1 wr _).block _ (lt_of_heap NW.out)).trans NW.out, BR.out.trans ((below1 wr _).mono BR.out.size)⟩
      have cj : (wm.cell? ⟨w1.heap.size, j, none⟩).isSome = true := by
        rw [cell_of_row wm w1.heap.size j _ _ (0, 0) HM.out.1]
        rw [List.getElem?_toArray, List.getElem?_eq_getElem (by rw [nw_len (by omega)]; exact hj)]
        rfl
      obtain ⟨u0, cj⟩ := Option.isSome_iff_exists.1 cj
      have fj : wm.frozen? ⟨w1.heap.size, j, none⟩ = false := frozen_not HM.out.1 j
      have hmk1 := hmk wr
      rw [hwm] at cvz hmk1
      clear hwm
      simp only [sT] at cvz
      clear hmk
      go_wp2_with fail
      go_roundg (8 - (j + 1))
      case measure => omega
      case rel => exact ⟨j + 1, by omega, rfl, by simp, (set_own wm w1.heap.size j _ _ HM.out.1 _).trans (by rw [← nw_set hj]; rfl), HM.out.2.setCell (Nat.le_refl _) _⟩
    · have f1 : decide ((j : Int) < 8) = false := by rw [decide_eq_false_iff_not]; omega
      obtain rfl : j = 8 := by omega
      have K2r : Hid (wr.heap[w.heap.size + 2]? = some (.cells (nw 0).toArray 45)) := (BR.out.block _ (lt_of_heap K2.out)).trans K2.out
      have BG0 : Hid (Bg w (wr.setRow (w.heap.size + 2) (strs (noughts 8))) F b 0 w1.heap.size (Ds.new 8) nil8) := Bg.start X4.out.1 X4.out.2.1 X4.out.2.2.1 X4.out.2.2.2.1 X4.out.2.2.2.2.1 X4.out.2.2.2.2.2 D1.out.1 D1.out.2.1 D1.out.2.2 NW.out BR.out
      have NW8 : Hid (wr.heap[w1.heap.size]? = some (.cells (strs (noughts 8)) 45)) := NW.out.trans (by rw [nw8])
      have sz8 : Hid ((strs (noughts 8)).size = 8) := by show _ = _; rw [strs_size]; simp [noughts]
      have one8 : Hid ((strs (noughts 8)).all (·.oneCell') = true) := strs_one _
      clear NW hmk OM
      generalize strs (noughts 8) = st8 at *
      go_wp2_with (first | (refine wpList_load_row rfl 45 (.tmp 10) rfl w1.heap.size rfl 45 st8 (0, 0) _ NW8.out Try.underlying45 rfl (by rw [sz8.out]; exact size45) ?_) | (refine wpList_store_row rfl 45 (.tmp 6) (.tmp 37) rfl (w.heap.size + 2) st8 rfl rfl 45 _ K2r.out (by rw [sz8.out]; exact size45) (by rw [sz8.out]; rfl) one8.out ?_; generalize hW3 : World.setRow _ _ _ = W3; have BG : Hid (Bg w W3 F b 0 w1.heap.size (Ds.new 8) nil8) := (by rw [← hW3]; exact BG0.out); clear hW3))
      clear BG0 NW8 K2r sz8 one8 BR S2 K2 D1
      generalize w1.heap.size = Bn at *
      go_loopg [12] 60 (fun gg iv wr => ∃ (i : Nat) (F : Nat → Prop) (s : Ds) (sl : List Value), i ≤ 60 ∧ gg = 60 - i ∧ iv = .int .i64 (i : Int) ∧ Hid (Bg w wr F b i Bn s sl))
      case atStart => exact ⟨0, F, Ds.new 8, nil8, by omega, rfl, rfl, BG⟩
      case round =>
        clear BG F
        obtain ⟨i, F, s, sl, hi60, rfl, rfl, BG⟩ := hrel
        by_cases hil : i < len ∧ i < 60
        · have e1 : decide ((i : Int) < (len : Int)) = true := by rw [decide_eq_true_eq]; omega
          have e2 : decide ((i : Int) < 60) = true := by rw [decide_eq_true_eq]; omega
          have ri : IntKind.i64.wrap ((i : Int) + 1) = (i : Int) + 1 := by rw [IntKind.wrap_i64]; omega
          have hia := HA.out.below BG.out.bel
          obtain ⟨ab, off, rfl, hab, hcells⟩ := hia.1 (by omega)
          obtain ⟨c0, c1, c2, c3, c4⟩ := hcells i hil.1
          obtain ⟨b0, b1, b2, b3, b4, b5⟩ := hia.2 i hil.1
          generalize A i = v at *
          obtain ⟨vk, va, vn, vl, vka, vkl, vkc, vz⟩ := v
          simp only at c0 c1 c2 c3 c4 b0 b1 b2 b3
          clear hia hcells b4 b5
          by_cases hk1' : vk = 1
          · subst hk1'
            go_wp2_with fail
            refine (dk_flush wr F b i s BG.out.dk (by omega)).mono ?_
            rintro e w6 ⟨rfl, F', hd, hs⟩
            rw [show (s.fl).1 = 0 by rw [Ds.fl_ok BG.out.up (by rw [BG.out.fu]; omega)]]
            have nF : ∀ k, k < w.heap.size + 4 → ¬ F k := fun k hk hF => by have := BG.out.far k hF; omega
            have N6 : Hid (w6.heap[Bn]? = some (.cells (strs (flD s.D s.W)) 45)) := (hs.off.block _ (lt_of_heap BG.out.now) BG.out.nF).trans BG.out.now
            have W6 : Hid (w6.heap[w.heap.size + 2]? = some (.cells (strs s.D) 45)) := (hs.off.block _ (lt_of_heap BG.out.was) (nF _ (by omega))).trans BG.out.was
            have V6 : Hid (w6.heap[w.heap.size + 3]? = some (.cells sl.toArray 47)) := (hs.off.block _ (lt_of_heap BG.out.sn) (nF _ (by omega))).trans BG.out.sn
            have Z6 : Hid ((strs (flD s.D s.W)).size = 8 ∧ (strs s.D).size = 8 ∧ sl.toArray.size = 8) := ⟨by rw [strs_size, flD_len]; exact BG.out.l8, by rw [strs_size]; exact BG.out.l8, by have := BG.out.svl; simpa using this⟩
            have O6 : Hid ((strs (flD s.D s.W)).all (·.oneCell') = true) := strs_one _
            have G6 := BG.out.flushed hd hs
            have GG : Hid (Bg w ((w6.setRow (w.heap.size + 2) (strs (flD s.D s.W))).setRow (w.heap.size + 3) nil8.toArray) F' b (i + 1) Bn (s.fl).2 nil8) := G6
            have HBB : Hid (w.heap.size + 4 ≤ Bn) := BG.out.hBn
            clear hd hs nF G6 BG
            generalize strs (flD s.D s.W) = stn at *
            generalize strs s.D = stw at *
            go_wp2_with (first | (refine wpList_load_row rfl 45 (.tmp 10) rfl Bn rfl 45 stn (0, 0) _ N6.out Try.underlying45 rfl (by rw [Z6.out.1]; exact size45) ?_) | (refine wpList_store_row rfl 45 (.tmp 6) (.tmp 59) rfl (w.heap.size + 2) stn rfl rfl 45 _ W6.out (by rw [Z6.out.1]; exact size45) (by rw [Z6.out.2.1, Z6.out.1]) O6.out ?_; have V7 : Hid ((w6.setRow (w.heap.size + 2) stn).heap[w.heap.size + 3]? = some (.cells sl.toArray 47)) := (setRow_other _ _ _ _ (by omega)).trans V6.out) | (refine wpList_store_row rfl 47 (.tmp 7) (.tmp 60) rfl (w.heap.size + 3) nil8.toArray rfl rfl 47 _ V7.out size47 (by rw [Z6.out.2.2]; rfl) nil8_one ?_))
            go_roundg (60 - (i + 1))
            case measure => omega
            case rel => exact ⟨i + 1, F', _, nil8, by omega, rfl, by simp, GG⟩
          · have e3 : (vk == 1) = false := by simp [hk1']
            obtain ⟨k, hk, hk8, hk1, hk2⟩ := mod_in8 va
            have s1 : IntKind.i64.wrap (Int.tmod va 8) = Int.tmod va 8 := by rw [IntKind.wrap_i64]; omega
            have s2 : IntKind.i64.wrap (Int.tmod va 8 + 8) = Int.tmod va 8 + 8 := by rw [IntKind.wrap_i64]; omega
            have s3 : IntKind.i64.wrap (k : Int) = (k : Int) := by rw [IntKind.wrap_i64]; omega
            have KB : Hid (∀ W, Calls Try.prog 25 #[.agg #[.int .i64 vk, .int .i64 va, .int .i64 vn, .int .i64 0, .slice vka vkl vkc]] W fun e w' => ∃ g, e = .returned (.slice (some ⟨g, 0, none⟩) 64 64) ∧ Owned w' W.heap.size (.slice (some ⟨g, 0, none⟩) 64 64) (bL vn 0) ∧ Below W.heap.size W w') := fun W => bytesOf_is vk va vn 0 (.slice vka vkl vkc) b2 (by omega) rfl W
            obtain ⟨C, hCe⟩ : ∃ C, bL vn 0 = C := ⟨_, rfl⟩
            have C64 : Hid (C.length = 64 ∧ IsBytes C) := by rw [← hCe]; exact ⟨by simp [bL, bN_zero], bL_bytes vn 0⟩
            rw [hCe] at KB
            clear hCe
            go_wp2_with fail
            refine (KB.out _).mono ?_
            rintro e w5 ⟨g5, rfl, o5, b5⟩
            have B15 : Hid (Below wr.heap.size wr w5) := (below1 wr _).trans (b5.mono (by simp))
            have lt5 : wr.heap.size < g5 ∧ g5 < w5.heap.size := by
              have := World.ownsRow.lt o5 g5 rfl
              simp at this
              omega
            have O5 : Hid (Owned w5 0 (.slice (some ⟨g5, 0, none⟩) 64 64) C) := owned_low o5 (Nat.zero_le _)
            have LT5 : Hid (wr.heap.size < g5 ∧ g5 < w5.heap.size) := lt5
            clear o5 b5 lt5
            go_wp2_with fail
            refine (dk_write w5 F b i s (BG.out.dk.keep B15.out) (by omega) (k : Int) _ 64 64 C C64.out.1 C64.out.2 O5.out.holds.1 (fun x e _ => by cases e; show g5 ≠ b; have := BG.out.dk.lt b BG.out.dk.b; have := LT5.out; omega)).mono ?_
            rintro e w6 ⟨rfl, F', hd, hs⟩
            rw [show (s.wr (k : Int) C).1 = 0 by rw [Ds.wr_ok BG.out.up (by rw [BG.out.l8]; omega) C64.out.1 (by rw [BG.out.fu]; omega)]]
            have z15 := B15.out.size
            have z56 := hs.off.size
            have hF5 : ∀ k, F k → k < wr.heap.size := fun k hk => BG.out.dk.lt k hk
            have oldw : ∀ x, x < wr.heap.size → ¬ F x → w6.heap[x]? = wr.heap[x]? := fun x hx hF => (hs.off.block x (by omega) hF).trans (B15.out.block x hx)
            have nF : ∀ x, x < w.heap.size + 4 → ¬ F x := fun x hx hF => by have := BG.out.far x hF; omega
            have hBn := BG.out.hBn
            have N6 : Hid (w6.heap[Bn]? = some (.cells (strs (flD s.D s.W)) 45)) := (oldw _ (lt_of_heap BG.out.now) BG.out.nF).trans BG.out.now
            have V6 : Hid (w6.heap[w.heap.size + 3]? = some (.cells sl.toArray 47)) := (oldw _ (lt_of_heap BG.out.sn) (nF _ (by omega))).trans BG.out.sn
            have O6 : Hid (Owned w6 0 (.slice (some ⟨g5, 0, none⟩) 64 64) C) := owned_kept O5.out fun x hx => by
              have e : g5 = x := by simpa [Value.ownBlock] using hx
              subst e
              exact hs.off.block _ LT5.out.2 (fun hF => by have := hF5 _ hF; have := LT5.out; omega)
            have cv6 : (convert 35 9 (.slice (some ⟨g5, 0, none⟩) 64 64)).run Try.prog w6 = .ok (.string (strOfNums C)) w6 := conv_str O6.out.holds.1 64 64 C64.out.1
            obtain ⟨u6, cB⟩ : ∃ u, w6.cell? ⟨Bn, k, none⟩ = some u := by
              rw [cell_of_row w6 Bn k _ _ (0, 0) N6.out]
              exact ⟨_, Array.getElem?_eq_getElem (by rw [strs_size, flD_len, BG.out.l8]; exact hk8)⟩
            have fB : w6.frozen? ⟨Bn, k, none⟩ = false := frozen_not N6.out k
            obtain ⟨v, hv⟩ : ∃ v, sl[k]? = some v := ⟨_, List.getElem?_eq_getElem (by rw [BG.out.svl]; exact hk8)⟩
            have G3 : Hid (w6.grownBy (w6.setCell ⟨Bn, k, none⟩ (.string (strOfNums C))) (some Bn)) := grown_set w6 Bn k _
            have hrow := BG.out.row k v hv
            have hvB : v.ownBlock ≠ some Bn := fun e => by
              obtain ⟨cs, hcs⟩ := hrow.at Bn e
              rw [BG.out.now] at hcs
              simp at hcs
            have RW7 : Hid (RowT (w6.setCell ⟨Bn, k, none⟩ (.string (strOfNums C))) (w.heap.size + 4) v (s.W (k : Int))) := hrow.kept fun x hx => (G3.out.block x (by have := (hrow.own x hx).2; omega) (fun e => hvB (by rw [hx]; exact e))).trans (oldw x (hrow.own x hx).2 (BG.out.off k v x hv hx))
            have V7 : Hid ((w6.setCell ⟨Bn, k, none⟩ (.string (strOfNums C))).heap[w.heap.size + 3]? = some (.cells sl.toArray 47)) := (G3.out.block _ (lt_of_heap V6.out) (by simp; omega)).trans V6.out
            have H7 : Hid (Holds (w6.setCell ⟨Bn, k, none⟩ (.string (strOfNums C))) (some ⟨g5, 0, none⟩) C) := (owned_kept O6.out fun x hx => by
              have e : g5 = x := by simpa [Value.ownBlock] using hx
              subst e
              exact G3.out.block _ (by have := LT5.out; omega) (by have := LT5.out; have := lt_of_heap BG.out.now; simp; omega)).holds.1
            have ZW : Hid (w.heap.size + 4 ≤ (w6.setCell ⟨Bn, k, none⟩ (.string (strOfNums C))).heap.size ∧ (w6.setCell ⟨Bn, k, none⟩ (.string (strOfNums C))).heap.size = w6.heap.size) := by
              have := lt_of_heap BG.out.now
              have e : (w6.setCell ⟨Bn, k, none⟩ (.string (strOfNums C))).heap.size = w6.heap.size := by simp [World.setCell]
              exact ⟨by rw [e]; omega, e⟩
            have HD : Hid (Dk w6 F' b (i + 1) (s.wr (k : Int) C).2 ∧ Step F F' w5 w6) := ⟨hd, hs⟩
            have HV : Hid (sl[k]? = some v) := hv
            have W9 : Hid ((s.W (k : Int)).length ≤ 1000000000) := by
              obtain ⟨_, _, _, _, _, _, _, h2, _⟩ := BG.out.dk
              have := h2 (k : Int)
              show _ ≤ _
              omega
            have HB3 : Hid (Bn ≠ w.heap.size + 3 ∧ g5 ≠ w.heap.size + 3) := ⟨by omega, by have := LT5.out; have := lt_of_heap BG.out.now; omega⟩
            have NK : Hid (¬ (8 : Int) ≤ (k : Int)) := by show ¬ _; omega
            clear hd hs hF5 oldw nF hBn N6 hrow hvB hv KB
            go_wp2_with fail
            obtain ⟨w7, hw7⟩ : ∃ w7, w6.setCell ⟨Bn, k, none⟩ (.string (strOfNums C)) = w7 := ⟨_, rfl⟩
            rw [hw7] at G3 RW7 V7 H7 ZW ⊢
            have HW7 : Hid (w6.setCell ⟨Bn, k, none⟩ (sT C) = w7) := hw7
            clear hw7
            refine wp_region_noPanic ?_
            refine wp_region_held_drew (S := (fun Wd : World => Holds Wd (some ⟨g5, 0, none⟩) C)) (by kernel_rfl) ?hSa (fun hHeld => ?resta)
            case hSa => exact H7.out
            case resta =>
              refine wpAnyH_take (i := 0) (v := .int .i64 (k : Int)) rfl (by kernel_rfl) (by kernel_rfl) (by kernel_rfl) (fun _ _ _ h => h) (Or.inl ⟨by rfl, ?hy0⟩) hHeld ?rest0
              case hy0 => (intro w hSw; (try dsimp only at hSw); clear hSw; go_simp; try with_reducible rfl)
              try simp only [Act.put, List.setIfInBounds_toArray, List.set_cons_zero, List.set_cons_succ, List.getElem_toArray, List.getElem_cons_zero]
              refine wpAnyH_take (i := 1) (v := .int .i64 (k : Int)) rfl (by kernel_rfl) (by kernel_rfl) (by kernel_rfl) (fun _ _ _ h => h) (Or.inl ⟨by rfl, ?hy1⟩) hHeld ?rest1
              case hy1 => (intro w hSw; (try dsimp only at hSw); clear hSw; go_simp; try with_reducible rfl)
              try simp only [Act.put, List.setIfInBounds_toArray, List.set_cons_zero, List.set_cons_succ, List.getElem_toArray, List.getElem_cons_zero, List.getElem_cons_succ]
              refine wpAnyH_take (i := 2) (v := .pointer (some ⟨w.heap.size + 1 + 1 + 1, k, none⟩)) rfl (by kernel_rfl) (by kernel_rfl) (by kernel_rfl) (fun _ _ _ h => h) (Or.inl ⟨by rfl, ?hy2⟩) hHeld ?rest2
              case hy2 => (intro w hSw; (try dsimp only at hSw); clear hSw; go_simp; intro hh; have := NK.out; omega)
              try simp only [Act.put, List.setIfInBounds_toArray, List.set_cons_zero, List.set_cons_succ, List.getElem_toArray, List.getElem_cons_zero, List.getElem_cons_succ]
              refine wpAnyH_take (i := 4) (v := .slice (some ⟨g5, 0, none⟩) 64 64) rfl (by kernel_rfl) (by kernel_rfl) (by kernel_rfl) (fun _ _ _ h => h) (Or.inl ⟨by rfl, ?hy4⟩) hHeld ?rest4
              case hy4 => (intro w hSw; (try dsimp only at hSw); clear hSw; go_simp; try with_reducible rfl)
              try simp only [Act.put, List.setIfInBounds_toArray, List.set_cons_zero, List.set_cons_succ, List.getElem_toArray, List.getElem_cons_zero, List.getElem_cons_succ]
              refine wpAnyH_take (i := 5) (v := .string (strOfNums C)) rfl (by kernel_rfl) (by kernel_rfl) (by kernel_rfl) (fun _ _ _ h => h) (Or.inl ⟨by rfl, ?hy5⟩) hHeld ?rest5
              case hy5 => (intro w hSw; have hS1 := conv_str hSw 64 64 C64.out.1; clear hSw; go_simp; try with_reducible rfl)
              try simp only [Act.put, List.setIfInBounds_toArray, List.set_cons_zero, List.set_cons_succ, List.getElem_toArray, List.getElem_cons_zero, List.getElem_cons_succ]
              have B8 : Hid (Below w7.heap.size w7 (w7.alloc (.cells #[.string (strOfNums C)] 9)).drew) := (below1 w7 _).drew
              have RW8 : Hid (RowT (w7.alloc (.cells #[.string (strOfNums C)] 9)).drew (w.heap.size + 4) v (s.W (k : Int))) := RW7.out.keep B8.out
              have V8 : Hid (((w7.alloc (.cells #[.string (strOfNums C)] 9)).drew).heap[w.heap.size + 3]? = some (.cells sl.toArray 47)) := (B8.out.block _ (lt_of_heap V7.out)).trans V7.out
              have ck7 : w7.drew.cell? ⟨w.heap.size + 1 + 1 + 1, k, none⟩ = some v := (cell_of_row w7 (w.heap.size + 3) k _ _ (0, 0) V7.out).trans (by rw [List.getElem?_toArray]; exact HV.out)
              have ck8 : ((w7.alloc (.cells #[.string (strOfNums C)] 9)).drew).cell? ⟨w.heap.size + 1 + 1 + 1, k, none⟩ = some v := (cell_of_row _ (w.heap.size + 3) k _ _ (0, 0) V8.out).trans (by rw [List.getElem?_toArray]; exact HV.out)
              have H8 : Hid (Holds (w7.alloc (.cells #[.string (strOfNums C)] 9)).drew (some ⟨g5, 0, none⟩) C) := Holds.below H7.out B8.out (fun x hx _ => by cases hx; have := LT5.out; have := ZW.out.2; show g5 < _; omega)
              have N8 : Hid (((w7.alloc (.cells #[.string (strOfNums C)] 9)).drew).cell? ⟨w7.heap.size, 0, none⟩ = some (sT C)) := by
                show (w7.alloc (.cells #[.string (strOfNums C)] 9)).cell? _ = _
                rw [cell_of_row _ w7.heap.size 0 _ _ (0, 0) (heap_alloc_new w7 _)]
                rfl
              refine wpAnyH_ready (rs := [3, 6]) (by kernel_rfl) (by simp) ?_
              refine AllReadyH.cons rfl (fun K hK => ?_) (AllReadyH.cons rfl (fun K hK => ?_) AllReadyH.nil)
              · go_simp
                refine hK.out _ _ ?hS3a (fun hHeld => ?rest3a)
                case hS3a => exact H7.out
                clear hK K
                try simp only [Act.put, List.setIfInBounds_toArray, List.set_cons_zero, List.set_cons_succ, List.getElem_toArray, List.getElem_cons_zero, List.getElem_cons_succ]
                refine wpAnyH_ready (rs := [6]) (by kernel_rfl) (by simp) ?_
                refine AllReadyH.cons rfl (fun K hK => ?_) AllReadyH.nil
                go_simp
                refine hK.out _ _ ?hS6a (fun hHeld => ?rest6a)
                case hS6a => exact H8.out
                clear hK K
                try simp only [Act.put, List.setIfInBounds_toArray, List.set_cons_zero, List.set_cons_succ, List.getElem_toArray, List.getElem_cons_zero, List.getElem_cons_succ]
                refine wpAnyH_ready (rs := [7]) (by kernel_rfl) (by simp) ?_
                refine AllReadyH.cons rfl (fun K hK => ?_) AllReadyH.nil
                refine wp_textT (.tmp 90) (.tmp 93) rfl (w.heap.size + 4) v (s.W (k : Int)) rfl RW8.out w7.heap.size 1 C rfl N8.out W9.out (by have := ZW.out.1; have := B8.out.size; omega) ?_
                intro g' c' w9 o9 hg9 hat
                have O9 : Hid (RowT w9 (w.heap.size + 4) (.slice (some ⟨g', 0, none⟩) ((s.W (k : Int)).length + 1) c') (s.W (k : Int) ++ [C])) := o9
                have G9 : Hid ((w7.alloc (.cells #[.string (strOfNums C)] 9)).drew.grownBy w9 v.ownBlock ∧ (v.ownBlock = some g' ∨ g' = (w7.alloc (.cells #[.string (strOfNums C)] 9)).drew.heap.size)) := ⟨hg9, hat⟩
                have V9 : Hid (w9.heap[w.heap.size + 3]? = some (.cells sl.toArray 47)) := (hg9.block _ (lt_of_heap V8.out) (fun e => by have := (RW8.out.own _ e.symm).1; omega)).trans V8.out
                have H9 : Hid (Holds w9 (some ⟨g5, 0, none⟩) C) := by
                  rcases H8.out with h0 | ⟨gg, off, eg, hc⟩
                  · exact .inl h0
                  · refine .inr ⟨gg, off, eg, fun x hx => ?_⟩
                    have := hc x hx
                    refine (World.cell?_of_block (a := ⟨gg, off + x, none⟩) (hg9.block gg (World.block_lt_of_cell? _ _ this) (fun e => ?_))).trans this
                    obtain ⟨cs, hcs⟩ := RW8.out.at gg e.symm
                    have h5 := hc 0 (by rw [C64.out.1]; omega)
                    simp only [World.cell?, hcs] at h5
                    cases eg
                    obtain ⟨cs6, hcs6⟩ : ∃ cs, w6.heap[g5]? = some (.cells cs 5) := by
                      rcases O6.out.2 with ⟨e1, _⟩ | ⟨gz, cap, cur, e1, _, hgz, _⟩
                      · cases e1
                      · have e2 : some g5 = some gz := congrArg Value.ownBlock e1
                        obtain rfl := Option.some.inj e2
                        exact ⟨cur, hgz⟩
                    have : ((w7.alloc (.cells #[.string (strOfNums C)] 9)).drew).heap[g5]? = w6.heap[g5]? := (B8.out.block _ (by have := LT5.out; have := ZW.out.2; omega)).trans (G3.out.block _ (by have := LT5.out; omega) (by have := LT5.out; have := lt_of_heap BG.out.now; simp; omega))
                    rw [hcs, hcs6] at this
                    simp at this
                clear o9 hg9 hat
                refine hK.out _ _ ?hS7a (fun hHeld => ?rest7a)
                case hS7a => exact H9.out
                clear hK K
                try simp only [Act.put, List.setIfInBounds_toArray, List.set_cons_zero, List.set_cons_succ, List.getElem_toArray, List.getElem_cons_zero, List.getElem_cons_succ]
                refine wpAnyH_take (i := 8) (v := .pointer (some ⟨w.heap.size + 1 + 1 + 1, k, none⟩)) rfl (by kernel_rfl) (by kernel_rfl) (by kernel_rfl) (fun _ _ _ h => h) (Or.inl ⟨by rfl, ?hy8a⟩) hHeld ?rest8a
                case hy8a => (intro w hSw; (try dsimp only at hSw); clear hSw; go_simp; intro hh; have := NK.out; omega)
                try simp only [Act.put, List.setIfInBounds_toArray, List.set_cons_zero, List.set_cons_succ, List.getElem_toArray, List.getElem_cons_zero, List.getElem_cons_succ]
                refine wpAnyH_ready (rs := [9]) (by kernel_rfl) (by simp) ?_
                refine AllReadyH.cons rfl (fun K hK => ?_) AllReadyH.nil
                have c9 : (w9.cell? ⟨w.heap.size + 3, k, none⟩).isSome = true := by rw [cell_of_row w9 _ k _ _ (0, 0) V9.out, List.getElem?_toArray, HV.out]; rfl
                refine wp_store_val 46 (.tmp 95) (.tmp 94) rfl (w.heap.size + 3) k (.slice (some ⟨g', 0, none⟩) ((s.W (k : Int)).length + 1) c') rfl rfl rfl rfl c9 (frozen_not V9.out k) (by kernel_rfl) ?_
                have BGN : Hid (Bg w (w9.setCell ⟨w.heap.size + 3, k, none⟩ (.slice (some ⟨g', 0, none⟩) ((s.W (k : Int)).length + 1) c')) F' b (i + 1) Bn (s.wr (k : Int) C).2 (sl.set k (.slice (some ⟨g', 0, none⟩) ((s.W (k : Int)).length + 1) c'))) := BG.out.wrote B15.out k hk8 C C64.out.1 HD.out.1 HD.out.2 (by rw [HW7.out]; exact B8.out.mono (by have := ZW.out.2; omega)) v HV.out g' c' O9.out G9.out.1 G9.out.2
                have H10 : Hid (Holds (w9.setCell ⟨w.heap.size + 3, k, none⟩ (.slice (some ⟨g', 0, none⟩) ((s.W (k : Int)).length + 1) c')) (some ⟨g5, 0, none⟩) C) := by
                  rcases H9.out with h0 | ⟨gg, off, eg, hc⟩
                  · exact .inl h0
                  · refine .inr ⟨gg, off, eg, fun x hx => ?_⟩
                    have := hc x hx
                    cases eg
                    exact (World.cell?_of_block (a := ⟨g5, 0 + x, none⟩) ((grown_set w9 (w.heap.size + 3) k _).block g5 (World.block_lt_of_cell? _ _ this) (by have := HB3.out.2; simpa using this))).trans this
                clear c9
                refine hK.out _ _ ?hS9a (fun hHeld => ?rest9a)
                case hS9a => exact H10.out
                clear hK K
                try simp only [Act.put, List.setIfInBounds_toArray, List.set_cons_zero, List.set_cons_succ, List.getElem_toArray, List.getElem_cons_zero, List.getElem_cons_succ]
                refine wpAnyH_done (by kernel_rfl) ?_ _
                refine NoPanic.normal ?_
                clear H10 H9 V9 G9 O9 ck7 ck8 BG
                go_wp2_with fail
                go_roundg (60 - (i + 1))
                case measure => omega
                case rel => exact ⟨i + 1, F', _, _, by omega, rfl, by simp, BGN⟩
              · go_simp
                refine hK.out _ _ ?hS6b (fun hHeld => ?rest6b)
                case hS6b => exact H8.out
                clear hK K
                try simp only [Act.put, List.setIfInBounds_toArray, List.set_cons_zero, List.set_cons_succ, List.getElem_toArray, List.getElem_cons_zero, List.getElem_cons_succ]
                refine wpAnyH_ready (rs := [3]) (by kernel_rfl) (by simp) ?_
                refine AllReadyH.cons rfl (fun K hK => ?_) AllReadyH.nil
                go_simp
                refine hK.out _ _ ?hS3b (fun hHeld => ?rest3b)
                case hS3b => exact H8.out
                clear hK K
                try simp only [Act.put, List.setIfInBounds_toArray, List.set_cons_zero, List.set_cons_succ, List.getElem_toArray, List.getElem_cons_zero, List.getElem_cons_succ]
                refine wpAnyH_ready (rs := [7]) (by kernel_rfl) (by simp) ?_
                refine AllReadyH.cons rfl (fun K hK => ?_) AllReadyH.nil
                refine wp_textT (.tmp 90) (.tmp 93) rfl (w.heap.size + 4) v (s.W (k : Int)) rfl RW8.out w7.heap.size 1 C rfl N8.out W9.out (by have := ZW.out.1; have := B8.out.size; omega) ?_
                intro g' c' w9 o9 hg9 hat
                have O9 : Hid (RowT w9 (w.heap.size + 4) (.slice (some ⟨g', 0, none⟩) ((s.W (k : Int)).length + 1) c') (s.W (k : Int) ++ [C])) := o9
                have G9 : Hid ((w7.alloc (.cells #[.string (strOfNums C)] 9)).drew.grownBy w9 v.ownBlock ∧ (v.ownBlock = some g' ∨ g' = (w7.alloc (.cells #[.string (strOfNums C)] 9)).drew.heap.size)) := ⟨hg9, hat⟩
                have V9 : Hid (w9.heap[w.heap.size + 3]? = some (.cells sl.toArray 47)) := (hg9.block _ (lt_of_heap V8.out) (fun e => by have := (RW8.out.own _ e.symm).1; omega)).trans V8.out
                have H9 : Hid (Holds w9 (some ⟨g5, 0, none⟩) C) := by
                  rcases H8.out with h0 | ⟨gg, off, eg, hc⟩
                  · exact .inl h0
                  · refine .inr ⟨gg, off, eg, fun x hx => ?_⟩
                    have := hc x hx
                    refine (World.cell?_of_block (a := ⟨gg, off + x, none⟩) (hg9.block gg (World.block_lt_of_cell? _ _ this) (fun e => ?_))).trans this
                    obtain ⟨cs, hcs⟩ := RW8.out.at gg e.symm
                    have h5 := hc 0 (by rw [C64.out.1]; omega)
                    simp only [World.cell?, hcs] at h5
                    cases eg
                    obtain ⟨cs6, hcs6⟩ : ∃ cs, w6.heap[g5]? = some (.cells cs 5) := by
                      rcases O6.out.2 with ⟨e1, _⟩ | ⟨gz, cap, cur, e1, _, hgz, _⟩
                      · cases e1
                      · have e2 : some g5 = some gz := congrArg Value.ownBlock e1
                        obtain rfl := Option.some.inj e2
                        exact ⟨cur, hgz⟩
                    have : ((w7.alloc (.cells #[.string (strOfNums C)] 9)).drew).heap[g5]? = w6.heap[g5]? := (B8.out.block _ (by have := LT5.out; have := ZW.out.2; omega)).trans (G3.out.block _ (by have := LT5.out; omega) (by have := LT5.out; have := lt_of_heap BG.out.now; simp; omega))
                    rw [hcs, hcs6] at this
                    simp at this
                clear o9 hg9 hat
                refine hK.out _ _ ?hS7b (fun hHeld => ?rest7b)
                case hS7b => exact H9.out
                clear hK K
                try simp only [Act.put, List.setIfInBounds_toArray, List.set_cons_zero, List.set_cons_succ, List.getElem_toArray, List.getElem_cons_zero, List.getElem_cons_succ]
                refine wpAnyH_take (i := 8) (v := .pointer (some ⟨w.heap.size + 1 + 1 + 1, k, none⟩)) rfl (by kernel_rfl) (by kernel_rfl) (by kernel_rfl) (fun _ _ _ h => h) (Or.inl ⟨by rfl, ?hy8b⟩) hHeld ?rest8b
                case hy8b => (intro w hSw; (try dsimp only at hSw); clear hSw; go_simp; intro hh; have := NK.out; omega)
                try simp only [Act.put, List.setIfInBounds_toArray, List.set_cons_zero, List.set_cons_succ, List.getElem_toArray, List.getElem_cons_zero, List.getElem_cons_succ]
                refine wpAnyH_ready (rs := [9]) (by kernel_rfl) (by simp) ?_
                refine AllReadyH.cons rfl (fun K hK => ?_) AllReadyH.nil
                have c9 : (w9.cell? ⟨w.heap.size + 3, k, none⟩).isSome = true := by rw [cell_of_row w9 _ k _ _ (0, 0) V9.out, List.getElem?_toArray, HV.out]; rfl
                refine wp_store_val 46 (.tmp 95) (.tmp 94) rfl (w.heap.size + 3) k (.slice (some ⟨g', 0, none⟩) ((s.W (k : Int)).length + 1) c') rfl rfl rfl rfl c9 (frozen_not V9.out k) (by kernel_rfl) ?_
                have BGN : Hid (Bg w (w9.setCell ⟨w.heap.size + 3, k, none⟩ (.slice (some ⟨g', 0, none⟩) ((s.W (k : Int)).length + 1) c')) F' b (i + 1) Bn (s.wr (k : Int) C).2 (sl.set k (.slice (some ⟨g', 0, none⟩) ((s.W (k : Int)).length + 1) c'))) := BG.out.wrote B15.out k hk8 C C64.out.1 HD.out.1 HD.out.2 (by rw [HW7.out]; exact B8.out.mono (by have := ZW.out.2; omega)) v HV.out g' c' O9.out G9.out.1 G9.out.2
                have H10 : Hid (Holds (w9.setCell ⟨w.heap.size + 3, k, none⟩ (.slice (some ⟨g', 0, none⟩) ((s.W (k : Int)).length + 1) c')) (some ⟨g5, 0, none⟩) C) := by
                  rcases H9.out with h0 | ⟨gg, off, eg, hc⟩
                  · exact .inl h0
                  · refine .inr ⟨gg, off, eg, fun x hx => ?_⟩
                    have := hc x hx
                    cases eg
                    exact (World.cell?_of_block (a := ⟨g5, 0 + x, none⟩) ((grown_set w9 (w.heap.size + 3) k _).block g5 (World.block_lt_of_cell? _ _ this) (by have := HB3.out.2; simpa using this))).trans this
                clear c9
                refine hK.out _ _ ?hS9b (fun hHeld => ?rest9b)
                case hS9b => exact H10.out
                clear hK K
                try simp only [Act.put, List.setIfInBounds_toArray, List.set_cons_zero, List.set_cons_succ, List.getElem_toArray, List.getElem_cons_zero, List.getElem_cons_succ]
                refine wpAnyH_done (by kernel_rfl) ?_ _
                refine NoPanic.normal ?_
                clear H10 H9 V9 G9 O9 ck7 ck8 BG
                go_wp2_with fail
                go_roundg (60 - (i + 1))
                case measure => omega
                case rel => exact ⟨i + 1, F', _, _, by omega, rfl, by simp, BGN⟩
        · rcases (by omega : ¬ i < len ∨ (i < len ∧ ¬ i < 60)) with h0 | ⟨h0, h1⟩
          · have e1 : decide ((i : Int) < (len : Int)) = false := by rw [decide_eq_false_iff_not]; omega
            clear hil
            obtain ⟨k3, h3, z3⟩ := BG.out.c3
            obtain ⟨k4, h4, z4⟩ := BG.out.c4
            have X3 : Hid (wr.heap[w.heap.size]? = some (.cells k3 45) ∧ k3.size = 8) := ⟨h3, z3⟩
            have X5 : Hid (wr.heap[w.heap.size + 1]? = some (.cells k4 47) ∧ k4.size = 8) := ⟨h4, z4⟩
            have SW : Hid (wr.heap[w.heap.size + 2]? = some (.cells (strs s.D) 45) ∧ wr.heap[w.heap.size + 3]? = some (.cells sl.toArray 47)) := ⟨BG.out.was, BG.out.sn⟩
            have Z8 : Hid ((strs s.D).size = 8 ∧ sl.toArray.size = 8) := ⟨by rw [strs_size]; exact BG.out.l8, by have := BG.out.svl; simpa using this⟩
            have A8 : Hid ((strs s.D).all (·.oneCell') = true ∧ sl.toArray.all (·.oneCell') = true) := by
              refine ⟨strs_one _, ?_⟩
              rw [Array.all_eq_true_iff_forall_mem]
              intro v hv
              obtain ⟨k, hk⟩ := List.mem_iff_getElem?.1 (show v ∈ sl by simpa using hv)
              rcases (BG.out.row k v hk).2 with ⟨e, _⟩ | ⟨g, c, cur, e, _⟩ <;> (rw [e]; rfl)
            obtain ⟨BE, x6, x7⟩ := BG.out.ended
            have SX : Hid (BegunSaid w (.returned (.tuple #[.pointer (some ⟨b, 0, none⟩), .agg (strs s.D), .agg sl.toArray, .bool true])) (((wr.drew).setRow w.heap.size (strs s.D)).setRow (w.heap.size + 1) sl.toArray)) := ⟨F, b, i, Bn, s, sl, rfl, BE, hi60⟩
            have X6 : Hid ((((wr.drew).setRow w.heap.size (strs s.D)).setRow (w.heap.size + 1) sl.toArray).heap[w.heap.size]? = some (.cells (strs s.D) 45) ∧ (((wr.drew).setRow w.heap.size (strs s.D)).setRow (w.heap.size + 1) sl.toArray).heap[w.heap.size + 1]? = some (.cells sl.toArray 47)) := ⟨x6, x7⟩
            clear BE x6 x7 h3 z3 h4 z4 BG
            generalize strs s.D = st at *
            generalize sl.toArray = sa at *
            go_wp2_with fail
            refine wp_region_noPanic ?_
            refine wp_region_held_drew (S := (fun Wd : World => Wd.heap[w.heap.size + 2]? = some (.cells st 45) ∧ Wd.heap[w.heap.size + 3]? = some (.cells sa 47))) (by kernel_rfl) ?hSax (fun hHeld => ?restax)
            case hSax => exact SW.out
            case restax =>
              refine wpAnyH_take (i := 0) (v := .pointer (some ⟨b, 0, none⟩)) rfl (by kernel_rfl) (by kernel_rfl) (by kernel_rfl) (fun _ _ _ h => h) (Or.inl ⟨by rfl, ?hy0x⟩) hHeld ?rest0x
              case hy0x => (intro w hSw; (try dsimp only at hSw); clear hSw; go_simp; try with_reducible rfl)
              try simp only [Act.put, List.setIfInBounds_toArray, List.set_cons_zero, List.set_cons_succ, List.getElem_toArray, List.getElem_cons_zero]
              refine wpAnyH_take (i := 1) (v := .agg st) rfl (by kernel_rfl) (by kernel_rfl) (by kernel_rfl) (fun _ _ _ h => h) (Or.inl ⟨by rfl, ?hy1x⟩) hHeld ?rest1x
              case hy1x => (intro w hSw; exact load_block _ _ _ _ (.tmp 6) rfl _ rfl _ _ _ _ _ hSw.1 Try.underlying45 (by rw [Z8.out.1]; exact size45))
              try simp only [Act.put, List.setIfInBounds_toArray, List.set_cons_zero, List.set_cons_succ, List.getElem_toArray, List.getElem_cons_zero, List.getElem_cons_succ]
              refine wpAnyH_take (i := 2) (v := .agg sa) rfl (by kernel_rfl) (by kernel_rfl) (by kernel_rfl) (fun _ _ _ h => h) (Or.inl ⟨by rfl, ?hy2x⟩) hHeld ?rest2x
              case hy2x => (intro w hSw; exact load_block _ _ _ _ (.tmp 7) rfl _ rfl _ _ _ _ _ hSw.2 Try.underlying47 (by rw [Z8.out.2]; exact size47))
              try simp only [Act.put, List.setIfInBounds_toArray, List.set_cons_zero, List.set_cons_succ, List.getElem_toArray, List.getElem_cons_zero, List.getElem_cons_succ]
              refine wpAnyH_take (i := 3) (v := .pointer (some ⟨b, 0, none⟩)) rfl (by kernel_rfl) (by kernel_rfl) (by kernel_rfl) (fun _ _ _ h => h) (Or.inl ⟨by rfl, ?hy3x⟩) hHeld ?rest3x
              case hy3x => (intro w hSw; (try dsimp only at hSw); clear hSw; go_simp; try with_reducible rfl)
              try simp only [Act.put, List.setIfInBounds_toArray, List.set_cons_zero, List.set_cons_succ, List.getElem_toArray, List.getElem_cons_zero, List.getElem_cons_succ]
              refine wpAnyH_ready (rs := [4]) (by kernel_rfl) (by simp) ?_
              refine AllReadyH.cons rfl (fun K hK => ?_) AllReadyH.nil
              refine wp_store_row 45 (.tmp 3) (.tmp 97) rfl w.heap.size st rfl rfl 45 k3 (show wr.drew.heap[w.heap.size]? = _ from X3.out.1) (by rw [Z8.out.1]; exact size45) (by rw [Z8.out.1]; exact X3.out.2) A8.out.1 ?_
              refine hK.out _ _ ?hS4x (fun hHeld => ?rest4x)
              case hS4x => exact ⟨(setRow_other _ _ _ _ (by omega)).trans SW.out.1, (setRow_other _ _ _ _ (by omega)).trans SW.out.2⟩
              clear hK K
              try simp only [Act.put, List.setIfInBounds_toArray, List.set_cons_zero, List.set_cons_succ, List.getElem_toArray, List.getElem_cons_zero, List.getElem_cons_succ]
              refine wpAnyH_ready (rs := [5]) (by kernel_rfl) (by simp) ?_
              refine AllReadyH.cons rfl (fun K hK => ?_) AllReadyH.nil
              refine wp_store_row 47 (.tmp 4) (.tmp 98) rfl (w.heap.size + 1) sa rfl rfl 47 k4 ((setRow_other _ _ _ _ (by omega)).trans (show wr.drew.heap[w.heap.size + 1]? = _ from X5.out.1)) (by rw [Z8.out.2]; exact size47) (by rw [Z8.out.2]; exact X5.out.2) A8.out.2 ?_
              refine hK.out _ _ ?hS5x (fun hHeld => ?rest5x)
              case hS5x => exact ⟨(setRow_other _ _ _ _ (by omega)).trans ((setRow_other _ _ _ _ (by omega)).trans SW.out.1), (setRow_other _ _ _ _ (by omega)).trans ((setRow_other _ _ _ _ (by omega)).trans SW.out.2)⟩
              clear hK K
              try simp only [Act.put, List.setIfInBounds_toArray, List.set_cons_zero, List.set_cons_succ, List.getElem_toArray, List.getElem_cons_zero, List.getElem_cons_succ]
              refine wpAnyH_take (i := 6) (v := .bool true) rfl (by kernel_rfl) (by kernel_rfl) (by kernel_rfl) (fun _ _ _ h => h) (Or.inl ⟨by rfl, ?hy6x⟩) hHeld ?rest6x
              case hy6x => (intro w hSw; (try dsimp only at hSw); clear hSw; go_simp; try with_reducible rfl)
              try simp only [Act.put, List.setIfInBounds_toArray, List.set_cons_zero, List.set_cons_succ, List.getElem_toArray, List.getElem_cons_zero, List.getElem_cons_succ]
              refine wpAnyH_done (by kernel_rfl) ?_ _
              refine NoPanic.normal ?_
              go_wp2_with fail
              refine bodyPost_ret (results_bg rfl _ _ w.heap.size (w.heap.size + 1) st sa Z8.out.1 Z8.out.2 _ _ rfl rfl rfl rfl X6.out.1 X6.out.2) rfl SX.out
          · have e1 : decide ((i : Int) < (len : Int)) = true := by rw [decide_eq_true_eq]; omega
            have e2 : decide ((i : Int) < 60) = false := by rw [decide_eq_false_iff_not]; omega
            clear hil
            obtain ⟨k3, h3, z3⟩ := BG.out.c3
            obtain ⟨k4, h4, z4⟩ := BG.out.c4
            have X3 : Hid (wr.heap[w.heap.size]? = some (.cells k3 45) ∧ k3.size = 8) := ⟨h3, z3⟩
            have X5 : Hid (wr.heap[w.heap.size + 1]? = some (.cells k4 47) ∧ k4.size = 8) := ⟨h4, z4⟩
            have SW : Hid (wr.heap[w.heap.size + 2]? = some (.cells (strs s.D) 45) ∧ wr.heap[w.heap.size + 3]? = some (.cells sl.toArray 47)) := ⟨BG.out.was, BG.out.sn⟩
            have Z8 : Hid ((strs s.D).size = 8 ∧ sl.toArray.size = 8) := ⟨by rw [strs_size]; exact BG.out.l8, by have := BG.out.svl; simpa using this⟩
            have A8 : Hid ((strs s.D).all (·.oneCell') = true ∧ sl.toArray.all (·.oneCell') = true) := by
              refine ⟨strs_one _, ?_⟩
              rw [Array.all_eq_true_iff_forall_mem]
              intro v hv
              obtain ⟨k, hk⟩ := List.mem_iff_getElem?.1 (show v ∈ sl by simpa using hv)
              rcases (BG.out.row k v hk).2 with ⟨e, _⟩ | ⟨g, c, cur, e, _⟩ <;> (rw [e]; rfl)
            obtain ⟨BE, x6, x7⟩ := BG.out.ended
            have SX : Hid (BegunSaid w (.returned (.tuple #[.pointer (some ⟨b, 0, none⟩), .agg (strs s.D), .agg sl.toArray, .bool true])) (((wr.drew).setRow w.heap.size (strs s.D)).setRow (w.heap.size + 1) sl.toArray)) := ⟨F, b, i, Bn, s, sl, rfl, BE, hi60⟩
            have X6 : Hid ((((wr.drew).setRow w.heap.size (strs s.D)).setRow (w.heap.size + 1) sl.toArray).heap[w.heap.size]? = some (.cells (strs s.D) 45) ∧ (((wr.drew).setRow w.heap.size (strs s.D)).setRow (w.heap.size + 1) sl.toArray).heap[w.heap.size + 1]? = some (.cells sl.toArray 47)) := ⟨x6, x7⟩
            clear BE x6 x7 h3 z3 h4 z4 BG
            generalize strs s.D = st at *
            generalize sl.toArray = sa at *
            go_wp2_with fail
            refine wp_region_noPanic ?_
            refine wp_region_held_drew (S := (fun Wd : World => Wd.heap[w.heap.size + 2]? = some (.cells st 45) ∧ Wd.heap[w.heap.size + 3]? = some (.cells sa 47))) (by kernel_rfl) ?hSay (fun hHeld => ?restay)
            case hSay => exact SW.out
            case restay =>
              refine wpAnyH_take (i := 0) (v := .pointer (some ⟨b, 0, none⟩)) rfl (by kernel_rfl) (by kernel_rfl) (by kernel_rfl) (fun _ _ _ h => h) (Or.inl ⟨by rfl, ?hy0y⟩) hHeld ?rest0y
              case hy0y => (intro w hSw; (try dsimp only at hSw); clear hSw; go_simp; try with_reducible rfl)
              try simp only [Act.put, List.setIfInBounds_toArray, List.set_cons_zero, List.set_cons_succ, List.getElem_toArray, List.getElem_cons_zero]
              refine wpAnyH_take (i := 1) (v := .agg st) rfl (by kernel_rfl) (by kernel_rfl) (by kernel_rfl) (fun _ _ _ h => h) (Or.inl ⟨by rfl, ?hy1y⟩) hHeld ?rest1y
              case hy1y => (intro w hSw; exact load_block _ _ _ _ (.tmp 6) rfl _ rfl _ _ _ _ _ hSw.1 Try.underlying45 (by rw [Z8.out.1]; exact size45))
              try simp only [Act.put, List.setIfInBounds_toArray, List.set_cons_zero, List.set_cons_succ, List.getElem_toArray, List.getElem_cons_zero, List.getElem_cons_succ]
              refine wpAnyH_take (i := 2) (v := .agg sa) rfl (by kernel_rfl) (by kernel_rfl) (by kernel_rfl) (fun _ _ _ h => h) (Or.inl ⟨by rfl, ?hy2y⟩) hHeld ?rest2y
              case hy2y => (intro w hSw; exact load_block _ _ _ _ (.tmp 7) rfl _ rfl _ _ _ _ _ hSw.2 Try.underlying47 (by rw [Z8.out.2]; exact size47))
              try simp only [Act.put, List.setIfInBounds_toArray, List.set_cons_zero, List.set_cons_succ, List.getElem_toArray, List.getElem_cons_zero, List.getElem_cons_succ]
              refine wpAnyH_take (i := 3) (v := .pointer (some ⟨b, 0, none⟩)) rfl (by kernel_rfl) (by kernel_rfl) (by kernel_rfl) (fun _ _ _ h => h) (Or.inl ⟨by rfl, ?hy3y⟩) hHeld ?rest3y
              case hy3y => (intro w hSw; (try dsimp only at hSw); clear hSw; go_simp; try with_reducible rfl)
              try simp only [Act.put, List.setIfInBounds_toArray, List.set_cons_zero, List.set_cons_succ, List.getElem_toArray, List.getElem_cons_zero, List.getElem_cons_succ]
              refine wpAnyH_ready (rs := [4]) (by kernel_rfl) (by simp) ?_
              refine AllReadyH.cons rfl (fun K hK => ?_) AllReadyH.nil
              refine wp_store_row 45 (.tmp 3) (.tmp 97) rfl w.heap.size st rfl rfl 45 k3 (show wr.drew.heap[w.heap.size]? = _ from X3.out.1) (by rw [Z8.out.1]; exact size45) (by rw [Z8.out.1]; exact X3.out.2) A8.out.1 ?_
              refine hK.out _ _ ?hS4y (fun hHeld => ?rest4y)
              case hS4y => exact ⟨(setRow_other _ _ _ _ (by omega)).trans SW.out.1, (setRow_other _ _ _ _ (by omega)).trans SW.out.2⟩
              clear hK K
              try simp only [Act.put, List.setIfInBounds_toArray, List.set_cons_zero, List.set_cons_succ, List.getElem_toArray, List.getElem_cons_zero, List.getElem_cons_succ]
              refine wpAnyH_ready (rs := [5]) (by kernel_rfl) (by simp) ?_
              refine AllReadyH.cons rfl (fun K hK => ?_) AllReadyH.nil
              refine wp_store_row 47 (.tmp 4) (.tmp 98) rfl (w.heap.size + 1) sa rfl rfl 47 k4 ((setRow_other _ _ _ _ (by omega)).trans (show wr.drew.heap[w.heap.size + 1]? = _ from X5.out.1)) (by rw [Z8.out.2]; exact size47) (by rw [Z8.out.2]; exact X5.out.2) A8.out.2 ?_
              refine hK.out _ _ ?hS5y (fun hHeld => ?rest5y)
              case hS5y => exact ⟨(setRow_other _ _ _ _ (by omega)).trans ((setRow_other _ _ _ _ (by omega)).trans SW.out.1), (setRow_other _ _ _ _ (by omega)).trans ((setRow_other _ _ _ _ (by omega)).trans SW.out.2)⟩
              clear hK K
              try simp only [Act.put, List.setIfInBounds_toArray, List.set_cons_zero, List.set_cons_succ, List.getElem_toArray, List.getElem_cons_zero, List.getElem_cons_succ]
              refine wpAnyH_take (i := 6) (v := .bool true) rfl (by kernel_rfl) (by kernel_rfl) (by kernel_rfl) (fun _ _ _ h => h) (Or.inl ⟨by rfl, ?hy6y⟩) hHeld ?rest6y
              case hy6y => (intro w hSw; (try dsimp only at hSw); clear hSw; go_simp; try with_reducible rfl)
              try simp only [Act.put, List.setIfInBounds_toArray, List.set_cons_zero, List.set_cons_succ, List.getElem_toArray, List.getElem_cons_zero, List.getElem_cons_succ]
              refine wpAnyH_done (by kernel_rfl) ?_ _
              refine NoPanic.normal ?_
              go_wp2_with fail
              refine bodyPost_ret (results_bg rfl _ _ w.heap.size (w.heap.size + 1) st sa Z8.out.1 Z8.out.2 _ _ rfl rfl rfl rfl X6.out.1 X6.out.2) rfl SX.out
end Go.Proofs.Ytibgfjnddhfgpaa
