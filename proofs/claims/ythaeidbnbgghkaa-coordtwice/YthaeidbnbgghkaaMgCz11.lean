/- coord: voted (gen_cov15.py). coord: what New did not make (gen_cox.py). coord: Sure, Quit (gen_coy.py). -/
import Derived.Test.YthaeidbnbgghkaaMgCz10
namespace Go.Proofs.Ythaeidbnbgghkaa
open Go.ChangeShapes Go.WideShapes Go.ChangeAt Go.RowKit Go.Deep Go.Maps
set_option linter.unusedVariables false
set_option linter.unusedSimpArgs false
theorem TrAt.head {w u : World} {F : Nat → Prop} {y : Nat × Option Nat} {q : Int} {x : Tr} (h : TrAt w F y q x) (st age : Int) (hs : w.heap.size ≤ u.heap.size) (hb : ∀ k, k ≠ y.1 → u.heap[k]? = w.heap[k]?) (hh : ∀ vr vl, w.heap[y.1]? = some (.cells #[.int .i64 q, .int .i64 x.st, .int .i64 x.age, vr, vl] 75) → u.heap[y.1]? = some (.cells #[.int .i64 q, .int .i64 st, .int .i64 age, vr, vl] 75)) : TrAt u F y q ⟨st, age, x.rts, x.lk⟩ := by
  obtain ⟨vr, vl, P, k1, k2, k3, k4, k5, k6, k7, k8, k9, k10⟩ := h
  have hn : ∀ k cs t, w.heap[k]? = some (Obj.cells cs t) → t ≠ 75 → u.heap[k]? = w.heap[k]? := fun k cs t hc n1 => hb k (fun e => by
    rw [e, k1] at hc
    cases hc
    exact n1 rfl)
  refine ⟨vr, vl, P, hh vr vl k1, k2, k3.kept (fun k hk => ?_), k4.kept (fun k hk => ?_), fun p hp => (k5 p hp).keptF hs (fun k hk => ?_), k6, k7, k8, k9, k10⟩
  · obtain ⟨cs, hc⟩ := ownZ_typ k3 hk
    exact hn k _ _ hc (by decide)
  · obtain ⟨cs, hc⟩ := ownPv_typ k4 hk
    exact hn k _ _ hc (by decide)
  · obtain ⟨_, _, cs, t, hc, ht⟩ := (k5 p hp).typ k hk
    exact hn k _ _ hc (by rcases ht with rfl | rfl <;> decide)
theorem set1_blk {w : World} {g : Nat} {a b c d e v : Value} {t : TypeId} (h : w.heap[g]? = some (.cells #[a, b, c, d, e] t)) : (w.setCell ⟨g, 1, none⟩ v).heap[g]? = some (.cells #[a, v, c, d, e] t) := by
  rw [setCell_blk (i := 1) v h]; simp
theorem set2_blk {w : World} {g : Nat} {a b c d e v : Value} {t : TypeId} (h : w.heap[g]? = some (.cells #[a, b, c, d, e] t)) : (w.setCell ⟨g, 2, none⟩ v).heap[g]? = some (.cells #[a, b, v, d, e] t) := by
  rw [setCell_blk (i := 2) v h]; simp
/-- a store of a state -/
theorem Cd.setSt {w : World} {F : Nat → Prop} {b : Nat} {lim : Int} {n m : Nat} {B : Int → Option (Nat × Option Nat)} {X : Int → Option Tr} (h : Cd w F b lim n m B X) {q : Int} {y : Nat × Option Nat} (hy : B q = some y) {x : Tr} (hx : X q = some x) (s : Int) : Cd (w.setCell ⟨y.1, 1, none⟩ (.int .i64 s)) F b lim n m (updB B q y) (updX X q ⟨s, x.age, x.rts, x.lk⟩) ∧ Stp F F w (w.setCell ⟨y.1, 1, none⟩ (.int .i64 s)) := by
  obtain ⟨x0, hx0, ht⟩ := h.at hy
  rw [hx] at hx0
  cases hx0
  have hs : (w.setCell ⟨y.1, 1, none⟩ (.int .i64 s)).heap.size = w.heap.size := by simp [World.setCell]
  exact h.turnO (u := w.setCell ⟨y.1, 1, none⟩ (.int .i64 s)) hy ⟨rfl, rfl, rfl, Nat.le_of_eq hs.symm, fun k hk hn => set_off w y.1 1 k _ (fun e => hn (.inl e))⟩ (ht.head s x.age (Nat.le_of_eq hs.symm) (fun k hk => set_off w y.1 1 k _ hk) (fun vr vl e => set1_blk e))
theorem Cd.setAge {w : World} {F : Nat → Prop} {b : Nat} {lim : Int} {n m : Nat} {B : Int → Option (Nat × Option Nat)} {X : Int → Option Tr} (h : Cd w F b lim n m B X) {q : Int} {y : Nat × Option Nat} (hy : B q = some y) {x : Tr} (hx : X q = some x) (s : Int) : Cd (w.setCell ⟨y.1, 2, none⟩ (.int .i64 s)) F b lim n m (updB B q y) (updX X q ⟨x.st, s, x.rts, x.lk⟩) ∧ Stp F F w (w.setCell ⟨y.1, 2, none⟩ (.int .i64 s)) := by
  obtain ⟨x0, hx0, ht⟩ := h.at hy
  rw [hx] at hx0
  cases hx0
  have hs : (w.setCell ⟨y.1, 2, none⟩ (.int .i64 s)).heap.size = w.heap.size := by simp [World.setCell]
  exact h.turnO (u := w.setCell ⟨y.1, 2, none⟩ (.int .i64 s)) hy ⟨rfl, rfl, rfl, Nat.le_of_eq hs.symm, fun k hk hn => set_off w y.1 2 k _ (fun e => hn (.inl e))⟩ (ht.head x.st s (Nat.le_of_eq hs.symm) (fun k hk => set_off w y.1 2 k _ hk) (fun vr vl e => set2_blk e))
theorem updX_upd (X : Int → Option Tr) (q : Int) (x x' : Tr) : updX (updX X q x) q x' = updX X q x' := by
  funext p
  unfold updX
  by_cases h : p = q <;> simp [h]
set_option maxRecDepth 100000 in
set_option maxHeartbeats 8000000 in
theorem voted_yes (w : World) (F : Nat → Prop) (b : Nat) (lim : Int) (n m : Nat) (B : Int → Option (Nat × Option Nat)) (X : Int → Option Tr) (h : Cd w F b lim n m B X) (q : Int) (x : Tr) (hx : X q = some x) (y : Nat × Option Nat) (hy : B q = some y) (hnd : (x.lk.map Prod.fst).Nodup) (hN : x.lk.length ≤ 1000) (r : Int) :
    Calls Try.prog 37 #[.pointer (some ⟨b, 0, none⟩), .pointer (some ⟨y.1, 0, none⟩), .int .i64 r, .bool true] w fun e w' => e = .returned (sd (.slice none 0 0) (if wo15 x.lk r = [] then q else 0) 0 0) ∧ Co w' F b lim n m (updX X q ⟨if wo15 x.lk r = [] then 2 else x.st, x.age, x.rts, wo15 x.lk r⟩) ∧ Stp F F w w' := by
  obtain ⟨x0, hx0, ht⟩ := h.at hy
  rw [hx] at hx0
  cases hx0
  have HQ : Hid (InI q) := (h.each q x hx).1
  obtain ⟨W0, hW0⟩ : ∃ W0, W0 = w.alloc (.cells #[.slice none 0 0, .int .i64 0, .int .i64 0, .int .i64 0] 46) := ⟨_, rfl⟩
  have HW0 : Hid (w.alloc (.cells #[.slice none 0 0, .int .i64 0, .int .i64 0, .int .i64 0] 46) = W0) := hW0.symm
  have b0 : Below w.heap.size w W0 := by rw [hW0]; exact below1 w _
  have HFS : Hid (¬ F w.heap.size) := fun e => absurd (h.lt _ e) (Nat.lt_irrefl _)
  have KH : Hid (Calls Try.prog 50 #[.pointer (some ⟨y.1, 0, none⟩), .int .i64 r] W0 fun e w' => e = .returned (.bool (decide (wo15 x.lk r = []))) ∧ Cd w' F b lim n m (updB B q y) (updX X q ⟨x.st, x.age, x.rts, wo15 x.lk r⟩) ∧ Stp F F w w' ∧ w'.heap[w.heap.size]? = some (.cells #[.slice none 0 0, .int .i64 0, .int .i64 0, .int .i64 0] 46)) := by
    refine (hasAll_is W0 F y q x (ht.kept b0.size (fun k hk => b0.block k (h.lt k hk))) hnd hN r).mono ?_
    rintro e w' ⟨rfl, h1, h2⟩
    obtain ⟨k1, k2⟩ := (h.keep b0).turnO hy h2 h1
    exact ⟨rfl, k1, (Stp.below b0).trans k2, (h2.block w.heap.size (by rw [hW0]; simp) (by
      have hFy : ∀ k, (k = y.1 ∨ y.2 = some k) → F k := fun k hk => by
        obtain ⟨_, _, _, _, _, _, _, _, _, h7, _, h9, _⟩ := ht
        rcases hk with rfl | hk
        · exact h7
        · exact h9 k hk
      exact fun hd => absurd (h.lt _ (hFy _ hd)) (Nat.lt_irrefl _))).trans (by rw [hW0]; exact heap_alloc_new w _)⟩
  unfold sd
  by_cases he : wo15 x.lk r = []
  · rw [if_pos he, if_pos he]
    have KH : Hid (Calls Try.prog 50 #[.pointer (some ⟨y.1, 0, none⟩), .int .i64 r] W0 fun e w' => e = .returned (.bool (true)) ∧ Cd w' F b lim n m (updB B q y) (updX X q ⟨x.st, x.age, x.rts, wo15 x.lk r⟩) ∧ Stp F F w w' ∧ w'.heap[w.heap.size]? = some (.cells #[.slice none 0 0, .int .i64 0, .int .i64 0, .int .i64 0] 46)) := by have := KH.out; rw [decide_eq_true he] at this; exact this
    obtain ⟨y1, y2⟩ := y
    simp only at KH ⊢
    clear h hx hy hnd hN ht he b0 hW0
    go_enter Try.func37, Try.ntmps37
    go_wp2_with fail
    rw [HW0.out]
    refine KH.out.mono ?_
    rintro e w1 ⟨rfl, h1, s1, r1⟩
    obtain ⟨x1, _, ht1⟩ := h1.at (updB_at B q (y1, y2))
    obtain ⟨_, _, _, _, _, hb, _⟩ := ht1.open
    obtain ⟨t0, t1, _, _, _⟩ := tr_cells hb
    have z1 := frozen_blk hb 1
    have hne : y1 ≠ w.heap.size := fun e => HFS.out (by
      obtain ⟨_, _, _, _, _, _, _, _, _, h7, _⟩ := ht1
      exact e ▸ h7)
    have R1 : Hid (w1.heap[w.heap.size]? = some (.cells #[.slice none 0 0, .int .i64 0, .int .i64 0, .int .i64 0] 46) ∧ y1 ≠ w.heap.size) := ⟨r1, hne⟩
    simp only at t0 t1
    have T5 : Hid ((w1.setCell ⟨y1, 1, none⟩ (.int .i64 2)).cell? ⟨y1, 0, none⟩ = some (.int .i64 q)) := (tr_cells (set1_blk hb)).1
    obtain ⟨d1, d2⟩ := h1.setSt (updB_at B q (y1, y2)) (updX_at X q _) 2
    rw [updX_upd] at d1
    simp only at d1 d2
    have r2 : (w1.setCell ⟨y1, 1, none⟩ (.int .i64 2)).heap[w.heap.size]? = some (.cells #[.slice none 0 0, .int .i64 0, .int .i64 0, .int .i64 0] 46) := (set_off w1 y1 1 _ _ hne.symm).trans r1
    have H2 : Hid (Co (w1.setCell ⟨y1, 1, none⟩ (.int .i64 2)) F b lim n m (updX X q ⟨2, x.age, x.rts, wo15 x.lk r⟩) ∧ Stp F F w (w1.setCell ⟨y1, 1, none⟩ (.int .i64 2)) ∧ (w1.setCell ⟨y1, 1, none⟩ (.int .i64 2)).heap[w.heap.size]? = some (.cells #[.slice none 0 0, .int .i64 0, .int .i64 0, .int .i64 0] 46)) := ⟨⟨_, d1⟩, s1.trans d2, r2⟩
    obtain ⟨r0, r1', r2', r3⟩ := cells4 r2
    have f0 := frozen_blk r2 0
    have f1 := frozen_blk r2 1
    have f2 := frozen_blk r2 2
    have f3 := frozen_blk r2 3
    clear h1 s1 KH d1 d2 r1 r2 hb ht1 hne
    go_wp2_with fail
    obtain ⟨e1, e2⟩ := chain4 (a' := .slice none 0 0) (b' := .int .i64 q) (c' := .int .i64 0) (d' := .int .i64 0) H2.out.2.2
    exact bodyPost_ret (results_cell_row Try.results37 _ _ w.heap.size 46 _ (0, 0) _ rfl e1 Try.underlying46 rfl sizeSd) rfl ⟨rfl, H2.out.1.beside e2 HFS.out, H2.out.2.1.beside e2 (Nat.le_refl _)⟩
  · rw [if_neg he, if_neg he]
    have KH : Hid (Calls Try.prog 50 #[.pointer (some ⟨y.1, 0, none⟩), .int .i64 r] W0 fun e w' => e = .returned (.bool (false)) ∧ Cd w' F b lim n m (updB B q y) (updX X q ⟨x.st, x.age, x.rts, wo15 x.lk r⟩) ∧ Stp F F w w' ∧ w'.heap[w.heap.size]? = some (.cells #[.slice none 0 0, .int .i64 0, .int .i64 0, .int .i64 0] 46)) := by have := KH.out; rw [decide_eq_false he] at this; exact this
    obtain ⟨y1, y2⟩ := y
    simp only at KH ⊢
    clear h hx hy hnd hN ht he b0 hW0
    go_enter Try.func37, Try.ntmps37
    go_wp2_with fail
    rw [HW0.out]
    refine KH.out.mono ?_
    rintro e w1 ⟨rfl, h1, s1, r1⟩
    have H1 : Hid ((Co w1 F b lim n m (updX X q ⟨x.st, x.age, x.rts, wo15 x.lk r⟩)) ∧ Stp F F w w1 ∧ w1.heap[w.heap.size]? = some (.cells #[.slice none 0 0, .int .i64 0, .int .i64 0, .int .i64 0] 46)) := ⟨⟨_, h1⟩, s1, r1⟩
    clear h1 s1 KH
    obtain ⟨r0, r1', r2, r3⟩ := cells4 r1
    have f0 := frozen_blk r1 0
    have f1 := frozen_blk r1 1
    have f2 := frozen_blk r1 2
    have f3 := frozen_blk r1 3
    clear r1
    go_wp2_with fail
    obtain ⟨e1, e2⟩ := chain4 (a' := .slice none 0 0) (b' := .int .i64 0) (c' := .int .i64 0) (d' := .int .i64 0) H1.out.2.2
    exact bodyPost_ret (results_cell_row Try.results37 _ _ w.heap.size 46 _ (0, 0) _ rfl e1 Try.underlying46 rfl sizeSd) rfl ⟨rfl, H1.out.1.beside e2 HFS.out, H1.out.2.1.beside e2 (Nat.le_refl _)⟩
theorem Ltr.beside {z : Nat} {w u : World} {V : Value} {k x : Int} {Q : List Pv} (h : Ltr z w V k x Q) {g : Nat} (hg : w.grownBy u (some g)) (hz : g < z) : Ltr z u V k x Q := by
  have hb : ∀ j, z ≤ j → j < w.heap.size → u.heap[j]? = w.heap[j]? := fun j h1 h2 => hg.block j h2 (fun e => by cases e; exact absurd h1 (Nat.not_le.2 hz))
  refine ⟨h.own.kept (fun j hj => hb j (h.own.own j hj).1 (h.own.own j hj).2), fun p hp => (h.each p hp).keptF hg.size (fun j hj => ?_)⟩
  obtain ⟨t1, t2, _⟩ := (h.each p hp).typ j hj
  exact hb j t1 t2
theorem bare_filter (l : List Int) (r : Int) : (l.map bPv).filter (fun x => decide (x.r ≠ r)) = (l.filter fun z => decide (z ≠ r)).map bPv := by
  rw [List.filter_map]
  rfl
theorem bare_roots (l : List Int) : (l.map bPv).map Pv.r = l := by
  rw [List.map_map]
  exact List.map_id l
set_option maxRecDepth 100000 in
set_option maxHeartbeats 8000000 in
theorem voted_no (w : World) (F : Nat → Prop) (b : Nat) (lim : Int) (n m : Nat) (B : Int → Option (Nat × Option Nat)) (X : Int → Option Tr) (h : Cd w F b lim n m B X) (q : Int) (x : Tr) (hx : X q = some x) (y : Nat × Option Nat) (hy : B q = some y) (hnd : x.rts.Nodup) (hN : x.rts.length ≤ 1000) (r : Int) :
    Calls Try.prog 37 #[.pointer (some ⟨b, 0, none⟩), .pointer (some ⟨y.1, 0, none⟩), .int .i64 r, .bool false] w fun e w' => ∃ V Q, e = .returned (.agg #[V, .int .i64 0, .int .i64 0, .int .i64 q]) ∧ Ltr w.heap.size w' V 4 q Q ∧ Q.map (fun p => (p.r, p.co)) = (x.rts.filter fun z => decide (z ≠ r)).map (fun r => (r, ([] : List Pc))) ∧ Co w' F b lim n m (delX X q) ∧ Stp F F w w' := by
  obtain ⟨x0, hx0, ht⟩ := h.at hy
  rw [hx] at hx0
  cases hx0
  have HQ : Hid (InI q) := (h.each q x hx).1
  obtain ⟨W0, hW0⟩ : ∃ W0, W0 = w.alloc (.cells #[.slice none 0 0, .int .i64 0, .int .i64 0, .int .i64 0] 46) := ⟨_, rfl⟩
  have HW0 : Hid (w.alloc (.cells #[.slice none 0 0, .int .i64 0, .int .i64 0, .int .i64 0] 46) = W0) := hW0.symm
  have b0 : Below w.heap.size w W0 := by rw [hW0]; exact below1 w _
  have HFS : Hid (¬ F w.heap.size) := fun e => absurd (h.lt _ e) (Nat.lt_irrefl _)
  obtain ⟨y1, y2⟩ := y
  have HYN : Hid (y1 < w.heap.size) := h.lt y1 (by
    obtain ⟨_, _, _, _, _, _, _, _, _, h7, _⟩ := ht
    exact h7)
  have h0 := h.keep b0
  have ht0 := ht.kept b0.size (fun k hk => b0.block k (h.lt k hk))
  obtain ⟨ra, rc, la, lc, P, hb, _⟩ := ht0.open
  obtain ⟨t0, _, _, _, _⟩ := tr_cells hb
  simp only at t0
  have r00 : W0.heap[w.heap.size]? = some (.cells #[.slice none 0 0, .int .i64 0, .int .i64 0, .int .i64 0] 46) := by rw [hW0]; exact heap_alloc_new w _
  obtain ⟨w2, hdl, m2, g2⟩ := (show ScP W0.drew m n _ from h0.map).drop q HQ.out 0
  have hd := (show Cd W0.drew F b lim n m _ _ from h0.keep (Below.refl _ W0).drew).del g2 m2
  have ht2 := (ht0.kept (w' := W0.drew) (Nat.le_refl _) (fun k _ => rfl)).map (show ScP W0.drew m n _ from h0.map) (fun k hk => h0.lt k hk) g2
  obtain ⟨ra2, rc2, la2, lc2, P2, hb2, hz2, _⟩ := ht2.open
  obtain ⟨_, _, _, z3, _⟩ := tr_cells hb2
  simp only at z3
  have t02 : w2.cell? ⟨y1, 0, none⟩ = some (.int .i64 q) := by
    obtain ⟨z0, _, _, _, _⟩ := tr_cells hb2
    exact z0
  have r2 : w2.heap[w.heap.size]? = some (.cells #[.slice none 0 0, .int .i64 0, .int .i64 0, .int .i64 0] 46) := (g2.block w.heap.size (lt_of_heapK r00) (fun e => by cases e; exact h0.map.noCells r00)).trans r00
  have H2 : Hid (Co w2 F b lim n m (delX X q) ∧ Stp F F w w2 ∧ w2.cell? ⟨b, 1, none⟩ = some (.map (some m)) ∧ y1 < w2.heap.size) := ⟨⟨_, hd⟩, (Stp.below b0).trans ⟨((Off.refl F W0).andBelow (Below.refl _ W0).drew).grown g2 (fun k hk => by cases hk; exact .inl h.fm), fun k hk => .inl hk⟩, hd.box.cells.2, lt_of_heapK hb2⟩
  have HZ : Hid (w.heap.size + 1 ≤ w2.heap.size) := lt_of_heapK r2
  have HR : Hid (∀ u, Below w2.heap.size w2 u → InZ u ra2 x.rts) := fun u hu => hz2.keep hu
  have HRB : Hid (∀ u, Below w2.heap.size w2 u → u.heap[w.heap.size]? = some (.cells #[.slice none 0 0, .int .i64 0, .int .i64 0, .int .i64 0] 46)) := fun u hu => (hu.block w.heap.size (lt_of_heapK r2)).trans r2
  have HY : Hid (∀ u, Below w2.heap.size w2 u → u.cell? ⟨y1, 0, none⟩ = some (.int .i64 q) ∧ u.cell? ⟨y1, 3, none⟩ = some (.slice ra2 x.rts.length rc2)) := fun u hu => ⟨(hu.cell (p := ⟨y1, 0, none⟩) (lt_of_heapK hb2)).trans t02, (hu.cell (p := ⟨y1, 3, none⟩) (lt_of_heapK hb2)).trans z3⟩
  obtain ⟨c0, c1⟩ := h0.box.cells
  obtain ⟨nr, hnr⟩ : ∃ nr, nr = x.rts.length := ⟨_, rfl⟩
  have HL : Hid (x.rts.length = nr ∧ nr ≤ 1000 ∧ x.rts.Nodup) := ⟨hnr.symm, by omega, hnd⟩
  rw [← hnr] at HY z3
  clear h h0 ht ht0 hb hx hy hd ht2 hb2 hz2 m2 g2 t02 hN hnr z3 b0 r00 r2 hnd hW0
  go_enter Try.func37, Try.ntmps37
  go_wp2_with fail
  rw [HW0.out]
  go_wp2_with fail
  refine wp_region_noPanic ?_
  refine wp_region_held_drew (S := (fun W : World => W.cell? ⟨b, 1, none⟩ = some (.map (some m)) ∧ W.cell? ⟨y1, 0, none⟩ = some (.int .i64 q))) (by kernel_rfl) ?hSak (fun hHeld => ?restak)
  case hSak => exact ⟨c1, t0⟩
  case restak =>
    refine wpAnyH_take (i := 0) (v := .pointer (some ⟨b, 0, none⟩)) rfl (by kernel_rfl) (by kernel_rfl) (by kernel_rfl) (fun _ _ _ h => h) (Or.inl ⟨by kernel_rfl, ?hy0k⟩) hHeld ?rest0k
    case hy0k => (intro w' hSw; (try dsimp only at hSw); go_simp; try with_reducible rfl)
    try simp only [Act.put, List.setIfInBounds_toArray, List.set_cons_zero, List.set_cons_succ, List.getElem_toArray, List.getElem_cons_zero, List.getElem_cons_succ]
    refine wpAnyH_take (i := 1) (v := .pointer (some ⟨b, 0, none⟩)) rfl (by kernel_rfl) (by kernel_rfl) (by kernel_rfl) (fun _ _ _ h => h) (Or.inl ⟨by kernel_rfl, ?hy1k⟩) hHeld ?rest1k
    case hy1k => (intro w' hSw; (try dsimp only at hSw); go_simp; try with_reducible rfl)
    try simp only [Act.put, List.setIfInBounds_toArray, List.set_cons_zero, List.set_cons_succ, List.getElem_toArray, List.getElem_cons_zero, List.getElem_cons_succ]
    refine wpAnyH_take (i := 2) (v := .pointer (some ⟨b, 1, none⟩)) rfl (by kernel_rfl) (by kernel_rfl) (by kernel_rfl) (fun _ _ _ h => h) (Or.inl ⟨by kernel_rfl, ?hy2k⟩) hHeld ?rest2k
    case hy2k => (intro w' hSw; (try dsimp only at hSw); go_simp; try with_reducible rfl)
    try simp only [Act.put, List.setIfInBounds_toArray, List.set_cons_zero, List.set_cons_succ, List.getElem_toArray, List.getElem_cons_zero, List.getElem_cons_succ]
    refine wpAnyH_take (i := 3) (v := .map (some m)) rfl (by kernel_rfl) (by kernel_rfl) (by kernel_rfl) (fun _ _ _ h => h) (Or.inl ⟨by kernel_rfl, ?hy3k⟩) hHeld ?rest3k
    case hy3k => (intro w' hSw; (try dsimp only at hSw); obtain ⟨p1, p0⟩ := hSw; go_simp; try with_reducible rfl)
    try simp only [Act.put, List.setIfInBounds_toArray, List.set_cons_zero, List.set_cons_succ, List.getElem_toArray, List.getElem_cons_zero, List.getElem_cons_succ]
    refine wpAnyH_take (i := 4) (v := .pointer (some ⟨y1, 0, none⟩)) rfl (by kernel_rfl) (by kernel_rfl) (by kernel_rfl) (fun _ _ _ h => h) (Or.inl ⟨by kernel_rfl, ?hy4k⟩) hHeld ?rest4k
    case hy4k => (intro w' hSw; (try dsimp only at hSw); go_simp; try with_reducible rfl)
    try simp only [Act.put, List.setIfInBounds_toArray, List.set_cons_zero, List.set_cons_succ, List.getElem_toArray, List.getElem_cons_zero, List.getElem_cons_succ]
    refine wpAnyH_take (i := 5) (v := .pointer (some ⟨y1, 0, none⟩)) rfl (by kernel_rfl) (by kernel_rfl) (by kernel_rfl) (fun _ _ _ h => h) (Or.inl ⟨by kernel_rfl, ?hy5k⟩) hHeld ?rest5k
    case hy5k => (intro w' hSw; (try dsimp only at hSw); go_simp; try with_reducible rfl)
    try simp only [Act.put, List.setIfInBounds_toArray, List.set_cons_zero, List.set_cons_succ, List.getElem_toArray, List.getElem_cons_zero, List.getElem_cons_succ]
    refine wpAnyH_take (i := 6) (v := .pointer (some ⟨y1, 0, none⟩)) rfl (by kernel_rfl) (by kernel_rfl) (by kernel_rfl) (fun _ _ _ h => h) (Or.inl ⟨by kernel_rfl, ?hy6k⟩) hHeld ?rest6k
    case hy6k => (intro w' hSw; (try dsimp only at hSw); go_simp; try with_reducible rfl)
    try simp only [Act.put, List.setIfInBounds_toArray, List.set_cons_zero, List.set_cons_succ, List.getElem_toArray, List.getElem_cons_zero, List.getElem_cons_succ]
    refine wpAnyH_take (i := 7) (v := .int .i64 q) rfl (by kernel_rfl) (by kernel_rfl) (by kernel_rfl) (fun _ _ _ h => h) (Or.inl ⟨by kernel_rfl, ?hy7k⟩) hHeld ?rest7k
    case hy7k => (intro w' hSw; (try dsimp only at hSw); obtain ⟨p1, p0⟩ := hSw; go_simp; try with_reducible rfl)
    try simp only [Act.put, List.setIfInBounds_toArray, List.set_cons_zero, List.set_cons_succ, List.getElem_toArray, List.getElem_cons_zero, List.getElem_cons_succ]
    refine wpAnyH_ready (rs := [8]) (by kernel_rfl) (by simp) ?_
    refine AllReadyH.cons rfl (fun K hK => ?_) AllReadyH.nil
    go_wp2_with fail
    refine hK.out _ _ ?hS8k (fun hHeld => ?rest8k)
    case hS8k => exact ⟨H2.out.2.2.1, (HY.out w2 (Below.refl _ _)).1⟩
    clear hK K
    try simp only [Act.put, List.setIfInBounds_toArray, List.set_cons_zero, List.set_cons_succ, List.getElem_toArray, List.getElem_cons_zero, List.getElem_cons_succ]
    refine wpAnyH_done (by kernel_rfl) ?_ _
    refine NoPanic.normal ?_
    have z3 := (HY.out w2 (Below.refl _ _)).2
    go_wp2_with fail
    refine (bare_is w2 ra2 nr rc2 x.rts (HR.out _ (Below.refl _ _)) HL.out.1 (Nat.le_trans HL.out.2.1 (by decide))).mono ?_
    rintro e6 w6 ⟨v6, rfl, o6, b6⟩
    have X6 : Hid (OwnPv w6 w2.heap.size v6 (x.rts.map bPv) ∧ Below w2.heap.size w2 w6) := ⟨o6, b6⟩
    clear o6 b6
    go_wp2_with fail
    refine (without_is w6 w2.heap.size v6 (x.rts.map bPv) X6.out.1 (bare_okW x.rts) (by rw [List.length_map, HL.out.1]; exact Nat.le_trans HL.out.2.1 (by decide)) (by rw [bare_roots]; exact HL.out.2.2) r).mono ?_
    rintro e7 w7 ⟨v7, rfl, o7, _, g7⟩
    rw [bare_filter] at o7
    obtain ⟨la7, lc7, hv7, p7, _⟩ := o7.slice (fun x hx => bare_okW _ x hx)
    rw [List.length_map] at hv7
    subst hv7
    have hf : (x.rts.filter fun z => decide (z ≠ r)).length ≤ nr := HL.out.1 ▸ List.length_filter_le _ _
    obtain ⟨nf, hnf⟩ : ∃ nf, nf = (x.rts.filter fun z => decide (z ≠ r)).length := ⟨_, rfl⟩
    have B7 : Hid (Below w2.heap.size w2 w7 ∧ InPv w7 la7 ((x.rts.filter fun z => decide (z ≠ r)).map bPv) ∧ ((x.rts.filter fun z => decide (z ≠ r)).map bPv).length = nf ∧ nf ≤ 1000) := ⟨X6.out.2.trans (Below.grown (Below.refl _ w6) g7 X6.out.2.size (fun k hk => (X6.out.1.own k hk).1)), p7, by rw [List.length_map]; exact hnf.symm, by rw [hnf]; exact Nat.le_trans hf HL.out.2.1⟩
    rw [← hnf]
    clear o7 g7 p7 hf hnf z3
    go_wp2_with fail
    refine wp_region_noPanic ?_
    refine wp_region_held_drew (S := (fun W : World => W.cell? ⟨y1, 0, none⟩ = some (.int .i64 q) ∧ W.cell? ⟨y1, 3, none⟩ = some (.slice ra2 nr rc2))) (by kernel_rfl) ?hSag (fun hHeld => ?restag)
    case hSag => exact HY.out w7 B7.out.1
    case restag =>
      refine wpAnyH_take (i := 0) (v := .pointer (some ⟨y1, 0, none⟩)) rfl (by kernel_rfl) (by kernel_rfl) (by kernel_rfl) (fun _ _ _ h => h) (Or.inl ⟨by kernel_rfl, ?hy0g⟩) hHeld ?rest0g
      case hy0g => (intro w' hSw; (try dsimp only at hSw); go_simp; try with_reducible rfl)
      try simp only [Act.put, List.setIfInBounds_toArray, List.set_cons_zero, List.set_cons_succ, List.getElem_toArray, List.getElem_cons_zero, List.getElem_cons_succ]
      refine wpAnyH_take (i := 1) (v := .pointer (some ⟨y1, 0, none⟩)) rfl (by kernel_rfl) (by kernel_rfl) (by kernel_rfl) (fun _ _ _ h => h) (Or.inl ⟨by kernel_rfl, ?hy1g⟩) hHeld ?rest1g
      case hy1g => (intro w' hSw; (try dsimp only at hSw); go_simp; try with_reducible rfl)
      try simp only [Act.put, List.setIfInBounds_toArray, List.set_cons_zero, List.set_cons_succ, List.getElem_toArray, List.getElem_cons_zero, List.getElem_cons_succ]
      refine wpAnyH_take (i := 2) (v := .pointer (some ⟨y1, 0, none⟩)) rfl (by kernel_rfl) (by kernel_rfl) (by kernel_rfl) (fun _ _ _ h => h) (Or.inl ⟨by kernel_rfl, ?hy2g⟩) hHeld ?rest2g
      case hy2g => (intro w' hSw; (try dsimp only at hSw); go_simp; try with_reducible rfl)
      try simp only [Act.put, List.setIfInBounds_toArray, List.set_cons_zero, List.set_cons_succ, List.getElem_toArray, List.getElem_cons_zero, List.getElem_cons_succ]
      refine wpAnyH_take (i := 3) (v := .int .i64 q) rfl (by kernel_rfl) (by kernel_rfl) (by kernel_rfl) (fun _ _ _ h => h) (Or.inl ⟨by kernel_rfl, ?hy3g⟩) hHeld ?rest3g
      case hy3g => (intro w' hSw; (try dsimp only at hSw); obtain ⟨p0, p3⟩ := hSw; go_simp; try with_reducible rfl)
      try simp only [Act.put, List.setIfInBounds_toArray, List.set_cons_zero, List.set_cons_succ, List.getElem_toArray, List.getElem_cons_zero, List.getElem_cons_succ]
      refine wpAnyH_take (i := 5) (v := .slice la7 nf lc7) rfl (by kernel_rfl) (by kernel_rfl) (by kernel_rfl) (fun _ _ _ h => h) (Or.inl ⟨by kernel_rfl, ?hy5g⟩) hHeld ?rest5g
      case hy5g => (intro w' hSw; (try dsimp only at hSw); go_simp; try with_reducible rfl)
      try simp only [Act.put, List.setIfInBounds_toArray, List.set_cons_zero, List.set_cons_succ, List.getElem_toArray, List.getElem_cons_zero, List.getElem_cons_succ]
      refine wpAnyH_take (i := 7) (v := .pointer (some ⟨y1, 0, none⟩)) rfl (by kernel_rfl) (by kernel_rfl) (by kernel_rfl) (fun _ _ _ h => h) (Or.inl ⟨by kernel_rfl, ?hy7g⟩) hHeld ?rest7g
      case hy7g => (intro w' hSw; (try dsimp only at hSw); go_simp; try with_reducible rfl)
      try simp only [Act.put, List.setIfInBounds_toArray, List.set_cons_zero, List.set_cons_succ, List.getElem_toArray, List.getElem_cons_zero, List.getElem_cons_succ]
      refine wpAnyH_take (i := 8) (v := .pointer (some ⟨y1, 0, none⟩)) rfl (by kernel_rfl) (by kernel_rfl) (by kernel_rfl) (fun _ _ _ h => h) (Or.inl ⟨by kernel_rfl, ?hy8g⟩) hHeld ?rest8g
      case hy8g => (intro w' hSw; (try dsimp only at hSw); go_simp; try with_reducible rfl)
      try simp only [Act.put, List.setIfInBounds_toArray, List.set_cons_zero, List.set_cons_succ, List.getElem_toArray, List.getElem_cons_zero, List.getElem_cons_succ]
      refine wpAnyH_take (i := 9) (v := .pointer (some ⟨y1, 0, none⟩)) rfl (by kernel_rfl) (by kernel_rfl) (by kernel_rfl) (fun _ _ _ h => h) (Or.inl ⟨by kernel_rfl, ?hy9g⟩) hHeld ?rest9g
      case hy9g => (intro w' hSw; (try dsimp only at hSw); go_simp; try with_reducible rfl)
      try simp only [Act.put, List.setIfInBounds_toArray, List.set_cons_zero, List.set_cons_succ, List.getElem_toArray, List.getElem_cons_zero, List.getElem_cons_succ]
      refine wpAnyH_take (i := 10) (v := .int .i64 q) rfl (by kernel_rfl) (by kernel_rfl) (by kernel_rfl) (fun _ _ _ h => h) (Or.inl ⟨by kernel_rfl, ?hy10g⟩) hHeld ?rest10g
      case hy10g => (intro w' hSw; (try dsimp only at hSw); obtain ⟨p0, p3⟩ := hSw; go_simp; try with_reducible rfl)
      try simp only [Act.put, List.setIfInBounds_toArray, List.set_cons_zero, List.set_cons_succ, List.getElem_toArray, List.getElem_cons_zero, List.getElem_cons_succ]
      refine wpAnyH_ready (rs := [4]) (by kernel_rfl) (by simp) ?_
      refine AllReadyH.cons rfl (fun K hK => ?_) AllReadyH.nil
      go_simp
      refine (letters_mk w7.drew 4 q).mono ?_
      rintro e5 w5 ⟨kb, tb, rfl, k5, b5⟩
      have B5 : Hid (Below w2.heap.size w2 w5 ∧ Mk w5 kb tb 4 q ∧ InPv w5 la7 ((x.rts.filter fun z => decide (z ≠ r)).map bPv)) := by
        have b := (Below.refl _ w7).drew.trans b5
        exact ⟨B7.out.1.trans (b.mono B7.out.1.size), k5, B7.out.2.1.keep b⟩
      clear k5 b5
      go_wp2_with fail
      refine hK.out _ _ ?hS4g (fun hHeld => ?rest4g)
      case hS4g => exact HY.out _ B5.out.1
      clear hK K
      try simp only [Act.put, List.setIfInBounds_toArray, List.set_cons_zero, List.set_cons_succ, List.getElem_toArray, List.getElem_cons_zero, List.getElem_cons_succ]
      refine wpAnyH_ready (rs := [6]) (by kernel_rfl) (by simp) ?_
      refine AllReadyH.cons rfl (fun K hK => ?_) AllReadyH.nil
      go_simp
      refine (letters1_mk w5 la7 nf lc7 ((x.rts.filter fun z => decide (z ≠ r)).map bPv) B5.out.2.2 B7.out.2.2.1 (Nat.le_trans B7.out.2.2.2 (by decide)) (bare_okW _) kb tb 4 q B5.out.2.1).mono ?_
      rintro e8 w8 ⟨V, Q, rfl, l8, q8, b8⟩
      obtain ⟨a8, c8, hv8, _⟩ := l8.own.slice
      obtain ⟨n8, hn8⟩ : ∃ n8, n8 = (Q.map (mvOf 4 q)).length := ⟨_, rfl⟩
      rw [← hn8] at hv8
      subst hv8
      clear hn8
      have B8 : Hid (Below w2.heap.size w2 w8) := B5.out.1.trans (b8.mono B5.out.1.size)
      have X8 : Hid (Ltr (w.heap.size + 1) w8 (.slice a8 n8 c8) 4 q Q ∧ Q.map (fun p => (p.r, p.co)) = (x.rts.filter fun z => decide (z ≠ r)).map (fun r => (r, ([] : List Pc)))) := ⟨l8.base (Nat.le_trans HZ.out B5.out.1.size), q8.trans (bare_co _)⟩
      clear l8 q8 b8
      go_wp2_with fail
      refine hK.out _ _ ?hS6g (fun hHeld => ?rest6g)
      case hS6g => exact HY.out _ B8.out
      clear hK K
      try simp only [Act.put, List.setIfInBounds_toArray, List.set_cons_zero, List.set_cons_succ, List.getElem_toArray, List.getElem_cons_zero, List.getElem_cons_succ]
      refine wpAnyH_take (i := 11) (v := .agg #[.slice a8 n8 c8, .int .i64 0, .int .i64 0, .int .i64 q]) rfl (by kernel_rfl) (by kernel_rfl) (by kernel_rfl) (fun _ _ _ h => h) (Or.inl ⟨by kernel_rfl, ?hy11g⟩) hHeld ?rest11g
      case hy11g => (intro w' hSw; (try dsimp only at hSw); go_simp; try with_reducible rfl)
      try simp only [Act.put, List.setIfInBounds_toArray, List.set_cons_zero, List.set_cons_succ, List.getElem_toArray, List.getElem_cons_zero, List.getElem_cons_succ]
      have r8 := HRB.out w8 B8.out
      obtain ⟨r0, r1, r2, r3⟩ := cells4 r8
      have f0 := frozen_blk r8 0
      have f1 := frozen_blk r8 1
      have f2 := frozen_blk r8 2
      have f3 := frozen_blk r8 3
      obtain ⟨e1, e2⟩ := chain4 (a' := .slice a8 n8 c8) (b' := .int .i64 0) (c' := .int .i64 0) (d' := .int .i64 q) r8
      have HYZ : Hid (∀ u, w8.grownBy u (some w.heap.size) → u.cell? ⟨y1, 0, none⟩ = some (.int .i64 q) ∧ u.cell? ⟨y1, 3, none⟩ = some (.slice ra2 nr rc2)) := fun u hu => by
        obtain ⟨k0, k3⟩ := HY.out w8 B8.out
        have hb := hu.block y1 (Nat.lt_of_lt_of_le H2.out.2.2.2 B8.out.size) (fun e => by cases e; exact Nat.lt_irrefl _ HYN.out)
        exact ⟨(World.cell?_of_block (a := ⟨y1, 0, none⟩) hb).trans k0, (World.cell?_of_block (a := ⟨y1, 3, none⟩) hb).trans k3⟩
      clear r8
      refine wpAnyH_ready (rs := [12]) (by kernel_rfl) (by simp) ?_
      refine AllReadyH.cons rfl (fun K hK => ?_) AllReadyH.nil
      go_wp2_with fail
      refine hK.out _ _ ?hS12g (fun hHeld => ?rest12g)
      case hS12g => exact HYZ.out _ e2
      clear hK K
      try simp only [Act.put, List.setIfInBounds_toArray, List.set_cons_zero, List.set_cons_succ, List.getElem_toArray, List.getElem_cons_zero, List.getElem_cons_succ]
      refine wpAnyH_done (by kernel_rfl) ?_ _
      refine NoPanic.normal ?_
      try go_wp2_with fail
      exact bodyPost_ret (results_cell_row Try.results37 _ _ w.heap.size 46 _ (0, 0) _ rfl e1 Try.underlying46 rfl sizeSd) rfl ⟨_, Q, rfl, (X8.out.1.beside e2 (Nat.lt_succ_self _)).base (Nat.le_succ _), X8.out.2, (H2.out.1.keep B8.out).beside e2 HFS.out, (H2.out.2.1.trans (Stp.below B8.out)).beside e2 (Nat.le_refl _)⟩
end Go.Proofs.Ythaeidbnbgghkaa
namespace Go.Proofs.Ythaeidbnbgghkaa
open Go.ChangeShapes Go.WideShapes Go.ChangeAt Go.RowKit Go.Deep Go.Maps
set_option linter.unusedVariables false
set_option linter.unusedSimpArgs false
set_option maxRecDepth 100000 in
set_option maxHeartbeats 4000000 in
theorem sure_no (w : World) (v : Value) (h : NoCo w v) (q : Int) :
    Calls Try.prog 12 #[v, .int .i64 q] w fun e w' => e = .returned (.tuple #[.slice none 0 0, .int .i64 1]) ∧ Below w.heap.size w w' := by
  have KW := isNone_no w v h
  clear h
  go_enter Try.func12, Try.ntmps12
  go_wp2_with fail
  refine KW.mono ?_
  rintro e w2 ⟨rfl, h2⟩
  have B2 : Hid (Below w.heap.size w w2) := by rw [h2]; exact Below.refl _ _
  clear h2
  go_wp2_with fail
  go_ret2
  exact ⟨rfl, B2.out⟩
set_option maxRecDepth 100000 in
set_option maxHeartbeats 4000000 in
theorem quit_no (w : World) (v : Value) (h : NoCo w v) (q : Int) :
    Calls Try.prog 13 #[v, .int .i64 q] w fun e w' => e = .returned (.tuple #[.slice none 0 0, .int .i64 1]) ∧ Below w.heap.size w w' := by
  have KW := isNone_no w v h
  clear h
  go_enter Try.func13, Try.ntmps13
  go_wp2_with fail
  refine KW.mono ?_
  rintro e w2 ⟨rfl, h2⟩
  have B2 : Hid (Below w.heap.size w w2) := by rw [h2]; exact Below.refl _ _
  clear h2
  go_wp2_with fail
  go_ret2
  exact ⟨rfl, B2.out⟩
set_option maxRecDepth 100000 in
set_option maxHeartbeats 4000000 in
theorem open_no (w : World) (v : Value) (h : NoCo w v) (q : Int) :
    Calls Try.prog 17 #[v] w fun e w' => e = .returned (.slice none 0 0) ∧ Below w.heap.size w w' := by
  have KW := isNone_no w v h
  clear h
  go_enter Try.func17, Try.ntmps17
  go_wp2_with fail
  refine KW.mono ?_
  rintro e w2 ⟨rfl, h2⟩
  have B2 : Hid (Below w.heap.size w w2) := by rw [h2]; exact Below.refl _ _
  clear h2
  go_wp2_with fail
  go_ret
  exact ⟨rfl, B2.out⟩
set_option maxRecDepth 100000 in
set_option maxHeartbeats 4000000 in
theorem state_no (w : World) (v : Value) (h : NoCo w v) (q : Int) :
    Calls Try.prog 18 #[v, .int .i64 q] w fun e w' => e = .returned (.int .i64 0) ∧ Below w.heap.size w w' := by
  have KW := isNone_no w v h
  clear h
  go_enter Try.func18, Try.ntmps18
  go_wp2_with fail
  refine KW.mono ?_
  rintro e w2 ⟨rfl, h2⟩
  have B2 : Hid (Below w.heap.size w w2) := by rw [h2]; exact Below.refl _ _
  clear h2
  go_wp2_with fail
  go_ret
  exact ⟨rfl, B2.out⟩
set_option maxRecDepth 100000 in
set_option maxHeartbeats 4000000 in
theorem lacks_no (w : World) (v : Value) (h : NoCo w v) (q : Int) :
    Calls Try.prog 19 #[v, .int .i64 q] w fun e w' => e = .returned (.slice none 0 0) ∧ Below w.heap.size w w' := by
  have KW := isNone_no w v h
  clear h
  go_enter Try.func19, Try.ntmps19
  go_wp2_with fail
  refine KW.mono ?_
  rintro e w2 ⟨rfl, h2⟩
  have B2 : Hid (Below w.heap.size w w2) := by rw [h2]; exact Below.refl _ _
  clear h2
  go_wp2_with fail
  go_ret
  exact ⟨rfl, B2.out⟩
set_option maxRecDepth 100000 in
set_option maxHeartbeats 4000000 in
theorem tick_no (w : World) (v : Value) (h : NoCo w v) :
    Calls Try.prog 14 #[v] w fun e w' => e = .returned (.tuple #[.slice none 0 0, .slice none 0 0]) ∧ Below w.heap.size w w' := by
  have KW : Hid (Calls Try.prog 17 #[v] w fun e w' => e = .returned (.slice none 0 0) ∧ Below w.heap.size w w') := open_no w v h 0
  clear h
  go_enter Try.func14, Try.ntmps14
  go_wp2_with fail
  refine KW.out.mono ?_
  rintro e w2 ⟨rfl, b2⟩
  have B2 : Hid (Below w.heap.size w w2) := b2
  clear b2 KW
  go_wp2_with fail
  go_loopg [4, 5, 12] 0 (fun g V V2 i wr => g = 0 ∧ V = .slice none 0 0 ∧ V2 = .slice none 0 0 ∧ i = .int .i64 0 ∧ Hid (Below w.heap.size w wr))
  case atStart => exact ⟨rfl, rfl, rfl, rfl, B2⟩
  case round =>
    obtain ⟨rfl, rfl, rfl, rfl, RW⟩ := hrel
    have j1 : decide ((0 : Int) < ((0 : Nat) : Int)) = false := by decide
    have j2 : decide ((0 : Int) < (0 : Int)) = false := by decide
    go_wp2_with fail
    go_ret2
    exact ⟨rfl, RW.out⟩
set_option maxRecDepth 100000 in
set_option maxHeartbeats 4000000 in
theorem take_no (w : World) (v : Value) (h : NoCo w v) (k f t x : Int) (yb : Bool) (a : Option Addr) (n c : Nat) :
    Calls Try.prog 16 #[v, .agg #[.int .i64 k, .int .i64 f, .int .i64 t, .int .i64 x, .bool yb, .slice a n c]] w fun e w' => e = .returned (sd (.slice none 0 0) 0 0 0) ∧ Below w.heap.size w w' := by
  unfold sd
  obtain ⟨W0, hW0⟩ : ∃ W0, W0 = (w.alloc (.cells #[.int .i64 k, .int .i64 f, .int .i64 t, .int .i64 x, .bool yb, .slice a n c] 25)).alloc (.cells #[.slice none 0 0, .int .i64 0, .int .i64 0, .int .i64 0] 46) := ⟨_, rfl⟩
  have HW0 : Hid ((w.alloc (.cells #[.int .i64 k, .int .i64 f, .int .i64 t, .int .i64 x, .bool yb, .slice a n c] 25)).alloc (.cells #[.slice none 0 0, .int .i64 0, .int .i64 0, .int .i64 0] 46) = W0) := hW0.symm
  have b1 := below1 w (.cells #[.int .i64 k, .int .i64 f, .int .i64 t, .int .i64 x, .bool yb, .slice a n c] 25)
  have b0 : Below w.heap.size w W0 := by rw [hW0]; exact b1.trans ((below1 _ _).mono b1.size)
  have r1 : W0.heap[w.heap.size + 1]? = some (.cells #[.slice none 0 0, .int .i64 0, .int .i64 0, .int .i64 0] 46) := by
    have := heap_alloc_new (w.alloc (.cells #[.int .i64 k, .int .i64 f, .int .i64 t, .int .i64 x, .bool yb, .slice a n c] 25)) (.cells #[.slice none 0 0, .int .i64 0, .int .i64 0, .int .i64 0] 46)
    rw [hW0]
    rwa [show (w.alloc (.cells #[.int .i64 k, .int .i64 f, .int .i64 t, .int .i64 x, .bool yb, .slice a n c] 25)).heap.size = w.heap.size + 1 by simp] at this
  have KW := isNone_no W0 v (h.keep b0)
  have HB : Hid (Below w.heap.size w W0 ∧ W0.heap[w.heap.size + 1]? = some (.cells #[.slice none 0 0, .int .i64 0, .int .i64 0, .int .i64 0] 46)) := ⟨b0, r1⟩
  obtain ⟨q0, q1, q2, q3⟩ := cells4 r1
  have f0 := frozen_blk r1 0
  have f1 := frozen_blk r1 1
  have f2 := frozen_blk r1 2
  have f3 := frozen_blk r1 3
  clear h hW0 b1 b0 r1
  go_enter Try.func16, Try.ntmps16
  go_wp2_with fail
  rw [HW0.out]
  refine KW.mono ?_
  rintro e w2 ⟨rfl, h2⟩
  obtain rfl := h2.symm
  clear h2
  go_wp2_with fail
  obtain ⟨e1, e2⟩ := chain4 (a' := .slice none 0 0) (b' := .int .i64 0) (c' := .int .i64 0) (d' := .int .i64 0) HB.out.2
  exact bodyPost_ret (results_cell_row Try.results16 _ _ (w.heap.size + 1) 46 _ (0, 0) _ rfl e1 Try.underlying46 rfl sizeSd) rfl ⟨rfl, HB.out.1.grown e2 HB.out.1.size (fun k hk => by cases hk; exact Nat.le_succ _)⟩
end Go.Proofs.Ythaeidbnbgghkaa
namespace Go.Proofs.Ythaeidbnbgghkaa
open Go.ChangeShapes Go.WideShapes Go.ChangeAt Go.RowKit Go.Deep Go.Maps
set_option linter.unusedVariables false
set_option linter.unusedSimpArgs false
theorem Cd.setLk {w w1 u : World} {F : Nat → Prop} {b : Nat} {lim : Int} {n m : Nat} {B : Int → Option (Nat × Option Nat)} {X : Int → Option Tr} (h : Cd w F b lim n m B X) {q : Int} {y : Nat × Option Nat} (hy : B q = some y) {x : Tr} (hx : X q = some x) (s : Int) (hw : Below w.heap.size w w1) {V : Value} {P : List Pv} (ho : OwnPv w1 w.heap.size V P) (hn : ∀ p ∈ P, NewSt w1 w.heap.size p.a p.n p.c p.M) (hu : w1.grownBy u (some y.1)) (hbk : ∀ vr vl, w1.heap[y.1]? = some (.cells #[.int .i64 q, .int .i64 x.st, .int .i64 x.age, vr, vl] 75) → u.heap[y.1]? = some (.cells #[.int .i64 q, .int .i64 s, .int .i64 x.age, vr, V] 75)) :
    ∃ F', Cd u F' b lim n m (updB B q (y.1, V.ownBlock)) (updX X q ⟨s, x.age, x.rts, P.map fun p => (p.r, p.co)⟩) ∧ Stp F F' w u := by
  obtain ⟨x0, hx0, ht⟩ := h.at hy
  rw [hx] at hx0
  cases hx0
  have hyF : F y.1 := by
    obtain ⟨_, _, _, _, _, _, _, _, _, h7, _⟩ := ht
    exact h7
  have hyl : y.1 < w.heap.size := h.lt _ hyF
  have hsz : w.heap.size ≤ u.heap.size := Nat.le_trans hw.size hu.size
  have hnew : ∀ k, w.heap.size ≤ k → k < w1.heap.size → u.heap[k]? = w1.heap[k]? := fun k h1 h2 => hu.block k h2 (fun e => by cases e; exact absurd hyl (Nat.not_lt.2 h1))
  have hold : ∀ k, F k → k ≠ y.1 → u.heap[k]? = w.heap[k]? := fun k hk hn => (hu.block k (Nat.lt_of_lt_of_le (h.lt k hk) hw.size) (fun e => hn (by cases e; rfl))).trans (hw.block k (h.lt k hk))
  have hsk : ∀ p ∈ P, ∀ k, SkF p.a p.M k → w.heap.size ≤ k ∧ k < w1.heap.size := fun p hp k hk => by
    obtain ⟨t1, t2, _⟩ := (hn p hp).typ k hk
    exact ⟨t1, t2⟩
  refine ⟨fun k => F k ∨ V.ownBlock = some k ∨ ∃ p ∈ P, SkF p.a p.M k, h.turn (u := u) (F' := fun k => F k ∨ V.ownBlock = some k ∨ ∃ p ∈ P, SkF p.a p.M k) (y' := (y.1, V.ownBlock)) hy hsz (fun k hk => .inl hk) ?_ (fun k hk n1 _ => hold k hk n1) rfl (.inr fun k hk => (ho.own k hk).1) ?_, ⟨⟨?_, ?_, ?_, hsz, fun k hk hnF => ?_⟩, fun k hk => ?_⟩⟩
  · rintro k (hk | hk | ⟨p, hp, hk⟩)
    · exact Nat.lt_of_lt_of_le (h.lt k hk) hsz
    · exact Nat.lt_of_lt_of_le (ho.own k hk).2 hu.size
    · exact Nat.lt_of_lt_of_le (hsk p hp k hk).2 hu.size
  · obtain ⟨vr, vl, P0, k1, k2, k3, k4, k5, k6, k7, k8, k9, k10⟩ := ht
    refine ⟨vr, V, P, hbk vr vl ((hw.block y.1 hyl).trans k1), rfl, k3.kept (fun k hk => hold k (k8 k hk) (fun e => ?_)), (ho.kept (fun k hk => hnew k (ho.own k hk).1 (ho.own k hk).2)).base (Nat.zero_le _), fun p hp => ((hn p hp).keptF hu.size (fun k hk => hnew k (hsk p hp k hk).1 (hsk p hp k hk).2)).base (Nat.zero_le _), rfl, .inl k7, fun k hk => .inl (k8 k hk), fun k hk => .inr (.inl hk), fun p hp k hk => .inr (.inr ⟨p, hp, hk⟩)⟩
    obtain ⟨cs, hc⟩ := ownZ_typ k3 hk
    rw [e, k1] at hc
    exact absurd hc (by simp)
  · exact hu.os.trans hw.os
  · exact hu.tape.trans hw.tape
  · exact hu.output.trans hw.output
  · exact (hu.block k (Nat.lt_of_lt_of_le hk hw.size) (fun e => by cases e; exact hnF hyF)).trans (hw.block k hk)
  · rcases hk with hk | hk | ⟨p, hp, hk⟩
    · exact .inl hk
    · exact .inr (ho.own k hk).1
    · exact .inr (hsk p hp k hk).1
set_option maxRecDepth 100000 in
set_option maxHeartbeats 8000000 in
theorem sure_is (w : World) (F : Nat → Prop) (b : Nat) (lim : Int) (n m : Nat) (B : Int → Option (Nat × Option Nat)) (X : Int → Option Tr) (h : Cd w F b lim n m B X) (q : Int) (x : Tr) (hx : X q = some x) (hst : x.st = 2) (hN : x.rts.length ≤ 1000) :
    Calls Try.prog 12 #[.pointer (some ⟨b, 0, none⟩), .int .i64 q] w fun e w' => ∃ V Q F' B', e = .returned (.tuple #[V, .int .i64 0]) ∧ Ltr w.heap.size w' V 3 q Q ∧ Q.map (fun p => (p.r, p.co)) = x.rts.map (fun r => (r, ([] : List Pc))) ∧ Cd w' F' b lim n m B' (updX X q ⟨3, x.age, x.rts, x.rts.map fun r => (r, [])⟩) ∧ Stp F F' w w' := by
  have K : Hid (Calls Try.prog 30 #[.pointer (some ⟨b, 0, none⟩)] w fun e w' => e = .returned (.bool false) ∧ w' = w) := isNone_co w b lim m h.box
  have hq : InI q := (h.each q x hx).1
  have KS : Hid (Calls Try.prog 18 #[.pointer (some ⟨b, 0, none⟩), .int .i64 q] w fun e w' => e = .returned (.int .i64 2) ∧ w' = w) := by
    have := state_is w F b lim n m B X h q hq
    rw [hx] at this
    simp only [Option.elim, hst] at this
    exact this
  obtain ⟨⟨y1, y2⟩, hy, ht, hlk⟩ := h.find hx
  obtain ⟨c0, c1⟩ := h.box.cells
  obtain ⟨ra, rc, la, lc, P, hb, hz, _⟩ := ht.open
  obtain ⟨t0, t1, t2, t3, t4⟩ := tr_cells hb
  simp only at t0 t1 t2 t3 t4 hlk
  clear K
  go_enter Try.func12, Try.ntmps12
  go_wp2_with fail
  refine (isNone_co w b lim m h.box).mono ?_
  rintro e w1 ⟨rfl, hw⟩
  obtain rfl := hw.symm
  clear hw
  go_wp2_with fail
  refine KS.out.mono ?_
  rintro e w1 ⟨rfl, hw⟩
  obtain rfl := hw.symm
  clear hw
  have KB := bare_is w ra x.rts.length rc x.rts hz rfl (by omega)
  have HH : Hid (Cd w F b lim n m B X ∧ B q = some (y1, y2) ∧ X q = some x ∧ w.heap[y1]? = some (.cells #[.int .i64 q, .int .i64 x.st, .int .i64 x.age, .slice ra x.rts.length rc, .slice la x.lk.length lc] 75)) := ⟨h, hy, hx, hb⟩
  have HN : Hid (x.rts.length ≤ 1000) := hN
  obtain ⟨nr, hnr⟩ : ∃ nr, nr = x.rts.length := ⟨_, rfl⟩
  have HL : Hid (x.rts.length = nr) := hnr.symm
  rw [← hnr] at KB t3
  clear h hy hx hb hz hst hN hnr ht
  go_wp2_with fail
  refine KB.mono ?_
  rintro e w1 ⟨V, rfl, o1, b1⟩
  obtain ⟨la1, lc1, hv1, p1, _⟩ := o1.slice (fun x hx => bare_okW _ x hx)
  rw [List.length_map, HL.out] at hv1
  subst hv1
  have hb1 := (b1.block y1 (lt_of_heapK HH.out.2.2.2)).trans HH.out.2.2.2
  have f1 := frozen_blk hb1 1
  have f4 := frozen_blk hb1 4
  obtain ⟨z0, z1, z2, z3, z4⟩ := tr_cells hb1
  obtain ⟨u, hu⟩ : ∃ u, u = (w1.setCell ⟨y1, 1, none⟩ (.int .i64 3)).setCell ⟨y1, 4, none⟩ (.slice la1 nr lc1) := ⟨_, rfl⟩
  have HU : Hid ((w1.setCell ⟨y1, 1, none⟩ (.int .i64 3)).setCell ⟨y1, 4, none⟩ (.slice la1 nr lc1) = u) := hu.symm
  have g1 : w1.grownBy u (some y1) := by
    rw [hu]
    refine ⟨rfl, rfl, rfl, by simp [World.setCell], fun k hk hn => ?_⟩
    have hne : k ≠ y1 := fun e => hn (by rw [e])
    exact (set_off _ y1 4 k _ hne).trans (set_off _ y1 1 k _ hne)
  obtain ⟨F', d1, s1⟩ := HH.out.1.setLk (u := u) HH.out.2.1 HH.out.2.2.1 3 b1 o1 (fun p hp => by
    obtain ⟨r, _, rfl⟩ := List.mem_map.1 hp
    exact bPv_new _ _ r) g1 (fun vr vl e => by
    rw [hu, setCell_blk (i := 4) _ (set1_blk (v := .int .i64 3) e)]
    simp)
  rw [bare_co] at d1
  obtain ⟨x', hx', ht'⟩ := d1.at (updB_at B q _)
  rw [updX_at] at hx'
  cases hx'
  have KT : Hid (Calls Try.prog 31 #[.pointer (some ⟨y1, 0, none⟩)] u fun e w' => ∃ V Q, e = .returned V ∧ Ltr u.heap.size w' V 3 q Q ∧ Q.map (fun p => (p.r, p.co)) = x.rts.map (fun r => (r, ([] : List Pc))) ∧ Below u.heap.size u w') := tlack_is u F' _ q _ ht' (by simpa using HN.out)
  have X1 : Hid (Cd u F' b lim n m (updB B q (y1, (Value.slice la1 nr lc1).ownBlock)) (updX X q ⟨3, x.age, x.rts, x.rts.map fun r => (r, [])⟩) ∧ Stp F F' w u ∧ w.heap.size ≤ u.heap.size) := ⟨d1, s1, Nat.le_trans b1.size g1.size⟩
  clear ht' d1 s1 g1 o1 b1 p1 hb1 hu KB
  go_wp2_with fail
  rw [HU.out]
  refine KT.out.mono ?_
  rintro e w2 ⟨V, Q, rfl, l2, q2, b2⟩
  have X2 : Hid (Ltr w.heap.size w2 V 3 q Q ∧ Q.map (fun p => (p.r, p.co)) = x.rts.map (fun r => (r, ([] : List Pc))) ∧ Cd w2 F' b lim n m (updB B q (y1, (Value.slice la1 nr lc1).ownBlock)) (updX X q ⟨3, x.age, x.rts, x.rts.map fun r => (r, [])⟩) ∧ Stp F F' w w2) := ⟨l2.base X1.out.2.2, q2, X1.out.1.keep b2, X1.out.2.1.trans (Stp.below b2)⟩
  clear l2 q2 b2
  go_wp2_with fail
  go_ret2
  exact ⟨_, Q, F', _, rfl, X2.out⟩
set_option maxRecDepth 100000 in
set_option maxHeartbeats 8000000 in
theorem sure_state (w : World) (F : Nat → Prop) (b : Nat) (lim : Int) (n m : Nat) (B : Int → Option (Nat × Option Nat)) (X : Int → Option Tr) (h : Cd w F b lim n m B X) (q : Int) (hq : InI q) (hs : (X q).elim 0 Tr.st ≠ 2) :
    Calls Try.prog 12 #[.pointer (some ⟨b, 0, none⟩), .int .i64 q] w fun e w' => e = .returned (.tuple #[.slice none 0 0, .int .i64 11]) ∧ Below w.heap.size w w' := by
  have K := isNone_co w b lim m h.box
  have KS := state_is w F b lim n m B X h q hq
  generalize (X q).elim 0 Tr.st = st at *
  have e3 : (st == (2 : Int)) = false := by simpa using hs
  clear h
  go_enter Try.func12, Try.ntmps12
  go_wp2_with fail
  refine K.mono ?_
  rintro e w1 ⟨rfl, hw⟩
  obtain rfl := hw.symm
  clear hw
  go_wp2_with fail
  refine KS.mono ?_
  rintro e w1 ⟨rfl, hw⟩
  obtain rfl := hw.symm
  clear hw
  have HB : Hid (Below w.heap.size w w) := Below.refl _ _
  go_wp2_with fail
  go_ret2
  exact ⟨rfl, HB.out⟩
set_option maxRecDepth 100000 in
set_option maxHeartbeats 8000000 in
theorem quit_state (w : World) (F : Nat → Prop) (b : Nat) (lim : Int) (n m : Nat) (B : Int → Option (Nat × Option Nat)) (X : Int → Option Tr) (h : Cd w F b lim n m B X) (q : Int) (hq : InI q) (hs : (X q).elim 0 Tr.st ≠ 2) (hs1 : (X q).elim 0 Tr.st ≠ 1) :
    Calls Try.prog 13 #[.pointer (some ⟨b, 0, none⟩), .int .i64 q] w fun e w' => e = .returned (.tuple #[.slice none 0 0, .int .i64 11]) ∧ Below w.heap.size w w' := by
  have K := isNone_co w b lim m h.box
  have KS := state_is w F b lim n m B X h q hq
  generalize (X q).elim 0 Tr.st = st at *
  have e3 : (st == (2 : Int)) = false := by simpa using hs
  have e2 : (st == (1 : Int)) = false := by simpa using hs1
  clear h
  go_enter Try.func13, Try.ntmps13
  go_wp2_with fail
  refine K.mono ?_
  rintro e w1 ⟨rfl, hw⟩
  obtain rfl := hw.symm
  clear hw
  go_wp2_with fail
  refine KS.mono ?_
  rintro e w1 ⟨rfl, hw⟩
  obtain rfl := hw.symm
  clear hw
  have HB : Hid (Below w.heap.size w w) := Below.refl _ _
  go_wp2_with fail
  go_ret2
  exact ⟨rfl, HB.out⟩
set_option maxRecDepth 100000 in
set_option maxHeartbeats 8000000 in
theorem quit_is (w : World) (F : Nat → Prop) (b : Nat) (lim : Int) (n m : Nat) (B : Int → Option (Nat × Option Nat)) (X : Int → Option Tr) (h : Cd w F b lim n m B X) (q : Int) (x : Tr) (hx : X q = some x) (hst : x.st = 1 ∨ x.st = 2) (hN : x.rts.length ≤ 1000) :
    Calls Try.prog 13 #[.pointer (some ⟨b, 0, none⟩), .int .i64 q] w fun e w' => ∃ V Q, e = .returned (.tuple #[V, .int .i64 0]) ∧ Ltr w.heap.size w' V 4 q Q ∧ Q.map (fun p => (p.r, p.co)) = x.rts.map (fun r => (r, ([] : List Pc))) ∧ Co w' F b lim n m (delX X q) ∧ Stp F F w w' := by
  have hq : InI q := (h.each q x hx).1
  have K := isNone_co w b lim m h.box
  have KS := state_is w F b lim n m B X h q hq
  rw [hx] at KS
  simp only [Option.elim] at KS
  obtain ⟨⟨y1, y2⟩, hy, ht, hlk⟩ := h.find hx
  obtain ⟨c0, c1⟩ := h.box.cells
  simp only at hlk
  have KG : Hid (Calls Try.prog 32 #[.pointer (some ⟨b, 0, none⟩), .pointer (some ⟨y1, 0, none⟩)] w fun e w' => ∃ V Q, e = .returned V ∧ Ltr w.heap.size w' V 4 q Q ∧ Q.map (fun p => (p.r, p.co)) = x.rts.map (fun r => (r, ([] : List Pc))) ∧ Co w' F b lim n m (delX X q) ∧ Stp F F w w') := giveUp_is w F b lim n m B X h q x hx (y1, y2) hy hN
  clear h hx hy ht hq hN
  rcases hst with hst | hst <;> rw [hst] at KS <;> clear hst
  all_goals
    go_enter Try.func13, Try.ntmps13
    go_wp2_with fail
    refine K.mono ?_
    rintro e w1 ⟨rfl, hw⟩
    obtain rfl := hw.symm
    clear hw
    go_wp2_with fail
    refine KS.mono ?_
    rintro e w1 ⟨rfl, hw⟩
    obtain rfl := hw.symm
    clear hw
    go_wp2_with fail
    refine KG.out.mono ?_
    rintro e w2 ⟨V, Q, rfl, l2, q2, b2, s2⟩
    have X2 : Hid (Ltr w.heap.size w2 V 4 q Q ∧ Q.map (fun p => (p.r, p.co)) = x.rts.map (fun r => (r, ([] : List Pc))) ∧ Co w2 F b lim n m (delX X q) ∧ Stp F F w w2) := ⟨l2, q2, b2, s2⟩
    clear l2 q2 b2 s2
    go_wp2_with fail
    go_ret2
    exact ⟨_, Q, rfl, X2.out⟩
end Go.Proofs.Ythaeidbnbgghkaa
