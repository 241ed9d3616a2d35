/- coord: hasAll (gen_cor.py). coord: acked, giveUp (gen_cos.py). coord: giveUp (gen_cou.py). -/
import Derived.Test.YthaeidbnbgghkaaMgCz9
namespace Go.Proofs.Ythaeidbnbgghkaa
open Go.ChangeShapes Go.WideShapes Go.ChangeAt Go.RowKit Go.Deep Go.Maps
set_option linter.unusedVariables false
set_option linter.unusedSimpArgs false
/-- what lacks without a root -/
def wo15 (L : List (Int × List Pc)) (r : Int) : List (Int × List Pc) := L.filter fun p => decide (p.1 ≠ r)
theorem wo15_map (P : List Pv) (r : Int) : (P.filter fun x => decide (x.r ≠ r)).map (fun p => (p.r, p.co)) = wo15 (P.map fun p => (p.r, p.co)) r := by
  unfold wo15
  rw [List.filter_map]
  rfl
set_option maxRecDepth 100000 in
set_option maxHeartbeats 8000000 in
theorem hasAll_is (w : World) (F : Nat → Prop) (y : Nat × Option Nat) (q : Int) (x : Tr) (h : TrAt w F y q x) (hnd : (x.lk.map Prod.fst).Nodup) (hN : x.lk.length ≤ 1000) (r : Int) :
    Calls Try.prog 50 #[.pointer (some ⟨y.1, 0, none⟩), .int .i64 r] w fun e w' => e = .returned (.bool (decide (wo15 x.lk r = []))) ∧ TrAt w' F y q ⟨x.st, x.age, x.rts, wo15 x.lk r⟩ ∧ Off (fun k => k = y.1 ∨ y.2 = some k) w w' := by
  obtain ⟨y1, y2⟩ := y
  obtain ⟨vr, vl, P, h1, h2, h3, h4, h5, h6, h7, h8, h9, h10⟩ := h
  obtain ⟨la, lc, hvl, hin, _⟩ := h4.slice (fun p hp => (h5 p hp).st)
  subst hvl
  obtain ⟨ra, rc, hvr, _⟩ := h3.slice
  subst hvr
  simp only at h1 h2 h7 h9
  have hPl : P.length ≤ 1000 := by rw [← List.length_map (f := fun p : Pv => (p.r, p.co)), h6]; exact hN
  have hPn : (P.map Pv.r).Nodup := by
    have : P.map Pv.r = x.lk.map Prod.fst := by rw [← h6, List.map_map]; rfl
    rw [this]; exact hnd
  have HB : Hid (w.heap[y1]? = some (.cells #[.int .i64 q, .int .i64 x.st, .int .i64 x.age, .slice ra x.rts.length rc, .slice la P.length lc] 75)) := h1
  have KW : Hid (∀ W, W.heap = w.heap → Calls Try.prog 51 #[.slice la P.length lc, .int .i64 r] W fun e w' => ∃ va vn vc, e = .returned (.slice va vn vc) ∧ OwnPv w' 0 (.slice va vn vc) (P.filter fun x => decide (x.r ≠ r)) ∧ vn = (P.filter fun x => decide (x.r ≠ r)).length ∧ (Value.slice va vn vc).ownBlock = y2 ∧ W.grownBy w' y2) := fun W hW => by
    have hb : ∀ k : Nat, W.heap[k]? = w.heap[k]? := fun k => by rw [hW]
    have hs : w.heap.size ≤ W.heap.size := by rw [hW]; exact Nat.le_refl _
    refine (without_is W 0 _ P (h4.kept (fun k _ => hb k)) (fun p hp => ((h5 p hp).keptF hs (fun k _ => hb k)).st) (by omega) hPn r).mono ?_
    rintro e w' ⟨V', rfl, o1, o2, o3⟩
    have hst : ∀ p ∈ P.filter (fun x => decide (x.r ≠ r)), PvOk w' p := fun p hp => by
      have hp' := (List.mem_filter.1 hp).1
      have hN0 := (h5 p hp').keptF hs (fun k _ => hb k)
      refine (NewSt.kept2 hN0 o3.size (fun k cs t hk ht => o3.block k (lt_of_heapK hk) (fun e => ?_))).st
      obtain ⟨cs', hc⟩ := ownPv_typ h4 e.symm
      rw [← hb k, hk] at hc
      cases hc
      rcases ht with e | e <;> exact absurd e (by decide)
    obtain ⟨va, vc, hv, _⟩ := o1.slice hst
    subst hv
    exact ⟨va, _, vc, rfl, o1, rfl, by rw [o2]; exact h2, by rw [← h2]; exact o3⟩
  have HY : Hid (y2 ≠ some y1) := fun e => by
    obtain ⟨cs, hc⟩ := ownPv_typ h4 (k := y1) (by rw [← e]; exact h2)
    rw [h1] at hc
    cases hc
  have HF : Hid (∀ w' va vn vc, OwnPv w' 0 (.slice va vn vc) (P.filter fun x => decide (x.r ≠ r)) → (Value.slice va vn vc).ownBlock = y2 → w.grownBy w' y2 → TrAt (w'.setCell ⟨y1, 4, none⟩ (.slice va vn vc)) F (y1, y2) q ⟨x.st, x.age, x.rts, wo15 x.lk r⟩ ∧ Off (fun k => k = y1 ∨ y2 = some k) w (w'.setCell ⟨y1, 4, none⟩ (.slice va vn vc)) ∧ w'.heap[y1]? = some (.cells #[.int .i64 q, .int .i64 x.st, .int .i64 x.age, .slice ra x.rts.length rc, .slice la P.length lc] 75)) := fun w' va vn vc o1 o2 o3 => by
    have hbx : w'.heap[y1]? = some (.cells #[.int .i64 q, .int .i64 x.st, .int .i64 x.age, .slice ra x.rts.length rc, .slice la P.length lc] 75) := (o3.block y1 (lt_of_heapK h1) (fun e => HY.out e.symm)).trans h1
    have hoth : ∀ k cs t, w.heap[k]? = some (Obj.cells cs t) → t ≠ 61 → t ≠ 75 → (w'.setCell ⟨y1, 4, none⟩ (.slice va vn vc)).heap[k]? = w.heap[k]? := fun k cs t hk n1 n2 => by
      have e1 : k ≠ y1 := fun e => by rw [e, h1] at hk; cases hk; exact n2 rfl
      have e2 : y2 ≠ some k := fun e => by
        obtain ⟨cs', hc⟩ := ownPv_typ h4 (k := k) (by rw [← e]; exact h2)
        rw [hk] at hc; cases hc; exact n1 rfl
      exact (set_off w' y1 4 k _ e1).trans (o3.block k (lt_of_heapK hk) (fun e => e2 e.symm))
    have hsz : w.heap.size ≤ (w'.setCell ⟨y1, 4, none⟩ (.slice va vn vc)).heap.size := by simp [World.setCell]; exact o3.size
    refine ⟨⟨.slice ra x.rts.length rc, .slice va vn vc, P.filter (fun x => decide (x.r ≠ r)), ?_, o2, ?_, ?_, fun p hp => ?_, ?_, h7, h8, h9, fun p hp => h10 p ((List.mem_filter.1 hp).1)⟩, ?_, hbx⟩
    · show (w'.setCell ⟨y1, 4, none⟩ (.slice va vn vc)).heap[y1]? = _
      rw [setCell_blk (i := 4) _ hbx]
      simp
    · refine h3.kept (fun k hk => ?_)
      obtain ⟨cs, hc⟩ := ownZ_typ h3 hk
      exact hoth k _ _ hc (by decide) (by decide)
    · refine o1.kept (fun k hk => set_off w' y1 4 k _ (fun e => ?_))
      rw [o2] at hk
      exact HY.out (by rw [hk, e])
    · refine (h5 p ((List.mem_filter.1 hp).1)).keptF hsz (fun k hk => ?_)
      obtain ⟨_, _, cs, t, hc, ht⟩ := (h5 p ((List.mem_filter.1 hp).1)).typ k hk
      refine hoth k cs t hc ?_ ?_ <;> rcases ht with rfl | rfl <;> decide
    · rw [wo15_map, h6]
    · refine ⟨o3.os, o3.tape, o3.output, hsz, fun k hk hn => ?_⟩
      exact (set_off w' y1 4 k _ (fun e => hn (.inl e))).trans (o3.block k hk (fun e => hn (.inr e.symm)))
  have HE : Hid (∀ n : Nat, n = (P.filter fun x => decide (x.r ≠ r)).length → decide (wo15 x.lk r = []) = (((n : Nat) : Int) == 0)) := fun n hn => by
    have : (wo15 x.lk r).length = n := by rw [hn, ← h6, ← wo15_map, List.length_map]
    rw [← this]
    cases wo15 x.lk r with
    | nil => simp
    | cons a l => simp; omega
  obtain ⟨t0, t1, t2, t3, t4⟩ := tr_cells h1
  generalize P.length = np at *
  generalize x.rts.length = nr at *
  clear h1 h2 h3 h4 h5 h6 h7 h8 h9 h10 hin hPl hPn hnd hN t0 t1 t2 t3
  go_enter Try.func50, Try.ntmps50
  go_wp2_with fail
  refine (KW.out w rfl).mono ?_
  rintro e w2 ⟨va, vn, vc, rfl, o1, o2, o3, o4⟩
  obtain ⟨T3, F3, b3⟩ := HF.out w2 va vn vc o1 o3 o4
  have X3 : Hid (TrAt (w2.setCell ⟨y1, 4, none⟩ (.slice va vn vc)) F (y1, y2) q ⟨x.st, x.age, x.rts, wo15 x.lk r⟩ ∧ Off (fun k => k = y1 ∨ y2 = some k) w (w2.setCell ⟨y1, 4, none⟩ (.slice va vn vc))) := ⟨T3, F3⟩
  have HD : Hid (decide (wo15 x.lk r = []) = (((vn : Nat) : Int) == 0)) := HE.out vn o2
  obtain ⟨_, _, _, _, z4⟩ := tr_cells b3
  have fz := frozen_blk b3 4
  clear T3 F3 b3 o1 o2 o3 o4 KW HF HE t4
  go_wp2_with fail
  go_ret
  exact ⟨congrArg (fun z => Ending.returned (.bool z)) HD.out.symm, X3.out⟩
end Go.Proofs.Ythaeidbnbgghkaa
namespace Go.Proofs.Ythaeidbnbgghkaa
open Go.ChangeShapes Go.WideShapes Go.ChangeAt Go.RowKit Go.Deep Go.Maps
set_option linter.unusedVariables false
set_option linter.unusedSimpArgs false
theorem Cd.turnO {w u : World} {F : Nat → Prop} {b : Nat} {lim : Int} {n m : Nat} {B : Int → Option (Nat × Option Nat)} {X : Int → Option Tr} (h : Cd w F b lim n m B X) {q : Int} {y : Nat × Option Nat} (hy : B q = some y) (ho : Off (fun k => k = y.1 ∨ y.2 = some k) w u) {x' : Tr} (ht : TrAt u F y q x') : Cd u F b lim n m (updB B q y) (updX X q x') ∧ Stp F F w u := by
  have hF : ∀ k, (k = y.1 ∨ y.2 = some k) → F k := fun k hk => by
    obtain ⟨_, _, _, _, _, _, _, _, _, _, _, h7, _, h9, _⟩ := h.at hy
    rcases hk with rfl | hk
    · exact h7
    · exact h9 k hk
  refine ⟨h.turn hy ho.size (fun k hk => hk) (fun k hk => Nat.lt_of_lt_of_le (h.lt k hk) ho.size) (fun k hk n1 n2 => ho.block k (h.lt k hk) (by rintro (e | e); exact n1 e; exact n2 e)) rfl (.inl rfl) ht, ⟨⟨ho.os, ho.tape, ho.output, ho.size, fun k hk hn => ho.block k hk (fun e => hn (hF k e))⟩, fun k hk => .inl hk⟩⟩
theorem updB_at (B : Int → Option (Nat × Option Nat)) (q : Int) (y : Nat × Option Nat) : updB B q y q = some y := if_pos rfl
theorem updX_at (X : Int → Option Tr) (q : Int) (x : Tr) : updX X q x q = some x := if_pos rfl
theorem delX_upd (X : Int → Option Tr) (q : Int) (x : Tr) : delX (updX X q x) q = delX X q := by
  funext p
  unfold delX updX
  by_cases h : p = q <;> simp [h]
theorem mapT_updB (B : Int → Option (Nat × Option Nat)) (q : Int) (y : Nat × Option Nat) (h : B q = some y) : updB B q y = B := by
  funext p
  unfold updB
  by_cases e : p = q
  · rw [if_pos e, e, h]
  · rw [if_neg e]
/-- a coordinator, whichever blocks its transactions have -/
def Co (w : World) (F : Nat → Prop) (b : Nat) (lim : Int) (n m : Nat) (X : Int → Option Tr) : Prop := ∃ B, Cd w F b lim n m B X
theorem ScP.drop {w : World} {b n : Nat} {T : Int → Option (Option Nat)} (h : ScP w b n T) (p : Int) (hp : InI p) (ty : TypeId) : ∃ w', (Builtin.delete_ #[29, 3] ty #[.map (some b), .int .i64 p]).run Try.prog w = .ok (.tuple #[]) w' ∧ ScP w' b n (fun q => if q = p then none else T q) ∧ w.grownBy w' (some b) := by
  obtain ⟨D, h1, h2⟩ := h
  obtain ⟨w', hrun, r1, r2⟩ := h1.drop lawI Try.underlying29 (keyI p hp) ty
  exact ⟨w', hrun, ⟨_, r1, h2.del p hp⟩, r2.grown⟩
theorem Co.known {w : World} {F : Nat → Prop} {b : Nat} {lim : Int} {n m : Nat} {X : Int → Option Tr} (h : Co w F b lim n m X) : w.cell? ⟨b, 0, none⟩ = some (.int .i64 lim) ∧ w.cell? ⟨b, 1, none⟩ = some (.map (some m)) := by
  obtain ⟨B, h⟩ := h
  exact h.box.cells
theorem chain4 {w : World} {g : Nat} {a b c d a' b' c' d' : Value} {t : TypeId} (h : w.heap[g]? = some (.cells #[a, b, c, d] t)) : ((((w.setCell ⟨g, 0, none⟩ a').setCell ⟨g, 1, none⟩ b').setCell ⟨g, 2, none⟩ c').setCell ⟨g, 3, none⟩ d').heap[g]? = some (.cells #[a', b', c', d'] t) ∧ w.grownBy ((((w.setCell ⟨g, 0, none⟩ a').setCell ⟨g, 1, none⟩ b').setCell ⟨g, 2, none⟩ c').setCell ⟨g, 3, none⟩ d') (some g) := by
  have h1 := setCell_blk (i := 0) a' h
  have h2 := setCell_blk (i := 1) b' h1
  have h3 := setCell_blk (i := 2) c' h2
  have h4 := setCell_blk (i := 3) d' h3
  refine ⟨by rw [h4]; simp, rfl, rfl, rfl, by simp [World.setCell], fun k hk hn => ?_⟩
  have hne : k ≠ g := fun e => hn (by rw [e])
  exact (set_off _ g 3 k d' hne).trans ((set_off _ g 2 k c' hne).trans ((set_off _ g 1 k b' hne).trans (set_off _ g 0 k a' hne)))
theorem sizeSd : (Try.prog.info? 46).map (·.size) = some 4 := by kernel_rfl
theorem cells4 {w : World} {g : Nat} {a b c d : Value} {t : TypeId} (h : w.heap[g]? = some (.cells #[a, b, c, d] t)) : w.cell? ⟨g, 0, none⟩ = some a ∧ w.cell? ⟨g, 1, none⟩ = some b ∧ w.cell? ⟨g, 2, none⟩ = some c ∧ w.cell? ⟨g, 3, none⟩ = some d := by
  refine ⟨?_, ?_, ?_, ?_⟩ <;> simp [World.cell?, h]
/-- what is new may turn beside a coordinator -/
theorem Co.beside {w u : World} {F : Nat → Prop} {b : Nat} {lim : Int} {n m : Nat} {X : Int → Option Tr} (h : Co w F b lim n m X) {g : Nat} (hg : w.grownBy u (some g)) (hn : ¬ F g) : Co u F b lim n m X := by
  obtain ⟨B, h⟩ := h
  exact ⟨B, h.kept hg.size (fun k hk => hg.block k (h.lt k hk) (fun e => hn (by cases e; exact hk)))⟩
theorem Stp.beside {w w' u : World} {F : Nat → Prop} (h : Stp F F w w') {g : Nat} (hg : w'.grownBy u (some g)) (hz : w.heap.size ≤ g) : Stp F F w u := ⟨h.off.grown hg (fun k hk => by cases hk; exact .inr hz), h.sub⟩
def sd (V : Value) (l c g : Int) : Value := .agg #[V, .int .i64 l, .int .i64 c, .int .i64 g]
/-- the plain answer to an ack -/
def akX (X : Int → Option Tr) (q : Int) (x : Tr) (r : Int) : Int → Option Tr := if wo15 x.lk r = [] then delX X q else updX X q ⟨x.st, x.age, x.rts, wo15 x.lk r⟩
set_option maxRecDepth 100000 in
set_option maxHeartbeats 8000000 in
theorem acked_is (w : World) (F : Nat → Prop) (b : Nat) (lim : Int) (n m : Nat) (B : Int → Option (Nat × Option Nat)) (X : Int → Option Tr) (h : Cd w F b lim n m B X) (q : Int) (x : Tr) (hx : X q = some x) (y : Nat × Option Nat) (hy : B q = some y) (hnd : (x.lk.map Prod.fst).Nodup) (hN : x.lk.length ≤ 1000) (r : Int) :
    Calls Try.prog 36 #[.pointer (some ⟨b, 0, none⟩), .pointer (some ⟨y.1, 0, none⟩), .int .i64 r] w fun e w' => e = .returned (sd (.slice none 0 0) 0 (if wo15 x.lk r = [] then q else 0) 0) ∧ Co w' F b lim n m (akX X q x r) ∧ Stp F F w w' := by
  obtain ⟨x0, hx0, ht⟩ := h.at hy
  rw [hx] at hx0
  cases hx0
  have hq : InI q := (h.each q x hx).1
  obtain ⟨W0, hW0⟩ : ∃ W0, W0 = w.alloc (.cells #[.slice none 0 0, .int .i64 0, .int .i64 0, .int .i64 0] 46) := ⟨_, rfl⟩
  have HW0 : Hid (w.alloc (.cells #[.slice none 0 0, .int .i64 0, .int .i64 0, .int .i64 0] 46) = W0) := hW0.symm
  have b0 : Below w.heap.size w W0 := by rw [hW0]; exact below1 w _
  have KH : Hid (Calls Try.prog 50 #[.pointer (some ⟨y.1, 0, none⟩), .int .i64 r] W0 fun e w' => e = .returned (.bool (decide (wo15 x.lk r = []))) ∧ Cd w' F b lim n m (updB B q y) (updX X q ⟨x.st, x.age, x.rts, wo15 x.lk r⟩) ∧ Stp F F w w' ∧ w'.heap[w.heap.size]? = some (.cells #[.slice none 0 0, .int .i64 0, .int .i64 0, .int .i64 0] 46)) := by
    refine (hasAll_is W0 F y q x (ht.kept b0.size (fun k hk => b0.block k (h.lt k hk))) hnd hN r).mono ?_
    rintro e w' ⟨rfl, h1, h2⟩
    obtain ⟨k1, k2⟩ := (h.keep b0).turnO hy h2 h1
    exact ⟨rfl, k1, (Stp.below b0).trans k2, (h2.block w.heap.size (by rw [hW0]; simp) (by
      have hFy : ∀ k, (k = y.1 ∨ y.2 = some k) → F k := fun k hk => by
        obtain ⟨_, _, _, _, _, _, _, _, _, h7, _, h9, _⟩ := ht
        rcases hk with rfl | hk
        · exact h7
        · exact h9 k hk
      exact fun hd => absurd (h.lt _ (hFy _ hd)) (Nat.lt_irrefl _))).trans (by rw [hW0]; exact heap_alloc_new w _)⟩
  have HQ : Hid (InI q) := hq
  have HFS : Hid (¬ F w.heap.size) := fun e => absurd (h.lt _ e) (Nat.lt_irrefl _)
  unfold sd akX
  by_cases he : wo15 x.lk r = []
  · rw [if_pos he, if_pos he]
    have KH : Hid (Calls Try.prog 50 #[.pointer (some ⟨y.1, 0, none⟩), .int .i64 r] W0 fun e w' => e = .returned (.bool true) ∧ Cd w' F b lim n m (updB B q y) (updX X q ⟨x.st, x.age, x.rts, wo15 x.lk r⟩) ∧ Stp F F w w' ∧ w'.heap[w.heap.size]? = some (.cells #[.slice none 0 0, .int .i64 0, .int .i64 0, .int .i64 0] 46)) := by have := KH.out; rw [decide_eq_true he] at this; exact this
    obtain ⟨y1, y2⟩ := y
    simp only at KH ⊢
    clear h hx hy hnd hN ht he hq b0 hW0
    go_enter Try.func36, Try.ntmps36
    go_wp2_with fail
    rw [HW0.out]
    refine KH.out.mono ?_
    rintro e w1 ⟨rfl, h1, s1, r1⟩
    obtain ⟨c0, c1⟩ := h1.box.cells
    obtain ⟨x1, _, ht1⟩ := h1.at (updB_at B q (y1, y2))
    obtain ⟨_, _, _, _, _, hb, _⟩ := ht1.open
    obtain ⟨t0, _, _, _, _⟩ := tr_cells hb
    have H1 : Hid (Cd w1 F b lim n m (updB B q (y1, y2)) (updX X q ⟨x.st, x.age, x.rts, wo15 x.lk r⟩) ∧ Stp F F w w1 ∧ y1 < w1.heap.size ∧ F m ∧ y1 ≠ m) := ⟨h1, s1, lt_of_heapK hb, h1.fm, fun e => h1.map.noCells (e ▸ hb)⟩
    simp only at t0
    obtain ⟨w2, hdl, m2, g2⟩ := (show ScP w1.drew m n _ from h1.map).drop q HQ.out 0
    have HNF : Hid (¬ F w.heap.size) := HFS.out
    have H2 : Hid (Co w2 F b lim n m (delX X q) ∧ Stp F F w w2 ∧ w2.heap[w.heap.size]? = some (.cells #[.slice none 0 0, .int .i64 0, .int .i64 0, .int .i64 0] 46) ∧ w2.cell? ⟨y1, 0, none⟩ = some (.int .i64 q)) := by
      have hd := (show Cd w1.drew F b lim n m _ _ from h1.keep (Below.refl _ w1).drew).del g2 m2
      rw [delX_upd] at hd
      refine ⟨⟨_, hd⟩, ⟨(s1.off.andBelow (Below.refl _ w1).drew).grown g2 (fun k hk => by cases hk; exact .inl h1.fm), fun k hk => .inl hk⟩, ?_, ?_⟩
      · refine (g2.block _ (lt_of_heapK r1) (fun e => ?_)).trans r1
        cases e
        exact h1.map.noCells r1
      · exact (World.cell?_of_block (a := ⟨y1, 0, none⟩) (g2.block y1 (lt_of_heapK hb) (fun e => by cases e; exact h1.map.noCells hb))).trans t0
    clear h1 s1 ht1 hb KH r1 m2 g2
    go_wp2_with fail
    refine wp_region_noPanic ?_
    refine wp_region_held_drew (S := (fun W : World => W.cell? ⟨b, 1, none⟩ = some (.map (some m)) ∧ W.cell? ⟨y1, 0, none⟩ = some (.int .i64 q))) (by kernel_rfl) ?hSak (fun hHeld => ?restak)
    case hSak => exact ⟨c1, t0⟩
    case restak =>
      refine wpAnyH_take (i := 0) (v := .pointer (some ⟨b, 0, none⟩)) rfl (by kernel_rfl) (by kernel_rfl) (by kernel_rfl) (fun _ _ _ h => h) (Or.inl ⟨by kernel_rfl, ?hy0k⟩) hHeld ?rest0k
      case hy0k => (intro w' hSw; (try dsimp only at hSw); go_simp; try with_reducible rfl)
      try simp only [Act.put, List.setIfInBounds_toArray, List.set_cons_zero, List.set_cons_succ, List.getElem_toArray, List.getElem_cons_zero, List.getElem_cons_succ]
      refine wpAnyH_take (i := 1) (v := .pointer (some ⟨b, 0, none⟩)) rfl (by kernel_rfl) (by kernel_rfl) (by kernel_rfl) (fun _ _ _ h => h) (Or.inl ⟨by kernel_rfl, ?hy1k⟩) hHeld ?rest1k
      case hy1k => (intro w' hSw; (try dsimp only at hSw); go_simp; try with_reducible rfl)
      try simp only [Act.put, List.setIfInBounds_toArray, List.set_cons_zero, List.set_cons_succ, List.getElem_toArray, List.getElem_cons_zero, List.getElem_cons_succ]
      refine wpAnyH_take (i := 2) (v := .pointer (some ⟨b, 1, none⟩)) rfl (by kernel_rfl) (by kernel_rfl) (by kernel_rfl) (fun _ _ _ h => h) (Or.inl ⟨by kernel_rfl, ?hy2k⟩) hHeld ?rest2k
      case hy2k => (intro w' hSw; (try dsimp only at hSw); go_simp; try with_reducible rfl)
      try simp only [Act.put, List.setIfInBounds_toArray, List.set_cons_zero, List.set_cons_succ, List.getElem_toArray, List.getElem_cons_zero, List.getElem_cons_succ]
      refine wpAnyH_take (i := 3) (v := .map (some m)) rfl (by kernel_rfl) (by kernel_rfl) (by kernel_rfl) (fun _ _ _ h => h) (Or.inl ⟨by kernel_rfl, ?hy3k⟩) hHeld ?rest3k
      case hy3k => (intro w' hSw; (try dsimp only at hSw); obtain ⟨p1, p0⟩ := hSw; go_simp; try with_reducible rfl)
      try simp only [Act.put, List.setIfInBounds_toArray, List.set_cons_zero, List.set_cons_succ, List.getElem_toArray, List.getElem_cons_zero, List.getElem_cons_succ]
      refine wpAnyH_take (i := 4) (v := .pointer (some ⟨y1, 0, none⟩)) rfl (by kernel_rfl) (by kernel_rfl) (by kernel_rfl) (fun _ _ _ h => h) (Or.inl ⟨by kernel_rfl, ?hy4k⟩) hHeld ?rest4k
      case hy4k => (intro w' hSw; (try dsimp only at hSw); go_simp; try with_reducible rfl)
      try simp only [Act.put, List.setIfInBounds_toArray, List.set_cons_zero, List.set_cons_succ, List.getElem_toArray, List.getElem_cons_zero, List.getElem_cons_succ]
      refine wpAnyH_take (i := 5) (v := .pointer (some ⟨y1, 0, none⟩)) rfl (by kernel_rfl) (by kernel_rfl) (by kernel_rfl) (fun _ _ _ h => h) (Or.inl ⟨by kernel_rfl, ?hy5k⟩) hHeld ?rest5k
      case hy5k => (intro w' hSw; (try dsimp only at hSw); go_simp; try with_reducible rfl)
      try simp only [Act.put, List.setIfInBounds_toArray, List.set_cons_zero, List.set_cons_succ, List.getElem_toArray, List.getElem_cons_zero, List.getElem_cons_succ]
      refine wpAnyH_take (i := 6) (v := .pointer (some ⟨y1, 0, none⟩)) rfl (by kernel_rfl) (by kernel_rfl) (by kernel_rfl) (fun _ _ _ h => h) (Or.inl ⟨by kernel_rfl, ?hy6k⟩) hHeld ?rest6k
      case hy6k => (intro w' hSw; (try dsimp only at hSw); go_simp; try with_reducible rfl)
      try simp only [Act.put, List.setIfInBounds_toArray, List.set_cons_zero, List.set_cons_succ, List.getElem_toArray, List.getElem_cons_zero, List.getElem_cons_succ]
      refine wpAnyH_take (i := 7) (v := .int .i64 q) rfl (by kernel_rfl) (by kernel_rfl) (by kernel_rfl) (fun _ _ _ h => h) (Or.inl ⟨by kernel_rfl, ?hy7k⟩) hHeld ?rest7k
      case hy7k => (intro w' hSw; (try dsimp only at hSw); obtain ⟨p1, p0⟩ := hSw; go_simp; try with_reducible rfl)
      try simp only [Act.put, List.setIfInBounds_toArray, List.set_cons_zero, List.set_cons_succ, List.getElem_toArray, List.getElem_cons_zero, List.getElem_cons_succ]
      refine wpAnyH_ready (rs := [8]) (by kernel_rfl) (by simp) ?_
      refine AllReadyH.cons rfl (fun K hK => ?_) AllReadyH.nil
      go_wp2_with fail
      refine hK.out _ _ ?hS8k (fun hHeld => ?rest8k)
      case hS8k => exact ⟨H2.out.1.known.2, H2.out.2.2.2⟩
      clear hK K
      try simp only [Act.put, List.setIfInBounds_toArray, List.set_cons_zero, List.set_cons_succ, List.getElem_toArray, List.getElem_cons_zero, List.getElem_cons_succ]
      obtain ⟨r0, r1, r2, r3⟩ := cells4 H2.out.2.2.1
      have f0 := frozen_blk H2.out.2.2.1 0
      have f1 := frozen_blk H2.out.2.2.1 1
      have f2 := frozen_blk H2.out.2.2.1 2
      have f3 := frozen_blk H2.out.2.2.1 3
      have q0 := H2.out.2.2.2
      refine wpAnyH_done (by kernel_rfl) ?_ _
      refine NoPanic.normal ?_
      try go_wp2_with fail
      obtain ⟨e1, e2⟩ := chain4 (a' := .slice none 0 0) (b' := .int .i64 0) (c' := .int .i64 q) (d' := .int .i64 0) H2.out.2.2.1
      exact bodyPost_ret (results_cell_row Try.results36 _ _ w.heap.size 46 _ (0, 0) _ rfl e1 Try.underlying46 rfl sizeSd) rfl ⟨rfl, H2.out.1.beside e2 HNF.out, H2.out.2.1.beside e2 (Nat.le_refl _)⟩
  · rw [if_neg he, if_neg he]
    have KH : Hid (Calls Try.prog 50 #[.pointer (some ⟨y.1, 0, none⟩), .int .i64 r] W0 fun e w' => e = .returned (.bool false) ∧ Cd w' F b lim n m (updB B q y) (updX X q ⟨x.st, x.age, x.rts, wo15 x.lk r⟩) ∧ Stp F F w w' ∧ w'.heap[w.heap.size]? = some (.cells #[.slice none 0 0, .int .i64 0, .int .i64 0, .int .i64 0] 46)) := by have := KH.out; rw [decide_eq_false he] at this; exact this
    obtain ⟨y1, y2⟩ := y
    simp only at KH ⊢
    clear h hx hy hnd hN ht he hq b0 hW0
    go_enter Try.func36, Try.ntmps36
    go_wp2_with fail
    rw [HW0.out]
    refine KH.out.mono ?_
    rintro e w1 ⟨rfl, h1, s1, r1⟩
    have H1 : Hid ((Co w1 F b lim n m (updX X q ⟨x.st, x.age, x.rts, wo15 x.lk r⟩)) ∧ Stp F F w w1 ∧ w1.heap[w.heap.size]? = some (.cells #[.slice none 0 0, .int .i64 0, .int .i64 0, .int .i64 0] 46)) := ⟨⟨_, h1⟩, s1, r1⟩
    clear h1 s1 KH
    obtain ⟨r0, r1', r2, r3⟩ := cells4 r1
    have f0 := frozen_blk r1 0
    have f1 := frozen_blk r1 1
    have f2 := frozen_blk r1 2
    have f3 := frozen_blk r1 3
    clear r1
    go_wp2_with fail
    obtain ⟨e1, e2⟩ := chain4 (a' := .slice none 0 0) (b' := .int .i64 0) (c' := .int .i64 0) (d' := .int .i64 0) H1.out.2.2
    exact bodyPost_ret (results_cell_row Try.results36 _ _ w.heap.size 46 _ (0, 0) _ rfl e1 Try.underlying46 rfl sizeSd) rfl ⟨rfl, H1.out.1.beside e2 HFS.out, H1.out.2.1.beside e2 (Nat.le_refl _)⟩
end Go.Proofs.Ythaeidbnbgghkaa
namespace Go.Proofs.Ythaeidbnbgghkaa
open Go.ChangeShapes Go.WideShapes Go.ChangeAt Go.RowKit Go.Deep Go.Maps
set_option linter.unusedVariables false
set_option linter.unusedSimpArgs false
/-- what a function of letters has: the kind, and the transaction -/
def Mk (w : World) (kb tb : Nat) (k x : Int) : Prop := w.cell? ⟨kb, 0, none⟩ = some (.int .i64 k) ∧ w.cell? ⟨tb, 0, none⟩ = some (.int .i64 x) ∧ kb < w.heap.size ∧ tb < w.heap.size
theorem Mk.keep {w w' : World} {kb tb : Nat} {k x : Int} (h : Mk w kb tb k x) (hb : Below w.heap.size w w') : Mk w' kb tb k x := ⟨(hb.cell (p := ⟨kb, 0, none⟩) h.2.2.1).trans h.1, (hb.cell (p := ⟨tb, 0, none⟩) h.2.2.2).trans h.2.1, Nat.lt_of_lt_of_le h.2.2.1 hb.size, Nat.lt_of_lt_of_le h.2.2.2 hb.size⟩
theorem letters_mk (w : World) (k x : Int) : Calls Try.prog 38 #[.int .i64 k, .int .i64 x] w fun e w' => ∃ kb tb, e = .returned (.func (.func 52) #[] #[.pointer (some ⟨kb, 0, none⟩), .pointer (some ⟨tb, 0, none⟩)]) ∧ Mk w' kb tb k x ∧ Below w.heap.size w w' := by
  refine (letters_is w k x).mono ?_
  rintro e w' ⟨rfl, rfl⟩
  have b1 := below1 w (.cells #[.int .i64 k] 3)
  have b2 := below1 (w.alloc (.cells #[.int .i64 k] 3)) (.cells #[.int .i64 x] 3)
  have g1 := (b2.block w.heap.size (by simp)).trans (heap_alloc_new w (.cells #[.int .i64 k] 3))
  have g2 := heap_alloc_new (w.alloc (.cells #[.int .i64 k] 3)) (.cells #[.int .i64 x] 3)
  rw [show (w.alloc (.cells #[.int .i64 k] 3)).heap.size = w.heap.size + 1 by simp] at g2
  exact ⟨_, _, rfl, ⟨one_cellK g1, one_cellK g2, lt_of_heapK g1, lt_of_heapK g2⟩, b1.trans (b2.mono b1.size)⟩
theorem letters1_mk (w : World) (a : Option Addr) (n c : Nat) (P : List Pv) (hP : InPv w a P) (hn : P.length = n) (hN : n ≤ 100000000) (hok : ∀ x ∈ P, PvOk w x) (kb tb : Nat) (k x : Int) (h : Mk w kb tb k x) :
    Calls Try.prog 52 #[.slice a n c, .pointer (some ⟨kb, 0, none⟩), .pointer (some ⟨tb, 0, none⟩)] w fun e w' => ∃ V Q, e = .returned V ∧ Ltr w.heap.size w' V k x Q ∧ Q.map (fun q => (q.r, q.co)) = P.map (fun q => (q.r, q.co)) ∧ Below w.heap.size w w' :=
  letters1_is w a n c P hP hn hN hok kb tb k x h.1 h.2.1 h.2.2.1 h.2.2.2
theorem TrAt.map {w u : World} {F : Nat → Prop} {y : Nat × Option Nat} {q : Int} {x : Tr} (i3 : TrAt w F y q x) {m n : Nat} {T : Int → Option (Option Nat)} (hm : ScP w m n T) (hlt : ∀ k, F k → k < w.heap.size) (hg : w.grownBy u (some m)) : TrAt u F y q x := by
  have hnm : ∀ cs t, w.heap[m]? ≠ some (.cells cs t) := fun cs t hc => hm.noCells hc
  have hstay : ∀ k, F k → k ≠ m → u.heap[k]? = w.heap[k]? := fun k hk hn => hg.block k (hlt k hk) (fun e => hn (by cases e; rfl))
  obtain ⟨vr, vl, P, k1, k2, k3, k4, k5, k6, k7, k8, k9, k10⟩ := i3
  have hb : ∀ k cs t, w.heap[k]? = some (Obj.cells cs t) → F k → u.heap[k]? = w.heap[k]? := fun k cs t hc hk => hstay k hk (fun e => hnm cs t (e ▸ hc))
  refine ⟨vr, vl, P, (hb _ _ _ k1 k7).trans k1, k2, k3.kept (fun k hk => ?_), k4.kept (fun k hk => ?_), fun p hp => (k5 p hp).keptF hg.size (fun k hk => ?_), k6, k7, k8, k9, k10⟩
  · obtain ⟨cs, hc⟩ := ownZ_typ k3 hk
    exact hb k _ _ hc (k8 k hk)
  · obtain ⟨cs, hc⟩ := ownPv_typ k4 hk
    exact hb k _ _ hc (k9 k (k2 ▸ hk))
  · obtain ⟨_, _, cs, t, hc, _⟩ := (k5 p hp).typ k hk
    exact hb k _ _ hc (k10 p hp k hk)
theorem Co.keep {w w' : World} {F : Nat → Prop} {b : Nat} {lim : Int} {n m : Nat} {X : Int → Option Tr} (h : Co w F b lim n m X) (hb : Below w.heap.size w w') : Co w' F b lim n m X := by
  obtain ⟨B, h⟩ := h
  exact ⟨B, h.keep hb⟩
theorem bare_okW {w : World} (l : List Int) : ∀ x ∈ l.map bPv, PvOk w x := fun x hx => by
  obtain ⟨r, _, rfl⟩ := List.mem_map.1 hx
  exact (bPv_new w 0 r).st
theorem bare_co (l : List Int) : (l.map bPv).map (fun q => (q.r, q.co)) = l.map fun r => (r, ([] : List Pc)) := by
  induction l with
  | nil => rfl
  | cons a l ih => rw [List.map_cons, List.map_cons, List.map_cons, ih]; rfl
set_option maxRecDepth 100000 in
set_option maxHeartbeats 8000000 in
theorem giveUp_is (w : World) (F : Nat → Prop) (b : Nat) (lim : Int) (n m : Nat) (B : Int → Option (Nat × Option Nat)) (X : Int → Option Tr) (h : Cd w F b lim n m B X) (q : Int) (x : Tr) (hx : X q = some x) (y : Nat × Option Nat) (hy : B q = some y) (hN : x.rts.length ≤ 1000) :
    Calls Try.prog 32 #[.pointer (some ⟨b, 0, none⟩), .pointer (some ⟨y.1, 0, none⟩)] w fun e w' => ∃ V Q, e = .returned V ∧ Ltr w.heap.size w' V 4 q Q ∧ Q.map (fun p => (p.r, p.co)) = x.rts.map (fun r => (r, ([] : List Pc))) ∧ Co w' F b lim n m (delX X q) ∧ Stp F F w w' := by
  obtain ⟨x0, hx0, ht⟩ := h.at hy
  rw [hx] at hx0
  cases hx0
  have HQ : Hid (InI q) := (h.each q x hx).1
  obtain ⟨y1, y2⟩ := y
  obtain ⟨ra, rc, la, lc, P, hb, _⟩ := ht.open
  obtain ⟨t0, _, _, _, _⟩ := tr_cells hb
  simp only at t0
  obtain ⟨w2, hdl, m2, g2⟩ := (show ScP w.drew m n _ from h.map).drop q HQ.out 0
  have hd := (show Cd w.drew F b lim n m _ _ from h.keep (Below.refl _ w).drew).del g2 m2
  have ht2 := (ht.kept (w' := w.drew) (Nat.le_refl _) (fun k _ => rfl)).map (show ScP w.drew m n _ from h.map) (fun k hk => h.lt k hk) g2
  obtain ⟨ra2, rc2, la2, lc2, P2, hb2, hz2, _⟩ := ht2.open
  obtain ⟨_, _, _, z3, _⟩ := tr_cells hb2
  simp only at z3
  have t02 : w2.cell? ⟨y1, 0, none⟩ = some (.int .i64 q) := by
    obtain ⟨z0, _, _, _, _⟩ := tr_cells hb2
    exact z0
  have H2 : Hid (Co w2 F b lim n m (delX X q) ∧ Stp F F w w2 ∧ w2.cell? ⟨b, 1, none⟩ = some (.map (some m)) ∧ y1 < w2.heap.size) := ⟨⟨_, hd⟩, ⟨((Off.refl F w).andBelow (Below.refl _ w).drew).grown g2 (fun k hk => by cases hk; exact .inl h.fm), fun k hk => .inl hk⟩, hd.box.cells.2, lt_of_heapK hb2⟩
  have HZ : Hid (w.heap.size ≤ w2.heap.size) := g2.size
  have HR : Hid (∀ u, Below w2.heap.size w2 u → InZ u ra2 x.rts) := fun u hu => hz2.keep hu
  have HY : Hid (∀ u, Below w2.heap.size w2 u → u.cell? ⟨y1, 0, none⟩ = some (.int .i64 q) ∧ u.cell? ⟨y1, 3, none⟩ = some (.slice ra2 x.rts.length rc2)) := fun u hu => ⟨(hu.cell (p := ⟨y1, 0, none⟩) (lt_of_heapK hb2)).trans t02, (hu.cell (p := ⟨y1, 3, none⟩) (lt_of_heapK hb2)).trans z3⟩
  obtain ⟨c0, c1⟩ := h.box.cells
  have HN : Hid (∀ nr, nr = x.rts.length → nr ≤ 1000) := fun nr e => e ▸ hN
  have HE : Hid (x.rts.length = x.rts.length) := rfl
  obtain ⟨nr, hnr⟩ : ∃ nr, nr = x.rts.length := ⟨_, rfl⟩
  have HL : Hid (x.rts.length = nr ∧ nr ≤ 1000) := ⟨hnr.symm, by omega⟩
  rw [← hnr] at HY z3
  clear h ht hb hx hy hd ht2 hb2 hz2 m2 g2 t02 hN HN HE hnr z3
  go_enter Try.func32, Try.ntmps32
  go_wp2_with fail
  refine wp_region_noPanic ?_
  refine wp_region_held_drew (S := (fun W : World => W.cell? ⟨b, 1, none⟩ = some (.map (some m)) ∧ W.cell? ⟨y1, 0, none⟩ = some (.int .i64 q))) (by kernel_rfl) ?hSak (fun hHeld => ?restak)
  case hSak => exact ⟨c1, t0⟩
  case restak =>
    refine wpAnyH_take (i := 0) (v := .pointer (some ⟨b, 0, none⟩)) rfl (by kernel_rfl) (by kernel_rfl) (by kernel_rfl) (fun _ _ _ h => h) (Or.inl ⟨by kernel_rfl, ?hy0k⟩) hHeld ?rest0k
    case hy0k => (intro w' hSw; (try dsimp only at hSw); go_simp; try with_reducible rfl)
    try simp only [Act.put, List.setIfInBounds_toArray, List.set_cons_zero, List.set_cons_succ, List.getElem_toArray, List.getElem_cons_zero, List.getElem_cons_succ]
    refine wpAnyH_take (i := 1) (v := .pointer (some ⟨b, 0, none⟩)) rfl (by kernel_rfl) (by kernel_rfl) (by kernel_rfl) (fun _ _ _ h => h) (Or.inl ⟨by kernel_rfl, ?hy1k⟩) hHeld ?rest1k
    case hy1k => (intro w' hSw; (try dsimp only at hSw); go_simp; try with_reducible rfl)
    try simp only [Act.put, List.setIfInBounds_toArray, List.set_cons_zero, List.set_cons_succ, List.getElem_toArray, List.getElem_cons_zero, List.getElem_cons_succ]
    refine wpAnyH_take (i := 2) (v := .pointer (some ⟨b, 1, none⟩)) rfl (by kernel_rfl) (by kernel_rfl) (by kernel_rfl) (fun _ _ _ h => h) (Or.inl ⟨by kernel_rfl, ?hy2k⟩) hHeld ?rest2k
    case hy2k => (intro w' hSw; (try dsimp only at hSw); go_simp; try with_reducible rfl)
    try simp only [Act.put, List.setIfInBounds_toArray, List.set_cons_zero, List.set_cons_succ, List.getElem_toArray, List.getElem_cons_zero, List.getElem_cons_succ]
    refine wpAnyH_take (i := 3) (v := .map (some m)) rfl (by kernel_rfl) (by kernel_rfl) (by kernel_rfl) (fun _ _ _ h => h) (Or.inl ⟨by kernel_rfl, ?hy3k⟩) hHeld ?rest3k
    case hy3k => (intro w' hSw; (try dsimp only at hSw); obtain ⟨p1, p0⟩ := hSw; go_simp; try with_reducible rfl)
    try simp only [Act.put, List.setIfInBounds_toArray, List.set_cons_zero, List.set_cons_succ, List.getElem_toArray, List.getElem_cons_zero, List.getElem_cons_succ]
    refine wpAnyH_take (i := 4) (v := .pointer (some ⟨y1, 0, none⟩)) rfl (by kernel_rfl) (by kernel_rfl) (by kernel_rfl) (fun _ _ _ h => h) (Or.inl ⟨by kernel_rfl, ?hy4k⟩) hHeld ?rest4k
    case hy4k => (intro w' hSw; (try dsimp only at hSw); go_simp; try with_reducible rfl)
    try simp only [Act.put, List.setIfInBounds_toArray, List.set_cons_zero, List.set_cons_succ, List.getElem_toArray, List.getElem_cons_zero, List.getElem_cons_succ]
    refine wpAnyH_take (i := 5) (v := .pointer (some ⟨y1, 0, none⟩)) rfl (by kernel_rfl) (by kernel_rfl) (by kernel_rfl) (fun _ _ _ h => h) (Or.inl ⟨by kernel_rfl, ?hy5k⟩) hHeld ?rest5k
    case hy5k => (intro w' hSw; (try dsimp only at hSw); go_simp; try with_reducible rfl)
    try simp only [Act.put, List.setIfInBounds_toArray, List.set_cons_zero, List.set_cons_succ, List.getElem_toArray, List.getElem_cons_zero, List.getElem_cons_succ]
    refine wpAnyH_take (i := 6) (v := .pointer (some ⟨y1, 0, none⟩)) rfl (by kernel_rfl) (by kernel_rfl) (by kernel_rfl) (fun _ _ _ h => h) (Or.inl ⟨by kernel_rfl, ?hy6k⟩) hHeld ?rest6k
    case hy6k => (intro w' hSw; (try dsimp only at hSw); go_simp; try with_reducible rfl)
    try simp only [Act.put, List.setIfInBounds_toArray, List.set_cons_zero, List.set_cons_succ, List.getElem_toArray, List.getElem_cons_zero, List.getElem_cons_succ]
    refine wpAnyH_take (i := 7) (v := .int .i64 q) rfl (by kernel_rfl) (by kernel_rfl) (by kernel_rfl) (fun _ _ _ h => h) (Or.inl ⟨by kernel_rfl, ?hy7k⟩) hHeld ?rest7k
    case hy7k => (intro w' hSw; (try dsimp only at hSw); obtain ⟨p1, p0⟩ := hSw; go_simp; try with_reducible rfl)
    try simp only [Act.put, List.setIfInBounds_toArray, List.set_cons_zero, List.set_cons_succ, List.getElem_toArray, List.getElem_cons_zero, List.getElem_cons_succ]
    refine wpAnyH_ready (rs := [8]) (by kernel_rfl) (by simp) ?_
    refine AllReadyH.cons rfl (fun K hK => ?_) AllReadyH.nil
    go_wp2_with fail
    refine hK.out _ _ ?hS8k (fun hHeld => ?rest8k)
    case hS8k => exact ⟨H2.out.2.2.1, (HY.out w2 (Below.refl _ _)).1⟩
    clear hK K
    try simp only [Act.put, List.setIfInBounds_toArray, List.set_cons_zero, List.set_cons_succ, List.getElem_toArray, List.getElem_cons_zero, List.getElem_cons_succ]
    refine wpAnyH_done (by kernel_rfl) ?_ _
    refine NoPanic.normal ?_
    try go_wp2_with fail
    refine wp_region_noPanic ?_
    refine wp_region_held_drew (S := (fun W : World => Below w2.heap.size w2 W)) (by kernel_rfl) ?hSag (fun hHeld => ?restag)
    case hSag => exact (Below.refl _ w2).drew
    case restag =>
      refine wpAnyH_take (i := 0) (v := .pointer (some ⟨y1, 0, none⟩)) rfl (by kernel_rfl) (by kernel_rfl) (by kernel_rfl) (fun _ _ _ h => h) (Or.inl ⟨by kernel_rfl, ?hy0g⟩) hHeld ?rest0g
      case hy0g => (intro w' hSw; (try dsimp only at hSw); go_simp; try with_reducible rfl)
      try simp only [Act.put, List.setIfInBounds_toArray, List.set_cons_zero, List.set_cons_succ, List.getElem_toArray, List.getElem_cons_zero, List.getElem_cons_succ]
      refine wpAnyH_take (i := 1) (v := .pointer (some ⟨y1, 0, none⟩)) rfl (by kernel_rfl) (by kernel_rfl) (by kernel_rfl) (fun _ _ _ h => h) (Or.inl ⟨by kernel_rfl, ?hy1g⟩) hHeld ?rest1g
      case hy1g => (intro w' hSw; (try dsimp only at hSw); go_simp; try with_reducible rfl)
      try simp only [Act.put, List.setIfInBounds_toArray, List.set_cons_zero, List.set_cons_succ, List.getElem_toArray, List.getElem_cons_zero, List.getElem_cons_succ]
      refine wpAnyH_take (i := 2) (v := .pointer (some ⟨y1, 0, none⟩)) rfl (by kernel_rfl) (by kernel_rfl) (by kernel_rfl) (fun _ _ _ h => h) (Or.inl ⟨by kernel_rfl, ?hy2g⟩) hHeld ?rest2g
      case hy2g => (intro w' hSw; (try dsimp only at hSw); go_simp; try with_reducible rfl)
      try simp only [Act.put, List.setIfInBounds_toArray, List.set_cons_zero, List.set_cons_succ, List.getElem_toArray, List.getElem_cons_zero, List.getElem_cons_succ]
      refine wpAnyH_take (i := 3) (v := .int .i64 q) rfl (by kernel_rfl) (by kernel_rfl) (by kernel_rfl) (fun _ _ _ h => h) (Or.inl ⟨by kernel_rfl, ?hy3g⟩) hHeld ?rest3g
      case hy3g => (intro w' hSw; (try dsimp only at hSw); have p0 := (HY.out _ hSw).1; have p3 := (HY.out _ hSw).2; go_simp; try with_reducible rfl)
      try simp only [Act.put, List.setIfInBounds_toArray, List.set_cons_zero, List.set_cons_succ, List.getElem_toArray, List.getElem_cons_zero, List.getElem_cons_succ]
      refine wpAnyH_take (i := 5) (v := .pointer (some ⟨y1, 0, none⟩)) rfl (by kernel_rfl) (by kernel_rfl) (by kernel_rfl) (fun _ _ _ h => h) (Or.inl ⟨by kernel_rfl, ?hy5g⟩) hHeld ?rest5g
      case hy5g => (intro w' hSw; (try dsimp only at hSw); go_simp; try with_reducible rfl)
      try simp only [Act.put, List.setIfInBounds_toArray, List.set_cons_zero, List.set_cons_succ, List.getElem_toArray, List.getElem_cons_zero, List.getElem_cons_succ]
      refine wpAnyH_take (i := 6) (v := .pointer (some ⟨y1, 0, none⟩)) rfl (by kernel_rfl) (by kernel_rfl) (by kernel_rfl) (fun _ _ _ h => h) (Or.inl ⟨by kernel_rfl, ?hy6g⟩) hHeld ?rest6g
      case hy6g => (intro w' hSw; (try dsimp only at hSw); go_simp; try with_reducible rfl)
      try simp only [Act.put, List.setIfInBounds_toArray, List.set_cons_zero, List.set_cons_succ, List.getElem_toArray, List.getElem_cons_zero, List.getElem_cons_succ]
      refine wpAnyH_take (i := 7) (v := .pointer (some ⟨y1, 3, none⟩)) rfl (by kernel_rfl) (by kernel_rfl) (by kernel_rfl) (fun _ _ _ h => h) (Or.inl ⟨by kernel_rfl, ?hy7g⟩) hHeld ?rest7g
      case hy7g => (intro w' hSw; (try dsimp only at hSw); go_simp; try with_reducible rfl)
      try simp only [Act.put, List.setIfInBounds_toArray, List.set_cons_zero, List.set_cons_succ, List.getElem_toArray, List.getElem_cons_zero, List.getElem_cons_succ]
      refine wpAnyH_take (i := 8) (v := .slice ra2 nr rc2) rfl (by kernel_rfl) (by kernel_rfl) (by kernel_rfl) (fun _ _ _ h => h) (Or.inl ⟨by kernel_rfl, ?hy8g⟩) hHeld ?rest8g
      case hy8g => (intro w' hSw; (try dsimp only at hSw); have p0 := (HY.out _ hSw).1; have p3 := (HY.out _ hSw).2; go_simp; try with_reducible rfl)
      try simp only [Act.put, List.setIfInBounds_toArray, List.set_cons_zero, List.set_cons_succ, List.getElem_toArray, List.getElem_cons_zero, List.getElem_cons_succ]
      refine wpAnyH_ready (rs := [4]) (by kernel_rfl) (by simp) ?_
      refine AllReadyH.cons rfl (fun K hK => ?_) AllReadyH.nil
      go_simp
      refine (letters_mk w2.drew 4 q).mono ?_
      rintro e5 w5 ⟨kb, tb, rfl, k5, b5⟩
      have B5 : Hid (Below w2.heap.size w2 w5 ∧ Mk w5 kb tb 4 q) := ⟨(Below.refl _ w2).drew.trans b5, k5⟩
      clear k5 b5
      go_wp2_with fail
      refine hK.out _ _ ?hS4g (fun hHeld => ?rest4g)
      case hS4g => exact B5.out.1
      clear hK K
      try simp only [Act.put, List.setIfInBounds_toArray, List.set_cons_zero, List.set_cons_succ, List.getElem_toArray, List.getElem_cons_zero, List.getElem_cons_succ]
      refine wpAnyH_ready (rs := [9]) (by kernel_rfl) (by simp) ?_
      refine AllReadyH.cons rfl (fun K hK => ?_) AllReadyH.nil
      go_simp
      refine (bare_is w5 ra2 nr rc2 x.rts (HR.out _ B5.out.1) HL.out.1 (Nat.le_trans HL.out.2 (by decide))).mono ?_
      rintro e6 w6 ⟨v6, rfl, o6, b6⟩
      obtain ⟨la6, lc6, hv6, p6, _⟩ := o6.slice (fun x hx => bare_okW _ x hx)
      rw [List.length_map, HL.out.1] at hv6
      subst hv6
      have B6 : Hid (Below w2.heap.size w2 w6 ∧ Mk w6 kb tb 4 q ∧ InPv w6 la6 (x.rts.map bPv)) := ⟨B5.out.1.trans (b6.mono B5.out.1.size), B5.out.2.keep b6, p6⟩
      clear o6 b6 p6
      go_wp2_with fail
      refine hK.out _ _ ?hS9g (fun hHeld => ?rest9g)
      case hS9g => exact B6.out.1
      clear hK K
      try simp only [Act.put, List.setIfInBounds_toArray, List.set_cons_zero, List.set_cons_succ, List.getElem_toArray, List.getElem_cons_zero, List.getElem_cons_succ]
      refine wpAnyH_ready (rs := [10]) (by kernel_rfl) (by simp) ?_
      refine AllReadyH.cons rfl (fun K hK => ?_) AllReadyH.nil
      go_simp
      refine (letters1_mk w6 la6 nr lc6 (x.rts.map bPv) B6.out.2.2 (by rw [List.length_map]; exact HL.out.1) (Nat.le_trans HL.out.2 (by decide)) (bare_okW x.rts) kb tb 4 q B6.out.2.1).mono ?_
      rintro e7 w7 ⟨V, Q, rfl, l7, q7, b7⟩
      have X7 : Hid (Ltr w.heap.size w7 V 4 q Q ∧ Q.map (fun p => (p.r, p.co)) = x.rts.map (fun r => (r, ([] : List Pc))) ∧ Below w2.heap.size w2 w7) := ⟨l7.base (Nat.le_trans HZ.out B6.out.1.size), q7.trans (bare_co x.rts), B6.out.1.trans (b7.mono B6.out.1.size)⟩
      clear l7 q7 b7
      go_wp2_with fail
      refine hK.out _ _ ?hS10g (fun hHeld => ?rest10g)
      case hS10g => exact X7.out.2.2
      clear hK K
      try simp only [Act.put, List.setIfInBounds_toArray, List.set_cons_zero, List.set_cons_succ, List.getElem_toArray, List.getElem_cons_zero, List.getElem_cons_succ]
      refine wpAnyH_take (i := 11) (v := V) rfl (by kernel_rfl) (by kernel_rfl) (by kernel_rfl) (fun _ _ _ h => h) (Or.inl ⟨by kernel_rfl, ?hy11g⟩) hHeld ?rest11g
      case hy11g => (intro w' hSw; (try dsimp only at hSw); go_simp; try with_reducible rfl)
      try simp only [Act.put, List.setIfInBounds_toArray, List.set_cons_zero, List.set_cons_succ, List.getElem_toArray, List.getElem_cons_zero, List.getElem_cons_succ]
      refine wpAnyH_done (by kernel_rfl) ?_ _
      refine NoPanic.normal ?_
      try go_wp2_with fail
      go_ret
      exact ⟨_, Q, rfl, X7.out.1, X7.out.2.1, H2.out.1.keep X7.out.2.2, H2.out.2.1.trans (Stp.below X7.out.2.2)⟩
end Go.Proofs.Ythaeidbnbgghkaa
