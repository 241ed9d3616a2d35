/- Tables: what they hold, New, isNone, isTenant, isRoot, Tenant, check, Grant, Revoke, May, Quota, Fits. -/
import Derived.Test.YtgfjhghhonaiiaaCpM
namespace Go.Proofs.Ytgfjhghhonaiiaa
open Go.ChangeShapes Go.WideShapes Go.ChangeAt Go.RowKit Go.Deep Go.Maps
set_option linter.unusedVariables false
set_option linter.unusedSimpArgs false
abbrev Qm := Int → Option Int
abbrev Gm := Int × Int → Option Unit
/-- what stands in a table -/
structure Gd (Q : Qm) (G : Gm) : Prop where
  q : ∀ i x, Q i = some x → 1 ≤ i ∧ i ≤ 8 ∧ 0 ≤ x ∧ x ≤ 9223372036854775807
  g : ∀ i r, G (i, r) = some () → 1 ≤ i ∧ i ≤ 8 ∧ 1 ≤ r ∧ r ≤ 6 ∧ (Q i).isSome = true
def tnE (Q : Qm) (i q : Int) : Int := if i < 1 ∨ 8 < i ∨ q < 0 then 2 else if (Q i).isSome then 8 else 0
def tnQ (Q : Qm) (i q : Int) : Qm := if tnE Q i q = 0 then (fun k => if k = i then some q else Q k) else Q
def ckE (Q : Qm) (i r : Int) : Int := if i < 1 ∨ 8 < i ∨ r < 1 ∨ 6 < r then 2 else if (Q i).isSome then 0 else 9
def grG (Q : Qm) (G : Gm) (i r : Int) : Gm := if ckE Q i r = 0 then (fun k => if k = (i, r) then some () else G k) else G
def rvG (Q : Qm) (G : Gm) (i r : Int) : Gm := if ckE Q i r = 0 then (fun k => if k = (i, r) then none else G k) else G
def ftE (Q : Qm) (i u m : Int) : Int := match Q i with
  | none => 9
  | some q => if u < 0 ∨ m < 0 then 2 else if q - u < m then 17 else 0
theorem gd_none : Gd (fun _ => none) (fun _ => none) := ⟨(fun _ _ h => by cases h), (fun _ _ h => by cases h)⟩
theorem ckE_zero {Q : Qm} {i r : Int} (h : ckE Q i r = 0) : 1 ≤ i ∧ i ≤ 8 ∧ 1 ≤ r ∧ r ≤ 6 ∧ (Q i).isSome = true := by
  unfold ckE at h
  split at h
  · cases h
  · split at h
    · rename_i h1 h2
      exact ⟨by omega, by omega, by omega, by omega, h2⟩
    · cases h
theorem Gd.tn {Q : Qm} {G : Gm} (h : Gd Q G) (i q : Int) (hq : InI q) : Gd (tnQ Q i q) G := by
  unfold tnQ
  split
  · rename_i h0
    have h1 : 1 ≤ i ∧ i ≤ 8 ∧ 0 ≤ q := by
      unfold tnE at h0
      split at h0
      · cases h0
      · omega
    refine ⟨fun k x hx => ?_, fun k r hr => ?_⟩
    · revert hx; intro hx
      split at hx
      · rename_i e; subst e
        cases hx
        exact ⟨h1.1, h1.2.1, h1.2.2, hq.2⟩
      · exact h.q k x hx
    · obtain ⟨a, b, c, d, e⟩ := h.g k r hr
      refine ⟨a, b, c, d, ?_⟩
      split
      · rfl
      · exact e
  · exact h
theorem Gd.gr {Q : Qm} {G : Gm} (h : Gd Q G) (i r : Int) : Gd Q (grG Q G i r) := by
  unfold grG
  split
  · rename_i h0
    refine ⟨h.q, fun k s hs => ?_⟩
    split at hs
    · rename_i e
      cases e
      exact ckE_zero h0
    · exact h.g k s hs
  · exact h
theorem Gd.rv {Q : Qm} {G : Gm} (h : Gd Q G) (i r : Int) : Gd Q (rvG Q G i r) := by
  unfold rvG
  split
  · refine ⟨h.q, fun k s hs => ?_⟩
    split at hs
    · cases hs
    · exact h.g k s hs
  · exact h
/-- a table: its box, its two maps -/
structure Tb (w : World) (b mq mg N : Nat) (Q : Qm) (G : Gm) : Prop where
  box : w.heap[b]? = some (.cells #[.map (some mq), .map (some mg)] 41)
  sq : ScQ w mq N Q
  sg : ScG w mg N G
  ne : b ≠ mq ∧ b ≠ mg ∧ mq ≠ mg
  gd : Gd Q G
def TF (b mq mg : Nat) (k : Nat) : Prop := k = b ∨ k = mq ∨ k = mg
/-- block b is a table; F: its blocks -/
def Tab (w : World) (F : Nat → Prop) (b N : Nat) (Q : Qm) (G : Gm) : Prop := ∃ mq mg, Tb w b mq mg N Q G ∧ ∀ k, F k ↔ TF b mq mg k
theorem Tb.kept {w w' : World} {b mq mg N : Nat} {Q : Qm} {G : Gm} (h : Tb w b mq mg N Q G) (hb : ∀ k, TF b mq mg k → w'.heap[k]? = w.heap[k]?) : Tb w' b mq mg N Q G :=
  ⟨(hb b (.inl rfl)).trans h.box, h.sq.blk (hb mq (.inr (.inl rfl))), h.sg.blk (hb mg (.inr (.inr rfl))), h.ne, h.gd⟩
theorem Tb.lt {w : World} {b mq mg N : Nat} {Q : Qm} {G : Gm} (h : Tb w b mq mg N Q G) (k : Nat) (hk : TF b mq mg k) : k < w.heap.size := by
  rcases hk with rfl | rfl | rfl
  · exact lt_of_heapK h.box
  · exact h.sq.lt
  · exact h.sg.lt
theorem Tab.gd {w : World} {F : Nat → Prop} {b N : Nat} {Q : Qm} {G : Gm} (h : Tab w F b N Q G) : Gd Q G := by
  obtain ⟨_, _, h1, _⟩ := h
  exact h1.gd
theorem Tab.lt {w : World} {F : Nat → Prop} {b N : Nat} {Q : Qm} {G : Gm} (h : Tab w F b N Q G) (k : Nat) (hk : F k) : k < w.heap.size := by
  obtain ⟨mq, mg, h1, h2⟩ := h
  exact h1.lt k ((h2 k).1 hk)
theorem Tab.own {w : World} {F : Nat → Prop} {b N : Nat} {Q : Qm} {G : Gm} (h : Tab w F b N Q G) : F b := by
  obtain ⟨mq, mg, h1, h2⟩ := h
  exact (h2 b).2 (.inl rfl)
theorem Tab.kept {w w' : World} {F : Nat → Prop} {b N : Nat} {Q : Qm} {G : Gm} (h : Tab w F b N Q G) (hb : ∀ k, F k → w'.heap[k]? = w.heap[k]?) : Tab w' F b N Q G := by
  obtain ⟨mq, mg, h1, h2⟩ := h
  exact ⟨mq, mg, h1.kept fun k hk => hb k ((h2 k).2 hk), h2⟩
theorem Tab.keep {w w' : World} {F : Nat → Prop} {b N : Nat} {Q : Qm} {G : Gm} (h : Tab w F b N Q G) (hb : Below w.heap.size w w') : Tab w' F b N Q G := h.kept fun k hk => hb.block k (h.lt k hk)
theorem Tab.apart {w w' : World} {F K : Nat → Prop} {b N : Nat} {Q : Qm} {G : Gm} (h : Tab w F b N Q G) (ho : Off K w w') (hd : ∀ k, F k → ¬ K k) : Tab w' F b N Q G := h.kept fun k hk => ho.block k (h.lt k hk) (hd k hk)
theorem Tab.more {w : World} {F : Nat → Prop} {b N N' : Nat} {Q : Qm} {G : Gm} (h : Tab w F b N Q G) (hN : N ≤ N') : Tab w F b N' Q G := by
  obtain ⟨mq, mg, h1, h2⟩ := h
  exact ⟨mq, mg, ⟨h1.box, h1.sq.mono hN, h1.sg.mono hN, h1.ne, h1.gd⟩, h2⟩
theorem tab_cells {w : World} {b mq mg : Nat} {t : TypeId} (h : w.heap[b]? = some (.cells #[.map (some mq), .map (some mg)] t)) : w.cell? ⟨b, 0, none⟩ = some (.map (some mq)) ∧ w.cell? ⟨b, 1, none⟩ = some (.map (some mg)) := by
  refine ⟨?_, ?_⟩ <;> simp [World.cell?, h]
theorem tab_new (w : World) : Tab (((w.alloc (.map #[] 0)).alloc (.map #[] 0)).alloc (.cells #[.map (some w.heap.size), .map (some (w.heap.size + 1))] 41)) (TF (w.heap.size + 1 + 1) w.heap.size (w.heap.size + 1)) (w.heap.size + 1 + 1) 0 (fun _ => none) (fun _ => none) ∧ Below w.heap.size w (((w.alloc (.map #[] 0)).alloc (.map #[] 0)).alloc (.cells #[.map (some w.heap.size), .map (some (w.heap.size + 1))] 41)) ∧ ∀ k, TF (w.heap.size + 1 + 1) w.heap.size (w.heap.size + 1) k → w.heap.size ≤ k := by
  have z1 : (w.alloc (.map #[] 0)).heap.size = w.heap.size + 1 := by simp
  have z2 : ((w.alloc (.map #[] 0)).alloc (.map #[] 0)).heap.size = w.heap.size + 1 + 1 := by simp
  have b1 := below1 w (.map #[] 0)
  have b2 := below1 (w.alloc (.map #[] 0)) (.map #[] 0)
  have b3 := below1 ((w.alloc (.map #[] 0)).alloc (.map #[] 0)) (.cells #[.map (some w.heap.size), .map (some (w.heap.size + 1))] 41)
  have hbox := heap_alloc_new ((w.alloc (.map #[] 0)).alloc (.map #[] 0)) (.cells #[.map (some w.heap.size), .map (some (w.heap.size + 1))] 41)
  have hl := ((ScQ.empty w).keep b2).keep b3
  have hb := (ScG.empty (w.alloc (.map #[] 0))).keep b3
  rw [z2] at hbox
  rw [z1] at hb
  refine ⟨⟨_, _, ⟨hbox, hl, hb, ⟨by omega, by omega, by omega⟩, gd_none⟩, fun k => Iff.rfl⟩, b1.trans ((b2.mono b1.size).trans (b3.mono (Nat.le_trans b1.size b2.size))), ?_⟩
  rintro k (rfl | rfl | rfl) <;> omega
set_option maxRecDepth 100000 in
set_option maxHeartbeats 2000000 in
theorem new_is (w : World) : Calls Try.prog 8 #[] w fun e w' => ∃ b F, e = .returned (.pointer (some ⟨b, 0, none⟩)) ∧ Tab w' F b 0 (fun _ => none) (fun _ => none) ∧ Below w.heap.size w w' ∧ ∀ k, F k → w.heap.size ≤ k := by
  have hm1 : ∀ W : World, (Instr.makeMap 36 none).run Try.prog W = .ok (.map (some W.heap.size)) (W.alloc (.map #[] 0)) := fun W => rfl
  have hm2 : ∀ W : World, (Instr.makeMap 37 none).run Try.prog W = .ok (.map (some W.heap.size)) (W.alloc (.map #[] 0)) := fun W => rfl
  go_enter Try.func8, Try.ntmps8
  have hn0 := tab_new w
  go_wp2_with fail
  go_ret
  exact ⟨_, _, rfl, hn0.1, hn0.2.1, hn0.2.2⟩
set_option maxRecDepth 100000 in
theorem none_is (w : World) (F : Nat → Prop) (b N : Nat) (Q : Qm) (G : Gm) (h : Tab w F b N Q G) : Calls Try.prog 22 #[.pointer (some ⟨b, 0, none⟩)] w fun e w' => e = .returned (.bool false) ∧ w' = w := by
  obtain ⟨mq, mg, h1, _⟩ := h
  obtain ⟨c0, c1⟩ := tab_cells h1.box
  clear h1
  go_enter Try.func22, Try.ntmps22
  have hq : (binOp BinOp.eql 36 (.map (some mq)) (.map none)).run Try.prog w = .ok (.bool false) w := by rfl
  go_wp2_with fail
  go_ret
  exact ⟨rfl, rfl⟩
theorem isTenant_is (w : World) (x : Int) : Calls Try.prog 24 #[.int .i64 x] w fun e w' => e = .returned (.bool (decide (1 ≤ x) && decide (x ≤ 8))) ∧ w' = w := by
  by_cases h1 : 1 ≤ x
  · have d1 : decide (1 ≤ x) = true := decide_eq_true h1
    by_cases h2 : x ≤ 8
    · have d2 : decide (x ≤ 8) = true := decide_eq_true h2
      rw [d1, d2]
      go_enter Try.func24, Try.ntmps24
      go_wp2_with fail
      go_ret
      exact ⟨rfl, rfl⟩
    · have d2 : decide (x ≤ 8) = false := decide_eq_false h2
      rw [d1, d2]
      go_enter Try.func24, Try.ntmps24
      go_wp2_with fail
      go_ret
      exact ⟨rfl, rfl⟩
  · have d1 : decide (1 ≤ x) = false := decide_eq_false h1
    rw [d1]
    go_enter Try.func24, Try.ntmps24
    go_wp2_with fail
    go_ret
    exact ⟨rfl, rfl⟩
theorem isRoot_is (w : World) (x : Int) : Calls Try.prog 35 #[.int .i64 x] w fun e w' => e = .returned (.bool (decide (1 ≤ x) && decide (x ≤ 6))) ∧ w' = w := by
  by_cases h1 : 1 ≤ x
  · have d1 : decide (1 ≤ x) = true := decide_eq_true h1
    by_cases h2 : x ≤ 6
    · have d2 : decide (x ≤ 6) = true := decide_eq_true h2
      rw [d1, d2]
      go_enter Try.func35, Try.ntmps35
      go_wp2_with fail
      go_ret
      exact ⟨rfl, rfl⟩
    · have d2 : decide (x ≤ 6) = false := decide_eq_false h2
      rw [d1, d2]
      go_enter Try.func35, Try.ntmps35
      go_wp2_with fail
      go_ret
      exact ⟨rfl, rfl⟩
  · have d1 : decide (1 ≤ x) = false := decide_eq_false h1
    rw [d1]
    go_enter Try.func35, Try.ntmps35
    go_wp2_with fail
    go_ret
    exact ⟨rfl, rfl⟩
end Go.Proofs.Ytgfjhghhonaiiaa
