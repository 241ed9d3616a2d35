/- A net in memory: its two maps, whose slices of messages lie apart; New, isNone, isFull. -/
import Derived.Test.YtokakhlkanakcaaWrM
import Derived.Test.YtokakhlkanakcaaWrB
namespace Go.Proofs.Ytokakhlkanakcaa
open Go.ChangeShapes Go.WideShapes Go.ChangeAt Go.RowKit Go.Deep Go.Maps
set_option linter.unusedVariables false
set_option linter.unusedSimpArgs false
/-- a link, or a node's box -/
abbrev Pl := Sum (Int × Int) Int
/-- block b is a net; its maps lie in the blocks ml and mb; at each place p a slice lies at H p, with the messages T p -/
structure Nt (w : World) (b N ml mb : Nat) (H : Pl → Option Hd) (T : Pl → List Mv) : Prop where
  box : w.heap[b]? = some (.cells #[.map (some ml), .map (some mb)] 61)
  sl : ScL w ml N (fun p => H (.inl p))
  sb : ScB w mb N (fun p => H (.inr p))
  row : ∀ p x, H p = some x → OwnM w 0 (hv x) (T p)
  nil : ∀ p, H p = none → T p = []
  ap : ∀ p q x y k, H p = some x → H q = some y → x.1 = k + 1 → y.1 = k + 1 → p = q
  ne : (b ≠ ml ∧ b ≠ mb ∧ ml ≠ mb) ∧ ∀ p x k, H p = some x → x.1 = k + 1 → k ≠ b ∧ k ≠ ml ∧ k ≠ mb
def NF (b ml mb : Nat) (H : Pl → Option Hd) (k : Nat) : Prop := k = b ∨ k = ml ∨ k = mb ∨ ∃ p x, H p = some x ∧ x.1 = k + 1
/-- block b is a net, F its blocks, T its messages -/
def Net (w : World) (F : Nat → Prop) (b N : Nat) (T : Pl → List Mv) : Prop := ∃ ml mb H, Nt w b N ml mb H T ∧ ∀ k, F k ↔ NF b ml mb H k
theorem hv_own {x : Hd} {k : Nat} : (hv x).ownBlock = some k ↔ x.1 = k + 1 := by
  obtain ⟨g, n, c⟩ := x
  cases g with
  | zero => simp [hv, Value.ownBlock]
  | succ g => simp [hv, Value.ownBlock]
theorem Nt.lt {w : World} {b N ml mb : Nat} {H : Pl → Option Hd} {T : Pl → List Mv} (h : Nt w b N ml mb H T) : ∀ k, NF b ml mb H k → k < w.heap.size := by
  rintro k (rfl | rfl | rfl | ⟨p, x, hp, hx⟩)
  · exact lt_of_heapK h.box
  · exact h.sl.lt
  · exact h.sb.lt
  · exact ((h.row p x hp).own k (hv_own.2 hx)).2
theorem Nt.kept {w w' : World} {b N ml mb : Nat} {H : Pl → Option Hd} {T : Pl → List Mv} (h : Nt w b N ml mb H T) (hb : ∀ k, NF b ml mb H k → w'.heap[k]? = w.heap[k]?) : Nt w' b N ml mb H T :=
  ⟨(hb b (.inl rfl)).trans h.box, h.sl.blk (hb ml (.inr (.inl rfl))), h.sb.blk (hb mb (.inr (.inr (.inl rfl)))), fun p x hp => (h.row p x hp).kept fun k hk => hb k (.inr (.inr (.inr ⟨p, x, hp, hv_own.1 hk⟩))), h.nil, h.ap, h.ne⟩
theorem Net.lt {w : World} {F : Nat → Prop} {b N : Nat} {T : Pl → List Mv} (h : Net w F b N T) : ∀ k, F k → k < w.heap.size := by
  obtain ⟨ml, mb, H, h1, h2⟩ := h
  exact fun k hk => h1.lt k ((h2 k).1 hk)
theorem Net.kept {w w' : World} {F : Nat → Prop} {b N : Nat} {T : Pl → List Mv} (h : Net w F b N T) (hb : ∀ k, F k → w'.heap[k]? = w.heap[k]?) : Net w' F b N T := by
  obtain ⟨ml, mb, H, h1, h2⟩ := h
  exact ⟨ml, mb, H, h1.kept fun k hk => hb k ((h2 k).2 hk), h2⟩
theorem Net.keep {w w' : World} {F : Nat → Prop} {b N : Nat} {T : Pl → List Mv} (h : Net w F b N T) (hb : Below w.heap.size w w') : Net w' F b N T := h.kept fun k hk => hb.block k (h.lt k hk)
theorem Net.apart {w w' : World} {F G : Nat → Prop} {b N : Nat} {T : Pl → List Mv} (h : Net w F b N T) (ho : Off G w w') (hd : ∀ k, F k → ¬ G k) : Net w' F b N T := h.kept fun k hk => ho.block k (h.lt k hk) (hd k hk)
theorem Net.more {w : World} {F : Nat → Prop} {b N N' : Nat} {T : Pl → List Mv} (h : Net w F b N T) (hN : N ≤ N') : Net w F b N' T := by
  obtain ⟨ml, mb, H, h1, h2⟩ := h
  exact ⟨ml, mb, H, ⟨h1.box, h1.sl.mono hN, h1.sb.mono hN, h1.row, h1.nil, h1.ap, h1.ne⟩, h2⟩
theorem net_cells {w : World} {b ml mb : Nat} {t : TypeId} (h : w.heap[b]? = some (.cells #[.map (some ml), .map (some mb)] t)) : w.cell? ⟨b, 0, none⟩ = some (.map (some ml)) ∧ w.cell? ⟨b, 1, none⟩ = some (.map (some mb)) := by
  refine ⟨?_, ?_⟩ <;> simp [World.cell?, h]
/-- only F, or what is new, has changed; G is of F, or new -/
structure Step (F G : Nat → Prop) (w w' : World) : Prop where
  off : Off F w w'
  sub : ∀ k, G k → F k ∨ w.heap.size ≤ k
theorem Step.refl (F : Nat → Prop) (w : World) : Step F F w w := ⟨Off.refl F w, fun _ h => .inl h⟩
theorem Step.trans {F G K : Nat → Prop} {a w w' : World} (h : Step F G a w) (g : Step G K w w') : Step F K a w' :=
  ⟨h.off.trans g.off h.sub, fun k hk => (g.sub k hk).elim (h.sub k) (fun e => .inr (Nat.le_trans h.off.size e))⟩
theorem Step.below {F : Nat → Prop} {w w' : World} (h : Below w.heap.size w w') : Step F F w w' := ⟨Off.ofBelow F h, fun _ h => .inl h⟩
theorem net_new (w : World) : Net (((w.alloc (.map #[] 0)).alloc (.map #[] 0)).alloc (.cells #[.map (some w.heap.size), .map (some (w.heap.size + 1))] 61)) (NF (w.heap.size + 1 + 1) w.heap.size (w.heap.size + 1) (fun _ => none)) (w.heap.size + 1 + 1) 0 (fun _ => []) ∧ Below w.heap.size w (((w.alloc (.map #[] 0)).alloc (.map #[] 0)).alloc (.cells #[.map (some w.heap.size), .map (some (w.heap.size + 1))] 61)) ∧ ∀ k, NF (w.heap.size + 1 + 1) w.heap.size (w.heap.size + 1) (fun _ => none) k → w.heap.size ≤ k := by
  have z1 : (w.alloc (.map #[] 0)).heap.size = w.heap.size + 1 := by simp
  have z2 : ((w.alloc (.map #[] 0)).alloc (.map #[] 0)).heap.size = w.heap.size + 1 + 1 := by simp
  have b1 := below1 w (.map #[] 0)
  have b2 := below1 (w.alloc (.map #[] 0)) (.map #[] 0)
  have b3 := below1 ((w.alloc (.map #[] 0)).alloc (.map #[] 0)) (.cells #[.map (some w.heap.size), .map (some (w.heap.size + 1))] 61)
  have hbox := heap_alloc_new ((w.alloc (.map #[] 0)).alloc (.map #[] 0)) (.cells #[.map (some w.heap.size), .map (some (w.heap.size + 1))] 61)
  have hl := ((ScL.empty w).keep b2).keep b3
  have hb := (ScB.empty (w.alloc (.map #[] 0))).keep b3
  rw [z2] at hbox
  rw [z1] at hb
  refine ⟨⟨_, _, _, ⟨hbox, hl, hb, (fun p x hp => by cases hp), fun p _ => rfl, (fun p q x y k hp => by cases hp), ⟨by omega, by omega, by omega⟩, (fun p x k hp => by cases hp)⟩, fun k => Iff.rfl⟩, b1.trans ((b2.mono b1.size).trans (b3.mono (Nat.le_trans b1.size b2.size))), ?_⟩
  rintro k (rfl | rfl | rfl | ⟨p, x, hp, _⟩)
  · omega
  · omega
  · omega
  · cases hp
set_option maxRecDepth 100000 in
set_option maxHeartbeats 2000000 in
theorem new_is (w : World) : Calls Try.prog 8 #[] w fun e w' => ∃ b F, e = .returned (.pointer (some ⟨b, 0, none⟩)) ∧ Net w' F b 0 (fun _ => []) ∧ Below w.heap.size w w' ∧ ∀ k, F k → w.heap.size ≤ k := by
  have hm1 : ∀ W : World, (Instr.makeMap 58 none).run Try.prog W = .ok (.map (some W.heap.size)) (W.alloc (.map #[] 0)) := fun W => rfl
  have hm2 : ∀ W : World, (Instr.makeMap 59 none).run Try.prog W = .ok (.map (some W.heap.size)) (W.alloc (.map #[] 0)) := fun W => rfl
  go_enter Try.func8, Try.ntmps8
  have hn0 := net_new w
  go_wp2_with fail
  go_ret
  exact ⟨_, rfl, _, hn0.1, hn0.2.1, hn0.2.2⟩
set_option maxRecDepth 100000 in
theorem none_is (w : World) (F : Nat → Prop) (b N : Nat) (T : Pl → List Mv) (h : Net w F b N T) : Calls Try.prog 29 #[.pointer (some ⟨b, 0, none⟩)] w fun e w' => e = .returned (.bool false) ∧ w' = w := by
  obtain ⟨ml, mb, H, h1, _⟩ := h
  obtain ⟨c0, c1⟩ := net_cells h1.box
  clear h1
  go_enter Try.func29, Try.ntmps29
  have hq : (binOp BinOp.eql 58 (.map (some ml)) (.map none)).run Try.prog w = .ok (.bool false) w := by rfl
  go_wp2_with fail
  go_ret
  exact ⟨rfl, rfl⟩
theorem full_is (w : World) (a : Option Addr) (n c : Nat) (hn : n ≤ 4611686018427387904) : Calls Try.prog 44 #[.slice a n c] w fun e w' => e = .returned (.bool (decide (64 ≤ n))) ∧ w' = w := by
  by_cases h : 64 ≤ n
  · have h1 : decide ((64 : Int) ≤ (n : Int)) = true := by rw [decide_eq_true_eq]; omega
    rw [decide_eq_true h]
    go_enter Try.func44, Try.ntmps44
    go_wp2_with fail
    go_ret
    exact ⟨rfl, rfl⟩
  · have h1 : decide ((64 : Int) ≤ (n : Int)) = false := by rw [decide_eq_false_iff_not]; omega
    rw [decide_eq_false h]
    go_enter Try.func44, Try.ntmps44
    go_wp2_with fail
    go_ret
    exact ⟨rfl, rfl⟩
end Go.Proofs.Ytokakhlkanakcaa
