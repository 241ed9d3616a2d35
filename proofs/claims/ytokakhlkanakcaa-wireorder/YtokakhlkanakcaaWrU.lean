/- Link, Box of messages without packages. -/
import Derived.Test.YtokakhlkanakcaaWrT
namespace Go.Proofs.Ytokakhlkanakcaa
open Go.ChangeShapes Go.WideShapes Go.ChangeAt Go.RowKit Go.Deep Go.Maps
set_option linter.unusedVariables false
set_option linter.unusedSimpArgs false
set_option maxRecDepth 100000 in
set_option maxHeartbeats 4000000 in
theorem link_bare (w : World) (F : Nat → Prop) (b N : Nat) (T : Pl → List Mv) (h : Net w F b N T) (f t : Int) (hf : InI f) (ht : InI t) (hN : (T (.inl (f, t))).length ≤ 1000) (hbr : ∀ m ∈ T (.inl (f, t)), Bare m) :
    Calls Try.prog 24 #[.pointer (some ⟨b, 0, none⟩), .int .i64 f, .int .i64 t] w fun e w' => ∃ v, e = .returned v ∧ OwnM w' w.heap.size v (T (.inl (f, t))) ∧ Below w.heap.size w w' := by
  have KN : Hid (∀ W, Below w.heap.size w W → Calls Try.prog 29 #[.pointer (some ⟨b, 0, none⟩)] W fun e w' => e = .returned (.bool false) ∧ w' = W) := fun W hW => none_is W F b N T (h.keep hW)
  obtain ⟨ml, mb, H, h2, _⟩ := h
  obtain ⟨c0, c1⟩ := net_cells h2.box
  have hlk := h2.sl.look (f, t) ⟨hf, ht⟩
  obtain ⟨a, c, hh, hin, hlc, hc9, hn⟩ := h2.hd (.inl (f, t))
  rw [hh] at hlk
  try unfold lkV at hlk
  try simp only at hlk
  generalize T (.inl (f, t)) = L at *
  obtain ⟨nl, hnl⟩ : ∃ nl, L.length = nl := ⟨_, rfl⟩
  rw [hnl] at hlk hlc hN
  have KA : Hid (Calls Try.prog 30 #[.slice a nl c] w fun e w' => ∃ v, e = .returned v ∧ OwnM w' w.heap.size v L ∧ Below w.heap.size w w') := all_bare w a nl c L hin hnl hlc hc9 hN hbr
  clear h2 hin hh hn hbr
  go_enter Try.func24, Try.ntmps24
  go_wp2_with fail
  refine (KN.out _ (Below.refl _ _)).mono ?_
  rintro e w1 ⟨rfl, hw⟩
  obtain rfl := hw.symm
  clear hw
  go_wp2_with fail
  refine KA.out.mono ?_
  rintro e w3 ⟨v, rfl, ho, hb⟩
  have HF : Hid (OwnM w3 w.heap.size v L ∧ Below w.heap.size w w3) := ⟨ho, hb⟩
  clear ho hb
  go_wp2_with fail
  go_ret
  exact ⟨_, rfl, HF.out⟩
set_option maxRecDepth 100000 in
set_option maxHeartbeats 4000000 in
theorem box_bare (w : World) (F : Nat → Prop) (b N : Nat) (T : Pl → List Mv) (h : Net w F b N T) (t : Int) (ht : InI t) (hN : (T (.inr t)).length ≤ 1000) (hbr : ∀ m ∈ T (.inr t), Bare m) :
    Calls Try.prog 26 #[.pointer (some ⟨b, 0, none⟩), .int .i64 t] w fun e w' => ∃ v, e = .returned v ∧ OwnM w' w.heap.size v (T (.inr t)) ∧ Below w.heap.size w w' := by
  have KN : Hid (∀ W, Below w.heap.size w W → Calls Try.prog 29 #[.pointer (some ⟨b, 0, none⟩)] W fun e w' => e = .returned (.bool false) ∧ w' = W) := fun W hW => none_is W F b N T (h.keep hW)
  obtain ⟨ml, mb, H, h2, _⟩ := h
  obtain ⟨c0, c1⟩ := net_cells h2.box
  have hlk := h2.sb.look t ht
  obtain ⟨a, c, hh, hin, hlc, hc9, hn⟩ := h2.hd (.inr t)
  rw [hh] at hlk
  try unfold lkV at hlk
  try simp only at hlk
  generalize T (.inr t) = L at *
  obtain ⟨nl, hnl⟩ : ∃ nl, L.length = nl := ⟨_, rfl⟩
  rw [hnl] at hlk hlc hN
  have KA : Hid (Calls Try.prog 30 #[.slice a nl c] w fun e w' => ∃ v, e = .returned v ∧ OwnM w' w.heap.size v L ∧ Below w.heap.size w w') := all_bare w a nl c L hin hnl hlc hc9 hN hbr
  clear h2 hin hh hn hbr
  go_enter Try.func26, Try.ntmps26
  go_wp2_with fail
  refine (KN.out _ (Below.refl _ _)).mono ?_
  rintro e w1 ⟨rfl, hw⟩
  obtain rfl := hw.symm
  clear hw
  go_wp2_with fail
  refine KA.out.mono ?_
  rintro e w3 ⟨v, rfl, ho, hb⟩
  have HF : Hid (OwnM w3 w.heap.size v L ∧ Below w.heap.size w w3) := ⟨ho, hb⟩
  clear ho hb
  go_wp2_with fail
  go_ret
  exact ⟨_, rfl, HF.out⟩
end Go.Proofs.Ytokakhlkanakcaa
