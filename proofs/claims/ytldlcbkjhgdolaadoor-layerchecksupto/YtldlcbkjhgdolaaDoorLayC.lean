/- layer.Size. -/
import Derived.Test.YtldlcbkjhgdolaaDoorLayB
namespace Go.Proofs.YtldlcbkjhgdolaaDoor
open Go.ChangeShapes Go.WideShapes Go.ChangeAt Go.RowKit Go.Deep
set_option linter.unusedVariables false
theorem sz_snoc (l : List En) (x : En) : sz (l ++ [x]) = sz l + (x.p.length + x.b.length) := by
  induction l with
  | nil => simp [sz]
  | cons y l ih => simp only [List.cons_append, sz, ih]; omega
theorem sz_take {l : List En} {j : Nat} {x : En} (h : l[j]? = some x) : sz (l.take (j + 1)) = sz (l.take j) + (x.p.length + x.b.length) := by
  obtain ⟨hj, e⟩ := List.getElem?_eq_some_iff.1 h
  rw [List.take_succ_eq_append_getElem hj, e, sz_snoc]
theorem sz_le {l : List En} (hf : Fit l) : ∀ j, j ≤ l.length → sz (l.take j) ≤ j * 281474976710656
  | 0, _ => by simp [sz]
  | j + 1, hj => by
    have h1 := sz_le hf j (by omega)
    obtain ⟨x, hx⟩ : ∃ x, l[j]? = some x := ⟨_, List.getElem?_eq_getElem (by omega)⟩
    rw [sz_take hx]
    have := hf x (List.mem_of_getElem? hx)
    omega
theorem InE.at {w : World} {a : Option Addr} {l : List En} (h : InE w a l) {j : Nat} {x : En} (hx : l[j]? = some x) : ∃ b off, a = some ⟨b, off, none⟩ ∧ b < w.heap.size ∧ Ec w b (off + j * 4) x := by
  rcases h with e | ⟨b, off, h1, h2, h3⟩
  · subst e; simp at hx
  · exact ⟨b, off, h1, h2, h3 j x hx⟩
theorem InE.below {w w' : World} {a : Option Addr} {l : List En} {B : Nat} (h : InE w a l) (hb : Below B w w') (hB : ∀ y, a = some y → l ≠ [] → y.block < B) : InE w' a l := by
  rcases h with e | ⟨b, off, h1, h2, h3⟩
  · exact .inl e
  · by_cases hl : l = []
    · exact .inl hl
    · have hlt := hB _ h1 hl
      exact .inr ⟨b, off, h1, Nat.lt_of_lt_of_le h2 hb.size, fun i x hx => (h3 i x hx).below hb hlt⟩
theorem InE.lt {w : World} {a : Option Addr} {l : List En} (h : InE w a l) : ∀ y, a = some y → l ≠ [] → y.block < w.heap.size := by
  intro y hy hl
  rcases h with e | ⟨b, off, h1, h2, h3⟩
  · exact absurd e hl
  · rw [h1] at hy
    cases hy
    exact h2
theorem InE.keep {w w' : World} {a : Option Addr} {l : List En} (h : InE w a l) (hb : Below w.heap.size w w') : InE w' a l := h.below hb h.lt
set_option maxRecDepth 100000 in
set_option maxHeartbeats 4000000 in
theorem size_is (l : List En) (n : Nat) (hn : l.length = n) (hn2 : n ≤ 200) (hf : Fit l) (a : Option Addr) (c : Nat) (w : World) (hl : InE w a l) :
    Calls Tryd.prog 12 #[.slice a n c] w fun e w' => e = .returned (.int .i64 (sz l : Nat)) ∧ Below w.heap.size w w' := by
  have HF : Hid (Fit l) := hf
  have HL : Hid (InE w a l) := hl
  have HN : Hid (l.length = n) := hn
  clear hf hl hn
  go_enter Tryd.func12, Tryd.ntmps12
  go_wp2_with fail
  go_loopg [3, 8] n (fun g v i wr => ∃ (j : Nat), j ≤ n ∧ g = n - j ∧ i = .int .i64 j ∧ v = .int .i64 (sz (l.take j) : Nat) ∧ Hid (Below w.heap.size w wr))
  case atStart => exact ⟨0, Nat.zero_le _, rfl, rfl, rfl, Below.refl _ _⟩
  case round =>
    obtain ⟨j, hj, rfl, rfl, rfl, HW⟩ := hrel
    by_cases hlt : j < n
    · have j1 : (j : Int) < (n : Int) := by omega
      obtain ⟨x, hx⟩ : ∃ x, l[j]? = some x := ⟨l[j]'(by rw [HN.out]; exact hlt), by simp [HN.out, hlt]⟩
      obtain ⟨b, off, rfl, hbw, hr⟩ := HL.out.at hx
      have HX := HF.out x (List.mem_of_getElem? hx)
      have HS : Hid (sz (l.take (j + 1)) = sz (l.take j) + (x.p.length + x.b.length)) := sz_take hx
      have hle := sz_le HF.out j (by rw [HN.out]; omega)
      obtain ⟨c0, c1, c2, c3⟩ := hr.below HW.out hbw
      have hp := tx_size x.p
      have hb := tx_size x.b
      obtain ⟨h1, h2⟩ := HX
      clear hx hr
      generalize sz (l.take j) = q at *
      generalize tx x.p = P at *
      generalize tx x.b = B at *
      generalize x.p.length = np at *
      generalize x.b.length = nb at *
      go_wp2_with fail
      go_roundg (n - (j + 1))
      case measure => omega
      case rel => exact ⟨j + 1, by omega, rfl, by go_num, by rw [HS.out]; go_num, HW.out.alloc HW.out.size _⟩
    · have e : j = n := by omega
      subst e
      have j1 : ¬ (j : Int) < (j : Int) := by omega
      have HT : Hid (l.take j = l) := List.take_of_length_le (by rw [HN.out]; omega)
      go_wp2_with fail
      go_ret
      refine ⟨?_, HW.out⟩
      rw [HT.out]
      rfl
end Go.Proofs.YtldlcbkjhgdolaaDoor
