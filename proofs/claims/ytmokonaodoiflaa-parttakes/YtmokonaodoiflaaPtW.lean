/- works (law16). -/
import Derived.Test.YtmokonaodoiflaaPtK
namespace Go.Proofs.Ytmokonaodoiflaa
open Go.ChangeShapes Go.WideShapes Go.ChangeAt Go.RowKit Go.Deep Go.Maps
set_option linter.unusedVariables false
set_option linter.unusedSimpArgs false
theorem OwnD.form {w : World} {base : Nat} {V : Value} {l : List Dd} (h : OwnD w base V l) (hl : 0 < l.length) : ∃ g c, V = .slice (some ⟨g, 0, none⟩) l.length c ∧ base ≤ g ∧ g < w.heap.size ∧ l.length ≤ c ∧ (∃ cs, w.heap[g]? = some (.cells cs 37)) ∧ ∀ i x, l[i]? = some x → Dc w g (i * 9) x := by
  obtain ⟨a, c, rfl, h1, h2, _⟩ := h.slice
  rcases h.2 with ⟨_, h0⟩ | ⟨g, cap, cur, e, hb, hg, _⟩
  · omega
  · injection e with e1 e2 e3
    subst e1
    rcases h1 with h1 | ⟨b, off, e4, h3, h4⟩
    · rw [h1] at hl; simp at hl
    · cases e4
      refine ⟨g, c, rfl, hb, h3, h2, ⟨cur, hg⟩, fun i x hx => ?_⟩
      have := h4 i x hx
      rwa [Nat.zero_add] at this
set_option maxRecDepth 100000 in
set_option maxHeartbeats 4000000 in
theorem pworks_true (u : World) : Calls Try.prog 17 #[] u fun e w' => e = .returned (.bool true) ∧ Below u.heap.size u w' := by
  have K1 : Hid (∀ W, Calls Try.prog 10 #[.agg #[.int .i64 1, .int .i64 0, .slice none 0 0], .agg #[.int .i64 1, .int .i64 0, .int .i64 1, .int .i64 7, .bool false, .slice none 0 0]] W fun e w' => ∃ V P, e = .returned V ∧ OwnD w' W.heap.size V [dSt 7 P, dSn 2 1 7 true] ∧ Below W.heap.size W w') := fun W => by
    refine (take_is W 1 0 none 0 0 [] rfl (.inl rfl) (fun _ => ⟨rfl, rfl⟩) (by omega) 1 0 1 7 false none 0 0 [] rfl (.inl rfl) (fun _ => ⟨rfl, rfl⟩) (fun x hx => by simp at hx) (by omega) (by omega) (by omega)).mono ?_
    rintro e w' ⟨V, rfl, P, h1, _, _, h4⟩
    have hok : tkOk 1 0 [] 1 0 1 7 false [] := ⟨by decide, by decide, rfl⟩
    exact ⟨V, P, rfl, h1 hok, h4⟩
  have K2 : Hid (∀ W, Calls Try.prog 18 #[.agg #[.int .i64 1, .int .i64 7, .slice none 0 0]] W fun e w' => ∃ V, e = .returned V ∧ OwnD w' W.heap.size V [dSn 6 1 7 false] ∧ Below W.heap.size W w') := fun W => by
    refine (tick_is W 1 7 none 0 0 [] rfl (.inl rfl) (fun _ => ⟨rfl, rfl⟩) (by omega)).mono ?_
    rintro e w' ⟨V, rfl, h1, _, h4⟩
    exact ⟨V, rfl, h1 (by decide), h4⟩
  have K3 : Hid (∀ W, Calls Try.prog 13 #[.agg #[.int .i64 1, .int .i64 7, .slice none 0 0]] W fun e w' => e = .returned (.bool true) ∧ Below W.heap.size W w') := fun W => by
    have := pgood_is W 1 7 none 0 0 [] rfl (.inl rfl) (fun _ => ⟨rfl, rfl⟩) (by omega)
    rw [show gdP 1 7 [] = true by decide] at this
    exact this
  go_enter Try.func17, Try.ntmps17
  go_wp2_with fail
  refine (K1.out _).mono ?_
  rintro e w1 ⟨V1, P, rfl, o1, b1⟩
  obtain ⟨g1, c1, rfl, _, hg1, hc1, _, d1⟩ := o1.form (by simp)
  have B1 : Hid (Below u.heap.size u w1) := b1
  have D1 : Hid (Dc w1 g1 (0 * 9) (dSt 7 P) ∧ Dc w1 g1 (1 * 9) (dSn 2 1 7 true) ∧ g1 < w1.heap.size) := ⟨d1 0 _ rfl, d1 1 _ rfl, hg1⟩
  clear o1 b1 d1 hg1
  go_wp2_with fail
  refine (K2.out _).mono ?_
  rintro e w2 ⟨V2, rfl, o2, b2⟩
  obtain ⟨g2, c2, rfl, _, hg2, hc2, _, d2⟩ := o2.form (by simp)
  have B2 : Hid (Below u.heap.size u w2) := B1.out.trans (b2.mono B1.out.size)
  have D2 : Hid (Dc w2 g1 (0 * 9) (dSt 7 P) ∧ Dc w2 g1 (1 * 9) (dSn 2 1 7 true) ∧ Dc w2 g2 (0 * 9) (dSn 6 1 7 false) ∧ g1 < w2.heap.size ∧ g2 < w2.heap.size) := ⟨D1.out.1.kept (b2.block _ D1.out.2.2), D1.out.2.1.kept (b2.block _ D1.out.2.2), d2 0 _ rfl, Nat.lt_of_lt_of_le D1.out.2.2 b2.size, hg2⟩
  clear o2 b2 d2 hg2 D1 B1
  go_wp2_with fail
  refine (K3.out _).mono ?_
  rintro e w3 ⟨rfl, b3⟩
  have B3 : Hid (Below u.heap.size u w3) := B2.out.trans (b3.mono B2.out.size)
  have x1 : w3.cell? ⟨g1, 0, none⟩ = some (.int .i64 2) := (D2.out.1.kept (b3.block _ D2.out.2.2.2.1)).1
  have x2 : w3.cell? ⟨g1, 16, none⟩ = some (.bool true) := (D2.out.2.1.kept (b3.block _ D2.out.2.2.2.1)).2.2.2.2.2.2.2.1
  have x3 : w3.cell? ⟨g2, 3, none⟩ = some (.int .i64 6) := (D2.out.2.2.1.kept (b3.block _ D2.out.2.2.2.2)).2.2.2.1
  clear b3
  go_wp2_with fail
  go_ret
  exact ⟨rfl, B3.out⟩
end Go.Proofs.Ytmokonaodoiflaa
