/- Double; without. -/
import Derived.Test.YtokakhlkanakcaaWrP
namespace Go.Proofs.Ytokakhlkanakcaa
open Go.ChangeShapes Go.WideShapes Go.ChangeAt Go.RowKit Go.Deep Go.Maps
set_option linter.unusedVariables false
set_option linter.unusedSimpArgs false
set_option maxRecDepth 100000 in
set_option maxHeartbeats 4000000 in
theorem double_yes (w : World) (F : Nat → Prop) (b N : Nat) (T : Pl → List Mv) (h : Net w F b N T) (hN : N < 1000000000) (f t : Int) (k : Nat) (m : Mv) (hm : (T (.inl (f, t)))[k]? = some m) (hmf : m.f = f) (hmt : m.t = t) (hf : InI f) (ht : InI t) (hL : (T (.inl (f, t))).length < 64) :
    Calls Try.prog 18 #[.pointer (some ⟨b, 0, none⟩), .int .i64 f, .int .i64 t, .int .i64 (k : Int)] w fun e w' => e = .returned (.int .i64 0) ∧ ∃ F', Net w' F' b (N + 1) (putT T (.inl (f, t)) (T (.inl (f, t)) ++ [m])) ∧ Step F F' w w' := by
  have KF : Hid (Calls Try.prog 31 #[.pointer (some ⟨b, 0, none⟩), .int .i64 f, .int .i64 t, .int .i64 (k : Int)] w fun e w' => e = .returned (.tuple #[.agg (mC m), .int .i64 0]) ∧ Below w.heap.size w w') := find_yes w F b N T h f t k m hm hf ht
  have KL : Hid (∀ W, Net W F b N T → Calls Try.prog 40 #[.pointer (some ⟨b, 0, none⟩), .agg (mC m)] W fun e w' => e = .returned (.int .i64 0) ∧ ∃ F', Net w' F' b (N + 1) (putT T (.inl (f, t)) (T (.inl (f, t)) ++ [m])) ∧ Step F F' W w') := fun W hW => by
    have q := letGo_is W F b N T hW hN m (by rw [hmf]; exact hf) (by rw [hmt]; exact ht) (by rw [hmf, hmt]; exact hL)
    rw [hmf, hmt] at q
    exact q
  have H0 : Hid (Net w F b N T) := h
  obtain ⟨mk, mf, mt, mx, my, mpa, mpn, mpc⟩ := m
  unfold mC at KF KL
  simp only at KF KL
  clear h hm hmf hmt hf ht hL
  go_enter Try.func18, Try.ntmps18
  go_wp2_with fail
  refine KF.out.mono ?_
  rintro e w1 ⟨rfl, hb1⟩
  have B1 : Hid (Below w.heap.size w w1) := hb1
  clear hb1
  go_wp2_with fail
  refine (KL.out _ (H0.out.keep (B1.out.trans ((below1 w1 _).mono B1.out.size)))).mono ?_
  rintro e w2 ⟨rfl, F', h2, h3⟩
  have R2 : Hid (∃ F', Net w2 F' b (N + 1) (putT T (.inl (f, t)) (T (.inl (f, t)) ++ [⟨mk, mf, mt, mx, my, mpa, mpn, mpc⟩])) ∧ Step F F' w w2) := ⟨F', h2, (Step.below (B1.out.trans ((below1 w1 _).mono B1.out.size))).trans h3⟩
  clear h2 h3
  go_wp2_with fail
  go_ret
  exact ⟨rfl, R2.out⟩
/-- the messages ahead of a place, and those behind it -/
def outL (l : List Mv) (i : Nat) : List Mv := l.take i ++ l.drop (i + 1)
theorem InM.take {w : World} {a : Option Addr} {l : List Mv} (h : InM w a l) (k : Nat) : InM w a (l.take k) := by
  rcases h with rfl | ⟨b, off, e, h1, h2⟩
  · exact .inl (by simp)
  · refine .inr ⟨b, off, e, h1, fun i x hx => h2 i x ?_⟩
    rw [List.getElem?_take] at hx
    split at hx
    · exact hx
    · cases hx
theorem InM.drop {w : World} {g off : Nat} {l : List Mv} (h : InM w (some ⟨g, off, none⟩) l) (k : Nat) : InM w (some ⟨g, off + k * 6, none⟩) (l.drop k) := by
  rcases h with rfl | ⟨b, off2, e, h1, h2⟩
  · exact .inl (by simp)
  · cases e
    refine .inr ⟨_, _, rfl, h1, fun i x hx => ?_⟩
    rw [List.getElem?_drop] at hx
    have := h2 (k + i) x hx
    rw [show off + k * 6 + i * 6 = off + (k + i) * 6 by omega]
    exact this
set_option maxRecDepth 100000 in
set_option maxHeartbeats 4000000 in
theorem without_is (w : World) (a : Option Addr) (n c : Nat) (l : List Mv) (hl : l.length = n) (hin : InM w a l) (hnc : n ≤ c ∧ c ≤ 9223372036854775807) (i : Nat) (hi : i < n) (hn : n ≤ 1000000) :
    Calls Try.prog 47 #[.slice a n c, .int .i64 (i : Int)] w fun e w' => ∃ v, e = .returned v ∧ OwnM w' w.heap.size v (outL l i) ∧ Below w.heap.size w w' := by
  obtain ⟨g, off, rfl⟩ : ∃ g off, a = some ⟨g, off, none⟩ := by
    rcases hin with e | ⟨b, off, e, _⟩
    · rw [e] at hl; simp at hl; omega
    · exact ⟨b, off, e⟩
  have I1 : Hid (InM w (some ⟨g, off, none⟩) (l.take i) ∧ (l.take i).length = i) := ⟨hin.take i, by rw [List.length_take]; omega⟩
  have I2 : Hid (∀ W, Below w.heap.size w W → InM W (some ⟨g, off + (i + 1) * 6, none⟩) (l.drop (i + 1)) ∧ (l.drop (i + 1)).length = n - (i + 1)) := fun W hW => ⟨(hin.keep hW).drop (i + 1), by rw [List.length_drop]; omega⟩
  have O0 : Hid (OwnM w w.heap.size (.slice none 0 0) []) := OwnM.nil _ _
  have j1 : (i : Int) ≤ (c : Int) := by omega
  have j2 : (0 : Int) ≤ (i : Int) := by omega
  have j3 : (i : Int) + 1 ≤ (n : Int) := by omega
  have j4 : (n : Int) ≤ (c : Int) := by omega
  have ri : IntKind.i64.wrap ((i : Int) + 1) = (i : Int) + 1 := by rw [IntKind.wrap_i64]; omega
  have rj : ((i : Int) + 1).toNat = i + 1 := by omega
  have HNN : Hid (n ≤ 1000000 ∧ i < n) := ⟨hn, hi⟩
  by_cases hcc : c = i + 1
  · obtain rfl : n = i + 1 := by omega
    subst hcc
    have OUT : Hid (outL l i = l.take i ++ []) := by
      show _ = _
      unfold outL
      rw [List.drop_of_length_le (by rw [hl]; exact Nat.le_refl _)]
    clear hin hl hnc
    go_enter Try.func47, Try.ntmps47
    go_wp2_with (first | (at_builtin; refine append_msgs rfl (.tmp 6) (.tmp 9) rfl w.heap.size _ [] rfl O0.out (some ⟨g, off, none⟩) i (i + 1) (l.take i) rfl I1.out.2 I1.out.1 (fun h => by cases h) (by have := HNN.out; simp; omega) (Nat.le_refl _) ?_; intro v1 w1 ho1 hg1; have O1 : Hid (OwnM w1 w.heap.size v1 (l.take i) ∧ Below w.heap.size w w1) := ⟨ho1, (Below.refl _ _).grown hg1 (Nat.le_refl _) (fun k hk => by cases hk)⟩; clear ho1 hg1; obtain ⟨a1, c1, hv1, _⟩ := O1.out.1.slice; rw [I1.out.2] at hv1; subst hv1) | (at_builtin; refine append_msgs rfl (.tmp 11) (.tmp 15) rfl w.heap.size _ (l.take i) rfl O1.out.1 (some ⟨g, off, none⟩) 0 0 [] rfl rfl (.inl rfl) (fun h => by cases h) (by have := HNN.out; rw [I1.out.2]; omega) O1.out.2.size ?_; intro v2 w2 ho2 hg2; have O2 : Hid (OwnM w2 w.heap.size v2 (outL l i) ∧ Below w.heap.size w w2) := ⟨by rw [OUT.out]; exact ho2, O1.out.2.grown hg2 O1.out.2.size (fun k hk => (O1.out.1.own k hk).1)⟩; clear ho2 hg2))
    go_ret
    exact ⟨_, rfl, O2.out⟩
  · have hcl : i + 1 < c := by omega
    have j5 : (i : Int) + 1 < (c : Int) := by omega
    clear hin hl hnc
    go_enter Try.func47, Try.ntmps47
    go_wp2_with (first | (at_builtin; refine append_msgs rfl (.tmp 6) (.tmp 9) rfl w.heap.size _ [] rfl O0.out (some ⟨g, off, none⟩) i c (l.take i) rfl I1.out.2 I1.out.1 (fun h => by cases h) (by have := HNN.out; simp; omega) (Nat.le_refl _) ?_; intro v1 w1 ho1 hg1; have O1 : Hid (OwnM w1 w.heap.size v1 (l.take i) ∧ Below w.heap.size w w1) := ⟨ho1, (Below.refl _ _).grown hg1 (Nat.le_refl _) (fun k hk => by cases hk)⟩; clear ho1 hg1; obtain ⟨a1, c1, hv1, _⟩ := O1.out.1.slice; rw [I1.out.2] at hv1; subst hv1) | (at_builtin; refine append_msgs rfl (.tmp 11) (.tmp 15) rfl w.heap.size _ (l.take i) rfl O1.out.1 (some ⟨g, off + (i + 1) * 6, none⟩) (n - (i + 1)) (c - (i + 1)) (l.drop (i + 1)) rfl (I2.out w1 O1.out.2).2 (I2.out w1 O1.out.2).1 (fun h => by cases h) (by have := HNN.out; rw [I1.out.2]; omega) O1.out.2.size ?_; intro v2 w2 ho2 hg2; have O2 : Hid (OwnM w2 w.heap.size v2 (outL l i) ∧ Below w.heap.size w w2) := ⟨ho2, O1.out.2.grown hg2 O1.out.2.size (fun k hk => (O1.out.1.own k hk).1)⟩; clear ho2 hg2))
    go_ret
    exact ⟨_, rfl, O2.out⟩
end Go.Proofs.Ytokakhlkanakcaa
