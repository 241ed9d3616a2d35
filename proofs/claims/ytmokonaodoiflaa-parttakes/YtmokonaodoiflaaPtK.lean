/- Tick (gen_ptk.py). -/
import Derived.Test.YtmokonaodoiflaaPtJ
namespace Go.Proofs.Ytmokonaodoiflaa
open Go.ChangeShapes Go.WideShapes Go.ChangeAt Go.RowKit Go.Deep Go.Maps
set_option linter.unusedVariables false
set_option linter.unusedSimpArgs false
/-- what is done when time goes by -/
def tcD (r s : Int) (D : List Int) : List Dd := if s = 0 then some9 [dSe (lastP D)] else [dSn 6 r s false]
/-- what Tick tells -/
def TcSaid (w w' : World) (r s : Int) (D : List Int) (V : Value) : Prop := (gdP r s D = true → OwnD w' w.heap.size V (tcD r s D)) ∧ (gdP r s D = false → V = .slice none 0 0) ∧ Below w.heap.size w w'
set_option maxRecDepth 100000 in
set_option maxHeartbeats 8000000 in
theorem tick_is (w : World) (r s : Int) (a : Option Addr) (n c : Nat) (D : List Int) (hn : D.length = n) (hD : InZ w a D) (ha : a = none → n = 0 ∧ c = 0) (hN : n ≤ 100000) :
    Calls Try.prog 18 #[.agg #[.int .i64 r, .int .i64 s, .slice a n c]] w fun e w' => ∃ V, e = .returned V ∧ TcSaid w w' r s D V := by
  obtain ⟨W0, hW0⟩ : ∃ W0, W0 = w.alloc (.cells #[.int .i64 r, .int .i64 s, .slice a n c] 24) := ⟨_, rfl⟩
  have HE : Hid (W0 = w.alloc (.cells #[.int .i64 r, .int .i64 s, .slice a n c] 24)) := hW0
  have hb0 : Below w.heap.size w W0 := by rw [hW0]; exact below1 w _
  have hq0 : W0.heap[w.heap.size]? = some (.cells #[.int .i64 r, .int .i64 s, .slice a n c] 24) := by rw [hW0]; exact heap_alloc_new w _
  have hz : W0.heap.size = w.heap.size + 1 := by rw [hW0]; simp
  obtain ⟨z, hzz⟩ : ∃ z, z = W0.heap.size := ⟨_, rfl⟩
  have HZ : Hid (z = W0.heap.size ∧ z = w.heap.size + 1 ∧ Below w.heap.size w W0) := ⟨hzz, by omega, hb0⟩
  have KC : Hid (∀ W, Below z W0 W → W.cell? ⟨w.heap.size, 0, none⟩ = some (.int .i64 r) ∧ W.cell? ⟨w.heap.size, 1, none⟩ = some (.int .i64 s) ∧ W.cell? ⟨w.heap.size, 2, none⟩ = some (.slice a n c)) := fun W hW => by
    have p1 := (hW.block w.heap.size (by omega)).trans hq0
    refine ⟨?_, ?_, ?_⟩
    · rw [cell_of_row _ w.heap.size 0 _ _ (0, 0) p1]; rfl
    · rw [cell_of_row _ w.heap.size 1 _ _ (0, 0) p1]; rfl
    · rw [cell_of_row _ w.heap.size 2 _ _ (0, 0) p1]; rfl
  have up : ∀ W, Below z W0 W → Below w.heap.size w W := fun W hW => hb0.trans (hW.mono (by omega))
  obtain ⟨G, hG⟩ : ∃ G, gdP r s D = G := ⟨_, rfl⟩
  obtain ⟨l9, hl9⟩ : ∃ l9, l9 = lastP D := ⟨_, rfl⟩
  have KG : Hid (∀ W, Below z W0 W → Calls Try.prog 13 #[.agg #[.int .i64 r, .int .i64 s, .slice a n c]] W fun e w' => e = .returned (.bool G) ∧ Below W.heap.size W w') := fun W hW => by rw [← hG]; exact pgood_is W r s a n c D hn (hD.keep (up W hW)) ha (by omega)
  have KL : Hid (∀ W, Below z W0 W → Calls Try.prog 27 #[.agg #[.int .i64 r, .int .i64 s, .slice a n c]] W fun e w' => e = .returned (.int .i64 l9) ∧ Below W.heap.size W w') := fun W hW => by rw [hl9]; exact last_is W r s a n c D hn (hD.keep (up W hW)) (by omega)
  have HG : Hid (gdP r s D = G) := hG
  have ON : Hid (∀ W, OwnD W z (.slice none 0 0) []) := fun W => OwnD.nil _ _
  have BR : Hid (Below z W0 W0) := Below.refl _ _
  clear hW0 hb0 hq0 hz hzz up hG hn hD ha hN
  have FIN : Hid (∀ V w', gdP r s D = true → OwnD w' z V (tcD r s D) → Below z W0 w' → ∃ V', Ending.returned V = .returned V' ∧ TcSaid w w' r s D V') := fun V w' h0 h1 h2 => ⟨V, rfl, fun _ => h1.base (by have := HZ.out.2.1; omega), (fun h => (by rw [h0] at h; cases h)), HZ.out.2.2.trans (h2.mono (by have := HZ.out.2.1; omega))⟩
  obtain ⟨c0, c1, c2⟩ := KC.out _ BR.out
  go_enter Try.func18, Try.ntmps18
  go_wp2_with fail
  rw [← HE.out]
  clear HE
  refine (KG.out _ BR.out).mono ?_
  rintro e w1 ⟨rfl, b1⟩
  have B1 : Hid (Below z W0 w1) := b1.mono (by have := HZ.out.1; omega)
  have Z1 : Hid (z ≤ w1.heap.size) := by show _ ≤ _; have := b1.size; have := HZ.out.1; omega
  clear b1 c0 c1 c2
  obtain ⟨c0, c1, c2⟩ := KC.out _ B1.out
  cases G with
  | false =>
    go_wp2_with fail
    go_ret
    exact ⟨_, rfl, (fun h => (by have := HG.out.symm.trans h; cases this)), fun _ => rfl, HZ.out.2.2.trans (B1.out.mono (by have := HZ.out.2.1; omega))⟩
  | true =>
  by_cases hs0 : s = 0
  case neg =>
    have s1 : (s != 0) = true := by simp [hs0]
    have KS : Hid (∀ W, Calls Try.prog 29 #[.agg #[.int .i64 r, .int .i64 s, .slice a n c], .agg #[.int .i64 6, .int .i64 0, .int .i64 0, .int .i64 s, .bool false, .slice none 0 0]] W fun e w' => e = .returned (.agg #[.int .i64 5, .int .i64 0, .slice none 0 0, .int .i64 6, .int .i64 r, .int .i64 0, .int .i64 s, .bool false, .slice none 0 0]) ∧ Below W.heap.size W w') := fun W => send_is W r s a n c ⟨6, 0, 0, s, false, none, 0, 0⟩
    have KT : Hid (∀ W V l, OwnD W z V l → z ≤ W.heap.size → l.length ≤ 1000 → Calls Try.prog 25 #[V, .slice (some ⟨W.heap.size, 0, none⟩) 1 1] (W.alloc (.cells #[.int .i64 5, .int .i64 0, .slice none 0 0, .int .i64 6, .int .i64 r, .int .i64 0, .int .i64 s, .bool false, .slice none 0 0] 37)) fun e w' => ∃ V', e = .returned V' ∧ OwnD w' z V' (l ++ [dSn 6 r s false]) ∧ W.grownBy w' V.ownBlock) := fun W V l h1 h2 h3 => then1 W z V l (dSn 6 r s false) h1 h2 h3
    have HT : Hid (gdP r s D = true ∧ tcD r s D = [dSn 6 r s false]) := ⟨HG.out, if_neg hs0⟩
    clear hs0
    go_wp2_with (first | (go_at_call 29; refine (KS.out _).mono ?_; rintro e3 w3 ⟨rfl, b3⟩; have B3 : Hid (Below z W0 w3) := B1.out.trans (b3.mono Z1.out); have Z3 : Hid (z ≤ w3.heap.size) := Nat.le_trans Z1.out b3.size; clear b3) | (go_at_call 25; refine (KT.out _ _ _ (ON.out w3) Z3.out (by simp)).mono ?_; rintro e5 u5 ⟨V5, rfl, o5, g5⟩; have O8 : Hid (OwnD u5 z V5 [dSn 6 r s false]) := o5; have B8 : Hid (Below z W0 u5) := B3.out.grown g5 Z3.out (fun k hk => by cases hk); clear o5 g5))
    go_ret
    exact FIN.out _ _ HT.out.1 (by rw [HT.out.2]; exact O8.out) B8.out
  have s1 : (s != 0) = false := by simp [hs0]
  have HS0 : Hid (s = 0) := hs0
  clear hs0
  by_cases hl0 : lastP D = 0
  · skip
    have HY : Hid (dSe l9 = dP 0 0 noM) := by show _ = _; rw [hl9]; exact if_pos hl0
    have KE9 : Hid (∀ W, Calls Try.prog 26 #[.int .i64 l9] W fun e w' => e = .returned (.agg #[.int .i64 0, .int .i64 0, .slice none 0 0, .int .i64 0, .int .i64 0, .int .i64 0, .int .i64 0, .bool false, .slice none 0 0]) ∧ Below W.heap.size W w') := fun W => by
      have := settle_is W l9
      rw [HY.out] at this
      exact this
    have KT : Hid (∀ W V l, OwnD W z V l → z ≤ W.heap.size → l.length ≤ 1000 → Calls Try.prog 25 #[V, .slice (some ⟨W.heap.size, 0, none⟩) 1 1] (W.alloc (.cells #[.int .i64 0, .int .i64 0, .slice none 0 0, .int .i64 0, .int .i64 0, .int .i64 0, .int .i64 0, .bool false, .slice none 0 0] 37)) fun e w' => ∃ V', e = .returned V' ∧ OwnD w' z V' (l ++ some9 [dP 0 0 noM]) ∧ W.grownBy w' V.ownBlock) := fun W V l h1 h2 h3 => then1 W z V l (dP 0 0 noM) h1 h2 h3
    have HT : Hid (gdP r s D = true ∧ tcD r s D = some9 [dP 0 0 noM]) := ⟨HG.out, by unfold tcD; rw [if_pos HS0.out, ← hl9, HY.out]⟩
    clear hl9 hl0
    go_wp2_with (first | (go_at_call 27; refine (KL.out _ B1.out).mono ?_; rintro e2 w2 ⟨rfl, b2⟩; have B2 : Hid (Below z W0 w2) := B1.out.trans (b2.mono Z1.out); have Z2 : Hid (z ≤ w2.heap.size) := Nat.le_trans Z1.out b2.size; clear b2) | (go_at_call 26; refine (KE9.out _).mono ?_; rintro e3 w3 ⟨rfl, b3⟩; have B3 : Hid (Below z W0 w3) := B2.out.trans (b3.mono Z2.out); have Z3 : Hid (z ≤ w3.heap.size) := Nat.le_trans Z2.out b3.size; clear b3) | (go_at_call 25; refine (KT.out _ _ _ (ON.out w3) Z3.out (by simp)).mono ?_; rintro e5 u5 ⟨V5, rfl, o5, g5⟩; have O8 : Hid (OwnD u5 z V5 (some9 [dP 0 0 noM])) := o5; have B8 : Hid (Below z W0 u5) := B3.out.grown g5 Z3.out (fun k hk => by cases hk); clear o5 g5))
    go_ret
    exact FIN.out _ _ HT.out.1 (by rw [HT.out.2]; exact O8.out) B8.out
  · skip
    have HY : Hid (dSe l9 = dP 1 l9 noM) := by show _ = _; rw [hl9]; exact if_neg hl0
    have KE9 : Hid (∀ W, Calls Try.prog 26 #[.int .i64 l9] W fun e w' => e = .returned (.agg #[.int .i64 1, .int .i64 l9, .slice none 0 0, .int .i64 0, .int .i64 0, .int .i64 0, .int .i64 0, .bool false, .slice none 0 0]) ∧ Below W.heap.size W w') := fun W => by
      have := settle_is W l9
      rw [HY.out] at this
      exact this
    have KT : Hid (∀ W V l, OwnD W z V l → z ≤ W.heap.size → l.length ≤ 1000 → Calls Try.prog 25 #[V, .slice (some ⟨W.heap.size, 0, none⟩) 1 1] (W.alloc (.cells #[.int .i64 1, .int .i64 l9, .slice none 0 0, .int .i64 0, .int .i64 0, .int .i64 0, .int .i64 0, .bool false, .slice none 0 0] 37)) fun e w' => ∃ V', e = .returned V' ∧ OwnD w' z V' (l ++ some9 [dP 1 l9 noM]) ∧ W.grownBy w' V.ownBlock) := fun W V l h1 h2 h3 => then1 W z V l (dP 1 l9 noM) h1 h2 h3
    have HT : Hid (gdP r s D = true ∧ tcD r s D = some9 [dP 1 l9 noM]) := ⟨HG.out, by unfold tcD; rw [if_pos HS0.out, ← hl9, HY.out]⟩
    clear hl9 hl0
    go_wp2_with (first | (go_at_call 27; refine (KL.out _ B1.out).mono ?_; rintro e2 w2 ⟨rfl, b2⟩; have B2 : Hid (Below z W0 w2) := B1.out.trans (b2.mono Z1.out); have Z2 : Hid (z ≤ w2.heap.size) := Nat.le_trans Z1.out b2.size; clear b2) | (go_at_call 26; refine (KE9.out _).mono ?_; rintro e3 w3 ⟨rfl, b3⟩; have B3 : Hid (Below z W0 w3) := B2.out.trans (b3.mono Z2.out); have Z3 : Hid (z ≤ w3.heap.size) := Nat.le_trans Z2.out b3.size; clear b3) | (go_at_call 25; refine (KT.out _ _ _ (ON.out w3) Z3.out (by simp)).mono ?_; rintro e5 u5 ⟨V5, rfl, o5, g5⟩; have O8 : Hid (OwnD u5 z V5 (some9 [dP 1 l9 noM])) := o5; have B8 : Hid (Below z W0 u5) := B3.out.grown g5 Z3.out (fun k hk => by cases hk); clear o5 g5))
    go_ret
    exact FIN.out _ _ HT.out.1 (by rw [HT.out.2]; exact O8.out) B8.out
end Go.Proofs.Ytmokonaodoiflaa
