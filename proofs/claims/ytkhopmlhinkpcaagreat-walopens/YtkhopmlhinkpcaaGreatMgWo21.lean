/- The statements' own pair (veneerlaw10): two disks and two logs, one plain state; open. -/
import Derived.Test.YtkhopmlhinkpcaaGreatMgWo20
namespace Go.Proofs.YtkhopmlhinkpcaaGreat
open Go.ChangeShapes Go.WideShapes Go.ChangeAt Go.RowKit Go.Deep Go.Maps
set_option linter.unusedVariables false
/-- both logs, or none -/
def PwL (wr : World) (d r N : Nat) (o : Option Lg) (vl vq : Value) (G G2 : Nat → Prop) : Prop := match o with
  | none => vl = .pointer none ∧ vq = .pointer none ∧ (∀ k, ¬ G k) ∧ ∀ k, ¬ G2 k
  | some l => ∃ bl bq, vl = .pointer (some ⟨bl, 0, none⟩) ∧ vq = .pointer (some ⟨bq, 0, none⟩) ∧ Lm wr G bl d l ∧ Rl wr G2 bq r l ∧ l.Ok N
/-- a pair's parts, in blocks apart -/
structure PwP (w wr : World) (bp d r N : Nat) (s : Ds) (o : Option Lg) (vl vq : Value) (F F2 G G2 : Nat → Prop) : Prop where
  dk : Dk wr F d N s
  rk : Rk wr F2 r N s
  lg : PwL wr d r N o vl vq G G2
  box : wr.heap[bp]? = some (.cells #[.pointer (some ⟨d, 0, none⟩), .pointer (some ⟨r, 0, none⟩), vl, vq] 35)
  x1 : ∀ k, F k → ¬ F2 k
  x2 : ∀ k, G k → ¬ F k ∧ ¬ F2 k
  x3 : ∀ k, G2 k → ¬ F k ∧ ¬ F2 k ∧ ¬ G k
  nb : ¬ F bp ∧ ¬ F2 bp ∧ ¬ G bp ∧ ¬ G2 bp
  fr : ∀ k, F k ∨ F2 k ∨ G k ∨ G2 k → w.heap.size ≤ k
  hb : w.heap.size ≤ bp
  bel : Below w.heap.size w wr
def Pw (w wr : World) (bp d r N : Nat) (s : Ds) (o : Option Lg) : Prop := ∃ vl vq F F2 G G2, PwP w wr bp d r N s o vl vq F F2 G G2
theorem opn_some (s : Ds) : (s.opn.1 = 0 → ∃ l, s.opn.2.1 = some l) ∧ (s.opn.1 ≠ 0 → s.opn.2.1 = none) := by
  unfold Ds.opn
  split
  · exact ⟨fun h => absurd h (by show ¬ (15 : Int) = 0; omega), fun _ => rfl⟩
  · split
    · exact ⟨fun h => absurd h (by show ¬ (2 : Int) = 0; omega), fun _ => rfl⟩
    · unfold Ds.fob
      split
      · split
        · exact ⟨fun _ => ⟨_, rfl⟩, fun h => absurd rfl h⟩
        · rename_i h1
          exact ⟨fun h => absurd h h1, fun _ => rfl⟩
      · split
        · exact ⟨fun _ => ⟨_, rfl⟩, fun h => absurd rfl h⟩
        · rename_i h1
          exact ⟨fun h => absurd h h1, fun _ => rfl⟩
theorem pbox {w : World} {bp d r : Nat} {vl vq : Value} {t : TypeId} (h : w.heap[bp]? = some (.cells #[.pointer (some ⟨d, 0, none⟩), .pointer (some ⟨r, 0, none⟩), vl, vq] t)) : w.cell? ⟨bp, 0, none⟩ = some (.pointer (some ⟨d, 0, none⟩)) ∧ w.cell? ⟨bp, 1, none⟩ = some (.pointer (some ⟨r, 0, none⟩)) ∧ w.cell? ⟨bp, 2, none⟩ = some vl ∧ w.cell? ⟨bp, 3, none⟩ = some vq ∧ ∀ i, w.frozen? ⟨bp, i, none⟩ = false := by
  refine ⟨?_, ?_, ?_, ?_, fun i => ?_⟩
  · rw [cell_of_row w bp _ _ _ (0, 0) h]; rfl
  · rw [cell_of_row w bp _ _ _ (0, 0) h]; rfl
  · rw [cell_of_row w bp _ _ _ (0, 0) h]; rfl
  · rw [cell_of_row w bp _ _ _ (0, 0) h]; rfl
  · rw [World.frozen?, h]; simp
theorem pset {w : World} {g i : Nat} {cur : Array Value} {t : TypeId} (v : Value) (h : w.heap[g]? = some (.cells cur t)) : (w.setCell ⟨g, i, none⟩ v).heap[g]? = some (.cells (cur.setIfInBounds i v) t) := by
  rw [setCell_eq_setRow w g i cur t _ v h]
  exact setRow_heap _ _ _ _ _ _ h
set_option maxRecDepth 100000 in
set_option maxHeartbeats 4000000 in
theorem pw_open {w wr : World} {bp d r N : Nat} {s : Ds} {o : Option Lg} (T : Pw w wr bp d r N s o) (hN : N + 3000 < 999000) :
    Calls Tryz.prog 8 #[.pointer (some ⟨bp, 0, none⟩)] wr fun e w' => e = .returned (.bool true) ∧ Pw w w' bp d r (N + 2) s.opn.2.2 s.opn.2.1 := by
  obtain ⟨vl, vq, F, F2, G, G2, p⟩ := T
  have HP : Hid (PwP w wr bp d r N s o vl vq F F2 G G2) := p
  obtain ⟨X, hX⟩ : ∃ X, X = s.opn := ⟨_, rfl⟩
  have HX : Hid ((X.1 = 0 → ∃ l, X.2.1 = some l) ∧ (X.1 ≠ 0 → X.2.1 = none)) := by rw [hX]; exact opn_some s
  have KO : Hid (Calls Tryz.prog 15 #[.pointer (some ⟨d, 0, none⟩)] wr (OpnSaid wr F d N X)) := by rw [hX]; exact open_is wr F d N s p.dk (by omega)
  have hcu : ∀ i, i < s.D.length → (s.cur i).length = 64 ∧ IsBytes (s.cur i) := fun i hi => cur_64 p.dk i hi
  have HR : Hid (∀ W, Rk W F2 r N s → Calls Tryz.prog 23 #[.pointer (some ⟨r, 0, none⟩)] W fun e w' => ∃ F', Rk w' F' r (N + 2) X.2.2 ∧ Step F2 F' W w' ∧ ((X.1 = 0 ∧ ∃ b G l, X.2.1 = some l ∧ e = .returned (.tuple #[.pointer (some ⟨b, 0, none⟩), .int .i64 0]) ∧ Rl w' G b r l ∧ (∀ k, G k → W.heap.size ≤ k) ∧ ∀ k, G k → ¬ F' k) ∨ (X.1 ≠ 0 ∧ e = .returned (.tuple #[.pointer none, .int .i64 X.1])))) := fun W hW => by rw [hX]; exact ropen_is W F2 r N s hW (by omega) hcu
  rw [← hX]
  obtain ⟨d0, d1, d2, d3, hfz⟩ := pbox p.box
  have HLt : Hid ((∀ k, F k → k < wr.heap.size) ∧ (∀ k, F2 k → k < wr.heap.size) ∧ bp < wr.heap.size) := ⟨p.dk.lt, p.rk.lt, (Array.getElem?_eq_some_iff.1 p.box).1⟩
  clear hX hcu p hfz
  go_enter Tryz.func8, Tryz.ntmps8
  go_wp2_with fail
  refine KO.out.mono ?_
  rintro e w1 ⟨F1, hd1, hs1, hor1⟩
  have HD1 : Hid (Dk w1 F1 d (N + 2) X.2.2) := hd1
  have HS1 : Hid (Step F F1 wr w1) := hs1
  have HK1 : Hid (∀ k, k < wr.heap.size → ¬ F k → w1.heap[k]? = wr.heap[k]?) := fun k h1 h2 => hs1.off.block k h1 h2
  have HR1 : Hid (Rk w1 F2 r N s) := HP.out.rk.kept fun k hk => HK1.out k (HLt.out.2.1 k hk) (fun h => HP.out.x1 k h hk)
  have HB1 : Hid (w1.heap[bp]? = some (.cells #[.pointer (some ⟨d, 0, none⟩), .pointer (some ⟨r, 0, none⟩), vl, vq] 35)) := (HK1.out bp HLt.out.2.2 HP.out.nb.1).trans HP.out.box
  obtain ⟨q0, q1, q2, q3, hfz⟩ := pbox HB1.out
  have HZ1 : Hid (wr.heap.size ≤ w1.heap.size) := hs1.off.size
  clear hd1 hs1 d0 d1 d2 d3
  have h1 : ∃ (v1 : Value) (G' : Nat → Prop), e = .returned (.tuple #[v1, .int .i64 X.1]) ∧ ((X.1 = 0 ∧ ∃ bl l, v1 = .pointer (some ⟨bl, 0, none⟩) ∧ X.2.1 = some l ∧ Lm w1 G' bl d l ∧ l.Ok N) ∨ (X.1 ≠ 0 ∧ v1 = .pointer none ∧ ∀ k, ¬ G' k)) ∧ (∀ k, G' k → wr.heap.size ≤ k ∧ k < w1.heap.size ∧ ¬ F1 k) := by
    rcases hor1 with ⟨h0, bl, G', l, hl, he, hm, hok, _, hg1, hg2⟩ | ⟨h0, he⟩
    · exact ⟨_, G', by rw [he, h0], .inl ⟨h0, bl, l, rfl, hl, hm, hok⟩, fun k hk => ⟨hg1 k hk, hm.lt k hk, hg2 k hk⟩⟩
    · exact ⟨_, fun _ => False, he, .inr ⟨h0, rfl, fun _ h => h⟩, fun k hk => hk.elim⟩
  obtain ⟨v1, G1, rfl, hl1, hg1⟩ := h1
  have HL1 : Hid ((X.1 = 0 ∧ ∃ bl l, v1 = .pointer (some ⟨bl, 0, none⟩) ∧ X.2.1 = some l ∧ Lm w1 G1 bl d l ∧ l.Ok N) ∨ (X.1 ≠ 0 ∧ v1 = .pointer none ∧ ∀ k, ¬ G1 k)) := hl1
  have HG1 : Hid (∀ k, G1 k → wr.heap.size ≤ k ∧ k < w1.heap.size ∧ ¬ F1 k) := hg1
  have HV1 : Hid (∃ ad, v1 = .pointer ad ∧ (ad = none ↔ X.1 ≠ 0)) := by
    rcases hl1 with ⟨h0, bl, l, hv, _⟩ | ⟨h0, hv, _⟩
    · exact ⟨_, hv, by simp [h0]⟩
    · exact ⟨none, hv, by simp [h0]⟩
  clear hor1 hl1 hg1
  obtain ⟨ad1, had1, hz1⟩ := HV1.out
  subst had1
  obtain ⟨c1, hc1⟩ : ∃ c, X.1 = c := ⟨_, rfl⟩
  have HC1 : Hid (X.1 = c1) := hc1
  rw [hc1] at hz1 ⊢
  clear hc1
  go_wp2_with fail
  refine (HR.out w1 HR1.out).mono ?_
  rintro e w2 ⟨F3, hd2, hs2, hor2⟩
  have HD2 : Hid (Rk w2 F3 r (N + 2) X.2.2) := hd2
  have HS2 : Hid (Step F2 F3 w1 w2) := hs2
  have HK2 : Hid (∀ k, k < w1.heap.size → ¬ F2 k → w2.heap[k]? = w1.heap[k]?) := fun k h1 h2 => hs2.off.block k h1 h2
  have HF1 : Hid (∀ k, F1 k → k < w1.heap.size ∧ ¬ F2 k) := fun k hk => ⟨HD1.out.lt k hk, fun h => by
    rcases HS1.out.sub k hk with e | e
    · exact HP.out.x1 k e h
    · have := HLt.out.2.1 k h; omega⟩
  have HDk2 : Hid (Dk w2 F1 d (N + 2) X.2.2) := HD1.out.apart hs2.off (fun k hk => (HF1.out k hk).2)
  have HF1b : Hid (¬ F1 bp ∧ ¬ F3 bp) := ⟨fun h => by
    rcases HS1.out.sub bp h with e | e
    · exact HP.out.nb.1 e
    · have := HLt.out.2.2; omega, fun h => by
    rcases hs2.sub bp h with e | e
    · exact HP.out.nb.2.1 e
    · have := HLt.out.2.2; have := HZ1.out; omega⟩
  have HG1b : Hid (∀ k, G1 k → ¬ F2 k) := fun k hk h => by
    have h1 := (HG1.out k hk).1
    have h2 := HLt.out.2.1 k h
    omega
  have HB2 : Hid (w2.heap[bp]? = some (.cells #[.pointer (some ⟨d, 0, none⟩), .pointer (some ⟨r, 0, none⟩), vl, vq] 35)) := (HK2.out bp (by have h1 := HLt.out.2.2; have h2 := HZ1.out; omega) HP.out.nb.2.1).trans HB1.out
  have HZ2 : Hid (w1.heap.size ≤ w2.heap.size) := hs2.off.size
  have HBel : Hid (Below w.heap.size w w2) := by
    have b1 := HP.out.bel.trans (HS1.out.off.below (fun k hk => HP.out.fr k (.inl hk)) HP.out.bel.size)
    exact b1.trans (hs2.off.below (fun k hk => HP.out.fr k (.inr (.inl hk))) b1.size)
  have h2 : ∃ (v2 : Value) (G' : Nat → Prop), e = .returned (.tuple #[v2, .int .i64 c1]) ∧ ((X.1 = 0 ∧ ∃ bl l, v2 = .pointer (some ⟨bl, 0, none⟩) ∧ X.2.1 = some l ∧ Rl w2 G' bl r l) ∨ (X.1 ≠ 0 ∧ v2 = .pointer none ∧ ∀ k, ¬ G' k)) ∧ (∀ k, G' k → w1.heap.size ≤ k ∧ ¬ F3 k) := by
    rcases hor2 with ⟨h0, b, G', l, hl, he, hm, hg1, hg2⟩ | ⟨h0, he⟩
    · exact ⟨_, G', by rw [he, ← HC1.out, h0], .inl ⟨h0, b, l, rfl, hl, hm⟩, fun k hk => ⟨hg1 k hk, hg2 k hk⟩⟩
    · exact ⟨_, fun _ => False, by rw [he, HC1.out], .inr ⟨h0, rfl, fun _ h => h⟩, fun k hk => hk.elim⟩
  obtain ⟨v2, G3, rfl, hl2, hg2⟩ := h2
  have HL2 : Hid ((X.1 = 0 ∧ ∃ bl l, v2 = .pointer (some ⟨bl, 0, none⟩) ∧ X.2.1 = some l ∧ Rl w2 G3 bl r l) ∨ (X.1 ≠ 0 ∧ v2 = .pointer none ∧ ∀ k, ¬ G3 k)) := hl2
  have HG2 : Hid (∀ k, G3 k → w1.heap.size ≤ k ∧ ¬ F3 k) := hg2
  clear hd2 hs2 hor2 hl2 hg2 q0 q1 q2 q3 hfz
  obtain ⟨q0, q1, q2, q3, hfz⟩ := pbox HB2.out
  -- what is there in the end
  have HEnd : Hid (∀ ad2, v2 = .pointer ad2 → Pw w ((w2.setCell ⟨bp, 2, none⟩ (.pointer ad1)).setCell ⟨bp, 3, none⟩ (.pointer ad2)) bp d r (N + 2) X.2.2 X.2.1) := fun ad2 hv => by
    have off : ∀ k, k ≠ bp → ((w2.setCell ⟨bp, 2, none⟩ (.pointer ad1)).setCell ⟨bp, 3, none⟩ (.pointer ad2)).heap[k]? = w2.heap[k]? := fun k hk => (set_off _ _ _ _ _ hk).trans (set_off _ _ _ _ _ hk)
    have hbl : bp < wr.heap.size := HLt.out.2.2
    have z1 := HZ1.out
    have z2 := HZ2.out
    have hF3 : ∀ k, F3 k → F2 k ∨ w1.heap.size ≤ k := HS2.out.sub
    have hF1 : ∀ k, F1 k → F k ∨ wr.heap.size ≤ k := HS1.out.sub
    have g1b : ∀ k, G1 k → k ≠ bp := fun k hk e => by have := (HG1.out k hk).1; omega
    have g3b : ∀ k, G3 k → k ≠ bp := fun k hk e => by have := (HG2.out k hk).1; omega
    have f1b : ∀ k, F1 k → k ≠ bp := fun k hk e => by rw [e] at hk; exact HF1b.out.1 hk
    have f3b : ∀ k, F3 k → k ≠ bp := fun k hk e => by rw [e] at hk; exact HF1b.out.2 hk
    have gk : ∀ k, G1 k → w2.heap[k]? = w1.heap[k]? := fun k hk => HK2.out k (HG1.out k hk).2.1 (HG1b.out k hk)
    have hsz : w2.heap.size ≤ ((w2.setCell ⟨bp, 2, none⟩ (.pointer ad1)).setCell ⟨bp, 3, none⟩ (.pointer ad2)).heap.size := Nat.le_trans (grown_setCell w2 bp 2 _).size (grown_setCell _ bp 3 _).size
    refine ⟨.pointer ad1, .pointer ad2, F1, F3, G1, G3, ⟨?_, ?_, ?_, ?_, ?_, ?_, ?_, ?_, ?_, HP.out.hb, ?_⟩⟩
    · exact (HDk2.out.grown (grown_setCell w2 bp 2 _) (fun k e hk => f1b k hk (Option.some.inj e).symm)).grown (grown_setCell _ bp 3 _) (fun k e hk => f1b k hk (Option.some.inj e).symm)
    · exact HD2.out.kept fun k hk => off k (f3b k hk)
    · rcases HL1.out with ⟨h0, bl, l, hv1, hl1, hm1, hok1⟩ | ⟨h0, hv1, hn1⟩
      · rcases HL2.out with ⟨_, bq, l2, hv2, hl2, hm2⟩ | ⟨h0', _⟩
        · obtain rfl : l = l2 := Option.some.inj (hl1.symm.trans hl2)
          rw [hl1]
          exact ⟨bl, bq, hv1, hv.symm.trans hv2, hm1.kept fun k hk => (off k (g1b k hk)).trans (gk k hk), hm2.kept fun k hk => off k (g3b k hk), hok1.more (by omega)⟩
        · exact absurd h0 h0'
      · rcases HL2.out with ⟨h0', _⟩ | ⟨_, hv2, hn2⟩
        · exact absurd h0' h0
        · rw [HX.out.2 h0]
          exact ⟨hv1, hv.symm.trans hv2, hn1, hn2⟩
    · exact pset _ (pset _ HB2.out)
    · intro k hk h
      rcases hF3 k h with e | e
      · exact (HF1.out k hk).2 e
      · have := (HF1.out k hk).1; omega
    · intro k hk
      have h1 := HG1.out k hk
      refine ⟨h1.2.2, fun h => ?_⟩
      rcases hF3 k h with e | e
      · exact HG1b.out k hk e
      · omega
    · intro k hk
      have h1 := HG2.out k hk
      refine ⟨fun h => ?_, h1.2, fun h => ?_⟩
      · have := (HF1.out k h).1; omega
      · have := (HG1.out k h).2.1; omega
    · exact ⟨HF1b.out.1, HF1b.out.2, fun h => g1b bp h rfl, fun h => g3b bp h rfl⟩
    · have hw := HP.out.bel.size
      rintro k (h | h | h | h)
      · rcases hF1 k h with e | e
        · exact HP.out.fr k (.inl e)
        · omega
      · rcases hF3 k h with e | e
        · exact HP.out.fr k (.inr (.inl e))
        · omega
      · have := (HG1.out k h).1; omega
      · have := (HG2.out k h).1; omega
    · exact (HBel.out.grown (grown_setCell w2 bp 2 _) HBel.out.size (fun k e => by cases e; exact HP.out.hb)).grown (grown_setCell _ bp 3 _) (Nat.le_trans HBel.out.size (grown_setCell w2 bp 2 _).size) (fun k e => by cases e; exact HP.out.hb)
  have z2 := hfz 2
  obtain ⟨f0, f1, f2, f3, hfz3⟩ := pbox (show (w2.setCell ⟨bp, 2, none⟩ (.pointer ad1)).heap[bp]? = some (.cells #[.pointer (some ⟨d, 0, none⟩), .pointer (some ⟨r, 0, none⟩), .pointer ad1, vq] 35) from pset _ HB2.out)
  have z3 := hfz3 3
  clear hfz hfz3
  by_cases h0 : c1 = 0
  · have ha1 : ∃ x, ad1 = some x := by
      cases ad1 with
      | none => exact absurd h0 (hz1.1 rfl)
      | some x => exact ⟨x, rfl⟩
    obtain ⟨x1, rfl⟩ := ha1
    have hv2 : ∃ x, v2 = .pointer (some x) := by
      rcases HL2.out with ⟨_, bl, _, hv, _⟩ | ⟨h, _⟩
      · exact ⟨_, hv⟩
      · exact absurd (HC1.out.trans h0) h
    obtain ⟨x2, rfl⟩ := hv2
    have HE := HEnd.out (some x2) rfl
    have HEE : Hid (Pw w ((w2.setCell ⟨bp, 2, none⟩ (.pointer (some x1))).setCell ⟨bp, 3, none⟩ (.pointer (some x2))) bp d r (N + 2) X.2.2 X.2.1) := HE
    clear HE hz1 HEnd h0
    go_wp2_with fail
    go_ret
    exact ⟨rfl, HEE.out⟩
  · have ha1 : ad1 = none := hz1.2 h0
    subst ha1
    have hv2 : v2 = .pointer none := by
      rcases HL2.out with ⟨h, _⟩ | ⟨_, hv, _⟩
      · exact absurd (HC1.out.symm.trans h) h0
      · exact hv
    subst hv2
    have HE := HEnd.out none rfl
    have HEE : Hid (Pw w ((w2.setCell ⟨bp, 2, none⟩ (.pointer none)).setCell ⟨bp, 3, none⟩ (.pointer none)) bp d r (N + 2) X.2.2 X.2.1) := HE
    clear HE hz1 HEnd h0
    go_wp2_with fail
    go_ret
    exact ⟨rfl, HEE.out⟩
end Go.Proofs.YtkhopmlhinkpcaaGreat
