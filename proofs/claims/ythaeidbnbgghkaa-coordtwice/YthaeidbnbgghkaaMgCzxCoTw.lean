/- CoordTwice: what stands between two calls, and what each call leaves. -/
import Derived.Test.YthaeidbnbgghkaaMgCzxCoFw
import Derived.Test.YthaeidbnbgghkaaMgCz21
import Derived.Test.YthaeidbnbgghkaaMgCz20
namespace Go.Proofs.Ythaeidbnbgghkaa
open Go.ChangeShapes Go.WideShapes Go.ChangeAt Go.RowKit Go.Deep Go.Maps
set_option linter.unusedVariables false
set_option linter.unusedSimpArgs false
theorem arF_ok : ∀ (l : List Int) (p : Int), arF p l = true → (∀ x ∈ l, p < x) ∧ l.Nodup
  | [], _, _ => ⟨fun x hx => (by cases hx), List.nodup_nil⟩
  | y :: r, p, h => by
    simp only [arF, Bool.and_eq_true, decide_eq_true_eq] at h
    obtain ⟨h1, h2⟩ := arF_ok r y h.2
    refine ⟨fun x hx => ?_, List.nodup_cons.2 ⟨fun hy => absurd (h1 y hy) (by omega), h2⟩⟩
    rcases List.mem_cons.1 hx with rfl | hx
    · exact h.1.2
    · have := h1 x hx
      have := h.1.2
      omega
theorem opE15_ok {X : Int → Option Tr} {q : Int} {l : List Int} {E : Int} (h : opE15 X q l E = 0) : l.Nodup ∧ l.length ≤ 6 := by
  have hw : wrgE q l = 0 := by
    by_cases e : wrgE q l = 0
    · exact e
    · unfold opE15 at h
      rw [if_pos e] at h
      exact absurd h e
  have ha : arF 0 l = true := by
    cases e : arF 0 l with
    | true => rfl
    | false =>
      unfold wrgE at hw
      rw [if_pos (.inr (.inr e))] at hw
      exact absurd hw (by decide)
  have hl := arF_len l 0 (Int.le_refl 0) (by decide) ha
  exact ⟨(arF_ok l 0 ha).2, by omega⟩
theorem tkF_age (q : Int) (x : Tr) (k f : Int) (yb : Bool) : ∀ y, (tkF q (some x) k f yb).x = some y → y.age = x.age := by
  intro y h
  unfold tkF at h
  simp only [] at h
  repeat' split at h
  all_goals (first | (cases h; rfl) | cases h)
theorem GL.took {lim : Int} {X : Int → Option Tr} (h : GL lim X) (k f t q : Int) (yb : Bool) (L : List Pk) : GL lim (setX X q (tkO X k f t q yb L).x) := by
  refine ⟨tkO_ok h.1 k f t q yb L, fun p x hx => ?_⟩
  by_cases e : p = q
  · rw [e, setX_at] at hx
    unfold tkO at hx
    split at hx
    · cases hq : X q with
      | none =>
        rw [hq] at hx
        unfold tkF at hx
        simp only [] at hx
        split at hx <;> cases hx
      | some x0 =>
        rw [hq] at hx
        rw [tkF_age q x0 k f yb x hx]
        exact h.2 q x0 hq
    · exact h.2 q x hx
  · rw [setX_ne X _ e] at hx
    exact h.2 p x hx
theorem GL.put {lim : Int} {X : Int → Option Tr} (h : GL lim X) (q : Int) {x : Tr} (hx : TrOk x) (h0 : 0 ≤ x.age) (h1 : x.age < lim) : GL lim (updX X q x) := by
  rw [updX_set]
  refine ⟨h.1.set q (fun y e => by injection e with e; rw [← e]; exact hx), fun p y hy => ?_⟩
  by_cases e : p = q
  · rw [e, setX_at] at hy
    injection hy with hy
    rw [← hy]
    exact ⟨h0, h1⟩
  · rw [setX_ne X _ e] at hy
    exact h.2 p y hy
theorem GL.none (lim : Int) : GL lim (fun _ => Option.none) := ⟨GX.none, fun _ _ e => by cases e⟩
/-- what stands between two calls: the message's block, and the coordinator -/
structure TwB (w W : World) (F : Nat → Prop) (b : Nat) (lim : Int) (n m : Nat) (X : Int → Option Tr) (mc : Array Value) : Prop where
  bel : Below w.heap.size w W
  box : W.heap[w.heap.size]? = some (.cells mc 25)
  cd : Co W F b lim n m X
  ge : ∀ k, F k → w.heap.size + 1 ≤ k
theorem TwB.keep {w W U : World} {F : Nat → Prop} {b : Nat} {lim : Int} {n m : Nat} {X : Int → Option Tr} {mc : Array Value} (h : TwB w W F b lim n m X mc) (hb : Below W.heap.size W U) : TwB w U F b lim n m X mc := ⟨h.bel.trans (hb.mono h.bel.size), (hb.block _ (lt_of_heapK h.box)).trans h.box, h.cd.keep hb, h.ge⟩
theorem TwB.put {w W U : World} {F : Nat → Prop} {b : Nat} {lim : Int} {n m : Nat} {X : Int → Option Tr} {mc mc' : Array Value} (h : TwB w W F b lim n m X mc) (hg : W.grownBy U (some w.heap.size)) (hb : U.heap[w.heap.size]? = some (.cells mc' 25)) : TwB w U F b lim n m X mc' := ⟨h.bel.grown hg h.bel.size (fun k hk => by cases hk; exact Nat.le_refl _), hb, h.cd.beside hg (fun hf => absurd (h.ge _ hf) (by omega)), h.ge⟩
theorem TwB.step {w W U : World} {F F' : Nat → Prop} {b : Nat} {lim : Int} {n m n' : Nat} {X X' : Int → Option Tr} {mc : Array Value} (h : TwB w W F b lim n m X mc) (hs : Stp F F' W U) (hc : Co U F' b lim n' m X') : TwB w U F' b lim n' m X' mc := by
  obtain ⟨s1, s2⟩ := hs.bel h.ge (by have := lt_of_heapK h.box; omega)
  refine ⟨h.bel.trans (s1.mono (by omega)), (s1.block _ (by omega)).trans h.box, hc, s2⟩
/-- the same of any coordinator that such calls make -/
def TwR (w W : World) (b m : Nat) (lim : Int) (mc : Array Value) (j : Nat) : Prop := ∃ F n X, n ≤ j ∧ GL lim X ∧ TwB w W F b lim n m X mc
theorem TwR.keep {w W U : World} {b m : Nat} {lim : Int} {mc : Array Value} {j : Nat} (h : TwR w W b m lim mc j) (hb : Below W.heap.size W U) : TwR w U b m lim mc j := by
  obtain ⟨F, n, X, h1, h2, h3⟩ := h
  exact ⟨F, n, X, h1, h2, h3.keep hb⟩
theorem TwR.more {w W : World} {b m : Nat} {lim : Int} {mc : Array Value} {j : Nat} (h : TwR w W b m lim mc j) : TwR w W b m lim mc (j + 1) := by
  obtain ⟨F, n, X, h1, h2, h3⟩ := h
  exact ⟨F, n, X, by omega, h2, h3⟩
theorem TwR.bel {w W : World} {b m : Nat} {lim : Int} {mc : Array Value} {j : Nat} (h : TwR w W b m lim mc j) : Below w.heap.size w W := by
  obtain ⟨F, n, X, h1, h2, h3⟩ := h
  exact h3.bel
theorem TwR.box {w W : World} {b m : Nat} {lim : Int} {mc : Array Value} {j : Nat} (h : TwR w W b m lim mc j) : W.heap[w.heap.size]? = some (.cells mc 25) := by
  obtain ⟨F, n, X, h1, h2, h3⟩ := h
  exact h3.box
theorem tw_begin (w W : World) (b m : Nat) (lim : Int) (mc : Array Value) (j : Nat) {F : Nat → Prop} {n : Nat} {X : Int → Option Tr} (h1 : n ≤ j) (h2 : GL lim X) (h3 : TwB w W F b lim n m X mc) (hj : j ≤ 100) (hl : 1 ≤ lim) (q : Int) (hq : InI q) (a : Option Addr) (np c : Nat) (P : List Pv) (hP : InPv W a P) (hnp : P.length = np) (hN : np ≤ 1000) (hok : ∀ x ∈ P, PvOk W x) :
    Calls Try.prog 9 #[.pointer (some ⟨b, 0, none⟩), .int .i64 q, .slice a np c] W fun e w' => ∃ V E, e = .returned (.tuple #[V, .int .i64 E]) ∧ TwR w w' b m lim mc (j + 1) ∧ ∀ k, k < W.heap.size → ¬ F k → w'.heap[k]? = W.heap[k]? := by
  obtain ⟨B, hd⟩ := h3.cd
  refine (begin_is W F b lim n m B X hd (by omega) q hq a np c P hP hnp hN hok).mono fun e w' ⟨V, e1, e2, e3⟩ => ⟨V, _, e1, ?_⟩
  by_cases hE : opE15 X q (P.map Pv.r) (chkF P) = 0
  · obtain ⟨Q, F', B', h0, d, s, -⟩ := e3 hE
    obtain ⟨o1, o2⟩ := opE15_ok hE
    refine ⟨⟨F', n + 1, _, by omega, h2.put q ⟨o1, o2, ?_, (show (1 : Int) ≤ 1 from by decide), (show (1 : Int) ≤ 3 from by decide)⟩ (Int.le_refl 0) (by show (0 : Int) < lim; omega), h3.step s ⟨B', d⟩⟩, fun k hk hf => s.off.block k hk hf⟩
    show (List.map Prod.fst (P.map fun p => (p.r, p.co))).Sublist (P.map Pv.r)
    rw [List.map_map]
    exact List.Sublist.refl _
  · exact ⟨⟨F, n, X, by omega, h2, h3.keep (e2 hE).2⟩, fun k hk _ => (e2 hE).2.block k hk⟩
theorem tw_recall (w W : World) (b m : Nat) (lim : Int) (mc : Array Value) (j : Nat) {F : Nat → Prop} {n : Nat} {X : Int → Option Tr} (h1 : n ≤ j) (h2 : GL lim X) (h3 : TwB w W F b lim n m X mc) (hj : j ≤ 100) (hl : 1 ≤ lim) (q : Int) (hq : InI q) (a : Option Addr) (nr c : Nat) (l : List Int) (hl' : InZ W a l) (hnr : l.length = nr) (hN : nr ≤ 1000) :
    Calls Try.prog 10 #[.pointer (some ⟨b, 0, none⟩), .int .i64 q, .slice a nr c] W fun e w' => ∃ V E, e = .returned (.tuple #[V, .int .i64 E]) ∧ TwR w w' b m lim mc (j + 1) ∧ ∀ k, k < W.heap.size → ¬ F k → w'.heap[k]? = W.heap[k]? := by
  obtain ⟨B, hd⟩ := h3.cd
  refine (recall_is W F b lim n m B X hd (by omega) q hq a nr c l hl' hnr hN).mono fun e w' ⟨V, e1, e2, e3⟩ => ⟨V, _, e1, ?_⟩
  by_cases hE : opE15 X q l 0 = 0
  · obtain ⟨Q, F', B', h0, d, s, -⟩ := e3 hE
    obtain ⟨o1, o2⟩ := opE15_ok hE
    refine ⟨⟨F', n + 1, _, by omega, h2.put q ⟨o1, o2, ?_, (show (1 : Int) ≤ 3 from by decide), (show (3 : Int) ≤ 3 from by decide)⟩ (Int.le_refl 0) (by show (0 : Int) < lim; omega), h3.step s ⟨B', d⟩⟩, fun k hk hf => s.off.block k hk hf⟩
    show (List.map Prod.fst (l.map fun r => (r, ([] : List Pc)))).Sublist l
    rw [List.map_map]
    exact (List.map_id l).symm ▸ List.Sublist.refl _
  · exact ⟨⟨F, n, X, by omega, h2, h3.keep (e2 hE).2⟩, fun k hk _ => (e2 hE).2.block k hk⟩
theorem tw_take (w W : World) (b m : Nat) (lim : Int) (mc : Array Value) (j : Nat) (h : TwR w W b m lim mc j) (k f t q : Int) (a : Option Addr) (n c : Nat) (L : List Pk) (hn : L.length = n) (hL : InPk W a L) (hc : n ≤ c) (hc9 : c ≤ 9223372036854775807) (hN1 : n ≤ 1000000) (y : Bool) :
    Calls Try.prog 16 #[.pointer (some ⟨b, 0, none⟩), .agg #[.int .i64 k, .int .i64 f, .int .i64 t, .int .i64 q, .bool y, .slice a n c]] W fun e w' => ∃ V lg cl gn, e = .returned (sd V lg cl gn) ∧ TwR w w' b m lim mc (j + 1) := by
  obtain ⟨F, n0, X, h1, h2, h3⟩ := h
  obtain ⟨B, hd⟩ := h3.cd
  refine (take_is W F b lim n0 m B X hd h2.1 k f t q a n c L hn hL hc hc9 hN1 y).mono fun e w' ⟨V, Q, e1, _, _, c1, s1⟩ => ⟨V, _, _, _, e1, F, n0, _, by omega, h2.took k f t q y L, h3.step s1 c1⟩
theorem tw_sure (w W : World) (b m : Nat) (lim : Int) (mc : Array Value) (j : Nat) (h : TwR w W b m lim mc j) (q : Int) (hq : InI q) :
    Calls Try.prog 12 #[.pointer (some ⟨b, 0, none⟩), .int .i64 q] W fun e w' => ∃ V E, e = .returned (.tuple #[V, .int .i64 E]) ∧ TwR w w' b m lim mc (j + 1) := by
  have hr := h
  obtain ⟨F, n, X, h1, h2, h3⟩ := h
  obtain ⟨B, hd⟩ := h3.cd
  by_cases hs : (X q).elim 0 Tr.st = 2
  · obtain ⟨x, hx, hst⟩ : ∃ x, X q = some x ∧ x.st = 2 := by
      cases hx : X q with
      | none => rw [hx] at hs; exact absurd hs (by decide)
      | some x => rw [hx] at hs; exact ⟨x, rfl, hs⟩
    have ok := h2.1 q x hx
    have ag := h2.2 q x hx
    refine (sure_is W F b lim n m B X hd q x hx hst (Nat.le_trans ok.len (by decide))).mono fun e w' ⟨V, Q, F', B', e1, _, _, d, s⟩ => ⟨V, _, e1, F', n, _, by omega, h2.put q (x := ⟨3, x.age, x.rts, x.rts.map fun r => (r, [])⟩) ⟨ok.nd, ok.len, ?_, (show (1 : Int) ≤ 3 from by decide), (show (3 : Int) ≤ 3 from by decide)⟩ ag.1 ag.2, h3.step s ⟨B', d⟩⟩
    show (List.map Prod.fst (x.rts.map fun r => (r, ([] : List Pc)))).Sublist x.rts
    rw [List.map_map]
    exact (List.map_id x.rts).symm ▸ List.Sublist.refl _
  · refine (sure_state W F b lim n m B X hd q hq hs).mono fun e w' ⟨e1, b1⟩ => ⟨_, _, e1, (hr.keep b1).more⟩
theorem tw_tick (w W : World) (b m : Nat) (lim : Int) (mc : Array Value) (j : Nat) (h : TwR w W b m lim mc j) (hj : j ≤ 100) (hl : lim ≤ 1000) :
    Calls Try.prog 14 #[.pointer (some ⟨b, 0, none⟩)] W fun e w' => ∃ V G, e = .returned (.tuple #[V, G]) ∧ TwR w w' b m lim mc (j + 1) := by
  obtain ⟨F, n, X, h1, h2, h3⟩ := h
  obtain ⟨B, hd⟩ := h3.cd
  refine (tick_is W F b lim n m B X hd h2 hl (by omega)).mono fun e w' ⟨V, G, R, l, e1, _, _, _, _, _, c1, s1⟩ => ⟨V, G, e1, F, n, _, by omega, h2.tick l, h3.step s1 c1⟩
theorem cells9 {w : World} {g : Nat} {t : TypeId} {v0 v1 v2 v3 v4 v5 v6 v7 v8 : Value} (h : w.heap[g]? = some (.cells #[v0, v1, v2, v3, v4, v5, v6, v7, v8] t)) : w.cell? ⟨g, 0, none⟩ = some v0 ∧ w.cell? ⟨g, 1, none⟩ = some v1 ∧ w.cell? ⟨g, 2, none⟩ = some v2 ∧ w.cell? ⟨g, 3, none⟩ = some v3 ∧ w.cell? ⟨g, 4, none⟩ = some v4 ∧ w.cell? ⟨g, 5, none⟩ = some v5 ∧ w.cell? ⟨g, 6, none⟩ = some v6 ∧ w.cell? ⟨g, 7, none⟩ = some v7 ∧ w.cell? ⟨g, 8, none⟩ = some v8 := by simp [World.cell?, h]
end Go.Proofs.Ythaeidbnbgghkaa
