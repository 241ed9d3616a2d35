/- The document's table: its calls (gen_crt.py). -/
import Derived.Test.YtgfjhghhonaiiaaCpT
namespace Go.Proofs.Ytgfjhghhonaiiaa
open Go.ChangeShapes Go.WideShapes Go.ChangeAt Go.RowKit Go.Deep Go.Maps
set_option linter.unusedVariables false
set_option linter.unusedSimpArgs false
/-- what the document's list of tenants tells -/
structure Lk (l : List Tn) (Q : Qm) (G : Gm) : Prop where
  inl : ∀ (k : Nat) x, l[k]? = some x → Q x.i = some x.q ∧ ∀ r : Nat, 1 ≤ r → r ≤ 6 → (G (x.i, (r : Int))).isSome = x.f r
  all : ∀ i, (∀ (k : Nat) x, l[k]? = some x → x.i ≠ i) → Q i = none
  one : ∀ (a b : Nat) x y, l[a]? = some x → l[b]? = some y → x.i = y.i → a = b
/-- only F, or what is new, has changed; K is of F, or new -/
structure Step (F K : Nat → Prop) (w w' : World) : Prop where
  off : Off F w w'
  sub : ∀ k, K k → F k ∨ w.heap.size ≤ k
theorem Step.refl (F : Nat → Prop) (w : World) : Step F F w w := ⟨Off.refl F w, fun _ h => .inl h⟩
/-- block b is the document's table -/
def Rt (w : World) (F : Nat → Prop) (b N : Nat) (Q : Qm) (G : Gm) : Prop := ∃ v l, w.heap[b]? = some (.cells #[v] 28) ∧ OwnT w 0 v l ∧ v.ownBlock ≠ some b ∧ (∀ k, F k ↔ k = b ∨ v.ownBlock = some k) ∧ Lk l Q G ∧ l.length ≤ N ∧ Gd Q G
theorem Rt.lt {w : World} {F : Nat → Prop} {b N : Nat} {Q : Qm} {G : Gm} (h : Rt w F b N Q G) (k : Nat) (hk : F k) : k < w.heap.size := by
  obtain ⟨v, l, h1, h2, h3, h4, _⟩ := h
  rcases (h4 k).1 hk with rfl | e
  · exact lt_of_heapK h1
  · exact (h2.own k e).2
theorem Rt.kept {w w' : World} {F : Nat → Prop} {b N : Nat} {Q : Qm} {G : Gm} (h : Rt w F b N Q G) (hb : ∀ k, F k → w'.heap[k]? = w.heap[k]?) : Rt w' F b N Q G := by
  obtain ⟨v, l, h1, h2, h3, h4, h5⟩ := h
  exact ⟨v, l, (hb b ((h4 b).2 (.inl rfl))).trans h1, h2.kept (fun k hk => hb k ((h4 k).2 (.inr hk))), h3, h4, h5⟩
theorem Rt.keep {w w' : World} {F : Nat → Prop} {b N : Nat} {Q : Qm} {G : Gm} (h : Rt w F b N Q G) (hb : Below w.heap.size w w') : Rt w' F b N Q G := h.kept fun k hk => hb.block k (h.lt k hk)
theorem Rt.apart {w w' : World} {F K : Nat → Prop} {b N : Nat} {Q : Qm} {G : Gm} (h : Rt w F b N Q G) (ho : Off K w w') (hd : ∀ k, F k → ¬ K k) : Rt w' F b N Q G := h.kept fun k hk => ho.block k (h.lt k hk) (hd k hk)
theorem Rt.more {w : World} {F : Nat → Prop} {b N N' : Nat} {Q : Qm} {G : Gm} (h : Rt w F b N Q G) (hN : N ≤ N') : Rt w F b N' Q G := by
  obtain ⟨v, l, h1, h2, h3, h4, h5, h6, h7⟩ := h
  exact ⟨v, l, h1, h2, h3, h4, h5, by omega, h7⟩
theorem rt_cell {w : World} {b : Nat} {v : Value} {t : TypeId} (h : w.heap[b]? = some (.cells #[v] t)) : w.cell? ⟨b, 0, none⟩ = some v := by simp [World.cell?, h]
theorem rt_new (w : World) : Rt (w.alloc (.cells #[.slice none 0 0] 28)) (fun k => k = w.heap.size) w.heap.size 0 noQ noG := by
  refine ⟨.slice none 0 0, [], heap_alloc_new w _, OwnT.nil _ _, by simp [Value.ownBlock], fun k => ⟨fun h => .inl h, fun h => ?_⟩, ⟨fun k x hx => by simp at hx, fun i _ => rfl, fun a b x y hx => by simp at hx⟩, by simp, gd_none⟩
  rcases h with h | h
  · exact h
  · simp [Value.ownBlock] at h
set_option maxRecDepth 100000 in
set_option maxHeartbeats 4000000 in
theorem rfind_is (w : World) (b : Nat) (v : Value) (l : List Tn) (hb : w.heap[b]? = some (.cells #[v] 28)) (ho : OwnT w 0 v l) (hl : l.length ≤ 1000000) (i : Int) : Calls Try.prog 36 #[.pointer (some ⟨b, 0, none⟩), .int .i64 i] w fun e w' => ((e = .returned (.int .i64 (-1)) ∧ ∀ (k : Nat) x, l[k]? = some x → x.i ≠ i) ∨ ∃ (k : Nat) (x : Tn), e = .returned (.int .i64 (k : Int)) ∧ l[k]? = some x ∧ x.i = i) ∧ w' = w := by
  have c0 := rt_cell hb
  obtain ⟨a, c, rfl, hin, _⟩ := ho.slice
  obtain ⟨n, hn⟩ : ∃ n, l.length = n := ⟨_, rfl⟩
  rw [hn] at c0
  have HI : Hid (InT w a l ∧ l.length = n ∧ n ≤ 1000000) := ⟨hin, hn, by omega⟩
  clear hin hn ho hl hb
  go_enter Try.func36, Try.ntmps36
  go_wp2_with fail
  go_loopg [5] n (fun g iv wr => ∃ j : Nat, j ≤ n ∧ g = n - j ∧ iv = .int .i64 (j : Int) ∧ Hid ((∀ (q : Nat) y, q < j → l[q]? = some y → y.i ≠ i) ∧ wr = w))
  case atStart => exact ⟨0, Nat.zero_le _, rfl, rfl, fun q y hq => by omega, rfl⟩
  obtain ⟨j, hj, rfl, rfl, RW⟩ := hrel
  have hwr := RW.out.2
  subst hwr
  by_cases hlt : j < n
  · have j1 : decide ((j : Int) < (n : Int)) = true := by rw [decide_eq_true_eq]; omega
    have j3 : (j : Int) < (n : Int) := by omega
    obtain ⟨y, hy⟩ : ∃ y, l[j]? = some y := ⟨l[j]'(by rw [HI.out.2.1]; exact hlt), by simp [HI.out.2.1, hlt]⟩
    obtain ⟨bb, off, rfl, _, hc⟩ := HI.out.1.at hy
    obtain ⟨d0, d1, -⟩ := hc
    have HY : Hid (l[j]? = some y) := hy
    have ri : IntKind.i64.wrap ((j : Int) + 1) = (j : Int) + 1 := by have := HI.out.2.2; rw [IntKind.wrap_i64]; omega
    clear hy
    by_cases he : y.i = i
    · have e0 : (y.i == i) = true := by simp [he]
      have HE : Hid (y.i = i) := he
      clear he
      go_wp2_with fail
      go_ret
      exact ⟨.inr ⟨j, rfl, y, HY.out, HE.out⟩, rfl⟩
    · have e0 : (y.i == i) = false := by simpa using he
      have HE : Hid (y.i ≠ i) := he
      clear he
      go_wp2_with fail
      go_roundg (n - (j + 1))
      case measure => omega
      case rel =>
        refine ⟨j + 1, by omega, rfl, by push_cast; rfl, fun q z hq hz => ?_, rfl⟩
        by_cases hqj : q < j
        · exact RW.out.1 q z hqj hz
        · obtain rfl : q = j := by omega
          have := HY.out.symm.trans hz
          cases this
          exact HE.out
  · have j1 : decide ((j : Int) < (n : Int)) = false := by rw [decide_eq_false_iff_not]; omega
    obtain rfl : j = n := by omega
    go_wp2_with fail
    go_ret
    exact ⟨.inl ⟨rfl, fun k x hx => RW.out.1 k x (by have := (List.getElem?_eq_some_iff.1 hx).1; have := HI.out.2.1; omega) hx⟩, rfl⟩
/-- find, by what the table tells -/
theorem rfind_by (w : World) (F : Nat → Prop) (b N : Nat) (Q : Qm) (G : Gm) (h : Rt w F b N Q G) (hN : N ≤ 1000000) (i : Int) :
    (Q i = none ∧ Calls Try.prog 36 #[.pointer (some ⟨b, 0, none⟩), .int .i64 i] w fun e w' => e = .returned (.int .i64 (-1)) ∧ w' = w) ∨
    ∃ (k : Nat) (x : Tn) (g n c : Nat) (l : List Tn), w.heap[b]? = some (.cells #[.slice (some ⟨g, 0, none⟩) n c] 28) ∧ OwnT w 0 (.slice (some ⟨g, 0, none⟩) n c) l ∧ g ≠ b ∧ (∀ k, F k ↔ k = b ∨ g = k) ∧ Lk l Q G ∧ l.length = n ∧ n ≤ N ∧ k < n ∧ l[k]? = some x ∧ x.i = i ∧ Q i = some x.q ∧ Calls Try.prog 36 #[.pointer (some ⟨b, 0, none⟩), .int .i64 i] w fun e w' => e = .returned (.int .i64 (k : Int)) ∧ w' = w := by
  obtain ⟨v, l, h1, h2, h3, h4, h5, h6, h7⟩ := h
  have hf := rfind_is w b v l h1 h2 (by omega) i
  by_cases hx : ∃ (k : Nat) (x : Tn), l[k]? = some x ∧ x.i = i
  · obtain ⟨k, x, hk, hxi⟩ := hx
    right
    have hkl : k < l.length := (List.getElem?_eq_some_iff.1 hk).1
    obtain ⟨a, c, rfl, hin, -, -, -, -⟩ := h2.slice
    rcases h2.2 with ⟨e, hn⟩ | ⟨g, cap, cur, e, -⟩
    · omega
    · injection e with e1 e2 e3
      subst e1 e3
      refine ⟨k, x, g, l.length, _, l, h1, h2, fun e => h3 (by rw [e]; rfl), fun q => ⟨fun hq => ?_, fun hq => ?_⟩, h5, rfl, h6, hkl, hk, hxi, by rw [← hxi]; exact (h5.inl k x hk).1, hf.mono ?_⟩
      · rcases (h4 q).1 hq with e | e
        · exact .inl e
        · exact .inr (by simpa [Value.ownBlock] using e)
      · exact (h4 q).2 (hq.elim .inl (fun e => .inr (by simp [Value.ownBlock, e])))
      · rintro e w' ⟨⟨rfl, hno⟩ | ⟨k2, y, rfl, hy, hyi⟩, rfl⟩
        · exact absurd hxi (hno k x hk)
        · have := h5.one k2 k y x hy hk (hyi.trans hxi.symm)
          subst this
          exact ⟨rfl, rfl⟩
  · left
    refine ⟨h5.all i (fun k x hk e => hx ⟨k, x, hk, e⟩), hf.mono ?_⟩
    rintro e w' ⟨⟨rfl, _⟩ | ⟨k, x, rfl, hk, hxi⟩, rfl⟩
    · exact ⟨rfl, rfl⟩
    · exact absurd ⟨k, x, hk, hxi⟩ hx
set_option maxRecDepth 100000 in
set_option maxHeartbeats 4000000 in
theorem rquota_is (w : World) (F : Nat → Prop) (b N : Nat) (Q : Qm) (G : Gm) (h : Rt w F b N Q G) (hN : N ≤ 1000000) (i : Int) : Calls Try.prog 28 #[.pointer (some ⟨b, 0, none⟩), .int .i64 i] w fun e w' => e = .returned (.tuple #[.int .i64 ((Q i).getD 0), .bool (Q i).isSome]) ∧ w' = w := by
  obtain ⟨hq, kf⟩ | ⟨k, x, g, n, c, l, hb, ho, hgb, hF, hL, hl, hnN, hk, hx, hxi, hq, kf⟩ := rfind_by w F b N Q G h hN i
  · rw [hq]
    have KF : Hid (∀ W, W = w → Calls Try.prog 36 #[.pointer (some ⟨b, 0, none⟩), .int .i64 i] W fun e w' => e = .returned (.int .i64 (-1)) ∧ w' = W) := fun W hW => by rw [hW]; exact kf
    clear h kf hq
    go_enter Try.func28, Try.ntmps28
    go_wp2_with fail
    refine (KF.out _ rfl).mono ?_
    rintro e w1 ⟨rfl, hw⟩
    obtain rfl := hw.symm
    clear hw
    go_wp2_with fail
    go_ret2
    exact ⟨rfl, rfl⟩
  · rw [hq]
    have KF : Hid (∀ W, W = w → Calls Try.prog 36 #[.pointer (some ⟨b, 0, none⟩), .int .i64 i] W fun e w' => e = .returned (.int .i64 (k : Int)) ∧ w' = W) := fun W hW => by rw [hW]; exact kf
    have hc := rt_cell hb
    have hin : InT w (some ⟨g, 0, none⟩) l := by
      obtain ⟨a, c2, e, hi, _⟩ := ho.slice
      injection e with e1
      subst e1
      exact hi
    obtain ⟨bb, off, e, _, hcs⟩ := hin.at hx
    cases e
    rw [Nat.zero_add] at hcs
    obtain ⟨d0, d1, d2, d3, d4, d5, d6, d7, d8⟩ := hcs
    have k0 : decide ((k : Int) < 0) = false := by rw [decide_eq_false_iff_not]; omega
    have k1 : decide (0 ≤ (k : Int)) = true := by rw [decide_eq_true_eq]; omega
    have k2 : (k : Int) < (n : Int) := by omega
    clear h kf hq hin ho hF hL hl hnN hx hxi hN hb
    go_enter Try.func28, Try.ntmps28
    go_wp2_with fail
    refine (KF.out _ rfl).mono ?_
    rintro e w1 ⟨rfl, hw⟩
    obtain rfl := hw.symm
    clear hw
    go_wp2_with fail
    go_ret2
    exact ⟨rfl, rfl⟩
theorem g_out {Q : Qm} {G : Gm} (h : Gd Q G) {i r : Int} (hr : ¬ (1 ≤ r ∧ r ≤ 6)) : (G (i, r)).isSome = false := by
  cases hg : G (i, r) with
  | none => rfl
  | some u => exact absurd ⟨(h.g i r hg).2.2.1, (h.g i r hg).2.2.2.1⟩ hr
theorem g_none {Q : Qm} {G : Gm} (h : Gd Q G) {i : Int} (hq : Q i = none) (r : Int) : G (i, r) = none := by
  cases hg : G (i, r) with
  | none => rfl
  | some u => have := (h.g i r hg).2.2.2.2; rw [hq] at this; cases this
theorem Rt.gd {w : World} {F : Nat → Prop} {b N : Nat} {Q : Qm} {G : Gm} (h : Rt w F b N Q G) : Gd Q G := by
  obtain ⟨v, l, _, _, _, _, _, _, h7⟩ := h
  exact h7
set_option maxRecDepth 100000 in
set_option maxHeartbeats 4000000 in
theorem rmay_is (w : World) (F : Nat → Prop) (b N : Nat) (Q : Qm) (G : Gm) (h : Rt w F b N Q G) (hN : N ≤ 1000000) (i r : Int) : Calls Try.prog 29 #[.pointer (some ⟨b, 0, none⟩), .int .i64 i, .int .i64 r] w fun e w' => e = .returned (.bool (G (i, r)).isSome) ∧ w' = w := by
  have hgd := h.gd
  obtain ⟨hq, kf⟩ | ⟨k, x, g, n, c, l, hb, ho, hgb, hF, hL, hl, hnN, hk, hx, hxi, hq, kf⟩ := rfind_by w F b N Q G h hN i
  · rw [g_none hgd hq]
    have KF : Hid (∀ W, W = w → Calls Try.prog 36 #[.pointer (some ⟨b, 0, none⟩), .int .i64 i] W fun e w' => e = .returned (.int .i64 (-1)) ∧ w' = W) := fun W hW => by rw [hW]; exact kf
    clear h kf hq hgd
    go_enter Try.func29, Try.ntmps29
    go_wp2_with fail
    refine (KF.out _ rfl).mono ?_
    rintro e w1 ⟨rfl, hw⟩
    obtain rfl := hw.symm
    clear hw
    go_wp2_with fail
    go_ret
    exact ⟨rfl, rfl⟩
  · by_cases hr : 1 ≤ r ∧ r ≤ 6
    · obtain ⟨s, rfl⟩ : ∃ s : Nat, r = (s : Int) := ⟨r.toNat, by omega⟩
      rw [← hxi, (hL.inl k x hx).2 s (by omega) (by omega), hxi]
      have KF : Hid (∀ W, W = w → Calls Try.prog 36 #[.pointer (some ⟨b, 0, none⟩), .int .i64 i] W fun e w' => e = .returned (.int .i64 (k : Int)) ∧ w' = W) := fun W hW => by rw [hW]; exact kf
      have hc := rt_cell hb
      have hin : InT w (some ⟨g, 0, none⟩) l := by
        obtain ⟨a, c2, e, hi, _⟩ := ho.slice
        injection e with e1
        subst e1
        exact hi
      obtain ⟨bb, off, e, _, hcs⟩ := hin.at hx
      cases e
      rw [Nat.zero_add] at hcs
      obtain ⟨d0, d1, d2, d3, d4, d5, d6, d7, d8⟩ := hcs
      have k0 : decide ((k : Int) < 0) = false := by rw [decide_eq_false_iff_not]; omega
      have k1 : decide (0 ≤ (k : Int)) = true := by rw [decide_eq_true_eq]; omega
      have k2 : (k : Int) < (n : Int) := by omega
      have r1 : decide (1 ≤ (s : Int)) = true := decide_eq_true hr.1
      have r2 : decide ((s : Int) ≤ 6) = true := decide_eq_true hr.2
      have r3 : (s : Int) < 7 := by omega
      have r4 : s < 7 := by omega
      clear h kf hq hin ho hF hL hl hnN hx hxi hN hb hgd
      rcases (by omega : s = 1 ∨ s = 2 ∨ s = 3 ∨ s = 4 ∨ s = 5 ∨ s = 6) with rfl | rfl | rfl | rfl | rfl | rfl
      all_goals clear hr r1 r2 r3 r4
      · have r5 : w.cell? ⟨g, k * 9 + 2 + 1, none⟩ = some (.bool (x.f 1)) := d3
        go_enter Try.func29, Try.ntmps29
        go_wp2_with fail
        refine (KF.out _ rfl).mono ?_
        rintro e w1 ⟨rfl, hw⟩
        obtain rfl := hw.symm
        clear hw
        go_wp2_with fail
        go_ret
        exact ⟨rfl, rfl⟩
      · have r5 : w.cell? ⟨g, k * 9 + 2 + 2, none⟩ = some (.bool (x.f 2)) := d4
        go_enter Try.func29, Try.ntmps29
        go_wp2_with fail
        refine (KF.out _ rfl).mono ?_
        rintro e w1 ⟨rfl, hw⟩
        obtain rfl := hw.symm
        clear hw
        go_wp2_with fail
        go_ret
        exact ⟨rfl, rfl⟩
      · have r5 : w.cell? ⟨g, k * 9 + 2 + 3, none⟩ = some (.bool (x.f 3)) := d5
        go_enter Try.func29, Try.ntmps29
        go_wp2_with fail
        refine (KF.out _ rfl).mono ?_
        rintro e w1 ⟨rfl, hw⟩
        obtain rfl := hw.symm
        clear hw
        go_wp2_with fail
        go_ret
        exact ⟨rfl, rfl⟩
      · have r5 : w.cell? ⟨g, k * 9 + 2 + 4, none⟩ = some (.bool (x.f 4)) := d6
        go_enter Try.func29, Try.ntmps29
        go_wp2_with fail
        refine (KF.out _ rfl).mono ?_
        rintro e w1 ⟨rfl, hw⟩
        obtain rfl := hw.symm
        clear hw
        go_wp2_with fail
        go_ret
        exact ⟨rfl, rfl⟩
      · have r5 : w.cell? ⟨g, k * 9 + 2 + 5, none⟩ = some (.bool (x.f 5)) := d7
        go_enter Try.func29, Try.ntmps29
        go_wp2_with fail
        refine (KF.out _ rfl).mono ?_
        rintro e w1 ⟨rfl, hw⟩
        obtain rfl := hw.symm
        clear hw
        go_wp2_with fail
        go_ret
        exact ⟨rfl, rfl⟩
      · have r5 : w.cell? ⟨g, k * 9 + 2 + 6, none⟩ = some (.bool (x.f 6)) := d8
        go_enter Try.func29, Try.ntmps29
        go_wp2_with fail
        refine (KF.out _ rfl).mono ?_
        rintro e w1 ⟨rfl, hw⟩
        obtain rfl := hw.symm
        clear hw
        go_wp2_with fail
        go_ret
        exact ⟨rfl, rfl⟩
    · rw [g_out hgd hr]
      have KF : Hid (∀ W, W = w → Calls Try.prog 36 #[.pointer (some ⟨b, 0, none⟩), .int .i64 i] W fun e w' => e = .returned (.int .i64 (k : Int)) ∧ w' = W) := fun W hW => by rw [hW]; exact kf
      have k1 : decide (0 ≤ (k : Int)) = true := by rw [decide_eq_true_eq]; omega
      by_cases hr1 : 1 ≤ r
      · have r1 : decide (1 ≤ r) = true := decide_eq_true hr1
        have r2 : decide (r ≤ 6) = false := by rw [decide_eq_false_iff_not]; omega
        clear h kf hq ho hF hL hl hnN hx hxi hN hb hgd hr hr1
        go_enter Try.func29, Try.ntmps29
        go_wp2_with fail
        refine (KF.out _ rfl).mono ?_
        rintro e w1 ⟨rfl, hw⟩
        obtain rfl := hw.symm
        clear hw
        go_wp2_with fail
        go_ret
        exact ⟨rfl, rfl⟩
      · have r1 : decide (1 ≤ r) = false := decide_eq_false hr1
        clear h kf hq ho hF hL hl hnN hx hxi hN hb hgd hr hr1
        go_enter Try.func29, Try.ntmps29
        go_wp2_with fail
        refine (KF.out _ rfl).mono ?_
        rintro e w1 ⟨rfl, hw⟩
        obtain rfl := hw.symm
        clear hw
        go_wp2_with fail
        go_ret
        exact ⟨rfl, rfl⟩
set_option maxRecDepth 100000 in
set_option maxHeartbeats 4000000 in
theorem rfits_is (w : World) (F : Nat → Prop) (b N : Nat) (Q : Qm) (G : Gm) (h : Rt w F b N Q G) (hN : N ≤ 1000000) (i u m : Int) (hu : InI u) (hm : InI m) : Calls Try.prog 30 #[.pointer (some ⟨b, 0, none⟩), .int .i64 i, .int .i64 u, .int .i64 m] w fun e w' => e = .returned (.int .i64 (ftE Q i u m)) ∧ w' = w := by
  have hgd := h.gd
  unfold ftE
  cases hs : Q i with
  | none =>
    have KF : Hid (∀ W, W = w → Calls Try.prog 28 #[.pointer (some ⟨b, 0, none⟩), .int .i64 i] W fun e w' => e = .returned (.tuple #[.int .i64 0, .bool false]) ∧ w' = W) := fun W hW => by
      rw [hW]
      have := rquota_is w F b N Q G h hN i
      rw [hs] at this
      exact this
    clear h hs hgd
    go_enter Try.func30, Try.ntmps30
    go_wp2_with fail
    refine (KF.out _ rfl).mono ?_
    rintro e w1 ⟨rfl, hw⟩
    obtain rfl := hw.symm
    clear hw
    go_wp2_with fail
    go_ret
    exact ⟨rfl, rfl⟩
  | some q =>
    have hq := hgd.q i q hs
    have KF : Hid (∀ W, W = w → Calls Try.prog 28 #[.pointer (some ⟨b, 0, none⟩), .int .i64 i] W fun e w' => e = .returned (.tuple #[.int .i64 q, .bool true]) ∧ w' = W) := fun W hW => by
      rw [hW]
      have := rquota_is w F b N Q G h hN i
      rw [hs] at this
      exact this
    clear h hs hgd
    simp only
    by_cases h1 : u < 0 ∨ m < 0
    · rw [if_pos h1]
      by_cases h2 : u < 0
      · have d1 : decide (u < 0) = true := decide_eq_true h2
        clear h1 h2 hq hu hm
        go_enter Try.func30, Try.ntmps30
        go_wp2_with fail
        refine (KF.out _ rfl).mono ?_
        rintro e w1 ⟨rfl, hw⟩
        obtain rfl := hw.symm
        clear hw
        go_wp2_with fail
        go_ret
        exact ⟨rfl, rfl⟩
      · have d1 : decide (u < 0) = false := decide_eq_false h2
        have d2 : decide (m < 0) = true := by rw [decide_eq_true_eq]; omega
        clear h1 h2 hq hu hm
        go_enter Try.func30, Try.ntmps30
        go_wp2_with fail
        refine (KF.out _ rfl).mono ?_
        rintro e w1 ⟨rfl, hw⟩
        obtain rfl := hw.symm
        clear hw
        go_wp2_with fail
        go_ret
        exact ⟨rfl, rfl⟩
    · rw [if_neg h1]
      have d1 : decide (u < 0) = false := by rw [decide_eq_false_iff_not]; omega
      have d2 : decide (m < 0) = false := by rw [decide_eq_false_iff_not]; omega
      unfold InI at hu hm
      have w1 : IntKind.u64.wrap u = u := by rw [IntKind.wrap_u64]; omega
      have w2 : IntKind.u64.wrap m = m := by rw [IntKind.wrap_u64]; omega
      have w3 : IntKind.u64.wrap q = q := by rw [IntKind.wrap_u64]; omega
      have w4 : IntKind.u64.wrap (u + m) = u + m := by rw [IntKind.wrap_u64]; omega
      by_cases h2 : q - u < m
      · rw [if_pos h2]
        have d3 : decide (q < u + m) = true := by rw [decide_eq_true_eq]; omega
        clear h1 h2 hq hu hm
        go_enter Try.func30, Try.ntmps30
        go_wp2_with fail
        refine (KF.out _ rfl).mono ?_
        rintro e w1 ⟨rfl, hw⟩
        obtain rfl := hw.symm
        clear hw
        go_wp2_with fail
        go_ret
        exact ⟨rfl, rfl⟩
      · rw [if_neg h2]
        have d3 : decide (q < u + m) = false := by rw [decide_eq_false_iff_not]; omega
        clear h1 h2 hq hu hm
        go_enter Try.func30, Try.ntmps30
        go_wp2_with fail
        refine (KF.out _ rfl).mono ?_
        rintro e w1 ⟨rfl, hw⟩
        obtain rfl := hw.symm
        clear hw
        go_wp2_with fail
        go_ret
        exact ⟨rfl, rfl⟩
end Go.Proofs.Ytgfjhghhonaiiaa
