/- Two disks at once; a fuse, plainly. -/
import Derived.Test.YtibgfjnddhfgpaaDkK
import Derived.Test.YtibgfjnddhfgpaaDkB
namespace Go.Proofs.Ytibgfjnddhfgpaa
open Go.ChangeShapes Go.WideShapes Go.ChangeAt Go.RowKit Go.Deep Go.Maps
set_option linter.unusedVariables false
/-- x mod m, never below 0 -/
theorem mod_in (x : Int) (m : Nat) (h : 0 < m) : ∃ r : Nat, Int.tmod (Int.tmod x m + m) m = (r : Int) ∧ r < m ∧ -(m : Int) < Int.tmod x m ∧ Int.tmod x m < m := by
  have g := tmod_in x m h
  have e := Int.tmod_eq_emod_of_nonneg (a := Int.tmod x m + m) (b := m) (by omega)
  have h0 := Int.emod_nonneg (Int.tmod x m + m) (show (m : Int) ≠ 0 by omega)
  have h1 := Int.emod_lt_of_pos (Int.tmod x m + m) (show (0 : Int) < m by omega)
  exact ⟨(Int.tmod (Int.tmod x m + m) m).toNat, by rw [e]; omega, by rw [e]; omega, g⟩
theorem mod_in40 (x : Int) : ∃ r : Nat, Int.tmod (Int.tmod x 40 + 40) 40 = (r : Int) ∧ r < 40 ∧ -40 < Int.tmod x 40 ∧ Int.tmod x 40 < 40 := by
  have := mod_in x 40 (by omega)
  simpa using this
theorem mod_in8 (x : Int) : ∃ r : Nat, Int.tmod (Int.tmod x 8 + 8) 8 = (r : Int) ∧ r < 8 ∧ -8 < Int.tmod x 8 ∧ Int.tmod x 8 < 8 := by
  have := mod_in x 8 (by omega)
  simpa using this
theorem Ds.wr_ok {s : Ds} {i : Int} {C : List Int} (hu : s.up = true) (hi : 0 ≤ i ∧ i < s.D.length) (hC : C.length = 64) (hf : s.fu ≠ 0) : s.wr i C = (0, ⟨s.D, fun j => if j = i then s.W j ++ [C] else s.W j, true, s.dn + 1, lessF s.fu⟩) := by
  unfold Ds.wr
  rw [if_neg (by rw [hu]; simp [rdyAt]; omega), if_neg (by simpa using hC), if_neg hf]
theorem Ds.wr_out {s : Ds} {i : Int} {C : List Int} (hu : s.up = true) (hi : 0 ≤ i ∧ i < s.D.length) (hC : C.length = 64) (hf : s.fu = 0) : s.wr i C = (15, { s with up := false }) := by
  unfold Ds.wr
  rw [if_neg (by rw [hu]; simp [rdyAt]; omega), if_neg (by simpa using hC), if_pos hf]
theorem Ds.wr_down {s : Ds} {i : Int} {C : List Int} (hu : s.up = false) : s.wr i C = (15, s) := by
  unfold Ds.wr
  rw [hu]
  rfl
theorem Ds.fl_ok {s : Ds} (hu : s.up = true) (hf : s.fu ≠ 0) : s.fl = (0, ⟨flD s.D s.W, fun _ => [], true, s.dn + 1, lessF s.fu⟩) := by
  unfold Ds.fl
  rw [if_neg (by simp [hu]), if_neg hf]
theorem Ds.fl_out {s : Ds} (hu : s.up = true) (hf : s.fu = 0) : s.fl = (15, { s with up := false }) := by
  unfold Ds.fl
  rw [if_neg (by simp [hu]), if_pos hf]
theorem Ds.fl_down {s : Ds} (hu : s.up = false) : s.fl = (15, s) := by
  unfold Ds.fl
  rw [if_pos hu]
/-- a disk x with a fuse of n, and one y that was only written while that lasted; behind i calls -/
structure FzR (n i : Nat) (x y : Ds) : Prop where
  D : x.D = y.D
  W : x.W = y.W
  dx : x.dn = ((min i n : Nat) : Int)
  dy : y.dn = ((min i n : Nat) : Int)
  yu : y.up = true
  yf : y.fu = -1
  lo : i ≤ n → x.up = true ∧ x.fu = (n : Int) - i
  hi : n < i → x.up = false
  l8 : y.D.length = 8
theorem FzR.start (n : Nat) : FzR n 0 ((Ds.new 8).fs (n : Int)).2 (Ds.new 8) := by
  refine ⟨rfl, rfl, by simp [Ds.fs, Ds.new], by simp [Ds.new], rfl, rfl, fun _ => ⟨rfl, ?_⟩, fun h => by omega, by simp [Ds.new, noughts]⟩
  simp [Ds.fs, Ds.new]
theorem FzR.wr {n i : Nat} {x y : Ds} (h : FzR n i x y) (k : Int) (hk : 0 ≤ k ∧ k < 8) (C : List Int) (hC : C.length = 64) (hi : i < n) : (x.wr k C).1 = 0 ∧ (y.wr k C).1 = 0 ∧ FzR n (i + 1) (x.wr k C).2 (y.wr k C).2 := by
  obtain ⟨hu, hf⟩ := h.lo (by omega)
  have hl : x.D.length = 8 := by rw [h.D]; exact h.l8
  rw [Ds.wr_ok hu (by omega) hC (by omega), Ds.wr_ok h.yu (by rw [h.l8]; omega) hC (by rw [h.yf]; omega)]
  refine ⟨rfl, rfl, h.D, ?_, ?_, ?_, rfl, by show lessF y.fu = -1; rw [h.yf]; rfl, fun _ => ⟨rfl, ?_⟩, fun e => by omega, h.l8⟩
  · show (fun j => if j = k then x.W j ++ [C] else x.W j) = fun j => if j = k then y.W j ++ [C] else y.W j
    rw [h.W]
  · show x.dn + 1 = _
    rw [h.dx]; omega
  · show y.dn + 1 = _
    rw [h.dy]; omega
  · show lessF x.fu = _
    rw [hf]; unfold lessF; rw [if_pos (by omega)]; omega
theorem FzR.fl {n i : Nat} {x y : Ds} (h : FzR n i x y) (hi : i < n) : x.fl.1 = 0 ∧ y.fl.1 = 0 ∧ FzR n (i + 1) x.fl.2 y.fl.2 := by
  obtain ⟨hu, hf⟩ := h.lo (by omega)
  rw [Ds.fl_ok hu (by omega), Ds.fl_ok h.yu (by rw [h.yf]; omega)]
  refine ⟨rfl, rfl, ?_, rfl, ?_, ?_, rfl, by show lessF y.fu = -1; rw [h.yf]; rfl, fun _ => ⟨rfl, ?_⟩, fun e => by omega, by show (flD y.D y.W).length = 8; rw [flD_len]; exact h.l8⟩
  · show flD x.D x.W = flD y.D y.W
    rw [h.D, h.W]
  · show x.dn + 1 = _
    rw [h.dx]; omega
  · show y.dn + 1 = _
    rw [h.dy]; omega
  · show lessF x.fu = _
    rw [hf]; unfold lessF; rw [if_pos (by omega)]; omega
theorem FzR.down {n i : Nat} {x y z : Ds} (h : FzR n i x y) (hi : n ≤ i) (hz : z = x ∨ z = { x with up := false }) (hu : z.up = false) : FzR n (i + 1) z y := by
  have e : z.D = x.D ∧ z.W = x.W ∧ z.dn = x.dn := by rcases hz with rfl | rfl <;> exact ⟨rfl, rfl, rfl⟩
  refine ⟨e.1.trans h.D, e.2.1.trans h.W, ?_, ?_, h.yu, h.yf, fun e => by omega, fun _ => hu, h.l8⟩
  · rw [e.2.2, h.dx]; omega
  · rw [h.dy]; omega
theorem FzR.wr_no {n i : Nat} {x y : Ds} (h : FzR n i x y) (k : Int) (hk : 0 ≤ k ∧ k < 8) (C : List Int) (hC : C.length = 64) (hi : n ≤ i) : (x.wr k C).1 = 15 ∧ FzR n (i + 1) (x.wr k C).2 y := by
  have hl : x.D.length = 8 := by rw [h.D]; exact h.l8
  rcases (by omega : i = n ∨ n < i) with e | e
  · obtain ⟨hu, hf⟩ := h.lo (by omega)
    rw [Ds.wr_out hu (by omega) hC (by omega)]
    exact ⟨rfl, h.down hi (.inr rfl) rfl⟩
  · rw [Ds.wr_down (h.hi e)]
    exact ⟨rfl, h.down hi (.inl rfl) (h.hi e)⟩
theorem FzR.fl_no {n i : Nat} {x y : Ds} (h : FzR n i x y) (hi : n ≤ i) : x.fl.1 = 15 ∧ FzR n (i + 1) x.fl.2 y := by
  rcases (by omega : i = n ∨ n < i) with e | e
  · obtain ⟨hu, hf⟩ := h.lo (by omega)
    rw [Ds.fl_out hu (by omega)]
    exact ⟨rfl, h.down hi (.inr rfl) rfl⟩
  · rw [Ds.fl_down (h.hi e)]
    exact ⟨rfl, h.down hi (.inl rfl) (h.hi e)⟩
theorem FzR.up {n i : Nat} {x y : Ds} (h : FzR n (i + 1) x y) : x.up = decide (i < n) := by
  by_cases hi : i < n
  · rw [decide_eq_true hi]; exact (h.lo (by omega)).1
  · rw [decide_eq_false hi]; exact h.hi (by omega)
/-- two disks that have no block together, all made since w; the blocks P are nobody's of these -/
def Two (w wr : World) (P : Nat → Prop) (bx bY N : Nat) (xs ys : Ds) : Prop := ∃ Fx Fy : Nat → Prop, Dk wr Fx bx N xs ∧ Dk wr Fy bY N ys ∧ (∀ k, Fx k → ¬ Fy k) ∧ (∀ k, Fx k → w.heap.size ≤ k) ∧ (∀ k, Fy k → w.heap.size ≤ k) ∧ Below w.heap.size w wr ∧ ∀ k, P k → k < wr.heap.size ∧ ¬ Fx k ∧ ¬ Fy k
theorem Two.below {w wr : World} {P : Nat → Prop} {bx bY N : Nat} {xs ys : Ds} (h : Two w wr P bx bY N xs ys) : Below w.heap.size w wr := by
  obtain ⟨_, _, _, _, _, _, _, h, _⟩ := h
  exact h
theorem Two.lt {w wr : World} {P : Nat → Prop} {bx bY N : Nat} {xs ys : Ds} (h : Two w wr P bx bY N xs ys) : bx < wr.heap.size ∧ bY < wr.heap.size := by
  obtain ⟨_, _, hx, hy, _⟩ := h
  exact ⟨hx.lt _ hx.b, hy.lt _ hy.b⟩
theorem Two.less {w wr : World} {P Q : Nat → Prop} {bx bY N : Nat} {xs ys : Ds} (h : Two w wr P bx bY N xs ys) (hQ : ∀ k, Q k → P k) : Two w wr Q bx bY N xs ys := by
  obtain ⟨Fx, Fy, hx, hy, h1, h2, h3, h4, h5⟩ := h
  exact ⟨Fx, Fy, hx, hy, h1, h2, h3, h4, fun k hk => h5 k (hQ k hk)⟩
theorem Two.more {w wr : World} {P : Nat → Prop} {bx bY N N' : Nat} {xs ys : Ds} (h : Two w wr P bx bY N xs ys) (hN : N ≤ N') : Two w wr P bx bY N' xs ys := by
  obtain ⟨Fx, Fy, hx, hy, h1, h2, h3, h4, h5⟩ := h
  exact ⟨Fx, Fy, hx.more hN, hy.more hN, h1, h2, h3, h4, h5⟩
/-- whatever was made since is nobody's of these -/
theorem Two.keep {w wr w' : World} {P : Nat → Prop} {bx bY N : Nat} {xs ys : Ds} (h : Two w wr P bx bY N xs ys) (hb : Below wr.heap.size wr w') : Two w w' (fun k => P k ∨ (wr.heap.size ≤ k ∧ k < w'.heap.size)) bx bY N xs ys := by
  obtain ⟨Fx, Fy, hx, hy, h1, h2, h3, h4, h5⟩ := h
  refine ⟨Fx, Fy, hx.keep hb, hy.keep hb, h1, h2, h3, h4.trans (hb.mono h4.size), fun k hk => ?_⟩
  rcases hk with hk | ⟨k1, k2⟩
  · have := h5 k hk
    exact ⟨Nat.lt_of_lt_of_le this.1 hb.size, this.2⟩
  · exact ⟨k2, fun e => by have := hx.lt k e; omega, fun e => by have := hy.lt k e; omega⟩
theorem Two.swap {w wr : World} {P : Nat → Prop} {bx bY N : Nat} {xs ys : Ds} (h : Two w wr P bx bY N xs ys) : Two w wr P bY bx N ys xs := by
  obtain ⟨Fx, Fy, hx, hy, h1, h2, h3, h4, h5⟩ := h
  exact ⟨Fy, Fx, hy, hx, fun k hk hx => h1 k hx hk, h3, h2, h4, fun k hk => ⟨(h5 k hk).1, (h5 k hk).2.2, (h5 k hk).2.1⟩⟩
theorem Two.step {w wr w' : World} {P : Nat → Prop} {bx bY N N' : Nat} {xs' ys : Ds} {Fx Fy F' : Nat → Prop} (hy : Dk wr Fy bY N ys) (h1 : ∀ k, Fx k → ¬ Fy k) (h2 : ∀ k, Fx k → w.heap.size ≤ k) (h3 : ∀ k, Fy k → w.heap.size ≤ k) (h4 : Below w.heap.size w wr) (h5 : ∀ k, P k → k < wr.heap.size ∧ ¬ Fx k ∧ ¬ Fy k) (hx' : Dk w' F' bx N' xs') (hs : Step Fx F' wr w') (hN : N ≤ N') : Two w w' P bx bY N' xs' ys ∧ ∀ k, P k → w'.heap[k]? = wr.heap[k]? := by
  refine ⟨⟨F', Fy, hx', (hy.apart hs.off (fun k hk hx => h1 k hx hk)).more hN, fun k hk hy2 => ?_, fun k hk => ?_, h3, h4.trans (hs.off.below h2 h4.size), fun k hk => ⟨Nat.lt_of_lt_of_le (h5 k hk).1 hs.off.size, fun e => ?_, (h5 k hk).2.2⟩⟩, fun k hk => hs.off.block k (h5 k hk).1 (h5 k hk).2.1⟩
  · rcases hs.sub k hk with e | e
    · exact h1 k e hy2
    · have := hy.lt k hy2; omega
  · rcases hs.sub k hk with e | e
    · exact h2 k e
    · exact Nat.le_trans h4.size e
  · rcases hs.sub k e with e | e
    · exact (h5 k hk).2.1 e
    · have := (h5 k hk).1; omega
theorem two_write {w wr : World} {P : Nat → Prop} {bx bY N : Nat} {xs ys : Ds} (T : Two w wr P bx bY N xs ys) (hN : N < 1000000) (i : Int) (g c : Nat) (C : List Int) (base : Nat) (ho : Owned wr base (.slice (some ⟨g, 0, none⟩) 64 c) C) (hC : C.length = 64) (hB : IsBytes C) (hg : P g) :
    Calls Try.prog 12 #[.pointer (some ⟨bx, 0, none⟩), .int .i64 i, .slice (some ⟨g, 0, none⟩) 64 c] wr fun e w' => e = .returned (.int .i64 (xs.wr i C).1) ∧ Two w w' P bx bY (N + 1) (xs.wr i C).2 ys ∧ ∀ k, P k → w'.heap[k]? = wr.heap[k]? := by
  obtain ⟨Fx, Fy, hx, hy, h1, h2, h3, h4, h5⟩ := T
  refine (dk_write wr Fx bx N xs hx hN i _ 64 c C hC hB ho.holds.1 (fun x e _ => by cases e; exact fun e => (h5 g hg).2.1 (by have e2 : g = bx := e; rw [e2]; exact hx.b))).mono ?_
  rintro e w' ⟨rfl, F', hx', hs⟩
  exact ⟨rfl, Two.step hy h1 h2 h3 h4 h5 hx' hs (Nat.le_succ N)⟩
theorem two_flush {w wr : World} {P : Nat → Prop} {bx bY N : Nat} {xs ys : Ds} (T : Two w wr P bx bY N xs ys) (hN : N < 1000000) :
    Calls Try.prog 13 #[.pointer (some ⟨bx, 0, none⟩)] wr fun e w' => e = .returned (.int .i64 (xs.fl).1) ∧ Two w w' P bx bY (N + 1) (xs.fl).2 ys ∧ ∀ k, P k → w'.heap[k]? = wr.heap[k]? := by
  obtain ⟨Fx, Fy, hx, hy, h1, h2, h3, h4, h5⟩ := T
  refine (dk_flush wr Fx bx N xs hx hN).mono ?_
  rintro e w' ⟨rfl, F', hx', hs⟩
  exact ⟨rfl, Two.step hy h1 h2 h3 h4 h5 hx' hs (Nat.le_succ N)⟩
theorem two_crash {w wr : World} {P : Nat → Prop} {bx bY N : Nat} {xs ys : Ds} (T : Two w wr P bx bY N xs ys) (hN : N ≤ 1000000) (ka : Option Addr) (kl kc : Nat) (keep : List Int) (hkl : keep.length = kl) (hin : InK w ka keep) :
    Calls Try.prog 20 #[.pointer (some ⟨bx, 0, none⟩), .slice ka kl kc] wr fun e w' => e = .returned (.int .i64 0) ∧ Two w w' P bx bY N (xs.cr keep) ys ∧ ∀ k, P k → w'.heap[k]? = wr.heap[k]? := by
  obtain ⟨Fx, Fy, hx, hy, h1, h2, h3, h4, h5⟩ := T
  refine (dk_crash wr Fx bx N xs hx hN ka kl kc keep hkl (hin.kept fun x hx hK => h4.block _ (hin.lt x hx hK)) (fun x hx hK hF => by have := hin.lt x hx hK; have := h2 _ hF; omega)).mono ?_
  rintro e w' ⟨rfl, F', hx', hs⟩
  exact ⟨rfl, Two.step hy h1 h2 h3 h4 h5 hx' hs (Nat.le_refl N)⟩
theorem two_fuse {w wr : World} {P : Nat → Prop} {bx bY N : Nat} {xs ys : Ds} (T : Two w wr P bx bY N xs ys) (k : Int) (hk : k ≤ 9223372036854775807) :
    Calls Try.prog 26 #[.pointer (some ⟨bx, 0, none⟩), .int .i64 k] wr fun e w' => e = .returned (.int .i64 (xs.fs k).1) ∧ Two w w' P bx bY N (xs.fs k).2 ys ∧ ∀ k, P k → w'.heap[k]? = wr.heap[k]? := by
  obtain ⟨Fx, Fy, hx, hy, h1, h2, h3, h4, h5⟩ := T
  refine (dk_fuse wr Fx bx N xs hx k hk).mono ?_
  rintro e w' ⟨rfl, hx', hs⟩
  exact ⟨rfl, Two.step hy h1 h2 h3 h4 h5 hx' hs (Nat.le_refl N)⟩
theorem two_up {w wr : World} {P : Nat → Prop} {bx bY N : Nat} {xs ys : Ds} (T : Two w wr P bx bY N xs ys) : Calls Try.prog 24 #[.pointer (some ⟨bx, 0, none⟩)] wr fun e w' => e = .returned (.bool xs.up) ∧ w' = wr := by
  obtain ⟨Fx, Fy, hx, _⟩ := T
  exact dk_up wr Fx bx N xs hx
theorem two_done {w wr : World} {P : Nat → Prop} {bx bY N : Nat} {xs ys : Ds} (T : Two w wr P bx bY N xs ys) : Calls Try.prog 27 #[.pointer (some ⟨bx, 0, none⟩)] wr fun e w' => e = .returned (.int .i64 xs.dn) ∧ w' = wr := by
  obtain ⟨Fx, Fy, hx, _⟩ := T
  exact dk_done wr Fx bx N xs hx
theorem two_image {w wr : World} {P : Nat → Prop} {bx bY N : Nat} {xs ys : Ds} (T : Two w wr P bx bY N xs ys) : Calls Try.prog 21 #[.pointer (some ⟨bx, 0, none⟩)] wr fun e w' => ∃ go V, e = .returned (.slice (some ⟨go, 0, none⟩) xs.D.length xs.D.length) ∧ V.length = xs.D.length ∧ Img w' wr.heap.size go xs.D.length V xs.D ∧ Below wr.heap.size wr w' := by
  obtain ⟨Fx, Fy, hx, _⟩ := T
  exact dk_image wr Fx bx N xs hx
theorem two_new {w w1 w2 : World} {bx bY : Nat} {Fx Fy : Nat → Prop} {xs ys : Ds} (hx : Dk w1 Fx bx 0 xs) (hb1 : Below w.heap.size w w1) (hF : ∀ k, Fx k → w.heap.size ≤ k) (hy : Dk w2 Fy bY 0 ys) (hb2 : Below w1.heap.size w1 w2) (hG : ∀ k, Fy k → w1.heap.size ≤ k) : Two w w2 (fun _ => False) bx bY 0 xs ys :=
  ⟨Fx, Fy, hx.keep hb2, hy, fun k hk hy2 => by have := hx.lt k hk; have := hG k hy2; omega, hF, fun k hk => Nat.le_trans hb1.size (hG k hk), hb1.trans (hb2.mono hb1.size), fun k hk => hk.elim⟩
end Go.Proofs.Ytibgfjnddhfgpaa
