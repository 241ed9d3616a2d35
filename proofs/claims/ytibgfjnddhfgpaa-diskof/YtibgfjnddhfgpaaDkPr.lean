/- A disk beside the document's. -/
import Derived.Test.YtibgfjnddhfgpaaDrF
import Derived.Test.YtibgfjnddhfgpaaDkWa
namespace Go.Proofs.Ytibgfjnddhfgpaa
open Go.ChangeShapes Go.WideShapes Go.ChangeAt Go.RowKit Go.Deep Go.Maps
set_option linter.unusedVariables false
/-- a disk at d and the document's at r, that have no block together, all made since w; the blocks P are neither's -/
def Pr (w wr : World) (P : Nat → Prop) (d r N : Nat) (sd sr : Ds) : Prop := ∃ Fd Fr : Nat → Prop, Dk wr Fd d N sd ∧ Rk wr Fr r N sr ∧ (∀ k, Fd k → ¬ Fr k) ∧ (∀ k, Fd k → w.heap.size ≤ k) ∧ (∀ k, Fr k → w.heap.size ≤ k) ∧ Below w.heap.size w wr ∧ ∀ k, P k → k < wr.heap.size ∧ ¬ Fd k ∧ ¬ Fr k
theorem Pr.below {w wr : World} {P : Nat → Prop} {d r N : Nat} {sd sr : Ds} (h : Pr w wr P d r N sd sr) : Below w.heap.size w wr := by
  obtain ⟨_, _, _, _, _, _, _, h, _⟩ := h
  exact h
theorem Pr.lt {w wr : World} {P : Nat → Prop} {d r N : Nat} {sd sr : Ds} (h : Pr w wr P d r N sd sr) : d < wr.heap.size ∧ r < wr.heap.size := by
  obtain ⟨_, _, hx, hy, _⟩ := h
  exact ⟨hx.lt _ hx.b, hy.lt _ hy.b⟩
theorem Pr.less {w wr : World} {P Q : Nat → Prop} {d r N : Nat} {sd sr : Ds} (h : Pr w wr P d r N sd sr) (hQ : ∀ k, Q k → P k) : Pr w wr Q d r N sd sr := by
  obtain ⟨Fx, Fy, hx, hy, h1, h2, h3, h4, h5⟩ := h
  exact ⟨Fx, Fy, hx, hy, h1, h2, h3, h4, fun k hk => h5 k (hQ k hk)⟩
theorem Pr.more {w wr : World} {P : Nat → Prop} {d r N N' : Nat} {sd sr : Ds} (h : Pr w wr P d r N sd sr) (hN : N ≤ N') : Pr w wr P d r N' sd sr := by
  obtain ⟨Fx, Fy, hx, hy, h1, h2, h3, h4, h5⟩ := h
  exact ⟨Fx, Fy, hx.more hN, hy.more hN, h1, h2, h3, h4, h5⟩
theorem Pr.keep {w wr w' : World} {P : Nat → Prop} {d r N : Nat} {sd sr : Ds} (h : Pr w wr P d r N sd sr) (hb : Below wr.heap.size wr w') : Pr w w' (fun k => P k ∨ (wr.heap.size ≤ k ∧ k < w'.heap.size)) d r N sd sr := by
  obtain ⟨Fx, Fy, hx, hy, h1, h2, h3, h4, h5⟩ := h
  refine ⟨Fx, Fy, hx.keep hb, hy.kept fun k hk => hb.block k (hy.lt k hk), h1, h2, h3, h4.trans (hb.mono h4.size), fun k hk => ?_⟩
  rcases hk with hk | ⟨k1, k2⟩
  · have := h5 k hk
    exact ⟨Nat.lt_of_lt_of_le this.1 hb.size, this.2⟩
  · exact ⟨k2, fun e => by have := hx.lt k e; omega, fun e => by have := hy.lt k e; omega⟩
theorem Pr.stepD {w wr w' : World} {P : Nat → Prop} {d r N N' : Nat} {sd' sr : Ds} {Fx Fy F' : Nat → Prop} (hy : Rk wr Fy r N sr) (h1 : ∀ k, Fx k → ¬ Fy k) (h2 : ∀ k, Fx k → w.heap.size ≤ k) (h3 : ∀ k, Fy k → w.heap.size ≤ k) (h4 : Below w.heap.size w wr) (h5 : ∀ k, P k → k < wr.heap.size ∧ ¬ Fx k ∧ ¬ Fy k) (hx' : Dk w' F' d N' sd') (hs : Step Fx F' wr w') (hN : N ≤ N') : Pr w w' P d r N' sd' sr ∧ (∀ k, P k → w'.heap[k]? = wr.heap[k]?) ∧ wr.heap.size ≤ w'.heap.size := by
  refine ⟨⟨F', Fy, hx', (hy.kept fun k hk => hs.off.block k (hy.lt k hk) (fun hx => h1 k hx hk)).more hN, fun k hk hy2 => ?_, fun k hk => ?_, h3, h4.trans (hs.off.below h2 h4.size), fun k hk => ⟨Nat.lt_of_lt_of_le (h5 k hk).1 hs.off.size, fun e => ?_, (h5 k hk).2.2⟩⟩, fun k hk => hs.off.block k (h5 k hk).1 (h5 k hk).2.1, hs.off.size⟩
  · rcases hs.sub k hk with e | e
    · exact h1 k e hy2
    · have := hy.lt k hy2; omega
  · rcases hs.sub k hk with e | e
    · exact h2 k e
    · exact Nat.le_trans h4.size e
  · rcases hs.sub k e with e | e
    · exact (h5 k hk).2.1 e
    · have := (h5 k hk).1; omega
theorem Pr.stepR {w wr w' : World} {P : Nat → Prop} {d r N N' : Nat} {sd sr' : Ds} {Fx Fy F' : Nat → Prop} (hx : Dk wr Fx d N sd) (h1 : ∀ k, Fx k → ¬ Fy k) (h2 : ∀ k, Fx k → w.heap.size ≤ k) (h3 : ∀ k, Fy k → w.heap.size ≤ k) (h4 : Below w.heap.size w wr) (h5 : ∀ k, P k → k < wr.heap.size ∧ ¬ Fx k ∧ ¬ Fy k) (hy' : Rk w' F' r N' sr') (hs : Step Fy F' wr w') (hN : N ≤ N') : Pr w w' P d r N' sd sr' ∧ (∀ k, P k → w'.heap[k]? = wr.heap[k]?) ∧ wr.heap.size ≤ w'.heap.size := by
  refine ⟨⟨Fx, F', (hx.apart hs.off (fun k hk => h1 k hk)).more hN, hy', fun k hk hy2 => ?_, h2, fun k hk => ?_, h4.trans (hs.off.below h3 h4.size), fun k hk => ⟨Nat.lt_of_lt_of_le (h5 k hk).1 hs.off.size, (h5 k hk).2.1, fun e => ?_⟩⟩, fun k hk => hs.off.block k (h5 k hk).1 (h5 k hk).2.2, hs.off.size⟩
  · rcases hs.sub k hy2 with e | e
    · exact h1 k hk e
    · have := hx.lt k hk; omega
  · rcases hs.sub k hk with e | e
    · exact h3 k e
    · exact Nat.le_trans h4.size e
  · rcases hs.sub k e with e | e
    · exact (h5 k hk).2.2 e
    · have := (h5 k hk).1; omega
section
variable {w wr : World} {P : Nat → Prop} {d r N : Nat} {sd sr : Ds}
theorem pr_write (T : Pr w wr P d r N sd sr) (hN : N < 1000000) (i : Int) (g c n : Nat) (C : List Int) (base : Nat) (ho : Owned wr base (.slice (some ⟨g, 0, none⟩) n c) C) (hC : C.length = n) (hB : IsBytes C) (hg : P g) :
    Calls Try.prog 12 #[.pointer (some ⟨d, 0, none⟩), .int .i64 i, .slice (some ⟨g, 0, none⟩) n c] wr fun e w' => e = .returned (.int .i64 (sd.wr i C).1) ∧ Pr w w' P d r (N + 1) (sd.wr i C).2 sr ∧ (∀ k, P k → w'.heap[k]? = wr.heap[k]?) ∧ wr.heap.size ≤ w'.heap.size := by
  obtain ⟨Fx, Fy, hx, hy, h1, h2, h3, h4, h5⟩ := T
  refine (dk_write wr Fx d N sd hx hN i _ n c C hC hB ho.holds.1 (fun x e _ => by cases e; exact fun e => (h5 g hg).2.1 (by have e2 : g = d := e; rw [e2]; exact hx.b))).mono ?_
  rintro e w' ⟨rfl, F', hx', hs⟩
  exact ⟨rfl, Pr.stepD hy h1 h2 h3 h4 h5 hx' hs (Nat.le_succ N)⟩
theorem pr_rwrite (T : Pr w wr P d r N sd sr) (hN : N < 1000000) (i : Int) (C : List Int) :
    Calls Try.prog 37 #[.pointer (some ⟨r, 0, none⟩), .int .i64 i, .string (strOfNums C)] wr fun e w' => e = .returned (.int .i64 (sr.wr i C).1) ∧ Pr w w' P d r (N + 1) sd (sr.wr i C).2 ∧ (∀ k, P k → w'.heap[k]? = wr.heap[k]?) ∧ wr.heap.size ≤ w'.heap.size := by
  obtain ⟨Fx, Fy, hx, hy, h1, h2, h3, h4, h5⟩ := T
  refine (rk_write wr Fy r N sr hy hN i C).mono ?_
  rintro e w' ⟨rfl, F', hy', hs⟩
  exact ⟨rfl, Pr.stepR hx h1 h2 h3 h4 h5 hy' hs (Nat.le_succ N)⟩
theorem pr_flush (T : Pr w wr P d r N sd sr) (hN : N < 1000000) :
    Calls Try.prog 13 #[.pointer (some ⟨d, 0, none⟩)] wr fun e w' => e = .returned (.int .i64 (sd.fl).1) ∧ Pr w w' P d r (N + 1) (sd.fl).2 sr ∧ (∀ k, P k → w'.heap[k]? = wr.heap[k]?) ∧ wr.heap.size ≤ w'.heap.size := by
  obtain ⟨Fx, Fy, hx, hy, h1, h2, h3, h4, h5⟩ := T
  refine (dk_flush wr Fx d N sd hx hN).mono ?_
  rintro e w' ⟨rfl, F', hx', hs⟩
  exact ⟨rfl, Pr.stepD hy h1 h2 h3 h4 h5 hx' hs (Nat.le_succ N)⟩
theorem pr_rflush (T : Pr w wr P d r N sd sr) (hN : N < 1000000) :
    Calls Try.prog 38 #[.pointer (some ⟨r, 0, none⟩)] wr fun e w' => e = .returned (.int .i64 (sr.fl).1) ∧ Pr w w' P d r (N + 1) sd (sr.fl).2 ∧ (∀ k, P k → w'.heap[k]? = wr.heap[k]?) ∧ wr.heap.size ≤ w'.heap.size := by
  obtain ⟨Fx, Fy, hx, hy, h1, h2, h3, h4, h5⟩ := T
  refine (rk_flush wr Fy r N sr hy hN).mono ?_
  rintro e w' ⟨rfl, F', hy', hs⟩
  exact ⟨rfl, Pr.stepR hx h1 h2 h3 h4 h5 hy' hs (Nat.le_succ N)⟩
theorem pr_fuse (T : Pr w wr P d r N sd sr) (k : Int) (hk : k ≤ 9223372036854775807) :
    Calls Try.prog 26 #[.pointer (some ⟨d, 0, none⟩), .int .i64 k] wr fun e w' => e = .returned (.int .i64 (sd.fs k).1) ∧ Pr w w' P d r N (sd.fs k).2 sr ∧ (∀ k, P k → w'.heap[k]? = wr.heap[k]?) ∧ wr.heap.size ≤ w'.heap.size := by
  obtain ⟨Fx, Fy, hx, hy, h1, h2, h3, h4, h5⟩ := T
  refine (dk_fuse wr Fx d N sd hx k hk).mono ?_
  rintro e w' ⟨rfl, hx', hs⟩
  exact ⟨rfl, Pr.stepD hy h1 h2 h3 h4 h5 hx' hs (Nat.le_refl N)⟩
theorem pr_rset (T : Pr w wr P d r N sd sr) (k : Int) (hk : k ≤ 9223372036854775807) :
    Calls Try.prog 40 #[.pointer (some ⟨r, 0, none⟩), .int .i64 k] wr fun e w' => e = .returned (.int .i64 (sr.fs k).1) ∧ Pr w w' P d r N sd (sr.fs k).2 ∧ (∀ k, P k → w'.heap[k]? = wr.heap[k]?) ∧ wr.heap.size ≤ w'.heap.size := by
  obtain ⟨Fx, Fy, hx, hy, h1, h2, h3, h4, h5⟩ := T
  refine (rk_set wr Fy r N sr hy k hk).mono ?_
  rintro e w' ⟨rfl, hy', hs⟩
  exact ⟨rfl, Pr.stepR hx h1 h2 h3 h4 h5 hy' hs (Nat.le_refl N)⟩
theorem pr_crash (T : Pr w wr P d r N sd sr) (hN : N ≤ 1000000) (ka : Option Addr) (kl kc : Nat) (keep : List Int) (hkl : keep.length = kl) (hin : InK wr ka keep) (hk : ∀ x, ka = some x → keep ≠ [] → P x.block ∨ x.block < w.heap.size) :
    Calls Try.prog 20 #[.pointer (some ⟨d, 0, none⟩), .slice ka kl kc] wr fun e w' => e = .returned (.int .i64 0) ∧ Pr w w' P d r N (sd.cr keep) sr ∧ (∀ k, P k → w'.heap[k]? = wr.heap[k]?) ∧ wr.heap.size ≤ w'.heap.size := by
  obtain ⟨Fx, Fy, hx, hy, h1, h2, h3, h4, h5⟩ := T
  refine (dk_crash wr Fx d N sd hx hN ka kl kc keep hkl hin (fun x hx hK hF => ?_)).mono ?_
  · rcases hk x hx hK with e | e
    · exact (h5 _ e).2.1 hF
    · have := h2 _ hF; omega
  · rintro e w' ⟨rfl, F', hx', hs⟩
    exact ⟨rfl, Pr.stepD hy h1 h2 h3 h4 h5 hx' hs (Nat.le_refl N)⟩
theorem pr_rcrash (T : Pr w wr P d r N sd sr) (hN : N ≤ 1000000) (ka : Option Addr) (kl kc : Nat) (keep : List Int) (hkl : keep.length = kl) (hin : InK wr ka keep) :
    Calls Try.prog 41 #[.pointer (some ⟨r, 0, none⟩), .slice ka kl kc] wr fun e w' => e = .returned (.tuple #[]) ∧ Pr w w' P d r N sd (sr.cr keep) ∧ (∀ k, P k → w'.heap[k]? = wr.heap[k]?) ∧ wr.heap.size ≤ w'.heap.size := by
  obtain ⟨Fx, Fy, hx, hy, h1, h2, h3, h4, h5⟩ := T
  refine (rk_crash wr Fy r N sr hy hN ka kl kc keep hkl hin).mono ?_
  rintro e w' ⟨rfl, F', hy', hs⟩
  exact ⟨rfl, Pr.stepR hx h1 h2 h3 h4 h5 hy' hs (Nat.le_refl N)⟩
theorem pr_read (T : Pr w wr P d r N sd sr) (hN : N ≤ 1000000) (i : Int) : Calls Try.prog 22 #[.pointer (some ⟨d, 0, none⟩), .int .i64 i] wr fun e w' => ∃ a n c, e = .returned (.tuple #[.slice a n c, .int .i64 (sd.rd i).2]) ∧ (sd.rd i).1.length = n ∧ Owned w' wr.heap.size (.slice a n c) (sd.rd i).1 ∧ Below wr.heap.size wr w' := by
  obtain ⟨Fx, Fy, hx, _⟩ := T
  exact dk_read wr Fx d N sd hx hN i
theorem pr_rread (T : Pr w wr P d r N sd sr) (hN : N ≤ 1000000) (i : Int) : Calls Try.prog 39 #[.pointer (some ⟨r, 0, none⟩), .int .i64 i] wr fun e w' => e = .returned (.tuple #[.string (strOfNums (sr.rd i).1), .int .i64 (sr.rd i).2]) ∧ w' = wr := by
  obtain ⟨Fx, Fy, hx, hy, _⟩ := T
  exact rk_read wr Fy r N sr hy hN i
theorem pr_image (T : Pr w wr P d r N sd sr) : Calls Try.prog 21 #[.pointer (some ⟨d, 0, none⟩)] wr fun e w' => ∃ go V, e = .returned (.slice (some ⟨go, 0, none⟩) sd.D.length sd.D.length) ∧ V.length = sd.D.length ∧ Img w' wr.heap.size go sd.D.length V sd.D ∧ Below wr.heap.size wr w' := by
  obtain ⟨Fx, Fy, hx, _⟩ := T
  exact dk_image wr Fx d N sd hx
theorem pr_up (T : Pr w wr P d r N sd sr) : Calls Try.prog 24 #[.pointer (some ⟨d, 0, none⟩)] wr fun e w' => e = .returned (.bool sd.up) ∧ w' = wr := by
  obtain ⟨Fx, Fy, hx, _⟩ := T
  exact dk_up wr Fx d N sd hx
theorem pr_done (T : Pr w wr P d r N sd sr) : Calls Try.prog 27 #[.pointer (some ⟨d, 0, none⟩)] wr fun e w' => e = .returned (.int .i64 sd.dn) ∧ w' = wr := by
  obtain ⟨Fx, Fy, hx, _⟩ := T
  exact dk_done wr Fx d N sd hx
theorem pr_blocks (T : Pr w wr P d r N sd sr) : Calls Try.prog 16 #[.pointer (some ⟨d, 0, none⟩)] wr fun e w' => e = .returned (.int .i64 (sd.D.length : Int)) ∧ w' = wr := by
  obtain ⟨Fx, Fy, hx, _⟩ := T
  exact dk_blocks wr Fx d N sd hx
theorem pr_waiting (T : Pr w wr P d r N sd sr) (hN : N ≤ 1000000) : Calls Try.prog 23 #[.pointer (some ⟨d, 0, none⟩)] wr fun e w' => ∃ g c, e = .returned (.slice (some ⟨g, 0, none⟩) (wa sd.D.length sd.W).length c) ∧ InW w' (some ⟨g, 0, none⟩) (wa sd.D.length sd.W) ∧ wr.heap.size ≤ g ∧ Below wr.heap.size wr w' := by
  obtain ⟨Fx, Fy, hx, _⟩ := T
  exact dk_waiting wr Fx d N sd hx hN
theorem pr_rwaiting (T : Pr w wr P d r N sd sr) (hN : N ≤ 1000000) : Calls Try.prog 42 #[.pointer (some ⟨r, 0, none⟩)] wr fun e w' => ∃ a c, e = .returned (.slice a (wa sr.D.length sr.W).length c) ∧ InW w' a (wa sr.D.length sr.W) ∧ Below wr.heap.size wr w' := by
  obtain ⟨Fx, Fy, hx, hy, _⟩ := T
  refine (rk_waiting wr Fy r N sr hy hN).mono ?_
  rintro e w' ⟨v, rfl, ho, hb⟩
  obtain ⟨a, c, rfl, hin, _⟩ := ho.slice
  exact ⟨a, c, rfl, hin, hb⟩
/-- a copy takes the disk's place -/
theorem pr_copy (T : Pr w wr P d r N sd sr) (hN : N ≤ 1000000) : Calls Try.prog 11 #[.pointer (some ⟨d, 0, none⟩)] wr fun e w' => ∃ d2, e = .returned (.pointer (some ⟨d2, 0, none⟩)) ∧ Pr w w' (fun _ => False) d r N sd sr ∧ ∃ F2 : Nat → Prop, Dk w' F2 d2 N sd ∧ (∀ k, F2 k → wr.heap.size ≤ k) ∧ Pr w w' F2 d r N sd sr := by
  obtain ⟨Fx, Fy, hx, hy, h1, h2, h3, h4, h5⟩ := T
  refine (dk_copy wr Fx d N sd hx hN).mono ?_
  rintro e w' ⟨d2, F2, rfl, hd, hb, hF2⟩
  have hk : Pr w w' F2 d r N sd sr := ⟨Fx, Fy, hx.keep hb, hy.kept fun k hk => hb.block k (hy.lt k hk), h1, h2, h3, h4.trans (hb.mono h4.size), fun k hk => ⟨hd.lt k hk, fun e => by have := hF2 k hk; have := hx.lt k e; omega, fun e => by have := hF2 k hk; have := hy.lt k e; omega⟩⟩
  exact ⟨d2, rfl, hk.less (fun _ h => h.elim), F2, hd, hF2, hk⟩
/-- the document's cells -/
theorem Pr.cells (T : Pr w wr P d r N sd sr) : ∃ aB cB, wr.cell? ⟨r, 0, none⟩ = some (.slice aB sr.D.length cB) ∧ wr.cell? ⟨r, 3, none⟩ = some (.bool (!sr.up)) ∧ wr.cell? ⟨r, 4, none⟩ = some (.int .i64 sr.dn) ∧ RowT wr 0 (.slice aB sr.D.length cB) sr.D := by
  obtain ⟨Fx, Fy, hx, ⟨L, vB, vL, p, _⟩, _⟩ := T
  obtain ⟨aB, cB, e⟩ := p.dur.form
  obtain ⟨c0, c1, c2, c3, c4⟩ := r5_of p.cell
  have hd := p.dur
  rw [e] at c0 hd
  exact ⟨aB, cB, c0, c3, c4, hd⟩
end
end Go.Proofs.Ytibgfjnddhfgpaa
