/- A disk in memory against the plain one: each call. What a log does to its disk, plainly; zeros behind bytes. read: bytes of a log's area. Contract of frame.All. -/
import Derived.Test.YtcindeechmpalaaGreatMgKc7
import Derived.Test.YtcindeechmpalaaGreatMgKc8
import Derived.Test.YtcindeechmpalaaGreatMgKc4
import Derived.Lib.AppendZerosOnto
import Derived.ArgAppend
import Derived.Test.YtcindeechmpalaaGreatMgKc2
namespace Go.Proofs.YtcindeechmpalaaGreat
open Go.ChangeShapes Go.WideShapes Go.ChangeAt Go.RowKit Go.Deep Go.Maps
set_option linter.unusedVariables false
/-- the plain disk -/
structure Ds where
  D : List (List Int)
  W : Int → List (List Int)
  up : Bool
  dn : Int
  fu : Int
def Ds.new (n : Nat) : Ds := ⟨noughts n, fun _ => [], true, 0, -1⟩
def Ds.wr (s : Ds) (i : Int) (C : List Int) : Int × Ds :=
  if rdyAt s.up s.D.length i ≠ 0 then (rdyAt s.up s.D.length i, s)
  else if C.length ≠ 64 then (2, s)
  else if s.fu = 0 then (15, { s with up := false })
  else (0, ⟨s.D, fun j => if j = i then s.W j ++ [C] else s.W j, true, s.dn + 1, lessF s.fu⟩)
def Ds.fl (s : Ds) : Int × Ds :=
  if s.up = false then (15, s)
  else if s.fu = 0 then (15, { s with up := false })
  else (0, ⟨flD s.D s.W, fun _ => [], true, s.dn + 1, lessF s.fu⟩)
def Ds.fs (s : Ds) (k : Int) : Int × Ds := (fuA s.up k, { s with fu := if s.up = true ∧ 0 ≤ k then k else s.fu })
def Ds.cr (s : Ds) (keep : List Int) : Ds := ⟨crD keep s.D s.W, fun _ => [], true, s.dn, -1⟩
def Ds.rd (s : Ds) (i : Int) : List Int × Int :=
  if rdyAt s.up s.D.length i ≠ 0 then ([], rdyAt s.up s.D.length i) else (lastOf (s.W i) (s.D[i.toNat]?.getD []), 0)
/-- block b is the disk s; F are its blocks; N bounds how often it was written -/
def Dk (w : World) (F : Nat → Prop) (b N : Nat) (s : Ds) : Prop :=
  ∃ gd cd mb T, DkP w 0 b N s.D s.W s.up s.dn s.fu gd cd mb T ∧ (∀ k, F k ↔ Fp b gd mb T k) ∧ (1 ≤ s.D.length ∧ s.D.length ≤ 4096) ∧ (∀ i, (s.W i).length ≤ N) ∧ (∀ i, s.W i ≠ [] → 0 ≤ i ∧ i < s.D.length) ∧ (0 ≤ s.dn ∧ s.dn ≤ N) ∧ s.fu ≤ 9223372036854775807
theorem Dk.lt {w : World} {F : Nat → Prop} {b N : Nat} {s : Ds} (h : Dk w F b N s) : ∀ k, F k → k < w.heap.size := by
  obtain ⟨gd, cd, mb, T, hp, hF, _⟩ := h
  exact fun k hk => (hp.fp_lt k ((hF k).1 hk)).1
theorem Dk.b {w : World} {F : Nat → Prop} {b N : Nat} {s : Ds} (h : Dk w F b N s) : F b := by
  obtain ⟨gd, cd, mb, T, hp, hF, _⟩ := h
  exact (hF b).2 (.inl rfl)
theorem Dk.kept {w w' : World} {F : Nat → Prop} {b N : Nat} {s : Ds} (h : Dk w F b N s) (hs : w.heap.size ≤ w'.heap.size) (hb : ∀ k, F k → w'.heap[k]? = w.heap[k]?) (ho : w'.os = w.os) (ht : w'.tape = w.tape) (hp : w'.output = w.output) : Dk w' F b N s := by
  obtain ⟨gd, cd, mb, T, p, hF, rest⟩ := h
  exact ⟨gd, cd, mb, T, p.kept hs (fun k hk => hb k ((hF k).2 hk)) ho ht hp, hF, rest⟩
theorem Dk.keep {w w' : World} {F : Nat → Prop} {b N : Nat} {s : Ds} (h : Dk w F b N s) (hb : Below w.heap.size w w') : Dk w' F b N s := h.kept hb.size (fun k hk => hb.block k (h.lt k hk)) hb.os hb.tape hb.output
theorem Dk.apart {w w' : World} {F G : Nat → Prop} {b N : Nat} {s : Ds} (h : Dk w F b N s) (ho : Off G w w') (hd : ∀ k, F k → ¬ G k) : Dk w' F b N s := h.kept ho.size (fun k hk => ho.block k (h.lt k hk) (hd k hk)) ho.os ho.tape ho.output
theorem Dk.grown {w w' : World} {F : Nat → Prop} {b N : Nat} {s : Ds} {row : Option Nat} (h : Dk w F b N s) (hg : w.grownBy w' row) (hr : ∀ k, row = some k → ¬ F k) : Dk w' F b N s := h.kept hg.size (fun k hk => hg.block k (h.lt k hk) (fun e => hr k e.symm hk)) hg.os hg.tape hg.output
theorem Dk.more {w : World} {F : Nat → Prop} {b N N' : Nat} {s : Ds} (h : Dk w F b N s) (hN : N ≤ N') : Dk w F b N' s := by
  obtain ⟨gd, cd, mb, T, p, hF, h1, h2, h3, h4, h5⟩ := h
  exact ⟨gd, cd, mb, T, ⟨p.hb, p.hm, p.cell, p.dur, p.is64, p.mp.mono hN, p.nil, p.row, p.apart⟩, hF, h1, fun i => Nat.le_trans (h2 i) hN, h3, ⟨h4.1, by omega⟩, h5⟩
theorem Dk.is64 {w : World} {F : Nat → Prop} {b N : Nat} {s : Ds} (h : Dk w F b N s) : Is64 s.D ∧ (∀ i, Is64 (s.W i)) ∧ (1 ≤ s.D.length ∧ s.D.length ≤ 4096) := by
  obtain ⟨gd, cd, mb, T, p, hF, h1, _⟩ := h
  exact ⟨p.is64, fun i => (p.writes i).2, h1⟩
theorem Dk.wd {w : World} {F : Nat → Prop} {b N : Nat} {s : Ds} (h : Dk w F b N s) : ∀ i, s.W i ≠ [] → 0 ≤ i ∧ i < s.D.length := by
  obtain ⟨gd, cd, mb, T, p, hF, h1, h2, h3, h4, h5⟩ := h
  exact h3
theorem Dk.fu {w : World} {F : Nat → Prop} {b N : Nat} {s : Ds} (h : Dk w F b N s) : s.fu ≤ 9223372036854775807 := by
  obtain ⟨gd, cd, mb, T, p, hF, h1, h2, h3, h4, h5⟩ := h
  exact h5
theorem Step.refl (F : Nat → Prop) (w : World) : Step F F w w := ⟨Off.refl F w, fun _ hk => .inl hk⟩
theorem Step.of {F : Nat → Prop} {w w' : World} {b : Nat} (hg : w.grownBy w' (some b)) (hb : F b) : Step F F w w' := ⟨(Off.refl F w).grown hg (fun k e => .inl (Option.some.inj e ▸ hb)), fun _ hk => .inl hk⟩
theorem dk_new (n : Nat) (h1 : 1 ≤ n) (h2 : n ≤ 4096) (w : World) : Calls Tryz.prog 9 #[.int .i64 (n : Int)] w fun e w' => ∃ b F, e = .returned (.tuple #[.pointer (some ⟨b, 0, none⟩), .int .i64 0]) ∧ Dk w' F b 0 (Ds.new n) ∧ Below w.heap.size w w' ∧ ∀ k, F k → w.heap.size ≤ k := by
  refine (new_is n h1 h2 w).mono ?_
  rintro e w' ⟨b, rfl, hd, hb⟩
  obtain ⟨gd, cd, mb, T, p⟩ := DkP.of hd
  have p0 : DkP w' 0 b 0 (noughts n) (fun _ => []) true 0 (-1) gd cd mb T := ⟨Nat.zero_le _, Nat.zero_le _, p.cell, p.dur.base (Nat.zero_le _), p.is64, p.mp, p.nil, fun i x hx => by
    obtain ⟨a1, a2, a3, a4⟩ := p.row i x hx
    exact ⟨a1, a2, a3.base (Nat.zero_le _), a4⟩, p.apart⟩
  refine ⟨b, Fp b gd mb T, rfl, ⟨gd, cd, mb, T, p0, fun _ => Iff.rfl, by simp [Ds.new, noughts]; omega, fun i => Nat.le_refl _, fun i hi => absurd rfl hi, ⟨Int.le_refl _, Int.le_refl _⟩, by show (-1 : Int) ≤ _; omega⟩, hb, fun k hk => (p.fp_lt k hk).2⟩
theorem lessF_le {f : Int} (h : f ≤ 9223372036854775807) : lessF f ≤ 9223372036854775807 := by unfold lessF; split <;> omega
theorem dk_write (w : World) (F : Nat → Prop) (b N : Nat) (s : Ds) (H : Dk w F b N s) (hN : N < 1000000) (i : Int) (a : Option Addr) (l cp : Nat) (C : List Int) (hC : C.length = l) (hB : IsBytes C) (hh : Holds w a C) (hxb : ∀ x, a = some x → C ≠ [] → x.block ≠ b) :
    Calls Tryz.prog 128 #[.pointer (some ⟨b, 0, none⟩), .int .i64 i, .slice a l cp] w fun e w' => e = .returned (.int .i64 (s.wr i C).1) ∧ ∃ F', Dk w' F' b (N + 1) (s.wr i C).2 ∧ Step F F' w w' := by
  have H0 := H
  obtain ⟨gd, cd, mb, T, p, hF, h1, h2, h3, h4, h5⟩ := H
  unfold Ds.wr
  by_cases hr : rdyAt s.up s.D.length i = 0
  · rw [if_neg (by simpa using hr)]
    by_cases hl : l = 64
    · subst hl
      rw [if_neg (by simpa using hC)]
      have hup : s.up = true := by
        cases hu : s.up
        · rw [hu] at hr; simp [rdyAt] at hr
        · rfl
      have hi : 0 ≤ i ∧ i < s.D.length := by
        rw [hup] at hr
        simp only [rdyAt, if_true] at hr
        by_cases hc : 0 ≤ i ∧ i < s.D.length
        · exact hc
        · rw [if_neg hc] at hr; cases hr
      rw [hup] at p
      by_cases hf : s.fu = 0
      · rw [if_pos hf]
        rw [hf] at p
        refine (write_out w 0 b N s.D s.W s.dn gd cd mb T ⟨h4.1, by omega⟩ h1.1 p i hi a cp).mono ?_
        rintro e w' ⟨rfl, hg, p'⟩
        refine ⟨rfl, F, Dk.more ⟨gd, cd, mb, T, ?_, hF, h1, h2, h3, h4, h5⟩ (Nat.le_succ N), Step.of hg H0.b⟩
        show DkP w' 0 b N s.D s.W false s.dn s.fu gd cd mb T
        rw [hf]
        exact p'
      · rw [if_neg hf]
        obtain ⟨x, hx, hsrc⟩ : ∃ x, a = some x ∧ ∀ j v, (C.map (Value.int .u8))[j]? = some v → w.cell? (x.add j) = some v := by
          rcases hh with h0 | ⟨g, off, hx, hc⟩
          · rw [h0] at hC; cases hC
          · refine ⟨_, hx, fun j v hv => ?_⟩
            rw [List.getElem?_map] at hv
            cases hj : C[j]? with
            | none => rw [hj] at hv; cases hv
            | some y =>
              rw [hj] at hv
              obtain rfl := Option.some.inj hv
              have hlt := (List.getElem?_eq_some_iff.1 hj).1
              rw [add_plain, hc j hlt, List.getD_eq_getElem?_getD, hj]
              rfl
        subst hx
        have hne : C ≠ [] := fun e => by rw [e] at hC; cases hC
        refine (write_is w 0 b N s.D s.W s.dn s.fu h5 hf ⟨h4.1, by omega⟩ gd cd mb T h1 p (by omega) i hi (by have := h2 i; omega) x (hxb x rfl hne) cp C ⟨hC, hB⟩ hsrc (Nat.zero_le _)).mono ?_
        rintro e w' ⟨rfl, ho, T', p', hs⟩
        refine ⟨rfl, Fp b gd mb T', ⟨gd, cd, mb, T', p', fun _ => Iff.rfl, h1, fun j => ?_, fun j hj => ?_, ⟨by show 0 ≤ s.dn + 1; omega, by show s.dn + 1 ≤ ((N + 1 : Nat) : Int); omega⟩, lessF_le h5⟩, ⟨⟨ho.os, ho.tape, ho.output, ho.size, fun k hk hn => ho.block k hk (fun e => hn ((hF k).2 e))⟩, fun k hk => ?_⟩⟩
        · show (if j = i then s.W j ++ [C] else s.W j).length ≤ N + 1
          have := h2 j
          split
          · simp; omega
          · omega
        · by_cases e : j = i
          · rw [e]; exact hi
          · exact h3 j (by simpa [e] using hj)
        · rcases hs k hk with e | e
          · exact .inl ((hF k).2 e)
          · exact .inr e
    · rw [if_pos (by rw [hC]; exact hl)]
      refine (write_len w b gd s.D.length cd mb s.up s.dn s.fu h1.1 (d5_of p.cell) i a l cp hr hl).mono ?_
      rintro e w' ⟨rfl, rfl⟩
      exact ⟨rfl, F, H0.more (Nat.le_succ N), Step.refl F _⟩
  · rw [if_pos hr]
    refine (write_ref w b gd s.D.length cd mb s.up s.dn s.fu h1.1 (d5_of p.cell) i _ hr).mono ?_
    rintro e w' ⟨rfl, rfl⟩
    exact ⟨rfl, F, H0.more (Nat.le_succ N), Step.refl F _⟩
theorem dk_flush (w : World) (F : Nat → Prop) (b N : Nat) (s : Ds) (H : Dk w F b N s) (hN : N < 1000000) :
    Calls Tryz.prog 130 #[.pointer (some ⟨b, 0, none⟩)] w fun e w' => e = .returned (.int .i64 (s.fl).1) ∧ ∃ F', Dk w' F' b (N + 1) (s.fl).2 ∧ Step F F' w w' := by
  have H0 := H
  obtain ⟨gd, cd, mb, T, p, hF, h1, h2, h3, h4, h5⟩ := H
  unfold Ds.fl
  by_cases hu : s.up = false
  · rw [if_pos hu]
    have p' := p
    rw [hu] at p'
    refine (flush_down w b gd s.D.length cd mb s.dn s.fu h1.1 (d5_of p'.cell)).mono ?_
    rintro e w' ⟨rfl, rfl⟩
    exact ⟨rfl, F, H0.more (Nat.le_succ N), Step.refl F _⟩
  · rw [if_neg hu]
    have hup : s.up = true := by simpa using hu
    rw [hup] at p
    by_cases hf : s.fu = 0
    · rw [if_pos hf]
      rw [hf] at p
      refine (flush_out w 0 b N s.D s.W s.dn gd cd mb T ⟨h4.1, by omega⟩ h1.1 p).mono ?_
      rintro e w' ⟨rfl, hg, p'⟩
      refine ⟨rfl, F, Dk.more ⟨gd, cd, mb, T, ?_, hF, h1, h2, h3, h4, h5⟩ (Nat.le_succ N), Step.of hg H0.b⟩
      show DkP w' 0 b N s.D s.W false s.dn s.fu gd cd mb T
      rw [hf]
      exact p'
    · rw [if_neg hf]
      refine (flush_is w 0 b N s.D s.W s.dn s.fu gd cd mb T h5 hf ⟨h4.1, by omega⟩ h1 p (fun i => by have := h2 i; omega) h3).mono ?_
      rintro e w' ⟨rfl, ho, p'⟩
      refine ⟨rfl, Fp b gd mb (fun _ => none), ⟨gd, cd, mb, _, ⟨p'.hb, p'.hm, p'.cell, p'.dur, p'.is64, p'.mp.mono (Nat.le_succ N), p'.nil, p'.row, p'.apart⟩, fun _ => Iff.rfl, by show 1 ≤ (flD s.D s.W).length ∧ (flD s.D s.W).length ≤ 4096; rw [flD_len]; exact h1, fun i => Nat.zero_le _, fun i hi => absurd rfl hi, ⟨by show 0 ≤ s.dn + 1; omega, by show s.dn + 1 ≤ ((N + 1 : Nat) : Int); omega⟩, lessF_le h5⟩, ⟨⟨ho.os, ho.tape, ho.output, ho.size, fun k hk hn => ho.block k hk (fun e => hn ((hF k).2 e))⟩, fun k hk => .inl ((hF k).2 ?_)⟩⟩
      rcases hk with e | e | e | ⟨j, x, hx, e⟩
      · exact .inl e
      · exact .inr (.inl e)
      · exact .inr (.inr (.inl e))
      · cases hx
theorem dk_crash (w : World) (F : Nat → Prop) (b N : Nat) (s : Ds) (H : Dk w F b N s) (hN : N ≤ 1000000) (ka : Option Addr) (kl kc : Nat) (keep : List Int) (hkl : keep.length = kl) (hin : InK w ka keep) (hkb : ∀ x, ka = some x → keep ≠ [] → ¬ F x.block) :
    Calls Tryz.prog 21 #[.pointer (some ⟨b, 0, none⟩), .slice ka kl kc] w fun e w' => e = .returned (.int .i64 0) ∧ ∃ F', Dk w' F' b N (s.cr keep) ∧ Step F F' w w' := by
  have H0 := H
  obtain ⟨gd, cd, mb, T, p, hF, h1, h2, h3, h4, h5⟩ := H
  refine (crash_is w 0 b N s.D s.W s.up s.dn s.fu gd cd mb T h1 p (by omega) (fun i => by have := h2 i; omega) h3 ka kl kc keep hkl hin (fun x hx hk hf => hkb x hx hk ((hF _).2 hf))).mono ?_
  rintro e w' ⟨rfl, ho, p'⟩
  refine ⟨rfl, Fp b gd mb (fun _ => none), ⟨gd, cd, mb, _, p', fun _ => Iff.rfl, by show 1 ≤ (crD keep s.D s.W).length ∧ (crD keep s.D s.W).length ≤ 4096; unfold crD; rw [crs_len]; exact h1, fun i => Nat.zero_le _, fun i hi => absurd rfl hi, h4, by show (-1 : Int) ≤ _; omega⟩, ⟨⟨ho.os, ho.tape, ho.output, ho.size, fun k hk hn => ho.block k hk (fun e => hn ((hF k).2 e))⟩, fun k hk => .inl ((hF k).2 ?_)⟩⟩
  rcases hk with e | e | e | ⟨j, x, hx, e⟩
  · exact .inl e
  · exact .inr (.inl e)
  · exact .inr (.inr (.inl e))
  · cases hx
theorem dk_fuse (w : World) (F : Nat → Prop) (b N : Nat) (s : Ds) (H : Dk w F b N s) (k : Int) (hk : k ≤ 9223372036854775807) :
    Calls Tryz.prog 19 #[.pointer (some ⟨b, 0, none⟩), .int .i64 k] w fun e w' => e = .returned (.int .i64 (s.fs k).1) ∧ Dk w' F b N (s.fs k).2 ∧ Step F F w w' := by
  have H0 := H
  obtain ⟨gd, cd, mb, T, p, hF, h1, h2, h3, h4, h5⟩ := H
  refine (fuse_is w 0 b N s.D s.W s.up s.dn s.fu k gd cd mb T h1.1 p).mono ?_
  rintro e w' ⟨rfl, hg, p'⟩
  exact ⟨rfl, ⟨gd, cd, mb, T, p', hF, h1, h2, h3, h4, by show (if s.up = true ∧ 0 ≤ k then k else s.fu) ≤ _; split <;> assumption⟩, Step.of hg H0.b⟩
theorem dk_up (w : World) (F : Nat → Prop) (b N : Nat) (s : Ds) (H : Dk w F b N s) : Calls Tryz.prog 34 #[.pointer (some ⟨b, 0, none⟩)] w fun e w' => e = .returned (.bool s.up) ∧ w' = w := by
  obtain ⟨gd, cd, mb, T, p, hF, h1, h2, h3, h4, h5⟩ := H
  exact up_is w b gd s.D.length cd mb s.up s.dn s.fu h1.1 (d5_of p.cell)
theorem dk_blocks (w : World) (F : Nat → Prop) (b N : Nat) (s : Ds) (H : Dk w F b N s) : Calls Tryz.prog 70 #[.pointer (some ⟨b, 0, none⟩)] w fun e w' => e = .returned (.int .i64 (s.D.length : Int)) ∧ w' = w := by
  obtain ⟨gd, cd, mb, T, p, hF, h1, h2, h3, h4, h5⟩ := H
  exact blocks_is w b gd s.D.length cd mb s.up s.dn s.fu h1.1 (d5_of p.cell)
theorem dk_done (w : World) (F : Nat → Prop) (b N : Nat) (s : Ds) (H : Dk w F b N s) : Calls Tryz.prog 57 #[.pointer (some ⟨b, 0, none⟩)] w fun e w' => e = .returned (.int .i64 s.dn) ∧ w' = w := by
  obtain ⟨gd, cd, mb, T, p, hF, h1, h2, h3, h4, h5⟩ := H
  exact done_is w b gd s.D.length cd mb s.up s.dn s.fu h1.1 (d5_of p.cell)
theorem dk_image (w : World) (F : Nat → Prop) (b N : Nat) (s : Ds) (H : Dk w F b N s) : Calls Tryz.prog 56 #[.pointer (some ⟨b, 0, none⟩)] w fun e w' => ∃ go V, e = .returned (.slice (some ⟨go, 0, none⟩) s.D.length s.D.length) ∧ V.length = s.D.length ∧ Img w' w.heap.size go s.D.length V s.D ∧ Below w.heap.size w w' := by
  obtain ⟨gd, cd, mb, T, p, hF, h1, h2, h3, h4, h5⟩ := H
  exact image_is w 0 b N s.D s.W s.up s.dn s.fu gd cd mb T h1 p
theorem dk_waiting (w : World) (F : Nat → Prop) (b N : Nat) (s : Ds) (H : Dk w F b N s) (hN : N ≤ 1000000) : Calls Tryz.prog 52 #[.pointer (some ⟨b, 0, none⟩)] w fun e w' => ∃ g c, e = .returned (.slice (some ⟨g, 0, none⟩) (wa s.D.length s.W).length c) ∧ InW w' (some ⟨g, 0, none⟩) (wa s.D.length s.W) ∧ w.heap.size ≤ g ∧ Below w.heap.size w w' := by
  obtain ⟨gd, cd, mb, T, p, hF, h1, h2, h3, h4, h5⟩ := H
  refine (waiting_is w 0 b N s.D s.W s.up s.dn s.fu gd cd mb T h1.1 p (by omega) h3).mono ?_
  rintro e w' ⟨g, c, rfl, hin, hg, hgr⟩
  exact ⟨g, c, rfl, hin, hg, grown_none_below hgr⟩
theorem dk_read (w : World) (F : Nat → Prop) (b N : Nat) (s : Ds) (H : Dk w F b N s) (hN : N ≤ 1000000) (i : Int) : Calls Tryz.prog 102 #[.pointer (some ⟨b, 0, none⟩), .int .i64 i] w fun e w' => ∃ a n c, e = .returned (.tuple #[.slice a n c, .int .i64 (s.rd i).2]) ∧ (s.rd i).1.length = n ∧ Owned w' w.heap.size (.slice a n c) (s.rd i).1 ∧ Below w.heap.size w w' := by
  obtain ⟨gd, cd, mb, T, p, hF, h1, h2, h3, h4, h5⟩ := H
  unfold Ds.rd
  by_cases hr : rdyAt s.up s.D.length i = 0
  · rw [if_neg (by simpa using hr)]
    have hup : s.up = true := by
      cases hu : s.up
      · rw [hu] at hr; simp [rdyAt] at hr
      · rfl
    have hi : 0 ≤ i ∧ i < s.D.length := by
      rw [hup] at hr
      simp only [rdyAt, if_true] at hr
      by_cases hc : 0 ≤ i ∧ i < s.D.length
      · exact hc
      · rw [if_neg hc] at hr; cases hr
    rw [hup] at p
    obtain ⟨k, rfl⟩ := Int.eq_ofNat_of_zero_le hi.1
    have hk : s.D[k]? = some (s.D[k]'(by omega)) := List.getElem?_eq_getElem (by omega)
    refine (dkread_is w 0 b N s.D s.W s.dn s.fu gd cd mb T h1 p k _ hk (by have := h2 (k : Int); omega)).mono ?_
    rintro e w' ⟨g', c', rfl, ho, hb⟩
    have e1 : (s.D[(k : Int).toNat]?).getD [] = s.D[k]'(by omega) := by rw [Int.toNat_natCast, hk]; rfl
    rw [e1]
    have e2 : (lastOf (s.W (k : Int)) (s.D[k]'(by omega))).length = 64 := by
      rcases lastOf_mem (s.W (k : Int)) (s.D[k]'(by omega)) with e | e
      · rw [e]; exact (p.is64 _ (List.getElem_mem _)).1
      · exact ((p.writes _).2 _ e).1
    exact ⟨_, _, _, rfl, e2, ho, hb⟩
  · rw [if_pos hr]
    refine (read_ref w b gd s.D.length cd mb s.up s.dn s.fu h1.1 (d5_of p.cell) i hr).mono ?_
    rintro e w' ⟨rfl, rfl⟩
    exact ⟨none, 0, 0, rfl, rfl, World.ownsRow_nil _ _ _ _, Below.refl _ _⟩
end Go.Proofs.YtcindeechmpalaaGreat
namespace Go.Proofs.YtcindeechmpalaaGreat
open Go.ChangeShapes Go.WideShapes Go.ChangeAt Go.RowKit Go.Deep Go.Maps
set_option linter.unusedVariables false
/-- a write (a block and its bytes), or a flush -/
def Ds.op (s : Ds) (o : Option (Nat × List Int)) : Int × Ds := match o with | some p => s.wr (p.1 : Int) p.2 | none => s.fl
/-- one behind the other, up to the first that is refused -/
def Ds.run : Ds → List (Option (Nat × List Int)) → Int × Ds
  | s, [] => (0, s)
  | s, o :: r => if (s.op o).1 ≠ 0 then s.op o else Ds.run (s.op o).2 r
theorem Ds.run_cons (s : Ds) (o : Option (Nat × List Int)) (r : List (Option (Nat × List Int))) : s.run (o :: r) = if (s.op o).1 ≠ 0 then s.op o else (s.op o).2.run r := rfl
theorem Ds.run_app (s : Ds) (A B : List (Option (Nat × List Int))) : s.run (A ++ B) = if (s.run A).1 ≠ 0 then s.run A else (s.run A).2.run B := by
  induction A generalizing s with
  | nil => simp [Ds.run]
  | cons o r ih =>
    rw [List.cons_append, Ds.run_cons, Ds.run_cons]
    by_cases h : (s.op o).1 ≠ 0
    · rw [if_pos h, if_pos h, if_pos h]
    · rw [if_neg h, if_neg h, ih]
def pad64 (C : List Int) : List Int := C ++ List.replicate (64 - C.length) 0
theorem pad64_len {C : List Int} (h : C.length ≤ 64) : (pad64 C).length = 64 := by simp [pad64]; omega
theorem pad64_bytes {C : List Int} (h : IsBytes C) : IsBytes (pad64 C) := bytes_app h (zeros_bytes _)
/-- the writes that lay bytes from a block on -/
def wopsF : Nat → Nat → List Int → List (Option (Nat × List Int))
  | 0, _, _ => []
  | f + 1, at_, B => if B = [] then [] else some (at_, pad64 (B.take 64)) :: wopsF f (at_ + 1) (B.drop 64)
def wops (at_ : Nat) (B : List Int) : List (Option (Nat × List Int)) := wopsF B.length at_ B
theorem wopsF_nil (f at_ : Nat) : wopsF f at_ [] = [] := by cases f <;> simp [wopsF]
theorem wopsF_cons (f at_ : Nat) (B : List Int) (h : B ≠ []) : wopsF (f + 1) at_ B = some (at_, pad64 (B.take 64)) :: wopsF f (at_ + 1) (B.drop 64) := by simp [wopsF, h]
theorem wopsF_fuel : ∀ (f g at_ : Nat) (B : List Int), B.length ≤ f → B.length ≤ g → wopsF f at_ B = wopsF g at_ B
  | 0, g, at_, B, hf, hg => by
    have : B = [] := List.length_eq_zero_iff.1 (by omega)
    subst this
    rw [wopsF_nil, wopsF_nil]
  | f + 1, 0, at_, B, hf, hg => by
    have : B = [] := List.length_eq_zero_iff.1 (by omega)
    subst this
    rw [wopsF_nil, wopsF_nil]
  | f + 1, g + 1, at_, B, hf, hg => by
    by_cases h : B = []
    · subst h
      rw [wopsF_nil, wopsF_nil]
    · rw [wopsF_cons _ _ _ h, wopsF_cons _ _ _ h, wopsF_fuel f g]
      · simp; omega
      · simp; omega
theorem wops_nil (at_ : Nat) : wops at_ [] = [] := rfl
theorem wops_cons (at_ : Nat) (B : List Int) (h : B ≠ []) : wops at_ B = some (at_, pad64 (B.take 64)) :: wops (at_ + 1) (B.drop 64) := by
  have hl : 0 < B.length := List.length_pos_iff.2 h
  unfold wops
  obtain ⟨n, hn⟩ : ∃ n, B.length = n + 1 := ⟨B.length - 1, by omega⟩
  rw [hn, wopsF_cons _ _ _ h]
  congr 1
  exact wopsF_fuel _ _ _ _ (by simp; omega) (by simp)
/-- what was written last of a block, or is durable -/
def Ds.cur (s : Ds) (i : Nat) : List Int := lastOf (s.W (i : Int)) (s.D[i]?.getD [])
/-- blocks one behind the other -/
def Ds.cat (s : Ds) : Nat → Nat → List Int
  | _, 0 => []
  | i, k + 1 => s.cur i ++ s.cat (i + 1) k
theorem Ds.cat_snoc (s : Ds) : ∀ (k i : Nat), s.cat i (k + 1) = s.cat i k ++ s.cur (i + k)
  | 0, i => by simp [Ds.cat]
  | k + 1, i => by
    rw [Ds.cat, Ds.cat_snoc s k (i + 1), Ds.cat, List.append_assoc]
    congr 3
    omega
theorem Ds.rd_up (s : Ds) (hu : s.up = true) (i : Nat) (hi : i < s.D.length) : s.rd (i : Int) = (s.cur i, 0) := by
  unfold Ds.rd
  rw [if_neg (by rw [hu]; simp [rdyAt]; omega)]
  rfl
theorem Ds.rd_down (s : Ds) (hu : s.up = false) (i : Int) : s.rd i = ([], 15) := by
  unfold Ds.rd
  rw [if_pos (by rw [hu]; simp [rdyAt])]
  simp [hu, rdyAt]
theorem cur_64 {w : World} {F : Nat → Prop} {b N : Nat} {s : Ds} (H : Dk w F b N s) (i : Nat) (hi : i < s.D.length) : (s.cur i).length = 64 ∧ IsBytes (s.cur i) := by
  obtain ⟨h1, h2, _⟩ := H.is64
  unfold Ds.cur
  rw [List.getElem?_eq_getElem hi, Option.getD_some]
  rcases lastOf_mem (s.W (i : Int)) s.D[i] with e | e
  · rw [e]; exact h1 _ (List.getElem_mem hi)
  · exact h2 _ _ e
theorem cat_64 {w : World} {F : Nat → Prop} {b N : Nat} {s : Ds} (H : Dk w F b N s) : ∀ (k i : Nat), i + k ≤ s.D.length → (s.cat i k).length = 64 * k ∧ IsBytes (s.cat i k)
  | 0, i, _ => ⟨rfl, bytes_nil⟩
  | k + 1, i, h => by
    have h1 := cur_64 H i (by omega)
    have h2 := cat_64 H k (i + 1) (by omega)
    rw [Ds.cat]
    exact ⟨by rw [List.length_append, h1.1, h2.1]; omega, bytes_app h1.2 h2.2⟩
theorem zeroCells8 (k : Nat) : Builtin.zeroCells (Value.int .u8 0).cells k = ((List.replicate k (0 : Int)).map (Value.int .u8)).toArray := by
  apply Array.ext_getElem?
  intro i
  by_cases h : i < k <;> simp [Builtin.zeroCells, Value.cells, Nat.mod_one, h]
/-- append(b, make([]byte, k)...) of a slice that is full, at the operation -/
theorem appZ {w : World} {o : Oper} {act : Act} {K : Act → World → Prop} {Q : Exit → Act → World → Prop} (s x : Operand)
    (ho : o.op = .call { callee := .builtin .append, args := #[s, x], argTypes := #[86, 3] })
    (ad : Addr) (n k : Nat) (L : List Int) (hs : act.eval s = .slice (some ad) n n) (hx : act.eval x = .int .i64 (k : Int)) (hL : L.length = n) (hh : Holds w (some ad) L) (hk : n + k = 64) (hn : 0 < n)
    (h : ∀ a' c' w', Holds w' (some a') (L ++ List.replicate k 0) → Below w.heap.size w w' → (a' = ad ∨ (w.heap.size ≤ a'.block ∧ a'.block < w'.heap.size)) → K (act.put o.dst (.slice (some a') 64 c')) w') : o.wp Tryz.prog act w K Q := by
  obtain ⟨i, hi, hz, h1, h2⟩ := info8p
  obtain ⟨b, off, had, hc⟩ : ∃ b off, some ad = some ⟨b, off, none⟩ ∧ ∀ i, i < L.length → w.cell? ⟨b, off + i, none⟩ = some (.int .u8 (L.getD i 0)) := by
    rcases hh with rfl | h
    · simp at hL; omega
    · exact h
  obtain rfl := Option.some.inj had
  by_cases h0 : k = 0
  · subst h0
    have hr : (Builtin.append_ #[86, 3] o.type #[.slice (some ⟨b, off, none⟩) n n, .int .i64 ((0 : Nat) : Int)]).run Tryz.prog w = .ok (.slice (some ⟨b, off, none⟩) n n) w := by
      have hw : IntKind.i64.wrap 0 = 0 := by decide
      simp [Builtin.append_, run_underlying Tryz.underlying86, run_underlying Tryz.underlying3, sizeOf, typeInfo, hi, asInt, asIntOf, storeCells, hw]
    refine Lib.wp_append_run w s x 86 3 ho _ _ hs hx _ _ hr ?_
    have hn64 : n = 64 := by omega
    subst hn64
    exact h _ _ _ (by simpa using hh) (Below.refl _ _) (.inl rfl)
  · have hold : (Builtin.firstCells i.size n (.slice (some ⟨b, off, none⟩) n n)).run Tryz.prog w.drew = .ok (L.map (Value.int .u8)).toArray w.drew := by
      rw [h1]
      exact run_firstCells_some (P := Tryz.prog) w.drew 1 n _ n n (L.map (Value.int .u8)) (by simp [hL]) (fun j u hj => by
        rw [List.getElem?_map] at hj
        cases hv : L[j]? with
        | none => rw [hv] at hj; cases hj
        | some y =>
          rw [hv] at hj
          obtain rfl := Option.some.inj hj
          have hlt := (List.getElem?_eq_some_iff.1 hv).1
          show w.cell? _ = _
          rw [add_plain, hc j hlt, List.getD_eq_getElem?_getD, hv]
          rfl)
    have hcap : Builtin.nextslicecap (n + k) n ≤ 128 := by
      unfold Builtin.nextslicecap
      split
      · omega
      · split <;> omega
    have hr := Lib.run_append_grow_zeros (P := Tryz.prog) w 86 3 o.type 5 i (.int .u8 0) .i64 .i64 Tryz.underlying86 Tryz.underlying3 hi hz (some ⟨b, off, none⟩) n n (L.map (Value.int .u8)) hold k (by omega) (by omega) (by omega) (by omega) (by rw [h2]; omega) (by rw [h2]; omega)
    refine Lib.wp_append_run w s x 86 3 ho _ _ hs hx _ _ hr ?_
    rw [hk]
    refine h _ _ _ ?_ ((below_drewN (Below.refl w.heap.size w) 1).alloc (Nat.le_refl _) _) (.inr ⟨Nat.le_refl _, by simp⟩)
    refine .inr ⟨w.heap.size, 0, rfl, fun j hj => ?_⟩
    have hl64 : (L ++ List.replicate k (0 : Int)).length = 64 := by simp; omega
    rw [Nat.zero_add, cell_of_row _ w.heap.size j _ _ (0, 0) (heap_alloc_new w.drew _), zeroCells8 k]
    have e : (L.map (Value.int .u8)).toArray ++ ((List.replicate k (0 : Int)).map (Value.int .u8)).toArray = ((L ++ List.replicate k (0 : Int)).map (Value.int .u8)).toArray := by simp
    rw [e, Array.getElem?_append_left (by simpa using hj), List.getElem?_toArray, List.getElem?_map, List.getElem?_eq_getElem hj, List.getD_eq_getElem?_getD, List.getElem?_eq_getElem hj]
    rfl
end Go.Proofs.YtcindeechmpalaaGreat
namespace Go.Proofs.YtcindeechmpalaaGreat
open Go.ChangeShapes Go.WideShapes Go.ChangeAt Go.RowKit Go.Deep Go.Maps
set_option linter.unusedVariables false
theorem wread_down (w : World) (F : Nat → Prop) (bd N : Nat) (s : Ds) (H : Dk w F bd N s) (hN : N ≤ 1000000) (hu : s.up = false) (bl m ar : Nat) (hm : m ≤ 4096) (ha : ar ≤ 1)
    (c0 : w.cell? ⟨bl, 0, none⟩ = some (.pointer (some ⟨bd, 0, none⟩))) (c1 : w.cell? ⟨bl, 1, none⟩ = some (.int .i64 (m : Int))) (c3 : w.cell? ⟨bl, 3, none⟩ = some (.int .i64 (ar : Int)))
    (fr n : Nat) (hf : fr ≤ 1000000) (hn : n ≤ 1000000) (h0 : 0 < n) :
    Calls Tryz.prog 111 #[.pointer (some ⟨bl, 0, none⟩), .int .i64 (fr : Int), .int .i64 (n : Int)] w fun e w' => e = .returned (.tuple #[.slice none 0 0, .int .i64 15]) ∧ Below w.heap.size w w' := by
  have KS : Hid (Calls Tryz.prog 116 #[.pointer (some ⟨bl, 0, none⟩), .int .i64 (ar : Int)] w fun e w' => e = .returned (.int .i64 ((2 + ar * m : Nat) : Int)) ∧ w' = w) := wstart_is w bl m hm c1 ar ha
  have hsm : 2 + ar * m ≤ 5000 := by rcases (by omega : ar = 0 ∨ ar = 1) with rfl | rfl <;> omega
  have KR : Hid (∀ i : Int, Calls Tryz.prog 102 #[.pointer (some ⟨bd, 0, none⟩), .int .i64 i] w fun e w' => ∃ a n c, e = .returned (.tuple #[.slice a n c, .int .i64 15]) ∧ Below w.heap.size w w') := fun i => by
    refine (dk_read w F bd N s H hN i).mono ?_
    rintro e w' ⟨a, n, c, he, _, _, hb⟩
    rw [Ds.rd_down s hu] at he
    exact ⟨a, n, c, he, hb⟩
  generalize 2 + ar * m = st at *
  have e1 : (0 : Int) < (n : Int) := by omega
  clear c1
  go_enter Tryz.func111, Tryz.ntmps111
  go_wp2_with fail
  refine KS.out.mono ?_
  rintro e w1 ⟨rfl, rfl⟩
  go_wp2_with fail
  go_loopg [8, 9] 1 (fun g v i wr => v = .slice none 0 0 ∧ i = .int .i64 ((st : Int) + fr) ∧ wr = w1)
  case atStart => exact ⟨rfl, rfl, rfl⟩
  case round =>
    obtain ⟨rfl, rfl, rfl⟩ := hrel
    go_wp2_with fail
    refine (KR.out _).mono ?_
    rintro e w2 ⟨a, n', c, rfl, hb⟩
    have HB : Hid (Below wr.heap.size wr w2) := hb
    clear hb
    go_wp2_with fail
    go_ret2
    exact ⟨rfl, HB.out⟩
theorem wread_zero (w : World) (F : Nat → Prop) (bd N : Nat) (s : Ds) (H : Dk w F bd N s) (bl m ar : Nat) (hm : m ≤ 4096) (ha : ar ≤ 1)
    (c0 : w.cell? ⟨bl, 0, none⟩ = some (.pointer (some ⟨bd, 0, none⟩))) (c1 : w.cell? ⟨bl, 1, none⟩ = some (.int .i64 (m : Int))) (c3 : w.cell? ⟨bl, 3, none⟩ = some (.int .i64 (ar : Int))) (fr : Nat) (hf : fr ≤ 1000000) :
    Calls Tryz.prog 111 #[.pointer (some ⟨bl, 0, none⟩), .int .i64 (fr : Int), .int .i64 ((0 : Nat) : Int)] w fun e w' => e = .returned (.tuple #[.slice none 0 0, .int .i64 0]) ∧ Below w.heap.size w w' := by
  have KS : Hid (Calls Tryz.prog 116 #[.pointer (some ⟨bl, 0, none⟩), .int .i64 (ar : Int)] w fun e w' => e = .returned (.int .i64 ((2 + ar * m : Nat) : Int)) ∧ w' = w) := wstart_is w bl m hm c1 ar ha
  have hsm : 2 + ar * m ≤ 5000 := by rcases (by omega : ar = 0 ∨ ar = 1) with rfl | rfl <;> omega
  generalize 2 + ar * m = st at *
  clear c1
  go_enter Tryz.func111, Tryz.ntmps111
  go_wp2_with fail
  refine KS.out.mono ?_
  rintro e w1 ⟨rfl, rfl⟩
  go_wp2_with fail
  go_loopg [8, 9] 1 (fun g v i wr => v = .slice none 0 0 ∧ i = .int .i64 ((st : Int) + fr) ∧ wr = w1)
  case atStart => exact ⟨rfl, rfl, rfl⟩
  case round =>
    obtain ⟨rfl, rfl, rfl⟩ := hrel
    go_wp2_with fail
    go_ret2
    exact ⟨rfl, Below.refl _ _⟩
set_option maxHeartbeats 1000000 in
theorem wread_is (w : World) (F : Nat → Prop) (bd N : Nat) (s : Ds) (H : Dk w F bd N s) (hN : N ≤ 1000000) (hu : s.up = true) (bl m ar : Nat) (hm : m ≤ 4096) (ha : ar ≤ 1)
    (c0 : w.cell? ⟨bl, 0, none⟩ = some (.pointer (some ⟨bd, 0, none⟩))) (c1 : w.cell? ⟨bl, 1, none⟩ = some (.int .i64 (m : Int))) (c3 : w.cell? ⟨bl, 3, none⟩ = some (.int .i64 (ar : Int)))
    (fr n : Nat) (hn : n ≤ 1000000) (hfit : 2 + ar * m + fr + (n + 63) / 64 ≤ s.D.length) :
    Calls Tryz.prog 111 #[.pointer (some ⟨bl, 0, none⟩), .int .i64 (fr : Int), .int .i64 (n : Int)] w fun e w' => ∃ a, e = .returned (.tuple #[.slice a n n, .int .i64 0]) ∧ Holds w' a ((s.cat (2 + ar * m + fr) ((n + 63) / 64)).take n) ∧ (a = none → n = 0) ∧ (∀ x, a = some x → w.heap.size ≤ x.block ∧ x.block < w'.heap.size) ∧ Below w.heap.size w w' := by
  have KS : Hid (Calls Tryz.prog 116 #[.pointer (some ⟨bl, 0, none⟩), .int .i64 (ar : Int)] w fun e w' => e = .returned (.int .i64 ((2 + ar * m : Nat) : Int)) ∧ w' = w) := wstart_is w bl m hm c1 ar ha
  have hD := H.is64.2.2
  have hsm : 2 + ar * m ≤ 5000 := by rcases (by omega : ar = 0 ∨ ar = 1) with rfl | rfl <;> omega
  have HD : Hid (Dk w F bd N s) := H
  have hbl := World.block_lt_of_cell? _ _ c0
  generalize 2 + ar * m = st at *
  obtain ⟨q, hq⟩ : ∃ q, q = (n + 63) / 64 := ⟨_, rfl⟩
  have HQ : Hid (q = (n + 63) / 64) := hq
  have KR : Hid (∀ (wr : World) (j : Nat), j < q → Below w.heap.size w wr → Calls Tryz.prog 102 #[.pointer (some ⟨bd, 0, none⟩), .int .i64 ((st : Int) + fr + j)] wr fun e w' => ∃ a c, e = .returned (.tuple #[.slice a 64 c, .int .i64 0]) ∧ Owned w' wr.heap.size (.slice a 64 c) (s.cur (st + fr + j)) ∧ Below wr.heap.size wr w') := fun wr j hj hb => by
    have hi : st + fr + j < s.D.length := by omega
    have e : ((st : Int) + fr + j) = ((st + fr + j : Nat) : Int) := by omega
    rw [e]
    refine (dk_read wr F bd N s (H.keep hb) hN _).mono ?_
    rintro e w' ⟨a, n, c, he, hl, ho, hb⟩
    rw [Ds.rd_up s hu _ hi] at he hl ho
    obtain rfl : 64 = n := (cur_64 H _ hi).1.symm.trans hl
    exact ⟨a, c, he, ho, hb⟩
  have CL : Hid (∀ j, j ≤ q → (s.cat (st + fr) j).length = 64 * j) := fun j hj => (cat_64 H j (st + fr) (by omega)).1
  have hq1 : q ≤ 15626 := by omega
  have HW : Hid (w.cell? ⟨bl, 0, none⟩ = some (.pointer (some ⟨bd, 0, none⟩))) := c0
  rw [← hq]
  clear hq c1 H c0
  obtain ⟨h, hh⟩ : ∃ h, h = w.heap.size := ⟨_, rfl⟩
  have HH : Hid (h = w.heap.size) := hh
  clear hh
  have c0 := HW.out
  go_enter Tryz.func111, Tryz.ntmps111
  go_wp2_with fail
  refine KS.out.mono ?_
  rintro e w1 ⟨rfl, rfl⟩
  clear c0 c3 KS
  go_wp2_with fail
  go_loopg [8, 9] (q + 1) (fun g v i wr => ∃ (j : Nat) (a : Option Addr) (c : Nat), j ≤ q ∧ g = q + 1 - j ∧ v = .slice a (64 * j) c ∧ i = .int .i64 ((st : Int) + fr + j) ∧ Hid (Owned wr h v (s.cat (st + fr) j)) ∧ Hid (Below h w1 wr))
  case atStart => exact ⟨0, none, 0, Nat.zero_le _, rfl, rfl, by simp, World.ownsRow_nil _ _ _ _, Below.refl _ _⟩
  case round =>
    obtain ⟨j, a, c, hj, rfl, rfl, rfl, HO, HB⟩ := hrel
    have hsz := HB.out.size
    have HBw : Hid (Below w1.heap.size w1 wr) := by show Below _ _ _; rw [← HH.out]; exact HB.out
    by_cases hlt : 64 * j < n
    · have hjq : j < q := by have := HQ.out; omega
      have i1 : (64 * (j : Int)) < (n : Int) := by omega
      have c0 : wr.cell? ⟨bl, 0, none⟩ = some (.pointer (some ⟨bd, 0, none⟩)) := (HBw.out.cell (p := ⟨bl, 0, none⟩) hbl).trans HW.out
      have K := KR.out wr j hjq HBw.out
      have K2 : Hid (Calls Tryz.prog 102 #[.pointer (some ⟨bd, 0, none⟩), .int .i64 ((st : Int) + fr + j)] wr fun e w' => ∃ a c, e = .returned (.tuple #[.slice a 64 c, .int .i64 0]) ∧ Owned w' wr.heap.size (.slice a 64 c) (s.cur (st + fr + j)) ∧ Below wr.heap.size wr w') := K
      clear K
      go_wp2_with fail
      refine K2.out.mono ?_
      rintro e w2 ⟨a2, c2, rfl, ho2, hb2⟩
      have hs2 := hb2.size
      have O1 : Hid (Owned w2 h (.slice a (64 * j) c) (s.cat (st + fr) j)) := HO.out.below hb2 (Owned.lt' HO.out)
      have O2 : Hid (Holds w2 a2 (s.cur (st + fr + j)) ∧ (s.cur (st + fr + j)).length = 64 ∧ (a2 = none → c2 = 0)) := ho2.holds
      have B2 : Hid (Below h w1 w2) := HB.out.trans (hb2.mono (by rw [HH.out]; exact hsz))
      have HC : Hid (s.cat (st + fr) (j + 1) = s.cat (st + fr) j ++ s.cur (st + fr + j)) := Ds.cat_snoc s j (st + fr)
      have hl1 := CL.out j hj
      have HL1 : Hid ((s.cat (st + fr) j).length = 64 * j) := hl1
      have hhw : h ≤ w2.heap.size := by rw [HH.out]; omega
      clear ho2 hb2 HO HB HBw K2 hl1 c0
      go_wp2_with (at_builtin; refine append_bytes rfl (.tmp 39) (.tmp 40) rfl h _ (s.cat (st + fr) j) rfl O1.out _ _ _ (s.cur (st + fr + j)) rfl O2.out.2.1 O2.out.1 O2.out.2.2 (64 * (j + 1)) (by rw [HL1.out]; omega) (by omega) hhw ?_; intro a3 c3 w3 hown3 hbel3; have O3 : Hid (Owned w3 h (.slice a3 (64 * (j + 1)) c3) (s.cat (st + fr) (j + 1))) := (by rw [HC.out]; exact hown3); have B3 : Hid (Below h w1 w3) := (B2.out.trans hbel3); clear hown3 hbel3)
      go_roundg (q + 1 - (j + 1))
      case measure => omega
      case rel => exact ⟨j + 1, a3, c3, by omega, rfl, rfl, by go_num, O3, B3⟩
    · have hjq : j = q := by have := HQ.out; omega
      subst hjq
      have i1 : ¬ (64 * (j : Int)) < (n : Int) := by omega
      have hcap := HO.out.cap
      have hlt' := Owned.lt_size HO.out
      have HO2 := HO.out.holds
      have hblk := Owned.block HO.out
      have j1 : (0 : Int) ≤ (n : Int) := by omega
      have j2 : (n : Int) ≤ (c : Int) := by have := HQ.out; omega
      have j3 : n ≤ c := by omega
      go_wp2_with fail
      go_ret2
      exact ⟨a, rfl, HO2.1.take n, fun e => by have := HO2.2.2 e; omega, fun x e => ⟨by rw [← HH.out]; exact hblk x.block (by rw [e]; rfl), hlt' x e⟩, by rw [← HH.out]; exact HB.out⟩
end Go.Proofs.YtcindeechmpalaaGreat
namespace Go.Proofs.YtcindeechmpalaaGreat
open Go.ChangeShapes Go.WideShapes Go.ChangeAt Go.RowKit Go.Deep
set_option linter.unusedVariables false
/-- All's answer of bytes -/
def AllSaid (w : World) (n : Nat) (L : List Int) (e : Ending) (w' : World) : Prop :=
  ∃ v vs, e = .returned (.tuple #[v, .int .i64 (al n L).2.1, .int .i64 (al n L).2.2]) ∧ Rows2 w' w.heap.size v vs ∧ Bods w' w.heap.size vs (al n L).1 w'.heap.size ∧ Below w.heap.size w w'
theorem drop_ne (L : List Int) (p : Nat) (h : p < L.length) : L.drop p ≠ [] := by
  intro e
  have := congrArg List.length e
  rw [List.length_drop] at this
  simp at this
  omega
set_option maxHeartbeats 1000000 in
theorem all_is (w : World) (n c : Nat) (a : Option Addr) (L : List Int) (hl : L.length = n) (hB : IsBytes L) (hh : Holds w a L) (hlt : ∀ x, a = some x → L ≠ [] → x.block < w.heap.size) (hnc : n ≤ c) (hc : c ≤ 9223372036854775807) (hn : n ≤ 1099511627776) :
    Calls Tryz.prog 132 #[.slice a n c] w (AllSaid w n L) := by
  have HL : Hid (Holds w a L) := hh
  have HT : Hid (∀ x, a = some x → L ≠ [] → x.block < w.heap.size) := hlt
  have HB : Hid (IsBytes L) := hB
  clear hh hlt hB
  go_enter Tryz.func132, Tryz.ntmps132
  go_wp2
  obtain ⟨h, hh⟩ : ∃ h, h = w.heap.size := ⟨_, rfl⟩
  have HH : Hid (h = w.heap.size) := hh
  clear hh
  go_loopg [2, 3] n (fun gh v i wr => ∃ (p f : Nat) (Bs : List (List Int)) (vs : List Value), p ≤ n ∧ n ≤ p + f ∧ gh = n - p ∧ i = .int .i64 p ∧ 8 * Bs.length ≤ p ∧ Hid (Rows2 wr h v vs) ∧ Hid (Bods wr h vs Bs wr.heap.size) ∧ Hid (Below h w wr) ∧ Hid (al n L = (Bs ++ (al f (L.drop p)).1, p + (al f (L.drop p)).2.1, (al f (L.drop p)).2.2)))
  case atStart => exact ⟨0, n, [], [], Nat.zero_le _, by omega, rfl, rfl, by simp, World.ownsRow_nil _ _ _ _, by show h ≤ w.heap.size; rw [HH.out]; exact Nat.le_refl _, Below.refl _ _, by show _ = _; simp⟩
  case round =>
    obtain ⟨p, f, Bs, vs, hp, hf, rfl, rfl, hk, HR, HBo, HBW, HA⟩ := hrel
    by_cases hpn : p < n
    · obtain ⟨b, off, rfl, hcell⟩ : ∃ b off, a = some ⟨b, off, none⟩ ∧ ∀ i, i < L.length → w.cell? ⟨b, off + i, none⟩ = some (.int .u8 (L.getD i 0)) := by
        rcases HL.out with rfl | g
        · simp at hl; omega
        · exact g
      clear hcell
      have i1 : ((p : Int) < (n : Int)) := by omega
      have i2 : ¬ c = p := by omega
      have hbw : b < w.heap.size := HT.out _ rfl (fun e => by subst e; simp at hl; omega)
      have hsz := HBW.out.size
      have HP : Hid (Holds wr (some ⟨b, off + p, none⟩) (L.drop p)) := by
        have h1 := (HL.out.below (show Below w.heap.size w wr by rw [← HH.out]; exact HBW.out) HT.out).drop p
        show Holds _ _ _
        simpa [add_plain] using h1
      have hld : (L.drop p).length = n - p := by rw [List.length_drop, hl]
      have hbd : IsBytes (L.drop p) := bytes_of_mem fun x hx => bytes_mem HB.out x (List.mem_of_mem_drop hx)
      have KR : Hid (Calls Tryz.prog 163 #[.slice (some ⟨b, off + p, none⟩) (n - p) (c - p)] wr (ReadSaid wr (L.drop p))) :=
        read_is wr (n - p) (c - p) _ (L.drop p) hld hbd HP.out (fun x hx _ => by simp at hx; subst hx; show b < _; omega) (by omega) (by omega) (by omega)
      have hne : L.drop p ≠ [] := drop_ne L p (by omega)
      obtain ⟨f', rfl⟩ : ∃ f', f = f' + 1 := ⟨f - 1, by omega⟩
      have n1 : ((p : Int)).toNat = p := by omega
      go_wp2_with fail
      refine KR.out.mono ?_
      rintro e w1 ⟨a1, m, rfl, hm, ho1, hb1⟩
      have hs1 := hb1.size
      have B1 : Hid (Below h w w1) := HBW.out.trans (hb1.mono (by rw [HH.out]; exact hsz))
      by_cases he : (rd (L.drop p)).2.2 = 0
      · have hal := HA.out
        rw [al_step f' _ hne he] at hal
        obtain ⟨r1, r2, r3⟩ := rd_ok _ he
        rw [hld] at r2
        have O1 : Hid (Owned w1 wr.heap.size (.slice a1 m m) (rd (L.drop p)).1) := ho1
        have R1 : Hid (Rows2 (w1.alloc (.cells #[.slice a1 m m] 86)) h u2 vs) := (HR.out.below hb1 HR.out.lt).below ((Below.refl w1.heap.size w1).alloc (Nat.le_refl _) _) (fun k hk => Nat.lt_of_lt_of_le (HR.out.lt k hk) hs1)
        have D1 : Hid (Bods w1 h vs Bs wr.heap.size) := HBo.out.below hb1 (Nat.le_refl _)
        have LT1 : Hid (∀ k, Value.ownBlock (.slice a1 m m) = some k → k < w1.heap.size) := Owned.lt' ho1
        rw [List.drop_drop] at hal
        have HAL : Hid (al n L = (Bs ++ (rd (L.drop p)).1 :: (al f' (L.drop (p + (rd (L.drop p)).2.1))).1, p + ((rd (L.drop p)).2.1 + (al f' (L.drop (p + (rd (L.drop p)).2.1))).2.1), (al f' (L.drop (p + (rd (L.drop p)).2.1))).2.2)) := hal
        have HM : Hid ((rd (L.drop p)).1.length = m) := hm
        have C1 : Hid ((w1.alloc (.cells #[.slice a1 m m] 86)).cell? ⟨w1.heap.size, 0, none⟩ = some (.slice a1 m m)) := by
          show _ = _
          rw [cell_of_row _ w1.heap.size 0 _ _ (0, 0) (heap_alloc_new w1 _)]
          rfl
        have hvl : vs.length = Bs.length := HBo.out.len
        have hhw : h ≤ w1.heap.size := by rw [HH.out]; omega
        have hhr : h ≤ wr.heap.size := by rw [HH.out]; omega
        rw [he]
        generalize (rd (L.drop p)).2.1 = k at *
        generalize (rd (L.drop p)).1 = B at *
        clear hal HA ho1 hb1 HR HBo HBW KR hm he hne hbd HP
        go_wp2_with (at_builtin; refine append_row rfl (.tmp 25) (.tmp 27) rfl h _ vs rfl R1.out ⟨w1.heap.size, 0, none⟩ (.slice a1 m m) rfl rfl C1.out (by omega) (by simp; omega) ?_; intro v3 w3 hr3 hb3 hk3; have R3 : Hid (Rows2 w3 h v3 (vs ++ [.slice a1 m m])) := hr3; have B3 : Hid (Below h (w1.alloc (.cells #[.slice a1 m m] 86)) w3) := hb3; have K3 : Hid (∀ g cur, g < (w1.alloc (.cells #[.slice a1 m m] 86)).heap.size → (w1.alloc (.cells #[.slice a1 m m] 86)).heap[g]? = some (.cells cur 5 (0, 0)) → w3.heap[g]? = (w1.alloc (.cells #[.slice a1 m m] 86)).heap[g]?) := hk3; clear hr3 hb3 hk3)
        go_roundg (n - (p + k))
        case measure => omega
        case rel =>
          have al1 : Below w1.heap.size w1 (w1.alloc (.cells #[.slice a1 m m] 86)) := (Below.refl _ _).alloc (Nat.le_refl _) _
          have hs3 := B3.out.size
          have hs1' : (w1.alloc (.cells #[.slice a1 m m] 86)).heap.size = w1.heap.size + 1 := by simp
          have keep : ∀ g cur, g < w1.heap.size → w1.heap[g]? = some (.cells cur 5 (0, 0)) → w3.heap[g]? = w1.heap[g]? := by
            intro g cur hg hgc
            have e1 := al1.block g hg
            rw [K3.out g cur (by omega) (e1.trans hgc), e1]
          have d3 : Bods w3 h vs Bs wr.heap.size := D1.out.same (fun g cur _ g2 hgc => keep g cur (by omega) hgc)
          have o3 : Owned w3 wr.heap.size (.slice a1 m m) B := owned_same O1.out LT1.out (fun g cur _ g2 hgc => keep g cur g2 hgc)
          refine ⟨p + k, f', Bs ++ [B], vs ++ [.slice a1 m m], by omega, by omega, rfl, by go_num, by simp; omega, R3, ?_, ?_, ?_⟩
          · exact d3.snoc (a := a1) (by rw [HM.out]) o3 (fun j hj => Nat.lt_of_lt_of_le (LT1.out j hj) (by omega)) (by omega)
          · exact B1.out.trans ((al1.mono hhw).trans B3.out)
          · show _ = _
            rw [HAL.out]
            simp [Nat.add_assoc]
      · have hal := HA.out
        rw [al_bad f' _ hne he] at hal
        have HAL : Hid (al n L = (Bs ++ [], p + 0, (rd (L.drop p)).2.2)) := hal
        have R1 : Hid (Rows2 w1 h u2 vs) := HR.out.below hb1 HR.out.lt
        have D1 : Hid (Bods w1 h vs Bs w1.heap.size) := by
          have d := HBo.out.below hb1 (Nat.le_refl _)
          exact Bods.weaken hs1 d
        have e9 : (((rd (L.drop p)).2.2 : Nat) : Int) ≠ 0 := by omega
        generalize (rd (L.drop p)).2.2 = E at *
        clear hal HA ho1 hb1 HR HBo HBW KR hm he hne hbd HP
        go_wp2
        go_ret3
        refine ⟨u2, vs, ?_, ?_, ?_, ?_⟩
        · rw [HAL.out]; rfl
        · rw [← HH.out]; exact R1.out
        · rw [HAL.out, ← HH.out, List.append_nil]; exact D1.out
        · rw [← HH.out]; exact B1.out
    · have e : p = n := by omega
      subst e
      have i1 : ¬ ((p : Int) < (p : Int)) := by omega
      have hal := HA.out
      rw [List.drop_of_length_le (by omega), al_nil] at hal
      have HAL : Hid (al p L = (Bs ++ [], p + 0, 0)) := hal
      clear hal HA
      go_wp2
      go_ret3
      refine ⟨u2, vs, ?_, ?_, ?_, ?_⟩
      · rw [HAL.out]; rfl
      · rw [← HH.out]; exact HR.out
      · rw [HAL.out, ← HH.out, List.append_nil]; exact HBo.out
      · rw [← HH.out]; exact HBW.out
end Go.Proofs.YtcindeechmpalaaGreat
