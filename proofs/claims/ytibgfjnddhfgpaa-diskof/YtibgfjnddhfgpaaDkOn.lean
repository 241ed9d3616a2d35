/- One disk, and blocks that are not its. -/
import Derived.Test.YtibgfjnddhfgpaaDkGb
namespace Go.Proofs.Ytibgfjnddhfgpaa
open Go.ChangeShapes Go.WideShapes Go.ChangeAt Go.RowKit Go.Deep Go.Maps
set_option linter.unusedVariables false
/-- the box of an act, whose Long is 0 -/
def bx5 (vk va vn : Int) (u : Value) : Obj := .cells #[.int .i64 vk, .int .i64 va, .int .i64 vn, .int .i64 0, u] 32
theorem bx5_cells {w : World} {B : Nat} {vk va vn : Int} {u : Value} (h : w.heap[B]? = some (bx5 vk va vn u)) : w.cell? ⟨B, 0, none⟩ = some (.int .i64 vk) ∧ w.cell? ⟨B, 1, none⟩ = some (.int .i64 va) ∧ w.cell? ⟨B, 2, none⟩ = some (.int .i64 vn) ∧ w.cell? ⟨B, 3, none⟩ = some (.int .i64 0) ∧ w.cell? ⟨B, 4, none⟩ = some u := by
  refine ⟨?_, ?_, ?_, ?_, ?_⟩ <;> simp [World.cell?, h, bx5]
def One (w wr : World) (P : Nat → Prop) (b N : Nat) (s : Ds) : Prop := ∃ F : Nat → Prop, Dk wr F b N s ∧ (∀ k, F k → w.heap.size ≤ k) ∧ Below w.heap.size w wr ∧ ∀ k, P k → k < wr.heap.size ∧ ¬ F k
theorem One.below {w wr : World} {P : Nat → Prop} {b N : Nat} {s : Ds} (h : One w wr P b N s) : Below w.heap.size w wr := by
  obtain ⟨_, _, _, h, _⟩ := h
  exact h
theorem One.lt {w wr : World} {P : Nat → Prop} {b N : Nat} {s : Ds} (h : One w wr P b N s) : b < wr.heap.size := by
  obtain ⟨_, hx, _⟩ := h
  exact hx.lt _ hx.b
theorem One.less {w wr : World} {P Q : Nat → Prop} {b N : Nat} {s : Ds} (h : One w wr P b N s) (hQ : ∀ k, Q k → P k) : One w wr Q b N s := by
  obtain ⟨F, hx, h2, h4, h5⟩ := h
  exact ⟨F, hx, h2, h4, fun k hk => h5 k (hQ k hk)⟩
theorem One.more {w wr : World} {P : Nat → Prop} {b N N' : Nat} {s : Ds} (h : One w wr P b N s) (hN : N ≤ N') : One w wr P b N' s := by
  obtain ⟨F, hx, h2, h4, h5⟩ := h
  exact ⟨F, hx.more hN, h2, h4, h5⟩
theorem One.is64 {w wr : World} {P : Nat → Prop} {b N : Nat} {s : Ds} (h : One w wr P b N s) : Is64 s.D ∧ ∀ i, Is64 (s.W i) := by
  obtain ⟨F, hx, _⟩ := h
  exact ⟨hx.is64.1, hx.is64.2.1⟩
/-- whatever was made since is not its -/
theorem One.keep {w wr w' : World} {P : Nat → Prop} {b N : Nat} {s : Ds} (h : One w wr P b N s) (hb : Below wr.heap.size wr w') : One w w' (fun k => P k ∨ (wr.heap.size ≤ k ∧ k < w'.heap.size)) b N s := by
  obtain ⟨F, hx, h2, h4, h5⟩ := h
  refine ⟨F, hx.keep hb, h2, h4.trans (hb.mono h4.size), fun k hk => ?_⟩
  rcases hk with hk | ⟨k1, k2⟩
  · have := h5 k hk
    exact ⟨Nat.lt_of_lt_of_le this.1 hb.size, this.2⟩
  · exact ⟨k2, fun e => by have := hx.lt k e; omega⟩
/-- a change of what is not its -/
theorem One.put {w wr w' : World} {P : Nat → Prop} {b N : Nat} {s : Ds} {g : Nat} (h : One w wr P b N s) (hg : wr.grownBy w' (some g)) (hP : P g) (hw : w.heap.size ≤ g) : One w w' P b N s := by
  obtain ⟨F, hx, h2, h4, h5⟩ := h
  exact ⟨F, hx.grown hg (fun k e => Option.some.inj e ▸ (h5 g hP).2), h2, h4.grown hg h4.size (fun k e => Option.some.inj e ▸ hw), fun k hk => ⟨Nat.lt_of_lt_of_le (h5 k hk).1 hg.size, (h5 k hk).2⟩⟩
theorem One.step {w wr w' : World} {P : Nat → Prop} {b N' : Nat} {s' : Ds} {F F' : Nat → Prop} (h2 : ∀ k, F k → w.heap.size ≤ k) (h4 : Below w.heap.size w wr) (h5 : ∀ k, P k → k < wr.heap.size ∧ ¬ F k) (hx' : Dk w' F' b N' s') (hs : Step F F' wr w') : One w w' P b N' s' ∧ ∀ k, P k → w'.heap[k]? = wr.heap[k]? := by
  refine ⟨⟨F', hx', fun k hk => ?_, h4.trans (hs.off.below h2 h4.size), fun k hk => ⟨Nat.lt_of_lt_of_le (h5 k hk).1 hs.off.size, fun e => ?_⟩⟩, fun k hk => hs.off.block k (h5 k hk).1 (h5 k hk).2⟩
  · rcases hs.sub k hk with e | e
    · exact h2 k e
    · exact Nat.le_trans h4.size e
  · rcases hs.sub k e with e | e
    · exact (h5 k hk).2 e
    · have := (h5 k hk).1; omega
theorem one_write {w wr : World} {P : Nat → Prop} {b N : Nat} {s : Ds} (T : One w wr P b N s) (hN : N < 1000000) (i : Int) (g c n : Nat) (C : List Int) (base : Nat) (ho : Owned wr base (.slice (some ⟨g, 0, none⟩) n c) C) (hC : C.length = n) (hB : IsBytes C) (hg : P g) :
    Calls Try.prog 12 #[.pointer (some ⟨b, 0, none⟩), .int .i64 i, .slice (some ⟨g, 0, none⟩) n c] wr fun e w' => e = .returned (.int .i64 (s.wr i C).1) ∧ One w w' P b (N + 1) (s.wr i C).2 ∧ ∀ k, P k → w'.heap[k]? = wr.heap[k]? := by
  obtain ⟨F, hx, h2, h4, h5⟩ := T
  refine (dk_write wr F b N s hx hN i _ n c C hC hB ho.holds.1 (fun x e _ => by cases e; exact fun e => (h5 g hg).2 (by have e2 : g = b := e; rw [e2]; exact hx.b))).mono ?_
  rintro e w' ⟨rfl, F', hx', hs⟩
  exact ⟨rfl, One.step h2 h4 h5 hx' hs⟩
theorem one_flush {w wr : World} {P : Nat → Prop} {b N : Nat} {s : Ds} (T : One w wr P b N s) (hN : N < 1000000) :
    Calls Try.prog 13 #[.pointer (some ⟨b, 0, none⟩)] wr fun e w' => e = .returned (.int .i64 (s.fl).1) ∧ One w w' P b (N + 1) (s.fl).2 ∧ ∀ k, P k → w'.heap[k]? = wr.heap[k]? := by
  obtain ⟨F, hx, h2, h4, h5⟩ := T
  refine (dk_flush wr F b N s hx hN).mono ?_
  rintro e w' ⟨rfl, F', hx', hs⟩
  exact ⟨rfl, One.step h2 h4 h5 hx' hs⟩
theorem one_fuse {w wr : World} {P : Nat → Prop} {b N : Nat} {s : Ds} (T : One w wr P b N s) (k : Int) (hk : k ≤ 9223372036854775807) :
    Calls Try.prog 26 #[.pointer (some ⟨b, 0, none⟩), .int .i64 k] wr fun e w' => e = .returned (.int .i64 (s.fs k).1) ∧ One w w' P b N (s.fs k).2 ∧ ∀ k, P k → w'.heap[k]? = wr.heap[k]? := by
  obtain ⟨F, hx, h2, h4, h5⟩ := T
  refine (dk_fuse wr F b N s hx k hk).mono ?_
  rintro e w' ⟨rfl, hx', hs⟩
  exact ⟨rfl, One.step h2 h4 h5 hx' hs⟩
theorem one_crash {w wr : World} {P : Nat → Prop} {b N : Nat} {s : Ds} (T : One w wr P b N s) (hN : N ≤ 1000000) (ka : Option Addr) (kl kc : Nat) (keep : List Int) (hkl : keep.length = kl) (hin : InK wr ka keep) (hk : ∀ x, ka = some x → keep ≠ [] → P x.block ∨ x.block < w.heap.size) :
    Calls Try.prog 20 #[.pointer (some ⟨b, 0, none⟩), .slice ka kl kc] wr fun e w' => e = .returned (.int .i64 0) ∧ One w w' P b N (s.cr keep) ∧ ∀ k, P k → w'.heap[k]? = wr.heap[k]? := by
  obtain ⟨F, hx, h2, h4, h5⟩ := T
  refine (dk_crash wr F b N s hx hN ka kl kc keep hkl hin (fun x hx hK hF => ?_)).mono ?_
  · rcases hk x hx hK with e | e
    · exact (h5 _ e).2 hF
    · have := h2 _ hF; omega
  · rintro e w' ⟨rfl, F', hx', hs⟩
    exact ⟨rfl, One.step h2 h4 h5 hx' hs⟩
theorem one_up {w wr : World} {P : Nat → Prop} {b N : Nat} {s : Ds} (T : One w wr P b N s) : Calls Try.prog 24 #[.pointer (some ⟨b, 0, none⟩)] wr fun e w' => e = .returned (.bool s.up) ∧ w' = wr := by
  obtain ⟨F, hx, _⟩ := T
  exact dk_up wr F b N s hx
theorem one_image {w wr : World} {P : Nat → Prop} {b N : Nat} {s : Ds} (T : One w wr P b N s) : Calls Try.prog 21 #[.pointer (some ⟨b, 0, none⟩)] wr fun e w' => ∃ go V, e = .returned (.slice (some ⟨go, 0, none⟩) s.D.length s.D.length) ∧ V.length = s.D.length ∧ Img w' wr.heap.size go s.D.length V s.D ∧ Below wr.heap.size wr w' := by
  obtain ⟨F, hx, _⟩ := T
  exact dk_image wr F b N s hx
theorem one_waiting {w wr : World} {P : Nat → Prop} {b N : Nat} {s : Ds} (T : One w wr P b N s) (hN : N ≤ 1000000) : Calls Try.prog 23 #[.pointer (some ⟨b, 0, none⟩)] wr fun e w' => ∃ g c, e = .returned (.slice (some ⟨g, 0, none⟩) (wa s.D.length s.W).length c) ∧ InW w' (some ⟨g, 0, none⟩) (wa s.D.length s.W) ∧ wr.heap.size ≤ g ∧ Below wr.heap.size wr w' := by
  obtain ⟨F, hx, _⟩ := T
  exact dk_waiting wr F b N s hx hN
theorem one_read {w wr : World} {P : Nat → Prop} {b N : Nat} {s : Ds} (T : One w wr P b N s) (hN : N ≤ 1000000) (i : Int) : Calls Try.prog 22 #[.pointer (some ⟨b, 0, none⟩), .int .i64 i] wr fun e w' => ∃ a n c, e = .returned (.tuple #[.slice a n c, .int .i64 (s.rd i).2]) ∧ (s.rd i).1.length = n ∧ Owned w' wr.heap.size (.slice a n c) (s.rd i).1 ∧ Below wr.heap.size wr w' := by
  obtain ⟨F, hx, _⟩ := T
  exact dk_read wr F b N s hx hN i
theorem Bg.one {w wr : World} {F : Nat → Prop} {b N Bn : Nat} {s : Ds} {sl : List Value} (h : Bg w wr F b N Bn s sl) : One w wr (fun k => k < wr.heap.size ∧ ¬ F k) b N s := ⟨F, h.dk, fun k hk => by have := h.far k hk; omega, h.bel, fun k hk => hk⟩
theorem crs_none (W : Int → List (List Int)) : ∀ (l : List Nat) (k : Nat) (D : List (List Int)), crs [] W l k D = D
  | [], _, _ => rfl
  | i :: r, k, D => by
    rw [crs, show kp [] k (W (i : Int)).length = 0 from rfl, show pick (W (i : Int)) 0 (D[i]?.getD []) = D[i]?.getD [] from rfl, set_same]
    exact crs_none W r (k + 1) D
/-- nothing is kept: what is durable stays -/
theorem crD_none (D : List (List Int)) (W : Int → List (List Int)) : crD [] D W = D := crs_none W _ _ _
/-- nothing waits: what is durable stays -/
theorem crD_nil (keep : List Int) (D : List (List Int)) (W : Int → List (List Int)) (h : ∀ i, W i = []) : crD keep D W = D := by
  have : wb D.length W = [] := by
    apply List.eq_nil_iff_forall_not_mem.2
    intro i hi
    exact (mem_wb.1 hi).2 (h _)
  rw [crD, this]
  rfl
end Go.Proofs.Ytibgfjnddhfgpaa
