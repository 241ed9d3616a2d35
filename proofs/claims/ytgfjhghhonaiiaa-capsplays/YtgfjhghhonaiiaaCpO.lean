/- Slices of calls that came in. -/
import Derived.Test.YtgfjhghhonaiiaaCpF
import Derived.Deep.Slices
import Derived.ChangeSame
import Derived.ChangeArms
import Derived.Lib.SmallJoins
import Derived.SizedLaws
namespace Go.Proofs.Ytgfjhghhonaiiaa
open Go.ChangeShapes Go.WideShapes Go.ChangeAt Go.RowKit Go.Deep
set_option linter.unusedVariables false
theorem cellsI : Try.prog.cellsOf 3 = 1 := by kernel_rfl
theorem bytesCa : Try.prog.bytesOf 30 = 48 := by kernel_rfl
/-- a call: its six numbers -/
structure Ca where
  k : Int
  i : Int
  r : Int
  q : Int
  u : Int
  m : Int
def Ca.ok (v : Ca) : Prop := InI v.k ∧ InI v.i ∧ InI v.r ∧ InI v.q ∧ InI v.u ∧ InI v.m
def Ca.cells (v : Ca) : Array Value := #[.int .i64 v.k, .int .i64 v.i, .int .i64 v.r, .int .i64 v.q, .int .i64 v.u, .int .i64 v.m]
def Ca6 (w : World) (g o : Nat) (v : Ca) : Prop := w.cell? ⟨g, o, none⟩ = some (.int .i64 v.k) ∧ w.cell? ⟨g, o + 1, none⟩ = some (.int .i64 v.i) ∧ w.cell? ⟨g, o + 2, none⟩ = some (.int .i64 v.r) ∧ w.cell? ⟨g, o + 3, none⟩ = some (.int .i64 v.q) ∧ w.cell? ⟨g, o + 4, none⟩ = some (.int .i64 v.u) ∧ w.cell? ⟨g, o + 5, none⟩ = some (.int .i64 v.m)
/-- a slice of calls that came in -/
def InCa (w : World) (a : Option Addr) (len : Nat) (A : Nat → Ca) : Prop :=
  (0 < len → ∃ b off, a = some ⟨b, off, none⟩ ∧ b < w.heap.size ∧ ∀ i, i < len → Ca6 w b (off + i * 6) (A i)) ∧ (∀ i, i < len → (A i).ok) ∧ len ≤ 2932031007402
theorem Ca6.kept {w w' : World} {g o : Nat} {v : Ca} (h : Ca6 w g o v) (hb : w'.heap[g]? = w.heap[g]?) : Ca6 w' g o v := by
  obtain ⟨h0, h1, h2, h3, h4, h5⟩ := h
  exact ⟨(World.cell?_of_block (a := ⟨g, o, none⟩) hb).trans h0, (World.cell?_of_block (a := ⟨g, o + 1, none⟩) hb).trans h1, (World.cell?_of_block (a := ⟨g, o + 2, none⟩) hb).trans h2, (World.cell?_of_block (a := ⟨g, o + 3, none⟩) hb).trans h3, (World.cell?_of_block (a := ⟨g, o + 4, none⟩) hb).trans h4, (World.cell?_of_block (a := ⟨g, o + 5, none⟩) hb).trans h5⟩
theorem InCa.below {w w' : World} {a : Option Addr} {len : Nat} {A : Nat → Ca} (h : InCa w a len A) (hb : Below w.heap.size w w') : InCa w' a len A := by
  refine ⟨fun h0 => ?_, h.2⟩
  obtain ⟨b, off, ha, hlt, hc⟩ := h.1 h0
  exact ⟨b, off, ha, Nat.lt_of_lt_of_le hlt hb.size, fun i hi => (hc i hi).kept (hb.block b hlt)⟩
theorem InCa.at {w : World} {a : Option Addr} {len : Nat} {A : Nat → Ca} (h : InCa w a len A) {i : Nat} (hi : i < len) : ∃ b off, a = some ⟨b, off, none⟩ ∧ b < w.heap.size ∧ Ca6 w b (off + i * 6) (A i) := by
  obtain ⟨b, off, ha, hlt, hc⟩ := h.1 (by omega)
  exact ⟨b, off, ha, hlt, hc i hi⟩
theorem open_ca {H : Type} {enc : TypeId × Value → H} {W : World} {fuel : Nat} {cs : List Value} {x : DataW H × List MemPlace} (h : DataW.trod enc Try.prog W 0 (fun _ => true) true fuel 30 cs = some x) :
    ∃ v : Ca, cs = v.cells.toList ∧ v.ok := by
  obtain ⟨xs, m, _, rfl, hl, hlen, hf⟩ := DataW.trod_struct Try.underlying30 h
  rw [cellsCa] at hl
  obtain ⟨v0, v1, v2, v3, v4, v5, rfl⟩ := list6 cs hl
  obtain ⟨y0, y1, y2, y3, y4, y5, rfl⟩ := list6 xs hlen
  have g0 := hf 0 _ rfl
  have g1 := hf 1 _ rfl
  have g2 := hf 2 _ rfl
  have g3 := hf 3 _ rfl
  have g4 := hf 4 _ rfl
  have g5 := hf 5 _ rfl
  simp [cellsI] at g0 g1 g2 g3 g4 g5
  obtain ⟨x0, e0, _, b0⟩ := DataW.trod_int Try.underlying3 g0
  obtain ⟨x1, e1, _, b1⟩ := DataW.trod_int Try.underlying3 g1
  obtain ⟨x2, e2, _, b2⟩ := DataW.trod_int Try.underlying3 g2
  obtain ⟨x3, e3, _, b3⟩ := DataW.trod_int Try.underlying3 g3
  obtain ⟨x4, e4, _, b4⟩ := DataW.trod_int Try.underlying3 g4
  obtain ⟨x5, e5, _, b5⟩ := DataW.trod_int Try.underlying3 g5
  simp only [List.cons.injEq, and_true] at e0 e1 e2 e3 e4 e5
  subst e0 e1 e2 e3 e4 e5
  exact ⟨⟨x0, x1, x2, x3, x4, x5⟩, rfl, wf_i64 b0, wf_i64 b1, wf_i64 b2, wf_i64 b3, wf_i64 b4, wf_i64 b5⟩
theorem open_cacts {H : Type} {enc : TypeId × Value → H} {W : World} {fuel : Nat} {a : Option Addr} {len cap : Nat} {x : DataW H × List MemPlace} (h : DataW.trod enc Try.prog W 0 (fun _ => true) true fuel 22 [.slice a len cap] = some x) (hw : ∀ q ∈ x.1.weights Try.prog 22, q ≤ 140737488351232) :
    ∃ A, InCa W a len A := by
  rcases open_slice Try.underlying22 h with ⟨hcs, hx⟩ | ⟨a', len', cap', m, n, D, Pl, hcs, _, hl, hm, hmm, hx, hel⟩
  · simp only [List.cons.injEq, and_true, Value.slice.injEq] at hcs
    obtain ⟨rfl, rfl, rfl⟩ := hcs
    exact ⟨fun _ => ⟨0, 0, 0, 0, 0, 0⟩, (fun h => by omega), (fun i hi => by omega), by omega⟩
  · simp only [List.cons.injEq, and_true, Value.slice.injEq] at hcs
    obtain ⟨rfl, rfl, rfl⟩ := hcs
    have hmc : m = cap := by simpa using hmm
    subst hmc hx
    have each : ∀ i, i < len → ∃ v : Ca, (W.cell? (a'.add (i * 6)) = some (.int .i64 v.k) ∧ W.cell? (a'.add (i * 6 + 1)) = some (.int .i64 v.i) ∧ W.cell? (a'.add (i * 6 + 2)) = some (.int .i64 v.r) ∧ W.cell? (a'.add (i * 6 + 3)) = some (.int .i64 v.q) ∧ W.cell? (a'.add (i * 6 + 4)) = some (.int .i64 v.u) ∧ W.cell? (a'.add (i * 6 + 5)) = some (.int .i64 v.m)) ∧ v.ok := by
      intro i hi
      obtain ⟨cs', h1, h2⟩ := hel i (by omega)
      rw [cellsCa] at h1
      obtain ⟨v, rfl, hv⟩ := open_ca h2
      obtain ⟨_, hlen, hcell⟩ := World.cells?_some h1
      have e0 := hcell 0 (by omega)
      have e1 := hcell 1 (by omega)
      have e2 := hcell 2 (by omega)
      have e3 := hcell 3 (by omega)
      have e4 := hcell 4 (by omega)
      have e5 := hcell 5 (by omega)
      rw [add_add] at e0 e1 e2 e3 e4 e5
      exact ⟨v, ⟨by simpa [Ca.cells] using e0, by simpa [Ca.cells] using e1, by simpa [Ca.cells] using e2, by simpa [Ca.cells] using e3, by simpa [Ca.cells] using e4, by simpa [Ca.cells] using e5⟩, hv⟩
    letI : Inhabited Ca := ⟨⟨0, 0, 0, 0, 0, 0⟩⟩
    obtain ⟨q, hq⟩ := choose_lt each
    refine ⟨q, fun h0 => ?_, fun i hi => (hq i hi).2, ?_⟩
    · obtain ⟨b, off, spot⟩ := a'
      have hc := (hq 0 h0).1.1
      have hspot : spot = none := by simpa [Addr.add] using World.cell?_spot hc
      subst hspot
      rw [add_plain] at hc
      refine ⟨b, off, rfl, World.block_lt_of_cell? _ _ hc, fun i hi => ?_⟩
      have := (hq i hi).1
      rw [add_plain, add_plain, add_plain, add_plain, add_plain, add_plain] at this
      exact this
    · have hq := hw _ (by
        simp only [DataW.weights, Try.underlying22, bytesCa]
        exact List.mem_cons_self)
      simp at hq
      omega
end Go.Proofs.Ytgfjhghhonaiiaa
