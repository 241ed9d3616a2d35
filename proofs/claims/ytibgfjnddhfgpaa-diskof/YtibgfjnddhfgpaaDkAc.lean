/- Slices of acts that came in. -/
import Derived.Test.YtibgfjnddhfgpaaDkO
import Derived.Test.YtibgfjnddhfgpaaDkCr
import Derived.Deep.Slices
import Derived.ChangeSame
namespace Go.Proofs.Ytibgfjnddhfgpaa
open Go.ChangeShapes Go.WideShapes Go.ChangeAt Go.RowKit Go.Deep
set_option linter.unusedVariables false
/-- an act: its four numbers, where its slice lies, what that holds -/
structure Av where
  k : Int
  a : Int
  n : Int
  l : Int
  ka : Option Addr
  kl : Nat
  kc : Nat
  z : List Int
def Av.ok (w : World) (v : Av) : Prop :=
  (-9223372036854775808 ≤ v.k ∧ v.k ≤ 9223372036854775807) ∧ (-9223372036854775808 ≤ v.a ∧ v.a ≤ 9223372036854775807) ∧ (-9223372036854775808 ≤ v.n ∧ v.n ≤ 9223372036854775807) ∧ (-9223372036854775808 ≤ v.l ∧ v.l ≤ 9223372036854775807) ∧ v.z.length = v.kl ∧ InK w v.ka v.z
/-- the five cells of one -/
def Ac5 (w : World) (g o : Nat) (v : Av) : Prop := w.cell? ⟨g, o, none⟩ = some (.int .i64 v.k) ∧ w.cell? ⟨g, o + 1, none⟩ = some (.int .i64 v.a) ∧ w.cell? ⟨g, o + 2, none⟩ = some (.int .i64 v.n) ∧ w.cell? ⟨g, o + 3, none⟩ = some (.int .i64 v.l) ∧ w.cell? ⟨g, o + 4, none⟩ = some (.slice v.ka v.kl v.kc)
/-- a slice of acts that came in -/
def InA (w : World) (a : Option Addr) (len : Nat) (A : Nat → Av) : Prop :=
  (0 < len → ∃ b off, a = some ⟨b, off, none⟩ ∧ b < w.heap.size ∧ ∀ i, i < len → Ac5 w b (off + i * 5) (A i)) ∧ ∀ i, i < len → (A i).ok w
theorem InK.below {w w' : World} {a : Option Addr} {K : List Int} (h : InK w a K) (hb : Below w.heap.size w w') : InK w' a K := h.kept fun x hx hK => hb.block x.block (h.lt x hx hK)
theorem Av.ok.below {w w' : World} {v : Av} (h : v.ok w) (hb : Below w.heap.size w w') : v.ok w' := ⟨h.1, h.2.1, h.2.2.1, h.2.2.2.1, h.2.2.2.2.1, h.2.2.2.2.2.below hb⟩
theorem Ac5.kept {w w' : World} {g o : Nat} {v : Av} (h : Ac5 w g o v) (hb : w'.heap[g]? = w.heap[g]?) : Ac5 w' g o v := by
  obtain ⟨h0, h1, h2, h3, h4⟩ := h
  exact ⟨(World.cell?_of_block (a := ⟨g, o, none⟩) hb).trans h0, (World.cell?_of_block (a := ⟨g, o + 1, none⟩) hb).trans h1, (World.cell?_of_block (a := ⟨g, o + 2, none⟩) hb).trans h2, (World.cell?_of_block (a := ⟨g, o + 3, none⟩) hb).trans h3, (World.cell?_of_block (a := ⟨g, o + 4, none⟩) hb).trans h4⟩
theorem InA.below {w w' : World} {a : Option Addr} {len : Nat} {A : Nat → Av} (h : InA w a len A) (hb : Below w.heap.size w w') : InA w' a len A := by
  refine ⟨fun h0 => ?_, fun i hi => (h.2 i hi).below hb⟩
  obtain ⟨b, off, ha, hlt, hc⟩ := h.1 h0
  exact ⟨b, off, ha, Nat.lt_of_lt_of_le hlt hb.size, fun i hi => (hc i hi).kept (hb.block b hlt)⟩
theorem inK_of {w : World} {a : Option Addr} {len cap : Nat} {zs : List Int} (h : KeepR w a len cap zs) : InK w a (zs.take len) ∧ (zs.take len).length = len := by
  rcases h with ⟨rfl, rfl, rfl, rfl⟩ | ⟨x, rfl, hl, hz, hc, hw⟩
  · exact ⟨.inl rfl, rfl⟩
  · refine ⟨.inr ⟨x, rfl, fun i v hv => ?_⟩, by rw [List.length_take]; omega⟩
    have hi := (List.getElem?_eq_some_iff.1 hv).1
    rw [List.length_take] at hi
    rw [List.getElem?_take, if_pos (by omega)] at hv
    rw [hc i (by omega), List.getD_eq_getElem?_getD, hv]
    rfl
theorem row_keepR {w : World} {a : Option Addr} {len cap : Nat} {zs : List Int} (h : IsRow .i64 w a len cap zs) : KeepR w a len cap zs := by
  rcases h with h | ⟨x, h1, h2, _, h3, h4, h5⟩
  · exact .inl h
  · exact .inr ⟨x, h1, h2, h3, h4, h5⟩
theorem open_acts {H : Type} {enc : TypeId × Value → H} {W : World} {fuel : Nat} {a : Option Addr} {len cap : Nat} {x : DataW H × List MemPlace} (h : DataW.trod enc Try.prog W 0 (fun _ => true) true fuel 22 [.slice a len cap] = some x) :
    ∃ A, InA W a len A := by
  rcases open_slice Try.underlying22 h with ⟨hcs, hx⟩ | ⟨a', len', cap', m, n, D, Pl, hcs, _, hl, hm, hmm, hx, hel⟩
  · simp only [List.cons.injEq, and_true, Value.slice.injEq] at hcs
    obtain ⟨rfl, rfl, rfl⟩ := hcs
    exact ⟨fun _ => ⟨0, 0, 0, 0, none, 0, 0, []⟩, fun h => by omega, fun i hi => by omega⟩
  · simp only [List.cons.injEq, and_true, Value.slice.injEq] at hcs
    obtain ⟨rfl, rfl, rfl⟩ := hcs
    have hmc : m = cap := by simpa using hmm
    subst hmc hx
    have each : ∀ i, i < len → ∃ v : Av, (W.cell? (a'.add (i * 5)) = some (.int .i64 v.k) ∧ W.cell? (a'.add (i * 5 + 1)) = some (.int .i64 v.a) ∧ W.cell? (a'.add (i * 5 + 2)) = some (.int .i64 v.n) ∧ W.cell? (a'.add (i * 5 + 3)) = some (.int .i64 v.l) ∧ W.cell? (a'.add (i * 5 + 4)) = some (.slice v.ka v.kl v.kc)) ∧ v.ok W := by
      intro i hi
      obtain ⟨cs', h1, h2⟩ := hel i (by omega)
      rw [cellsAct] at h1
      obtain ⟨k, at', n0, l, ka, kl, kc, zs, rfl, b0, b1, b2, b3, kr⟩ := open_act h2
      obtain ⟨hin, hln⟩ := inK_of kr
      obtain ⟨_, hlen, hcell⟩ := World.cells?_some h1
      have e0 := hcell 0 (by omega)
      have e1 := hcell 1 (by omega)
      have e2 := hcell 2 (by omega)
      have e3 := hcell 3 (by omega)
      have e4 := hcell 4 (by omega)
      rw [add_add] at e0 e1 e2 e3 e4
      exact ⟨⟨k, at', n0, l, ka, kl, kc, zs.take kl⟩, ⟨by simpa using e0, by simpa using e1, by simpa using e2, by simpa using e3, by simpa using e4⟩, b0, b1, b2, b3, hln, hin⟩
    letI : Inhabited Av := ⟨⟨0, 0, 0, 0, none, 0, 0, []⟩⟩
    obtain ⟨q, hq⟩ := choose_lt each
    refine ⟨q, fun h0 => ?_, fun i hi => (hq i hi).2⟩
    obtain ⟨b, off, spot⟩ := a'
    have hc := (hq 0 h0).1.1
    have hspot : spot = none := by simpa [Addr.add] using World.cell?_spot hc
    subst hspot
    rw [add_plain] at hc
    refine ⟨b, off, rfl, World.block_lt_of_cell? _ _ hc, fun i hi => ?_⟩
    have := (hq i hi).1
    rw [add_plain, add_plain, add_plain, add_plain, add_plain] at this
    exact this
end Go.Proofs.Ytibgfjnddhfgpaa
