/- Slices of acts that came in, with what their reach bounds. -/
import Derived.Test.YtibgfjnddhfgpaaDkAc
import Derived.SizedLaws
namespace Go.Proofs.Ytibgfjnddhfgpaa
open Go.ChangeShapes Go.WideShapes Go.ChangeAt Go.RowKit Go.Deep
set_option linter.unusedVariables false
theorem mem_weightsAll {H : Type} {P : Program} {e : TypeId} {q : Nat} : ∀ {l : List (DataW H)} {d : DataW H}, d ∈ l → q ∈ d.weights P e → q ∈ DataW.weightsAll P e l
  | [], _, h, _ => by cases h
  | x :: r, d, h, hq => by
    rw [DataW.weightsAll]
    rcases List.mem_cons.1 h with rfl | h
    · exact List.mem_append_left _ hq
    · exact List.mem_append_right _ (mem_weightsAll h hq)
theorem bytesI : Try.prog.bytesOf 3 = 8 := by kernel_rfl
theorem open_act2 {H : Type} {enc : TypeId × Value → H} {W : World} {fuel : Nat} {cs : List Value} {x : DataW H × List MemPlace} (h : DataW.trod enc Try.prog W 0 (fun _ => true) true fuel 32 cs = some x) (hw : ∀ q ∈ x.1.weights Try.prog 32, q ≤ 140737488351232) :
    ∃ (k at' n l : Int) (a : Option Addr) (len cap : Nat) (zs : List Int), cs = [.int .i64 k, .int .i64 at', .int .i64 n, .int .i64 l, .slice a len cap] ∧ (-9223372036854775808 ≤ k ∧ k ≤ 9223372036854775807) ∧ (-9223372036854775808 ≤ at' ∧ at' ≤ 9223372036854775807) ∧ (-9223372036854775808 ≤ n ∧ n ≤ 9223372036854775807) ∧ (-9223372036854775808 ≤ l ∧ l ≤ 9223372036854775807) ∧ KeepR W a len cap zs ∧ len ≤ 17592186044416 := by
  obtain ⟨xs, m, _, rfl, hl, hlen, hf⟩ := DataW.trod_struct Try.underlying32 h
  rw [cellsAct] at hl
  obtain ⟨v0, v1, v2, v3, v4, rfl⟩ := list5 cs hl
  obtain ⟨y0, y1, y2, y3, y4, rfl⟩ := list5 xs hlen
  have g0 := hf 0 _ rfl
  have g1 := hf 1 _ rfl
  have g2 := hf 2 _ rfl
  have g3 := hf 3 _ rfl
  have g4 := hf 4 _ rfl
  simp [cellsI, cellsIs] at g0 g1 g2 g3 g4
  obtain ⟨k, e0, _, b0⟩ := DataW.trod_int Try.underlying3 g0
  obtain ⟨a1, e1, _, b1⟩ := DataW.trod_int Try.underlying3 g1
  obtain ⟨n, e2, _, b2⟩ := DataW.trod_int Try.underlying3 g2
  obtain ⟨l, e3, _, b3⟩ := DataW.trod_int Try.underlying3 g3
  simp only [List.cons.injEq, and_true] at e0 e1 e2 e3
  subst e0 e1 e2 e3
  rcases open_ints Try.underlying30 Try.underlying3 (by kernel_rfl) g4 with ⟨hcs, _⟩ | ⟨x, len, cap, zs, hcs, _, hlc, hm, hz, hx, hcell, hwz⟩
  · simp only [List.cons.injEq, and_true] at hcs
    subst hcs
    exact ⟨k, a1, n, l, none, 0, 0, [], rfl, wf_i64 b0, wf_i64 b1, wf_i64 b2, wf_i64 b3, .inl ⟨rfl, rfl, rfl, rfl⟩, by omega⟩
  · simp only [List.cons.injEq, and_true] at hcs
    subst hcs
    have hzl : zs.length = cap := by simpa using hz
    have hy : y4.1 = .slice (lits .i64 (zs.take len)) (lits .i64 (zs.drop len)) := by rw [hx]
    have hq := hw ((zs.take len).length + (zs.drop len).length |> (· * 8)) (by
      simp only [DataW.weights, Try.underlying32]
      refine DataW.weights_mem_each (j := 4) (t := 30) (d := y4.1) rfl rfl _ ?_
      rw [hy]
      simp only [DataW.weights, Try.underlying30, bytesI, lits, List.length_map]
      exact List.mem_cons_self)
    simp only [List.length_take, List.length_drop] at hq
    exact ⟨k, a1, n, l, some x, len, cap, zs, rfl, wf_i64 b0, wf_i64 b1, wf_i64 b2, wf_i64 b3, .inr ⟨x, rfl, hlc, hzl, hcell, hwz⟩, by omega⟩
theorem open_acts2 {H : Type} {enc : TypeId × Value → H} {W : World} {fuel : Nat} {a : Option Addr} {len cap : Nat} {x : DataW H × List MemPlace} (h : DataW.trod enc Try.prog W 0 (fun _ => true) true fuel 22 [.slice a len cap] = some x) (hw : ∀ q ∈ x.1.weights Try.prog 22, q ≤ 140737488351232) :
    ∃ A, InA W a len A ∧ ∀ i, i < len → ((A i).ka = none → (A i).kc = 0) ∧ (A i).kl ≤ 17592186044416 := by
  rcases open_slice Try.underlying22 h with ⟨hcs, hx⟩ | ⟨a', len', cap', m, n, D, Pl, hcs, _, hl, hm, hmm, hx, hel⟩
  · simp only [List.cons.injEq, and_true, Value.slice.injEq] at hcs
    obtain ⟨rfl, rfl, rfl⟩ := hcs
    exact ⟨fun _ => ⟨0, 0, 0, 0, none, 0, 0, []⟩, ⟨fun h => by omega, fun i hi => by omega⟩, fun i hi => by omega⟩
  · simp only [List.cons.injEq, and_true, Value.slice.injEq] at hcs
    obtain ⟨rfl, rfl, rfl⟩ := hcs
    have hmc : m = cap := by simpa using hmm
    subst hmc hx
    have hwi : ∀ i, i < len → ∀ q ∈ (D i).weights Try.prog 32, q ≤ 140737488351232 := fun i hi q hq => hw q (by
      simp only [DataW.weights, Try.underlying22]
      refine List.mem_cons_of_mem _ (List.mem_append_left _ (mem_weightsAll (d := D i) ?_ hq))
      exact List.mem_map.2 ⟨i, List.mem_range.2 hi, rfl⟩)
    have each : ∀ i, i < len → ∃ v : Av, (W.cell? (a'.add (i * 5)) = some (.int .i64 v.k) ∧ W.cell? (a'.add (i * 5 + 1)) = some (.int .i64 v.a) ∧ W.cell? (a'.add (i * 5 + 2)) = some (.int .i64 v.n) ∧ W.cell? (a'.add (i * 5 + 3)) = some (.int .i64 v.l) ∧ W.cell? (a'.add (i * 5 + 4)) = some (.slice v.ka v.kl v.kc)) ∧ v.ok W ∧ ((v.ka = none → v.kc = 0) ∧ v.kl ≤ 17592186044416) := by
      intro i hi
      obtain ⟨cs', h1, h2⟩ := hel i (by omega)
      rw [cellsAct] at h1
      obtain ⟨k, at', n0, l, ka, kl, kc, zs, rfl, b0, b1, b2, b3, kr, kb⟩ := open_act2 h2 (hwi i hi)
      obtain ⟨hin, hln⟩ := inK_of kr
      obtain ⟨_, hlen, hcell⟩ := World.cells?_some h1
      have e0 := hcell 0 (by omega)
      have e1 := hcell 1 (by omega)
      have e2 := hcell 2 (by omega)
      have e3 := hcell 3 (by omega)
      have e4 := hcell 4 (by omega)
      rw [add_add] at e0 e1 e2 e3 e4
      refine ⟨⟨k, at', n0, l, ka, kl, kc, zs.take kl⟩, ⟨by simpa using e0, by simpa using e1, by simpa using e2, by simpa using e3, by simpa using e4⟩, ⟨b0, b1, b2, b3, hln, hin⟩, fun hn => ?_, kb⟩
      rcases kr with ⟨_, _, hc, _⟩ | ⟨y, hy, _⟩
      · exact hc
      · have hn' : ka = none := hn
        rw [hy] at hn'
        cases hn'
    letI : Inhabited Av := ⟨⟨0, 0, 0, 0, none, 0, 0, []⟩⟩
    obtain ⟨q, hq⟩ := choose_lt each
    refine ⟨q, ⟨fun h0 => ?_, fun i hi => (hq i hi).2.1⟩, fun i hi => (hq i hi).2.2⟩
    obtain ⟨b, off, spot⟩ := a'
    have hc := (hq 0 h0).1.1
    have hspot : spot = none := by simpa [Addr.add] using World.cell?_spot hc
    subst hspot
    rw [add_plain] at hc
    refine ⟨b, off, rfl, World.block_lt_of_cell? _ _ hc, fun i hi => ?_⟩
    have := (hq i hi).1
    rw [add_plain, add_plain, add_plain, add_plain, add_plain] at this
    exact this
end Go.Proofs.Ytibgfjnddhfgpaa
