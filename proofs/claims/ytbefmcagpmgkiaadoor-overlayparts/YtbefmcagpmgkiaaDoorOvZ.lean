/- A stack that came in, opened. -/
import Derived.Test.YtbefmcagpmgkiaaDoorLayO
import Derived.Test.YtbefmcagpmgkiaaDoorOvM
namespace Go.Proofs.YtbefmcagpmgkiaaDoor
open Go.ChangeShapes Go.WideShapes Go.ChangeAt Go.RowKit Go.Deep
set_option linter.unusedVariables false
theorem cellsL : Tryd.prog.cellsOf 26 = 1 := by kernel_rfl
theorem bytesL : Tryd.prog.bytesOf 26 = 24 := by kernel_rfl
theorem fit_in {H : Type} {l : List En} {d : DataW H} (key : ∀ n ∈ d.weights Tryd.prog 26, n ≤ reachBytes) (hl : l = [] ∨ ∃ sp, d = .slice (l.map ed) sp) : Fit l ∧ l.length ≤ 140737488355328 := by
  have hr := reachBytes_lt
  rcases hl with rfl | ⟨sp, rfl⟩
  · exact ⟨fun x hx => by simp at hx, by simp⟩
  · have hu := Tryd.underlying26
    refine ⟨fun x hx => ?_, ?_⟩
    · have k2 : ∀ n ∈ (ed (H := H) x).weights Tryd.prog 34, n ≤ reachBytes := by
        intro n hn
        refine key n ?_
        simp only [DataW.weights, hu, List.mem_cons, List.mem_append]
        exact Or.inr (Or.inl (weightsAll_in (List.mem_map.2 ⟨x, hx, rfl⟩) _ hn))
      obtain ⟨w1, w2⟩ := weights_ed (H := H) x
      have h1 := k2 _ w1
      have h2 := k2 _ w2
      omega
    · have := key (((l.map (ed (H := H))).length + sp.length) * Tryd.prog.bytesOf 34) (by simp only [DataW.weights, hu, List.mem_cons]; exact Or.inl trivial)
      rw [bytesE, List.length_map] at this
      omega
theorem open_layer {H : Type} {enc : TypeId × Value → H} {W : World} {fuel : Nat} {cs : List Value} {x : DataW H × List MemPlace} (h : DataW.trod enc Tryd.prog W 0 (fun _ => true) true fuel 26 cs = some x) (key : ∀ n ∈ x.1.weights Tryd.prog 26, n ≤ reachBytes) :
    ∃ (l : List En) (a : Option Addr) (c : Nat), cs = [.slice a l.length c] ∧ InE W a l ∧ Fit l ∧ (l.length ≤ 4611686018427387904 ∧ (a = none → c = 0)) := by
  obtain ⟨a, len, cap, rfl⟩ : ∃ a len cap, cs = [.slice a len cap] := by
    rcases open_slice Tryd.underlying26 h with ⟨hcs, _⟩ | ⟨a', len', cap', m, n, D, Pl, hcs, _⟩
    · exact ⟨_, _, _, hcs⟩
    · exact ⟨_, _, _, hcs⟩
  obtain ⟨l, e1, _, e3, _, e5, e6⟩ := open_entries h
  obtain ⟨f1, f2⟩ := fit_in key e6
  subst e1
  exact ⟨l, a, cap, rfl, e5, f1, by omega, e3⟩
theorem open_stack {H : Type} {enc : TypeId × Value → H} {W : World} {fuel : Nat} {a : Option Addr} {len cap : Nat} {x : DataW H × List MemPlace} (h : DataW.trod enc Tryd.prog W 0 (fun _ => true) true fuel 22 [.slice a len cap] = some x) (key : ∀ n ∈ x.1.weights Tryd.prog 22, n ≤ reachBytes) :
    ∃ st : List (List En), st.length = len ∧ len ≤ 4611686018427387904 ∧ InS W a st := by
  rcases open_slice Tryd.underlying22 h with ⟨hcs, hx⟩ | ⟨a', len', cap', m, n, D, Pl, hcs, _, hl, hm, hmm, hx, hel⟩
  · simp only [List.cons.injEq, and_true, Value.slice.injEq] at hcs
    obtain ⟨rfl, rfl, rfl⟩ := hcs
    exact ⟨[], rfl, by omega, .inl rfl⟩
  · simp only [List.cons.injEq, and_true, Value.slice.injEq] at hcs
    obtain ⟨rfl, rfl, rfl⟩ := hcs
    have hmc : m = cap := by simpa using hmm
    subst hmc hx
    have hu := Tryd.underlying22
    have hr := reachBytes_lt
    have hlen : len ≤ 4611686018427387904 := by
      have := key ((((List.range len).map D).length + ((List.range (m - len)).map fun j => D (len + j)).length) * Tryd.prog.bytesOf 26) (by simp only [DataW.weights, hu, List.mem_cons]; exact Or.inl trivial)
      rw [bytesL, List.length_map, List.length_range] at this
      omega
    have each : ∀ i, i < len → ∃ q : List En, ∃ (b : Option Addr) (c : Nat), W.cell? (a'.add i) = some (.slice b q.length c) ∧ InE W b q ∧ Fit q ∧ (q.length ≤ 4611686018427387904 ∧ (b = none → c = 0)) := by
      intro i hi
      obtain ⟨cs', h1, h2⟩ := hel i (by omega)
      rw [cellsL, Nat.mul_one] at h1
      obtain ⟨q, b, c, hq, e1, e2, e3⟩ := open_layer h2 (fun n hn => key n (by
        simp only [DataW.weights, hu, List.mem_cons, List.mem_append]
        exact Or.inr (Or.inl (weightsAll_in (List.mem_map.2 ⟨i, List.mem_range.2 hi, rfl⟩) _ hn))))
      obtain ⟨_, hlen2, hcell⟩ := World.cells?_some h1
      subst hq
      have e0 := hcell 0 (by omega)
      rw [add_add] at e0
      exact ⟨q, b, c, by simpa using e0, e1, e2, e3⟩
    obtain ⟨q, hq⟩ := choose_lt each
    refine ⟨(List.range len).map q, by simp, hlen, ?_⟩
    by_cases h0 : len = 0
    · left; subst h0; rfl
    · right
      obtain ⟨b, off, spot⟩ := a'
      obtain ⟨b0, c0, hc, _⟩ := hq 0 (by omega)
      have hspot : spot = none := by simpa [Addr.add] using World.cell?_spot hc
      subst hspot
      rw [add_plain] at hc
      refine ⟨b, off, rfl, World.block_lt_of_cell? _ _ hc, fun i l hl2 => ?_⟩
      have hi : i < len := by
        have := (List.getElem?_eq_some_iff.1 hl2).1
        simpa using this
      have hxq : l = q i := by simpa [hi] using hl2.symm
      subst hxq
      obtain ⟨b1, c1, g1, g2, g3, g4⟩ := hq i hi
      rw [add_plain] at g1
      exact ⟨b1, c1, g1, g2, g3, g4⟩
theorem stack_cap {H : Type} {enc : TypeId × Value → H} {W : World} {fuel : Nat} {a : Option Addr} {len cap : Nat} {x : DataW H × List MemPlace} (h : DataW.trod enc Tryd.prog W 0 (fun _ => true) true fuel 22 [.slice a len cap] = some x) : len ≤ cap := by
  rcases open_slice Tryd.underlying22 h with ⟨hcs, hx⟩ | ⟨a', len', cap', m, n, D, Pl, hcs, _, hl, hm, hmm, hx, hel⟩
  · simp only [List.cons.injEq, and_true, Value.slice.injEq] at hcs
    omega
  · simp only [List.cons.injEq, and_true, Value.slice.injEq] at hcs
    omega
end Go.Proofs.YtbefmcagpmgkiaaDoor
