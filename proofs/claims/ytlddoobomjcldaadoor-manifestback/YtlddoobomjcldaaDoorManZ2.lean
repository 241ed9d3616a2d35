/- A manifest that came in, opened; how great it may be. -/
import Derived.Test.YtlddoobomjcldaaDoorManZ
namespace Go.Proofs.YtlddoobomjcldaaDoor
open Go.ChangeShapes Go.WideShapes Go.ChangeAt Go.RowKit Go.Deep Go.Maps
set_option linter.unusedVariables false
theorem list3M {α : Type} {l : List α} (h : l.length = 3) : ∃ v0 v1 v2, l = [v0, v1, v2] := by
  match l, h with
  | [v0, v1, v2], _ => exact ⟨v0, v1, v2, rfl⟩
set_option maxRecDepth 100000 in
theorem open_manifest {H : Type} {enc : TypeId × Value → H} {W : World} {base : Nat} {v : Value} {d : DataW H} {p : List MemPlace}
    (hv : Value.okWide Tryd.prog W .any base 44 v) (h : DataW.Trod enc Tryd.prog W 0 (fun _ => true) true 44 v d p) :
    ∃ (m : Mf) (n : Nat) (a : Option Addr) (c : Nat) (d2 : DataW H), v = mv m a n c ∧ m.2.2.length = n ∧ n ≤ c ∧ (a = none → c = 0) ∧ c ≤ 9223372036854775807 ∧ InR W a m.2.2 ∧ Dgs m.2.2 ∧ d = .agg [.lit (.string m.1), .lit (.string m.2.1), d2] ∧ (m.2.2 = [] ∨ ∃ xs sp, d2 = .slice xs sp ∧ xs.length = n) := by
  obtain ⟨cs, rfl, hz, _⟩ : ∃ cs, v = .agg cs ∧ cs.size = Tryd.prog.cellsOf 44 ∧ Row.okWide Tryd.prog W .any base 44 cs := by
    simpa [Value.okWide, Tryd.underlying44] using hv
  obtain ⟨fuel, hf⟩ := h
  obtain ⟨y0, y1, y2, n, hx, hlen, g0, g1, g2⟩ := trod_struct3 Tryd.underlying44 hf
  have hcl : (Value.agg cs).cells.toList = cs.toList := rfl
  rw [hcl] at hlen g0 g1 g2
  rw [cellsMf] at hlen
  obtain ⟨v0, v1, v2, hcs⟩ := list3M hlen
  rw [hcs] at g0 g1 g2
  simp [cellsStr, cellsRs] at g0 g1 g2
  obtain ⟨s0, e0, rfl, _⟩ := DataW.trod_string Tryd.underlying9 g0
  obtain ⟨s1, e1, rfl, _⟩ := DataW.trod_string Tryd.underlying9 g1
  simp only [List.cons.injEq, and_true] at e0 e1
  subst e0 e1
  obtain ⟨a, len, cap, rfl⟩ : ∃ a len cap, v2 = .slice a len cap := by
    rcases open_slice Tryd.underlying42 g2 with ⟨h1, _⟩ | ⟨a', len', cap', _, _, _, _, h1, _⟩
    · simp only [List.cons.injEq, and_true] at h1; exact ⟨_, _, _, h1⟩
    · simp only [List.cons.injEq, and_true] at h1; exact ⟨_, _, _, h1⟩
  obtain ⟨l, k1, k2, k3, k4, k5, k6, k7⟩ := open_refs g2
  refine ⟨(s0.data.toList, s1.data.toList, l), len, a, cap, y2.1, ?_, k1, k2, k3, k4, k5, k6, ?_, k7⟩
  · have q0 : tx s0.data.toList = s0 := (tx_mk s0).symm
    have q1 : tx s1.data.toList = s1 := (tx_mk s1).symm
    have e : cs = #[.string s0, .string s1, .slice a len cap] := Array.ext' hcs
    rw [e]
    unfold mv
    simp only [q0, q1]
  · have := congrArg Prod.fst hx
    simpa using this
theorem fitM_of {H : Type} {ts : List TypeId} {ds : List (DataW H)} (h : (DataW.weightsEach Tryd.prog ts ds).all (· ≤ reachBytes) = true) {j : Nat} {m : Mf} {n : Nat} {d d2 : DataW H}
    (ht : ts[j]? = some 44) (hd : ds[j]? = some d) (hdd : d = .agg [.lit (.string m.1), .lit (.string m.2.1), d2]) (hn : m.2.2.length = n) (h2 : m.2.2 = [] ∨ ∃ xs sp, d2 = .slice xs sp ∧ xs.length = n) :
    m.1.length ≤ 140737488351232 ∧ m.2.1.length ≤ 140737488351232 ∧ n * 40 ≤ 140737488351232 := by
  have hu := Tryd.underlying44
  have hu2 := Tryd.underlying42
  subst hdd
  have key : ∀ k ∈ (DataW.agg [.lit (.string m.1), .lit (.string m.2.1), d2] : DataW H).weights Tryd.prog 44, k ≤ reachBytes := fun k hk => of_decide_eq_true (List.all_eq_true.1 h _ (DataW.weights_mem_each ht hd _ hk))
  have hr : reachBytes = 140737488351232 := by decide
  rw [← hr]
  refine ⟨key _ (by simp [DataW.weights, DataW.weightsEach, hu]), key _ (by simp [DataW.weights, DataW.weightsEach, hu]), ?_⟩
  rcases h2 with h2 | ⟨xs, sp, rfl, hxl⟩
  · rw [h2] at hn
    simp at hn
    subst hn
    simp
  · have := key ((xs.length + sp.length) * Tryd.prog.bytesOf 80) (by simp [DataW.weights, DataW.weightsEach, hu, hu2])
    rw [bytesR] at this
    omega
end Go.Proofs.YtlddoobomjcldaaDoor
