/- A manifest that came in, opened. -/
import Derived.Test.YtlddoobomjcldaaDoorManX
import Derived.Deep.Slices
import Derived.Deep.Strs
import Derived.OpenShut
import Derived.ChangeSame
import Derived.SizedLaws
namespace Go.Proofs.YtlddoobomjcldaaDoor
open Go.ChangeShapes Go.WideShapes Go.ChangeAt Go.RowKit Go.Deep Go.Maps
set_option linter.unusedVariables false
theorem cellsR : Tryd.prog.cellsOf 80 = 33 := by kernel_rfl
theorem cellsMf : Tryd.prog.cellsOf 44 = 3 := by kernel_rfl
theorem cellsI64 : Tryd.prog.cellsOf 3 = 1 := by kernel_rfl
theorem cellsStr : Tryd.prog.cellsOf 9 = 1 := by kernel_rfl
theorem cellsRs : Tryd.prog.cellsOf 42 = 1 := by kernel_rfl
theorem bytesR : Tryd.prog.bytesOf 80 = 40 := by kernel_rfl
/-- the number in a cell -/
def nuv (v : Value) : Int := match v with | .int _ x => x | _ => 0
theorem open_ref {H : Type} {enc : TypeId × Value → H} {W : World} {sp : Nat → Bool} {fuel : Nat} {cs : List Value} {x : DataW H × List MemPlace} (h : DataW.trod enc Tryd.prog W 0 sp true fuel 80 cs = some x) :
    ∃ q : Rf, cs = rcl q ∧ q.1.length = 32 ∧ IsBytes q.1 := by
  obtain ⟨y0, y1, n, hxy, hlen, g0, g1⟩ := trod_struct2 Tryd.underlying80 h
  rw [cellsR] at hlen
  simp only [cellsDg, cellsI64, List.drop_zero] at g0 g1
  obtain ⟨xs, m, rfl, hx, hl2, hxl, hel⟩ := DataW.trod_array Tryd.underlying35 g0
  obtain ⟨z, e1, _, _⟩ := DataW.trod_int Tryd.underlying3 g1
  have hone : ∀ i, i < 32 → ∃ x : Int, cs[i]? = some (.int .u8 x) ∧ (Lit.int .u8 x).wf = true := by
    intro i hi
    have h1 := hel i hi
    rw [cellsU8, Nat.mul_one] at h1
    have hxi : xs[i]? = some xs[i] := List.getElem?_eq_getElem (by omega)
    rw [hxi] at h1
    obtain ⟨x, e1, _, e3⟩ := DataW.trod_int Tryd.underlying5 h1
    refine ⟨x, ?_, e3⟩
    have := congrArg (·[0]?) e1
    simpa [List.getElem?_take, List.getElem?_drop, hi] using this
  refine ⟨((cs.take 32).map nuv, z), ?_, by simp [hlen], ?_⟩
  · unfold rcl
    apply List.ext_getElem?
    intro i
    by_cases hi : i < 32
    · obtain ⟨x, e, _⟩ := hone i hi
      rw [List.getElem?_append_left (by simp [hlen]; omega), e]
      simp [hi, e, nuv]
    · rw [List.getElem?_append_right (by simp [hlen]; omega)]
      have hl3 : ((cs.take 32).map nuv |>.map (Value.int .u8)).length = 32 := by simp [hlen]
      rw [hl3]
      by_cases h32 : i = 32
      · subst h32
        have := congrArg (·[0]?) e1
        simpa [List.getElem?_take, List.getElem?_drop] using this
      · rw [List.getElem?_eq_none (by omega), List.getElem?_eq_none (by simp; omega)]
  · intro i hi
    have hi' : i < 32 := by simp [hlen] at hi; omega
    obtain ⟨x, e, hw⟩ := hone i hi'
    have := wf_u8 hw
    simp only [List.getD, List.getElem?_map, List.getElem?_take, hi', if_true, e, Option.map_some, Option.getD_some, nuv]
    exact this
theorem open_refs {H : Type} {enc : TypeId × Value → H} {W : World} {fuel : Nat} {a : Option Addr} {len cap : Nat} {x : DataW H × List MemPlace} (h : DataW.trod enc Tryd.prog W 0 (fun _ => true) true fuel 42 [.slice a len cap] = some x) :
    ∃ l : List Rf, l.length = len ∧ len ≤ cap ∧ (a = none → cap = 0) ∧ cap ≤ 9223372036854775807 ∧ InR W a l ∧ Dgs l ∧ (l = [] ∨ ∃ xs sp, x.1 = .slice xs sp ∧ xs.length = len) := by
  rcases open_slice Tryd.underlying42 h with ⟨hcs, hx⟩ | ⟨a', len', cap', m, n, D, Pl, hcs, _, hl, hm, hmm, hx, hel⟩
  · simp only [List.cons.injEq, and_true, Value.slice.injEq] at hcs
    obtain ⟨rfl, rfl, rfl⟩ := hcs
    exact ⟨[], rfl, Nat.le_refl _, fun _ => rfl, by omega, .inl rfl, fun x hx => by simp at hx, .inl rfl⟩
  · simp only [List.cons.injEq, and_true, Value.slice.injEq] at hcs
    obtain ⟨rfl, rfl, rfl⟩ := hcs
    have hmc : m = cap := by simpa using hmm
    subst hmc hx
    have each : ∀ i, i < len → ∃ q : Rf, W.cells? 0 (a'.add (i * 33)) 33 = some (rcl q) ∧ q.1.length = 32 ∧ IsBytes q.1 := by
      intro i hi
      obtain ⟨cs', h1, h2⟩ := hel i (by omega)
      rw [cellsR] at h1
      obtain ⟨q, hq, h3, h4⟩ := open_ref h2
      exact ⟨q, by rw [← hq]; exact h1, h3, h4⟩
    obtain ⟨q, hq⟩ := choose_lt each
    simp only [maxLen] at hm
    refine ⟨(List.range len).map q, by simp, hl, (fun h => by simp at h), by omega, ?_, ?_, ?_⟩
    · by_cases h0 : len = 0
      · left; subst h0; rfl
      · right
        have hsp : ∀ i, i < len → ∀ k v, (rcl (q i))[k]? = some v → W.cell? (a'.add (i * 33 + k)) = some v := by
          intro i hi k v hv
          obtain ⟨h1, h2, _⟩ := hq i hi
          obtain ⟨_, hlen, hcell⟩ := World.cells?_some h1
          have hk : k < 33 := by
            have := (List.getElem?_eq_some_iff.1 hv).1
            rwa [rcl_len h2] at this
          have e := hcell k (by omega)
          rw [add_add] at e
          rw [e, hv]
        obtain ⟨b, off, spot⟩ := a'
        obtain ⟨v0, hv0⟩ : ∃ v0, (rcl (q 0))[0]? = some v0 := ⟨_, List.getElem?_eq_getElem (by rw [rcl_len (hq 0 (by omega)).2.1]; omega)⟩
        have hc : W.cell? ((⟨b, off, spot⟩ : Addr).add 0) = some v0 := hsp 0 (by omega) 0 _ hv0
        have hspot : spot = none := by simpa [Addr.add] using World.cell?_spot hc
        subst hspot
        rw [Addr.add_mid] at hc
        refine ⟨b, off, rfl, World.block_lt_of_cell? _ _ hc, fun i x hx => ?_⟩
        have hi : i < len := by
          have := (List.getElem?_eq_some_iff.1 hx).1
          simpa using this
        have hxq : x = q i := by simpa [hi] using hx.symm
        subst hxq
        intro k v hv
        have := hsp i hi k v hv
        rw [Addr.add_mid] at this
        rwa [show off + i * 33 + k = off + (i * 33 + k) by omega]
    · intro x hx
      simp only [List.mem_map, List.mem_range] at hx
      obtain ⟨i, hi, rfl⟩ := hx
      exact (hq i hi).2
    · right
      exact ⟨_, _, rfl, by simp⟩
end Go.Proofs.YtlddoobomjcldaaDoor
