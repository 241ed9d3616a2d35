/- For every input the Go function veneerlaw10.WalOpens returns true and leaves its arguments as they were. No condition beyond the row's own. -/
import Derived.Deep.Matrix
import Derived.Test.YtkhopmlhinkpcaaGreatMgWo22
namespace Go.Proofs.YtkhopmlhinkpcaaGreat
open Go.ChangeShapes Go.WideShapes Go.ChangeAt Go.RowKit
open Go.ChangeMaps (open_string shut_string)
set_option linter.unusedVariables false
/-- what came in, row by row -/
theorem in2_of {w : World} {a : Addr} {len cap : Nat} {A : Nat → Option Addr} {Ln Cp : Nat → Nat} {Z : Nat → List Int} (hl : len ≤ cap)
    (h : ∀ r, r < cap → w.cell? (a.add r) = some (.slice (A r) (Ln r) (Cp r)) ∧ Ln r ≤ Cp r ∧ Cp r ≤ maxLen ∧ (Z r).length = Cp r ∧ (∀ n ∈ Z r, (Lit.int .u8 n).wf = true) ∧ (A r = none → Cp r = 0) ∧ ∀ a', A r = some a' → 0 ≤ a'.block ∧ ∀ c, c < Cp r → w.cell? (a'.add c) = some (.int .u8 ((Z r).getD c 0))) :
    In2 w (some a) len (fun i => (A i, Ln i, Cp i)) (fun i => (Z i).take (Ln i)) := by
  refine ⟨fun h0 => ?_, fun i hi => ?_⟩
  · obtain ⟨b, off, spot⟩ := a
    have hc := (h 0 (by omega)).1
    have hspot : spot = none := by simpa [Addr.add] using World.cell?_spot hc
    subst hspot
    refine ⟨b, off, rfl, ?_, fun i hi => ?_⟩
    · rw [add_plain] at hc
      exact World.block_lt_of_cell? _ _ hc
    · have := (h i (by omega)).1
      rwa [add_plain] at this
  · obtain ⟨_, h1, h2, h3, h4, h5, h6⟩ := h i (by omega)
    have hL : ((Z i).take (Ln i)).length = Ln i := by rw [List.length_take]; omega
    have hbytes : IsBytes ((Z i).take (Ln i)) := bytes_of_mem fun n hn => wf_u8 (h4 n (List.mem_of_mem_take hn))
    simp only [maxLen] at h2
    by_cases h0 : Ln i = 0
    · have e : (Z i).take (Ln i) = [] := by rw [h0]; rfl
      refine ⟨?_, hL, hbytes, h5, fun x hx hne => ?_, h1, by omega⟩
      · show Holds _ _ ((Z i).take (Ln i))
        rw [e]
        exact .inl rfl
      · exact absurd e hne
    · obtain ⟨x, hx⟩ : ∃ x, A i = some x := by
        cases hA : A i with
        | none => have := h5 hA; omega
        | some x => exact ⟨x, rfl⟩
      have hc := (h6 x hx).2
      obtain ⟨b, off, spot⟩ := x
      have hc0 := hc 0 (by omega)
      have hspot : spot = none := by simpa [Addr.add] using World.cell?_spot hc0
      subst hspot
      refine ⟨.inr ⟨b, off, hx, fun j hj => ?_⟩, hL, hbytes, h5, fun y hy _ => ?_, h1, by omega⟩
      · have hj' : j < Ln i := by have : j < ((Z i).take (Ln i)).length := hj; rwa [hL] at this
        have := hc j (by omega)
        rw [add_plain] at this
        rw [this]
        simp [List.getD, hj']
      · have hy' : A i = some y := hy
        rw [hx] at hy'
        cases hy'
        rw [add_plain] at hc0
        exact World.block_lt_of_cell? _ _ hc0
set_option maxRecDepth 100000 in
theorem walOpens_lifted (os : Os) (started : os.Started) (H : Type) (enc : TypeId × Value → H) :
    ReturnsInHanded {} Tryz.checked os 4 .any (Rows.walOpensSpec.pre6 enc Tryz.prog Tryz.f4 Rows.walOpensRow.domain false) (Rows.walOpensSpec.post enc Tryz.prog Tryz.f4 false true false false) := by
  refine returnsInHanded_of_change_sized (C := Tryz.checked) own started (by kernel_rfl) Tryz.func4
    (ChangeSpec.witness6 (enc := enc) (C := Tryz.checked) false ⟨#[], #[.slice none 0 0], []⟩ 8 (by kernel_rfl) (by kernel_rfl) (by kernel_rfl) (by kernel_rfl)) ?_
  intro W base args ds gs before hval0 hW hcnd hsz0 _
  have hval : ∀ (j : Nat) t v, Tryz.f4.params[j]? = some t → args[j]? = some v → Value.okWide Tryz.prog W .any base t v := hval0
  have hW' := hW
  obtain ⟨p, q, hA0, hV, rfl, hfz, hnd⟩ := hW
  have hA : DataW.TrodAll enc Tryz.prog W 0 (fun _ => true) true Tryz.f4.params.toList args.toList ds p := hA0

  have hsz : (DataW.weightsEach Tryz.prog (Tryz.f4.params.toList ++ Rows.walOpensSpec.plain.varTypes Tryz.prog) (ds ++ gs)).all (· ≤ reachBytes) = true := hsz0
  rw [Tryz.params4] at hA hval hsz
  obtain ⟨v0, vs0, d0, ds0, p0, q0, hargs, rfl, rfl, h0, r0⟩ := trodAll_cons hA
  obtain ⟨rfl, rfl, rfl⟩ := trodAll_nil r0
  obtain rfl : args = #[v0] := by cases args; simp_all
  obtain ⟨rfl, rfl⟩ := trodVars_none hV
  obtain ⟨a0, len0, cap0, rfl⟩ := okWide_slice Tryz.underlying42 (hval 0 42 v0 rfl rfl)
  have k0 := h0
  have lt0 : ∀ x ∈ p0, x.block < W.heap.size := by obtain ⟨m, hm⟩ := k0; exact DataW.trod_lt m _ _ _ hm
  obtain ⟨V0, M0, w0, l0, e0, c0⟩ : ∃ V M, In2 W a0 len0 V M ∧ len0 * 24 ≤ 140737488351232 ∧ (∀ i, i < len0 → (M i).length ≤ 140737488351232) ∧ len0 ≤ cap0 := by
    obtain ⟨fuel, hf⟩ := h0
    rcases Go.Deep.open_int_rows Tryz.underlying42 Tryz.underlying52 Tryz.underlying5 (by kernel_rfl) (by kernel_rfl) hf with ⟨hcs, _⟩ | ⟨x, l, c, A, Ln, Cp, Z, hcs, _, hl, hm, hx, hrow⟩
    · simp [Value.cells] at hcs
      obtain ⟨rfl, rfl, rfl⟩ := hcs
      exact ⟨fun _ => (none, 0, 0), fun _ => [], ⟨fun h => by omega, fun i hi => by omega⟩, by omega, fun i hi => by omega, Nat.le_refl _⟩
    · simp [Value.cells] at hcs
      obtain ⟨rfl, rfl, rfl⟩ := hcs
      have hd := (Prod.mk.inj hx).1
      have hs := sized_slice hsz (j := 0) (t := 42) (e := 52) rfl (by rw [hd]; rfl) Tryz.underlying42
      have hb24 : Tryz.prog.bytesOf 52 = 24 := by kernel_rfl
      rw [hb24] at hs
      simp only [List.length_map, List.length_range, reachBytes] at hs
      refine ⟨fun i => (A i, Ln i, Cp i), fun i => (Z i).take (Ln i), in2_of hl hrow, by omega, fun i hi => ?_, hl⟩
      have hri := hrow i (by omega)
      cases hA : A i with
      | none =>
        have := hri.2.2.2.2.2.1 hA
        show ((Z i).take (Ln i)).length ≤ 140737488351232
        rw [List.length_take]
        omega
      | some ad =>
        have hmem := List.all_eq_true.1 hsz (((Z i).take (Ln i)).length + ((Z i).drop (Ln i)).length |> (· * 1)) (DataW.weights_mem_each (j := 0) (t := 42) rfl rfl _ (by
          rw [hd]
          simp only [DataW.weights, Tryz.underlying42]
          refine List.mem_cons_of_mem _ (List.mem_append_left _ (mem_weightsAll (d := Go.Deep.intRow .u8 (A i) (Ln i) (Z i)) (List.mem_map.2 ⟨i, List.mem_range.2 hi, rfl⟩) ?_))
          rw [hA]
          simp only [Go.Deep.intRow, DataW.weights, Tryz.underlying52, bytes8, lits, List.length_map]
          exact List.mem_cons_self))
        have hle := of_decide_eq_true hmem
        simp only [reachBytes] at hle
        show ((Z i).take (Ln i)).length ≤ 140737488351232
        omega
  clear hA0 hval0
  refine (walOpens_walk a0 len0 cap0 V0 M0 W w0 l0 e0 c0).mono fun e W' ⟨he, bel⟩ => ?_
  subst he
  exact ⟨_, rfl, _, _, _, [], _, [], hW', trodAll_mk1 (shut_bool Tryz.underlying4 _), (trodAll_cons_mk (Below.trod laidOut (by kernel_rfl) (of_decide_eq_true (by kernel_rfl)) k0 bel lt0) trodAll_mk0), rfl, bel.frame _, fun h => by cases h⟩

theorem walOpens_holds : Rows.WalOpensSaid :=
  OpenClaim.holds_of_wide 4 Tryz.f4 rfl rfl rfl rfl rfl rfl rfl ⟨rfl, rfl, rfl, rfl, rfl⟩ rfl rfl rfl rfl rfl (by kernel_rfl) Tryz.func4 (by kernel_rfl)
    (of_decide_eq_true (by kernel_rfl)) (by unfold Func.isWrapper; first | (rw [if_pos (by decide +kernel)]; kernel_rfl) | (rw [if_neg (by decide +kernel)]; exact ⟨rfl, rfl⟩))
    (fun os started H enc _ => walOpens_lifted os started H enc)
#print axioms walOpens_holds
end Go.Proofs.YtkhopmlhinkpcaaGreat
