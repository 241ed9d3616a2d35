/- A participant that came in, opened. -/
import Derived.Test.YtmokonaodoiflaaPtA
import Derived.Test.YtmokonaodoiflaaWsI
namespace Go.Proofs.Ytmokonaodoiflaa
open Go.ChangeShapes Go.WideShapes Go.ChangeAt Go.RowKit Go.Deep Go.Maps
set_option linter.unusedVariables false
theorem cellsPt : Try.prog.cellsOf 24 = 3 := by kernel_rfl
theorem cellsIs : Try.prog.cellsOf 22 = 1 := by kernel_rfl
theorem bytesI64 : Try.prog.bytesOf 3 = 8 := by kernel_rfl
theorem list3W {α : Type} {l : List α} (h : l.length = 3) : ∃ v0 v1 v2, l = [v0, v1, v2] := by
  match l, h with
  | [v0, v1, v2], _ => exact ⟨v0, v1, v2, rfl⟩
/-- what is known of a participant that came in -/
def PtIn (W : World) (r s : Int) (a : Option Addr) (n c : Nat) (D : List Int) : Prop := (InI r ∧ InI s ∧ ∀ x ∈ D, InI x) ∧ D.length = n ∧ n ≤ c ∧ (a = none → n = 0 ∧ c = 0) ∧ InZ W a D ∧ n ≤ 17592186044416
theorem open_part {H : Type} {enc : TypeId × Value → H} {W : World} {fuel : Nat} {cs : List Value} {x : DataW H × List MemPlace} (h : DataW.trod enc Try.prog W 0 (fun _ => true) true fuel 24 cs = some x) (hw : ∀ q ∈ x.1.weights Try.prog 24, q ≤ 140737488351232) :
    ∃ r s a n c D, cs = [.int .i64 r, .int .i64 s, .slice a n c] ∧ PtIn W r s a n c D := by
  obtain ⟨y0, y1, y2, m, hxy, hlen, g0, g1, g2⟩ := trod_struct3 Try.underlying24 h
  rw [cellsPt] at hlen
  obtain ⟨v0, v1, v2, rfl⟩ := list3W hlen
  simp [cellsI64, cellsIs] at g0 g1 g2
  obtain ⟨r, e0, _, b0⟩ := DataW.trod_int Try.underlying3 g0
  obtain ⟨s, e1, _, b1⟩ := DataW.trod_int Try.underlying3 g1
  simp only [List.cons.injEq, and_true] at e0 e1
  subst e0 e1
  rcases open_ints Try.underlying22 Try.underlying3 (by kernel_rfl) g2 with ⟨hcs, _⟩ | ⟨q, len, cap, zs, hcs, _, hlc, hm, hz, hx, hcell, hwz⟩
  · simp only [List.cons.injEq, and_true] at hcs
    subst hcs
    exact ⟨r, s, none, 0, 0, [], rfl, ⟨wf_InI b0, wf_InI b1, fun x hx => by simp at hx⟩, rfl, Nat.le_refl _, fun _ => ⟨rfl, rfl⟩, .inl rfl, by omega⟩
  · simp only [List.cons.injEq, and_true] at hcs
    subst hcs
    have hzl : zs.length = cap := by simpa using hz
    have hy : y2.1 = .slice (lits .i64 (zs.take len)) (lits .i64 (zs.drop len)) := by rw [hx]
    have hq := hw ((zs.take len).length + (zs.drop len).length |> (· * 8)) (by
      rw [hxy]
      simp only [DataW.weights, Try.underlying24]
      refine DataW.weights_mem_each (j := 2) (t := 22) (d := y2.1) rfl rfl _ ?_
      rw [hy]
      simp only [DataW.weights, Try.underlying22, bytesI64, lits, List.length_map]
      exact List.mem_cons_self)
    simp only [List.length_take, List.length_drop] at hq
    have hc2 : ∀ i v, (zs.take len)[i]? = some v → W.cell? (q.add i) = some (.int .i64 v) := fun i v hi => by
      obtain ⟨h1, h2⟩ := List.getElem?_eq_some_iff.1 hi
      have hlt : i < len := by rw [List.length_take] at h1; omega
      have h3 := hcell i (by omega)
      rw [h3]
      have : zs[i]? = some v := by rw [List.getElem?_take] at hi; rw [if_pos hlt] at hi; exact hi
      simp [List.getD, this]
    refine ⟨r, s, some q, len, cap, zs.take len, rfl, ⟨wf_InI b0, wf_InI b1, fun x hx => wf_InI (hwz x (List.mem_of_mem_take hx))⟩, by rw [List.length_take]; omega, hlc, (fun e => by cases e), ?_, by omega⟩
    by_cases h0 : zs.take len = []
    · exact .inl h0
    · right
      obtain ⟨b, off, spot⟩ := q
      obtain ⟨v0', hv0⟩ : ∃ v, (zs.take len)[0]? = some v := ⟨_, List.getElem?_eq_getElem (List.length_pos_iff.2 h0)⟩
      have hc := hc2 0 _ hv0
      have hspot : spot = none := by simpa [Addr.add] using World.cell?_spot hc
      subst hspot
      refine ⟨b, off, rfl, World.block_lt_of_cell? _ _ hc, fun i x hi => ?_⟩
      have := hc2 i x hi
      rwa [add_plain] at this
end Go.Proofs.Ytmokonaodoiflaa
