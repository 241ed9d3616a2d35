/- For every input the Go function veneerlaw02.CrcFour returns true and leaves its arguments as they were. No condition beyond the row's own. -/
import Derived.Laws.IdiomArrays
import Derived.Test.YtbeeekmhnigelaaWCrcFour
namespace Go.Proofs.Ytbeeekmhnigelaa
open Go.ChangeShapes Go.WideShapes Go.ChangeAt Go.RowKit
open Go.ChangeMaps (open_string shut_string)
set_option linter.unusedVariables false
theorem list4 {A : Type} (l : List A) (h : l.length = 4) : ∃ a b c d, l = [a, b, c, d] := by
  match l, h with
  | [a, b, c, d], _ => exact ⟨a, b, c, d, rfl⟩
theorem four_wf {a b c d : Int} (h0 : (Lit.int .u8 a).wf = true) (h1 : (Lit.int .u8 b).wf = true) (h2 : (Lit.int .u8 c).wf = true) (h3 : (Lit.int .u8 d).wf = true) : ∀ x ∈ [a, b, c, d], 0 ≤ x ∧ x ≤ 255 := by
  intro x hx
  simp only [List.mem_cons, List.not_mem_nil, or_false] at hx
  rcases hx with rfl | rfl | rfl | rfl
  · exact wf_u8 h0
  · exact wf_u8 h1
  · exact wf_u8 h2
  · exact wf_u8 h3
set_option maxRecDepth 100000 in
theorem crcFour_lifted (os : Os) (started : os.Started) (H : Type) (enc : TypeId × Value → H) :
    ReturnsInHanded {} Try.checked os 7 .any (Rows.crcFourSpec.pre6 enc Try.prog Try.f7 Rows.crcFourRow.domain false) (Rows.crcFourSpec.post enc Try.prog Try.f7 false true false false) := by
  refine returnsInHanded_of_change (C := Try.checked) own started (by kernel_rfl) Try.func7
    (ChangeSpec.witness6 (enc := enc) (C := Try.checked) false ⟨#[], #[.agg #[.int .u8 0, .int .u8 0, .int .u8 0, .int .u8 0], .agg #[.int .u8 0, .int .u8 0, .int .u8 0, .int .u8 0], .int .i64 0], []⟩ 8 (by kernel_rfl) (by kernel_rfl) (by kernel_rfl) (by kernel_rfl)) ?_
  intro W base args ds gs before hval0 hW hcnd _
  have hval : ∀ (j : Nat) t v, Try.f7.params[j]? = some t → args[j]? = some v → Value.okWide Try.prog W .any base t v := hval0
  have hW' := hW
  obtain ⟨p, q, hA0, hV, rfl, hfz, hnd⟩ := hW
  have hA : DataW.TrodAll enc Try.prog W 0 (fun _ => true) true Try.f7.params.toList args.toList ds p := hA0

  rw [Try.params7] at hA hval
  obtain ⟨v0, vs0, d0, ds0, p0, q0, hargs, rfl, rfl, h0, r0⟩ := trodAll_cons hA
  obtain ⟨v1, vs1, d1, ds1, p1, q1, rfl, rfl, rfl, h1, r1⟩ := trodAll_cons r0
  obtain ⟨v2, vs2, d2, ds2, p2, q2, rfl, rfl, rfl, h2, r2⟩ := trodAll_cons r1
  obtain ⟨rfl, rfl, rfl⟩ := trodAll_nil r2
  obtain rfl : args = #[v0, v1, v2] := by cases args; simp_all
  obtain ⟨rfl, rfl⟩ := trodVars_none hV
  obtain ⟨cs0, rfl, z0, _⟩ : ∃ cs, v0 = .agg cs ∧ cs.size = Try.prog.cellsOf 38 ∧ Row.okWide Try.prog W .any base 38 cs := by
    have := hval 0 38 v0 rfl rfl
    simpa [Value.okWide, Try.underlying38] using this
  have cc0 : Try.prog.cellsOf 38 = 4 := by kernel_rfl
  have ce0 : Try.prog.cellsOf 5 = 1 := by kernel_rfl
  rw [cc0] at z0
  obtain ⟨l0⟩ := cs0
  obtain ⟨c00, c01, c02, c03, rfl⟩ := list4 l0 z0
  obtain ⟨fuel0, hf0⟩ := h0
  obtain ⟨y00, y01, y02, y03, m0, hx0, hy00, hy01, hy02, hy03⟩ := trod_array4 Try.underlying38 ce0 hf0
  obtain ⟨x00, e00, rfl, w00⟩ := DataW.trod_int Try.underlying5 hy00
  obtain ⟨x01, e01, rfl, w01⟩ := DataW.trod_int Try.underlying5 hy01
  obtain ⟨x02, e02, rfl, w02⟩ := DataW.trod_int Try.underlying5 hy02
  obtain ⟨x03, e03, rfl, w03⟩ := DataW.trod_int Try.underlying5 hy03
  simp at e00 e01 e02 e03
  subst e00 e01 e02 e03
  simp only [Prod.mk.injEq] at hx0
  obtain ⟨rfl, rfl⟩ := hx0
  have rd0 : ∀ (X : World) (sp : Nat → Bool), DataW.Trod enc Try.prog X 0 sp true 38 (.agg #[.int .u8 x00, .int .u8 x01, .int .u8 x02, .int .u8 x03]) (DataW.agg [.lit (.int .u8 x00), .lit (.int .u8 x01), .lit (.int .u8 x02), .lit (.int .u8 x03)]) [] := fun X sp => ⟨2, by simp [DataW.trod, Value.cells, Try.underlying38, Try.underlying5, cc0, ce0, w00, w01, w02, w03, show List.range 4 = [0, 1, 2, 3] from rfl]⟩
  obtain ⟨cs1, rfl, z1, _⟩ : ∃ cs, v1 = .agg cs ∧ cs.size = Try.prog.cellsOf 38 ∧ Row.okWide Try.prog W .any base 38 cs := by
    have := hval 1 38 v1 rfl rfl
    simpa [Value.okWide, Try.underlying38] using this
  have cc1 : Try.prog.cellsOf 38 = 4 := by kernel_rfl
  have ce1 : Try.prog.cellsOf 5 = 1 := by kernel_rfl
  rw [cc1] at z1
  obtain ⟨l1⟩ := cs1
  obtain ⟨c10, c11, c12, c13, rfl⟩ := list4 l1 z1
  obtain ⟨fuel1, hf1⟩ := h1
  obtain ⟨y10, y11, y12, y13, m1, hx1, hy10, hy11, hy12, hy13⟩ := trod_array4 Try.underlying38 ce1 hf1
  obtain ⟨x10, e10, rfl, w10⟩ := DataW.trod_int Try.underlying5 hy10
  obtain ⟨x11, e11, rfl, w11⟩ := DataW.trod_int Try.underlying5 hy11
  obtain ⟨x12, e12, rfl, w12⟩ := DataW.trod_int Try.underlying5 hy12
  obtain ⟨x13, e13, rfl, w13⟩ := DataW.trod_int Try.underlying5 hy13
  simp at e10 e11 e12 e13
  subst e10 e11 e12 e13
  simp only [Prod.mk.injEq] at hx1
  obtain ⟨rfl, rfl⟩ := hx1
  have rd1 : ∀ (X : World) (sp : Nat → Bool), DataW.Trod enc Try.prog X 0 sp true 38 (.agg #[.int .u8 x10, .int .u8 x11, .int .u8 x12, .int .u8 x13]) (DataW.agg [.lit (.int .u8 x10), .lit (.int .u8 x11), .lit (.int .u8 x12), .lit (.int .u8 x13)]) [] := fun X sp => ⟨2, by simp [DataW.trod, Value.cells, Try.underlying38, Try.underlying5, cc1, ce1, w10, w11, w12, w13, show List.range 4 = [0, 1, 2, 3] from rfl]⟩
  obtain ⟨a2, rfl, rfl, rfl, w2⟩ := open_int Try.underlying3 (hval 2 3 v2 rfl rfl) h2
  clear hA0 hval0
  simp only [List.append_nil] at hW'
  refine (crcFour_walk x00 x01 x02 x03 x10 x11 x12 x13 a2 (four_wf w00 w01 w02 w03) (four_wf w10 w11 w12 w13) w2 W).mono fun e W' ⟨he, bel⟩ => ?_
  subst he
  exact ⟨_, rfl, _, _, _, [], [], [], hW', trodAll_mk1 (shut_bool Try.underlying4 _), (trodAll_cons_mk (rd0 _ _) (trodAll_cons_mk (rd1 _ _) (trodAll_cons_mk (shut_int Try.underlying3 w2) trodAll_mk0))), rfl, bel.frame _, fun h => by cases h⟩

theorem crcFour_holds : Rows.CrcFourSaid :=
  OpenClaim.holds_of_wide 7 Try.f7 rfl rfl rfl rfl rfl rfl rfl ⟨rfl, rfl, rfl, rfl, rfl⟩ rfl rfl rfl rfl rfl (by kernel_rfl) Try.func7 (by kernel_rfl)
    (of_decide_eq_true (by kernel_rfl)) (by unfold Func.isWrapper; first | (rw [if_pos (by decide +kernel)]; kernel_rfl) | (rw [if_neg (by decide +kernel)]; exact ⟨rfl, rfl⟩))
    (fun os started H enc _ => crcFour_lifted os started H enc)
#print axioms crcFour_holds
end Go.Proofs.Ytbeeekmhnigelaa
