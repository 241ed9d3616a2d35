/- From the condition on the table of the numbers k to what the walks ask; digests as arguments. -/
import Derived.Test.YtlngnhkadbjgbaaDoorShaE
import Derived.Test.YtlngnhkadbjgbaaDoorCards
import Derived.Test.YtlngnhkadbjgbaaDoorTie
import Derived.ProofKit
import Derived.LaidMore
import Derived.OpenShut
import Derived.Stop.Joined
import Derived.Lib.LaidTab
import Derived.MakeChecks
import Derived.SevenTiedAt
namespace Go.Proofs.YtlngnhkadbjgbaaDoor
open Go.ChangeShapes Go.WideShapes Go.ChangeAt Go.RowKit Go.Deep
set_option linter.unusedVariables false
abbrev laidK : List (String × DataW Unit) := [("veneer/sha.k", Rows.laid_veneer_sha_k)]
theorem gK : Tryd.prog.globalNamed "veneer/sha.k" = some 0 := by kernel_rfl
theorem gKType : (Tryd.prog.globals[0]?).map (·.type) = some 52 := by kernel_rfl
theorem cellsK : Tryd.prog.cellsOf 52 = 64 := by kernel_rfl
theorem cells32 : Tryd.prog.cellsOf 40 = 1 := by kernel_rfl
theorem datumK : (Rows.laid_veneer_sha_k : DataW Unit) = Lib.tabData .u32 (kT.map fun x : Nat => (x : Int)) := by kernel_rfl
theorem door_met (os : Os) (args : Array Value) : laidMetH Tryd.prog laidK ((World.doorLaid Tryd.prog 400 os).forCall (fun _ _ => 0) ⟨#[], args, []⟩).memory :=
  laidMetH_of_parts3 (fuel := 8) (laidMet_of_run' 8 (by kernel_rfl) (by kernel_rfl)) (by kernel_rfl) (by kernel_rfl)
theorem k_of_laid {W : World} (h : laidMetH Tryd.prog laidK W) : KIs W := by
  rw [MakeChecks.laidMetH_plain _ _ _ (by kernel_rfl)] at h
  unfold laidK at h
  rw [datumK] at h
  have hT := Lib.tabIs_of_head gK gKType Tryd.underlying52 Tryd.underlying40 cells32 cellsK h
  intro i hi
  have hl : i < (kT.map fun x : Nat => (x : Int)).length := by
    have : (kT.map fun x : Nat => (x : Int)).length = 64 := by decide
    omega
  rw [hT.cell gK i hl]
  have hk : i < kT.length := by simpa using hl
  simp [List.getD, List.getElem?_eq_getElem hk]
theorem cellsD : Tryd.prog.cellsOf 24 = 32 := by kernel_rfl
theorem cells8 : Tryd.prog.cellsOf 5 = 1 := by kernel_rfl
/-- a digest that came in -/
theorem open_digest {H : Type} {enc : TypeId × Value → H} {W : World} {base : Nat} {v : Value} {d : DataW H} {p : List MemPlace} {sp : Nat → Bool}
    (hv : Value.okWide Tryd.prog W .any base 24 v) (h : DataW.Trod enc Tryd.prog W 0 sp true 24 v d p) :
    ∃ D : List Int, v = .agg (u8s D) ∧ D.length = 32 ∧ IsBytes D ∧ d = .agg (D.map fun x => .lit (.int .u8 x)) ∧ p = [] := by
  obtain ⟨cs, rfl, hz, _⟩ : ∃ cs, v = .agg cs ∧ cs.size = Tryd.prog.cellsOf 24 ∧ Row.okWide Tryd.prog W .any base 24 cs := by
    simpa [Value.okWide, Tryd.underlying24] using hv
  obtain ⟨fuel, hf⟩ := h
  obtain ⟨xs, m, rfl, hx, hlen, hxl, hel⟩ := DataW.trod_array Tryd.underlying24 hf
  have hcl : cs.toList.length = 32 := by
    have : cs.toList.length = cs.size := by simp
    rw [this, hz, cellsD]
  have hone : ∀ i, i < 32 → ∃ x : Int, cs.toList[i]? = some (.int .u8 x) ∧ xs[i]? = some (.lit (.int .u8 x), []) ∧ (Lit.int .u8 x).wf = true := by
    intro i hi
    have h1 := hel i hi
    rw [cells8, Nat.mul_one] at h1
    have hxi : xs[i]? = some xs[i] := List.getElem?_eq_getElem (by omega)
    rw [hxi] at h1
    have h1' : DataW.trod enc Tryd.prog W 0 sp true m 5 ((cs.toList.drop i).take 1) = some xs[i] := h1
    obtain ⟨x, e1, e2, e3⟩ := DataW.trod_int Tryd.underlying5 h1'
    refine ⟨x, ?_, by rw [hxi, e2], e3⟩
    have := congrArg (·[0]?) e1
    simpa [List.getElem?_take, List.getElem?_drop] using this
  refine ⟨cs.toList.map (fun v => match v with | .int _ x => x | _ => 0), ?_, by rw [List.length_map, hcl], ?_, ?_, ?_⟩
  · congr 1
    apply Array.ext'
    unfold u8s
    apply List.ext_getElem?
    intro i
    by_cases hi : i < 32
    · obtain ⟨x, e1, _, _⟩ := hone i hi
      simp only [List.getElem?_map, e1, Option.map_some]
    · rw [List.getElem?_eq_none (by omega), List.getElem?_eq_none (by simp only [List.length_map]; omega)]
  · intro i hi
    rw [List.length_map, hcl] at hi
    obtain ⟨x, e1, _, e3⟩ := hone i hi
    have := wf_u8 e3
    simp only [List.getD, List.getElem?_map, e1, Option.map_some, Option.getD_some]
    exact this
  · have hd := congrArg Prod.fst hx
    simp only at hd
    rw [hd]
    congr 1
    apply List.ext_getElem?
    intro i
    by_cases hi : i < 32
    · obtain ⟨x, e1, e2, _⟩ := hone i hi
      simp only [List.getElem?_map, e1, e2, Option.map_some]
    · rw [List.getElem?_eq_none (by simp only [List.length_map]; omega), List.getElem?_eq_none (by simp only [List.length_map]; omega)]
  · have hp := congrArg Prod.snd hx
    simp only at hp
    rw [hp, List.flatMap_eq_nil_iff]
    intro y hy
    obtain ⟨i, hi, rfl⟩ := List.getElem_of_mem hy
    obtain ⟨x, _, e2, _⟩ := hone i (by omega)
    rw [List.getElem?_eq_getElem hi, Option.some.injEq] at e2
    rw [e2]
theorem mapM_const {α β : Type} {f : α → Option β} {g : α → β} : ∀ (l : List α), (∀ a ∈ l, f a = some (g a)) → l.mapM f = some (l.map g)
  | [], _ => rfl
  | a :: l, h => by
    rw [List.mapM_cons, h a (by simp), mapM_const l (fun b hb => h b (by simp [hb]))]; rfl
theorem wf8 {x : Int} (h0 : 0 ≤ x) (h1 : x ≤ 255) : (Lit.int .u8 x).wf = true := by
  simp [Lit.wf, IntKind.min, IntKind.max, IntKind.signed, IntKind.bits]
  omega
theorem shut_digest {H : Type} {enc : TypeId × Value → H} {X : World} {sp : Nat → Bool} {D : List Int} (hD : D.length = 32) (hb : IsBytes D) :
    DataW.Trod enc Tryd.prog X 0 sp true 24 (.agg (u8s D)) (.agg (D.map fun x => .lit (.int .u8 x))) [] := by
  refine ⟨2, ?_⟩
  have hlen : (Value.agg (u8s D)).cells.toList.length = 32 := by
    show (u8s D).toList.length = 32
    rw [Array.length_toList, u8s_size, hD]
  have hm := mapM_const (f := fun i => DataW.trod enc Tryd.prog X 0 sp true 1 5 (((Value.agg (u8s D)).cells.toList.drop (i * 1)).take 1)) (g := fun i => ((DataW.lit (.int .u8 (D.getD i 0)) : DataW H), ([] : List MemPlace))) (List.range 32) (by
    intro i hi
    have hi' : i < 32 := List.mem_range.1 hi
    have e : ((Value.agg (u8s D)).cells.toList.drop (i * 1)).take 1 = [.int .u8 (D.getD i 0)] := by
      show ((u8s D).toList.drop (i * 1)).take 1 = _
      rw [Nat.mul_one, List.drop_eq_getElem_cons (by rw [Array.length_toList, u8s_size, hD]; exact hi')]
      simp [u8s, List.getD, List.getElem?_eq_getElem (show i < D.length by omega)]
    obtain ⟨b0, b1⟩ := hb i (by omega)
    rw [e]
    generalize D.getD i 0 = x at *
    have hw : (Lit.int .u8 x).wf = true := wf8 b0 b1
    simp [DataW.trod, Tryd.underlying5, hw])
  show DataW.trod enc Tryd.prog X 0 sp true (1 + 1) 24 _ = _
  unfold DataW.trod
  rw [Tryd.underlying24]
  simp only [cellsD, cells8, hlen, if_true]
  rw [hm]
  simp only [Option.map_some, Option.some.injEq, Prod.mk.injEq, DataW.agg.injEq]
  constructor
  · apply List.ext_getElem?
    intro i
    by_cases hi : i < 32
    · simp [List.getElem?_eq_getElem (show i < D.length by omega), hi, List.getD]
    · rw [List.getElem?_eq_none (by simp; omega), List.getElem?_eq_none (by simp; omega)]
  · simp
end Go.Proofs.YtlngnhkadbjgbaaDoor
