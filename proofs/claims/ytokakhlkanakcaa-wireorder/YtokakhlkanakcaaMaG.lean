/- References in memory; digests as keys; manifest.Check. -/
import Derived.Test.YtokakhlkanakcaaMaA
import Derived.Deep.MidRow
import Derived.Deep.WholeRow
import Derived.WideKeyArr
import Derived.Laws.CopyOwn
import Derived.Maps.Own
import Derived.Maps.OwnOps
import Derived.Maps.OwnSet
import Derived.Maps.Views
namespace Go.Proofs.Ytokakhlkanakcaa
open Go.ChangeShapes Go.WideShapes Go.ChangeAt Go.RowKit Go.Deep Go.Maps
set_option linter.unusedVariables false
/-- the cells of a reference -/
def rcl (x : Rf) : List Value := x.1.map (Value.int .u8) ++ [.int .i64 x.2]
theorem rcl_len {x : Rf} (h : x.1.length = 32) : (rcl x).length = 33 := by simp [rcl, h]
/-- a slice of references may be read -/
def InR (w : World) (a : Option Addr) (l : List Rf) : Prop := l = [] ∨ ∃ b off, a = some ⟨b, off, none⟩ ∧ b < w.heap.size ∧ ∀ i x, l[i]? = some x → w.rangeAt b (off + i * 33) (rcl x)
theorem rangeAt_below {w w' : World} {b o B : Nat} {cs : List Value} (h : w.rangeAt b o cs) (hb : Below B w w') (hB : b < B) : w'.rangeAt b o cs := fun i v hi => (hb.cell (p := ⟨b, o + i, none⟩) hB).trans (h i v hi)
theorem InR.keep {w w' : World} {a : Option Addr} {l : List Rf} (h : InR w a l) (hb : Below w.heap.size w w') : InR w' a l := by
  rcases h with e | ⟨b, off, h1, h2, h3⟩
  · exact .inl e
  · exact .inr ⟨b, off, h1, Nat.lt_of_lt_of_le h2 hb.size, fun i x hx => rangeAt_below (h3 i x hx) hb h2⟩
theorem InR.at {w : World} {a : Option Addr} {l : List Rf} (h : InR w a l) {j : Nat} {x : Rf} (hx : l[j]? = some x) : ∃ b off, a = some ⟨b, off, none⟩ ∧ b < w.heap.size ∧ w.rangeAt b (off + j * 33) (rcl x) := by
  rcases h with e | ⟨b, off, h1, h2, h3⟩
  · subst e; simp at hx
  · exact ⟨b, off, h1, h2, h3 j x hx⟩
theorem arrKey : WideMaps.ArrKey Try.prog 79 5 32 := ⟨Try.underlying79, by kernel_rfl, by kernel_rfl, by kernel_rfl⟩
theorem lawD : Keyed Try.prog 79 := Keyed.of_law arrKey.law
theorem zeroI (w : World) : (zeroValue 3).run Try.prog w = .ok (.int .i64 0) w := by kernel_rfl
/-- the key of a digest -/
def kd (d : List Int) : Lit := .string (keyBytes (d.map (Lit.int .u8)))
def dv (d : List Int) : Value := .agg (d.map (Value.int .u8)).toArray
theorem mapM_some {α β : Type} {f : α → Option β} {g : α → β} : ∀ (l : List α), (∀ a ∈ l, f a = some (g a)) → l.mapM f = some (l.map g)
  | [], _ => rfl
  | a :: r, h => by
    rw [List.mapM_cons, h a (by simp), mapM_some r (fun b hb => h b (by simp [hb]))]
    rfl
theorem wf8M {x : Int} (h0 : 0 ≤ x) (h1 : x ≤ 255) : (Lit.int .u8 x).wf = true := by
  simp [Lit.wf, IntKind.min, IntKind.max, IntKind.signed, IntKind.bits]
  omega
theorem flat_one {α β : Type} (f : α → β) : ∀ l : List α, (l.map fun i => [f i]).flatten = l.map f
  | [] => rfl
  | a :: r => by simp [flat_one f r]
theorem range_get {β : Type} (f : Int → β) (d : List Int) : (List.range d.length).map (fun i => f (d.getD i 0)) = d.map f := by
  apply List.ext_getElem
  · simp
  · intro i h1 h2
    have hi : i < d.length := by simpa using h1
    simp [List.getD, hi]
theorem one_at {β : Type} (f : Int → β) (d : List Int) (i : Nat) (h : i < d.length) : ((d.map f).drop i).take 1 = [f (d.getD i 0)] := by
  rw [List.drop_eq_getElem_cons (by simpa using h)]
  simp [List.getD, h]
theorem cellsU8 : Try.prog.cellsOf 5 = 1 := by kernel_rfl
theorem cellsDg : Try.prog.cellsOf 79 = 32 := by kernel_rfl
theorem keyTypeDg : Try.prog.keyType 79 = true := by kernel_rfl
theorem typesPos : 0 < Try.prog.types.size := of_decide_eq_true (by kernel_rfl)
theorem keyOf_dg (d : List Int) (hd : d.length = 32) (hb : IsBytes d) : keyOf Try.prog 79 (dv d) = some (kd d) := by
  obtain ⟨m, hm⟩ : ∃ m, Try.prog.types.size = m + 1 := ⟨Try.prog.types.size - 1, by have := typesPos; omega⟩
  unfold keyOf dv kd
  rw [Try.underlying79]
  have h2 : (Value.agg (d.map (Value.int .u8)).toArray).formed Try.prog 79 = true := by
    simp only [Value.formed, Try.underlying79, cellsDg]
    simp [hd]
  have h3 : Try.prog.keyLits (Try.prog.types.size + 1) 79 (d.map (Value.int .u8)) = some (d.map (Lit.int .u8)) := by
    unfold Program.keyLits
    rw [Try.underlying79]
    simp only
    rw [if_pos (by rw [cellsDg]; simp [hd]), mapM_some (g := fun i => [Lit.int .u8 (d.getD i 0)])]
    · simp only [Option.map_some, Option.some.injEq]
      rw [flat_one (fun i => Lit.int .u8 (d.getD i 0)), ← hd, range_get]
    · intro i hi
      have hi' : i < 32 := by simpa using hi
      rw [hm, cellsU8]
      unfold Program.keyLits
      rw [Try.underlying5]
      have e : ((d.map (Value.int .u8)).drop (i * 1)).take 1 = [Value.int .u8 (d.getD i 0)] := by
        rw [Nat.mul_one]
        exact one_at _ d i (by omega)
      rw [e]
      simp only
      have hbi := hb i (by omega)
      rw [if_pos ⟨trivial, wf8M hbi.1 hbi.2⟩]
  simp only [keyTypeDg, h2, Bool.and_self, if_true]
  have h4 : (Value.agg (d.map (Value.int .u8)).toArray).cells.toList = d.map (Value.int .u8) := by simp [Value.cells]
  rw [h4, h3]
  rfl
theorem kd_inj {d e : List Int} (hd : d.length = 32) (hb : IsBytes d) (he : e.length = 32) (hc : IsBytes e) (h : kd d = kd e) : d = e := by
  have h1 := keyOf_dg d hd hb
  have h2 := keyOf_dg e he hc
  rw [← h] at h2
  have := lawD.inj h1 h2
  simp only [dv, Value.agg.injEq] at this
  have h3 : d.map (Value.int .u8) = e.map (Value.int .u8) := by simpa using congrArg Array.toList this
  exact (List.map_inj_right (fun a b h => by cases h; rfl)).1 h3
/-- the map holds just these digests -/
def Has (D : DataW Unit) (ds : List (List Int)) : Prop := IsMap D ∧ ∀ e : List Int, e.length = 32 → IsBytes e → Maps.has D (kd e) = decide (e ∈ ds)
end Go.Proofs.Ytokakhlkanakcaa
