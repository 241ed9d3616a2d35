/- string(b) of a slice of bytes; slices of bytes over changes of the world. -/
import Derived.Test.YtpolnhpefcmilaaNumH
namespace Go.Proofs.Ytpolnhpefcmilaa
open Go.ChangeShapes Go.WideShapes Go.ChangeAt Go.RowKit Go.Deep
set_option linter.unusedVariables false
theorem conv_str {w : World} {a : Option Addr} {L : List Int} (h : Holds w a L) (n c : Nat) (hn : L.length = n) :
    (convert 23 9 (.slice a n c)).run Try.prog w = .ok (.string (strOfNums L)) w := by
  subst hn
  rcases h with rfl | ⟨b, off, rfl, hc⟩
  · rw [run_convert_bytes_string w 23 9 5 a _ c Try.underlying23 Try.underlying5 Try.underlying9]
    cases a with
    | none => simp [Conv.bytesToString]; rfl
    | some ad =>
      have := run_loadCells_list (P := Try.prog) w ad [] (by intro j v h; simp at h)
      rw [List.length_nil, run_bytesToString (P := Try.prog) w ad 0 c [] (by simpa using this)]
      rfl
  · exact run_convert_bytes_arg (P := Try.prog) w 23 5 Try.underlying23 Try.underlying5 b off _ c L rfl hc 9 Try.underlying9
theorem Owned.cap {w : World} {base : Nat} {a : Option Addr} {n c : Nat} {A : List Int} (h : Owned w base (.slice a n c) A) : n ≤ c ∧ c ≤ 9223372036854775807 := by
  obtain ⟨a', c', e, h1, h2, h3, h4⟩ := h.slice
  simp only [Value.slice.injEq] at e
  obtain ⟨rfl, rfl, rfl⟩ := e
  simp only [maxLen] at h3
  exact ⟨h4, by omega⟩
theorem Owned.lt_size {w : World} {base : Nat} {a : Option Addr} {n c : Nat} {A : List Int} (h : Owned w base (.slice a n c) A) : ∀ x, a = some x → x.block < w.heap.size := by
  intro x hx
  subst hx
  exact (World.ownsRow.lt h x.block rfl).2
theorem Owned.alloc {w : World} {base : Nat} {v : Value} {A : List Int} (h : Owned w base v A) (o : Obj) : Owned (w.alloc o) base v A := World.ownsRow.alloc h o
theorem Holds.take {w : World} {a : Option Addr} {L : List Int} (h : Holds w a L) (k : Nat) : Holds w a (L.take k) := by
  rcases h with rfl | ⟨b, off, rfl, hc⟩
  · exact .inl (by simp)
  · refine .inr ⟨b, off, rfl, fun i hi => ?_⟩
    rw [List.length_take] at hi
    rw [hc i (by omega)]
    simp [List.getD, show i < k by omega]
theorem Holds.pre {w : World} {a : Option Addr} {L M : List Int} (h : Holds w a (L ++ M)) : Holds w a L := by
  have := h.take L.length
  rwa [List.take_left] at this
/-- a row of literal bytes that has just been laid -/
theorem holds_one (w : World) (x : Int) : Holds (w.alloc (.cells #[.int .u8 x] 5)) (some ⟨w.heap.size, 0, none⟩) [x] :=
  .inr ⟨w.heap.size, 0, rfl, fun i hi => by
    have : i = 0 := by simpa using hi
    subst this
    simp [go_sem]⟩
theorem str_snoc (L : List Int) (x : Int) : (strOfNums (L ++ [x])).toList = (strOfNums L ++ strOfNums [x]).toList := by
  have e : strOfNums (L ++ [x]) = strOfNums L ++ strOfNums [x] := by
    apply ByteArray.ext
    rw [ByteArray.data_append]
    simp [strOfNums]
  rw [e]
end Go.Proofs.Ytpolnhpefcmilaa
