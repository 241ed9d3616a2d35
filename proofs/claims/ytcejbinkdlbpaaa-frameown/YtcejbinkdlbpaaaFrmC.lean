/- Contracts of frame's reader: take, number. -/
import Derived.Test.YtcejbinkdlbpaaaFrmB
import Derived.Deep.QuietTactic
import Derived.BigQuiet
namespace Go.Proofs.Ytcejbinkdlbpaaa
open Go.ChangeShapes Go.WideShapes Go.ChangeAt Go.RowKit Go.Deep
set_option linter.unusedVariables false
/-- block R is a reader of a slice, k of whose bytes were taken -/
def Reader (w : World) (R : Nat) (a : Option Addr) (n c k : Nat) : Prop := w.heap[R]? = some (.cells #[.slice a n c, .int .i64 k] 53 (0, 0))
theorem Reader.cells {w : World} {R : Nat} {a : Option Addr} {n c k : Nat} (h : Reader w R a n c k) : w.cell? ⟨R, 0, none⟩ = some (.slice a n c) ∧ w.cell? ⟨R, 1, none⟩ = some (.int .i64 k) ∧ w.frozen? ⟨R, 1, none⟩ = false := by
  refine ⟨?_, ?_, frozen_of_row w R 1 _ _ h⟩
  · rw [cell_of_row w R 0 _ _ _ h]; rfl
  · rw [cell_of_row w R 1 _ _ _ h]; rfl
theorem below_drewN {B : Nat} {a w : World} (h : Below B a w) (n : Nat) : Below B a (w.drewN n) := h.trans ⟨rfl, rfl, rfl, Nat.le_refl _, fun _ _ => rfl⟩
theorem Reader.lt {w : World} {R : Nat} {a : Option Addr} {n c k : Nat} (h : Reader w R a n c k) : R < w.heap.size := by
  unfold Reader at h
  exact (Array.getElem?_eq_some_iff.1 h).1
theorem Reader.step {w : World} {R : Nat} {a : Option Addr} {n c k : Nat} (h : Reader w R a n c k) (q m : Nat) : Reader ((w.drewN q).setCell ⟨R, 1, none⟩ (.int .i64 ((k : Int) + (m : Int)))) R a n c (k + m) := by
  have := heap_setCell_same (w.drewN q) R 1 _ _ (.int .i64 ((k : Int) + (m : Int))) h
  unfold Reader
  rw [this]
  rfl
theorem Reader.below {w w' : World} {R B : Nat} {a : Option Addr} {n c k : Nat} (h : Reader w R a n c k) (hb : Below B w w') (hR : R < B) : Reader w' R a n c k := by
  unfold Reader at *
  rw [hb.block R hR, h]
theorem take_ok (w : World) (R b off n c k m : Nat) (h : Reader w R (some ⟨b, off, none⟩) n c k) (hm : k + m ≤ n) (hn : n ≤ c) (hc : c ≤ 9223372036854775807) (hn62 : n ≤ 4611686018427387904) :
    Calls Try.prog 22 #[.pointer (some ⟨R, 0, none⟩), .int .i64 m] w fun e w' => ∃ x, e = .returned (.slice (some x) m (c - k)) ∧ (0 < m → x = ⟨b, off + k, none⟩) ∧ Reader w' R (some ⟨b, off, none⟩) n c (k + m) ∧ Below R w w' ∧ w'.heap.size = w.heap.size := by
  obtain ⟨c0, c1, f1⟩ := h.cells
  have H : Hid (Reader w R (some ⟨b, off, none⟩) n c k) := h
  clear h
  have e1 : ¬ ((n : Int) - k < m) := by omega
  go_enter Try.func22, Try.ntmps22
  go_wp2
  go_quiet (fail)
  go_wp2
  go_quiet (fail)
  go_wp2
  · rename_i h
    subst h
    go_ret
    exact ⟨_, rfl, fun h0 => by omega, H.out.step _ _, (below_drewN (Below.refl _ _) _).setCell (p := ⟨R, 1, none⟩) (Nat.le_refl _) _, by simp [World.setCell, World.drewN]⟩
  · go_ret
    exact ⟨_, rfl, fun _ => rfl, H.out.step _ _, (below_drewN (Below.refl _ _) _).setCell (p := ⟨R, 1, none⟩) (Nat.le_refl _) _, by simp [World.setCell, World.drewN]⟩
/-- what a reader that ends too soon panics with -/
def ended : List PanicEntry := [{ v := .iface 23 (.int .i64 4), recovered := false }]
theorem take_end (w : World) (R n c k m : Nat) (a : Option Addr) (h : Reader w R a n c k) (hm : n < k + m) (hk : k ≤ n) (hn : n ≤ 4611686018427387904) (hm2 : m ≤ 140737488355328) :
    Calls Try.prog 22 #[.pointer (some ⟨R, 0, none⟩), .int .i64 m] w fun e w' => e = .panicked ended ∧ Below w.heap.size w w' ∧ w'.heap.size = w.heap.size := by
  obtain ⟨c0, c1, f1⟩ := h.cells
  have H : Hid (Reader w R a n c k) := h
  clear h
  have e1 : ((n : Int) - k < m) := by omega
  go_enter Try.func22, Try.ntmps22
  go_wp2
  go_quiet (fail)
  go_wp2
  exact ⟨rfl, rfl, below_drewN (Below.refl _ _) _, by simp⟩
/-- the number of the four bytes behind the first k, the lowest first -/
def ge4 (L : List Int) (k : Nat) : Int := L.getD k 0 + 256 * L.getD (k + 1) 0 + 65536 * L.getD (k + 2) 0 + 16777216 * L.getD (k + 3) 0
theorem ge4_range (L : List Int) (hb : IsBytes L) (k : Nat) (h : k + 4 ≤ L.length) : 0 ≤ ge4 L k ∧ ge4 L k < 4294967296 := by
  have h0 := hb k (by omega)
  have h1 := hb (k + 1) (by omega)
  have h2 := hb (k + 2) (by omega)
  have h3 := hb (k + 3) (by omega)
  unfold ge4
  omega
theorem holds4 {w : World} {b off : Nat} {L : List Int} (h : Holds w (some ⟨b, off, none⟩) L) (k : Nat) (hk : k + 4 ≤ L.length) : Holds w (some ⟨b, off + k, none⟩) [L.getD k 0, L.getD (k + 1) 0, L.getD (k + 2) 0, L.getD (k + 3) 0] := by
  rcases h with rfl | ⟨b', off', hx, hc⟩
  · simp at hk
  · simp only [Option.some.injEq, Addr.mk.injEq, and_true] at hx
    obtain ⟨rfl, rfl⟩ := hx
    refine .inr ⟨b, off + k, rfl, fun i hi => ?_⟩
    have hi4 : i < 4 := by simpa using hi
    rw [Nat.add_assoc, hc (k + i) (by omega)]
    rcases (by omega : i = 0 ∨ i = 1 ∨ i = 2 ∨ i = 3) with rfl | rfl | rfl | rfl <;> simp
theorem readFixed4 (w : World) (a : Option Addr) (c : Nat) (y0 y1 y2 y3 : Int) (hb : IsBytes [y3, y2, y1, y0]) (hh : Holds w a [y3, y2, y1, y0]) :
    Calls Try.prog 30 #[.slice a 4 c, .int .i64 4] w fun e w' => e = .returned (.tuple #[.int .u64 (y0 + 256 * y1 + 65536 * y2 + 16777216 * y3), .int .i64 0]) ∧ w' = w := by
  have h := readFixed_ok [y3, y2, y1, y0] 4 4 a c rfl (by decide) hb w hh (by decide) (by decide) (by decide)
  have e : val ([y3, y2, y1, y0].take 4) = y0 + 256 * y1 + 65536 * y2 + 16777216 * y3 := by simp [val]; omega
  rw [e] at h
  exact h
theorem number_ok (w : World) (R b off n c k : Nat) (L : List Int) (h : Reader w R (some ⟨b, off, none⟩) n c k) (hm : k + 4 ≤ n) (hn : n ≤ c) (hc : c ≤ 9223372036854775807) (hn62 : n ≤ 4611686018427387904)
    (hl : L.length = n) (hb : IsBytes L) (hh : Holds w (some ⟨b, off, none⟩) L) (hbR : b < R) :
    Calls Try.prog 21 #[.pointer (some ⟨R, 0, none⟩)] w fun e w' => e = .returned (.int .u32 (ge4 L k)) ∧ Reader w' R (some ⟨b, off, none⟩) n c (k + 4) ∧ Below R w w' := by
  have h4 : Hid (Holds w (some ⟨b, off + k, none⟩) [L.getD k 0, L.getD (k + 1) 0, L.getD (k + 2) 0, L.getD (k + 3) 0]) := holds4 hh k (by omega)
  have H : Hid (Reader w R (some ⟨b, off, none⟩) n c k) := h
  obtain ⟨g0, g1⟩ := ge4_range L hb k (by omega)
  have hg : Hid (IsBytes [L.getD (k + 3) 0, L.getD (k + 2) 0, L.getD (k + 1) 0, L.getD k 0]) := by
    apply bytes_of_mem
    intro x hx
    simp only [List.mem_cons, List.not_mem_nil, or_false] at hx
    rcases hx with rfl | rfl | rfl | rfl <;> exact hb _ (by omega)
  have hge : Hid (ge4 L k = L.getD k 0 + 256 * L.getD (k + 1) 0 + 65536 * L.getD (k + 2) 0 + 16777216 * L.getD (k + 3) 0) := rfl
  have hR := h.lt
  clear h hb hh
  generalize L.getD k 0 = y0 at *
  generalize L.getD (k + 1) 0 = y1 at *
  generalize L.getD (k + 2) 0 = y2 at *
  generalize L.getD (k + 3) 0 = y3 at *
  generalize ge4 L k = y at *
  go_enter Try.func21, Try.ntmps21
  go_wp2_with fail
  refine (take_ok w R b off n c k 4 H.out hm hn hc hn62).mono ?_
  rintro e w1 ⟨x, rfl, hx, hr1, hb1, hs1⟩
  obtain rfl := hx (by decide)
  have R1 : Hid (Reader w1 R (some ⟨b, off, none⟩) n c (k + 4)) := hr1
  have B1 : Hid (Below R w w1) := hb1
  have H1 : Hid (Holds w1 (some ⟨b, off + k, none⟩) [y0, y1, y2, y3]) := h4.out.below hb1 (fun x hx _ => by simp at hx; subst hx; exact hbR)
  clear hr1 hb1 hx h4
  go_wp2_with fail
  refine (clone_is w1 [y0, y1, y2, y3] 4 (c - k) ⟨b, off + k, none⟩ rfl (by decide) H1.out).mono ?_
  rintro e w2 ⟨a2, c2, rfl, ho2, hb2⟩
  obtain ⟨g, rfl⟩ : ∃ g, a2 = some ⟨g, 0, none⟩ := by
    rcases ho2.2 with ⟨hv, _⟩ | ⟨g, cap, cur, hv, _⟩
    · simp at hv
    · simp only [Value.slice.injEq] at hv
      exact ⟨g, hv.1⟩
  have O2 : Hid (Owned w2 w1.heap.size (.slice (some ⟨g, 0, none⟩) 4 c2) [y0, y1, y2, y3]) := ho2
  have B2 : Hid (Below w1.heap.size w1 w2) := hb2
  clear ho2 hb2 H1
  go_wp2_with fail
  refine (reverse4 w2 w1.heap.size g c2 y0 y1 y2 y3 O2.out).mono ?_
  rintro e w3 ⟨rfl, ho3, hb3, hs3⟩
  have O3 : Hid (Owned w3 w1.heap.size (.slice (some ⟨g, 0, none⟩) 4 c2) [y3, y2, y1, y0]) := ho3
  have B3 : Hid (Below w1.heap.size w2 w3) := hb3
  clear ho3 hb3 O2
  go_wp2_with fail
  refine (readFixed4 w3 _ c2 y0 y1 y2 y3 hg.out O3.out.holds.1).mono ?_
  rintro e w4 ⟨rfl, hw⟩
  obtain rfl := hw.symm
  clear hw
  rw [← hge.out]
  go_wp2
  go_ret
  have hR1 : R < w1.heap.size := by omega
  have b3 : Below w1.heap.size w1 w3 := B2.out.trans B3.out
  refine ⟨?_, R1.out.below b3 hR1, B1.out.trans (b3.mono (by omega))⟩
  first | rfl | (congr 2; omega)
theorem number_end (w : World) (R n c k : Nat) (a : Option Addr) (h : Reader w R a n c k) (hm : n < k + 4) (hk : k ≤ n) (hn : n ≤ 4611686018427387904) :
    Calls Try.prog 21 #[.pointer (some ⟨R, 0, none⟩)] w fun e w' => e = .panicked ended ∧ Below w.heap.size w w' ∧ w'.heap.size = w.heap.size := by
  have H : Hid (Reader w R a n c k) := h
  clear h
  go_enter Try.func21, Try.ntmps21
  go_wp2_with fail
  refine (take_end w R n c k 4 a H.out hm hk hn (by decide)).mono ?_
  rintro e w1 ⟨rfl, hb1, hs1⟩
  go_wp2
  exact ⟨rfl, rfl, hb1, hs1⟩
end Go.Proofs.Ytcejbinkdlbpaaa
