/- Contracts of slices.Reverse at four bytes of one's own, slices.Clone. -/
import Derived.Test.YtcejbinkdlbpaaaFrmA
import Derived.Deep.RegionWith
import Derived.Deep.RegionHeld3
import Derived.Lib.BufferMore
namespace Go.Proofs.Ytcejbinkdlbpaaa
open Go.ChangeShapes Go.WideShapes Go.ChangeAt Go.RowKit Go.Deep
set_option linter.unusedVariables false
/-- four bytes, the first k and the last k of them changed with one another -/
def rev4 (x0 x1 x2 x3 : Int) : Nat → List Int
  | 0 => [x0, x1, x2, x3]
  | 1 => [x3, x1, x2, x0]
  | _ => [x3, x2, x1, x0]
set_option maxHeartbeats 1000000 in
theorem reverse4 (w : World) (base g c : Nat) (x0 x1 x2 x3 : Int) (h : Owned w base (.slice (some ⟨g, 0, none⟩) 4 c) [x0, x1, x2, x3]) :
    Calls Try.prog 25 #[.slice (some ⟨g, 0, none⟩) 4 c] w fun e w' => e = .returned (.tuple #[]) ∧ Owned w' base (.slice (some ⟨g, 0, none⟩) 4 c) [x3, x2, x1, x0] ∧ Below base w w' ∧ w'.heap.size = w.heap.size := by
  go_enter Try.func25, Try.ntmps25
  go_wp2
  go_loopg [2, 3] 2 (fun gh i j wr => ∃ k : Nat, k ≤ 2 ∧ gh = 2 - k ∧ i = .int .i64 k ∧ j = .int .i64 (3 - k) ∧ Owned wr base (.slice (some ⟨g, 0, none⟩) 4 c) (rev4 x0 x1 x2 x3 k) ∧ Below base w wr ∧ wr.heap.size = w.heap.size)
  case atStart => exact ⟨0, Nat.zero_le _, rfl, rfl, rfl, h, Below.refl _ _, rfl⟩
  case round =>
    obtain ⟨k, hk, rfl, rfl, rfl, ho, hb, hsz⟩ := hrel
    have H : Hid (Owned wr base (.slice (some ⟨g, 0, none⟩) 4 c) (rev4 x0 x1 x2 x3 k)) := ho
    clear h ho
    have hgb : base ≤ g := H.out.block g rfl
    rcases (by omega : k = 0 ∨ k = 1 ∨ k = 2) with rfl | rfl | rfl
    · have ci := World.ownsRow.cellAt H.out 0 (by decide)
      have cj := World.ownsRow.cellAt H.out 3 (by decide)
      have fi := World.ownsRow.frozenAt H.out 0
      have fj := World.ownsRow.frozenAt H.out 3
      simp [rev4] at ci cj
      have s1 := (World.ownsRow.stored H.out 0 (.int .u8 x3)).1
      have s2 := (World.ownsRow.stored s1 3 (.int .u8 x0)).1
      have O2 : Hid (Owned ((wr.setCell ⟨g, 0, none⟩ (.int .u8 x3)).setCell ⟨g, 3, none⟩ (.int .u8 x0)) base (.slice (some ⟨g, 0, none⟩) 4 c) (rev4 x0 x1 x2 x3 1)) := s2
      clear s1 s2
      go_wp2
      go_region
      go_wp2
      go_roundg 1
      case measure => omega
      case rel => exact ⟨1, by omega, rfl, by simp, by simp, O2.out, ((hb.setCell (p := ⟨g, 0, none⟩) hgb _).setCell (p := ⟨g, 3, none⟩) hgb _).drew, by simp [World.setCell, World.drew]; exact hsz⟩
    · have ci := World.ownsRow.cellAt H.out 1 (by decide)
      have cj := World.ownsRow.cellAt H.out 2 (by decide)
      have fi := World.ownsRow.frozenAt H.out 1
      have fj := World.ownsRow.frozenAt H.out 2
      simp [rev4] at ci cj
      have s1 := (World.ownsRow.stored H.out 1 (.int .u8 x2)).1
      have s2 := (World.ownsRow.stored s1 2 (.int .u8 x1)).1
      have O2 : Hid (Owned ((wr.setCell ⟨g, 1, none⟩ (.int .u8 x2)).setCell ⟨g, 2, none⟩ (.int .u8 x1)) base (.slice (some ⟨g, 0, none⟩) 4 c) (rev4 x0 x1 x2 x3 2)) := s2
      clear s1 s2
      go_wp2
      go_region
      go_wp2
      go_roundg 0
      case measure => omega
      case rel => exact ⟨2, by omega, rfl, by simp, by simp, O2.out, ((hb.setCell (p := ⟨g, 1, none⟩) hgb _).setCell (p := ⟨g, 2, none⟩) hgb _).drew, by simp [World.setCell, World.drew]; exact hsz⟩
    · go_wp2
      go_end0
      exact ⟨rfl, H.out, hb, hsz⟩

/-- a row of bytes that has just been laid is one's own -/
theorem owned_laid (A : List Int) (w : World) (base n : Nat) (hb : base ≤ w.heap.size) (hn : A.length = n) (hm : n ≤ 140737488355328) : Owned (w.alloc (.cells (A.map (Value.int .u8)).toArray 5)) base (.slice (some ⟨w.heap.size, 0, none⟩) n n) A := by
  subst hn
  exact ⟨by simp, .inr ⟨w.heap.size, A.length, (A.map (Value.int .u8)).toArray, rfl, hb, heap_alloc_new w _, Nat.le_refl _, by simp only [maxLen]; omega, by simp, by rw [List.take_of_length_le]; simp⟩⟩
theorem clone_is (w : World) (L : List Int) (n c : Nat) (x : Addr) (hn : L.length = n) (hm : n ≤ 140737488355328) (hh : Holds w (some x) L) :
    Calls Try.prog 29 #[.slice (some x) n c] w fun e w' => ∃ a' c', e = .returned (.slice a' n c') ∧ Owned w' w.heap.size (.slice a' n c') L ∧ Below w.heap.size w w' := by
  have HL : Hid (Holds (w.alloc (.cells #[] 5)) (some x) L) := by
    rcases hh with rfl | ⟨b, off, hx, hc⟩
    · exact .inl rfl
    · refine .inr ⟨b, off, hx, fun i hi => ?_⟩
      have := hc i hi
      have hlt := World.block_lt_of_cell? _ _ this
      rw [((Below.refl w.heap.size w).alloc (Nat.le_refl _) _).cell hlt]
      exact this
  have hnil : ∀ W, (binOp .eql 22 (.slice (some x) n c) (.slice none 0 0)).run Try.prog W = .ok (.bool false) W := fun W => Lib.run_eql_slice_some_nil W _ _ _ Try.underlying22
  clear hh
  go_enter Try.func29, Try.ntmps29
  go_wp2_with (at_builtin; refine append_bytes rfl (.tmp 5) (.tmp 6) rfl w.heap.size _ [] rfl (owned_empty w w.heap.size (Nat.le_refl _)) _ _ _ L rfl hn HL.out (fun h => by simp at h) n (by simp) (by omega) (by simp) ?_; intro a1 c1 w1 hown1 hbel1; have OWN1 : Hid (Owned w1 w.heap.size (.slice a1 n c1) ([] ++ L)) := hown1; have B1 : Hid (Below w.heap.size w w1) := (((Below.refl _ _).alloc (Nat.le_refl _) _).trans hbel1); clear hown1 hbel1)
  go_ret
  exact ⟨a1, c1, rfl, OWN1.out, B1.out⟩
/-- four bytes of a number, the lowest first -/
def le4 (v : Int) : List Int := [v % 256, v / 256 % 256, v / 65536 % 256, v / 16777216 % 256]
theorem fix4 (v : Int) : fixL v 4 = [v / 16777216 % 256, v / 65536 % 256, v / 256 % 256, v % 256] := by
  simp [fixL, List.range_succ]
theorem fixA_list (v : Int) : (fixA v 4 4) = #[.int .u8 (v / 16777216 % 256), .int .u8 (v / 65536 % 256), .int .u8 (v / 256 % 256), .int .u8 (v % 256)] := by
  simp [fixA, Array.ofFn_succ]
/-- the block that num.Fixed lays -/
def fixO (v : Int) : Obj := .cells #[.int .u8 (v / 16777216 % 256), .int .u8 (v / 65536 % 256), .int .u8 (v / 256 % 256), .int .u8 (v % 256)] 5
theorem fixed4 (v : Nat) (hv : v < 4294967296) (w : World) :
    Calls Try.prog 24 #[.int .u64 v, .int .i64 4] w fun e w' => e = .returned (.tuple #[.slice (some ⟨w.heap.size, 0, none⟩) 4 4, .int .i64 0]) ∧ w' = w.alloc (fixO v) := by
  have kf := fixed_ok v 4 (by decide) (by decide) (by omega) (by omega) w
  rw [fixA_list] at kf
  exact kf
theorem reverse_fix4 (v : Nat) (w : World) :
    Calls Try.prog 25 #[.slice (some ⟨w.heap.size, 0, none⟩) 4 4] (w.alloc (fixO v)) fun e w' => e = .returned (.tuple #[]) ∧ Owned w' w.heap.size (.slice (some ⟨w.heap.size, 0, none⟩) 4 4) (le4 v) ∧ Below w.heap.size w w' ∧ w'.heap.size = w.heap.size + 1 := by
  have ho := owned_laid [(v : Int) / 16777216 % 256, (v : Int) / 65536 % 256, (v : Int) / 256 % 256, (v : Int) % 256] w w.heap.size 4 (Nat.le_refl _) rfl (by decide)
  refine (reverse4 _ w.heap.size w.heap.size 4 _ _ _ _ ho).mono ?_
  rintro e w' ⟨rfl, ho, hb, hs⟩
  exact ⟨rfl, ho, ((Below.refl _ _).alloc (Nat.le_refl _) _).trans hb, by rw [hs]; simp⟩
theorem numberBytes_is (v : Nat) (hv : v < 4294967296) (w : World) :
    Calls Try.prog 17 #[.int .u32 v] w fun e w' => e = .returned (.slice (some ⟨w.heap.size, 0, none⟩) 4 4) ∧ Owned w' w.heap.size (.slice (some ⟨w.heap.size, 0, none⟩) 4 4) (le4 v) ∧ Below w.heap.size w w' ∧ w'.heap.size = w.heap.size + 1 := by
  go_enter Try.func17, Try.ntmps17
  go_wp2_with (first | (go_at_call 24; refine (fixed4 v hv w).mono ?_; rintro e w' ⟨rfl, hw⟩; obtain rfl := hw.symm; clear hw) | (go_at_call 25; refine (reverse_fix4 v w).mono ?_; rintro e w' ⟨rfl, ho, hb, hs⟩))
  go_ret
  exact ⟨rfl, ho, hb, hs⟩
end Go.Proofs.Ytcejbinkdlbpaaa
