/- Contracts of frame.Frame and of the statements' own 'works'. -/
import Derived.Test.YtcejbinkdlbpaaaFrmD
namespace Go.Proofs.Ytcejbinkdlbpaaa
open Go.ChangeShapes Go.WideShapes Go.ChangeAt Go.RowKit Go.Deep
set_option linter.unusedVariables false
/-- what was one's own stays so where blocks from B on alone have changed -/
theorem Owned.below {w w' : World} {base B : Nat} {v : Value} {A : List Int} (h : Owned w base v A) (hb : Below B w w') (hB : ∀ k, v.ownBlock = some k → k < B) : Owned w' base v A := by
  refine ⟨h.1, ?_⟩
  rcases h.2 with h1 | ⟨g, cap, cur, rfl, hbg, hg, rest⟩
  · exact .inl h1
  · exact .inr ⟨g, cap, cur, rfl, hbg, (hb.block g (hB g rfl)).trans hg, rest⟩
theorem Owned.lt' {w : World} {base : Nat} {v : Value} {A : List Int} (h : Owned w base v A) : ∀ k, v.ownBlock = some k → k < w.heap.size := fun k hk => (World.ownsRow.lt h k hk).2
/-- the frame of bytes -/
def headL (L : List Int) : List Int := le4 (L.length : Nat) ++ L
def frameL (L : List Int) : List Int := headL L ++ le4 (cmore 0 (headL L) : Nat)
theorem le4_length (v : Int) : (le4 v).length = 4 := rfl
theorem le4_bytes (v : Int) : IsBytes (le4 v) := by
  apply bytes_of_mem
  intro x hx
  simp only [le4, List.mem_cons, List.not_mem_nil, or_false] at hx
  rcases hx with rfl | rfl | rfl | rfl <;> omega
theorem headL_length (L : List Int) : (headL L).length = 4 + L.length := by simp [headL, le4_length]
theorem headL_bytes {L : List Int} (h : IsBytes L) : IsBytes (headL L) := bytes_app (le4_bytes _) h
theorem frameL_length (L : List Int) : (frameL L).length = 8 + L.length := by simp [frameL, headL_length, le4_length]; omega
theorem frameL_bytes {L : List Int} (h : IsBytes L) : IsBytes (frameL L) := bytes_app (headL_bytes h) (le4_bytes _)
theorem frame_big (w : World) (a : Option Addr) (n c : Nat) (h : 4096 < n) (hn : n ≤ 4611686018427387904) :
    Calls Try.prog 9 #[.slice a n c] w fun e w' => e = .returned (.tuple #[.slice none 0 0, .int .i64 3]) ∧ w' = w := by
  have e1 : (4096 : Int) < (n : Int) := by omega
  go_enter Try.func9, Try.ntmps9
  go_wp2
  go_ret2
  exact ⟨rfl, rfl⟩
theorem make0 (N : Nat) (hN : N ≤ 140737488355328) (w : World) : ∃ w', (Instr.makeSlice 22 (.int .i64 0) (.int .i64 (N : Int))).run Try.prog w = .ok (.slice (some ⟨w.heap.size, 0, none⟩) 0 N) w' ∧ Owned w' w.heap.size (.slice (some ⟨w.heap.size, 0, none⟩) 0 N) [] ∧ Below w.heap.size w w' ∧ w.heap.size < w'.heap.size := by
  obtain ⟨i, hi, hz, h1, h2⟩ := info8p
  obtain ⟨w', hr, ho, hg⟩ := run_make_own (P := Try.prog) w w.heap.size 22 5 i (.int .u8 0) 1 Try.underlying22 hi hz h1 .i64 .i64 N (by rw [h2]; omega) (by simp only [maxLen]; omega) (Nat.le_refl _)
  refine ⟨w', hr, ho, (Below.refl _ _).grown hg (Nat.le_refl _) (fun k hk => by simp at hk), (World.ownsRow.lt ho w.heap.size rfl).2⟩
theorem frame_ok (w : World) (a : Option Addr) (n c : Nat) (L : List Int) (hl : L.length = n) (hn : n ≤ 4096) (hB : IsBytes L) (hh : Holds w a L) (hc : a = none → c = 0) (hlt : ∀ x, a = some x → L ≠ [] → x.block < w.heap.size) :
    Calls Try.prog 9 #[.slice a n c] w fun e w' => ∃ a' N c', e = .returned (.tuple #[.slice a' N c', .int .i64 0]) ∧ (frameL L).length = N ∧ Owned w' w.heap.size (.slice a' N c') (frameL L) ∧ Below w.heap.size w w' := by
  have e1 : ¬ (4096 : Int) < (n : Int) := by omega
  have HL : Hid (Holds w a L) := hh
  have HC : Hid (a = none → c = 0) := hc
  have HT : Hid (∀ x, a = some x → L ≠ [] → x.block < w.heap.size) := hlt
  have HB : Hid (IsBytes L) := hB
  obtain ⟨w1, hmk, ho1, hb1, hs1⟩ := make0 (4 + n + 4) (by omega) w
  have hmk' : (Instr.makeSlice 22 (.int .i64 0) (.int .i64 (4 + (n : Int) + 4))).run Try.prog w = .ok (.slice (some ⟨w.heap.size, 0, none⟩) 0 (4 + n + 4)) w1 := hmk
  have O1 : Hid (Owned w1 w.heap.size (.slice (some ⟨w.heap.size, 0, none⟩) 0 (4 + n + 4)) []) := ho1
  have B1 : Hid (Below w.heap.size w w1) := hb1
  clear hh hc hlt hB hmk ho1 hb1
  have en : (n : Int) % 4294967296 = n := by omega
  go_enter Try.func9, Try.ntmps9
  go_wp2_with fail
  refine (numberBytes_is n (by omega) w1).mono ?_
  rintro e w2 ⟨rfl, ho2, hb2, hs2⟩
  have N2 : Hid (Holds w2 (some ⟨w1.heap.size, 0, none⟩) (le4 n)) := ho2.holds.1
  have O2 : Hid (Owned w2 w.heap.size (.slice (some ⟨w.heap.size, 0, none⟩) 0 (4 + n + 4)) []) := O1.out.below hb2 (Owned.lt' O1.out)
  have B2 : Hid (Below w.heap.size w w2) := B1.out.trans (hb2.mono (by omega))
  clear ho2 hb2 O1 B1 hmk'
  go_wp2_with (first | (at_builtin; refine append_bytes rfl (.tmp 13) (.tmp 17) rfl w.heap.size _ [] rfl O2.out _ _ _ (le4 n) rfl rfl N2.out (fun h => by simp at h) 4 rfl (by decide) (by omega) ?_; intro a3 c3 w3 hown3 hbel3; have O3 : Hid (Owned w3 w.heap.size (.slice a3 4 c3) (le4 n)) := hown3; have B3 : Hid (Below w.heap.size w w3) := (B2.out.trans hbel3); have hs3 : w.heap.size < w3.heap.size := (by have := hbel3.size; omega); clear hown3 hbel3) | (at_builtin; refine append_bytes rfl (.tmp 19) (.tmp 20) rfl w.heap.size _ (le4 n) rfl O3.out _ _ _ L rfl hl (HL.out.below B3.out HT.out) HC.out (4 + n) (by simp [le4_length]) (by omega) (by omega) ?_; intro a4 c4 w4 hown4 hbel4; have O4 : Hid (Owned w4 w.heap.size (.slice a4 (4 + n) c4) (le4 n ++ L)) := hown4; have B4 : Hid (Below w.heap.size w w4) := (B3.out.trans hbel4); have hs4 : w.heap.size < w4.heap.size := (by have := hbel4.size; omega); clear hown4 hbel4))
  have eh : headL L = le4 n ++ L := by rw [headL, hl]
  rw [← eh] at O4
  clear eh
  refine (sum_is (headL L) (4 + n) a4 c4 (by rw [headL_length, hl]) (by omega) (headL_bytes HB.out) w4 O4.out.holds.1).mono ?_
  rintro e w' ⟨rfl, hw⟩; obtain rfl := hw.symm; clear hw
  have hS : cmore 0 (headL L) < 4294967296 := cmore_lt _ _
  have ef : frameL L = headL L ++ le4 (cmore 0 (headL L) : Nat) := rfl
  have EF : Hid (frameL L = headL L ++ le4 (cmore 0 (headL L) : Nat)) := ef
  clear ef
  generalize cmore 0 (headL L) = T at *
  go_wp2_with fail
  refine (numberBytes_is T hS w4).mono ?_
  rintro e w5 ⟨rfl, ho5, hb5, hs5⟩
  have N5 : Hid (Holds w5 (some ⟨w4.heap.size, 0, none⟩) (le4 T)) := ho5.holds.1
  have O5 : Hid (Owned w5 w.heap.size (.slice a4 (4 + n) c4) (headL L)) := O4.out.below hb5 (Owned.lt' O4.out)
  have B5 : Hid (Below w.heap.size w w5) := B4.out.trans (hb5.mono (by omega))
  have HH : Hid ((headL L).length = 4 + n) := by show (headL L).length = _; rw [headL_length, hl]
  clear ho5 hb5 O4 B4
  go_wp2_with (at_builtin; refine append_bytes rfl (.tmp 22) (.tmp 25) rfl w.heap.size _ (headL L) rfl O5.out _ _ _ (le4 T) rfl rfl N5.out (fun h => by simp at h) (8 + n) (by rw [HH.out]; omega) (by omega) (by omega) ?_; intro a6 c6 w6 hown6 hbel6; have O6 : Hid (Owned w6 w.heap.size (.slice a6 (8 + n) c6) (headL L ++ le4 T)) := hown6; have B6 : Hid (Below w.heap.size w w6) := (B5.out.trans hbel6); clear hown6 hbel6)
  go_ret2
  exact ⟨a6, 8 + n, c6, rfl, by rw [frameL_length, hl], by rw [EF.out]; exact O6.out, B6.out⟩
theorem frame_none : frameL [] = [0, 0, 0, 0, 28, 223, 68, 33] := by decide +kernel
theorem works_true (w : World) : Calls Try.prog 13 #[] w fun e w' => e = .returned (.bool true) ∧ Below w.heap.size w w' := by
  go_enter Try.func13, Try.ntmps13
  go_wp2_with fail
  refine (frame_ok w none 0 0 [] rfl (by decide) bytes_nil (.inl rfl) (fun _ => rfl) (fun x hx => by simp at hx)).mono ?_
  rintro e w1 ⟨a1, N, c1, rfl, hN, ho, hb⟩
  rw [frame_none] at hN ho
  obtain rfl : N = 8 := hN.symm
  have cv := conv_str ho.holds.1 8 c1 rfl
  rw [show strOfNums [0, 0, 0, 0, 28, 223, 68, 33] = ⟨#[0, 0, 0, 0, 28, 223, 68, 33]⟩ from rfl] at cv
  have B : Hid (Below w.heap.size w w1) := hb
  clear hN ho hb
  go_wp2
  go_ret
  exact ⟨rfl, B.out⟩
end Go.Proofs.Ytcejbinkdlbpaaa
