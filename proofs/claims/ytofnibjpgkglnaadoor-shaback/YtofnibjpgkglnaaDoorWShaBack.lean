/- The walk of ShaBack. -/
import Derived.Test.YtofnibjpgkglnaaDoorShaK
import Derived.Test.YtofnibjpgkglnaaDoorShaU
import Derived.Test.YtofnibjpgkglnaaDoorShaQ
import Derived.Test.YtofnibjpgkglnaaDoorShaT
import Derived.Test.YtofnibjpgkglnaaDoorShaN
namespace Go.Proofs.YtofnibjpgkglnaaDoor
open Go.ChangeShapes Go.WideShapes Go.ChangeAt Go.RowKit Go.Deep
set_option linter.unusedVariables false
set_option maxRecDepth 100000 in
set_option maxHeartbeats 8000000 in
theorem shaBack_walk (D : List Int) (s : ByteArray) (w : World) (l0 : D.length = 32) (w0 : IsBytes D) (hs : s.size ≤ 140737488355328) (hk : KIs w) :
    Calls Tryd.prog 6 #[.agg (u8s D), .string s] w fun e w' => e = .returned (.bool true) ∧ Below w.heap.size w w' := by
  have HK : Hid (KIs w) := hk
  have hz24 := (zero_of_info zero24_info).1
  have hgd := guard_digest
  have HW0 : Hid (IsBytes D) := w0
  have hex64 : (strOfNums (hexL D)).size = 64 := by rw [str_size, hexL_len, l0]
  have KH : Hid (∀ W : World, Calls Tryd.prog 14 #[.agg (u8s D)] W fun e w' => e = .returned (.string (strOfNums (hexL D))) ∧ Below W.heap.size W w') := fun W => hex_is D l0 w0 W
  have K1 : Hid (∀ W : World, Calls Tryd.prog 12 #[.string (strOfNums (hexL D))] W fun e w' => e = .returned (.tuple #[.agg (u8s D), .int .i64 0]) ∧ Below W.heap.size W w') := fun W => by
    have h := read_is (strOfNums (hexL D)) (by omega) W
    rw [(read_hex D l0 w0).1, (read_hex D l0 w0).2] at h
    exact h
  have K2 : Hid (∀ (W : World) (t : ByteArray), t.size ≠ 64 → t.size ≤ 100 → Calls Tryd.prog 12 #[.string t] W fun e w' => e = .returned (.tuple #[.agg z32, .int .i64 5]) ∧ Below W.heap.size W w') := fun W t h1 h2 => by
    have h := read_is t (by omega) W
    rw [(rd_no (s := t) (fun h => h1 h.1)).1, (rd_no (s := t) (fun h => h1 h.1)).2] at h
    exact h
  have heq := fun W : World => eq_digest D D l0 l0 W
  rw [decide_eq_true rfl] at heq
  have heqz : ∀ W : World, (Op.equalIn 10000 24 (.agg z32) (.agg z32)).run Tryd.prog W = .ok true W := fun W => by
    have := eq_digest (fillN [] 32 0) (fillN [] 32 0) rfl rfl W
    rw [decide_eq_true rfl] at this
    exact this
  generalize strOfNums (hexL D) = t at *
  have H0 : Hid ((w.alloc (.cells (u8s D) 24)).heap[w.heap.size]? = some (.cells (u8s D) 24)) := heap_alloc_last w _
  have B0 : Hid (Below w.heap.size w (w.alloc (.cells (u8s D) 24))) := (Below.refl _ _).alloc (Nat.le_refl _) _
  clear hk w0
  go_enter Tryd.func6, Tryd.ntmps6
  go_wp2_with (refine wpList_load_row rfl 24 (.tmp 2) rfl w.heap.size rfl 24 (u8s D) (0, 0) _ H0.out Tryd.underlying24 rfl (size32l D l0) ?_)
  refine (KH.out _).mono ?_
  rintro e w1 ⟨rfl, hb⟩
  have H1 : Hid (w1.heap[w.heap.size]? = some (.cells (u8s D) 24)) := (hb.block _ (lt_of_heap H0.out)).trans H0.out
  have B1 : Hid (Below w.heap.size w w1) := B0.out.trans (hb.mono B0.out.size)
  clear hb
  go_wp2_with fail
  refine (K1.out _).mono ?_
  rintro e w2 ⟨rfl, hb⟩
  have H2 : Hid (w2.heap[w.heap.size]? = some (.cells (u8s D) 24)) := (hb.block _ (lt_of_heap H1.out)).trans H1.out
  have B2 : Hid (Below w.heap.size w w2) := B1.out.trans (hb.mono B1.out.size)
  clear hb
  have Hw2_D : Hid (w2.heap[w.heap.size]? = some (.cells (u8s D) 24)) := H2.out
  have Bw2 : Hid (Below w.heap.size w w2) := B2.out
  clear H2 B2 H1 B1 H0 B0 KH K1
  have HAw2 : Hid ((w2.alloc (.cells z32 24)).heap[w2.heap.size]? = some (.cells z32 24)) := heap_alloc_last w2 _
  have Hu2_X0 : Hid (((w2.alloc (.cells z32 24)).setRow w2.heap.size (u8s D)).heap[w2.heap.size]? = some (.cells (u8s D) 24)) := setRow_heap _ _ _ _ _ _ HAw2.out
  have Hu2_D0 : Hid (((w2.alloc (.cells z32 24)).setRow w2.heap.size (u8s D)).heap[w.heap.size]? = some (.cells (u8s D) 24)) := (setRow_other _ _ _ _ (Nat.ne_of_lt (lt_of_heap Hw2_D.out))).trans ((Below.heap_alloc _ _ _ (lt_of_heap Hw2_D.out)).trans Hw2_D.out)
  have Bu20 : Hid (Below w.heap.size w ((w2.alloc (.cells z32 24)).setRow w2.heap.size (u8s D))) := below_setRow (Bw2.out.alloc Bw2.out.size _) Bw2.out.size _
  go_wp2_with (first | (refine wpList_store_row rfl 24 (.tmp 6) (.tmp 19) rfl w2.heap.size (u8s D) rfl rfl 24 z32 HAw2.out (size32l D l0) (by rw [z32_size, u8s_size, l0]) (u8s_one _) ?_))
  obtain ⟨gX, hgX⟩ : ∃ g, g = w2.heap.size := ⟨_, rfl⟩
  generalize ((w2.alloc (.cells z32 24)).setRow w2.heap.size (u8s D)) = u2 at *
  have Hu2_D := Hu2_D0
  have Hu2_X := Hu2_X0
  have Bu2 := Bu20
  refine (K2.out _ _ (by rw [ByteArray.size_append, hex64]; decide) (by rw [ByteArray.size_append, hex64]; decide)).mono ?_
  rintro e w3 ⟨rfl, hb⟩
  have Hw3_D : Hid (w3.heap[w.heap.size]? = some (.cells (u8s D) 24)) := (hb.block _ (lt_of_heap Hu2_D.out)).trans Hu2_D.out
  have Hw3_X : Hid (w3.heap[w2.heap.size]? = some (.cells (u8s D) 24)) := (hb.block _ (lt_of_heap Hu2_X.out)).trans Hu2_X.out
  have Bw3 : Hid (Below w.heap.size w w3) := Bu2.out.trans (hb.mono Bu2.out.size)
  clear hb
  have HAw3 : Hid ((w3.alloc (.cells z32 24)).heap[w3.heap.size]? = some (.cells z32 24)) := heap_alloc_last w3 _
  have Hu3_Y0 : Hid (((w3.alloc (.cells z32 24)).setRow w3.heap.size z32).heap[w3.heap.size]? = some (.cells z32 24)) := setRow_heap _ _ _ _ _ _ HAw3.out
  have Hu3_D0 : Hid (((w3.alloc (.cells z32 24)).setRow w3.heap.size z32).heap[w.heap.size]? = some (.cells (u8s D) 24)) := (setRow_other _ _ _ _ (Nat.ne_of_lt (lt_of_heap Hw3_D.out))).trans ((Below.heap_alloc _ _ _ (lt_of_heap Hw3_D.out)).trans Hw3_D.out)
  have Hu3_X0 : Hid (((w3.alloc (.cells z32 24)).setRow w3.heap.size z32).heap[w2.heap.size]? = some (.cells (u8s D) 24)) := (setRow_other _ _ _ _ (Nat.ne_of_lt (lt_of_heap Hw3_X.out))).trans ((Below.heap_alloc _ _ _ (lt_of_heap Hw3_X.out)).trans Hw3_X.out)
  have Bu30 : Hid (Below w.heap.size w ((w3.alloc (.cells z32 24)).setRow w3.heap.size z32)) := below_setRow (Bw3.out.alloc Bw3.out.size _) Bw3.out.size _
  go_wp2_with (first | (refine wpList_store_row rfl 24 (.tmp 8) (.tmp 25) rfl w3.heap.size z32 rfl rfl 24 z32 HAw3.out (by rw [z32_size]; exact size32) rfl z32_one ?_))
  obtain ⟨gY, hgY⟩ : ∃ g, g = w3.heap.size := ⟨_, rfl⟩
  generalize ((w3.alloc (.cells z32 24)).setRow w3.heap.size z32) = u3 at *
  have Hu3_D := Hu3_D0
  have Hu3_X := Hu3_X0
  have Bu3 := Bu30
  have hgg : w2.heap.size < w3.heap.size := lt_of_heap Hw3_X.out
  clear hgg
  refine (K2.out _ _ (by rw [ByteArray.size_extract, hex64]; decide) (by rw [ByteArray.size_extract, hex64]; decide)).mono ?_
  rintro e w4 ⟨rfl, hb⟩
  have Hw4_D : Hid (w4.heap[w.heap.size]? = some (.cells (u8s D) 24)) := (hb.block _ (lt_of_heap Hu3_D.out)).trans Hu3_D.out
  have Hw4_X : Hid (w4.heap[w2.heap.size]? = some (.cells (u8s D) 24)) := (hb.block _ (lt_of_heap Hu3_X.out)).trans Hu3_X.out
  have Bw4 : Hid (Below w.heap.size w w4) := Bu3.out.trans (hb.mono Bu3.out.size)
  clear hb
  have HAw4 : Hid ((w4.alloc (.cells z32 24)).heap[w4.heap.size]? = some (.cells z32 24)) := heap_alloc_last w4 _
  have Hu4_Z0 : Hid (((w4.alloc (.cells z32 24)).setRow w4.heap.size z32).heap[w4.heap.size]? = some (.cells z32 24)) := setRow_heap _ _ _ _ _ _ HAw4.out
  have Hu4_D0 : Hid (((w4.alloc (.cells z32 24)).setRow w4.heap.size z32).heap[w.heap.size]? = some (.cells (u8s D) 24)) := (setRow_other _ _ _ _ (Nat.ne_of_lt (lt_of_heap Hw4_D.out))).trans ((Below.heap_alloc _ _ _ (lt_of_heap Hw4_D.out)).trans Hw4_D.out)
  have Hu4_X0 : Hid (((w4.alloc (.cells z32 24)).setRow w4.heap.size z32).heap[w2.heap.size]? = some (.cells (u8s D) 24)) := (setRow_other _ _ _ _ (Nat.ne_of_lt (lt_of_heap Hw4_X.out))).trans ((Below.heap_alloc _ _ _ (lt_of_heap Hw4_X.out)).trans Hw4_X.out)
  have Bu40 : Hid (Below w.heap.size w ((w4.alloc (.cells z32 24)).setRow w4.heap.size z32)) := below_setRow (Bw4.out.alloc Bw4.out.size _) Bw4.out.size _
  go_wp2_with (first | (refine wpList_store_row rfl 24 (.tmp 10) (.tmp 34) rfl w4.heap.size z32 rfl rfl 24 z32 HAw4.out (by rw [z32_size]; exact size32) rfl z32_one ?_) | (refine wpList_load_row_g 24 (.tmp 6) rfl rfl w2.heap.size rfl 24 (u8s D) (0, 0) _ _ Hu4_X0.out Tryd.underlying24 (size32l D l0) ?_) | (refine wpList_load_row_g 24 (.tmp 2) rfl rfl w.heap.size rfl 24 (u8s D) (0, 0) _ _ Hu4_D0.out Tryd.underlying24 (size32l D l0) ?_))
  obtain ⟨gZ, hgZ⟩ : ∃ g, g = w4.heap.size := ⟨_, rfl⟩
  generalize ((w4.alloc (.cells z32 24)).setRow w4.heap.size z32) = u4 at *
  have Hu4_D := Hu4_D0
  have Hu4_X := Hu4_X0
  have Bu4 := Bu40
  clear Hu2_D0 Hu2_X0 Hu2_D Hu2_X Hw2_D Hu3_D Hu3_X Hu3_D0 Hu3_X0 Hw3_D Hw3_X Hw4_D Hw4_X
  by_cases hok : okText s
  · have KS : Hid (∀ W : World, Calls Tryd.prog 12 #[.string s] W fun e w' => e = .returned (.tuple #[.agg (u8s (dgs s)), .int .i64 0]) ∧ Below W.heap.size W w') := fun W => by
      have h := read_is s hs W
      rw [(rd_ok hok).1, (rd_ok hok).2] at h
      exact h
    have KX : Hid (∀ W : World, Calls Tryd.prog 14 #[.agg (u8s (dgs s))] W fun e w' => e = .returned (.string s) ∧ Below W.heap.size W w') := fun W => by
      have h := hex_is (dgs s) (dgs_len s) (dgs_bytes hok) W
      rw [hex_read s hok] at h
      exact h
    refine (KS.out _).mono ?_
    rintro e w5 ⟨rfl, hb⟩
    have Bw5 : Hid (Below w.heap.size w w5) := Bu4.out.trans (hb.mono Bu4.out.size)
    clear hb
    have HA5 : Hid ((w5.alloc (.cells z32 24)).heap[w5.heap.size]? = some (.cells z32 24)) := heap_alloc_last w5 _
    have HS5 : Hid (((w5.alloc (.cells z32 24)).setRow w5.heap.size (u8s (dgs s))).heap[w5.heap.size]? = some (.cells (u8s (dgs s)) 24)) := setRow_heap _ _ _ _ _ _ HA5.out
    have BS5 : Hid (Below w.heap.size w ((w5.alloc (.cells z32 24)).setRow w5.heap.size (u8s (dgs s)))) := below_setRow (Bw5.out.alloc Bw5.out.size _) Bw5.out.size _
    go_wp2_with (first | (refine wpList_store_row rfl 24 (.tmp 12) (.tmp 59) rfl w5.heap.size (u8s (dgs s)) rfl rfl 24 z32 HA5.out (size32l _ (dgs_len s)) (by rw [z32_size, u8s_size, dgs_len]) (u8s_one _) ?_) | (refine wpList_load_row_g 24 (.tmp 12) rfl rfl w5.heap.size rfl 24 (u8s (dgs s)) (0, 0) _ _ HS5.out Tryd.underlying24 (size32l _ (dgs_len s)) ?_) | (go_at_call 14; refine (KX.out _).mono ?_; rintro e w6 ⟨rfl, hb⟩; have B6 : Hid (Below w.heap.size w w6) := BS5.out.trans (hb.mono BS5.out.size); clear hb) | (go_at_call 11; refine (works_true _ (HK.out.below B6.out HK.out.pos)).mono ?_; rintro e w7 ⟨rfl, hb⟩; have B7 : Hid (Below w.heap.size w w7) := B6.out.trans (hb.mono B6.out.size); clear hb))
    go_ret
    exact ⟨rfl, B7.out⟩
  · have KS : Hid (∀ W : World, Calls Tryd.prog 12 #[.string s] W fun e w' => e = .returned (.tuple #[.agg z32, .int .i64 5]) ∧ Below W.heap.size W w') := fun W => by
      have h := read_is s hs W
      rw [(rd_no hok).1, (rd_no hok).2] at h
      exact h
    refine (KS.out _).mono ?_
    rintro e w5 ⟨rfl, hb⟩
    have Bw5 : Hid (Below w.heap.size w w5) := Bu4.out.trans (hb.mono Bu4.out.size)
    clear hb
    have HA5 : Hid ((w5.alloc (.cells z32 24)).heap[w5.heap.size]? = some (.cells z32 24)) := heap_alloc_last w5 _
    have HS5 : Hid (((w5.alloc (.cells z32 24)).setRow w5.heap.size z32).heap[w5.heap.size]? = some (.cells z32 24)) := setRow_heap _ _ _ _ _ _ HA5.out
    have BS5 : Hid (Below w.heap.size w ((w5.alloc (.cells z32 24)).setRow w5.heap.size z32)) := below_setRow (Bw5.out.alloc Bw5.out.size _) Bw5.out.size _
    go_wp2_with (first | (refine wpList_store_row rfl 24 (.tmp 12) (.tmp 59) rfl w5.heap.size z32 rfl rfl 24 z32 HA5.out (by rw [z32_size]; exact size32) rfl z32_one ?_) | (refine wpList_load_row_g 24 (.tmp 12) rfl rfl w5.heap.size rfl 24 z32 (0, 0) _ _ HS5.out Tryd.underlying24 (by rw [z32_size]; exact size32) ?_) | (go_at_call 11; refine (works_true _ (HK.out.below BS5.out HK.out.pos)).mono ?_; rintro e w7 ⟨rfl, hb⟩; have B7 : Hid (Below w.heap.size w w7) := BS5.out.trans (hb.mono BS5.out.size); clear hb))
    go_ret
    exact ⟨rfl, B7.out⟩
end Go.Proofs.YtofnibjpgkglnaaDoor
