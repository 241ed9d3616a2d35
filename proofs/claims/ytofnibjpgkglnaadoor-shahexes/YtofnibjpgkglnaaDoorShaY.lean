/- The document's own reading of a text. -/
import Derived.Test.YtofnibjpgkglnaaDoorShaV
import Derived.Test.YtofnibjpgkglnaaDoorShaN
namespace Go.Proofs.YtofnibjpgkglnaaDoor
open Go.ChangeShapes Go.WideShapes Go.ChangeAt Go.RowKit Go.Deep
set_option linter.unusedVariables false
/-- behind c signs -/
def rdA (s : ByteArray) : Nat → List Int
  | 0 => fillN [] 32 0
  | c + 1 => (rdA s c).set (c / 2) ((rdA s c).getD (c / 2) 0 * 16 + hv (sb s c))
theorem fillN_at (D : List Int) (n c : Nat) (hD : D.length = n) (hc : c < n) : (fillN D n c).getD c 0 = 0 := by
  unfold fillN
  rw [List.getD, List.getElem?_append_right (by simp; omega), List.length_take, Nat.min_eq_left (by omega), Nat.sub_self, List.getElem?_replicate]
  split <;> rfl
theorem rdA_even (s : ByteArray) : ∀ i, i ≤ 32 → rdA s (2 * i) = fillN (dgs s) 32 i
  | 0, _ => by rw [Nat.mul_zero, rdA, fill0 (dgs s)]
  | i + 1, h => by
    have ih := rdA_even s i (by omega)
    rw [show 2 * (i + 1) = 2 * i + 1 + 1 by omega, rdA, rdA, ih, show (2 * i + 1) / 2 = i by omega, show 2 * i / 2 = i by omega, fillN_at _ _ _ (dgs_len s) (by omega), ← fillN_step _ _ _ (dgs_len s) (by omega), dgs_get s i (by omega)]
    have hl : i < (fillN (dgs s) 32 i).length := by rw [fillN_len _ _ _ (dgs_len s) (by omega)]; omega
    rw [List.set_set, List.getD, List.getElem?_set_self hl, Option.getD_some]
    congr 1
    omega
theorem rdA_len (s : ByteArray) : ∀ c, (rdA s c).length = 32
  | 0 => rfl
  | c + 1 => by rw [rdA, List.length_set, rdA_len s c]
theorem rdA_get (s : ByteArray) (c : Nat) (hc : c < 64) : (rdA s c).getD (c / 2) 0 = if c % 2 = 0 then 0 else hv (sb s (c - 1)) := by
  rcases Nat.mod_two_eq_zero_or_one c with e | e
  · rw [if_pos e]
    have h := rdA_even s (c / 2) (by omega)
    rw [show 2 * (c / 2) = c by omega] at h
    rw [h]
    exact fillN_at _ _ _ (dgs_len s) (by omega)
  · rw [if_neg (by omega)]
    obtain ⟨i, rfl⟩ : ∃ i, c = 2 * i + 1 := ⟨c / 2, by omega⟩
    have h := rdA_even s i (by omega)
    rw [rdA, h, show (2 * i + 1) / 2 = i by omega, show 2 * i / 2 = i by omega, fillN_at _ _ _ (dgs_len s) (by omega), show 2 * i + 1 - 1 = 2 * i by omega]
    have hl : i < (fillN (dgs s) 32 i).length := by rw [fillN_len _ _ _ (dgs_len s) (by omega)]; omega
    rw [List.getD, List.getElem?_set_self hl, Option.getD_some]
    omega
/-- the place, so far as it is below k -/
def atK (c : Int) (k : Nat) : Int := if 0 ≤ hv c ∧ hv c < k then hv c else -1
theorem sgn_iff (c : Int) (h0 : 0 ≤ c) (h1 : c ≤ 255) (k : Nat) (hk : k < 16) : sgn k = c ↔ hv c = (k : Int) := by
  constructor
  · intro h
    rw [← h]; exact hv_sgn k hk
  · intro h
    have := (hv_range c h0 h1).2.2 (by omega)
    rw [h, Int.toNat_natCast] at this
    exact this
theorem atK_hit (c : Int) (h0 : 0 ≤ c) (h1 : c ≤ 255) (k : Nat) (hk : k < 16) (h : sgn k = c) : atK c (k + 1) = (k : Int) := by
  have := (sgn_iff c h0 h1 k hk).1 h
  unfold atK
  rw [this, if_pos (by omega)]
theorem atK_miss (c : Int) (h0 : 0 ≤ c) (h1 : c ≤ 255) (k : Nat) (hk : k < 16) (h : ¬ sgn k = c) : atK c (k + 1) = atK c k := by
  have hne : hv c ≠ (k : Int) := fun e => h ((sgn_iff c h0 h1 k hk).2 e)
  unfold atK
  by_cases h2 : 0 ≤ hv c ∧ hv c < k
  · rw [if_pos h2, if_pos (by omega)]
  · rw [if_neg h2, if_neg (by omega)]
theorem atK_all (c : Int) (h0 : 0 ≤ c) (h1 : c ≤ 255) : atK c 16 = hv c := by
  have := hv_range c h0 h1
  unfold atK
  by_cases h2 : 0 ≤ hv c ∧ hv c < (16 : Nat)
  · rw [if_pos h2]
  · rw [if_neg h2]; omega
set_option maxRecDepth 100000 in
set_option maxHeartbeats 8000000 in
theorem rread_is (s : ByteArray) (hs : s.size ≤ 140737488355328) (w : World) :
    Calls Tryd.prog 13 #[.string s] w fun e w' => e = .returned (.tuple #[.agg (u8s (rdD s)), .int .i64 (rdE s)]) ∧ Below w.heap.size w w' := by
  have hz24 := (zero_of_info zero24_info).1
  have zo : z32.all (·.oneCell') = true := u8s_one _
  have H0 : Hid (((w.alloc (.cells z32 24)).alloc (.cells z32 24)).heap[w.heap.size]? = some (.cells z32 24)) := (Below.heap_alloc _ _ _ (by simp)).trans (heap_alloc_last w _)
  have H1 : Hid (((w.alloc (.cells z32 24)).alloc (.cells z32 24)).heap[w.heap.size + 1]? = some (.cells z32 24)) := by
    have := heap_alloc_last (w.alloc (.cells z32 24)) (.cells z32 24)
    rwa [World.size_alloc] at this
  have B0 : Hid (Below w.heap.size w ((w.alloc (.cells z32 24)).alloc (.cells z32 24))) := ((Below.refl _ _).alloc (Nat.le_refl _) _).alloc (by simp) _
  by_cases h64 : s.size = 64
  · have h64' : ((s.size : Nat) : Int) = 64 := by omega
    go_enter Tryd.func13, Tryd.ntmps13
    go_wp2_with fail
    go_loopg [5] 64 (fun g i wr => ∃ c : Nat, c ≤ 64 ∧ g = 64 - c ∧ i = .int .i64 c ∧ Hid (okTo s c) ∧ Below w.heap.size w wr ∧ wr.heap[w.heap.size]? = some (.cells z32 24) ∧ wr.heap[w.heap.size + 1]? = some (.cells (u8s (rdA s c)) 24))
    case atStart => exact ⟨0, Nat.zero_le _, rfl, rfl, fun j hj => by omega, B0.out, H0.out, H1.out⟩
    case round =>
      obtain ⟨c, hc, rfl, rfl, HOK, hbel, h0, h1⟩ := hrel
      have G : Hid (Below w.heap.size w wr ∧ wr.heap[w.heap.size]? = some (.cells z32 24) ∧ wr.heap[w.heap.size + 1]? = some (.cells (u8s (rdA s c)) 24)) := ⟨hbel, h0, h1⟩
      clear hbel h0 h1 H0 H1 B0
      by_cases hlt : c < 64
      · obtain ⟨c0, c1⟩ := sb_byte s c
        have hat := atK_all (sb s c) c0 c1
        have HAT : Hid (atK (sb s c) 16 = hv (sb s c)) := hat
        clear hat
        have hsc : c < s.size := by omega
        have i64c : (c : Int) < 64 := by omega
        go_wp2_with fail
        go_loopg [6, 7] 16 (fun g v i wr2 => ∃ k : Nat, k ≤ 16 ∧ g = 16 - k ∧ i = .int .i64 k ∧ v = .int .i64 (atK (sb s c) k) ∧ Hid (Below w.heap.size w wr2 ∧ wr2.heap[w.heap.size]? = some (.cells z32 24) ∧ wr2.heap[w.heap.size + 1]? = some (.cells (u8s (rdA s c)) 24)))
        case atStart => exact ⟨0, Nat.zero_le _, rfl, rfl, by unfold atK; rw [if_neg (by omega)], G⟩
        case round =>
          obtain ⟨k, hk, rfl, rfl, rfl, G2⟩ := hrel
          clear G
          by_cases hlt2 : k < 16
          · have ik : (k : Int) < 16 := by omega
            have HIT : Hid (sgn k = sb s c → atK (sb s c) (k + 1) = (k : Int)) := atK_hit _ c0 c1 k hlt2
            have MISS : Hid (¬ sgn k = sb s c → atK (sb s c) (k + 1) = atK (sb s c) k) := atK_miss _ c0 c1 k hlt2
            by_cases heq : sgn k = sb s c
            · have HX : Hid (atK (sb s c) (k + 1) = (k : Int)) := HIT.out heq
              have hdec : decide (sgn k = sb s c) = true := decide_eq_true heq
              have HQ : Hid (sgn k = sb s c) := heq
              clear heq HIT MISS hdec
              generalize atK (sb s c) k = av at *
              go_wp2_with fail
              refine wp_region_noPanic ?_
              refine wp_region_held_drew (S := (fun _ : World => True)) (by kernel_rfl) ?hSaA (fun hHeld => ?restaA)
              case hSaA => trivial
              case restaA =>
                refine wpAnyH_take (i := 0) (v := ?v0A) rfl (by kernel_rfl) (by kernel_rfl) (by kernel_rfl) (fun _ _ _ h => h) (Or.inl ⟨by rfl, ?hy0A⟩) hHeld ?rest0A
                case hy0A => (intro w hSw; (try dsimp only at hSw); go_simp; try with_reducible rfl)
                try simp only [Act.put, List.setIfInBounds_toArray, List.set_cons_zero, List.set_cons_succ, List.getElem_toArray, List.getElem_cons_zero]
                refine wpAnyH_take (i := 1) (v := .int .u8 (sgn k)) rfl (by kernel_rfl) (by kernel_rfl) (by kernel_rfl) (fun _ _ _ h => h) (Or.inl ⟨by rfl, ?hy1A⟩) hHeld ?rest1A
                case hy1A => (intro w hSw; exact sign_run w _ _ (.tmp 20) rfl k (by omega) .i64 rfl)
                try simp only [Act.put, List.setIfInBounds_toArray, List.set_cons_zero, List.set_cons_succ, List.getElem_toArray, List.getElem_cons_zero, List.getElem_cons_succ]
                refine wpAnyH_take (i := 2) (v := ?v2A) rfl (by kernel_rfl) (by kernel_rfl) (by kernel_rfl) (fun _ _ _ h => h) (Or.inl ⟨by rfl, ?hy2A⟩) hHeld ?rest2A
                case hy2A => (intro w hSw; (try dsimp only at hSw); go_simp; try with_reducible rfl)
                try simp only [Act.put, List.setIfInBounds_toArray, List.set_cons_zero, List.set_cons_succ, List.getElem_toArray, List.getElem_cons_zero, List.getElem_cons_succ]
                refine wpAnyH_take (i := 3) (v := ?v3A) rfl (by kernel_rfl) (by kernel_rfl) (by kernel_rfl) (fun _ _ _ h => h) (Or.inl ⟨by rfl, ?hy3A⟩) hHeld ?rest3A
                case hy3A => (intro w hSw; (try dsimp only at hSw); go_simp; try with_reducible rfl)
                try simp only [Act.put, List.setIfInBounds_toArray, List.set_cons_zero, List.set_cons_succ, List.getElem_toArray, List.getElem_cons_zero, List.getElem_cons_succ]
                refine wpAnyH_take (i := 4) (v := .int .u8 (sb s c)) rfl (by kernel_rfl) (by kernel_rfl) (by kernel_rfl) (fun _ _ _ h => h) (Or.inl ⟨by rfl, ?hy4A⟩) hHeld ?rest4A
                case hy4A => (intro w hSw; exact index_run w _ _ (.tmp 22) (.tmp 23) rfl s c (by omega) rfl rfl)
                try simp only [Act.put, List.setIfInBounds_toArray, List.set_cons_zero, List.set_cons_succ, List.getElem_toArray, List.getElem_cons_zero, List.getElem_cons_succ]
                refine wpAnyH_take (i := 5) (v := .bool true) rfl (by kernel_rfl) (by kernel_rfl) (by kernel_rfl) (fun _ _ _ h => h) (Or.inl ⟨by rfl, ?hy5A⟩) hHeld ?rest5A
                case hy5A => (intro w hSw; clear hSw; go_simp; exact HQ.out)
                try simp only [Act.put, List.setIfInBounds_toArray, List.set_cons_zero, List.set_cons_succ, List.getElem_toArray, List.getElem_cons_zero, List.getElem_cons_succ]
                refine wpAnyH_done (by kernel_rfl) ?_ _
                refine NoPanic.normal ?_
                clear hHeld
                go_wp2_with fail
                go_roundg (16 - (k + 1))
                case measure => omega
                case rel => exact ⟨k + 1, by omega, rfl, by go_num, by rw [HX.out], ⟨G2.out.1.drew, G2.out.2.1, G2.out.2.2⟩⟩
            · have HX : Hid (atK (sb s c) (k + 1) = atK (sb s c) k) := MISS.out heq
              have hdec : decide (sgn k = sb s c) = false := decide_eq_false heq
              have HQ : Hid (¬ sgn k = sb s c) := heq
              clear heq HIT MISS hdec
              generalize atK (sb s c) k = av at *
              go_wp2_with fail
              refine wp_region_noPanic ?_
              refine wp_region_held_drew (S := (fun _ : World => True)) (by kernel_rfl) ?hSaB (fun hHeld => ?restaB)
              case hSaB => trivial
              case restaB =>
                refine wpAnyH_take (i := 0) (v := ?v0B) rfl (by kernel_rfl) (by kernel_rfl) (by kernel_rfl) (fun _ _ _ h => h) (Or.inl ⟨by rfl, ?hy0B⟩) hHeld ?rest0B
                case hy0B => (intro w hSw; (try dsimp only at hSw); go_simp; try with_reducible rfl)
                try simp only [Act.put, List.setIfInBounds_toArray, List.set_cons_zero, List.set_cons_succ, List.getElem_toArray, List.getElem_cons_zero]
                refine wpAnyH_take (i := 1) (v := .int .u8 (sgn k)) rfl (by kernel_rfl) (by kernel_rfl) (by kernel_rfl) (fun _ _ _ h => h) (Or.inl ⟨by rfl, ?hy1B⟩) hHeld ?rest1B
                case hy1B => (intro w hSw; exact sign_run w _ _ (.tmp 20) rfl k (by omega) .i64 rfl)
                try simp only [Act.put, List.setIfInBounds_toArray, List.set_cons_zero, List.set_cons_succ, List.getElem_toArray, List.getElem_cons_zero, List.getElem_cons_succ]
                refine wpAnyH_take (i := 2) (v := ?v2B) rfl (by kernel_rfl) (by kernel_rfl) (by kernel_rfl) (fun _ _ _ h => h) (Or.inl ⟨by rfl, ?hy2B⟩) hHeld ?rest2B
                case hy2B => (intro w hSw; (try dsimp only at hSw); go_simp; try with_reducible rfl)
                try simp only [Act.put, List.setIfInBounds_toArray, List.set_cons_zero, List.set_cons_succ, List.getElem_toArray, List.getElem_cons_zero, List.getElem_cons_succ]
                refine wpAnyH_take (i := 3) (v := ?v3B) rfl (by kernel_rfl) (by kernel_rfl) (by kernel_rfl) (fun _ _ _ h => h) (Or.inl ⟨by rfl, ?hy3B⟩) hHeld ?rest3B
                case hy3B => (intro w hSw; (try dsimp only at hSw); go_simp; try with_reducible rfl)
                try simp only [Act.put, List.setIfInBounds_toArray, List.set_cons_zero, List.set_cons_succ, List.getElem_toArray, List.getElem_cons_zero, List.getElem_cons_succ]
                refine wpAnyH_take (i := 4) (v := .int .u8 (sb s c)) rfl (by kernel_rfl) (by kernel_rfl) (by kernel_rfl) (fun _ _ _ h => h) (Or.inl ⟨by rfl, ?hy4B⟩) hHeld ?rest4B
                case hy4B => (intro w hSw; exact index_run w _ _ (.tmp 22) (.tmp 23) rfl s c (by omega) rfl rfl)
                try simp only [Act.put, List.setIfInBounds_toArray, List.set_cons_zero, List.set_cons_succ, List.getElem_toArray, List.getElem_cons_zero, List.getElem_cons_succ]
                refine wpAnyH_take (i := 5) (v := .bool false) rfl (by kernel_rfl) (by kernel_rfl) (by kernel_rfl) (fun _ _ _ h => h) (Or.inl ⟨by rfl, ?hy5B⟩) hHeld ?rest5B
                case hy5B => (intro w hSw; clear hSw; go_simp; exact HQ.out)
                try simp only [Act.put, List.setIfInBounds_toArray, List.set_cons_zero, List.set_cons_succ, List.getElem_toArray, List.getElem_cons_zero, List.getElem_cons_succ]
                refine wpAnyH_done (by kernel_rfl) ?_ _
                refine NoPanic.normal ?_
                clear hHeld
                go_wp2_with fail
                go_roundg (16 - (k + 1))
                case measure => omega
                case rel => exact ⟨k + 1, by omega, rfl, by go_num, by rw [HX.out], ⟨G2.out.1.drew, G2.out.2.1, G2.out.2.2⟩⟩
          · have e : k = 16 := by omega
            subst e
            rw [HAT.out]
            have r1 := hv_sb s c
            by_cases hneg : hv (sb s c) < 0
            · have hno := rd_no (s := s) (fun h => by have := h.2 c hlt; omega)
              have HNO : Hid (rdD s = fillN [] 32 0 ∧ rdE s = 5) := hno
              clear hno HAT
              generalize hv (sb s c) = av at *
              go_wp2_with (refine wpList_store_row rfl 24 (.tmp 2) (.tmp 29) rfl w.heap.size z32 rfl rfl 24 z32 G2.out.2.1 (by rw [z32_size]; exact size32) rfl zo ?_)
              refine bodyPost_ret (results_digest rfl _ _ w.heap.size z32 z32_size rfl _ rfl (setRow_heap _ _ _ _ _ _ G2.out.2.1)) rfl ⟨?_, ?_⟩
              · rw [HNO.out.1, HNO.out.2]; rfl
              · exact below_setRow G2.out.1 (Nat.le_refl _) _
            · obtain ⟨y, hy⟩ := Int.eq_ofNat_of_zero_le (show 0 ≤ hv (sb s c) by omega)
              have y15 : y ≤ 15 := by omega
              have hold : ∃ x : Nat, x ≤ 15 ∧ (rdA s c).getD (c / 2) 0 = (x : Int) := by
                rw [rdA_get s c hlt]
                rcases Nat.mod_two_eq_zero_or_one c with e | e
                · exact ⟨0, by omega, by rw [if_pos e]; rfl⟩
                · have ho := HOK.out (c - 1) (by omega)
                  have hr := hv_sb s (c - 1)
                  exact ⟨(hv (sb s (c - 1))).toNat, by omega, by rw [if_neg (by omega)]; omega⟩
              obtain ⟨x, x15, hx⟩ := hold
              have hcc := (cell_of_row wr (w.heap.size + 1) (c / 2) _ _ (0, 0) G2.out.2.2).trans (u8s_get (rdA s c) (c / 2) (by rw [rdA_len]; omega))
              rw [hx] at hcc
              have fz : wr.frozen? ⟨w.heap.size + 1, c / 2, none⟩ = false := by simp only [World.frozen?, G2.out.2.2]; simp
              have HS : Hid (u8s (rdA s (c + 1)) = (u8s (rdA s c)).setIfInBounds (c / 2) (.int .u8 ((x : Int) * 16 + (y : Int)))) := by
                show _ = _
                rw [u8s_set, rdA, hx, hy]
              have HOK2 : Hid (okTo s (c + 1)) := fun j hj => by
                rcases (by omega : j < c ∨ j = c) with h | rfl
                · exact HOK.out j h
                · omega
              have htd : Int.tdiv (c : Int) 2 = ((c / 2 : Nat) : Int) := tdivI c 2
              have hq : c / 2 < 32 := by omega
              have W2 : Hid (Below w.heap.size w (wr.setCell ⟨w.heap.size + 1, c / 2, none⟩ (.int .u8 ((x : Int) * 16 + (y : Int)))) ∧ (wr.setCell ⟨w.heap.size + 1, c / 2, none⟩ (.int .u8 ((x : Int) * 16 + (y : Int)))).heap[w.heap.size]? = some (.cells z32 24) ∧ (wr.setCell ⟨w.heap.size + 1, c / 2, none⟩ (.int .u8 ((x : Int) * 16 + (y : Int)))).heap[w.heap.size + 1]? = some (.cells (u8s (rdA s (c + 1))) 24)) := by
                refine ⟨G2.out.1.setCell (p := ⟨w.heap.size + 1, c / 2, none⟩) (by show w.heap.size ≤ w.heap.size + 1; omega) _, (Below.heap_setCell wr _ _ _ (by show w.heap.size ≠ w.heap.size + 1; omega)).trans G2.out.2.1, ?_⟩
                rw [HS.out]
                exact heap_setCell_own wr (w.heap.size + 1) (c / 2) _ _ _ G2.out.2.2 _
              rw [hy]
              clear hy hneg r1 hx HS HAT
              generalize c / 2 = q at *
              go_wp2_with fail
              go_roundg (64 - (c + 1))
              case measure => omega
              case rel => exact ⟨c + 1, by omega, rfl, by go_num, HOK2, W2.out.1, W2.out.2.1, W2.out.2.2⟩
      · have e : c = 64 := by omega
        subst e
        have hok := rd_ok (s := s) ⟨h64, HOK.out⟩
        have hdl := dgs_len s
        have G' : Hid (Below w.heap.size w wr ∧ wr.heap[w.heap.size]? = some (.cells z32 24) ∧ wr.heap[w.heap.size + 1]? = some (.cells (u8s (dgs s)) 24)) := by
          have h := G.out
          rw [show (64 : Nat) = 2 * 32 from rfl, rdA_even s 32 (by omega), fillN_all _ _ (dgs_len s)] at h
          exact h
        have HOKK : Hid (rdD s = dgs s ∧ rdE s = 0) := hok
        clear hlt hc G hok
        generalize dgs s = DG at *
        go_wp2_with (first | (refine wpList_load_row rfl 24 (.tmp 4) rfl (w.heap.size + 1) rfl 24 (u8s DG) (0, 0) _ G'.out.2.2 Tryd.underlying24 rfl (size32l _ hdl) ?_) | (refine wpList_store_row rfl 24 (.tmp 2) (.tmp 41) rfl w.heap.size (u8s DG) rfl rfl 24 z32 G'.out.2.1 (size32l _ hdl) (by rw [z32_size, u8s_size, hdl]) (u8s_one _) ?_))
        refine bodyPost_ret (results_digest rfl _ _ w.heap.size (u8s DG) (by rw [u8s_size, hdl]) rfl _ rfl (setRow_heap _ _ _ _ _ _ G'.out.2.1)) rfl ⟨?_, ?_⟩
        · rw [HOKK.out.1, HOKK.out.2]; rfl
        · exact below_setRow G'.out.1 (Nat.le_refl _) _
  · have hno := rd_no (s := s) (fun h => h64 h.1)
    have HNO : Hid (rdD s = fillN [] 32 0 ∧ rdE s = 5) := hno
    have h64' : ¬ (((s.size : Nat) : Int) = 64) := by omega
    clear hno
    go_enter Tryd.func13, Tryd.ntmps13
    go_wp2_with (first | (refine wpList_load_row rfl 24 (.tmp 4) rfl (w.heap.size + 1) rfl 24 z32 (0, 0) _ H1.out Tryd.underlying24 rfl (by rw [z32_size]; exact size32) ?_) | (refine wpList_store_row rfl 24 (.tmp 2) (.tmp 11) rfl w.heap.size z32 rfl rfl 24 z32 H0.out (by rw [z32_size]; exact size32) rfl zo ?_))
    refine bodyPost_ret (results_digest rfl _ _ w.heap.size z32 z32_size rfl _ rfl (setRow_heap _ _ _ _ _ _ H0.out)) rfl ⟨?_, ?_⟩
    · rw [HNO.out.1, HNO.out.2]; rfl
    · exact below_setRow B0.out (Nat.le_refl _) _
end Go.Proofs.YtofnibjpgkglnaaDoor
