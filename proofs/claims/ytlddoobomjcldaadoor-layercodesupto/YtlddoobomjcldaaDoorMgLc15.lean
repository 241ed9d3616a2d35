/- Bytes written into a Hash out of a slice of whatever room. The sum of what was written: (*Hash).Sum; Sum of bytes. Digests held against each other. -/
import Derived.Test.YtlddoobomjcldaaDoorMgLc14
import Derived.Test.YtlddoobomjcldaaDoorMgLc13
import Derived.Laws.StructEq
namespace Go.Proofs.YtlddoobomjcldaaDoor
open Go.ChangeShapes Go.WideShapes Go.ChangeAt Go.RowKit Go.Deep
set_option linter.unusedVariables false
set_option maxRecDepth 100000 in
set_option maxHeartbeats 8000000 in
theorem write_any (g : Nat) (L B : List Int) (a : Option Addr) (n cap : Nat) (w : World) (hB : B.length = n) (hb : IsBytes B) (hc : n ≤ cap) (hcm : cap ≤ 9223372036854775807) (hnm : n ≤ 1152921504606846976) (hLn : L.length ≤ 1152921504606846976) (hh : Holds w a B)
    (hf : ∀ x, a = some x → B ≠ [] → x.block ≠ g) (hH : HashAt w g L) (hk : KIs w) :
    Calls Tryd.prog 57 #[.pointer (some ⟨g, 0, none⟩), .slice a n cap] w fun e w' => e = .returned (.tuple #[]) ∧ HashAt w' g (L ++ B) ∧ Only g w w' := by
  have k0 : Hid (Calls Tryd.prog 78 #[.pointer (some ⟨g, 0, none⟩)] w fun e w' => e = .returned (.bool false) ∧ w' = w) := isNone_made g true w hH.made
  have g0 : Hid (0 ≠ g) := hH.pos hk
  have HK : Hid (KIs w) := hk
  have HB : Hid (IsBytes B) := hb
  have ST : Hid (HashAt w g (L ++ B.take 0)) := by
    show HashAt _ _ _
    simpa using hH
  have HH : Hid (Holds w a (B.drop 0)) := hh
  have HF : Hid (∀ x, a = some x → B.drop 0 ≠ [] → x.block ≠ g) := hf
  clear hk hb hH hh hf
  go_enter Tryd.func57, Tryd.ntmps57
  go_wp2_with (go_at_call 78; refine k0.out.mono ?_; rintro e w' ⟨rfl, hw⟩; obtain rfl := hw.symm; clear hw)
  go_loopg [1] n (fun gh v wr => ∃ (k c' : Nat) (a' : Option Addr), k ≤ n ∧ gh = n - k ∧ v = .slice a' (n - k) c' ∧ n - k ≤ c' ∧ c' ≤ 9223372036854775807 ∧ Hid (Holds w a' (B.drop k)) ∧ Hid (∀ x, a' = some x → B.drop k ≠ [] → x.block ≠ g) ∧ Hid (HashAt wr g (L ++ B.take k)) ∧ Hid (Only g w wr))
  case atStart => exact ⟨0, cap, a, Nat.zero_le _, rfl, rfl, hc, hcm, HH, HF, ST, Only.refl _ _⟩
  case round =>
    clear HH HF ST k0
    obtain ⟨k, c', a', hkn, rfl, rfl, hc', hcm', HH, HF, ST, HO⟩ := hrel
    by_cases hlt : k < n
    · have hmlen : (L ++ B.take k).length = L.length + k := by simp; omega
      have hDlen : (B.drop k).length = n - k := by rw [List.length_drop, hB]
      have HDb : Hid (IsBytes (B.drop k)) := bytes_of_mem fun x hx => bytes_mem HB.out x (List.mem_of_mem_drop hx)
      have HN : Hid (∀ j, j ≤ n - k → L ++ B.take (k + j) = (L ++ B.take k) ++ (B.drop k).take j) := fun j hj => by
        rw [List.append_assoc, List.take_add]
      have HDD : Hid (∀ j, B.drop (k + j) = (B.drop k).drop j) := fun j => by rw [List.drop_drop]
      obtain ⟨r, hr⟩ : ∃ r, r = n - k := ⟨_, rfl⟩
      have HR : Hid (r = n - k) := hr
      rw [← hr] at hDlen hc' ⊢
      have hr0 : 0 < r := by omega
      clear hr
      obtain ⟨R, hR, hRb, hRt, hheap⟩ := ST.out
      have hwH : Hid (Holds wr a' (B.drop k)) := HH.out.only HO.out HF.out
      generalize B.drop k = D at *
      generalize L ++ B.take k = M at *
      obtain ⟨b0, off, rfl, hcell⟩ : ∃ b off, a' = some ⟨b, off, none⟩ ∧ ∀ i, i < D.length → wr.cell? ⟨b, off + i, none⟩ = some (.int .u8 (D.getD i 0)) := by
        rcases hwH.out with rfl | h
        · simp at hDlen; omega
        · exact h
      have HC : Hid (∀ i, i < D.length → wr.cell? ⟨b0, off + i, none⟩ = some (.int .u8 (D.getD i 0))) := hcell
      have HG : Hid (wr.heap[g]? = some (.cells (hcells (nums M) R M.length).toArray 123)) := hheap
      have HRR : Hid (R.length = 64 ∧ IsBytes R ∧ R.take (M.length % 64) = M.drop (64 * (M.length / 64))) := ⟨hR, hRb, hRt⟩
      have hl73 := hash_len (nums_len M) hR hheap
      clear hcell hheap hRb hRt
      have htm := run_tmp M.length
      have hm0 : M.length ≤ 2305843009213693952 := by omega
      have HML : Hid (M.length = L.length + k) := hmlen
      clear hmlen
      have hq : M.length % 64 < 64 := Nat.mod_lt _ (by decide)
      obtain ⟨nn, hnn⟩ : ∃ nn, nn = min r (64 - M.length % 64) := ⟨_, rfl⟩
      have hnr : nn ≤ r := by omega
      have hnq : M.length % 64 + nn ≤ 64 := by omega
      have hn1 : 0 < nn := by omega
      have HNM : Hid (nn = min r (64 - M.length % 64)) := hnn
      clear hnn
      have HCL : Hid (((D.take nn).map (Value.int .u8)).length = nn) := by
        show _ = _
        simp; omega
      have HSRC : Hid (∀ j v, ((D.take nn).map (Value.int .u8))[j]? = some v → wr.drew.cell? ((⟨b0, off, none⟩ : Addr).add j) = some v) := fun j v hv => by
        have hj : j < nn := by
          have := (List.getElem?_eq_some_iff.1 hv).1
          rw [HCL.out] at this; exact this
        rw [add_plain, World.cell?_drew, HC.out j (by omega)]
        rw [List.getElem?_map, List.getElem?_take_of_lt hj, List.getElem?_eq_getElem (by omega)] at hv
        simp only [Option.map_some, Option.some.injEq] at hv
        rw [← hv, List.getD, List.getElem?_eq_getElem (by omega), Option.getD_some]
      have HSP : Hid (splice (hcells (nums M) R M.length) (9 + M.length % 64) ((D.take nn).map (Value.int .u8)) = hcells (nums M) (splice R (M.length % 64) (D.take nn)) M.length) := hcells_rest _ (nums_len M) _ _ _ _ (by simp; omega)
      have hHl : Hid ((hcells (nums M) R M.length).length = 74) := hcells_len _ _ _ (nums_len M) hR
      generalize hmm : M.length = m at *
      have HM : Hid (M.length = m) := hmm
      clear hmm
      generalize hqq : m % 64 = q at *
      have HQ : Hid (m % 64 = q) := hqq
      clear hqq
      have q64 : (q : Int) < 64 := by omega
      have wq := wrapN q (by omega)
      have hsl := fun W : World => slice_rest g 9 q hq W
      go_wp2_with fail
      refine wp_region_noPanic ?_
      refine wp_region_held_drew (S := (fun W : World => W.cell? ⟨g, 73, none⟩ = some (.int .i64 (m : Nat)))) (by kernel_rfl) ?hSaA (fun hHeld => ?restaA)
      case hSaA => exact hl73
      case restaA =>
        refine wpAnyH_take (i := 0) (v := ?v0A) rfl (by kernel_rfl) (by kernel_rfl) (by kernel_rfl) (fun _ _ _ h => h) (Or.inl ⟨by rfl, ?hy0A⟩) hHeld ?rest0A
        case hy0A => (intro w hSw; (try dsimp only at hSw); go_simp; try with_reducible rfl)
        try simp only [Act.put, List.setIfInBounds_toArray, List.set_cons_zero, List.set_cons_succ, List.getElem_toArray, List.getElem_cons_zero]
        refine wpAnyH_take (i := 1) (v := ?v1A) rfl (by kernel_rfl) (by kernel_rfl) (by kernel_rfl) (fun _ _ _ h => h) (Or.inl ⟨by rfl, ?hy1A⟩) hHeld ?rest1A
        case hy1A => (intro w hSw; (try dsimp only at hSw); go_simp; try with_reducible rfl)
        try simp only [Act.put, List.setIfInBounds_toArray, List.set_cons_zero, List.set_cons_succ, List.getElem_toArray, List.getElem_cons_zero, List.getElem_cons_succ]
        refine wpAnyH_take (i := 2) (v := ?v2A) rfl (by kernel_rfl) (by kernel_rfl) (by kernel_rfl) (fun _ _ _ h => h) (Or.inl ⟨by rfl, ?hy2A⟩) hHeld ?rest2A
        case hy2A => (intro w hSw; (try dsimp only at hSw); go_simp; try with_reducible rfl)
        try simp only [Act.put, List.setIfInBounds_toArray, List.set_cons_zero, List.set_cons_succ, List.getElem_toArray, List.getElem_cons_zero, List.getElem_cons_succ]
        refine wpAnyH_take (i := 3) (v := ?v3A) rfl (by kernel_rfl) (by kernel_rfl) (by kernel_rfl) (fun _ _ _ h => h) (Or.inl ⟨by rfl, ?hy3A⟩) hHeld ?rest3A
        case hy3A => (intro w hSw; (try dsimp only at hSw); go_simp; try with_reducible rfl)
        try simp only [Act.put, List.setIfInBounds_toArray, List.set_cons_zero, List.set_cons_succ, List.getElem_toArray, List.getElem_cons_zero, List.getElem_cons_succ]
        refine wpAnyH_take (i := 4) (v := ?v4A) rfl (by kernel_rfl) (by kernel_rfl) (by kernel_rfl) (fun _ _ _ h => h) (Or.inl ⟨by rfl, ?hy4A⟩) hHeld ?rest4A
        case hy4A => (intro w hSw; (try dsimp only at hSw); go_simp; try with_reducible rfl)
        try simp only [Act.put, List.setIfInBounds_toArray, List.set_cons_zero, List.set_cons_succ, List.getElem_toArray, List.getElem_cons_zero, List.getElem_cons_succ]
        refine wpAnyH_take (i := 5) (v := ?v5A) rfl (by kernel_rfl) (by kernel_rfl) (by kernel_rfl) (fun _ _ _ h => h) (Or.inl ⟨by rfl, ?hy5A⟩) hHeld ?rest5A
        case hy5A => (intro w hSw; (try dsimp only at hSw); go_simp; try with_reducible rfl)
        try simp only [Act.put, List.setIfInBounds_toArray, List.set_cons_zero, List.set_cons_succ, List.getElem_toArray, List.getElem_cons_zero, List.getElem_cons_succ]
        refine wpAnyH_take (i := 6) (v := .int .i64 (m : Nat)) rfl (by kernel_rfl) (by kernel_rfl) (by kernel_rfl) (fun _ _ _ h => h) (Or.inl ⟨by rfl, ?hy6A⟩) hHeld ?rest6A
        case hy6A => (intro w hSw; (try dsimp only at hSw); go_simp; try with_reducible rfl)
        try simp only [Act.put, List.setIfInBounds_toArray, List.set_cons_zero, List.set_cons_succ, List.getElem_toArray, List.getElem_cons_zero, List.getElem_cons_succ]
        refine wpAnyH_take (i := 7) (v := .int .i64 (q : Nat)) rfl (by kernel_rfl) (by kernel_rfl) (by kernel_rfl) (fun _ _ _ h => h) (Or.inl ⟨by rfl, ?hy7A⟩) hHeld ?rest7A
        case hy7A => (intro w hSw; (try dsimp only at hSw); go_simp; try with_reducible rfl)
        try simp only [Act.put, List.setIfInBounds_toArray, List.set_cons_zero, List.set_cons_succ, List.getElem_toArray, List.getElem_cons_zero, List.getElem_cons_succ]
        refine wpAnyH_take (i := 8) (v := .slice (some ⟨g, 9 + q, none⟩) (64 - q) (64 - q)) rfl (by kernel_rfl) (by kernel_rfl) (by kernel_rfl) (fun _ _ _ h => h) (Or.inl ⟨by rfl, ?hy8A⟩) hHeld ?rest8A
        case hy8A => (intro w hSw; (try dsimp only at hSw); go_simp; try with_reducible rfl)
        try simp only [Act.put, List.setIfInBounds_toArray, List.set_cons_zero, List.set_cons_succ, List.getElem_toArray, List.getElem_cons_zero, List.getElem_cons_succ]
        refine wpAnyH_take (i := 9) (v := ?v9A) rfl (by kernel_rfl) (by kernel_rfl) (by kernel_rfl) (fun _ _ _ h => h) (Or.inl ⟨by rfl, ?hy9A⟩) hHeld ?rest9A
        case hy9A => (intro w hSw; (try dsimp only at hSw); go_simp; try with_reducible rfl)
        try simp only [Act.put, List.setIfInBounds_toArray, List.set_cons_zero, List.set_cons_succ, List.getElem_toArray, List.getElem_cons_zero, List.getElem_cons_succ]
        have HR2 : Hid ((splice R q (D.take nn)).length = 64) := by
          show _ = _
          rw [splice_len _ _ _ (by simp; omega)]; exact hR
        have HG2 : Hid ((wr.drew.setRow g (splice (hcells (nums M) R m) (9 + q) ((D.take nn).map (Value.int .u8))).toArray).heap[g]? = some (.cells (hcells (nums M) (splice R q (D.take nn)) m).toArray 123)) := by
          have := setRow_heap wr.drew g _ (splice (hcells (nums M) R m) (9 + q) ((D.take nn).map (Value.int .u8))).toArray 123 (0, 0) HG.out
          rw [HSP.out] at this
          rw [HSP.out]
          exact this
        have HO2 : Hid (Only g w (wr.drew.setRow g (splice (hcells (nums M) R m) (9 + q) ((D.take nn).map (Value.int .u8))).toArray)) := HO.out.drew.setRow _
        have hl2 := hash_len (nums_len M) HR2.out HG2.out
        have fz2 := hash_free HG2.out 73
        refine wpAnyH_ready (rs := [10]) (by kernel_rfl) (by simp) ?_
        refine AllReadyH.cons rfl (fun K hK => ?_) AllReadyH.nil
        rw [if_pos (by kernel_rfl)]; refine wp_copy_row (.tmp 18) (.tmp 19) 23 23 rfl 5 Tryd.underlying23 (by kernel_rfl) g (9 + q) (64 - q) (64 - q) ⟨b0, off, none⟩ r c' rfl rfl (hcells (nums M) R m) 123 HG.out ((D.take nn).map (Value.int .u8)) (by rw [HCL.out]; exact HNM.out) HSRC.out (by rw [HCL.out, hHl.out]; omega) (fun v hv => by obtain ⟨x, _, rfl⟩ := List.mem_map.1 hv; rfl) nn HCL.out ?_
        refine hK.out _ _ ?hS10A (fun hHeld => ?rest10A)
        case hS10A => exact hl2
        clear hK K
        try simp only [Act.put, List.setIfInBounds_toArray, List.set_cons_zero, List.set_cons_succ, List.getElem_toArray, List.getElem_cons_zero, List.getElem_cons_succ]
        refine wpAnyH_take (i := 11) (v := ?v11A) rfl (by kernel_rfl) (by kernel_rfl) (by kernel_rfl) (fun _ _ _ h => h) (Or.inl ⟨by rfl, ?hy11A⟩) hHeld ?rest11A
        case hy11A => (intro w hSw; (try dsimp only at hSw); go_simp; try with_reducible rfl)
        try simp only [Act.put, List.setIfInBounds_toArray, List.set_cons_zero, List.set_cons_succ, List.getElem_toArray, List.getElem_cons_zero, List.getElem_cons_succ]
        refine wpAnyH_done (by kernel_rfl) ?_ _
        refine NoPanic.normal ?_
        clear hHeld hl73
        generalize (wr.drew.setRow g (splice (hcells (nums M) R m) (9 + q) ((D.take nn).map (Value.int .u8))).toArray) = w2 at *
        have htm2 := run_tmp (m + nn)
        have e2 : ((m + nn : Nat) : Int) = (m : Int) + (nn : Int) := by omega
        rw [e2] at htm2
        clear e2
        have hQ := HQ.out
        have hMl := HM.out
        have BK : Hid (IsBytes (splice R q (D.take nn)) ∧ L ++ B.take (k + nn) = M ++ D.take nn ∧ (D.take nn).length = nn ∧ B.drop (k + nn) = D.drop nn ∧ r - nn = n - (k + nn) ∧ k + nn ≤ n) := by
          have hr := HR.out
          refine ⟨splice_bytes _ _ _ HRR.out.2.1 (bytes_of_mem fun x hx => bytes_mem HDb.out x (List.mem_of_mem_take hx)), HN.out nn (by omega), by simp; omega, HDD.out nn, by omega, by omega⟩
        have HG3 : Hid ((w2.setCell ⟨g, 73, none⟩ (.int .i64 ((m : Int) + (nn : Int)))).heap[g]? = some (.cells (hcells (nums M) (splice R q (D.take nn)) (m + nn)).toArray 123)) := by
          have h := heap_setCell_mine w2 g 73 _ _ _ HG2.out (.int .i64 ((m + nn : Nat) : Int))
          rw [List.setIfInBounds_toArray, hcells_length _ (nums_len M) _ HR2.out] at h
          rw [show (m : Int) + (nn : Int) = ((m + nn : Nat) : Int) by omega]
          exact h
        have HO3 : Hid (Only g w (w2.setCell ⟨g, 73, none⟩ (.int .i64 ((m : Int) + (nn : Int))))) := HO2.out.setCell _ _
        by_cases hfull : q + nn = 64
        · have hz : (m + nn) % 64 = 0 := by omega
          rw [hz] at htm2
          clear hz
          have HMB : Hid (nums (M ++ D.take nn) = blk (nums M) (splice R q (D.take nn)) ∧ (M ++ D.take nn).length % 64 = 0 ∧ (M ++ D.take nn).drop (64 * ((M ++ D.take nn).length / 64)) = []) := by
            have h := more_block M (D.take nn) R hR (by rw [HM.out, HQ.out]; exact HRR.out.2.2) (by rw [HM.out, HQ.out, BK.out.2.2.1]; exact hfull)
            rw [HM.out, HQ.out] at h
            exact h
          have RG : Hid ((w2.setCell ⟨g, 73, none⟩ (.int .i64 ((m : Int) + (nn : Int)))).rangeAt g 9 ((splice R q (D.take nn)).map (Value.int .u8))) := hash_rest (nums_len M) HG3.out
          have RN : Hid ((w2.setCell ⟨g, 73, none⟩ (.int .i64 ((m : Int) + (nn : Int)))).rangeAt g 1 (u32s (nums M)).toList) := hash_nums (nums_len M) HG3.out
          have KW : Hid (KIs (w2.setCell ⟨g, 73, none⟩ (.int .i64 ((m : Int) + (nn : Int))))) := HK.out.only HO3.out g0.out
          clear hQ hMl
          rcases Nat.lt_or_ge nn c' with hcap | hcap
          rotate_left
          · obtain rfl : nn = c' := by omega
            have hrn : r = nn := by omega
            have HH2 : Hid (Holds w (some ⟨b0, off, none⟩) (B.drop (k + nn))) := .inl (by rw [BK.out.2.2.2.1]; exact List.drop_eq_nil_of_le (by omega))
            have HF2 : Hid (∀ x, some (⟨b0, off, none⟩ : Addr) = some x → B.drop (k + nn) ≠ [] → x.block ≠ g) := fun x hx hne => absurd (by rw [BK.out.2.2.2.1]; exact List.drop_eq_nil_of_le (by omega)) hne
            have hrz : r - nn = 0 := by omega
            go_wp2_with fail
            refine wp_region_noPanic ?_
            refine wp_region_held_drew (S := (fun W : World => W.rangeAt g 9 ((splice R q (D.take nn)).map (Value.int .u8)))) (by kernel_rfl) ?hSaFC (fun hHeld => ?restaFC)
            case hSaFC => exact RG.out
            case restaFC =>
              refine wpAnyH_take (i := 0) (v := ?v0FC) rfl (by kernel_rfl) (by kernel_rfl) (by kernel_rfl) (fun _ _ _ h => h) (Or.inl ⟨by rfl, ?hy0FC⟩) hHeld ?rest0FC
              case hy0FC => (intro w hSw; (try dsimp only at hSw); go_simp; try with_reducible rfl)
              try simp only [Act.put, List.setIfInBounds_toArray, List.set_cons_zero, List.set_cons_succ, List.getElem_toArray, List.getElem_cons_zero]
              refine wpAnyH_take (i := 1) (v := ?v1FC) rfl (by kernel_rfl) (by kernel_rfl) (by kernel_rfl) (fun _ _ _ h => h) (Or.inl ⟨by rfl, ?hy1FC⟩) hHeld ?rest1FC
              case hy1FC => (intro w hSw; (try dsimp only at hSw); go_simp; try with_reducible rfl)
              try simp only [Act.put, List.setIfInBounds_toArray, List.set_cons_zero, List.set_cons_succ, List.getElem_toArray, List.getElem_cons_zero, List.getElem_cons_succ]
              refine wpAnyH_take (i := 2) (v := ?v2FC) rfl (by kernel_rfl) (by kernel_rfl) (by kernel_rfl) (fun _ _ _ h => h) (Or.inl ⟨by rfl, ?hy2FC⟩) hHeld ?rest2FC
              case hy2FC => (intro w hSw; (try dsimp only at hSw); go_simp; try with_reducible rfl)
              try simp only [Act.put, List.setIfInBounds_toArray, List.set_cons_zero, List.set_cons_succ, List.getElem_toArray, List.getElem_cons_zero, List.getElem_cons_succ]
              refine wpAnyH_take (i := 3) (v := ?v3FC) rfl (by kernel_rfl) (by kernel_rfl) (by kernel_rfl) (fun _ _ _ h => h) (Or.inl ⟨by rfl, ?hy3FC⟩) hHeld ?rest3FC
              case hy3FC => (intro w hSw; (try dsimp only at hSw); go_simp; try with_reducible rfl)
              try simp only [Act.put, List.setIfInBounds_toArray, List.set_cons_zero, List.set_cons_succ, List.getElem_toArray, List.getElem_cons_zero, List.getElem_cons_succ]
              refine wpAnyH_take (i := 5) (v := ?v5FC) rfl (by kernel_rfl) (by kernel_rfl) (by kernel_rfl) (fun _ _ _ h => h) (Or.inl ⟨by rfl, ?hy5FC⟩) hHeld ?rest5FC
              case hy5FC => (intro w hSw; (try dsimp only at hSw); go_simp; try with_reducible rfl)
              try simp only [Act.put, List.setIfInBounds_toArray, List.set_cons_zero, List.set_cons_succ, List.getElem_toArray, List.getElem_cons_zero, List.getElem_cons_succ]
              refine wpAnyH_take (i := 6) (v := ?v6FC) rfl (by kernel_rfl) (by kernel_rfl) (by kernel_rfl) (fun _ _ _ h => h) (Or.inl ⟨by rfl, ?hy6FC⟩) hHeld ?rest6FC
              case hy6FC => (intro w hSw; (try dsimp only at hSw); go_simp; try with_reducible rfl)
              try simp only [Act.put, List.setIfInBounds_toArray, List.set_cons_zero, List.set_cons_succ, List.getElem_toArray, List.getElem_cons_zero, List.getElem_cons_succ]
              refine wpAnyH_take (i := 7) (v := ?v7FC) rfl (by kernel_rfl) (by kernel_rfl) (by kernel_rfl) (fun _ _ _ h => h) (Or.inl ⟨by rfl, ?hy7FC⟩) hHeld ?rest7FC
              case hy7FC => (intro w hSw; (try dsimp only at hSw); go_simp; try with_reducible rfl)
              try simp only [Act.put, List.setIfInBounds_toArray, List.set_cons_zero, List.set_cons_succ, List.getElem_toArray, List.getElem_cons_zero, List.getElem_cons_succ]
              refine wpAnyH_take (i := 8) (v := .agg (u8s (splice R q (D.take nn)))) rfl (by kernel_rfl) (by kernel_rfl) (by kernel_rfl) (fun _ _ _ h => h) (Or.inl ⟨by rfl, ?hy8FC⟩) hHeld ?rest8FC
              case hy8FC => (intro w hSw; exact load_mid_run _ _ _ 121 (.tmp 45) rfl g 9 rfl _ _ hSw Tryd.underlying121 rfl (by rw [List.length_map, HR2.out]; exact size64b))
              try simp only [Act.put, List.setIfInBounds_toArray, List.set_cons_zero, List.set_cons_succ, List.getElem_toArray, List.getElem_cons_zero, List.getElem_cons_succ]
              refine wpAnyH_ready (rs := [4]) (by kernel_rfl) (by simp) ?_
              refine AllReadyH.cons rfl (fun K hK => ?_) AllReadyH.nil
              rw [if_pos (by kernel_rfl)]; refine wp_load_mid 119 (.tmp 41) rfl g 1 rfl (u32s (nums M)).toList _ RN.out Tryd.underlying119 rfl (by rw [Array.length_toList, u32s_size, nums_len]; exact size8) ?_
              refine hK.out _ _ ?hS4FC (fun hHeld => ?rest4FC)
              case hS4FC => exact RG.out
              clear hK K
              try simp only [Act.put, List.setIfInBounds_toArray, List.set_cons_zero, List.set_cons_succ, List.getElem_toArray, List.getElem_cons_zero, List.getElem_cons_succ]
              refine wpAnyH_ready (rs := [9]) (by kernel_rfl) (by simp) ?_
              refine AllReadyH.cons rfl (fun K hK => ?_) AllReadyH.nil
              go_simp; refine (behind_is (nums M) (nums_len M) (nums_all M) (splice R q (D.take nn)) HR2.out BK.out.1 (w2.setCell ⟨g, 73, none⟩ (.int .i64 ((m : Int) + (nn : Int)))).drew (show KIs (w2.setCell ⟨g, 73, none⟩ (.int .i64 ((m : Int) + (nn : Int)))).drew from KW.out)).mono ?_; rintro e w4 ⟨rfl, hb4⟩; have B4 : Hid (Below (w2.setCell ⟨g, 73, none⟩ (.int .i64 ((m : Int) + (nn : Int)))).drew.heap.size (w2.setCell ⟨g, 73, none⟩ (.int .i64 ((m : Int) + (nn : Int)))).drew w4) := hb4; clear hb4; go_wp2_with fail
              refine hK.out _ _ ?hS9FC (fun hHeld => ?rest9FC)
              case hS9FC => exact fun j v hv => (B4.out.cell (p := ⟨g, 9 + j, none⟩) (lt_of_heap HG3.out)).trans (RG.out j v hv)
              clear hK K
              try simp only [Act.put, List.setIfInBounds_toArray, List.set_cons_zero, List.set_cons_succ, List.getElem_toArray, List.getElem_cons_zero, List.getElem_cons_succ]
              have HG4 : Hid (w4.heap[g]? = some (.cells (hcells (nums M) (splice R q (D.take nn)) (m + nn)).toArray 123)) := (B4.out.block g (lt_of_heap HG3.out)).trans HG3.out
              have HG5 : Hid ((w4.setCells g 1 (u32s (blk (nums M) (splice R q (D.take nn)))).toList).heap[g]? = some (.cells (hcells (blk (nums M) (splice R q (D.take nn))) (splice R q (D.take nn)) (m + nn)).toArray 123)) := by
                have h := heap_setCells g 123 (0, 0) (u32s (blk (nums M) (splice R q (D.take nn)))).toList 1 w4 _ HG4.out (by rw [Array.length_toList, u32s_size, blk_len _ _ (nums_len M), hcells_len _ _ _ (nums_len M) HR2.out]; decide)
                have e : (u32s (blk (nums M) (splice R q (D.take nn)))).toList = (blk (nums M) (splice R q (D.take nn))).map fun x : Nat => Value.int .u32 (x : Int) := by simp [u32s]
                rw [e] at h ⊢
                rw [hcells_nums _ _ (nums_len M) (blk_len _ _ (nums_len M))] at h
                exact h
              have HO5 : Hid (Only g w (w4.setCells g 1 (u32s (blk (nums M) (splice R q (D.take nn)))).toList)) := Only.setCells _ _ (HO3.out.drew.trans (Only.of_below B4.out))
              have HP5 : Hid (HashAt (w4.setCells g 1 (u32s (blk (nums M) (splice R q (D.take nn)))).toList) g (L ++ B.take (k + nn))) := by
                obtain ⟨e1, e2, e3⟩ := HMB.out
                rw [BK.out.2.1]
                refine ⟨splice R q (D.take nn), HR2.out, BK.out.1, by rw [e2, e3]; simp, ?_⟩
                rw [e1, List.length_append, HM.out, BK.out.2.2.1]
                exact HG5.out
              refine wpAnyH_take (i := 10) (v := ?v10FC) rfl (by kernel_rfl) (by kernel_rfl) (by kernel_rfl) (fun _ _ _ h => h) (Or.inl ⟨by rfl, ?hy10FC⟩) hHeld ?rest10FC
              case hy10FC => (intro w hSw; (try dsimp only at hSw); go_simp; try with_reducible rfl)
              try simp only [Act.put, List.setIfInBounds_toArray, List.set_cons_zero, List.set_cons_succ, List.getElem_toArray, List.getElem_cons_zero, List.getElem_cons_succ]
              refine wpAnyH_take (i := 11) (v := ?v11FC) rfl (by kernel_rfl) (by kernel_rfl) (by kernel_rfl) (fun _ _ _ h => h) (Or.inl ⟨by rfl, ?hy11FC⟩) hHeld ?rest11FC
              case hy11FC => (intro w hSw; (try dsimp only at hSw); go_simp; try with_reducible rfl)
              try simp only [Act.put, List.setIfInBounds_toArray, List.set_cons_zero, List.set_cons_succ, List.getElem_toArray, List.getElem_cons_zero, List.getElem_cons_succ]
              refine wpAnyH_ready (rs := [12]) (by kernel_rfl) (by simp) ?_
              refine AllReadyH.cons rfl (fun K hK => ?_) AllReadyH.nil
              rw [if_pos (by kernel_rfl)]; refine wp_store_mid 119 (.tmp 49) (.tmp 47) rfl g 1 (u32s (blk (nums M) (splice R q (D.take nn)))) rfl rfl (there_of HG4.out _ _ (by rw [u32s_size, blk_len _ _ (nums_len M)]; simp [hcells_len _ _ _ (nums_len M) HR2.out])) (by rw [u32s_size, blk_len _ _ (nums_len M)]; exact size8) (u32s_one _) ?_
              refine hK.out _ _ ?hS12FC (fun hHeld => ?rest12FC)
              case hS12FC => exact hash_rest (blk_len _ _ (nums_len M)) HG5.out
              clear hK K
              refine wpAnyH_done (by kernel_rfl) ?_ _
              refine NoPanic.normal ?_
              generalize w4.setCells g 1 (u32s (blk (nums M) (splice R q (D.take nn)))).toList = w5 at *
              clear hHeld
              go_wp2_with fail
              go_roundg (n - (k + nn))
              case measure => have := HR.out; omega
              case rel => exact ⟨k + nn, 0, some ⟨b0, off, none⟩, BK.out.2.2.2.2.2, rfl, by rw [← BK.out.2.2.2.2.1, hrz], by have := BK.out.2.2.2.2.1; omega, by omega, HH2, HF2, HP5, HO5⟩
          · have hcn : c' ≠ nn := by omega
            have HH2 : Hid (Holds w (some ⟨b0, off + nn, none⟩) (B.drop (k + nn))) := by
              have h := HH.out.drop nn
              show Holds _ _ _
              rw [BK.out.2.2.2.1]
              simpa [add_plain] using h
            have HF2 : Hid (∀ x, some (⟨b0, off + nn, none⟩ : Addr) = some x → B.drop (k + nn) ≠ [] → x.block ≠ g) := fun x hx hne => by
              simp only [Option.some.injEq] at hx
              subst hx
              exact HF.out ⟨b0, off, none⟩ rfl (fun e => hne (by rw [BK.out.2.2.2.1, e]; simp))
            go_wp2_with fail
            refine wp_region_noPanic ?_
            refine wp_region_held_drew (S := (fun W : World => W.rangeAt g 9 ((splice R q (D.take nn)).map (Value.int .u8)))) (by kernel_rfl) ?hSaFN (fun hHeld => ?restaFN)
            case hSaFN => exact RG.out
            case restaFN =>
              refine wpAnyH_take (i := 0) (v := ?v0FN) rfl (by kernel_rfl) (by kernel_rfl) (by kernel_rfl) (fun _ _ _ h => h) (Or.inl ⟨by rfl, ?hy0FN⟩) hHeld ?rest0FN
              case hy0FN => (intro w hSw; (try dsimp only at hSw); go_simp; try with_reducible rfl)
              try simp only [Act.put, List.setIfInBounds_toArray, List.set_cons_zero, List.set_cons_succ, List.getElem_toArray, List.getElem_cons_zero]
              refine wpAnyH_take (i := 1) (v := ?v1FN) rfl (by kernel_rfl) (by kernel_rfl) (by kernel_rfl) (fun _ _ _ h => h) (Or.inl ⟨by rfl, ?hy1FN⟩) hHeld ?rest1FN
              case hy1FN => (intro w hSw; (try dsimp only at hSw); go_simp; try with_reducible rfl)
              try simp only [Act.put, List.setIfInBounds_toArray, List.set_cons_zero, List.set_cons_succ, List.getElem_toArray, List.getElem_cons_zero, List.getElem_cons_succ]
              refine wpAnyH_take (i := 2) (v := ?v2FN) rfl (by kernel_rfl) (by kernel_rfl) (by kernel_rfl) (fun _ _ _ h => h) (Or.inl ⟨by rfl, ?hy2FN⟩) hHeld ?rest2FN
              case hy2FN => (intro w hSw; (try dsimp only at hSw); go_simp; try with_reducible rfl)
              try simp only [Act.put, List.setIfInBounds_toArray, List.set_cons_zero, List.set_cons_succ, List.getElem_toArray, List.getElem_cons_zero, List.getElem_cons_succ]
              refine wpAnyH_take (i := 3) (v := ?v3FN) rfl (by kernel_rfl) (by kernel_rfl) (by kernel_rfl) (fun _ _ _ h => h) (Or.inl ⟨by rfl, ?hy3FN⟩) hHeld ?rest3FN
              case hy3FN => (intro w hSw; (try dsimp only at hSw); go_simp; try with_reducible rfl)
              try simp only [Act.put, List.setIfInBounds_toArray, List.set_cons_zero, List.set_cons_succ, List.getElem_toArray, List.getElem_cons_zero, List.getElem_cons_succ]
              refine wpAnyH_take (i := 5) (v := ?v5FN) rfl (by kernel_rfl) (by kernel_rfl) (by kernel_rfl) (fun _ _ _ h => h) (Or.inl ⟨by rfl, ?hy5FN⟩) hHeld ?rest5FN
              case hy5FN => (intro w hSw; (try dsimp only at hSw); go_simp; try with_reducible rfl)
              try simp only [Act.put, List.setIfInBounds_toArray, List.set_cons_zero, List.set_cons_succ, List.getElem_toArray, List.getElem_cons_zero, List.getElem_cons_succ]
              refine wpAnyH_take (i := 6) (v := ?v6FN) rfl (by kernel_rfl) (by kernel_rfl) (by kernel_rfl) (fun _ _ _ h => h) (Or.inl ⟨by rfl, ?hy6FN⟩) hHeld ?rest6FN
              case hy6FN => (intro w hSw; (try dsimp only at hSw); go_simp; try with_reducible rfl)
              try simp only [Act.put, List.setIfInBounds_toArray, List.set_cons_zero, List.set_cons_succ, List.getElem_toArray, List.getElem_cons_zero, List.getElem_cons_succ]
              refine wpAnyH_take (i := 7) (v := ?v7FN) rfl (by kernel_rfl) (by kernel_rfl) (by kernel_rfl) (fun _ _ _ h => h) (Or.inl ⟨by rfl, ?hy7FN⟩) hHeld ?rest7FN
              case hy7FN => (intro w hSw; (try dsimp only at hSw); go_simp; try with_reducible rfl)
              try simp only [Act.put, List.setIfInBounds_toArray, List.set_cons_zero, List.set_cons_succ, List.getElem_toArray, List.getElem_cons_zero, List.getElem_cons_succ]
              refine wpAnyH_take (i := 8) (v := .agg (u8s (splice R q (D.take nn)))) rfl (by kernel_rfl) (by kernel_rfl) (by kernel_rfl) (fun _ _ _ h => h) (Or.inl ⟨by rfl, ?hy8FN⟩) hHeld ?rest8FN
              case hy8FN => (intro w hSw; exact load_mid_run _ _ _ 121 (.tmp 45) rfl g 9 rfl _ _ hSw Tryd.underlying121 rfl (by rw [List.length_map, HR2.out]; exact size64b))
              try simp only [Act.put, List.setIfInBounds_toArray, List.set_cons_zero, List.set_cons_succ, List.getElem_toArray, List.getElem_cons_zero, List.getElem_cons_succ]
              refine wpAnyH_ready (rs := [4]) (by kernel_rfl) (by simp) ?_
              refine AllReadyH.cons rfl (fun K hK => ?_) AllReadyH.nil
              rw [if_pos (by kernel_rfl)]; refine wp_load_mid 119 (.tmp 41) rfl g 1 rfl (u32s (nums M)).toList _ RN.out Tryd.underlying119 rfl (by rw [Array.length_toList, u32s_size, nums_len]; exact size8) ?_
              refine hK.out _ _ ?hS4FN (fun hHeld => ?rest4FN)
              case hS4FN => exact RG.out
              clear hK K
              try simp only [Act.put, List.setIfInBounds_toArray, List.set_cons_zero, List.set_cons_succ, List.getElem_toArray, List.getElem_cons_zero, List.getElem_cons_succ]
              refine wpAnyH_ready (rs := [9]) (by kernel_rfl) (by simp) ?_
              refine AllReadyH.cons rfl (fun K hK => ?_) AllReadyH.nil
              go_simp; refine (behind_is (nums M) (nums_len M) (nums_all M) (splice R q (D.take nn)) HR2.out BK.out.1 (w2.setCell ⟨g, 73, none⟩ (.int .i64 ((m : Int) + (nn : Int)))).drew (show KIs (w2.setCell ⟨g, 73, none⟩ (.int .i64 ((m : Int) + (nn : Int)))).drew from KW.out)).mono ?_; rintro e w4 ⟨rfl, hb4⟩; have B4 : Hid (Below (w2.setCell ⟨g, 73, none⟩ (.int .i64 ((m : Int) + (nn : Int)))).drew.heap.size (w2.setCell ⟨g, 73, none⟩ (.int .i64 ((m : Int) + (nn : Int)))).drew w4) := hb4; clear hb4; go_wp2_with fail
              refine hK.out _ _ ?hS9FN (fun hHeld => ?rest9FN)
              case hS9FN => exact fun j v hv => (B4.out.cell (p := ⟨g, 9 + j, none⟩) (lt_of_heap HG3.out)).trans (RG.out j v hv)
              clear hK K
              try simp only [Act.put, List.setIfInBounds_toArray, List.set_cons_zero, List.set_cons_succ, List.getElem_toArray, List.getElem_cons_zero, List.getElem_cons_succ]
              have HG4 : Hid (w4.heap[g]? = some (.cells (hcells (nums M) (splice R q (D.take nn)) (m + nn)).toArray 123)) := (B4.out.block g (lt_of_heap HG3.out)).trans HG3.out
              have HG5 : Hid ((w4.setCells g 1 (u32s (blk (nums M) (splice R q (D.take nn)))).toList).heap[g]? = some (.cells (hcells (blk (nums M) (splice R q (D.take nn))) (splice R q (D.take nn)) (m + nn)).toArray 123)) := by
                have h := heap_setCells g 123 (0, 0) (u32s (blk (nums M) (splice R q (D.take nn)))).toList 1 w4 _ HG4.out (by rw [Array.length_toList, u32s_size, blk_len _ _ (nums_len M), hcells_len _ _ _ (nums_len M) HR2.out]; decide)
                have e : (u32s (blk (nums M) (splice R q (D.take nn)))).toList = (blk (nums M) (splice R q (D.take nn))).map fun x : Nat => Value.int .u32 (x : Int) := by simp [u32s]
                rw [e] at h ⊢
                rw [hcells_nums _ _ (nums_len M) (blk_len _ _ (nums_len M))] at h
                exact h
              have HO5 : Hid (Only g w (w4.setCells g 1 (u32s (blk (nums M) (splice R q (D.take nn)))).toList)) := Only.setCells _ _ (HO3.out.drew.trans (Only.of_below B4.out))
              have HP5 : Hid (HashAt (w4.setCells g 1 (u32s (blk (nums M) (splice R q (D.take nn)))).toList) g (L ++ B.take (k + nn))) := by
                obtain ⟨e1, e2, e3⟩ := HMB.out
                rw [BK.out.2.1]
                refine ⟨splice R q (D.take nn), HR2.out, BK.out.1, by rw [e2, e3]; simp, ?_⟩
                rw [e1, List.length_append, HM.out, BK.out.2.2.1]
                exact HG5.out
              refine wpAnyH_take (i := 10) (v := ?v10FN) rfl (by kernel_rfl) (by kernel_rfl) (by kernel_rfl) (fun _ _ _ h => h) (Or.inl ⟨by rfl, ?hy10FN⟩) hHeld ?rest10FN
              case hy10FN => (intro w hSw; (try dsimp only at hSw); go_simp; try with_reducible rfl)
              try simp only [Act.put, List.setIfInBounds_toArray, List.set_cons_zero, List.set_cons_succ, List.getElem_toArray, List.getElem_cons_zero, List.getElem_cons_succ]
              refine wpAnyH_take (i := 11) (v := ?v11FN) rfl (by kernel_rfl) (by kernel_rfl) (by kernel_rfl) (fun _ _ _ h => h) (Or.inl ⟨by rfl, ?hy11FN⟩) hHeld ?rest11FN
              case hy11FN => (intro w hSw; (try dsimp only at hSw); go_simp; try with_reducible rfl)
              try simp only [Act.put, List.setIfInBounds_toArray, List.set_cons_zero, List.set_cons_succ, List.getElem_toArray, List.getElem_cons_zero, List.getElem_cons_succ]
              refine wpAnyH_ready (rs := [12]) (by kernel_rfl) (by simp) ?_
              refine AllReadyH.cons rfl (fun K hK => ?_) AllReadyH.nil
              rw [if_pos (by kernel_rfl)]; refine wp_store_mid 119 (.tmp 49) (.tmp 47) rfl g 1 (u32s (blk (nums M) (splice R q (D.take nn)))) rfl rfl (there_of HG4.out _ _ (by rw [u32s_size, blk_len _ _ (nums_len M)]; simp [hcells_len _ _ _ (nums_len M) HR2.out])) (by rw [u32s_size, blk_len _ _ (nums_len M)]; exact size8) (u32s_one _) ?_
              refine hK.out _ _ ?hS12FN (fun hHeld => ?rest12FN)
              case hS12FN => exact hash_rest (blk_len _ _ (nums_len M)) HG5.out
              clear hK K
              refine wpAnyH_done (by kernel_rfl) ?_ _
              refine NoPanic.normal ?_
              generalize w4.setCells g 1 (u32s (blk (nums M) (splice R q (D.take nn)))).toList = w5 at *
              clear hHeld
              go_wp2_with fail
              go_roundg (n - (k + nn))
              case measure => have := HR.out; omega
              case rel => exact ⟨k + nn, (c' - nn), some ⟨b0, off + nn, none⟩, BK.out.2.2.2.2.2, rfl, by rw [← BK.out.2.2.2.2.1], by have := BK.out.2.2.2.2.1; omega, by omega, HH2, HF2, HP5, HO5⟩
        · have hz : (m + nn) % 64 ≠ 0 := by omega
          have HP : Hid (HashAt (w2.setCell ⟨g, 73, none⟩ (.int .i64 ((m : Int) + (nn : Int)))) g (L ++ B.take (k + nn))) := by
            have h := more_part M (D.take nn) R hR (by rw [HM.out, HQ.out]; exact HRR.out.2.2) (by rw [HM.out, HQ.out, BK.out.2.2.1]; omega)
            rw [HM.out, HQ.out] at h
            rw [BK.out.2.1]
            refine ⟨splice R q (D.take nn), HR2.out, BK.out.1, h.2, ?_⟩
            rw [h.1, List.length_append, HM.out, BK.out.2.2.1]
            exact HG3.out
          clear hQ hMl
          generalize (m + nn) % 64 = z at *
          rcases Nat.lt_or_ge nn c' with hcap | hcap
          rotate_left
          · obtain rfl : nn = c' := by omega
            have hrn : r = nn := by omega
            have HH2 : Hid (Holds w (some ⟨b0, off, none⟩) (B.drop (k + nn))) := .inl (by rw [BK.out.2.2.2.1]; exact List.drop_eq_nil_of_le (by omega))
            have HF2 : Hid (∀ x, some (⟨b0, off, none⟩ : Addr) = some x → B.drop (k + nn) ≠ [] → x.block ≠ g) := fun x hx hne => absurd (by rw [BK.out.2.2.2.1]; exact List.drop_eq_nil_of_le (by omega)) hne
            have hrz : r - nn = 0 := by omega
            go_wp2_with fail
            go_roundg (n - (k + nn))
            case measure => have := HR.out; omega
            case rel => exact ⟨k + nn, 0, some ⟨b0, off, none⟩, BK.out.2.2.2.2.2, rfl, by rw [← BK.out.2.2.2.2.1, hrz], by have := BK.out.2.2.2.2.1; omega, by omega, HH2, HF2, HP.out, HO3⟩
          · have hcn : c' ≠ nn := by omega
            have HH2 : Hid (Holds w (some ⟨b0, off + nn, none⟩) (B.drop (k + nn))) := by
              have h := HH.out.drop nn
              show Holds _ _ _
              rw [BK.out.2.2.2.1]
              simpa [add_plain] using h
            have HF2 : Hid (∀ x, some (⟨b0, off + nn, none⟩ : Addr) = some x → B.drop (k + nn) ≠ [] → x.block ≠ g) := fun x hx hne => by
              simp only [Option.some.injEq] at hx
              subst hx
              exact HF.out ⟨b0, off, none⟩ rfl (fun e => hne (by rw [BK.out.2.2.2.1, e]; simp))
            go_wp2_with fail
            go_roundg (n - (k + nn))
            case measure => have := HR.out; omega
            case rel => exact ⟨k + nn, (c' - nn), some ⟨b0, off + nn, none⟩, BK.out.2.2.2.2.2, rfl, by rw [← BK.out.2.2.2.2.1], by have := BK.out.2.2.2.2.1; omega, by omega, HH2, HF2, HP.out, HO3⟩
    · have e : k = n := by omega
      subst e
      have hz : k - k = 0 := by omega
      have el : B.take k = B := List.take_of_length_le (by omega)
      rw [el] at ST
      rw [hz]
      clear HH HF
      go_wp2_with fail
      exact end0 rfl rfl ⟨rfl, ST.out, HO.out⟩
end Go.Proofs.YtlddoobomjcldaaDoor
namespace Go.Proofs.YtlddoobomjcldaaDoor
open Go.ChangeShapes Go.WideShapes Go.ChangeAt Go.RowKit Go.Deep
set_option linter.unusedVariables false
def z32 : Array Value := u8s (fillN [] 32 0)
theorem z32_size : z32.size = 32 := by kernel_rfl
theorem z32_lit : z32 = #[.int .u8 0, .int .u8 0, .int .u8 0, .int .u8 0, .int .u8 0, .int .u8 0, .int .u8 0, .int .u8 0, .int .u8 0, .int .u8 0, .int .u8 0, .int .u8 0, .int .u8 0, .int .u8 0, .int .u8 0, .int .u8 0, .int .u8 0, .int .u8 0, .int .u8 0, .int .u8 0, .int .u8 0, .int .u8 0, .int .u8 0, .int .u8 0, .int .u8 0, .int .u8 0, .int .u8 0, .int .u8 0, .int .u8 0, .int .u8 0, .int .u8 0, .int .u8 0] := z32_is
theorem zero24_info : (Tryd.prog.info? 35).map (fun i => (i.zero, i.size)) = some (some (.agg z32), 32) := by kernel_rfl
theorem shaL_len (L : List Int) : (shaL L).length = 32 := digL_len _
theorem shaL_bytes (L : List Int) : IsBytes (shaL L) := digL_bytes _
set_option maxRecDepth 100000 in
set_option maxHeartbeats 8000000 in
theorem sumH_is (g : Nat) (L : List Int) (w : World) (hH : HashAt w g L) (hk : KIs w) (hL : L.length ≤ 1152921504606846000) :
    Calls Tryd.prog 58 #[.pointer (some ⟨g, 0, none⟩)] w fun e w' => e = .returned (.agg (u8s (shaL L))) ∧ Below w.heap.size w w' := by
  have hlt := hH.lt
  have hl73 : (w.alloc (.cells z32 35)).cell? ⟨g, 73, none⟩ = some (.int .i64 (L.length : Int)) := by
    rw [World.cell?_alloc_lt _ _ _ hlt]; exact hH.length
  have k0 : Hid (Calls Tryd.prog 78 #[.pointer (some ⟨g, 0, none⟩)] (w.alloc (.cells z32 35)) fun e w' => e = .returned (.bool false) ∧ w' = (w.alloc (.cells z32 35))) := isNone_made g true _ (by rw [World.cell?_alloc_lt _ _ _ hlt]; exact hH.made)
  obtain ⟨R, hR, hb, ht, hh⟩ := hH
  have H : Hid ((w.alloc (.cells z32 35)).heap[g]? = some (.cells (hcells (nums L) R L.length).toArray 123)) := (Below.heap_alloc _ _ _ hlt).trans hh
  have HR : Hid (R.length = 64 ∧ IsBytes R ∧ R.take (L.length % 64) = L.drop (64 * (L.length / 64))) := ⟨hR, hb, ht⟩
  have hl : (hcells (nums L) R L.length).toArray.size = 74 := by simp [hcells_len _ _ _ (nums_len L) hR]
  have h1 := hcells_one (nums L) R L.length
  have HK : Hid (KIs w) := hk
  clear hh hR hb ht hk
  obtain ⟨cs, hcs⟩ : ∃ cs, cs = hcells (nums L) R L.length := ⟨_, rfl⟩
  have HCS : Hid (cs = hcells (nums L) R L.length) := hcs
  rw [← hcs] at H hl h1
  clear hcs
  have hz := (zero_of_info hzero_info).1
  have HZ : Hid (hzero.toArray.size = 74) := rfl
  generalize hzero.toArray = Z at *
  have H1 : Hid (((w.alloc (.cells z32 35)).alloc (.cells Z 123)).heap[w.heap.size + 1]? = some (.cells Z 123)) := by
    have := heap_alloc_last (w.alloc (.cells z32 35)) (.cells Z 123)
    rwa [World.size_alloc] at this
  have H2 : Hid ((((w.alloc (.cells z32 35)).alloc (.cells Z 123)).setRow (w.heap.size + 1) cs.toArray).heap[w.heap.size + 1]? = some (.cells cs.toArray 123)) := setRow_heap _ _ _ _ _ _ H1.out
  have H3 : Hid ((((w.alloc (.cells z32 35)).alloc (.cells Z 123)).setRow (w.heap.size + 1) cs.toArray).heap[w.heap.size]? = some (.cells z32 35)) := (setRow_other _ _ _ _ (by omega)).trans ((Below.heap_alloc _ _ _ (by simp)).trans (heap_alloc_last w _))
  have H4 : Hid (Below w.heap.size w (((w.alloc (.cells z32 35)).alloc (.cells Z 123)).setRow (w.heap.size + 1) cs.toArray)) := below_setRow (((Below.refl _ _).alloc (Nat.le_refl _) _).alloc (by simp) _) (by omega) _
  have H5 : Hid ((((w.alloc (.cells z32 35)).alloc (.cells Z 123)).setRow (w.heap.size + 1) cs.toArray).heap.size = w.heap.size + 2) := by
    show _ = _
    simp [World.setRow]
  have hc73 : (((w.alloc (.cells z32 35)).alloc (.cells Z 123)).setRow (w.heap.size + 1) cs.toArray).cell? ⟨g, 73, none⟩ = some (.int .i64 (L.length : Int)) := by
    rw [World.cell?_of_block (w := w.alloc (.cells z32 35)) (a := ⟨g, 73, none⟩) ((setRow_other _ _ _ _ (show g ≠ w.heap.size + 1 by omega)).trans (Below.heap_alloc _ _ _ (by simp; omega)))]
    exact hl73
  have hz24 := (zero_of_info zero24_info).1
  clear hl73
  go_enter Tryd.func58, Tryd.ntmps58
  go_wp2_with (first | (go_at_call 78; refine k0.out.mono ?_; rintro e w' ⟨rfl, hw⟩; obtain rfl := hw.symm; clear hw) | (refine wpList_load_row rfl 123 (.tmp 8) rfl g rfl 123 cs.toArray (0, 0) _ H.out Tryd.underlying123 rfl (by rw [hl]; exact hsize) ?_) | (refine wpList_store_row rfl 123 (.tmp 3) (.tmp 9) rfl (w.heap.size + 1) cs.toArray rfl rfl 123 Z H1.out (by rw [hl]; exact hsize) (by rw [HZ.out, hl]) h1 ?_))
  clear H H1 k0 hc73 hz hz24
  generalize ((w.alloc (.cells z32 35)).alloc (.cells Z 123)).setRow (w.heap.size + 1) cs.toArray = W3 at *
  refine (end_is L.length (by omega) W3).mono ?_
  rintro e w' ⟨rfl, hw⟩
  obtain rfl := hw.symm
  clear hw
  have HH4 : Hid (HashAt (W3.alloc (.cells (u8s (endL L.length)) 5)) (w.heap.size + 1) L) := by
    refine ⟨R, HR.out.1, HR.out.2.1, HR.out.2.2, ?_⟩
    rw [← HCS.out]
    exact (Below.heap_alloc _ _ _ (lt_of_heap H2.out)).trans H2.out
  have HK4 : Hid (KIs (W3.alloc (.cells (u8s (endL L.length)) 5))) := HK.out.below (H4.out.alloc H4.out.size _) HK.out.pos
  have hz64 := zerosN_lt L.length
  have KW : Hid (Calls Tryd.prog 57 #[.pointer (some ⟨w.heap.size + 1, 0, none⟩), .slice (some ⟨W3.heap.size, 0, none⟩) (9 + zerosN L.length) (9 + zerosN L.length)] (W3.alloc (.cells (u8s (endL L.length)) 5)) fun e w' => e = .returned (.tuple #[]) ∧ HashAt w' (w.heap.size + 1) (L ++ endL L.length) ∧ Only (w.heap.size + 1) (W3.alloc (.cells (u8s (endL L.length)) 5)) w') :=
    write_is _ L (endL L.length) _ _ _ _ (endL_len _) (endL_bytes _) (Nat.le_refl _) (by omega) (by omega) (holds_laid _ _ _) (by
      intro x hx _
      simp only [Option.some.injEq] at hx
      subst hx
      show W3.heap.size ≠ w.heap.size + 1
      rw [H5.out]; omega) HH4.out HK4.out
  have hs4 : (W3.alloc (.cells (u8s (endL L.length)) 5)).heap.size = w.heap.size + 3 := by rw [World.size_alloc, H5.out]
  have HS4 : Hid ((W3.alloc (.cells (u8s (endL L.length)) 5)).heap.size = w.heap.size + 3) := hs4
  have H34 : Hid ((W3.alloc (.cells (u8s (endL L.length)) 5)).heap[w.heap.size]? = some (.cells z32 35)) := (Below.heap_alloc _ _ _ (lt_of_heap H3.out)).trans H3.out
  have H44 : Hid (Below w.heap.size w (W3.alloc (.cells (u8s (endL L.length)) 5))) := H4.out.alloc H4.out.size _
  clear HH4 HK4 hz64 hs4
  generalize W3.alloc (.cells (u8s (endL L.length)) 5) = W4 at *
  go_wp2_with fail
  refine KW.out.mono ?_
  rintro e w5 ⟨rfl, hH5, hO5⟩
  have HH5 : Hid (HashAt w5 (w.heap.size + 1) (L ++ endL L.length)) := hH5
  have HO5 : Hid (Only (w.heap.size + 1) W4 w5) := hO5
  clear hH5 hO5 KW
  have RN : Hid (w5.rangeAt (w.heap.size + 1) 1 (u32s (nums (L ++ endL L.length))).toList) := by
    obtain ⟨R5, _, _, _, h5⟩ := HH5.out
    exact hash_nums (nums_len _) h5
  have H35 : Hid (w5.heap[w.heap.size]? = some (.cells z32 35)) := (HO5.out.block _ (by rw [HS4.out]; omega) (by omega)).trans H34.out
  have H45 : Hid (Below w.heap.size w w5) := H44.out.trans (HO5.out.below _ (by omega) (by rw [HS4.out]; omega))
  have hsl := shaL_len L
  have HSL : Hid (digL (nums (L ++ endL L.length)) = shaL L) := rfl
  have hnl := nums_len (L ++ endL L.length)
  generalize nums (L ++ endL L.length) = s5 at *
  have KD : Hid (∀ W, Calls Tryd.prog 81 #[.agg (u32s s5)] W fun e w' => e = .returned (.agg (u8s (shaL L))) ∧ Below W.heap.size W w') := fun W => by rw [← HSL.out]; exact digest_is s5 hnl W
  clear HSL
  go_wp2_with (refine wpList_load_mid rfl 119 (.tmp 16) rfl (w.heap.size + 1) 1 rfl (u32s s5).toList _ RN.out Tryd.underlying119 rfl (by rw [Array.length_toList, u32s_size, hnl]; exact size8) ?_; rw [Array.toArray_toList])
  refine (KD.out w5).mono ?_
  rintro e w6 ⟨rfl, hb6⟩
  have H36 : Hid (w6.heap[w.heap.size]? = some (.cells z32 35)) := (hb6.block _ (lt_of_heap H35.out)).trans H35.out
  have H46 : Hid (Below w.heap.size w w6) := H45.out.trans (hb6.mono H45.out.size)
  clear hb6
  go_wp2_with (refine wpList_store_row rfl 35 (.tmp 2) (.tmp 18) rfl w.heap.size (u8s (shaL L)) rfl rfl 35 z32 H36.out (size32l _ hsl) (by rw [z32_size, u8s_size, hsl]) (u8s_one _) ?_)
  refine bodyPost_ret (results_cell_row rfl _ _ w.heap.size 35 (u8s (shaL L)) (0, 0) _ rfl (setRow_heap _ _ _ _ _ _ H36.out) Tryd.underlying35 rfl (size32l _ hsl)) rfl ⟨?_, ?_⟩
  · rfl
  · exact below_setRow H46.out (Nat.le_refl _) _
theorem sum_is (B : List Int) (a : Option Addr) (n cap : Nat) (w : World) (hB : B.length = n) (hb : IsBytes B) (hc : n ≤ cap) (hcm : cap ≤ 1152921504606846000) (hh : Holds w a B)
    (hf : ∀ x, a = some x → B ≠ [] → x.block < w.heap.size) (hk : KIs w) :
    Calls Tryd.prog 36 #[.slice a n cap] w fun e w' => e = .returned (.agg (u8s (shaL B))) ∧ Below w.heap.size w w' := by
  have HK : Hid (KIs w) := hk
  have HB : Hid (IsBytes B) := hb
  have HH : Hid (Holds w a B) := hh
  have HF : Hid (∀ x, a = some x → B ≠ [] → x.block < w.heap.size) := hf
  have hz24 := (zero_of_info zero24_info).1
  clear hk hb hh hf
  go_enter Tryd.func36, Tryd.ntmps36
  go_wp2_with (go_at_call 56; refine (new_is _).mono ?_; rintro e w1 ⟨g, rfl, hg, hH1, hb1⟩; have HH1 : Hid (HashAt w1 g []) := hH1; have HB1 : Hid (Below (w.alloc (.cells z32 35)).heap.size (w.alloc (.cells z32 35)) w1) := hb1; have HG : Hid ((w.alloc (.cells z32 35)).heap.size ≤ g) := hg; clear hH1 hb1 hg)
  have hsz : (w.alloc (.cells z32 35)).heap.size = w.heap.size + 1 := by simp
  have hg1 : w.heap.size + 1 ≤ g := by have := HG.out; omega
  have BW1 : Hid (Below w.heap.size w w1) := ((Below.refl _ _).alloc (Nat.le_refl _) _).trans (HB1.out.mono (by rw [hsz]; omega))
  have HZ1 : Hid (w1.heap[w.heap.size]? = some (.cells z32 35)) := (HB1.out.block _ (by rw [hsz]; omega)).trans (heap_alloc_last w _)
  have HK1 : Hid (KIs w1) := HK.out.below BW1.out HK.out.pos
  clear HB1 HG hsz hz24
  refine (write_is g [] B a n cap w1 hB HB.out hc (by omega) (by simp) (HH.out.below BW1.out HF.out) (fun x hx hne => by have := HF.out x hx hne; omega) HH1.out HK1.out).mono ?_
  rintro e w2 ⟨rfl, hH2, hO2⟩
  rw [List.nil_append] at hH2
  have HH2 : Hid (HashAt w2 g B) := hH2
  have BW2 : Hid (Below w.heap.size w w2) := BW1.out.trans (hO2.below _ (by omega) BW1.out.size)
  have HZ2 : Hid (w2.heap[w.heap.size]? = some (.cells z32 35)) := (hO2.block _ (lt_of_heap HZ1.out) (by omega)).trans HZ1.out
  have HK2 : Hid (KIs w2) := HK.out.below BW2.out HK.out.pos
  clear hH2 hO2
  go_wp2_with fail
  refine (sumH_is g B w2 HH2.out HK2.out (by omega)).mono ?_
  rintro e w3 ⟨rfl, hb3⟩
  have HZ3 : Hid (w3.heap[w.heap.size]? = some (.cells z32 35)) := (hb3.block _ (lt_of_heap HZ2.out)).trans HZ2.out
  have BW3 : Hid (Below w.heap.size w w3) := BW2.out.trans (hb3.mono BW2.out.size)
  have hsl := shaL_len B
  clear hb3
  go_wp2_with (refine wpList_store_row rfl 35 (.tmp 2) (.tmp 9) rfl w.heap.size (u8s (shaL B)) rfl rfl 35 z32 HZ3.out (size32l _ hsl) (by rw [z32_size, u8s_size, hsl]) (u8s_one _) ?_)
  refine bodyPost_ret (results_cell_row rfl _ _ w.heap.size 35 (u8s (shaL B)) (0, 0) _ rfl (setRow_heap _ _ _ _ _ _ HZ3.out) Tryd.underlying35 rfl (size32l _ hsl)) rfl ⟨rfl, ?_⟩
  exact below_setRow BW3.out (Nat.le_refl _) _
end Go.Proofs.YtlddoobomjcldaaDoor
namespace Go.Proofs.YtlddoobomjcldaaDoor
open Go.ChangeShapes Go.WideShapes Go.ChangeAt Go.RowKit Go.Deep
set_option linter.unusedVariables false
theorem all_range_ints : ∀ (xs ys : List Int), xs.length = ys.length → ((List.range xs.length).all fun i => decide (xs.getD i 0 = ys.getD i 0)) = decide (xs = ys)
  | [], [], _ => rfl
  | x :: xs, y :: ys, h => by
    have ih := all_range_ints xs ys (by simpa using h)
    rw [List.length_cons, List.range_succ_eq_map, List.all_cons, List.all_map]
    simp only [List.getD_cons_zero, Function.comp_def, List.getD_cons_succ, ih]
    by_cases h1 : x = y <;> by_cases h2 : xs = ys <;> simp [h1, h2]
  | [], _ :: _, h => by simp at h
  | _ :: _, [], h => by simp at h
theorem size8_run (w : World) : (sizeOf 5).run Tryd.prog w = .ok 1 w := by
  obtain ⟨i, hi8, _, h1, _⟩ := info8p
  simp [sizeOf, typeInfo, hi8, h1]
theorem equal_digest (d : Nat) (A B : List Int) (hA : A.length = 32) (hB : B.length = 32) (w : World) :
    (Op.equalIn (d + 2) 35 (.agg (u8s A)) (.agg (u8s B))).run Tryd.prog w = .ok (decide (A = B)) w := by
  rw [← all_range_ints A B (hA.trans hB.symm), hA, List.range_eq_range', Op.equalIn]
  simp only [Sem.run_bind, run_underlying Tryd.underlying35, Result.andThen_ok, size8_run, Std.Legacy.Range.forIn_eq_forIn_range', Std.Legacy.Range.size, Nat.sub_zero, Nat.add_sub_cancel, Nat.div_one]
  have hl : ∀ i ∈ List.range' 0 32 1, i < 32 := fun i hi => by simpa using (List.mem_range'_1.1 hi).2
  generalize List.range' 0 32 1 = l at hl ⊢
  induction l with
  | nil => simp
  | cons i l ih =>
    have hi : i < 32 := hl i (by simp)
    have px : (part 5 (u8s A) (i * 1)).run Tryd.prog w = .ok (.int .u8 (A.getD i 0)) w := by
      simp [part, isAgg, run_underlying Tryd.underlying5, u8s, List.getD, List.getElem?_eq_getElem (show i < A.length by omega)]
    have py : (part 5 (u8s B) (i * 1)).run Tryd.prog w = .ok (.int .u8 (B.getD i 0)) w := by
      simp [part, isAgg, run_underlying Tryd.underlying5, u8s, List.getD, List.getElem?_eq_getElem (show i < B.length by omega)]
    have pe : (Op.equalIn (d + 1) 5 (.int .u8 (A.getD i 0)) (.int .u8 (B.getD i 0))).run Tryd.prog w = .ok (decide (A.getD i 0 = B.getD i 0)) w := by
      rw [run_equalIn_int w d 5 .u8 .u8 _ _ Tryd.underlying5]
      congr 1
    simp only [List.forIn_cons, Sem.run_bind, px, py, pe, Result.andThen_ok, List.all_cons]
    cases hb : decide (A.getD i 0 = B.getD i 0)
    · simp
    · simp only [Bool.not_true, Bool.false_eq_true, if_false, Sem.run_pure, Result.andThen_ok, Bool.true_and]
      exact ih fun j hj => hl j (by simp [hj])
theorem eq_digest (A B : List Int) (hA : A.length = 32) (hB : B.length = 32) (w : World) :
    (Op.equalIn 10000 35 (.agg (u8s A)) (.agg (u8s B))).run Tryd.prog w = .ok (decide (A = B)) w := equal_digest 9998 A B hA hB w
theorem guard_digest : Tryd.prog.eqGuardType Tryd.prog.depth 35 = false := by kernel_rfl
theorem wpList_load_row_g {ops : Array Oper} {rest : List Oper} {o : Oper} {a : Act} {w : World} {Q : Exit → Act → World → Prop} (ty : TypeId) (x : Operand) (ho : o.op = .load ty x) (hw : Region.wanted o (yielded ops a.tmps) = true)
    (g : Nat) (hx : a.eval x = .pointer (some ⟨g, 0, none⟩)) (t : TypeId) (cs : Array Value) (fr : Nat × Nat) (n : Nat) (el : TypeId) (hg : w.heap[g]? = some (.cells cs t fr))
    (hu : Tryd.prog.underlying ty = some (.array n el)) (hi : (Tryd.prog.info? ty).map (·.size) = some cs.size)
    (h : wpList Tryd.prog ops Q rest (a.put o.dst (.agg cs)) w) : wpList Tryd.prog ops Q (o :: rest) a w := by
  unfold wpList
  rw [if_pos hw]
  exact .inl (wp_load_row ty x ho g hx t cs fr _ hg hu rfl hi h)
end Go.Proofs.YtlddoobomjcldaaDoor
