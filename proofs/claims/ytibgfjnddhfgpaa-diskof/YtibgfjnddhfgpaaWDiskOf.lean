/- DiskOf's walk. Written by gen_of.py. -/
import Derived.Test.YtibgfjnddhfgpaaDkRw
import Derived.Test.YtibgfjnddhfgpaaWDiskPlays
namespace Go.Proofs.Ytibgfjnddhfgpaa
open Go.ChangeShapes Go.WideShapes Go.ChangeAt Go.RowKit Go.Deep Go.Maps
set_option linter.unusedVariables false
theorem firstM_at (M : Nat → List Int) (m k : Nat) (hk : k < m) : (firstM M m)[k]? = some (M k) := by
  unfold firstM
  rw [List.getElem?_map, List.getElem?_range hk]
  rfl
theorem Pr.drewN {w wr : World} {P : Nat → Prop} {d r N : Nat} {sd sr : Ds} (h : Pr w wr P d r N sd sr) (q : Nat) : Pr w (wr.drewN q) P d r N sd sr := (h.keep (w' := wr.drewN q) ⟨rfl, rfl, rfl, Nat.le_refl _, fun _ _ => rfl⟩).less (fun _ h => .inl h)
/-- a disk of one block of noughts -/
theorem one_of (W : World) : Calls Try.prog 17 #[.slice (some ⟨W.heap.size + 1, 0, none⟩) 1 1] ((W.alloc (.cells (madeCells #[.int .u8 0] 64) 5)).alloc (.cells #[.slice (some ⟨W.heap.size, 0, none⟩) 64 64] 35)) fun e w' => ∃ b, e = .returned (.tuple #[.pointer (some ⟨b, 0, none⟩), .int .i64 0]) ∧ (∀ W2, Below w'.heap.size w' W2 → Calls Try.prog 16 #[.pointer (some ⟨b, 0, none⟩)] W2 fun e w2 => e = .returned (.int .i64 1) ∧ w2 = W2) ∧ Below W.heap.size W w' := by
  have ho := madeO W 64 (by omega)
  have hs : (W.alloc (.cells (madeCells #[.int .u8 0] 64) 5)).heap.size = W.heap.size + 1 := by simp
  obtain ⟨W1, hW1⟩ : ∃ W1, W.alloc (.cells (madeCells #[.int .u8 0] 64) 5) = W1 := ⟨_, rfl⟩
  have hb : Below W.heap.size W (W1.alloc (.cells #[.slice (some ⟨W.heap.size, 0, none⟩) 64 64] 35)) := by
    rw [← hW1]
    exact (below1 W _).trans ((below1 _ _).mono (by simp))
  rw [hW1] at ho hs ⊢
  have hin : In2 (W1.alloc (.cells #[.slice (some ⟨W.heap.size, 0, none⟩) 64 64] 35)) (some ⟨W.heap.size + 1, 0, none⟩) 1 (fun _ => (some ⟨W.heap.size, 0, none⟩, 64, 64)) (fun _ => List.replicate 64 0) := by
    refine ⟨fun _ => ⟨W.heap.size + 1, 0, rfl, by simp [hs], fun i hi => ?_⟩, fun i hi => ⟨holds_kept ho.holds.1 fun x hx _ => ?_, by simp, (bytes_of_mem fun y hy => by rw [(List.mem_replicate.1 hy).2]; omega), (fun h => by cases h), fun x hx _ => ?_, Nat.le_refl _, by show 64 ≤ 9223372036854775807; omega⟩⟩
    · obtain rfl : i = 0 := by omega
      have := heap_alloc_new W1 (.cells #[.slice (some ⟨W.heap.size, 0, none⟩) 64 64] 35)
      rw [hs] at this
      rw [cell_of_row _ (W.heap.size + 1) (0 + 0) _ _ (0, 0) this]
      rfl
    · cases hx
      exact Below.heap_alloc _ _ _ (by simp [hs])
    · cases hx
      simp [hs]
      omega
  refine (of_is _ 1 1 _ _ _ (by omega) (by omega) hin).mono ?_
  rintro e w' ⟨hb2, ⟨⟨i, _, h⟩, _⟩ | ⟨_, b, F, rfl, hd, _⟩⟩
  · simp at h
  · exact ⟨b, rfl, fun W2 h2 => dk_blocks W2 F b 0 (Ds.of (fun _ => List.replicate 64 0) 1) (hd.keep h2), hb.trans (hb2.mono hb.size)⟩
set_option maxRecDepth 100000 in
set_option maxHeartbeats 16000000 in
theorem diskOf_walk (a : Option Addr) (len cap : Nat) (V : Nat → Option Addr × Nat × Nat) (M : Nat → List Int) (a2 : Option Addr) (len2 cap2 : Nat) (A : Nat → Av) (w : World) (hI : In2 w a len V M) (hl24 : len * 24 ≤ 140737488351232) (hR : ∀ i, i < len → (M i).length ≤ 140737488351232) (hlc : len ≤ cap)
    (hA : InA w a2 len2 A) (hX : ∀ i, i < len2 → ((A i).ka = none → (A i).kc = 0) ∧ (A i).kl ≤ 17592186044416) :
    Calls Try.prog 4 #[.slice a len cap, .slice a2 len2 cap2] w fun e w' => e = .returned (.bool true) ∧ Below w.heap.size w w' := by
  have HA : Hid (InA w a2 len2 A) := hA
  have HX : Hid (∀ i, i < len2 → ((A i).ka = none → (A i).kc = 0) ∧ (A i).kl ≤ 17592186044416) := hX
  have HMK : Hid (∀ W : World, (Instr.makeSlice 35 (.int .i64 64) (.int .i64 64)).run Try.prog W = .ok (.slice (some ⟨W.heap.size, 0, none⟩) 64 64) (W.alloc (.cells (madeCells #[.int .u8 0] 64) 5))) := fun W => run_make_row' 35 5 (.int .u8 0) 1 Try.underlying35 info8 rfl .i64 .i64 64 (by omega) (by omega) W
  have K1 : Hid (∀ W : World, Calls Try.prog 17 #[.slice (some ⟨W.heap.size + 1, 0, none⟩) 1 1] ((W.alloc (.cells (madeCells #[.int .u8 0] 64) 5)).alloc (.cells #[.slice (some ⟨W.heap.size, 0, none⟩) 64 64] 35)) fun e w' => ∃ b, e = .returned (.tuple #[.pointer (some ⟨b, 0, none⟩), .int .i64 0]) ∧ (∀ W2, Below w'.heap.size w' W2 → Calls Try.prog 16 #[.pointer (some ⟨b, 0, none⟩)] W2 fun e w2 => e = .returned (.int .i64 1) ∧ w2 = W2) ∧ Below W.heap.size W w') := one_of
  generalize madeCells #[.int .u8 0] 64 = mc at *
  clear hA hX
  go_enter Try.func4, Try.ntmps4
  by_cases h50 : 50 < len ∧ len ≤ 4096
  · have g1 : decide (50 < (len : Int)) = true := by rw [decide_eq_true_eq]; omega
    have g2 : decide ((len : Int) ≤ 4096) = true := by rw [decide_eq_true_eq]; omega
    obtain ⟨ib0, off0, rfl, hib0, _⟩ := hI.1 (by omega)
    have HI : Hid (In2 w (some ⟨ib0, off0, none⟩) 50 V M) := hI.less (by omega)
    have HL : Hid (50 ≤ 1000000000000000 ∧ 50 * 24 ≤ 140737488351232) := ⟨by omega, by omega⟩
    have HR : Hid (∀ i, i < 50 → (M i).length ≤ 140737488351232) := fun i hi => hR i (by omega)
    have h5c : 50 ≤ cap := by omega
    clear hI hR hl24 hlc hib0
    go_wp2_with fail
    generalize (some (⟨ib0, off0, none⟩ : Addr)) = a at *
    clear g1 g2 h50
    go_loopg [5, 28] 50 (fun gg vv iv wr => ∃ (i : Nat) (va : Option Addr) (vc : Nat) (V1 : List Value), i ≤ 50 ∧ gg = 50 - i ∧ vv = .slice va i vc ∧ iv = .int .i64 (i : Int) ∧ Hid (Rws wr w.heap.size (.slice va i vc) V1 (firstM M i) ∧ V1.length = i) ∧ Hid (Below w.heap.size w wr))
    case atStart => exact ⟨0, none, 0, [], by omega, rfl, rfl, rfl, ⟨Rws.nil _ _, rfl⟩, Below.refl _ _⟩
    case round =>
      obtain ⟨i, va, vc, V1, him, rfl, rfl, rfl, RW, BW⟩ := hrel
      by_cases hi : i < 50
      · have f1 : decide ((i : Int) < (50 : Int)) = true := by rw [decide_eq_true_eq]; omega
        have ri : IntKind.i64.wrap ((i : Int) + 1) = (i : Int) + 1 := by rw [IntKind.wrap_i64]; have := HL.out.1; omega
        obtain ⟨ib, off, rfl, hib, hcells⟩ := HI.out.1 (by omega)
        have c0 := (BW.out.cell (p := ⟨ib, off + i, none⟩) hib).trans (hcells i hi)
        obtain ⟨r1, r2, r3, r4, r5, r6, r7⟩ := (HI.out.below BW.out).2 i hi
        have q9 := HR.out i hi
        generalize hv : V i = v at *
        obtain ⟨ja, jl, jc⟩ := v
        simp only at c0 r1 r2 r4 r5 r6 r7
        have HH : Hid (Holds (wr.alloc (.cells #[] 5)) ja (M i) ∧ (ja = none → jc = 0) ∧ (M i).length = jl ∧ jl ≤ 140737488351232) := ⟨holds_kept r1 fun x hx hL => Below.heap_alloc _ _ _ (r5 x hx hL), r4, r2, by rw [← r2]; exact q9⟩
        have c1 := (below1 wr (.cells #[] 5)).cell (p := ⟨ib, off + i, none⟩) (Nat.lt_of_lt_of_le hib BW.out.size) |>.trans c0
        have hlw := RW.out.2
        clear r1 r2 r3 r4 r5 r6 r7 hcells hv q9
        go_wp2_with (first
          | (at_builtin; refine append_bytes rfl (.tmp 32) (.tmp 36) rfl wr.heap.size _ [] rfl (owned_empty wr wr.heap.size (Nat.le_refl _)) ja jl jc (M i) rfl HH.out.2.2.1 HH.out.1 HH.out.2.1 jl (Nat.zero_add _) (by have := HH.out.2.2.2; omega) (by simp) ?_; intro a' c' w2 ho2 hb2; have O2 : Hid (Owned w2 wr.heap.size (.slice a' jl c') (M i)) := ho2; have B2 : Hid (Below wr.heap.size wr w2) := (below1 wr _).trans hb2; have N3 : Hid ((w2.alloc (.cells #[.slice a' jl c'] 35)).cell? ⟨w2.heap.size, 0, none⟩ = some (.slice a' jl c')) := (by rw [cell_of_row _ w2.heap.size 0 _ _ (0, 0) (heap_alloc_new w2 _)]; rfl); have B3 : Hid (Below wr.heap.size wr (w2.alloc (.cells #[.slice a' jl c'] 35))) := B2.out.trans ((below1 w2 _).mono B2.out.size); clear ho2 hb2)
          | (at_builtin; go_loud (refine append_rowR rfl (.tmp 31) (.tmp 38) rfl w.heap.size _ V1 rfl (RW.out.1.keep B3.out).row w2.heap.size (.slice a' jl c') rfl rfl N3.out (by have := HL.out.2; omega) (Nat.le_trans BW.out.size B3.out.size) ?_; intro g c w4 hrow hg hat; have R4 : Hid (Rws w4 w.heap.size (.slice (some ⟨g, 0, none⟩) (V1.length + 1) c) (V1 ++ [.slice a' jl c']) (firstM M i ++ [M i])) := (RW.out.1.more B3.out (owned_kept O2.out fun k hk => Below.heap_alloc _ _ _ (World.ownsRow.lt O2.out k hk).2) BW.out.size hrow hg hat); have B4 : Hid (Below w.heap.size w w4) := ((BW.out.trans (B3.out.mono BW.out.size)).grown hg (Nat.le_trans BW.out.size B3.out.size) (fun k e => (RW.out.1.lt k (.inl e)).1)); clear hrow hg hat; rw [hlw] at R4 ⊢)))
        go_roundg (50 - (i + 1))
        case measure => omega
        case rel => exact ⟨i + 1, some ⟨g, 0, none⟩, c, _, by omega, rfl, rfl, by simp, ⟨by rw [← firstM_succ]; exact R4.out, by simp [hlw]⟩, B4⟩
      · have f1 : decide ((i : Int) < (50 : Int)) = false := by rw [decide_eq_false_iff_not]; omega
        have him2 : i = 50 := (by omega)
        subst i
        obtain ⟨Vf, hin2⟩ := RW.out.1.in2 RW.out.2 (fun k hk => firstM_at M 50 k hk) (fun k hk => (HI.out.2 k hk).2.2.1)
        have V1L : Hid (V1.length = 50) := RW.out.2
        by_cases hm : 1 ≤ 50 ∧ 50 ≤ 4096
        · by_cases h64 : ∀ i, i < 50 → (M i).length = 64
          · have KO : Hid (Calls Try.prog 17 #[.slice va 50 vc] wr fun e w' => Below wr.heap.size wr w' ∧ ∃ b F, e = .returned (.tuple #[.pointer (some ⟨b, 0, none⟩), .int .i64 0]) ∧ Dk w' F b 0 (Ds.of M 50) ∧ ∀ k, F k → wr.heap.size ≤ k) := by
              refine (of_is va 50 vc Vf M wr hm.1 hm.2 hin2).mono ?_
              rintro e w' ⟨hb, ⟨⟨i, hi, h⟩, _⟩ | ⟨_, h⟩⟩
              · exact absurd (h64 i hi) h
              · exact ⟨hb, h⟩
            have KR : Hid (∀ W, Below w.heap.size w W → Calls Try.prog 18 #[.slice a 50 cap] W fun e w' => Below W.heap.size W w' ∧ ∃ b F, e = .returned (.tuple #[.pointer (some ⟨b, 0, none⟩), .int .i64 0]) ∧ Rk w' F b 0 (Ds.of M 50) ∧ ∀ k, F k → W.heap.size ≤ k) := fun W hbW => by
              refine (rof_is a 50 cap V M W hm.1 hm.2 (HI.out.below hbW)).mono ?_
              rintro e w' ⟨hb, ⟨⟨i, hi, h⟩, _⟩ | ⟨_, h⟩⟩
              · exact absurd (h64 i hi) h
              · exact ⟨hb, h⟩
            clear hin2 hm h64
            go_wp2_with fail
            refine KO.out.mono ?_
            rintro e w1 ⟨hb1, d, F1, rfl, hd1, hF1⟩
            have D1 : Hid (Dk w1 F1 d 0 (Ds.of M 50) ∧ Below wr.heap.size wr w1 ∧ (∀ k, F1 k → wr.heap.size ≤ k)) := ⟨hd1, hb1, hF1⟩
            have BW1 : Hid (Below w.heap.size w w1) := BW.out.trans (hb1.mono BW.out.size)
            clear hb1 hd1 hF1 KO
            go_wp2_with fail
            refine (KR.out w1 BW1.out).mono ?_
            rintro e w2 ⟨hb2, r, F2, rfl, hr, hF2⟩
            have RZ : Hid (Rws w2 w.heap.size (.slice va 50 vc) V1 (firstM M 50)) := (RW.out.1.keep D1.out.2.1).keep hb2
            obtain ⟨s, hs⟩ : ∃ s, Ds.of M 50 = s := ⟨_, rfl⟩
            have SZ : Hid (Pr w w2 (RwF (.slice va 50 vc) V1) d r 0 s s) := by
              rw [← hs]
              refine ⟨F1, F2, D1.out.1.keep hb2, hr, fun k h1 h2 => by have := D1.out.1.lt k h1; have := hF2 k h2; omega, fun k hk => Nat.le_trans BW.out.size (D1.out.2.2 k hk), fun k hk => Nat.le_trans BW1.out.size (hF2 k hk), BW1.out.trans (hb2.mono BW1.out.size), fun k hk => ?_⟩
              have h1 := RW.out.1.lt k hk
              exact ⟨(RZ.out.lt k hk).2, fun h => by have := D1.out.2.2 k h; omega, fun h => by have := hF2 k h; have := D1.out.2.1.size; omega⟩
            clear hb2 hr hF2 D1 KR RW BW BW1 hs
            generalize w2 = w2' at *
            go_wp2_with fail
            go_loopg [63] 50 (fun gg jv wq => ∃ (j : Nat) (L : List (List Int)), j ≤ 50 ∧ gg = 50 - j ∧ jv = .int .i64 (j : Int) ∧ Hid (Rws wq w.heap.size (.slice va 50 vc) V1 L ∧ ∀ k, j ≤ k → k < 50 → L[k]? = some (M k)) ∧ Hid (Pr w wq (RwF (.slice va 50 vc) V1) d r 0 s s))
            case atStart => exact ⟨0, firstM M 50, by omega, rfl, rfl, ⟨RZ.out, fun k _ hk => firstM_at M 50 k hk⟩, SZ⟩
            case round =>
              obtain ⟨j, L, hjm, rfl, rfl, RQ, SQ⟩ := hrel
              clear SZ RZ
              by_cases hj : j < 50
              · have f1 : decide ((j : Int) < (50 : Int)) = true := by rw [decide_eq_true_eq]; omega
                have rj : IntKind.i64.wrap ((j : Int) + 1) = (j : Int) + 1 := by rw [IntKind.wrap_i64]; have := HL.out.1; omega
                obtain ⟨gi, rfl⟩ : ∃ g, va = some ⟨g, 0, none⟩ := by
                  rcases RQ.out.1.row.2 with ⟨_, h0⟩ | ⟨g, c', cur, e, _⟩
                  · have := V1L.out; omega
                  · injection e with e1 e2 e3
                    exact ⟨g, e1⟩
                obtain ⟨u, hu⟩ : ∃ u, V1[j]? = some u := ⟨_, List.getElem?_eq_getElem (by have := V1L.out; omega)⟩
                have ho := RQ.out.1.own j u (M j) hu (RQ.out.2 j (Nat.le_refl j) hj)
                obtain ⟨ua, uc, rfl, _⟩ := ho.slice
                have k1 : wr.cell? ⟨gi, j, none⟩ = some (.slice ua (M j).length uc) := by
                  have hr : wr.ownsRow w.heap.size 35 1 (.slice (some ⟨gi, 0, none⟩) 50 vc) 50 V1 := by have h := RQ.out.1.row; rw [V1L.out] at h; exact h
                  rw [World.ownsRow.cellAt hr j (by omega)]
                  exact hu
                obtain ⟨ib, off, rfl, hib, hcells⟩ := HI.out.1 (by omega)
                have k2 := (SQ.out.below.cell (p := ⟨ib, off + j, none⟩) hib).trans (hcells j hj)
                obtain ⟨r1, r2, r3, r4, r5, r6, r7⟩ := (HI.out.below SQ.out.below).2 j hj
                generalize hv : V j = v at *
                obtain ⟨ja, jl, jc⟩ := v
                simp only at k2 r1 r2
                have Q9 : Hid ((M j).length ≤ 140737488351232) := HR.out j hj
                have cv1 : ∀ q, (convert 35 9 (.slice ua (M j).length uc)).run Try.prog (wr.drewN q) = .ok (.string (strOfNums (M j))) (wr.drewN q) := fun q => conv_str (w := wr.drewN q) ho.holds.1 _ _ rfl
                have cv2 : ∀ q, (convert 35 9 (.slice ja jl jc)).run Try.prog (wr.drewN q) = .ok (.string (strOfNums (M j))) (wr.drewN q) := fun q => conv_str (w := wr.drewN q) r1 _ _ r2
                have UJ : Hid (V1[j]? = some (.slice ua (M j).length uc)) := hu
                have XJ : Hid (∃ x, L[j]? = some x ∧ x.length = (M j).length) := ⟨M j, RQ.out.2 j (Nat.le_refl j) hj, rfl⟩
                clear ho hcells r1 r2 r3 r4 r5 r6 r7 hu hv
                generalize strOfNums (M j) = sx at *
                generalize (M j).length = q at *
                go_wp2_with fail
                go_quiet (fail)
                go_wp2_with fail
                go_loopg [82] q (fun gg kv wq => ∃ (k : Nat) (L : List (List Int)), k ≤ q ∧ gg = q - k ∧ kv = .int .i64 (k : Int) ∧ Hid (Rws wq w.heap.size (.slice (some ⟨gi, 0, none⟩) 50 vc) V1 L ∧ (∀ k, j + 1 ≤ k → k < 50 → L[k]? = some (M k)) ∧ ∃ x, L[j]? = some x ∧ x.length = q) ∧ Hid (Pr w wq (RwF (.slice (some ⟨gi, 0, none⟩) 50 vc) V1) d r 0 s s))
                case atStart => exact ⟨0, L, by omega, rfl, rfl, ⟨RQ.out.1.keep ⟨rfl, rfl, rfl, Nat.le_refl _, fun _ _ => rfl⟩, fun k hk hkm => RQ.out.2 k (by omega) hkm, XJ.out⟩, SQ.out.drewN _⟩
                case round =>
                  clear k1 k2 cv1 cv2 XJ RQ SQ
                  obtain ⟨k, L2, hkq, rfl, rfl, RQ, SQ⟩ := hrel
                  have k1 : wr.cell? ⟨gi, j, none⟩ = some (.slice ua q uc) := by
                    have hr : wr.ownsRow w.heap.size 35 1 (.slice (some ⟨gi, 0, none⟩) 50 vc) 50 V1 := by have h := RQ.out.1.row; rw [V1L.out] at h; exact h
                    rw [World.ownsRow.cellAt hr j (by omega)]
                    exact UJ.out
                  by_cases hk : k < q
                  · have f2 : decide ((k : Int) < (q : Int)) = true := by rw [decide_eq_true_eq]; omega
                    obtain ⟨x, hx, hxl⟩ := RQ.out.2.2
                    have ho := RQ.out.1.own j _ x UJ.out hx
                    obtain ⟨gu, rfl⟩ : ∃ g, ua = some ⟨g, 0, none⟩ := by
                      rcases ho.2 with ⟨_, h0⟩ | ⟨g, c', cur, e, _⟩
                      · omega
                      · injection e with e1 e2 e3
                        exact ⟨g, e1⟩
                    have hro : wr.ownsRow w.heap.size 5 1 (.slice (some ⟨gu, 0, none⟩) q uc) q (x.map (Value.int .u8)) := by
                      have h := ho
                      unfold Owned at h
                      rw [hxl] at h
                      exact h
                    have hgb : w.heap.size ≤ gu := (World.ownsRow.lt hro gu rfl).1
                    obtain ⟨x0, hx0⟩ : ∃ y, x[k]? = some y := ⟨_, List.getElem?_eq_getElem (by omega)⟩
                    have kc : wr.cell? ⟨gu, k, none⟩ = some (.int .u8 x0) := by
                      rw [World.ownsRow.cellAt hro k (by omega), List.getElem?_map, hx0]
                      rfl
                    have hfz : wr.frozen? ⟨gu, k, none⟩ = false := World.ownsRow.frozenAt (n := q) hro k
                    have rk : IntKind.i64.wrap ((k : Int) + 1) = (k : Int) + 1 := by rw [IntKind.wrap_i64]; have := Q9.out; omega
                    have IS : ∀ y, Hid (Rws (wr.setCell ⟨gu, k, none⟩ (.int .u8 y)) w.heap.size (.slice (some ⟨gi, 0, none⟩) 50 vc) V1 (L2.set j (x.set k y)) ∧ (∀ k', j + 1 ≤ k' → k' < 50 → (L2.set j (x.set k y))[k']? = some (M k')) ∧ ∃ x', (L2.set j (x.set k y))[j]? = some x' ∧ x'.length = q) := fun y => ⟨RQ.out.1.set j x UJ.out hx hxl k y, fun k' h1 h2 => by rw [List.getElem?_set_ne (by omega)]; exact RQ.out.2.1 k' h1 h2, _, List.getElem?_set_self (List.getElem?_eq_some_iff.1 hx).1, by rw [List.length_set]; exact hxl⟩
                    have SS : ∀ y, Hid (Pr w (wr.setCell ⟨gu, k, none⟩ (.int .u8 y)) (RwF (.slice (some ⟨gi, 0, none⟩) 50 vc) V1) d r 0 s s) := fun y => SQ.out.setP (.inr ⟨_, List.mem_of_getElem? UJ.out, rfl⟩) hgb k _
                    clear ho hro hx hxl hx0 hgb
                    go_wp2_with fail
                    go_roundg (q - (k + 1))
                    case measure => omega
                    case rel => exact ⟨k + 1, _, by omega, rfl, by simp, IS _, SS _⟩
                  · have f2 : decide ((k : Int) < (q : Int)) = false := by rw [decide_eq_false_iff_not]; omega
                    go_wp2_with fail
                    go_roundg (50 - (j + 1))
                    case measure => omega
                    case rel => exact ⟨j + 1, L2, by omega, rfl, by simp, ⟨RQ.out.1, RQ.out.2.1⟩, SQ⟩
              · have f1 : decide ((j : Int) < (50 : Int)) = false := by rw [decide_eq_false_iff_not]; omega
                clear RQ
                have T0 : Hid (Pr w wr (fun _ => False) d r 0 s s) := SQ.out.less (fun _ h => h.elim)
                generalize s = s0 at *
                go_wp2_with fail
                go_loopg [13] 20 (fun gg iv wr => ∃ (i : Nat) (s : Ds), i ≤ 20 ∧ gg = 20 - i ∧ iv = .int .i64 (i : Int) ∧ Hid (Pr w wr (fun _ => False) d r (2 * i) s s))
                case atStart => exact ⟨0, s0, by omega, rfl, rfl, T0⟩
                case round =>
                  obtain ⟨i, s, hi20, rfl, rfl, TW⟩ := hrel
                  clear T0 SQ
                  by_cases hil : i < len2 ∧ i < 20
                  · have e1 : decide ((i : Int) < (len2 : Int)) = true := by rw [decide_eq_true_eq]; omega
                    have e2 : decide ((i : Int) < 20) = true := by rw [decide_eq_true_eq]; omega
                    have ri : IntKind.i64.wrap ((i : Int) + 1) = (i : Int) + 1 := by rw [IntKind.wrap_i64]; omega
                    have hx := HX.out i hil.1
                    have HK : Hid ((A i).z.length = (A i).kl ∧ InK w (A i).ka (A i).z ∧ ((A i).ka = none → (A i).kc = 0) ∧ (A i).kl ≤ 17592186044416) := ⟨(HA.out.2 i hil.1).2.2.2.2.1, (HA.out.2 i hil.1).2.2.2.2.2, hx⟩
                    have hia := HA.out.below TW.out.below
                    obtain ⟨ab, aoff, rfl, hab, hacells⟩ := hia.1 (by omega)
                    obtain ⟨c0, c1, c2, c3, c4⟩ := hacells i hil.1
                    obtain ⟨b0, b1, b2, b3, b4, b5⟩ := hia.2 i hil.1
                    generalize A i = v at *
                    obtain ⟨vk, va', vn, vl, vka, vkl, vkc, vz⟩ := v
                    simp only at c0 c1 c2 c3 c4 b0 b1 b2 b3 HK
                    clear hia hacells b4 b5 hx
                    have KDo : Hid (Calls Try.prog 14 #[.pointer (some ⟨d, 0, none⟩), .pointer (some ⟨r, 0, none⟩), .agg #[.int .i64 vk, .int .i64 va', .int .i64 vn, .int .i64 vl, .slice vka vkl vkc]] wr fun e w' => e = .returned (.bool true) ∧ ∃ s', Pr w w' (fun _ => False) d r (2 * i + 2) s' s') := does_is TW.out (by omega) vk va' vn vl vka vkl vkc vz b0 b1 b2 b3 HK.out.1 HK.out.2.1 HK.out.2.2.1 HK.out.2.2.2
                    clear b0 b1 b2 b3
                    go_wp2_with fail
                    refine KDo.out.mono ?_
                    rintro e w6 ⟨rfl, s6, t6⟩
                    have T6 : Hid (Pr w w6 (fun _ => False) d r (2 * i + 2) s6 s6) := t6
                    clear t6 c0 c1 c2 c3 c4 KDo
                    have KS : Hid (Calls Try.prog 15 #[.pointer (some ⟨d, 0, none⟩), .pointer (some ⟨r, 0, none⟩)] w6 fun e w' => e = .returned (.bool true) ∧ Below w6.heap.size w6 w') := T6.out.same (by omega)
                    go_wp2_with fail
                    refine KS.out.mono ?_
                    rintro e w7 ⟨rfl, hb7⟩
                    have T7 : Hid (Pr w w7 (fun _ => False) d r (2 * (i + 1)) s6 s6) := (T6.out.keep hb7).less (fun _ h => h.elim)
                    clear hb7
                    go_wp2_with fail
                    go_roundg (20 - (i + 1))
                    case measure => omega
                    case rel => exact ⟨i + 1, s6, by omega, rfl, by simp, T7⟩
                  · obtain ⟨N, hN⟩ : ∃ N, 2 * i = N := ⟨_, rfl⟩
                    have hN2 : N ≤ 40 := by omega
                    have TN : Hid (Pr w wr (fun _ => False) d r N s s) := by rw [← hN]; exact TW.out
                    rcases (by omega : ¬ i < len2 ∨ (i < len2 ∧ ¬ i < 20)) with h0 | ⟨h0, h1⟩
                    · have e1 : decide ((i : Int) < (len2 : Int)) = false := by rw [decide_eq_false_iff_not]; omega
                      clear hil hN
                      have hmk1 := HMK.out wr
                      go_wp2_with fail
                      refine (K1.out wr).mono ?_
                      rintro e w8 ⟨b1, rfl, KB1, hb1⟩
                      have B8 : Hid (Below w.heap.size w w8) := (TN.out.below).trans (hb1.mono (TN.out.below).size)
                      have KB2 : Hid (∀ W, Below w8.heap.size w8 W → Calls Try.prog 16 #[.pointer (some ⟨b1, 0, none⟩)] W fun e w' => e = .returned (.int .i64 1) ∧ w' = W) := KB1
                      have T8 : Hid (Pr w w8 (fun _ => False) d r N s s) := (TN.out.keep hb1).less (fun _ h => h.elim)
                      have KS : Hid (Calls Try.prog 15 #[.pointer (some ⟨d, 0, none⟩), .pointer (some ⟨r, 0, none⟩)] w8 fun e w' => e = .returned (.bool true) ∧ Below w8.heap.size w8 w') := T8.out.same (by omega)
                      clear KB1 hb1 hmk1
                      go_wp2_with fail
                      refine KS.out.mono ?_
                      rintro e w9 ⟨rfl, hb9⟩
                      have B9 : Hid (Below w.heap.size w w9) := B8.out.trans (hb9.mono B8.out.size)
                      have KB3 : Hid (Calls Try.prog 16 #[.pointer (some ⟨b1, 0, none⟩)] w9 fun e w' => e = .returned (.int .i64 1) ∧ w' = w9) := KB2.out w9 hb9
                      clear hb9
                      go_wp2_with fail
                      refine KB3.out.mono ?_
                      rintro e w10 ⟨rfl, rfl⟩
                      go_wp2_with fail
                      go_ret
                      exact ⟨rfl, B9.out⟩
                    · have e1 : decide ((i : Int) < (len2 : Int)) = true := by rw [decide_eq_true_eq]; omega
                      have e2 : decide ((i : Int) < 20) = false := by rw [decide_eq_false_iff_not]; omega
                      clear hil hN
                      have hmk1 := HMK.out wr
                      go_wp2_with fail
                      refine (K1.out wr).mono ?_
                      rintro e w8 ⟨b1, rfl, KB1, hb1⟩
                      have B8 : Hid (Below w.heap.size w w8) := (TN.out.below).trans (hb1.mono (TN.out.below).size)
                      have KB2 : Hid (∀ W, Below w8.heap.size w8 W → Calls Try.prog 16 #[.pointer (some ⟨b1, 0, none⟩)] W fun e w' => e = .returned (.int .i64 1) ∧ w' = W) := KB1
                      have T8 : Hid (Pr w w8 (fun _ => False) d r N s s) := (TN.out.keep hb1).less (fun _ h => h.elim)
                      have KS : Hid (Calls Try.prog 15 #[.pointer (some ⟨d, 0, none⟩), .pointer (some ⟨r, 0, none⟩)] w8 fun e w' => e = .returned (.bool true) ∧ Below w8.heap.size w8 w') := T8.out.same (by omega)
                      clear KB1 hb1 hmk1
                      go_wp2_with fail
                      refine KS.out.mono ?_
                      rintro e w9 ⟨rfl, hb9⟩
                      have B9 : Hid (Below w.heap.size w w9) := B8.out.trans (hb9.mono B8.out.size)
                      have KB3 : Hid (Calls Try.prog 16 #[.pointer (some ⟨b1, 0, none⟩)] w9 fun e w' => e = .returned (.int .i64 1) ∧ w' = w9) := KB2.out w9 hb9
                      clear hb9
                      go_wp2_with fail
                      refine KB3.out.mono ?_
                      rintro e w10 ⟨rfl, rfl⟩
                      go_wp2_with fail
                      go_ret
                      exact ⟨rfl, B9.out⟩
          · obtain ⟨i0, hi0, hl0⟩ : ∃ i, i < 50 ∧ (M i).length ≠ 64 := by
              refine Classical.byContradiction fun hne => h64 fun i hi => ?_
              exact Classical.byContradiction fun h => hne ⟨i, hi, h⟩
            have KO : Hid (Calls Try.prog 17 #[.slice va 50 vc] wr fun e w' => Below wr.heap.size wr w' ∧ e = .returned (.tuple #[.pointer none, .int .i64 2])) := by
              refine (of_is va 50 vc Vf M wr hm.1 hm.2 hin2).mono ?_
              rintro e w' ⟨hb, ⟨_, h⟩ | ⟨h, _⟩⟩
              · exact ⟨hb, h⟩
              · exact absurd (h i0 hi0) hl0
            have KR : Hid (∀ W, Below w.heap.size w W → Calls Try.prog 18 #[.slice a 50 cap] W fun e w' => Below W.heap.size W w' ∧ e = .returned (.tuple #[.pointer none, .int .i64 2])) := fun W hbW => by
              refine (rof_is a 50 cap V M W hm.1 hm.2 (HI.out.below hbW)).mono ?_
              rintro e w' ⟨hb, ⟨_, h⟩ | ⟨h, _⟩⟩
              · exact ⟨hb, h⟩
              · exact absurd (h i0 hi0) hl0
            clear hin2 hm h64 hi0 hl0
            go_wp2_with fail
            refine KO.out.mono ?_
            rintro e w1 ⟨hb1, rfl⟩
            have BW1 : Hid (Below w.heap.size w w1) := BW.out.trans (hb1.mono BW.out.size)
            have R1 : Hid (Rws w1 w.heap.size (.slice va 50 vc) V1 (firstM M 50)) := RW.out.1.keep hb1
            clear hb1 KO
            go_wp2_with fail
            refine (KR.out w1 BW1.out).mono ?_
            rintro e w2 ⟨hb2, rfl⟩
            have RZ : Hid (Rws w2 w.heap.size (.slice va 50 vc) V1 (firstM M 50)) := R1.out.keep hb2
            have SZ : Hid (Below w.heap.size w w2) := BW1.out.trans (hb2.mono BW1.out.size)
            clear hb2 R1 KR RW BW BW1
            go_wp2_with fail
            go_loopg [63] 50 (fun gg jv wq => ∃ (j : Nat) (L : List (List Int)), j ≤ 50 ∧ gg = 50 - j ∧ jv = .int .i64 (j : Int) ∧ Hid (Rws wq w.heap.size (.slice va 50 vc) V1 L ∧ ∀ k, j ≤ k → k < 50 → L[k]? = some (M k)) ∧ Hid (Below w.heap.size w wq))
            case atStart => exact ⟨0, firstM M 50, by omega, rfl, rfl, ⟨RZ.out, fun k _ hk => firstM_at M 50 k hk⟩, SZ⟩
            case round =>
              obtain ⟨j, L, hjm, rfl, rfl, RQ, SQ⟩ := hrel
              clear SZ RZ
              by_cases hj : j < 50
              · have f1 : decide ((j : Int) < (50 : Int)) = true := by rw [decide_eq_true_eq]; omega
                have rj : IntKind.i64.wrap ((j : Int) + 1) = (j : Int) + 1 := by rw [IntKind.wrap_i64]; have := HL.out.1; omega
                obtain ⟨gi, rfl⟩ : ∃ g, va = some ⟨g, 0, none⟩ := by
                  rcases RQ.out.1.row.2 with ⟨_, h0⟩ | ⟨g, c', cur, e, _⟩
                  · have := V1L.out; omega
                  · injection e with e1 e2 e3
                    exact ⟨g, e1⟩
                obtain ⟨u, hu⟩ : ∃ u, V1[j]? = some u := ⟨_, List.getElem?_eq_getElem (by have := V1L.out; omega)⟩
                have ho := RQ.out.1.own j u (M j) hu (RQ.out.2 j (Nat.le_refl j) hj)
                obtain ⟨ua, uc, rfl, _⟩ := ho.slice
                have k1 : wr.cell? ⟨gi, j, none⟩ = some (.slice ua (M j).length uc) := by
                  have hr : wr.ownsRow w.heap.size 35 1 (.slice (some ⟨gi, 0, none⟩) 50 vc) 50 V1 := by have h := RQ.out.1.row; rw [V1L.out] at h; exact h
                  rw [World.ownsRow.cellAt hr j (by omega)]
                  exact hu
                obtain ⟨ib, off, rfl, hib, hcells⟩ := HI.out.1 (by omega)
                have k2 := (SQ.out.cell (p := ⟨ib, off + j, none⟩) hib).trans (hcells j hj)
                obtain ⟨r1, r2, r3, r4, r5, r6, r7⟩ := (HI.out.below SQ.out).2 j hj
                generalize hv : V j = v at *
                obtain ⟨ja, jl, jc⟩ := v
                simp only at k2 r1 r2
                have Q9 : Hid ((M j).length ≤ 140737488351232) := HR.out j hj
                have cv1 : ∀ q, (convert 35 9 (.slice ua (M j).length uc)).run Try.prog (wr.drewN q) = .ok (.string (strOfNums (M j))) (wr.drewN q) := fun q => conv_str (w := wr.drewN q) ho.holds.1 _ _ rfl
                have cv2 : ∀ q, (convert 35 9 (.slice ja jl jc)).run Try.prog (wr.drewN q) = .ok (.string (strOfNums (M j))) (wr.drewN q) := fun q => conv_str (w := wr.drewN q) r1 _ _ r2
                have UJ : Hid (V1[j]? = some (.slice ua (M j).length uc)) := hu
                have XJ : Hid (∃ x, L[j]? = some x ∧ x.length = (M j).length) := ⟨M j, RQ.out.2 j (Nat.le_refl j) hj, rfl⟩
                clear ho hcells r1 r2 r3 r4 r5 r6 r7 hu hv
                generalize strOfNums (M j) = sx at *
                generalize (M j).length = q at *
                go_wp2_with fail
                go_quiet (fail)
                go_wp2_with fail
                go_loopg [82] q (fun gg kv wq => ∃ (k : Nat) (L : List (List Int)), k ≤ q ∧ gg = q - k ∧ kv = .int .i64 (k : Int) ∧ Hid (Rws wq w.heap.size (.slice (some ⟨gi, 0, none⟩) 50 vc) V1 L ∧ (∀ k, j + 1 ≤ k → k < 50 → L[k]? = some (M k)) ∧ ∃ x, L[j]? = some x ∧ x.length = q) ∧ Hid (Below w.heap.size w wq))
                case atStart => exact ⟨0, L, by omega, rfl, rfl, ⟨RQ.out.1.keep ⟨rfl, rfl, rfl, Nat.le_refl _, fun _ _ => rfl⟩, fun k hk hkm => RQ.out.2 k (by omega) hkm, XJ.out⟩, SQ.out.trans ⟨rfl, rfl, rfl, Nat.le_refl _, fun _ _ => rfl⟩⟩
                case round =>
                  clear k1 k2 cv1 cv2 XJ RQ SQ
                  obtain ⟨k, L2, hkq, rfl, rfl, RQ, SQ⟩ := hrel
                  have k1 : wr.cell? ⟨gi, j, none⟩ = some (.slice ua q uc) := by
                    have hr : wr.ownsRow w.heap.size 35 1 (.slice (some ⟨gi, 0, none⟩) 50 vc) 50 V1 := by have h := RQ.out.1.row; rw [V1L.out] at h; exact h
                    rw [World.ownsRow.cellAt hr j (by omega)]
                    exact UJ.out
                  by_cases hk : k < q
                  · have f2 : decide ((k : Int) < (q : Int)) = true := by rw [decide_eq_true_eq]; omega
                    obtain ⟨x, hx, hxl⟩ := RQ.out.2.2
                    have ho := RQ.out.1.own j _ x UJ.out hx
                    obtain ⟨gu, rfl⟩ : ∃ g, ua = some ⟨g, 0, none⟩ := by
                      rcases ho.2 with ⟨_, h0⟩ | ⟨g, c', cur, e, _⟩
                      · omega
                      · injection e with e1 e2 e3
                        exact ⟨g, e1⟩
                    have hro : wr.ownsRow w.heap.size 5 1 (.slice (some ⟨gu, 0, none⟩) q uc) q (x.map (Value.int .u8)) := by
                      have h := ho
                      unfold Owned at h
                      rw [hxl] at h
                      exact h
                    have hgb : w.heap.size ≤ gu := (World.ownsRow.lt hro gu rfl).1
                    obtain ⟨x0, hx0⟩ : ∃ y, x[k]? = some y := ⟨_, List.getElem?_eq_getElem (by omega)⟩
                    have kc : wr.cell? ⟨gu, k, none⟩ = some (.int .u8 x0) := by
                      rw [World.ownsRow.cellAt hro k (by omega), List.getElem?_map, hx0]
                      rfl
                    have hfz : wr.frozen? ⟨gu, k, none⟩ = false := World.ownsRow.frozenAt (n := q) hro k
                    have rk : IntKind.i64.wrap ((k : Int) + 1) = (k : Int) + 1 := by rw [IntKind.wrap_i64]; have := Q9.out; omega
                    have IS : ∀ y, Hid (Rws (wr.setCell ⟨gu, k, none⟩ (.int .u8 y)) w.heap.size (.slice (some ⟨gi, 0, none⟩) 50 vc) V1 (L2.set j (x.set k y)) ∧ (∀ k', j + 1 ≤ k' → k' < 50 → (L2.set j (x.set k y))[k']? = some (M k')) ∧ ∃ x', (L2.set j (x.set k y))[j]? = some x' ∧ x'.length = q) := fun y => ⟨RQ.out.1.set j x UJ.out hx hxl k y, fun k' h1 h2 => by rw [List.getElem?_set_ne (by omega)]; exact RQ.out.2.1 k' h1 h2, _, List.getElem?_set_self (List.getElem?_eq_some_iff.1 hx).1, by rw [List.length_set]; exact hxl⟩
                    have SS : ∀ y, Hid (Below w.heap.size w (wr.setCell ⟨gu, k, none⟩ (.int .u8 y))) := fun y => SQ.out.setCell hgb _
                    clear ho hro hx hxl hx0 hgb
                    go_wp2_with fail
                    go_roundg (q - (k + 1))
                    case measure => omega
                    case rel => exact ⟨k + 1, _, by omega, rfl, by simp, IS _, SS _⟩
                  · have f2 : decide ((k : Int) < (q : Int)) = false := by rw [decide_eq_false_iff_not]; omega
                    go_wp2_with fail
                    go_roundg (50 - (j + 1))
                    case measure => omega
                    case rel => exact ⟨j + 1, L2, by omega, rfl, by simp, ⟨RQ.out.1, RQ.out.2.1⟩, SQ⟩
              · have f1 : decide ((j : Int) < (50 : Int)) = false := by rw [decide_eq_false_iff_not]; omega
                clear RQ
                go_wp2_with fail
                go_loopg [13] 0 (fun gg iv wr => gg = 0 ∧ iv = .int .i64 0 ∧ Hid (Below w.heap.size w wr))
                case atStart => exact ⟨rfl, rfl, SQ⟩
                case round =>
                  obtain ⟨rfl, rfl, TW⟩ := hrel
                  clear SQ
                  by_cases h0 : len2 = 0
                  · have e1 : decide ((0 : Int) < (len2 : Int)) = false := by rw [decide_eq_false_iff_not]; omega
                    have hmk1 := HMK.out wr
                    go_wp2_with fail
                    refine (K1.out wr).mono ?_
                    rintro e w8 ⟨b1, rfl, KB1, hb1⟩
                    have B8 : Hid (Below w.heap.size w w8) := (TW.out).trans (hb1.mono (TW.out).size)
                    have KB2 : Hid (∀ W, Below w8.heap.size w8 W → Calls Try.prog 16 #[.pointer (some ⟨b1, 0, none⟩)] W fun e w' => e = .returned (.int .i64 1) ∧ w' = W) := KB1
                    have KB3 : Hid (Calls Try.prog 16 #[.pointer (some ⟨b1, 0, none⟩)] w8 fun e w' => e = .returned (.int .i64 1) ∧ w' = w8) := KB2.out w8 (Below.refl _ _)
                    clear KB1 hb1 hmk1
                    go_wp2_with fail
                    refine KB3.out.mono ?_
                    rintro e w10 ⟨rfl, rfl⟩
                    go_wp2_with fail
                    go_ret
                    exact ⟨rfl, B8.out⟩
                  · have e1 : decide ((0 : Int) < (len2 : Int)) = true := by rw [decide_eq_true_eq]; omega
                    have hmk1 := HMK.out wr
                    go_wp2_with fail
                    refine (K1.out wr).mono ?_
                    rintro e w8 ⟨b1, rfl, KB1, hb1⟩
                    have B8 : Hid (Below w.heap.size w w8) := (TW.out).trans (hb1.mono (TW.out).size)
                    have KB2 : Hid (∀ W, Below w8.heap.size w8 W → Calls Try.prog 16 #[.pointer (some ⟨b1, 0, none⟩)] W fun e w' => e = .returned (.int .i64 1) ∧ w' = W) := KB1
                    have KB3 : Hid (Calls Try.prog 16 #[.pointer (some ⟨b1, 0, none⟩)] w8 fun e w' => e = .returned (.int .i64 1) ∧ w' = w8) := KB2.out w8 (Below.refl _ _)
                    clear KB1 hb1 hmk1
                    go_wp2_with fail
                    refine KB3.out.mono ?_
                    rintro e w10 ⟨rfl, rfl⟩
                    go_wp2_with fail
                    go_ret
                    exact ⟨rfl, B8.out⟩
        · clear hin2
          go_wp2_with fail
          refine (of_bad va 50 vc hm wr).mono ?_
          rintro e w1 ⟨rfl, hw⟩
          obtain rfl := hw.symm
          clear hw
          go_wp2_with fail
          refine (rof_bad a 50 cap hm wr).mono ?_
          rintro e w2 ⟨rfl, hw⟩
          obtain rfl := hw.symm
          clear hw
          have RZ : Hid (Rws wr w.heap.size (.slice va 50 vc) V1 (firstM M 50)) := RW.out.1
          have SZ : Hid (Below w.heap.size w wr) := BW.out
          clear RW BW hm
          go_wp2_with fail
          go_loopg [63] 50 (fun gg jv wq => ∃ (j : Nat) (L : List (List Int)), j ≤ 50 ∧ gg = 50 - j ∧ jv = .int .i64 (j : Int) ∧ Hid (Rws wq w.heap.size (.slice va 50 vc) V1 L ∧ ∀ k, j ≤ k → k < 50 → L[k]? = some (M k)) ∧ Hid (Below w.heap.size w wq))
          case atStart => exact ⟨0, firstM M 50, by omega, rfl, rfl, ⟨RZ.out, fun k _ hk => firstM_at M 50 k hk⟩, SZ⟩
          case round =>
            obtain ⟨j, L, hjm, rfl, rfl, RQ, SQ⟩ := hrel
            clear SZ RZ
            by_cases hj : j < 50
            · have f1 : decide ((j : Int) < (50 : Int)) = true := by rw [decide_eq_true_eq]; omega
              have rj : IntKind.i64.wrap ((j : Int) + 1) = (j : Int) + 1 := by rw [IntKind.wrap_i64]; have := HL.out.1; omega
              obtain ⟨gi, rfl⟩ : ∃ g, va = some ⟨g, 0, none⟩ := by
                rcases RQ.out.1.row.2 with ⟨_, h0⟩ | ⟨g, c', cur, e, _⟩
                · have := V1L.out; omega
                · injection e with e1 e2 e3
                  exact ⟨g, e1⟩
              obtain ⟨u, hu⟩ : ∃ u, V1[j]? = some u := ⟨_, List.getElem?_eq_getElem (by have := V1L.out; omega)⟩
              have ho := RQ.out.1.own j u (M j) hu (RQ.out.2 j (Nat.le_refl j) hj)
              obtain ⟨ua, uc, rfl, _⟩ := ho.slice
              have k1 : wr.cell? ⟨gi, j, none⟩ = some (.slice ua (M j).length uc) := by
                have hr : wr.ownsRow w.heap.size 35 1 (.slice (some ⟨gi, 0, none⟩) 50 vc) 50 V1 := by have h := RQ.out.1.row; rw [V1L.out] at h; exact h
                rw [World.ownsRow.cellAt hr j (by omega)]
                exact hu
              obtain ⟨ib, off, rfl, hib, hcells⟩ := HI.out.1 (by omega)
              have k2 := (SQ.out.cell (p := ⟨ib, off + j, none⟩) hib).trans (hcells j hj)
              obtain ⟨r1, r2, r3, r4, r5, r6, r7⟩ := (HI.out.below SQ.out).2 j hj
              generalize hv : V j = v at *
              obtain ⟨ja, jl, jc⟩ := v
              simp only at k2 r1 r2
              have Q9 : Hid ((M j).length ≤ 140737488351232) := HR.out j hj
              have cv1 : ∀ q, (convert 35 9 (.slice ua (M j).length uc)).run Try.prog (wr.drewN q) = .ok (.string (strOfNums (M j))) (wr.drewN q) := fun q => conv_str (w := wr.drewN q) ho.holds.1 _ _ rfl
              have cv2 : ∀ q, (convert 35 9 (.slice ja jl jc)).run Try.prog (wr.drewN q) = .ok (.string (strOfNums (M j))) (wr.drewN q) := fun q => conv_str (w := wr.drewN q) r1 _ _ r2
              have UJ : Hid (V1[j]? = some (.slice ua (M j).length uc)) := hu
              have XJ : Hid (∃ x, L[j]? = some x ∧ x.length = (M j).length) := ⟨M j, RQ.out.2 j (Nat.le_refl j) hj, rfl⟩
              clear ho hcells r1 r2 r3 r4 r5 r6 r7 hu hv
              generalize strOfNums (M j) = sx at *
              generalize (M j).length = q at *
              go_wp2_with fail
              go_quiet (fail)
              go_wp2_with fail
              go_loopg [82] q (fun gg kv wq => ∃ (k : Nat) (L : List (List Int)), k ≤ q ∧ gg = q - k ∧ kv = .int .i64 (k : Int) ∧ Hid (Rws wq w.heap.size (.slice (some ⟨gi, 0, none⟩) 50 vc) V1 L ∧ (∀ k, j + 1 ≤ k → k < 50 → L[k]? = some (M k)) ∧ ∃ x, L[j]? = some x ∧ x.length = q) ∧ Hid (Below w.heap.size w wq))
              case atStart => exact ⟨0, L, by omega, rfl, rfl, ⟨RQ.out.1.keep ⟨rfl, rfl, rfl, Nat.le_refl _, fun _ _ => rfl⟩, fun k hk hkm => RQ.out.2 k (by omega) hkm, XJ.out⟩, SQ.out.trans ⟨rfl, rfl, rfl, Nat.le_refl _, fun _ _ => rfl⟩⟩
              case round =>
                clear k1 k2 cv1 cv2 XJ RQ SQ
                obtain ⟨k, L2, hkq, rfl, rfl, RQ, SQ⟩ := hrel
                have k1 : wr.cell? ⟨gi, j, none⟩ = some (.slice ua q uc) := by
                  have hr : wr.ownsRow w.heap.size 35 1 (.slice (some ⟨gi, 0, none⟩) 50 vc) 50 V1 := by have h := RQ.out.1.row; rw [V1L.out] at h; exact h
                  rw [World.ownsRow.cellAt hr j (by omega)]
                  exact UJ.out
                by_cases hk : k < q
                · have f2 : decide ((k : Int) < (q : Int)) = true := by rw [decide_eq_true_eq]; omega
                  obtain ⟨x, hx, hxl⟩ := RQ.out.2.2
                  have ho := RQ.out.1.own j _ x UJ.out hx
                  obtain ⟨gu, rfl⟩ : ∃ g, ua = some ⟨g, 0, none⟩ := by
                    rcases ho.2 with ⟨_, h0⟩ | ⟨g, c', cur, e, _⟩
                    · omega
                    · injection e with e1 e2 e3
                      exact ⟨g, e1⟩
                  have hro : wr.ownsRow w.heap.size 5 1 (.slice (some ⟨gu, 0, none⟩) q uc) q (x.map (Value.int .u8)) := by
                    have h := ho
                    unfold Owned at h
                    rw [hxl] at h
                    exact h
                  have hgb : w.heap.size ≤ gu := (World.ownsRow.lt hro gu rfl).1
                  obtain ⟨x0, hx0⟩ : ∃ y, x[k]? = some y := ⟨_, List.getElem?_eq_getElem (by omega)⟩
                  have kc : wr.cell? ⟨gu, k, none⟩ = some (.int .u8 x0) := by
                    rw [World.ownsRow.cellAt hro k (by omega), List.getElem?_map, hx0]
                    rfl
                  have hfz : wr.frozen? ⟨gu, k, none⟩ = false := World.ownsRow.frozenAt (n := q) hro k
                  have rk : IntKind.i64.wrap ((k : Int) + 1) = (k : Int) + 1 := by rw [IntKind.wrap_i64]; have := Q9.out; omega
                  have IS : ∀ y, Hid (Rws (wr.setCell ⟨gu, k, none⟩ (.int .u8 y)) w.heap.size (.slice (some ⟨gi, 0, none⟩) 50 vc) V1 (L2.set j (x.set k y)) ∧ (∀ k', j + 1 ≤ k' → k' < 50 → (L2.set j (x.set k y))[k']? = some (M k')) ∧ ∃ x', (L2.set j (x.set k y))[j]? = some x' ∧ x'.length = q) := fun y => ⟨RQ.out.1.set j x UJ.out hx hxl k y, fun k' h1 h2 => by rw [List.getElem?_set_ne (by omega)]; exact RQ.out.2.1 k' h1 h2, _, List.getElem?_set_self (List.getElem?_eq_some_iff.1 hx).1, by rw [List.length_set]; exact hxl⟩
                  have SS : ∀ y, Hid (Below w.heap.size w (wr.setCell ⟨gu, k, none⟩ (.int .u8 y))) := fun y => SQ.out.setCell hgb _
                  clear ho hro hx hxl hx0 hgb
                  go_wp2_with fail
                  go_roundg (q - (k + 1))
                  case measure => omega
                  case rel => exact ⟨k + 1, _, by omega, rfl, by simp, IS _, SS _⟩
                · have f2 : decide ((k : Int) < (q : Int)) = false := by rw [decide_eq_false_iff_not]; omega
                  go_wp2_with fail
                  go_roundg (50 - (j + 1))
                  case measure => omega
                  case rel => exact ⟨j + 1, L2, by omega, rfl, by simp, ⟨RQ.out.1, RQ.out.2.1⟩, SQ⟩
            · have f1 : decide ((j : Int) < (50 : Int)) = false := by rw [decide_eq_false_iff_not]; omega
              clear RQ
              go_wp2_with fail
              go_loopg [13] 0 (fun gg iv wr => gg = 0 ∧ iv = .int .i64 0 ∧ Hid (Below w.heap.size w wr))
              case atStart => exact ⟨rfl, rfl, SQ⟩
              case round =>
                obtain ⟨rfl, rfl, TW⟩ := hrel
                clear SQ
                by_cases h0 : len2 = 0
                · have e1 : decide ((0 : Int) < (len2 : Int)) = false := by rw [decide_eq_false_iff_not]; omega
                  have hmk1 := HMK.out wr
                  go_wp2_with fail
                  refine (K1.out wr).mono ?_
                  rintro e w8 ⟨b1, rfl, KB1, hb1⟩
                  have B8 : Hid (Below w.heap.size w w8) := (TW.out).trans (hb1.mono (TW.out).size)
                  have KB2 : Hid (∀ W, Below w8.heap.size w8 W → Calls Try.prog 16 #[.pointer (some ⟨b1, 0, none⟩)] W fun e w' => e = .returned (.int .i64 1) ∧ w' = W) := KB1
                  have KB3 : Hid (Calls Try.prog 16 #[.pointer (some ⟨b1, 0, none⟩)] w8 fun e w' => e = .returned (.int .i64 1) ∧ w' = w8) := KB2.out w8 (Below.refl _ _)
                  clear KB1 hb1 hmk1
                  go_wp2_with fail
                  refine KB3.out.mono ?_
                  rintro e w10 ⟨rfl, rfl⟩
                  go_wp2_with fail
                  go_ret
                  exact ⟨rfl, B8.out⟩
                · have e1 : decide ((0 : Int) < (len2 : Int)) = true := by rw [decide_eq_true_eq]; omega
                  have hmk1 := HMK.out wr
                  go_wp2_with fail
                  refine (K1.out wr).mono ?_
                  rintro e w8 ⟨b1, rfl, KB1, hb1⟩
                  have B8 : Hid (Below w.heap.size w w8) := (TW.out).trans (hb1.mono (TW.out).size)
                  have KB2 : Hid (∀ W, Below w8.heap.size w8 W → Calls Try.prog 16 #[.pointer (some ⟨b1, 0, none⟩)] W fun e w' => e = .returned (.int .i64 1) ∧ w' = W) := KB1
                  have KB3 : Hid (Calls Try.prog 16 #[.pointer (some ⟨b1, 0, none⟩)] w8 fun e w' => e = .returned (.int .i64 1) ∧ w' = w8) := KB2.out w8 (Below.refl _ _)
                  clear KB1 hb1 hmk1
                  go_wp2_with fail
                  refine KB3.out.mono ?_
                  rintro e w10 ⟨rfl, rfl⟩
                  go_wp2_with fail
                  go_ret
                  exact ⟨rfl, B8.out⟩
  · rcases (by omega : ¬ 50 < len ∨ (50 < len ∧ ¬ len ≤ 4096)) with h0 | ⟨h0, h1⟩
    · have g1 : decide (50 < (len : Int)) = false := by rw [decide_eq_false_iff_not]; omega
      have HI : Hid (In2 w a len V M) := hI
      have HL : Hid (len ≤ 1000000000000000 ∧ len * 24 ≤ 140737488351232) := ⟨by omega, hl24⟩
      have HR : Hid (∀ i, i < len → (M i).length ≤ 140737488351232) := hR
      clear hI hR hl24 hlc h50
      go_wp2_with fail
      go_loopg [5, 28] len (fun gg vv iv wr => ∃ (i : Nat) (va : Option Addr) (vc : Nat) (V1 : List Value), i ≤ len ∧ gg = len - i ∧ vv = .slice va i vc ∧ iv = .int .i64 (i : Int) ∧ Hid (Rws wr w.heap.size (.slice va i vc) V1 (firstM M i) ∧ V1.length = i) ∧ Hid (Below w.heap.size w wr))
      case atStart => exact ⟨0, none, 0, [], by omega, rfl, rfl, rfl, ⟨Rws.nil _ _, rfl⟩, Below.refl _ _⟩
      case round =>
        obtain ⟨i, va, vc, V1, him, rfl, rfl, rfl, RW, BW⟩ := hrel
        by_cases hi : i < len
        · have f1 : decide ((i : Int) < (len : Int)) = true := by rw [decide_eq_true_eq]; omega
          have ri : IntKind.i64.wrap ((i : Int) + 1) = (i : Int) + 1 := by rw [IntKind.wrap_i64]; have := HL.out.1; omega
          obtain ⟨ib, off, rfl, hib, hcells⟩ := HI.out.1 (by omega)
          have c0 := (BW.out.cell (p := ⟨ib, off + i, none⟩) hib).trans (hcells i hi)
          obtain ⟨r1, r2, r3, r4, r5, r6, r7⟩ := (HI.out.below BW.out).2 i hi
          have q9 := HR.out i hi
          generalize hv : V i = v at *
          obtain ⟨ja, jl, jc⟩ := v
          simp only at c0 r1 r2 r4 r5 r6 r7
          have HH : Hid (Holds (wr.alloc (.cells #[] 5)) ja (M i) ∧ (ja = none → jc = 0) ∧ (M i).length = jl ∧ jl ≤ 140737488351232) := ⟨holds_kept r1 fun x hx hL => Below.heap_alloc _ _ _ (r5 x hx hL), r4, r2, by rw [← r2]; exact q9⟩
          have c1 := (below1 wr (.cells #[] 5)).cell (p := ⟨ib, off + i, none⟩) (Nat.lt_of_lt_of_le hib BW.out.size) |>.trans c0
          have hlw := RW.out.2
          clear r1 r2 r3 r4 r5 r6 r7 hcells hv q9
          go_wp2_with (first
            | (at_builtin; refine append_bytes rfl (.tmp 32) (.tmp 36) rfl wr.heap.size _ [] rfl (owned_empty wr wr.heap.size (Nat.le_refl _)) ja jl jc (M i) rfl HH.out.2.2.1 HH.out.1 HH.out.2.1 jl (Nat.zero_add _) (by have := HH.out.2.2.2; omega) (by simp) ?_; intro a' c' w2 ho2 hb2; have O2 : Hid (Owned w2 wr.heap.size (.slice a' jl c') (M i)) := ho2; have B2 : Hid (Below wr.heap.size wr w2) := (below1 wr _).trans hb2; have N3 : Hid ((w2.alloc (.cells #[.slice a' jl c'] 35)).cell? ⟨w2.heap.size, 0, none⟩ = some (.slice a' jl c')) := (by rw [cell_of_row _ w2.heap.size 0 _ _ (0, 0) (heap_alloc_new w2 _)]; rfl); have B3 : Hid (Below wr.heap.size wr (w2.alloc (.cells #[.slice a' jl c'] 35))) := B2.out.trans ((below1 w2 _).mono B2.out.size); clear ho2 hb2)
            | (at_builtin; go_loud (refine append_rowR rfl (.tmp 31) (.tmp 38) rfl w.heap.size _ V1 rfl (RW.out.1.keep B3.out).row w2.heap.size (.slice a' jl c') rfl rfl N3.out (by have := HL.out.2; omega) (Nat.le_trans BW.out.size B3.out.size) ?_; intro g c w4 hrow hg hat; have R4 : Hid (Rws w4 w.heap.size (.slice (some ⟨g, 0, none⟩) (V1.length + 1) c) (V1 ++ [.slice a' jl c']) (firstM M i ++ [M i])) := (RW.out.1.more B3.out (owned_kept O2.out fun k hk => Below.heap_alloc _ _ _ (World.ownsRow.lt O2.out k hk).2) BW.out.size hrow hg hat); have B4 : Hid (Below w.heap.size w w4) := ((BW.out.trans (B3.out.mono BW.out.size)).grown hg (Nat.le_trans BW.out.size B3.out.size) (fun k e => (RW.out.1.lt k (.inl e)).1)); clear hrow hg hat; rw [hlw] at R4 ⊢)))
          go_roundg (len - (i + 1))
          case measure => omega
          case rel => exact ⟨i + 1, some ⟨g, 0, none⟩, c, _, by omega, rfl, rfl, by simp, ⟨by rw [← firstM_succ]; exact R4.out, by simp [hlw]⟩, B4⟩
        · have f1 : decide ((i : Int) < (len : Int)) = false := by rw [decide_eq_false_iff_not]; omega
          have him2 : i = len := (by omega)
          subst i
          obtain ⟨Vf, hin2⟩ := RW.out.1.in2 RW.out.2 (fun k hk => firstM_at M len k hk) (fun k hk => (HI.out.2 k hk).2.2.1)
          have V1L : Hid (V1.length = len) := RW.out.2
          by_cases hm : 1 ≤ len ∧ len ≤ 4096
          · by_cases h64 : ∀ i, i < len → (M i).length = 64
            · have KO : Hid (Calls Try.prog 17 #[.slice va len vc] wr fun e w' => Below wr.heap.size wr w' ∧ ∃ b F, e = .returned (.tuple #[.pointer (some ⟨b, 0, none⟩), .int .i64 0]) ∧ Dk w' F b 0 (Ds.of M len) ∧ ∀ k, F k → wr.heap.size ≤ k) := by
                refine (of_is va len vc Vf M wr hm.1 hm.2 hin2).mono ?_
                rintro e w' ⟨hb, ⟨⟨i, hi, h⟩, _⟩ | ⟨_, h⟩⟩
                · exact absurd (h64 i hi) h
                · exact ⟨hb, h⟩
              have KR : Hid (∀ W, Below w.heap.size w W → Calls Try.prog 18 #[.slice a len cap] W fun e w' => Below W.heap.size W w' ∧ ∃ b F, e = .returned (.tuple #[.pointer (some ⟨b, 0, none⟩), .int .i64 0]) ∧ Rk w' F b 0 (Ds.of M len) ∧ ∀ k, F k → W.heap.size ≤ k) := fun W hbW => by
                refine (rof_is a len cap V M W hm.1 hm.2 (HI.out.below hbW)).mono ?_
                rintro e w' ⟨hb, ⟨⟨i, hi, h⟩, _⟩ | ⟨_, h⟩⟩
                · exact absurd (h64 i hi) h
                · exact ⟨hb, h⟩
              clear hin2 hm h64
              go_wp2_with fail
              refine KO.out.mono ?_
              rintro e w1 ⟨hb1, d, F1, rfl, hd1, hF1⟩
              have D1 : Hid (Dk w1 F1 d 0 (Ds.of M len) ∧ Below wr.heap.size wr w1 ∧ (∀ k, F1 k → wr.heap.size ≤ k)) := ⟨hd1, hb1, hF1⟩
              have BW1 : Hid (Below w.heap.size w w1) := BW.out.trans (hb1.mono BW.out.size)
              clear hb1 hd1 hF1 KO
              go_wp2_with fail
              refine (KR.out w1 BW1.out).mono ?_
              rintro e w2 ⟨hb2, r, F2, rfl, hr, hF2⟩
              have RZ : Hid (Rws w2 w.heap.size (.slice va len vc) V1 (firstM M len)) := (RW.out.1.keep D1.out.2.1).keep hb2
              obtain ⟨s, hs⟩ : ∃ s, Ds.of M len = s := ⟨_, rfl⟩
              have SZ : Hid (Pr w w2 (RwF (.slice va len vc) V1) d r 0 s s) := by
                rw [← hs]
                refine ⟨F1, F2, D1.out.1.keep hb2, hr, fun k h1 h2 => by have := D1.out.1.lt k h1; have := hF2 k h2; omega, fun k hk => Nat.le_trans BW.out.size (D1.out.2.2 k hk), fun k hk => Nat.le_trans BW1.out.size (hF2 k hk), BW1.out.trans (hb2.mono BW1.out.size), fun k hk => ?_⟩
                have h1 := RW.out.1.lt k hk
                exact ⟨(RZ.out.lt k hk).2, fun h => by have := D1.out.2.2 k h; omega, fun h => by have := hF2 k h; have := D1.out.2.1.size; omega⟩
              clear hb2 hr hF2 D1 KR RW BW BW1 hs
              generalize w2 = w2' at *
              go_wp2_with fail
              go_loopg [63] len (fun gg jv wq => ∃ (j : Nat) (L : List (List Int)), j ≤ len ∧ gg = len - j ∧ jv = .int .i64 (j : Int) ∧ Hid (Rws wq w.heap.size (.slice va len vc) V1 L ∧ ∀ k, j ≤ k → k < len → L[k]? = some (M k)) ∧ Hid (Pr w wq (RwF (.slice va len vc) V1) d r 0 s s))
              case atStart => exact ⟨0, firstM M len, by omega, rfl, rfl, ⟨RZ.out, fun k _ hk => firstM_at M len k hk⟩, SZ⟩
              case round =>
                obtain ⟨j, L, hjm, rfl, rfl, RQ, SQ⟩ := hrel
                clear SZ RZ
                by_cases hj : j < len
                · have f1 : decide ((j : Int) < (len : Int)) = true := by rw [decide_eq_true_eq]; omega
                  have rj : IntKind.i64.wrap ((j : Int) + 1) = (j : Int) + 1 := by rw [IntKind.wrap_i64]; have := HL.out.1; omega
                  obtain ⟨gi, rfl⟩ : ∃ g, va = some ⟨g, 0, none⟩ := by
                    rcases RQ.out.1.row.2 with ⟨_, h0⟩ | ⟨g, c', cur, e, _⟩
                    · have := V1L.out; omega
                    · injection e with e1 e2 e3
                      exact ⟨g, e1⟩
                  obtain ⟨u, hu⟩ : ∃ u, V1[j]? = some u := ⟨_, List.getElem?_eq_getElem (by have := V1L.out; omega)⟩
                  have ho := RQ.out.1.own j u (M j) hu (RQ.out.2 j (Nat.le_refl j) hj)
                  obtain ⟨ua, uc, rfl, _⟩ := ho.slice
                  have k1 : wr.cell? ⟨gi, j, none⟩ = some (.slice ua (M j).length uc) := by
                    have hr : wr.ownsRow w.heap.size 35 1 (.slice (some ⟨gi, 0, none⟩) len vc) len V1 := by have h := RQ.out.1.row; rw [V1L.out] at h; exact h
                    rw [World.ownsRow.cellAt hr j (by omega)]
                    exact hu
                  obtain ⟨ib, off, rfl, hib, hcells⟩ := HI.out.1 (by omega)
                  have k2 := (SQ.out.below.cell (p := ⟨ib, off + j, none⟩) hib).trans (hcells j hj)
                  obtain ⟨r1, r2, r3, r4, r5, r6, r7⟩ := (HI.out.below SQ.out.below).2 j hj
                  generalize hv : V j = v at *
                  obtain ⟨ja, jl, jc⟩ := v
                  simp only at k2 r1 r2
                  have Q9 : Hid ((M j).length ≤ 140737488351232) := HR.out j hj
                  have cv1 : ∀ q, (convert 35 9 (.slice ua (M j).length uc)).run Try.prog (wr.drewN q) = .ok (.string (strOfNums (M j))) (wr.drewN q) := fun q => conv_str (w := wr.drewN q) ho.holds.1 _ _ rfl
                  have cv2 : ∀ q, (convert 35 9 (.slice ja jl jc)).run Try.prog (wr.drewN q) = .ok (.string (strOfNums (M j))) (wr.drewN q) := fun q => conv_str (w := wr.drewN q) r1 _ _ r2
                  have UJ : Hid (V1[j]? = some (.slice ua (M j).length uc)) := hu
                  have XJ : Hid (∃ x, L[j]? = some x ∧ x.length = (M j).length) := ⟨M j, RQ.out.2 j (Nat.le_refl j) hj, rfl⟩
                  clear ho hcells r1 r2 r3 r4 r5 r6 r7 hu hv
                  generalize strOfNums (M j) = sx at *
                  generalize (M j).length = q at *
                  go_wp2_with fail
                  go_quiet (fail)
                  go_wp2_with fail
                  go_loopg [82] q (fun gg kv wq => ∃ (k : Nat) (L : List (List Int)), k ≤ q ∧ gg = q - k ∧ kv = .int .i64 (k : Int) ∧ Hid (Rws wq w.heap.size (.slice (some ⟨gi, 0, none⟩) len vc) V1 L ∧ (∀ k, j + 1 ≤ k → k < len → L[k]? = some (M k)) ∧ ∃ x, L[j]? = some x ∧ x.length = q) ∧ Hid (Pr w wq (RwF (.slice (some ⟨gi, 0, none⟩) len vc) V1) d r 0 s s))
                  case atStart => exact ⟨0, L, by omega, rfl, rfl, ⟨RQ.out.1.keep ⟨rfl, rfl, rfl, Nat.le_refl _, fun _ _ => rfl⟩, fun k hk hkm => RQ.out.2 k (by omega) hkm, XJ.out⟩, SQ.out.drewN _⟩
                  case round =>
                    clear k1 k2 cv1 cv2 XJ RQ SQ
                    obtain ⟨k, L2, hkq, rfl, rfl, RQ, SQ⟩ := hrel
                    have k1 : wr.cell? ⟨gi, j, none⟩ = some (.slice ua q uc) := by
                      have hr : wr.ownsRow w.heap.size 35 1 (.slice (some ⟨gi, 0, none⟩) len vc) len V1 := by have h := RQ.out.1.row; rw [V1L.out] at h; exact h
                      rw [World.ownsRow.cellAt hr j (by omega)]
                      exact UJ.out
                    by_cases hk : k < q
                    · have f2 : decide ((k : Int) < (q : Int)) = true := by rw [decide_eq_true_eq]; omega
                      obtain ⟨x, hx, hxl⟩ := RQ.out.2.2
                      have ho := RQ.out.1.own j _ x UJ.out hx
                      obtain ⟨gu, rfl⟩ : ∃ g, ua = some ⟨g, 0, none⟩ := by
                        rcases ho.2 with ⟨_, h0⟩ | ⟨g, c', cur, e, _⟩
                        · omega
                        · injection e with e1 e2 e3
                          exact ⟨g, e1⟩
                      have hro : wr.ownsRow w.heap.size 5 1 (.slice (some ⟨gu, 0, none⟩) q uc) q (x.map (Value.int .u8)) := by
                        have h := ho
                        unfold Owned at h
                        rw [hxl] at h
                        exact h
                      have hgb : w.heap.size ≤ gu := (World.ownsRow.lt hro gu rfl).1
                      obtain ⟨x0, hx0⟩ : ∃ y, x[k]? = some y := ⟨_, List.getElem?_eq_getElem (by omega)⟩
                      have kc : wr.cell? ⟨gu, k, none⟩ = some (.int .u8 x0) := by
                        rw [World.ownsRow.cellAt hro k (by omega), List.getElem?_map, hx0]
                        rfl
                      have hfz : wr.frozen? ⟨gu, k, none⟩ = false := World.ownsRow.frozenAt (n := q) hro k
                      have rk : IntKind.i64.wrap ((k : Int) + 1) = (k : Int) + 1 := by rw [IntKind.wrap_i64]; have := Q9.out; omega
                      have IS : ∀ y, Hid (Rws (wr.setCell ⟨gu, k, none⟩ (.int .u8 y)) w.heap.size (.slice (some ⟨gi, 0, none⟩) len vc) V1 (L2.set j (x.set k y)) ∧ (∀ k', j + 1 ≤ k' → k' < len → (L2.set j (x.set k y))[k']? = some (M k')) ∧ ∃ x', (L2.set j (x.set k y))[j]? = some x' ∧ x'.length = q) := fun y => ⟨RQ.out.1.set j x UJ.out hx hxl k y, fun k' h1 h2 => by rw [List.getElem?_set_ne (by omega)]; exact RQ.out.2.1 k' h1 h2, _, List.getElem?_set_self (List.getElem?_eq_some_iff.1 hx).1, by rw [List.length_set]; exact hxl⟩
                      have SS : ∀ y, Hid (Pr w (wr.setCell ⟨gu, k, none⟩ (.int .u8 y)) (RwF (.slice (some ⟨gi, 0, none⟩) len vc) V1) d r 0 s s) := fun y => SQ.out.setP (.inr ⟨_, List.mem_of_getElem? UJ.out, rfl⟩) hgb k _
                      clear ho hro hx hxl hx0 hgb
                      go_wp2_with fail
                      go_roundg (q - (k + 1))
                      case measure => omega
                      case rel => exact ⟨k + 1, _, by omega, rfl, by simp, IS _, SS _⟩
                    · have f2 : decide ((k : Int) < (q : Int)) = false := by rw [decide_eq_false_iff_not]; omega
                      go_wp2_with fail
                      go_roundg (len - (j + 1))
                      case measure => omega
                      case rel => exact ⟨j + 1, L2, by omega, rfl, by simp, ⟨RQ.out.1, RQ.out.2.1⟩, SQ⟩
                · have f1 : decide ((j : Int) < (len : Int)) = false := by rw [decide_eq_false_iff_not]; omega
                  clear RQ
                  have T0 : Hid (Pr w wr (fun _ => False) d r 0 s s) := SQ.out.less (fun _ h => h.elim)
                  generalize s = s0 at *
                  go_wp2_with fail
                  go_loopg [13] 20 (fun gg iv wr => ∃ (i : Nat) (s : Ds), i ≤ 20 ∧ gg = 20 - i ∧ iv = .int .i64 (i : Int) ∧ Hid (Pr w wr (fun _ => False) d r (2 * i) s s))
                  case atStart => exact ⟨0, s0, by omega, rfl, rfl, T0⟩
                  case round =>
                    obtain ⟨i, s, hi20, rfl, rfl, TW⟩ := hrel
                    clear T0 SQ
                    by_cases hil : i < len2 ∧ i < 20
                    · have e1 : decide ((i : Int) < (len2 : Int)) = true := by rw [decide_eq_true_eq]; omega
                      have e2 : decide ((i : Int) < 20) = true := by rw [decide_eq_true_eq]; omega
                      have ri : IntKind.i64.wrap ((i : Int) + 1) = (i : Int) + 1 := by rw [IntKind.wrap_i64]; omega
                      have hx := HX.out i hil.1
                      have HK : Hid ((A i).z.length = (A i).kl ∧ InK w (A i).ka (A i).z ∧ ((A i).ka = none → (A i).kc = 0) ∧ (A i).kl ≤ 17592186044416) := ⟨(HA.out.2 i hil.1).2.2.2.2.1, (HA.out.2 i hil.1).2.2.2.2.2, hx⟩
                      have hia := HA.out.below TW.out.below
                      obtain ⟨ab, aoff, rfl, hab, hacells⟩ := hia.1 (by omega)
                      obtain ⟨c0, c1, c2, c3, c4⟩ := hacells i hil.1
                      obtain ⟨b0, b1, b2, b3, b4, b5⟩ := hia.2 i hil.1
                      generalize A i = v at *
                      obtain ⟨vk, va', vn, vl, vka, vkl, vkc, vz⟩ := v
                      simp only at c0 c1 c2 c3 c4 b0 b1 b2 b3 HK
                      clear hia hacells b4 b5 hx
                      have KDo : Hid (Calls Try.prog 14 #[.pointer (some ⟨d, 0, none⟩), .pointer (some ⟨r, 0, none⟩), .agg #[.int .i64 vk, .int .i64 va', .int .i64 vn, .int .i64 vl, .slice vka vkl vkc]] wr fun e w' => e = .returned (.bool true) ∧ ∃ s', Pr w w' (fun _ => False) d r (2 * i + 2) s' s') := does_is TW.out (by omega) vk va' vn vl vka vkl vkc vz b0 b1 b2 b3 HK.out.1 HK.out.2.1 HK.out.2.2.1 HK.out.2.2.2
                      clear b0 b1 b2 b3
                      go_wp2_with fail
                      refine KDo.out.mono ?_
                      rintro e w6 ⟨rfl, s6, t6⟩
                      have T6 : Hid (Pr w w6 (fun _ => False) d r (2 * i + 2) s6 s6) := t6
                      clear t6 c0 c1 c2 c3 c4 KDo
                      have KS : Hid (Calls Try.prog 15 #[.pointer (some ⟨d, 0, none⟩), .pointer (some ⟨r, 0, none⟩)] w6 fun e w' => e = .returned (.bool true) ∧ Below w6.heap.size w6 w') := T6.out.same (by omega)
                      go_wp2_with fail
                      refine KS.out.mono ?_
                      rintro e w7 ⟨rfl, hb7⟩
                      have T7 : Hid (Pr w w7 (fun _ => False) d r (2 * (i + 1)) s6 s6) := (T6.out.keep hb7).less (fun _ h => h.elim)
                      clear hb7
                      go_wp2_with fail
                      go_roundg (20 - (i + 1))
                      case measure => omega
                      case rel => exact ⟨i + 1, s6, by omega, rfl, by simp, T7⟩
                    · obtain ⟨N, hN⟩ : ∃ N, 2 * i = N := ⟨_, rfl⟩
                      have hN2 : N ≤ 40 := by omega
                      have TN : Hid (Pr w wr (fun _ => False) d r N s s) := by rw [← hN]; exact TW.out
                      rcases (by omega : ¬ i < len2 ∨ (i < len2 ∧ ¬ i < 20)) with h0 | ⟨h0, h1⟩
                      · have e1 : decide ((i : Int) < (len2 : Int)) = false := by rw [decide_eq_false_iff_not]; omega
                        clear hil hN
                        have hmk1 := HMK.out wr
                        go_wp2_with fail
                        refine (K1.out wr).mono ?_
                        rintro e w8 ⟨b1, rfl, KB1, hb1⟩
                        have B8 : Hid (Below w.heap.size w w8) := (TN.out.below).trans (hb1.mono (TN.out.below).size)
                        have KB2 : Hid (∀ W, Below w8.heap.size w8 W → Calls Try.prog 16 #[.pointer (some ⟨b1, 0, none⟩)] W fun e w' => e = .returned (.int .i64 1) ∧ w' = W) := KB1
                        have T8 : Hid (Pr w w8 (fun _ => False) d r N s s) := (TN.out.keep hb1).less (fun _ h => h.elim)
                        have KS : Hid (Calls Try.prog 15 #[.pointer (some ⟨d, 0, none⟩), .pointer (some ⟨r, 0, none⟩)] w8 fun e w' => e = .returned (.bool true) ∧ Below w8.heap.size w8 w') := T8.out.same (by omega)
                        clear KB1 hb1 hmk1
                        go_wp2_with fail
                        refine KS.out.mono ?_
                        rintro e w9 ⟨rfl, hb9⟩
                        have B9 : Hid (Below w.heap.size w w9) := B8.out.trans (hb9.mono B8.out.size)
                        have KB3 : Hid (Calls Try.prog 16 #[.pointer (some ⟨b1, 0, none⟩)] w9 fun e w' => e = .returned (.int .i64 1) ∧ w' = w9) := KB2.out w9 hb9
                        clear hb9
                        go_wp2_with fail
                        refine KB3.out.mono ?_
                        rintro e w10 ⟨rfl, rfl⟩
                        go_wp2_with fail
                        go_ret
                        exact ⟨rfl, B9.out⟩
                      · have e1 : decide ((i : Int) < (len2 : Int)) = true := by rw [decide_eq_true_eq]; omega
                        have e2 : decide ((i : Int) < 20) = false := by rw [decide_eq_false_iff_not]; omega
                        clear hil hN
                        have hmk1 := HMK.out wr
                        go_wp2_with fail
                        refine (K1.out wr).mono ?_
                        rintro e w8 ⟨b1, rfl, KB1, hb1⟩
                        have B8 : Hid (Below w.heap.size w w8) := (TN.out.below).trans (hb1.mono (TN.out.below).size)
                        have KB2 : Hid (∀ W, Below w8.heap.size w8 W → Calls Try.prog 16 #[.pointer (some ⟨b1, 0, none⟩)] W fun e w' => e = .returned (.int .i64 1) ∧ w' = W) := KB1
                        have T8 : Hid (Pr w w8 (fun _ => False) d r N s s) := (TN.out.keep hb1).less (fun _ h => h.elim)
                        have KS : Hid (Calls Try.prog 15 #[.pointer (some ⟨d, 0, none⟩), .pointer (some ⟨r, 0, none⟩)] w8 fun e w' => e = .returned (.bool true) ∧ Below w8.heap.size w8 w') := T8.out.same (by omega)
                        clear KB1 hb1 hmk1
                        go_wp2_with fail
                        refine KS.out.mono ?_
                        rintro e w9 ⟨rfl, hb9⟩
                        have B9 : Hid (Below w.heap.size w w9) := B8.out.trans (hb9.mono B8.out.size)
                        have KB3 : Hid (Calls Try.prog 16 #[.pointer (some ⟨b1, 0, none⟩)] w9 fun e w' => e = .returned (.int .i64 1) ∧ w' = w9) := KB2.out w9 hb9
                        clear hb9
                        go_wp2_with fail
                        refine KB3.out.mono ?_
                        rintro e w10 ⟨rfl, rfl⟩
                        go_wp2_with fail
                        go_ret
                        exact ⟨rfl, B9.out⟩
            · obtain ⟨i0, hi0, hl0⟩ : ∃ i, i < len ∧ (M i).length ≠ 64 := by
                refine Classical.byContradiction fun hne => h64 fun i hi => ?_
                exact Classical.byContradiction fun h => hne ⟨i, hi, h⟩
              have KO : Hid (Calls Try.prog 17 #[.slice va len vc] wr fun e w' => Below wr.heap.size wr w' ∧ e = .returned (.tuple #[.pointer none, .int .i64 2])) := by
                refine (of_is va len vc Vf M wr hm.1 hm.2 hin2).mono ?_
                rintro e w' ⟨hb, ⟨_, h⟩ | ⟨h, _⟩⟩
                · exact ⟨hb, h⟩
                · exact absurd (h i0 hi0) hl0
              have KR : Hid (∀ W, Below w.heap.size w W → Calls Try.prog 18 #[.slice a len cap] W fun e w' => Below W.heap.size W w' ∧ e = .returned (.tuple #[.pointer none, .int .i64 2])) := fun W hbW => by
                refine (rof_is a len cap V M W hm.1 hm.2 (HI.out.below hbW)).mono ?_
                rintro e w' ⟨hb, ⟨_, h⟩ | ⟨h, _⟩⟩
                · exact ⟨hb, h⟩
                · exact absurd (h i0 hi0) hl0
              clear hin2 hm h64 hi0 hl0
              go_wp2_with fail
              refine KO.out.mono ?_
              rintro e w1 ⟨hb1, rfl⟩
              have BW1 : Hid (Below w.heap.size w w1) := BW.out.trans (hb1.mono BW.out.size)
              have R1 : Hid (Rws w1 w.heap.size (.slice va len vc) V1 (firstM M len)) := RW.out.1.keep hb1
              clear hb1 KO
              go_wp2_with fail
              refine (KR.out w1 BW1.out).mono ?_
              rintro e w2 ⟨hb2, rfl⟩
              have RZ : Hid (Rws w2 w.heap.size (.slice va len vc) V1 (firstM M len)) := R1.out.keep hb2
              have SZ : Hid (Below w.heap.size w w2) := BW1.out.trans (hb2.mono BW1.out.size)
              clear hb2 R1 KR RW BW BW1
              go_wp2_with fail
              go_loopg [63] len (fun gg jv wq => ∃ (j : Nat) (L : List (List Int)), j ≤ len ∧ gg = len - j ∧ jv = .int .i64 (j : Int) ∧ Hid (Rws wq w.heap.size (.slice va len vc) V1 L ∧ ∀ k, j ≤ k → k < len → L[k]? = some (M k)) ∧ Hid (Below w.heap.size w wq))
              case atStart => exact ⟨0, firstM M len, by omega, rfl, rfl, ⟨RZ.out, fun k _ hk => firstM_at M len k hk⟩, SZ⟩
              case round =>
                obtain ⟨j, L, hjm, rfl, rfl, RQ, SQ⟩ := hrel
                clear SZ RZ
                by_cases hj : j < len
                · have f1 : decide ((j : Int) < (len : Int)) = true := by rw [decide_eq_true_eq]; omega
                  have rj : IntKind.i64.wrap ((j : Int) + 1) = (j : Int) + 1 := by rw [IntKind.wrap_i64]; have := HL.out.1; omega
                  obtain ⟨gi, rfl⟩ : ∃ g, va = some ⟨g, 0, none⟩ := by
                    rcases RQ.out.1.row.2 with ⟨_, h0⟩ | ⟨g, c', cur, e, _⟩
                    · have := V1L.out; omega
                    · injection e with e1 e2 e3
                      exact ⟨g, e1⟩
                  obtain ⟨u, hu⟩ : ∃ u, V1[j]? = some u := ⟨_, List.getElem?_eq_getElem (by have := V1L.out; omega)⟩
                  have ho := RQ.out.1.own j u (M j) hu (RQ.out.2 j (Nat.le_refl j) hj)
                  obtain ⟨ua, uc, rfl, _⟩ := ho.slice
                  have k1 : wr.cell? ⟨gi, j, none⟩ = some (.slice ua (M j).length uc) := by
                    have hr : wr.ownsRow w.heap.size 35 1 (.slice (some ⟨gi, 0, none⟩) len vc) len V1 := by have h := RQ.out.1.row; rw [V1L.out] at h; exact h
                    rw [World.ownsRow.cellAt hr j (by omega)]
                    exact hu
                  obtain ⟨ib, off, rfl, hib, hcells⟩ := HI.out.1 (by omega)
                  have k2 := (SQ.out.cell (p := ⟨ib, off + j, none⟩) hib).trans (hcells j hj)
                  obtain ⟨r1, r2, r3, r4, r5, r6, r7⟩ := (HI.out.below SQ.out).2 j hj
                  generalize hv : V j = v at *
                  obtain ⟨ja, jl, jc⟩ := v
                  simp only at k2 r1 r2
                  have Q9 : Hid ((M j).length ≤ 140737488351232) := HR.out j hj
                  have cv1 : ∀ q, (convert 35 9 (.slice ua (M j).length uc)).run Try.prog (wr.drewN q) = .ok (.string (strOfNums (M j))) (wr.drewN q) := fun q => conv_str (w := wr.drewN q) ho.holds.1 _ _ rfl
                  have cv2 : ∀ q, (convert 35 9 (.slice ja jl jc)).run Try.prog (wr.drewN q) = .ok (.string (strOfNums (M j))) (wr.drewN q) := fun q => conv_str (w := wr.drewN q) r1 _ _ r2
                  have UJ : Hid (V1[j]? = some (.slice ua (M j).length uc)) := hu
                  have XJ : Hid (∃ x, L[j]? = some x ∧ x.length = (M j).length) := ⟨M j, RQ.out.2 j (Nat.le_refl j) hj, rfl⟩
                  clear ho hcells r1 r2 r3 r4 r5 r6 r7 hu hv
                  generalize strOfNums (M j) = sx at *
                  generalize (M j).length = q at *
                  go_wp2_with fail
                  go_quiet (fail)
                  go_wp2_with fail
                  go_loopg [82] q (fun gg kv wq => ∃ (k : Nat) (L : List (List Int)), k ≤ q ∧ gg = q - k ∧ kv = .int .i64 (k : Int) ∧ Hid (Rws wq w.heap.size (.slice (some ⟨gi, 0, none⟩) len vc) V1 L ∧ (∀ k, j + 1 ≤ k → k < len → L[k]? = some (M k)) ∧ ∃ x, L[j]? = some x ∧ x.length = q) ∧ Hid (Below w.heap.size w wq))
                  case atStart => exact ⟨0, L, by omega, rfl, rfl, ⟨RQ.out.1.keep ⟨rfl, rfl, rfl, Nat.le_refl _, fun _ _ => rfl⟩, fun k hk hkm => RQ.out.2 k (by omega) hkm, XJ.out⟩, SQ.out.trans ⟨rfl, rfl, rfl, Nat.le_refl _, fun _ _ => rfl⟩⟩
                  case round =>
                    clear k1 k2 cv1 cv2 XJ RQ SQ
                    obtain ⟨k, L2, hkq, rfl, rfl, RQ, SQ⟩ := hrel
                    have k1 : wr.cell? ⟨gi, j, none⟩ = some (.slice ua q uc) := by
                      have hr : wr.ownsRow w.heap.size 35 1 (.slice (some ⟨gi, 0, none⟩) len vc) len V1 := by have h := RQ.out.1.row; rw [V1L.out] at h; exact h
                      rw [World.ownsRow.cellAt hr j (by omega)]
                      exact UJ.out
                    by_cases hk : k < q
                    · have f2 : decide ((k : Int) < (q : Int)) = true := by rw [decide_eq_true_eq]; omega
                      obtain ⟨x, hx, hxl⟩ := RQ.out.2.2
                      have ho := RQ.out.1.own j _ x UJ.out hx
                      obtain ⟨gu, rfl⟩ : ∃ g, ua = some ⟨g, 0, none⟩ := by
                        rcases ho.2 with ⟨_, h0⟩ | ⟨g, c', cur, e, _⟩
                        · omega
                        · injection e with e1 e2 e3
                          exact ⟨g, e1⟩
                      have hro : wr.ownsRow w.heap.size 5 1 (.slice (some ⟨gu, 0, none⟩) q uc) q (x.map (Value.int .u8)) := by
                        have h := ho
                        unfold Owned at h
                        rw [hxl] at h
                        exact h
                      have hgb : w.heap.size ≤ gu := (World.ownsRow.lt hro gu rfl).1
                      obtain ⟨x0, hx0⟩ : ∃ y, x[k]? = some y := ⟨_, List.getElem?_eq_getElem (by omega)⟩
                      have kc : wr.cell? ⟨gu, k, none⟩ = some (.int .u8 x0) := by
                        rw [World.ownsRow.cellAt hro k (by omega), List.getElem?_map, hx0]
                        rfl
                      have hfz : wr.frozen? ⟨gu, k, none⟩ = false := World.ownsRow.frozenAt (n := q) hro k
                      have rk : IntKind.i64.wrap ((k : Int) + 1) = (k : Int) + 1 := by rw [IntKind.wrap_i64]; have := Q9.out; omega
                      have IS : ∀ y, Hid (Rws (wr.setCell ⟨gu, k, none⟩ (.int .u8 y)) w.heap.size (.slice (some ⟨gi, 0, none⟩) len vc) V1 (L2.set j (x.set k y)) ∧ (∀ k', j + 1 ≤ k' → k' < len → (L2.set j (x.set k y))[k']? = some (M k')) ∧ ∃ x', (L2.set j (x.set k y))[j]? = some x' ∧ x'.length = q) := fun y => ⟨RQ.out.1.set j x UJ.out hx hxl k y, fun k' h1 h2 => by rw [List.getElem?_set_ne (by omega)]; exact RQ.out.2.1 k' h1 h2, _, List.getElem?_set_self (List.getElem?_eq_some_iff.1 hx).1, by rw [List.length_set]; exact hxl⟩
                      have SS : ∀ y, Hid (Below w.heap.size w (wr.setCell ⟨gu, k, none⟩ (.int .u8 y))) := fun y => SQ.out.setCell hgb _
                      clear ho hro hx hxl hx0 hgb
                      go_wp2_with fail
                      go_roundg (q - (k + 1))
                      case measure => omega
                      case rel => exact ⟨k + 1, _, by omega, rfl, by simp, IS _, SS _⟩
                    · have f2 : decide ((k : Int) < (q : Int)) = false := by rw [decide_eq_false_iff_not]; omega
                      go_wp2_with fail
                      go_roundg (len - (j + 1))
                      case measure => omega
                      case rel => exact ⟨j + 1, L2, by omega, rfl, by simp, ⟨RQ.out.1, RQ.out.2.1⟩, SQ⟩
                · have f1 : decide ((j : Int) < (len : Int)) = false := by rw [decide_eq_false_iff_not]; omega
                  clear RQ
                  go_wp2_with fail
                  go_loopg [13] 0 (fun gg iv wr => gg = 0 ∧ iv = .int .i64 0 ∧ Hid (Below w.heap.size w wr))
                  case atStart => exact ⟨rfl, rfl, SQ⟩
                  case round =>
                    obtain ⟨rfl, rfl, TW⟩ := hrel
                    clear SQ
                    by_cases h0 : len2 = 0
                    · have e1 : decide ((0 : Int) < (len2 : Int)) = false := by rw [decide_eq_false_iff_not]; omega
                      have hmk1 := HMK.out wr
                      go_wp2_with fail
                      refine (K1.out wr).mono ?_
                      rintro e w8 ⟨b1, rfl, KB1, hb1⟩
                      have B8 : Hid (Below w.heap.size w w8) := (TW.out).trans (hb1.mono (TW.out).size)
                      have KB2 : Hid (∀ W, Below w8.heap.size w8 W → Calls Try.prog 16 #[.pointer (some ⟨b1, 0, none⟩)] W fun e w' => e = .returned (.int .i64 1) ∧ w' = W) := KB1
                      have KB3 : Hid (Calls Try.prog 16 #[.pointer (some ⟨b1, 0, none⟩)] w8 fun e w' => e = .returned (.int .i64 1) ∧ w' = w8) := KB2.out w8 (Below.refl _ _)
                      clear KB1 hb1 hmk1
                      go_wp2_with fail
                      refine KB3.out.mono ?_
                      rintro e w10 ⟨rfl, rfl⟩
                      go_wp2_with fail
                      go_ret
                      exact ⟨rfl, B8.out⟩
                    · have e1 : decide ((0 : Int) < (len2 : Int)) = true := by rw [decide_eq_true_eq]; omega
                      have hmk1 := HMK.out wr
                      go_wp2_with fail
                      refine (K1.out wr).mono ?_
                      rintro e w8 ⟨b1, rfl, KB1, hb1⟩
                      have B8 : Hid (Below w.heap.size w w8) := (TW.out).trans (hb1.mono (TW.out).size)
                      have KB2 : Hid (∀ W, Below w8.heap.size w8 W → Calls Try.prog 16 #[.pointer (some ⟨b1, 0, none⟩)] W fun e w' => e = .returned (.int .i64 1) ∧ w' = W) := KB1
                      have KB3 : Hid (Calls Try.prog 16 #[.pointer (some ⟨b1, 0, none⟩)] w8 fun e w' => e = .returned (.int .i64 1) ∧ w' = w8) := KB2.out w8 (Below.refl _ _)
                      clear KB1 hb1 hmk1
                      go_wp2_with fail
                      refine KB3.out.mono ?_
                      rintro e w10 ⟨rfl, rfl⟩
                      go_wp2_with fail
                      go_ret
                      exact ⟨rfl, B8.out⟩
          · clear hin2
            go_wp2_with fail
            refine (of_bad va len vc hm wr).mono ?_
            rintro e w1 ⟨rfl, hw⟩
            obtain rfl := hw.symm
            clear hw
            go_wp2_with fail
            refine (rof_bad a len cap hm wr).mono ?_
            rintro e w2 ⟨rfl, hw⟩
            obtain rfl := hw.symm
            clear hw
            have RZ : Hid (Rws wr w.heap.size (.slice va len vc) V1 (firstM M len)) := RW.out.1
            have SZ : Hid (Below w.heap.size w wr) := BW.out
            clear RW BW hm
            go_wp2_with fail
            go_loopg [63] len (fun gg jv wq => ∃ (j : Nat) (L : List (List Int)), j ≤ len ∧ gg = len - j ∧ jv = .int .i64 (j : Int) ∧ Hid (Rws wq w.heap.size (.slice va len vc) V1 L ∧ ∀ k, j ≤ k → k < len → L[k]? = some (M k)) ∧ Hid (Below w.heap.size w wq))
            case atStart => exact ⟨0, firstM M len, by omega, rfl, rfl, ⟨RZ.out, fun k _ hk => firstM_at M len k hk⟩, SZ⟩
            case round =>
              obtain ⟨j, L, hjm, rfl, rfl, RQ, SQ⟩ := hrel
              clear SZ RZ
              by_cases hj : j < len
              · have f1 : decide ((j : Int) < (len : Int)) = true := by rw [decide_eq_true_eq]; omega
                have rj : IntKind.i64.wrap ((j : Int) + 1) = (j : Int) + 1 := by rw [IntKind.wrap_i64]; have := HL.out.1; omega
                obtain ⟨gi, rfl⟩ : ∃ g, va = some ⟨g, 0, none⟩ := by
                  rcases RQ.out.1.row.2 with ⟨_, h0⟩ | ⟨g, c', cur, e, _⟩
                  · have := V1L.out; omega
                  · injection e with e1 e2 e3
                    exact ⟨g, e1⟩
                obtain ⟨u, hu⟩ : ∃ u, V1[j]? = some u := ⟨_, List.getElem?_eq_getElem (by have := V1L.out; omega)⟩
                have ho := RQ.out.1.own j u (M j) hu (RQ.out.2 j (Nat.le_refl j) hj)
                obtain ⟨ua, uc, rfl, _⟩ := ho.slice
                have k1 : wr.cell? ⟨gi, j, none⟩ = some (.slice ua (M j).length uc) := by
                  have hr : wr.ownsRow w.heap.size 35 1 (.slice (some ⟨gi, 0, none⟩) len vc) len V1 := by have h := RQ.out.1.row; rw [V1L.out] at h; exact h
                  rw [World.ownsRow.cellAt hr j (by omega)]
                  exact hu
                obtain ⟨ib, off, rfl, hib, hcells⟩ := HI.out.1 (by omega)
                have k2 := (SQ.out.cell (p := ⟨ib, off + j, none⟩) hib).trans (hcells j hj)
                obtain ⟨r1, r2, r3, r4, r5, r6, r7⟩ := (HI.out.below SQ.out).2 j hj
                generalize hv : V j = v at *
                obtain ⟨ja, jl, jc⟩ := v
                simp only at k2 r1 r2
                have Q9 : Hid ((M j).length ≤ 140737488351232) := HR.out j hj
                have cv1 : ∀ q, (convert 35 9 (.slice ua (M j).length uc)).run Try.prog (wr.drewN q) = .ok (.string (strOfNums (M j))) (wr.drewN q) := fun q => conv_str (w := wr.drewN q) ho.holds.1 _ _ rfl
                have cv2 : ∀ q, (convert 35 9 (.slice ja jl jc)).run Try.prog (wr.drewN q) = .ok (.string (strOfNums (M j))) (wr.drewN q) := fun q => conv_str (w := wr.drewN q) r1 _ _ r2
                have UJ : Hid (V1[j]? = some (.slice ua (M j).length uc)) := hu
                have XJ : Hid (∃ x, L[j]? = some x ∧ x.length = (M j).length) := ⟨M j, RQ.out.2 j (Nat.le_refl j) hj, rfl⟩
                clear ho hcells r1 r2 r3 r4 r5 r6 r7 hu hv
                generalize strOfNums (M j) = sx at *
                generalize (M j).length = q at *
                go_wp2_with fail
                go_quiet (fail)
                go_wp2_with fail
                go_loopg [82] q (fun gg kv wq => ∃ (k : Nat) (L : List (List Int)), k ≤ q ∧ gg = q - k ∧ kv = .int .i64 (k : Int) ∧ Hid (Rws wq w.heap.size (.slice (some ⟨gi, 0, none⟩) len vc) V1 L ∧ (∀ k, j + 1 ≤ k → k < len → L[k]? = some (M k)) ∧ ∃ x, L[j]? = some x ∧ x.length = q) ∧ Hid (Below w.heap.size w wq))
                case atStart => exact ⟨0, L, by omega, rfl, rfl, ⟨RQ.out.1.keep ⟨rfl, rfl, rfl, Nat.le_refl _, fun _ _ => rfl⟩, fun k hk hkm => RQ.out.2 k (by omega) hkm, XJ.out⟩, SQ.out.trans ⟨rfl, rfl, rfl, Nat.le_refl _, fun _ _ => rfl⟩⟩
                case round =>
                  clear k1 k2 cv1 cv2 XJ RQ SQ
                  obtain ⟨k, L2, hkq, rfl, rfl, RQ, SQ⟩ := hrel
                  have k1 : wr.cell? ⟨gi, j, none⟩ = some (.slice ua q uc) := by
                    have hr : wr.ownsRow w.heap.size 35 1 (.slice (some ⟨gi, 0, none⟩) len vc) len V1 := by have h := RQ.out.1.row; rw [V1L.out] at h; exact h
                    rw [World.ownsRow.cellAt hr j (by omega)]
                    exact UJ.out
                  by_cases hk : k < q
                  · have f2 : decide ((k : Int) < (q : Int)) = true := by rw [decide_eq_true_eq]; omega
                    obtain ⟨x, hx, hxl⟩ := RQ.out.2.2
                    have ho := RQ.out.1.own j _ x UJ.out hx
                    obtain ⟨gu, rfl⟩ : ∃ g, ua = some ⟨g, 0, none⟩ := by
                      rcases ho.2 with ⟨_, h0⟩ | ⟨g, c', cur, e, _⟩
                      · omega
                      · injection e with e1 e2 e3
                        exact ⟨g, e1⟩
                    have hro : wr.ownsRow w.heap.size 5 1 (.slice (some ⟨gu, 0, none⟩) q uc) q (x.map (Value.int .u8)) := by
                      have h := ho
                      unfold Owned at h
                      rw [hxl] at h
                      exact h
                    have hgb : w.heap.size ≤ gu := (World.ownsRow.lt hro gu rfl).1
                    obtain ⟨x0, hx0⟩ : ∃ y, x[k]? = some y := ⟨_, List.getElem?_eq_getElem (by omega)⟩
                    have kc : wr.cell? ⟨gu, k, none⟩ = some (.int .u8 x0) := by
                      rw [World.ownsRow.cellAt hro k (by omega), List.getElem?_map, hx0]
                      rfl
                    have hfz : wr.frozen? ⟨gu, k, none⟩ = false := World.ownsRow.frozenAt (n := q) hro k
                    have rk : IntKind.i64.wrap ((k : Int) + 1) = (k : Int) + 1 := by rw [IntKind.wrap_i64]; have := Q9.out; omega
                    have IS : ∀ y, Hid (Rws (wr.setCell ⟨gu, k, none⟩ (.int .u8 y)) w.heap.size (.slice (some ⟨gi, 0, none⟩) len vc) V1 (L2.set j (x.set k y)) ∧ (∀ k', j + 1 ≤ k' → k' < len → (L2.set j (x.set k y))[k']? = some (M k')) ∧ ∃ x', (L2.set j (x.set k y))[j]? = some x' ∧ x'.length = q) := fun y => ⟨RQ.out.1.set j x UJ.out hx hxl k y, fun k' h1 h2 => by rw [List.getElem?_set_ne (by omega)]; exact RQ.out.2.1 k' h1 h2, _, List.getElem?_set_self (List.getElem?_eq_some_iff.1 hx).1, by rw [List.length_set]; exact hxl⟩
                    have SS : ∀ y, Hid (Below w.heap.size w (wr.setCell ⟨gu, k, none⟩ (.int .u8 y))) := fun y => SQ.out.setCell hgb _
                    clear ho hro hx hxl hx0 hgb
                    go_wp2_with fail
                    go_roundg (q - (k + 1))
                    case measure => omega
                    case rel => exact ⟨k + 1, _, by omega, rfl, by simp, IS _, SS _⟩
                  · have f2 : decide ((k : Int) < (q : Int)) = false := by rw [decide_eq_false_iff_not]; omega
                    go_wp2_with fail
                    go_roundg (len - (j + 1))
                    case measure => omega
                    case rel => exact ⟨j + 1, L2, by omega, rfl, by simp, ⟨RQ.out.1, RQ.out.2.1⟩, SQ⟩
              · have f1 : decide ((j : Int) < (len : Int)) = false := by rw [decide_eq_false_iff_not]; omega
                clear RQ
                go_wp2_with fail
                go_loopg [13] 0 (fun gg iv wr => gg = 0 ∧ iv = .int .i64 0 ∧ Hid (Below w.heap.size w wr))
                case atStart => exact ⟨rfl, rfl, SQ⟩
                case round =>
                  obtain ⟨rfl, rfl, TW⟩ := hrel
                  clear SQ
                  by_cases h0 : len2 = 0
                  · have e1 : decide ((0 : Int) < (len2 : Int)) = false := by rw [decide_eq_false_iff_not]; omega
                    have hmk1 := HMK.out wr
                    go_wp2_with fail
                    refine (K1.out wr).mono ?_
                    rintro e w8 ⟨b1, rfl, KB1, hb1⟩
                    have B8 : Hid (Below w.heap.size w w8) := (TW.out).trans (hb1.mono (TW.out).size)
                    have KB2 : Hid (∀ W, Below w8.heap.size w8 W → Calls Try.prog 16 #[.pointer (some ⟨b1, 0, none⟩)] W fun e w' => e = .returned (.int .i64 1) ∧ w' = W) := KB1
                    have KB3 : Hid (Calls Try.prog 16 #[.pointer (some ⟨b1, 0, none⟩)] w8 fun e w' => e = .returned (.int .i64 1) ∧ w' = w8) := KB2.out w8 (Below.refl _ _)
                    clear KB1 hb1 hmk1
                    go_wp2_with fail
                    refine KB3.out.mono ?_
                    rintro e w10 ⟨rfl, rfl⟩
                    go_wp2_with fail
                    go_ret
                    exact ⟨rfl, B8.out⟩
                  · have e1 : decide ((0 : Int) < (len2 : Int)) = true := by rw [decide_eq_true_eq]; omega
                    have hmk1 := HMK.out wr
                    go_wp2_with fail
                    refine (K1.out wr).mono ?_
                    rintro e w8 ⟨b1, rfl, KB1, hb1⟩
                    have B8 : Hid (Below w.heap.size w w8) := (TW.out).trans (hb1.mono (TW.out).size)
                    have KB2 : Hid (∀ W, Below w8.heap.size w8 W → Calls Try.prog 16 #[.pointer (some ⟨b1, 0, none⟩)] W fun e w' => e = .returned (.int .i64 1) ∧ w' = W) := KB1
                    have KB3 : Hid (Calls Try.prog 16 #[.pointer (some ⟨b1, 0, none⟩)] w8 fun e w' => e = .returned (.int .i64 1) ∧ w' = w8) := KB2.out w8 (Below.refl _ _)
                    clear KB1 hb1 hmk1
                    go_wp2_with fail
                    refine KB3.out.mono ?_
                    rintro e w10 ⟨rfl, rfl⟩
                    go_wp2_with fail
                    go_ret
                    exact ⟨rfl, B8.out⟩
    · have g1 : decide (50 < (len : Int)) = true := by rw [decide_eq_true_eq]; omega
      have g2 : decide ((len : Int) ≤ 4096) = false := by rw [decide_eq_false_iff_not]; omega
      have HI : Hid (In2 w a len V M) := hI
      have HL : Hid (len ≤ 1000000000000000 ∧ len * 24 ≤ 140737488351232) := ⟨by omega, hl24⟩
      have HR : Hid (∀ i, i < len → (M i).length ≤ 140737488351232) := hR
      clear hI hR hl24 hlc h50
      go_wp2_with fail
      go_loopg [5, 28] len (fun gg vv iv wr => ∃ (i : Nat) (va : Option Addr) (vc : Nat) (V1 : List Value), i ≤ len ∧ gg = len - i ∧ vv = .slice va i vc ∧ iv = .int .i64 (i : Int) ∧ Hid (Rws wr w.heap.size (.slice va i vc) V1 (firstM M i) ∧ V1.length = i) ∧ Hid (Below w.heap.size w wr))
      case atStart => exact ⟨0, none, 0, [], by omega, rfl, rfl, rfl, ⟨Rws.nil _ _, rfl⟩, Below.refl _ _⟩
      case round =>
        obtain ⟨i, va, vc, V1, him, rfl, rfl, rfl, RW, BW⟩ := hrel
        by_cases hi : i < len
        · have f1 : decide ((i : Int) < (len : Int)) = true := by rw [decide_eq_true_eq]; omega
          have ri : IntKind.i64.wrap ((i : Int) + 1) = (i : Int) + 1 := by rw [IntKind.wrap_i64]; have := HL.out.1; omega
          obtain ⟨ib, off, rfl, hib, hcells⟩ := HI.out.1 (by omega)
          have c0 := (BW.out.cell (p := ⟨ib, off + i, none⟩) hib).trans (hcells i hi)
          obtain ⟨r1, r2, r3, r4, r5, r6, r7⟩ := (HI.out.below BW.out).2 i hi
          have q9 := HR.out i hi
          generalize hv : V i = v at *
          obtain ⟨ja, jl, jc⟩ := v
          simp only at c0 r1 r2 r4 r5 r6 r7
          have HH : Hid (Holds (wr.alloc (.cells #[] 5)) ja (M i) ∧ (ja = none → jc = 0) ∧ (M i).length = jl ∧ jl ≤ 140737488351232) := ⟨holds_kept r1 fun x hx hL => Below.heap_alloc _ _ _ (r5 x hx hL), r4, r2, by rw [← r2]; exact q9⟩
          have c1 := (below1 wr (.cells #[] 5)).cell (p := ⟨ib, off + i, none⟩) (Nat.lt_of_lt_of_le hib BW.out.size) |>.trans c0
          have hlw := RW.out.2
          clear r1 r2 r3 r4 r5 r6 r7 hcells hv q9
          go_wp2_with (first
            | (at_builtin; refine append_bytes rfl (.tmp 32) (.tmp 36) rfl wr.heap.size _ [] rfl (owned_empty wr wr.heap.size (Nat.le_refl _)) ja jl jc (M i) rfl HH.out.2.2.1 HH.out.1 HH.out.2.1 jl (Nat.zero_add _) (by have := HH.out.2.2.2; omega) (by simp) ?_; intro a' c' w2 ho2 hb2; have O2 : Hid (Owned w2 wr.heap.size (.slice a' jl c') (M i)) := ho2; have B2 : Hid (Below wr.heap.size wr w2) := (below1 wr _).trans hb2; have N3 : Hid ((w2.alloc (.cells #[.slice a' jl c'] 35)).cell? ⟨w2.heap.size, 0, none⟩ = some (.slice a' jl c')) := (by rw [cell_of_row _ w2.heap.size 0 _ _ (0, 0) (heap_alloc_new w2 _)]; rfl); have B3 : Hid (Below wr.heap.size wr (w2.alloc (.cells #[.slice a' jl c'] 35))) := B2.out.trans ((below1 w2 _).mono B2.out.size); clear ho2 hb2)
            | (at_builtin; go_loud (refine append_rowR rfl (.tmp 31) (.tmp 38) rfl w.heap.size _ V1 rfl (RW.out.1.keep B3.out).row w2.heap.size (.slice a' jl c') rfl rfl N3.out (by have := HL.out.2; omega) (Nat.le_trans BW.out.size B3.out.size) ?_; intro g c w4 hrow hg hat; have R4 : Hid (Rws w4 w.heap.size (.slice (some ⟨g, 0, none⟩) (V1.length + 1) c) (V1 ++ [.slice a' jl c']) (firstM M i ++ [M i])) := (RW.out.1.more B3.out (owned_kept O2.out fun k hk => Below.heap_alloc _ _ _ (World.ownsRow.lt O2.out k hk).2) BW.out.size hrow hg hat); have B4 : Hid (Below w.heap.size w w4) := ((BW.out.trans (B3.out.mono BW.out.size)).grown hg (Nat.le_trans BW.out.size B3.out.size) (fun k e => (RW.out.1.lt k (.inl e)).1)); clear hrow hg hat; rw [hlw] at R4 ⊢)))
          go_roundg (len - (i + 1))
          case measure => omega
          case rel => exact ⟨i + 1, some ⟨g, 0, none⟩, c, _, by omega, rfl, rfl, by simp, ⟨by rw [← firstM_succ]; exact R4.out, by simp [hlw]⟩, B4⟩
        · have f1 : decide ((i : Int) < (len : Int)) = false := by rw [decide_eq_false_iff_not]; omega
          have him2 : i = len := (by omega)
          subst i
          obtain ⟨Vf, hin2⟩ := RW.out.1.in2 RW.out.2 (fun k hk => firstM_at M len k hk) (fun k hk => (HI.out.2 k hk).2.2.1)
          have V1L : Hid (V1.length = len) := RW.out.2
          by_cases hm : 1 ≤ len ∧ len ≤ 4096
          · by_cases h64 : ∀ i, i < len → (M i).length = 64
            · have KO : Hid (Calls Try.prog 17 #[.slice va len vc] wr fun e w' => Below wr.heap.size wr w' ∧ ∃ b F, e = .returned (.tuple #[.pointer (some ⟨b, 0, none⟩), .int .i64 0]) ∧ Dk w' F b 0 (Ds.of M len) ∧ ∀ k, F k → wr.heap.size ≤ k) := by
                refine (of_is va len vc Vf M wr hm.1 hm.2 hin2).mono ?_
                rintro e w' ⟨hb, ⟨⟨i, hi, h⟩, _⟩ | ⟨_, h⟩⟩
                · exact absurd (h64 i hi) h
                · exact ⟨hb, h⟩
              have KR : Hid (∀ W, Below w.heap.size w W → Calls Try.prog 18 #[.slice a len cap] W fun e w' => Below W.heap.size W w' ∧ ∃ b F, e = .returned (.tuple #[.pointer (some ⟨b, 0, none⟩), .int .i64 0]) ∧ Rk w' F b 0 (Ds.of M len) ∧ ∀ k, F k → W.heap.size ≤ k) := fun W hbW => by
                refine (rof_is a len cap V M W hm.1 hm.2 (HI.out.below hbW)).mono ?_
                rintro e w' ⟨hb, ⟨⟨i, hi, h⟩, _⟩ | ⟨_, h⟩⟩
                · exact absurd (h64 i hi) h
                · exact ⟨hb, h⟩
              clear hin2 hm h64
              go_wp2_with fail
              refine KO.out.mono ?_
              rintro e w1 ⟨hb1, d, F1, rfl, hd1, hF1⟩
              have D1 : Hid (Dk w1 F1 d 0 (Ds.of M len) ∧ Below wr.heap.size wr w1 ∧ (∀ k, F1 k → wr.heap.size ≤ k)) := ⟨hd1, hb1, hF1⟩
              have BW1 : Hid (Below w.heap.size w w1) := BW.out.trans (hb1.mono BW.out.size)
              clear hb1 hd1 hF1 KO
              go_wp2_with fail
              refine (KR.out w1 BW1.out).mono ?_
              rintro e w2 ⟨hb2, r, F2, rfl, hr, hF2⟩
              have RZ : Hid (Rws w2 w.heap.size (.slice va len vc) V1 (firstM M len)) := (RW.out.1.keep D1.out.2.1).keep hb2
              obtain ⟨s, hs⟩ : ∃ s, Ds.of M len = s := ⟨_, rfl⟩
              have SZ : Hid (Pr w w2 (RwF (.slice va len vc) V1) d r 0 s s) := by
                rw [← hs]
                refine ⟨F1, F2, D1.out.1.keep hb2, hr, fun k h1 h2 => by have := D1.out.1.lt k h1; have := hF2 k h2; omega, fun k hk => Nat.le_trans BW.out.size (D1.out.2.2 k hk), fun k hk => Nat.le_trans BW1.out.size (hF2 k hk), BW1.out.trans (hb2.mono BW1.out.size), fun k hk => ?_⟩
                have h1 := RW.out.1.lt k hk
                exact ⟨(RZ.out.lt k hk).2, fun h => by have := D1.out.2.2 k h; omega, fun h => by have := hF2 k h; have := D1.out.2.1.size; omega⟩
              clear hb2 hr hF2 D1 KR RW BW BW1 hs
              generalize w2 = w2' at *
              go_wp2_with fail
              go_loopg [63] len (fun gg jv wq => ∃ (j : Nat) (L : List (List Int)), j ≤ len ∧ gg = len - j ∧ jv = .int .i64 (j : Int) ∧ Hid (Rws wq w.heap.size (.slice va len vc) V1 L ∧ ∀ k, j ≤ k → k < len → L[k]? = some (M k)) ∧ Hid (Pr w wq (RwF (.slice va len vc) V1) d r 0 s s))
              case atStart => exact ⟨0, firstM M len, by omega, rfl, rfl, ⟨RZ.out, fun k _ hk => firstM_at M len k hk⟩, SZ⟩
              case round =>
                obtain ⟨j, L, hjm, rfl, rfl, RQ, SQ⟩ := hrel
                clear SZ RZ
                by_cases hj : j < len
                · have f1 : decide ((j : Int) < (len : Int)) = true := by rw [decide_eq_true_eq]; omega
                  have rj : IntKind.i64.wrap ((j : Int) + 1) = (j : Int) + 1 := by rw [IntKind.wrap_i64]; have := HL.out.1; omega
                  obtain ⟨gi, rfl⟩ : ∃ g, va = some ⟨g, 0, none⟩ := by
                    rcases RQ.out.1.row.2 with ⟨_, h0⟩ | ⟨g, c', cur, e, _⟩
                    · have := V1L.out; omega
                    · injection e with e1 e2 e3
                      exact ⟨g, e1⟩
                  obtain ⟨u, hu⟩ : ∃ u, V1[j]? = some u := ⟨_, List.getElem?_eq_getElem (by have := V1L.out; omega)⟩
                  have ho := RQ.out.1.own j u (M j) hu (RQ.out.2 j (Nat.le_refl j) hj)
                  obtain ⟨ua, uc, rfl, _⟩ := ho.slice
                  have k1 : wr.cell? ⟨gi, j, none⟩ = some (.slice ua (M j).length uc) := by
                    have hr : wr.ownsRow w.heap.size 35 1 (.slice (some ⟨gi, 0, none⟩) len vc) len V1 := by have h := RQ.out.1.row; rw [V1L.out] at h; exact h
                    rw [World.ownsRow.cellAt hr j (by omega)]
                    exact hu
                  obtain ⟨ib, off, rfl, hib, hcells⟩ := HI.out.1 (by omega)
                  have k2 := (SQ.out.below.cell (p := ⟨ib, off + j, none⟩) hib).trans (hcells j hj)
                  obtain ⟨r1, r2, r3, r4, r5, r6, r7⟩ := (HI.out.below SQ.out.below).2 j hj
                  generalize hv : V j = v at *
                  obtain ⟨ja, jl, jc⟩ := v
                  simp only at k2 r1 r2
                  have Q9 : Hid ((M j).length ≤ 140737488351232) := HR.out j hj
                  have cv1 : ∀ q, (convert 35 9 (.slice ua (M j).length uc)).run Try.prog (wr.drewN q) = .ok (.string (strOfNums (M j))) (wr.drewN q) := fun q => conv_str (w := wr.drewN q) ho.holds.1 _ _ rfl
                  have cv2 : ∀ q, (convert 35 9 (.slice ja jl jc)).run Try.prog (wr.drewN q) = .ok (.string (strOfNums (M j))) (wr.drewN q) := fun q => conv_str (w := wr.drewN q) r1 _ _ r2
                  have UJ : Hid (V1[j]? = some (.slice ua (M j).length uc)) := hu
                  have XJ : Hid (∃ x, L[j]? = some x ∧ x.length = (M j).length) := ⟨M j, RQ.out.2 j (Nat.le_refl j) hj, rfl⟩
                  clear ho hcells r1 r2 r3 r4 r5 r6 r7 hu hv
                  generalize strOfNums (M j) = sx at *
                  generalize (M j).length = q at *
                  go_wp2_with fail
                  go_quiet (fail)
                  go_wp2_with fail
                  go_loopg [82] q (fun gg kv wq => ∃ (k : Nat) (L : List (List Int)), k ≤ q ∧ gg = q - k ∧ kv = .int .i64 (k : Int) ∧ Hid (Rws wq w.heap.size (.slice (some ⟨gi, 0, none⟩) len vc) V1 L ∧ (∀ k, j + 1 ≤ k → k < len → L[k]? = some (M k)) ∧ ∃ x, L[j]? = some x ∧ x.length = q) ∧ Hid (Pr w wq (RwF (.slice (some ⟨gi, 0, none⟩) len vc) V1) d r 0 s s))
                  case atStart => exact ⟨0, L, by omega, rfl, rfl, ⟨RQ.out.1.keep ⟨rfl, rfl, rfl, Nat.le_refl _, fun _ _ => rfl⟩, fun k hk hkm => RQ.out.2 k (by omega) hkm, XJ.out⟩, SQ.out.drewN _⟩
                  case round =>
                    clear k1 k2 cv1 cv2 XJ RQ SQ
                    obtain ⟨k, L2, hkq, rfl, rfl, RQ, SQ⟩ := hrel
                    have k1 : wr.cell? ⟨gi, j, none⟩ = some (.slice ua q uc) := by
                      have hr : wr.ownsRow w.heap.size 35 1 (.slice (some ⟨gi, 0, none⟩) len vc) len V1 := by have h := RQ.out.1.row; rw [V1L.out] at h; exact h
                      rw [World.ownsRow.cellAt hr j (by omega)]
                      exact UJ.out
                    by_cases hk : k < q
                    · have f2 : decide ((k : Int) < (q : Int)) = true := by rw [decide_eq_true_eq]; omega
                      obtain ⟨x, hx, hxl⟩ := RQ.out.2.2
                      have ho := RQ.out.1.own j _ x UJ.out hx
                      obtain ⟨gu, rfl⟩ : ∃ g, ua = some ⟨g, 0, none⟩ := by
                        rcases ho.2 with ⟨_, h0⟩ | ⟨g, c', cur, e, _⟩
                        · omega
                        · injection e with e1 e2 e3
                          exact ⟨g, e1⟩
                      have hro : wr.ownsRow w.heap.size 5 1 (.slice (some ⟨gu, 0, none⟩) q uc) q (x.map (Value.int .u8)) := by
                        have h := ho
                        unfold Owned at h
                        rw [hxl] at h
                        exact h
                      have hgb : w.heap.size ≤ gu := (World.ownsRow.lt hro gu rfl).1
                      obtain ⟨x0, hx0⟩ : ∃ y, x[k]? = some y := ⟨_, List.getElem?_eq_getElem (by omega)⟩
                      have kc : wr.cell? ⟨gu, k, none⟩ = some (.int .u8 x0) := by
                        rw [World.ownsRow.cellAt hro k (by omega), List.getElem?_map, hx0]
                        rfl
                      have hfz : wr.frozen? ⟨gu, k, none⟩ = false := World.ownsRow.frozenAt (n := q) hro k
                      have rk : IntKind.i64.wrap ((k : Int) + 1) = (k : Int) + 1 := by rw [IntKind.wrap_i64]; have := Q9.out; omega
                      have IS : ∀ y, Hid (Rws (wr.setCell ⟨gu, k, none⟩ (.int .u8 y)) w.heap.size (.slice (some ⟨gi, 0, none⟩) len vc) V1 (L2.set j (x.set k y)) ∧ (∀ k', j + 1 ≤ k' → k' < len → (L2.set j (x.set k y))[k']? = some (M k')) ∧ ∃ x', (L2.set j (x.set k y))[j]? = some x' ∧ x'.length = q) := fun y => ⟨RQ.out.1.set j x UJ.out hx hxl k y, fun k' h1 h2 => by rw [List.getElem?_set_ne (by omega)]; exact RQ.out.2.1 k' h1 h2, _, List.getElem?_set_self (List.getElem?_eq_some_iff.1 hx).1, by rw [List.length_set]; exact hxl⟩
                      have SS : ∀ y, Hid (Pr w (wr.setCell ⟨gu, k, none⟩ (.int .u8 y)) (RwF (.slice (some ⟨gi, 0, none⟩) len vc) V1) d r 0 s s) := fun y => SQ.out.setP (.inr ⟨_, List.mem_of_getElem? UJ.out, rfl⟩) hgb k _
                      clear ho hro hx hxl hx0 hgb
                      go_wp2_with fail
                      go_roundg (q - (k + 1))
                      case measure => omega
                      case rel => exact ⟨k + 1, _, by omega, rfl, by simp, IS _, SS _⟩
                    · have f2 : decide ((k : Int) < (q : Int)) = false := by rw [decide_eq_false_iff_not]; omega
                      go_wp2_with fail
                      go_roundg (len - (j + 1))
                      case measure => omega
                      case rel => exact ⟨j + 1, L2, by omega, rfl, by simp, ⟨RQ.out.1, RQ.out.2.1⟩, SQ⟩
                · have f1 : decide ((j : Int) < (len : Int)) = false := by rw [decide_eq_false_iff_not]; omega
                  clear RQ
                  have T0 : Hid (Pr w wr (fun _ => False) d r 0 s s) := SQ.out.less (fun _ h => h.elim)
                  generalize s = s0 at *
                  go_wp2_with fail
                  go_loopg [13] 20 (fun gg iv wr => ∃ (i : Nat) (s : Ds), i ≤ 20 ∧ gg = 20 - i ∧ iv = .int .i64 (i : Int) ∧ Hid (Pr w wr (fun _ => False) d r (2 * i) s s))
                  case atStart => exact ⟨0, s0, by omega, rfl, rfl, T0⟩
                  case round =>
                    obtain ⟨i, s, hi20, rfl, rfl, TW⟩ := hrel
                    clear T0 SQ
                    by_cases hil : i < len2 ∧ i < 20
                    · have e1 : decide ((i : Int) < (len2 : Int)) = true := by rw [decide_eq_true_eq]; omega
                      have e2 : decide ((i : Int) < 20) = true := by rw [decide_eq_true_eq]; omega
                      have ri : IntKind.i64.wrap ((i : Int) + 1) = (i : Int) + 1 := by rw [IntKind.wrap_i64]; omega
                      have hx := HX.out i hil.1
                      have HK : Hid ((A i).z.length = (A i).kl ∧ InK w (A i).ka (A i).z ∧ ((A i).ka = none → (A i).kc = 0) ∧ (A i).kl ≤ 17592186044416) := ⟨(HA.out.2 i hil.1).2.2.2.2.1, (HA.out.2 i hil.1).2.2.2.2.2, hx⟩
                      have hia := HA.out.below TW.out.below
                      obtain ⟨ab, aoff, rfl, hab, hacells⟩ := hia.1 (by omega)
                      obtain ⟨c0, c1, c2, c3, c4⟩ := hacells i hil.1
                      obtain ⟨b0, b1, b2, b3, b4, b5⟩ := hia.2 i hil.1
                      generalize A i = v at *
                      obtain ⟨vk, va', vn, vl, vka, vkl, vkc, vz⟩ := v
                      simp only at c0 c1 c2 c3 c4 b0 b1 b2 b3 HK
                      clear hia hacells b4 b5 hx
                      have KDo : Hid (Calls Try.prog 14 #[.pointer (some ⟨d, 0, none⟩), .pointer (some ⟨r, 0, none⟩), .agg #[.int .i64 vk, .int .i64 va', .int .i64 vn, .int .i64 vl, .slice vka vkl vkc]] wr fun e w' => e = .returned (.bool true) ∧ ∃ s', Pr w w' (fun _ => False) d r (2 * i + 2) s' s') := does_is TW.out (by omega) vk va' vn vl vka vkl vkc vz b0 b1 b2 b3 HK.out.1 HK.out.2.1 HK.out.2.2.1 HK.out.2.2.2
                      clear b0 b1 b2 b3
                      go_wp2_with fail
                      refine KDo.out.mono ?_
                      rintro e w6 ⟨rfl, s6, t6⟩
                      have T6 : Hid (Pr w w6 (fun _ => False) d r (2 * i + 2) s6 s6) := t6
                      clear t6 c0 c1 c2 c3 c4 KDo
                      have KS : Hid (Calls Try.prog 15 #[.pointer (some ⟨d, 0, none⟩), .pointer (some ⟨r, 0, none⟩)] w6 fun e w' => e = .returned (.bool true) ∧ Below w6.heap.size w6 w') := T6.out.same (by omega)
                      go_wp2_with fail
                      refine KS.out.mono ?_
                      rintro e w7 ⟨rfl, hb7⟩
                      have T7 : Hid (Pr w w7 (fun _ => False) d r (2 * (i + 1)) s6 s6) := (T6.out.keep hb7).less (fun _ h => h.elim)
                      clear hb7
                      go_wp2_with fail
                      go_roundg (20 - (i + 1))
                      case measure => omega
                      case rel => exact ⟨i + 1, s6, by omega, rfl, by simp, T7⟩
                    · obtain ⟨N, hN⟩ : ∃ N, 2 * i = N := ⟨_, rfl⟩
                      have hN2 : N ≤ 40 := by omega
                      have TN : Hid (Pr w wr (fun _ => False) d r N s s) := by rw [← hN]; exact TW.out
                      rcases (by omega : ¬ i < len2 ∨ (i < len2 ∧ ¬ i < 20)) with h0 | ⟨h0, h1⟩
                      · have e1 : decide ((i : Int) < (len2 : Int)) = false := by rw [decide_eq_false_iff_not]; omega
                        clear hil hN
                        have hmk1 := HMK.out wr
                        go_wp2_with fail
                        refine (K1.out wr).mono ?_
                        rintro e w8 ⟨b1, rfl, KB1, hb1⟩
                        have B8 : Hid (Below w.heap.size w w8) := (TN.out.below).trans (hb1.mono (TN.out.below).size)
                        have KB2 : Hid (∀ W, Below w8.heap.size w8 W → Calls Try.prog 16 #[.pointer (some ⟨b1, 0, none⟩)] W fun e w' => e = .returned (.int .i64 1) ∧ w' = W) := KB1
                        have T8 : Hid (Pr w w8 (fun _ => False) d r N s s) := (TN.out.keep hb1).less (fun _ h => h.elim)
                        have KS : Hid (Calls Try.prog 15 #[.pointer (some ⟨d, 0, none⟩), .pointer (some ⟨r, 0, none⟩)] w8 fun e w' => e = .returned (.bool true) ∧ Below w8.heap.size w8 w') := T8.out.same (by omega)
                        clear KB1 hb1 hmk1
                        go_wp2_with fail
                        refine KS.out.mono ?_
                        rintro e w9 ⟨rfl, hb9⟩
                        have B9 : Hid (Below w.heap.size w w9) := B8.out.trans (hb9.mono B8.out.size)
                        have KB3 : Hid (Calls Try.prog 16 #[.pointer (some ⟨b1, 0, none⟩)] w9 fun e w' => e = .returned (.int .i64 1) ∧ w' = w9) := KB2.out w9 hb9
                        clear hb9
                        go_wp2_with fail
                        refine KB3.out.mono ?_
                        rintro e w10 ⟨rfl, rfl⟩
                        go_wp2_with fail
                        go_ret
                        exact ⟨rfl, B9.out⟩
                      · have e1 : decide ((i : Int) < (len2 : Int)) = true := by rw [decide_eq_true_eq]; omega
                        have e2 : decide ((i : Int) < 20) = false := by rw [decide_eq_false_iff_not]; omega
                        clear hil hN
                        have hmk1 := HMK.out wr
                        go_wp2_with fail
                        refine (K1.out wr).mono ?_
                        rintro e w8 ⟨b1, rfl, KB1, hb1⟩
                        have B8 : Hid (Below w.heap.size w w8) := (TN.out.below).trans (hb1.mono (TN.out.below).size)
                        have KB2 : Hid (∀ W, Below w8.heap.size w8 W → Calls Try.prog 16 #[.pointer (some ⟨b1, 0, none⟩)] W fun e w' => e = .returned (.int .i64 1) ∧ w' = W) := KB1
                        have T8 : Hid (Pr w w8 (fun _ => False) d r N s s) := (TN.out.keep hb1).less (fun _ h => h.elim)
                        have KS : Hid (Calls Try.prog 15 #[.pointer (some ⟨d, 0, none⟩), .pointer (some ⟨r, 0, none⟩)] w8 fun e w' => e = .returned (.bool true) ∧ Below w8.heap.size w8 w') := T8.out.same (by omega)
                        clear KB1 hb1 hmk1
                        go_wp2_with fail
                        refine KS.out.mono ?_
                        rintro e w9 ⟨rfl, hb9⟩
                        have B9 : Hid (Below w.heap.size w w9) := B8.out.trans (hb9.mono B8.out.size)
                        have KB3 : Hid (Calls Try.prog 16 #[.pointer (some ⟨b1, 0, none⟩)] w9 fun e w' => e = .returned (.int .i64 1) ∧ w' = w9) := KB2.out w9 hb9
                        clear hb9
                        go_wp2_with fail
                        refine KB3.out.mono ?_
                        rintro e w10 ⟨rfl, rfl⟩
                        go_wp2_with fail
                        go_ret
                        exact ⟨rfl, B9.out⟩
            · obtain ⟨i0, hi0, hl0⟩ : ∃ i, i < len ∧ (M i).length ≠ 64 := by
                refine Classical.byContradiction fun hne => h64 fun i hi => ?_
                exact Classical.byContradiction fun h => hne ⟨i, hi, h⟩
              have KO : Hid (Calls Try.prog 17 #[.slice va len vc] wr fun e w' => Below wr.heap.size wr w' ∧ e = .returned (.tuple #[.pointer none, .int .i64 2])) := by
                refine (of_is va len vc Vf M wr hm.1 hm.2 hin2).mono ?_
                rintro e w' ⟨hb, ⟨_, h⟩ | ⟨h, _⟩⟩
                · exact ⟨hb, h⟩
                · exact absurd (h i0 hi0) hl0
              have KR : Hid (∀ W, Below w.heap.size w W → Calls Try.prog 18 #[.slice a len cap] W fun e w' => Below W.heap.size W w' ∧ e = .returned (.tuple #[.pointer none, .int .i64 2])) := fun W hbW => by
                refine (rof_is a len cap V M W hm.1 hm.2 (HI.out.below hbW)).mono ?_
                rintro e w' ⟨hb, ⟨_, h⟩ | ⟨h, _⟩⟩
                · exact ⟨hb, h⟩
                · exact absurd (h i0 hi0) hl0
              clear hin2 hm h64 hi0 hl0
              go_wp2_with fail
              refine KO.out.mono ?_
              rintro e w1 ⟨hb1, rfl⟩
              have BW1 : Hid (Below w.heap.size w w1) := BW.out.trans (hb1.mono BW.out.size)
              have R1 : Hid (Rws w1 w.heap.size (.slice va len vc) V1 (firstM M len)) := RW.out.1.keep hb1
              clear hb1 KO
              go_wp2_with fail
              refine (KR.out w1 BW1.out).mono ?_
              rintro e w2 ⟨hb2, rfl⟩
              have RZ : Hid (Rws w2 w.heap.size (.slice va len vc) V1 (firstM M len)) := R1.out.keep hb2
              have SZ : Hid (Below w.heap.size w w2) := BW1.out.trans (hb2.mono BW1.out.size)
              clear hb2 R1 KR RW BW BW1
              go_wp2_with fail
              go_loopg [63] len (fun gg jv wq => ∃ (j : Nat) (L : List (List Int)), j ≤ len ∧ gg = len - j ∧ jv = .int .i64 (j : Int) ∧ Hid (Rws wq w.heap.size (.slice va len vc) V1 L ∧ ∀ k, j ≤ k → k < len → L[k]? = some (M k)) ∧ Hid (Below w.heap.size w wq))
              case atStart => exact ⟨0, firstM M len, by omega, rfl, rfl, ⟨RZ.out, fun k _ hk => firstM_at M len k hk⟩, SZ⟩
              case round =>
                obtain ⟨j, L, hjm, rfl, rfl, RQ, SQ⟩ := hrel
                clear SZ RZ
                by_cases hj : j < len
                · have f1 : decide ((j : Int) < (len : Int)) = true := by rw [decide_eq_true_eq]; omega
                  have rj : IntKind.i64.wrap ((j : Int) + 1) = (j : Int) + 1 := by rw [IntKind.wrap_i64]; have := HL.out.1; omega
                  obtain ⟨gi, rfl⟩ : ∃ g, va = some ⟨g, 0, none⟩ := by
                    rcases RQ.out.1.row.2 with ⟨_, h0⟩ | ⟨g, c', cur, e, _⟩
                    · have := V1L.out; omega
                    · injection e with e1 e2 e3
                      exact ⟨g, e1⟩
                  obtain ⟨u, hu⟩ : ∃ u, V1[j]? = some u := ⟨_, List.getElem?_eq_getElem (by have := V1L.out; omega)⟩
                  have ho := RQ.out.1.own j u (M j) hu (RQ.out.2 j (Nat.le_refl j) hj)
                  obtain ⟨ua, uc, rfl, _⟩ := ho.slice
                  have k1 : wr.cell? ⟨gi, j, none⟩ = some (.slice ua (M j).length uc) := by
                    have hr : wr.ownsRow w.heap.size 35 1 (.slice (some ⟨gi, 0, none⟩) len vc) len V1 := by have h := RQ.out.1.row; rw [V1L.out] at h; exact h
                    rw [World.ownsRow.cellAt hr j (by omega)]
                    exact hu
                  obtain ⟨ib, off, rfl, hib, hcells⟩ := HI.out.1 (by omega)
                  have k2 := (SQ.out.cell (p := ⟨ib, off + j, none⟩) hib).trans (hcells j hj)
                  obtain ⟨r1, r2, r3, r4, r5, r6, r7⟩ := (HI.out.below SQ.out).2 j hj
                  generalize hv : V j = v at *
                  obtain ⟨ja, jl, jc⟩ := v
                  simp only at k2 r1 r2
                  have Q9 : Hid ((M j).length ≤ 140737488351232) := HR.out j hj
                  have cv1 : ∀ q, (convert 35 9 (.slice ua (M j).length uc)).run Try.prog (wr.drewN q) = .ok (.string (strOfNums (M j))) (wr.drewN q) := fun q => conv_str (w := wr.drewN q) ho.holds.1 _ _ rfl
                  have cv2 : ∀ q, (convert 35 9 (.slice ja jl jc)).run Try.prog (wr.drewN q) = .ok (.string (strOfNums (M j))) (wr.drewN q) := fun q => conv_str (w := wr.drewN q) r1 _ _ r2
                  have UJ : Hid (V1[j]? = some (.slice ua (M j).length uc)) := hu
                  have XJ : Hid (∃ x, L[j]? = some x ∧ x.length = (M j).length) := ⟨M j, RQ.out.2 j (Nat.le_refl j) hj, rfl⟩
                  clear ho hcells r1 r2 r3 r4 r5 r6 r7 hu hv
                  generalize strOfNums (M j) = sx at *
                  generalize (M j).length = q at *
                  go_wp2_with fail
                  go_quiet (fail)
                  go_wp2_with fail
                  go_loopg [82] q (fun gg kv wq => ∃ (k : Nat) (L : List (List Int)), k ≤ q ∧ gg = q - k ∧ kv = .int .i64 (k : Int) ∧ Hid (Rws wq w.heap.size (.slice (some ⟨gi, 0, none⟩) len vc) V1 L ∧ (∀ k, j + 1 ≤ k → k < len → L[k]? = some (M k)) ∧ ∃ x, L[j]? = some x ∧ x.length = q) ∧ Hid (Below w.heap.size w wq))
                  case atStart => exact ⟨0, L, by omega, rfl, rfl, ⟨RQ.out.1.keep ⟨rfl, rfl, rfl, Nat.le_refl _, fun _ _ => rfl⟩, fun k hk hkm => RQ.out.2 k (by omega) hkm, XJ.out⟩, SQ.out.trans ⟨rfl, rfl, rfl, Nat.le_refl _, fun _ _ => rfl⟩⟩
                  case round =>
                    clear k1 k2 cv1 cv2 XJ RQ SQ
                    obtain ⟨k, L2, hkq, rfl, rfl, RQ, SQ⟩ := hrel
                    have k1 : wr.cell? ⟨gi, j, none⟩ = some (.slice ua q uc) := by
                      have hr : wr.ownsRow w.heap.size 35 1 (.slice (some ⟨gi, 0, none⟩) len vc) len V1 := by have h := RQ.out.1.row; rw [V1L.out] at h; exact h
                      rw [World.ownsRow.cellAt hr j (by omega)]
                      exact UJ.out
                    by_cases hk : k < q
                    · have f2 : decide ((k : Int) < (q : Int)) = true := by rw [decide_eq_true_eq]; omega
                      obtain ⟨x, hx, hxl⟩ := RQ.out.2.2
                      have ho := RQ.out.1.own j _ x UJ.out hx
                      obtain ⟨gu, rfl⟩ : ∃ g, ua = some ⟨g, 0, none⟩ := by
                        rcases ho.2 with ⟨_, h0⟩ | ⟨g, c', cur, e, _⟩
                        · omega
                        · injection e with e1 e2 e3
                          exact ⟨g, e1⟩
                      have hro : wr.ownsRow w.heap.size 5 1 (.slice (some ⟨gu, 0, none⟩) q uc) q (x.map (Value.int .u8)) := by
                        have h := ho
                        unfold Owned at h
                        rw [hxl] at h
                        exact h
                      have hgb : w.heap.size ≤ gu := (World.ownsRow.lt hro gu rfl).1
                      obtain ⟨x0, hx0⟩ : ∃ y, x[k]? = some y := ⟨_, List.getElem?_eq_getElem (by omega)⟩
                      have kc : wr.cell? ⟨gu, k, none⟩ = some (.int .u8 x0) := by
                        rw [World.ownsRow.cellAt hro k (by omega), List.getElem?_map, hx0]
                        rfl
                      have hfz : wr.frozen? ⟨gu, k, none⟩ = false := World.ownsRow.frozenAt (n := q) hro k
                      have rk : IntKind.i64.wrap ((k : Int) + 1) = (k : Int) + 1 := by rw [IntKind.wrap_i64]; have := Q9.out; omega
                      have IS : ∀ y, Hid (Rws (wr.setCell ⟨gu, k, none⟩ (.int .u8 y)) w.heap.size (.slice (some ⟨gi, 0, none⟩) len vc) V1 (L2.set j (x.set k y)) ∧ (∀ k', j + 1 ≤ k' → k' < len → (L2.set j (x.set k y))[k']? = some (M k')) ∧ ∃ x', (L2.set j (x.set k y))[j]? = some x' ∧ x'.length = q) := fun y => ⟨RQ.out.1.set j x UJ.out hx hxl k y, fun k' h1 h2 => by rw [List.getElem?_set_ne (by omega)]; exact RQ.out.2.1 k' h1 h2, _, List.getElem?_set_self (List.getElem?_eq_some_iff.1 hx).1, by rw [List.length_set]; exact hxl⟩
                      have SS : ∀ y, Hid (Below w.heap.size w (wr.setCell ⟨gu, k, none⟩ (.int .u8 y))) := fun y => SQ.out.setCell hgb _
                      clear ho hro hx hxl hx0 hgb
                      go_wp2_with fail
                      go_roundg (q - (k + 1))
                      case measure => omega
                      case rel => exact ⟨k + 1, _, by omega, rfl, by simp, IS _, SS _⟩
                    · have f2 : decide ((k : Int) < (q : Int)) = false := by rw [decide_eq_false_iff_not]; omega
                      go_wp2_with fail
                      go_roundg (len - (j + 1))
                      case measure => omega
                      case rel => exact ⟨j + 1, L2, by omega, rfl, by simp, ⟨RQ.out.1, RQ.out.2.1⟩, SQ⟩
                · have f1 : decide ((j : Int) < (len : Int)) = false := by rw [decide_eq_false_iff_not]; omega
                  clear RQ
                  go_wp2_with fail
                  go_loopg [13] 0 (fun gg iv wr => gg = 0 ∧ iv = .int .i64 0 ∧ Hid (Below w.heap.size w wr))
                  case atStart => exact ⟨rfl, rfl, SQ⟩
                  case round =>
                    obtain ⟨rfl, rfl, TW⟩ := hrel
                    clear SQ
                    by_cases h0 : len2 = 0
                    · have e1 : decide ((0 : Int) < (len2 : Int)) = false := by rw [decide_eq_false_iff_not]; omega
                      have hmk1 := HMK.out wr
                      go_wp2_with fail
                      refine (K1.out wr).mono ?_
                      rintro e w8 ⟨b1, rfl, KB1, hb1⟩
                      have B8 : Hid (Below w.heap.size w w8) := (TW.out).trans (hb1.mono (TW.out).size)
                      have KB2 : Hid (∀ W, Below w8.heap.size w8 W → Calls Try.prog 16 #[.pointer (some ⟨b1, 0, none⟩)] W fun e w' => e = .returned (.int .i64 1) ∧ w' = W) := KB1
                      have KB3 : Hid (Calls Try.prog 16 #[.pointer (some ⟨b1, 0, none⟩)] w8 fun e w' => e = .returned (.int .i64 1) ∧ w' = w8) := KB2.out w8 (Below.refl _ _)
                      clear KB1 hb1 hmk1
                      go_wp2_with fail
                      refine KB3.out.mono ?_
                      rintro e w10 ⟨rfl, rfl⟩
                      go_wp2_with fail
                      go_ret
                      exact ⟨rfl, B8.out⟩
                    · have e1 : decide ((0 : Int) < (len2 : Int)) = true := by rw [decide_eq_true_eq]; omega
                      have hmk1 := HMK.out wr
                      go_wp2_with fail
                      refine (K1.out wr).mono ?_
                      rintro e w8 ⟨b1, rfl, KB1, hb1⟩
                      have B8 : Hid (Below w.heap.size w w8) := (TW.out).trans (hb1.mono (TW.out).size)
                      have KB2 : Hid (∀ W, Below w8.heap.size w8 W → Calls Try.prog 16 #[.pointer (some ⟨b1, 0, none⟩)] W fun e w' => e = .returned (.int .i64 1) ∧ w' = W) := KB1
                      have KB3 : Hid (Calls Try.prog 16 #[.pointer (some ⟨b1, 0, none⟩)] w8 fun e w' => e = .returned (.int .i64 1) ∧ w' = w8) := KB2.out w8 (Below.refl _ _)
                      clear KB1 hb1 hmk1
                      go_wp2_with fail
                      refine KB3.out.mono ?_
                      rintro e w10 ⟨rfl, rfl⟩
                      go_wp2_with fail
                      go_ret
                      exact ⟨rfl, B8.out⟩
          · clear hin2
            go_wp2_with fail
            refine (of_bad va len vc hm wr).mono ?_
            rintro e w1 ⟨rfl, hw⟩
            obtain rfl := hw.symm
            clear hw
            go_wp2_with fail
            refine (rof_bad a len cap hm wr).mono ?_
            rintro e w2 ⟨rfl, hw⟩
            obtain rfl := hw.symm
            clear hw
            have RZ : Hid (Rws wr w.heap.size (.slice va len vc) V1 (firstM M len)) := RW.out.1
            have SZ : Hid (Below w.heap.size w wr) := BW.out
            clear RW BW hm
            go_wp2_with fail
            go_loopg [63] len (fun gg jv wq => ∃ (j : Nat) (L : List (List Int)), j ≤ len ∧ gg = len - j ∧ jv = .int .i64 (j : Int) ∧ Hid (Rws wq w.heap.size (.slice va len vc) V1 L ∧ ∀ k, j ≤ k → k < len → L[k]? = some (M k)) ∧ Hid (Below w.heap.size w wq))
            case atStart => exact ⟨0, firstM M len, by omega, rfl, rfl, ⟨RZ.out, fun k _ hk => firstM_at M len k hk⟩, SZ⟩
            case round =>
              obtain ⟨j, L, hjm, rfl, rfl, RQ, SQ⟩ := hrel
              clear SZ RZ
              by_cases hj : j < len
              · have f1 : decide ((j : Int) < (len : Int)) = true := by rw [decide_eq_true_eq]; omega
                have rj : IntKind.i64.wrap ((j : Int) + 1) = (j : Int) + 1 := by rw [IntKind.wrap_i64]; have := HL.out.1; omega
                obtain ⟨gi, rfl⟩ : ∃ g, va = some ⟨g, 0, none⟩ := by
                  rcases RQ.out.1.row.2 with ⟨_, h0⟩ | ⟨g, c', cur, e, _⟩
                  · have := V1L.out; omega
                  · injection e with e1 e2 e3
                    exact ⟨g, e1⟩
                obtain ⟨u, hu⟩ : ∃ u, V1[j]? = some u := ⟨_, List.getElem?_eq_getElem (by have := V1L.out; omega)⟩
                have ho := RQ.out.1.own j u (M j) hu (RQ.out.2 j (Nat.le_refl j) hj)
                obtain ⟨ua, uc, rfl, _⟩ := ho.slice
                have k1 : wr.cell? ⟨gi, j, none⟩ = some (.slice ua (M j).length uc) := by
                  have hr : wr.ownsRow w.heap.size 35 1 (.slice (some ⟨gi, 0, none⟩) len vc) len V1 := by have h := RQ.out.1.row; rw [V1L.out] at h; exact h
                  rw [World.ownsRow.cellAt hr j (by omega)]
                  exact hu
                obtain ⟨ib, off, rfl, hib, hcells⟩ := HI.out.1 (by omega)
                have k2 := (SQ.out.cell (p := ⟨ib, off + j, none⟩) hib).trans (hcells j hj)
                obtain ⟨r1, r2, r3, r4, r5, r6, r7⟩ := (HI.out.below SQ.out).2 j hj
                generalize hv : V j = v at *
                obtain ⟨ja, jl, jc⟩ := v
                simp only at k2 r1 r2
                have Q9 : Hid ((M j).length ≤ 140737488351232) := HR.out j hj
                have cv1 : ∀ q, (convert 35 9 (.slice ua (M j).length uc)).run Try.prog (wr.drewN q) = .ok (.string (strOfNums (M j))) (wr.drewN q) := fun q => conv_str (w := wr.drewN q) ho.holds.1 _ _ rfl
                have cv2 : ∀ q, (convert 35 9 (.slice ja jl jc)).run Try.prog (wr.drewN q) = .ok (.string (strOfNums (M j))) (wr.drewN q) := fun q => conv_str (w := wr.drewN q) r1 _ _ r2
                have UJ : Hid (V1[j]? = some (.slice ua (M j).length uc)) := hu
                have XJ : Hid (∃ x, L[j]? = some x ∧ x.length = (M j).length) := ⟨M j, RQ.out.2 j (Nat.le_refl j) hj, rfl⟩
                clear ho hcells r1 r2 r3 r4 r5 r6 r7 hu hv
                generalize strOfNums (M j) = sx at *
                generalize (M j).length = q at *
                go_wp2_with fail
                go_quiet (fail)
                go_wp2_with fail
                go_loopg [82] q (fun gg kv wq => ∃ (k : Nat) (L : List (List Int)), k ≤ q ∧ gg = q - k ∧ kv = .int .i64 (k : Int) ∧ Hid (Rws wq w.heap.size (.slice (some ⟨gi, 0, none⟩) len vc) V1 L ∧ (∀ k, j + 1 ≤ k → k < len → L[k]? = some (M k)) ∧ ∃ x, L[j]? = some x ∧ x.length = q) ∧ Hid (Below w.heap.size w wq))
                case atStart => exact ⟨0, L, by omega, rfl, rfl, ⟨RQ.out.1.keep ⟨rfl, rfl, rfl, Nat.le_refl _, fun _ _ => rfl⟩, fun k hk hkm => RQ.out.2 k (by omega) hkm, XJ.out⟩, SQ.out.trans ⟨rfl, rfl, rfl, Nat.le_refl _, fun _ _ => rfl⟩⟩
                case round =>
                  clear k1 k2 cv1 cv2 XJ RQ SQ
                  obtain ⟨k, L2, hkq, rfl, rfl, RQ, SQ⟩ := hrel
                  have k1 : wr.cell? ⟨gi, j, none⟩ = some (.slice ua q uc) := by
                    have hr : wr.ownsRow w.heap.size 35 1 (.slice (some ⟨gi, 0, none⟩) len vc) len V1 := by have h := RQ.out.1.row; rw [V1L.out] at h; exact h
                    rw [World.ownsRow.cellAt hr j (by omega)]
                    exact UJ.out
                  by_cases hk : k < q
                  · have f2 : decide ((k : Int) < (q : Int)) = true := by rw [decide_eq_true_eq]; omega
                    obtain ⟨x, hx, hxl⟩ := RQ.out.2.2
                    have ho := RQ.out.1.own j _ x UJ.out hx
                    obtain ⟨gu, rfl⟩ : ∃ g, ua = some ⟨g, 0, none⟩ := by
                      rcases ho.2 with ⟨_, h0⟩ | ⟨g, c', cur, e, _⟩
                      · omega
                      · injection e with e1 e2 e3
                        exact ⟨g, e1⟩
                    have hro : wr.ownsRow w.heap.size 5 1 (.slice (some ⟨gu, 0, none⟩) q uc) q (x.map (Value.int .u8)) := by
                      have h := ho
                      unfold Owned at h
                      rw [hxl] at h
                      exact h
                    have hgb : w.heap.size ≤ gu := (World.ownsRow.lt hro gu rfl).1
                    obtain ⟨x0, hx0⟩ : ∃ y, x[k]? = some y := ⟨_, List.getElem?_eq_getElem (by omega)⟩
                    have kc : wr.cell? ⟨gu, k, none⟩ = some (.int .u8 x0) := by
                      rw [World.ownsRow.cellAt hro k (by omega), List.getElem?_map, hx0]
                      rfl
                    have hfz : wr.frozen? ⟨gu, k, none⟩ = false := World.ownsRow.frozenAt (n := q) hro k
                    have rk : IntKind.i64.wrap ((k : Int) + 1) = (k : Int) + 1 := by rw [IntKind.wrap_i64]; have := Q9.out; omega
                    have IS : ∀ y, Hid (Rws (wr.setCell ⟨gu, k, none⟩ (.int .u8 y)) w.heap.size (.slice (some ⟨gi, 0, none⟩) len vc) V1 (L2.set j (x.set k y)) ∧ (∀ k', j + 1 ≤ k' → k' < len → (L2.set j (x.set k y))[k']? = some (M k')) ∧ ∃ x', (L2.set j (x.set k y))[j]? = some x' ∧ x'.length = q) := fun y => ⟨RQ.out.1.set j x UJ.out hx hxl k y, fun k' h1 h2 => by rw [List.getElem?_set_ne (by omega)]; exact RQ.out.2.1 k' h1 h2, _, List.getElem?_set_self (List.getElem?_eq_some_iff.1 hx).1, by rw [List.length_set]; exact hxl⟩
                    have SS : ∀ y, Hid (Below w.heap.size w (wr.setCell ⟨gu, k, none⟩ (.int .u8 y))) := fun y => SQ.out.setCell hgb _
                    clear ho hro hx hxl hx0 hgb
                    go_wp2_with fail
                    go_roundg (q - (k + 1))
                    case measure => omega
                    case rel => exact ⟨k + 1, _, by omega, rfl, by simp, IS _, SS _⟩
                  · have f2 : decide ((k : Int) < (q : Int)) = false := by rw [decide_eq_false_iff_not]; omega
                    go_wp2_with fail
                    go_roundg (len - (j + 1))
                    case measure => omega
                    case rel => exact ⟨j + 1, L2, by omega, rfl, by simp, ⟨RQ.out.1, RQ.out.2.1⟩, SQ⟩
              · have f1 : decide ((j : Int) < (len : Int)) = false := by rw [decide_eq_false_iff_not]; omega
                clear RQ
                go_wp2_with fail
                go_loopg [13] 0 (fun gg iv wr => gg = 0 ∧ iv = .int .i64 0 ∧ Hid (Below w.heap.size w wr))
                case atStart => exact ⟨rfl, rfl, SQ⟩
                case round =>
                  obtain ⟨rfl, rfl, TW⟩ := hrel
                  clear SQ
                  by_cases h0 : len2 = 0
                  · have e1 : decide ((0 : Int) < (len2 : Int)) = false := by rw [decide_eq_false_iff_not]; omega
                    have hmk1 := HMK.out wr
                    go_wp2_with fail
                    refine (K1.out wr).mono ?_
                    rintro e w8 ⟨b1, rfl, KB1, hb1⟩
                    have B8 : Hid (Below w.heap.size w w8) := (TW.out).trans (hb1.mono (TW.out).size)
                    have KB2 : Hid (∀ W, Below w8.heap.size w8 W → Calls Try.prog 16 #[.pointer (some ⟨b1, 0, none⟩)] W fun e w' => e = .returned (.int .i64 1) ∧ w' = W) := KB1
                    have KB3 : Hid (Calls Try.prog 16 #[.pointer (some ⟨b1, 0, none⟩)] w8 fun e w' => e = .returned (.int .i64 1) ∧ w' = w8) := KB2.out w8 (Below.refl _ _)
                    clear KB1 hb1 hmk1
                    go_wp2_with fail
                    refine KB3.out.mono ?_
                    rintro e w10 ⟨rfl, rfl⟩
                    go_wp2_with fail
                    go_ret
                    exact ⟨rfl, B8.out⟩
                  · have e1 : decide ((0 : Int) < (len2 : Int)) = true := by rw [decide_eq_true_eq]; omega
                    have hmk1 := HMK.out wr
                    go_wp2_with fail
                    refine (K1.out wr).mono ?_
                    rintro e w8 ⟨b1, rfl, KB1, hb1⟩
                    have B8 : Hid (Below w.heap.size w w8) := (TW.out).trans (hb1.mono (TW.out).size)
                    have KB2 : Hid (∀ W, Below w8.heap.size w8 W → Calls Try.prog 16 #[.pointer (some ⟨b1, 0, none⟩)] W fun e w' => e = .returned (.int .i64 1) ∧ w' = W) := KB1
                    have KB3 : Hid (Calls Try.prog 16 #[.pointer (some ⟨b1, 0, none⟩)] w8 fun e w' => e = .returned (.int .i64 1) ∧ w' = w8) := KB2.out w8 (Below.refl _ _)
                    clear KB1 hb1 hmk1
                    go_wp2_with fail
                    refine KB3.out.mono ?_
                    rintro e w10 ⟨rfl, rfl⟩
                    go_wp2_with fail
                    go_ret
                    exact ⟨rfl, B8.out⟩
end Go.Proofs.Ytibgfjnddhfgpaa
