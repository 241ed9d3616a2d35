/- kv.appendText, kv.appendChange, kv.isWrong, slices.ContainsFunc of changes. kv.change; how many keys a map has. A map of texts by their keys, as a plain function: what is at a key, a store, a delete, and a range in whatever order. kv.isWrong, slices.ContainsFunc of changes, kv.Encode. -/
import Derived.Test.YtcindeechmpalaaGreatMgKl12
import Derived.Test.YtcindeechmpalaaGreatMgKl3
import Derived.Deep.RegionHeld3
namespace Go.Proofs.YtcindeechmpalaaGreat
open Go.ChangeShapes Go.WideShapes Go.ChangeAt Go.RowKit Go.Deep
set_option linter.unusedVariables false
set_option linter.unusedSimpArgs false
set_option maxRecDepth 100000 in
set_option maxHeartbeats 4000000 in
theorem kText_is (t : ByteArray) (ht : t.size < 16384) (base : Nat) (v : Value) (A : List Int) (w : World) (ho : Owned w base v A) (hA : A.length ≤ 1000000) (hb : base ≤ w.heap.size) :
    Calls Tryz.prog 96 #[v, .string t] w fun e w' => ∃ v', e = .returned v' ∧ Owned w' base v' (A ++ tB t) ∧ Gr w w' v.ownBlock v'.ownBlock := by
  obtain ⟨a, c, rfl, _⟩ := ho.slice
  have HO : Hid (Owned w base (.slice a A.length c) A) := ho
  clear ho
  go_enter Tryz.func96, Tryz.ntmps96
  go_wp2_with fail
  refine (var_any (t.size : Nat) (by omega) (by omega) _).mono ?_
  rintro e w1 ⟨n, hsev, rfl, hw⟩
  obtain rfl := hw.symm
  clear hw
  have HV : Hid (varL n (t.size : Nat) = vk t.size) := vk_sev _ _ ht hsev
  have h9 := hsev.1
  have H1 : Hid (Holds (w.alloc (.cells ((varL n (t.size : Nat)).map (Value.int .u8)).toArray 5)) (some ⟨w.heap.size, 0, none⟩) (varL n (t.size : Nat))) := holds_laid _ _ _
  have hlv := varL_length n (t.size : Nat)
  have O1 : Hid (Owned (w.alloc (.cells ((varL n (t.size : Nat)).map (Value.int .u8)).toArray 5)) base (.slice a A.length c) A) := HO.out.alloc _
  have G1 : Hid (Gr w (w.alloc (.cells ((varL n (t.size : Nat)).map (Value.int .u8)).toArray 5)) (Value.ownBlock (.slice a A.length c)) (Value.ownBlock (.slice a A.length c))) := Gr.alloc _ _ _
  have hb1 : base ≤ (w.alloc (.cells ((varL n (t.size : Nat)).map (Value.int .u8)).toArray 5)).heap.size := by simp; omega
  clear HO hsev
  generalize (w.alloc (.cells ((varL n (t.size : Nat)).map (Value.int .u8)).toArray 5)) = w1 at *
  generalize varL n (t.size : Nat) = L at *
  go_wp2_with (first | (at_builtin; refine appB rfl (.tmp 5) (.tmp 9) rfl base _ A rfl O1.out (some ⟨w.heap.size, 0, none⟩) (n + 1) (n + 1) L rfl hlv H1.out (by simp) (by omega) hb1 ?_; intro v2 w2 ho2 hb2; have O2 : Hid (Owned w2 base v2 (A ++ L)) := ho2; have G2 : Hid (Gr w1 w2 (Value.ownBlock (.slice a A.length c)) v2.ownBlock) := hb2; clear ho2 hb2) | (at_builtin; refine appS rfl (.tmp 11) (.tmp 12) rfl base _ (A ++ L) rfl O2.out t rfl (by simp; omega) (by have := G2.out.1.size; omega) ?_; intro v3 w3 ho3 hb3; have O3 : Hid (Owned w3 base v3 (A ++ L ++ sN t)) := ho3; have G3 : Hid (Gr w2 w3 v2.ownBlock v3.ownBlock) := hb3; clear ho3 hb3))
  go_ret
  refine ⟨_, rfl, ?_, G1.out.trans (G2.out.trans G3.out)⟩
  unfold tB
  rw [← HV.out, ← List.append_assoc]
  exact O3.out
theorem one_holds (w : World) (x : Int) : Holds (w.alloc (.cells #[.int .u8 x] 5)) (some ⟨w.heap.size, 0, none⟩) [x] :=
  .inr ⟨w.heap.size, 0, rfl, fun i hi => by
    have hi' : i < 1 := hi
    obtain rfl : i = 0 := by omega
    rw [Nat.zero_add, cell_of_row _ _ 0 _ _ (0, 0) (heap_alloc_new w _)]
    rfl⟩
theorem lt_of_heapK {w : World} {k : Nat} {o : Obj} (h : w.heap[k]? = some o) : k < w.heap.size := (Array.getElem?_eq_some_iff.1 h).1
/-- append in a region -/
theorem appBw {w : World} {o : Oper} {act : Act} {K : Act → World → Prop} {Q : Exit → Act → World → Prop} (s x : Operand)
    (ho : o.op = .call { callee := .builtin .append, args := #[s, x], argTypes := #[86, 86] })
    (base : Nat) (v : Value) (A : List Int) (hs : act.eval s = v) (hown : Owned w base v A)
    (a : Option Addr) (m c : Nat) (L : List Int) (hx : act.eval x = .slice a m c) (hm : L.length = m) (hh : Holds w a L) (hc : a = none → c = 0) (hN : A.length + m ≤ 100000000000000) (hbase : base ≤ w.heap.size)
    (h : ∀ v' w', Owned w' base v' (A ++ L) → Gr w w' v.ownBlock v'.ownBlock → K (act.put o.dst v') w') : o.wp Tryz.prog act w K Q := by
  obtain ⟨v', w', hr, h2, h3, h4⟩ := appB_run base v A hown a m c L hm hh hc hN hbase o.type
  unfold Oper.wp execOp
  simp only [ho, resolve, invoke, builtin, Sem.run_bind, Sem.run_pure, Result.andThen_ok, List.map_toArray, List.map_cons, List.map_nil, hs, hx, hr]
  refine h v' w' h2 ⟨h3, ?_⟩
  rcases h4 with e | e
  · exact .inl e
  · exact .inr ⟨_, e, Nat.le_refl _⟩
theorem Gr.keepB {w w' : World} {r r' : Option Nat} {base : Nat} (h : Gr w w' r r') (hr : ∀ k, r = some k → base ≤ k) (hb : base ≤ w.heap.size) : ∀ k, r' = some k → base ≤ k := by
  intro k hk
  rcases h.2 with e | ⟨q, e, hq⟩
  · exact hr k (by rw [← e]; exact hk)
  · rw [e] at hk
    have := Option.some.inj hk
    omega
-- REST
set_option maxRecDepth 100000 in
set_option maxHeartbeats 4000000 in
theorem kChange_is (x : Pt) (hx : badP x = false) (base : Nat) (v : Value) (A : List Int) (w : World) (ho : Owned w base v A) (hA : A.length ≤ 900000) (hb : base ≤ w.heap.size) :
    Calls Tryz.prog 63 #[v, .agg #[.string x.k, .string x.v, .bool x.g]] w fun e w' => ∃ v', e = .returned v' ∧ Owned w' base v' (A ++ cB x) ∧ Gr w w' v.ownBlock v'.ownBlock := by
  obtain ⟨h1, h2, h3, h4⟩ := badP_no hx
  have HK : Hid (x.k.size < 16384) := by show x.k.size < 16384; omega
  have HVs : Hid (x.v.size < 16384 ∧ x.v.size ≤ 1024 ∧ x.k.size ≤ 64) := ⟨by omega, by omega, by omega⟩
  obtain ⟨a, c, rfl, _⟩ := ho.slice
  obtain ⟨W1, hW1⟩ : ∃ W1, w.alloc (.cells (pC x) 45) = W1 := ⟨_, rfl⟩
  have W1E : Hid (w.alloc (.cells (pC x) 45) = W1) := hW1
  have HNE : Hid (Value.ownBlock (.slice a A.length c) ≠ some w.heap.size) := fun e => by have := (owned_own ho _ e).2; omega
  have HW1 : Hid (W1.heap.size = w.heap.size + 1) := by show _ = _; rw [← hW1]; simp
  have X1 : Hid (W1.heap[w.heap.size]? = some (.cells (pC x) 45)) := by show _ = _; rw [← hW1]; exact heap_alloc_new w _
  have O1 : Hid (Owned W1 base (.slice a A.length c) A) := by rw [← hW1]; exact ho.alloc _
  have HB1 : Hid (base ≤ W1.heap.size) := by show base ≤ _; rw [HW1.out]; omega
  have HG0 : Hid (Gr w W1 (Value.ownBlock (.slice a A.length c)) (Value.ownBlock (.slice a A.length c))) := by rw [← hW1]; exact Gr.alloc _ _ _
  have HCB : Hid (cB x = if x.g = true then 1 :: tB x.k else 0 :: (tB x.k ++ tB x.v)) := rfl
  clear ho hW1 hx h1 h2 h3 h4
  obtain ⟨q0, q1, q2⟩ := pc_cells X1.out
  go_enter Tryz.func63, Tryz.ntmps63
  by_cases hg : x.g = true
  · rw [hg] at q2
    have W1F : Hid (w.alloc (.cells #[.string x.k, .string x.v, .bool true] 45) = W1) := by have h := W1E.out; unfold pC at h; rw [hg] at h; exact h
    go_wp2_with fail
    rw [show World.alloc w _ = W1 from W1F.out]
    go_wp2_with fail
    clear q0 q1 q2

    refine wp_region_noPanic ?_
    refine wp_region_held_drew (S := (fun W : World => W.heap[w.heap.size]? = some (.cells (pC x) 45))) (by kernel_rfl) ?hSaa (fun hHeld => ?restaa)
    case hSaa => exact X1.out
    case restaa =>
    have OD : Hid (Owned (World.drew W1) base (.slice a A.length c) A) := O1.out
    have GD : Hid (Gr W1 (World.drew W1) (Value.ownBlock (.slice a A.length c)) (Value.ownBlock (.slice a A.length c))) := ⟨⟨rfl, rfl, rfl, Nat.le_refl _, fun _ _ _ => rfl⟩, .inl rfl⟩
    have hbD : base ≤ (World.drew W1).heap.size := HB1.out
    generalize World.drew W1 = u0 at hHeld OD GD hbD ⊢
    refine wpAnyH_take (i := 0) (v := .slice a A.length c) rfl (by kernel_rfl) (by kernel_rfl) (by kernel_rfl) (fun _ _ _ h => h) (Or.inl ⟨by kernel_rfl, ?hy0a⟩) hHeld ?rest0a
    case hy0a => (intro u hSu; obtain ⟨q0, q1, q2⟩ := pc_cells hSu; clear hSu; go_simp; try with_reducible rfl)
    try simp only [Act.put, List.setIfInBounds_toArray, List.set_cons_zero, List.set_cons_succ, List.getElem_toArray, List.getElem_cons_zero]
    refine wpAnyH_take (i := 3) (v := .pointer (some ⟨w.heap.size, 0, none⟩)) rfl (by kernel_rfl) (by kernel_rfl) (by kernel_rfl) (fun _ _ _ h => h) (Or.inl ⟨by kernel_rfl, ?hy3a⟩) hHeld ?rest3a
    case hy3a => (intro u hSu; obtain ⟨q0, q1, q2⟩ := pc_cells hSu; clear hSu; go_simp; try with_reducible rfl)
    try simp only [Act.put, List.setIfInBounds_toArray, List.set_cons_zero, List.set_cons_succ, List.getElem_toArray, List.getElem_cons_zero, List.getElem_cons_succ]
    refine wpAnyH_take (i := 4) (v := .string x.k) rfl (by kernel_rfl) (by kernel_rfl) (by kernel_rfl) (fun _ _ _ h => h) (Or.inl ⟨by kernel_rfl, ?hy4a⟩) hHeld ?rest4a
    case hy4a => (intro u hSu; obtain ⟨q0, q1, q2⟩ := pc_cells hSu; clear hSu; go_simp; try with_reducible rfl)
    try simp only [Act.put, List.setIfInBounds_toArray, List.set_cons_zero, List.set_cons_succ, List.getElem_toArray, List.getElem_cons_zero, List.getElem_cons_succ]
    obtain ⟨u1, hu1⟩ : ∃ u1, u0.alloc (.cells #[.int .u8 1] 5) = u1 := ⟨_, rfl⟩
    have U1E : Hid (u0.alloc (.cells #[.int .u8 1] 5) = u1) := hu1
    have O2 : Hid (Owned u1 base (.slice a A.length c) A) := by rw [← hu1]; exact OD.out.alloc _
    have G2 : Hid (Gr W1 u1 (Value.ownBlock (.slice a A.length c)) (Value.ownBlock (.slice a A.length c))) := by rw [← hu1]; exact GD.out.trans (Gr.alloc _ _ _)
    have H2 : Hid (Holds u1 (some ⟨u0.heap.size, 0, none⟩) [1]) := by rw [← hu1]; exact one_holds _ _
    have hb2 : base ≤ u1.heap.size := by rw [← hu1]; simp; omega
    have X2 : u1.heap[w.heap.size]? = some (.cells (pC x) 45) := by rw [← hu1]; exact (Below.heap_alloc _ _ _ (lt_of_heapK hHeld)).trans hHeld
    clear hu1
    refine wpAnyH_ready (rs := [1]) (by kernel_rfl) (by simp) ?_
    refine AllReadyH.cons rfl (fun K hK => ?_) AllReadyH.nil
    go_wp2_with fail
    rw [show World.alloc u0 _ = u1 from U1E.out]
    refine hK.out _ _ ?hS1a (fun hHeld => ?rest1a)
    case hS1a => exact X2
    clear hK K
    try simp only [Act.put, List.setIfInBounds_toArray, List.set_cons_zero, List.set_cons_succ, List.getElem_toArray, List.getElem_cons_zero, List.getElem_cons_succ]
    refine wpAnyH_ready (rs := [2]) (by kernel_rfl) (by simp) ?_
    refine AllReadyH.cons rfl (fun K hK => ?_) AllReadyH.nil
    refine appBw (.tmp 7) (.tmp 8) rfl base (.slice a A.length c) A rfl O2.out (some ⟨u0.heap.size, 0, none⟩) 1 1 [1] rfl rfl H2.out (by simp) (by omega) hb2 ?_
    intro v3 u3 ho3 hg3
    have O3 : Hid (Owned u3 base v3 (A ++ [1])) := ho3
    have G3 : Hid (Gr W1 u3 (Value.ownBlock (.slice a A.length c)) v3.ownBlock) := G2.out.trans hg3
    have X3 : u3.heap[w.heap.size]? = some (.cells (pC x) 45) := (hg3.block _ (lt_of_heapK X2) (fun e => HNE.out e)).trans X2
    have hb3 : base ≤ u3.heap.size := Nat.le_trans hb2 hg3.1.size
    clear ho3 hg3
    refine hK.out _ _ ?hS2a (fun hHeld => ?rest2a)
    case hS2a => exact X3
    clear hK K
    try simp only [Act.put, List.setIfInBounds_toArray, List.set_cons_zero, List.set_cons_succ, List.getElem_toArray, List.getElem_cons_zero, List.getElem_cons_succ]
    refine wpAnyH_ready (rs := [5]) (by kernel_rfl) (by simp) ?_
    refine AllReadyH.cons rfl (fun K hK => ?_) AllReadyH.nil
    go_simp
    refine (kText_is x.k HK.out base v3 (A ++ [1]) u3 O3.out (by simp; omega) hb3).mono ?_
    rintro e u4 ⟨v4, rfl, ho4, hg4⟩
    have O4 : Hid (Owned u4 base v4 (A ++ [1] ++ tB x.k)) := ho4
    have G4 : Hid (Gr W1 u4 (Value.ownBlock (.slice a A.length c)) v4.ownBlock) := G3.out.trans hg4
    have N3 : v3.ownBlock ≠ some w.heap.size := fun e => by
      rcases G3.out.2 with h | ⟨q, h, hq⟩
      · exact HNE.out (by rw [← h]; exact e)
      · rw [h] at e
        have := Option.some.inj e
        have := HW1.out
        omega
    have X4 : u4.heap[w.heap.size]? = some (.cells (pC x) 45) := (hg4.block _ (lt_of_heapK X3) N3).trans X3
    have hb4 : base ≤ u4.heap.size := Nat.le_trans hb3 hg4.1.size
    clear ho4 hg4
    go_wp2_with fail
    refine hK.out _ _ ?hS5a (fun hHeld => ?rest5a)
    case hS5a => exact X4
    clear hK K
    try simp only [Act.put, List.setIfInBounds_toArray, List.set_cons_zero, List.set_cons_succ, List.getElem_toArray, List.getElem_cons_zero, List.getElem_cons_succ]
    refine wpAnyH_take (i := 6) (v := v4) rfl (by kernel_rfl) (by kernel_rfl) (by kernel_rfl) (fun _ _ _ h => h) (Or.inl ⟨by kernel_rfl, ?hy6a⟩) hHeld ?rest6a
    case hy6a => (intro u hSu; obtain ⟨q0, q1, q2⟩ := pc_cells hSu; clear hSu; go_simp; try with_reducible rfl)
    try simp only [Act.put, List.setIfInBounds_toArray, List.set_cons_zero, List.set_cons_succ, List.getElem_toArray, List.getElem_cons_zero, List.getElem_cons_succ]
    refine wpAnyH_done (by kernel_rfl) ?_ _
    refine NoPanic.normal ?_
    go_wp2_with fail
    go_ret
    refine ⟨_, rfl, ?_, HG0.out.trans G4.out⟩
    have e := O4.out
    rw [List.append_assoc] at e
    rw [HCB.out, if_pos hg]
    exact e
  · have hgf : x.g = false := by simpa using hg
    rw [hgf] at q2
    have W1F : Hid (w.alloc (.cells #[.string x.k, .string x.v, .bool false] 45) = W1) := by have h := W1E.out; unfold pC at h; rw [hgf] at h; exact h
    go_wp2_with fail
    rw [show World.alloc w _ = W1 from W1F.out]
    go_wp2_with fail
    clear q0 q1 q2

    refine wp_region_noPanic ?_
    refine wp_region_held_drew (S := (fun W : World => W.heap[w.heap.size]? = some (.cells (pC x) 45))) (by kernel_rfl) ?hSab (fun hHeld => ?restab)
    case hSab => exact X1.out
    case restab =>
    have OD : Hid (Owned (World.drew W1) base (.slice a A.length c) A) := O1.out
    have GD : Hid (Gr W1 (World.drew W1) (Value.ownBlock (.slice a A.length c)) (Value.ownBlock (.slice a A.length c))) := ⟨⟨rfl, rfl, rfl, Nat.le_refl _, fun _ _ _ => rfl⟩, .inl rfl⟩
    have hbD : base ≤ (World.drew W1).heap.size := HB1.out
    generalize World.drew W1 = u0 at hHeld OD GD hbD ⊢
    refine wpAnyH_take (i := 0) (v := .slice a A.length c) rfl (by kernel_rfl) (by kernel_rfl) (by kernel_rfl) (fun _ _ _ h => h) (Or.inl ⟨by kernel_rfl, ?hy0b⟩) hHeld ?rest0b
    case hy0b => (intro u hSu; obtain ⟨q0, q1, q2⟩ := pc_cells hSu; clear hSu; go_simp; try with_reducible rfl)
    try simp only [Act.put, List.setIfInBounds_toArray, List.set_cons_zero, List.set_cons_succ, List.getElem_toArray, List.getElem_cons_zero]
    refine wpAnyH_take (i := 3) (v := .pointer (some ⟨w.heap.size, 0, none⟩)) rfl (by kernel_rfl) (by kernel_rfl) (by kernel_rfl) (fun _ _ _ h => h) (Or.inl ⟨by kernel_rfl, ?hy3b⟩) hHeld ?rest3b
    case hy3b => (intro u hSu; obtain ⟨q0, q1, q2⟩ := pc_cells hSu; clear hSu; go_simp; try with_reducible rfl)
    try simp only [Act.put, List.setIfInBounds_toArray, List.set_cons_zero, List.set_cons_succ, List.getElem_toArray, List.getElem_cons_zero, List.getElem_cons_succ]
    refine wpAnyH_take (i := 4) (v := .string x.k) rfl (by kernel_rfl) (by kernel_rfl) (by kernel_rfl) (fun _ _ _ h => h) (Or.inl ⟨by kernel_rfl, ?hy4b⟩) hHeld ?rest4b
    case hy4b => (intro u hSu; obtain ⟨q0, q1, q2⟩ := pc_cells hSu; clear hSu; go_simp; try with_reducible rfl)
    try simp only [Act.put, List.setIfInBounds_toArray, List.set_cons_zero, List.set_cons_succ, List.getElem_toArray, List.getElem_cons_zero, List.getElem_cons_succ]
    obtain ⟨u1, hu1⟩ : ∃ u1, u0.alloc (.cells #[.int .u8 0] 5) = u1 := ⟨_, rfl⟩
    have U1E : Hid (u0.alloc (.cells #[.int .u8 0] 5) = u1) := hu1
    have O2 : Hid (Owned u1 base (.slice a A.length c) A) := by rw [← hu1]; exact OD.out.alloc _
    have G2 : Hid (Gr W1 u1 (Value.ownBlock (.slice a A.length c)) (Value.ownBlock (.slice a A.length c))) := by rw [← hu1]; exact GD.out.trans (Gr.alloc _ _ _)
    have H2 : Hid (Holds u1 (some ⟨u0.heap.size, 0, none⟩) [0]) := by rw [← hu1]; exact one_holds _ _
    have hb2 : base ≤ u1.heap.size := by rw [← hu1]; simp; omega
    have X2 : u1.heap[w.heap.size]? = some (.cells (pC x) 45) := by rw [← hu1]; exact (Below.heap_alloc _ _ _ (lt_of_heapK hHeld)).trans hHeld
    clear hu1
    refine wpAnyH_ready (rs := [1]) (by kernel_rfl) (by simp) ?_
    refine AllReadyH.cons rfl (fun K hK => ?_) AllReadyH.nil
    go_wp2_with fail
    rw [show World.alloc u0 _ = u1 from U1E.out]
    refine hK.out _ _ ?hS1b (fun hHeld => ?rest1b)
    case hS1b => exact X2
    clear hK K
    try simp only [Act.put, List.setIfInBounds_toArray, List.set_cons_zero, List.set_cons_succ, List.getElem_toArray, List.getElem_cons_zero, List.getElem_cons_succ]
    refine wpAnyH_ready (rs := [2]) (by kernel_rfl) (by simp) ?_
    refine AllReadyH.cons rfl (fun K hK => ?_) AllReadyH.nil
    refine appBw (.tmp 13) (.tmp 14) rfl base (.slice a A.length c) A rfl O2.out (some ⟨u0.heap.size, 0, none⟩) 1 1 [0] rfl rfl H2.out (by simp) (by omega) hb2 ?_
    intro v3 u3 ho3 hg3
    have O3 : Hid (Owned u3 base v3 (A ++ [0])) := ho3
    have G3 : Hid (Gr W1 u3 (Value.ownBlock (.slice a A.length c)) v3.ownBlock) := G2.out.trans hg3
    have X3 : u3.heap[w.heap.size]? = some (.cells (pC x) 45) := (hg3.block _ (lt_of_heapK X2) (fun e => HNE.out e)).trans X2
    have hb3 : base ≤ u3.heap.size := Nat.le_trans hb2 hg3.1.size
    clear ho3 hg3
    refine hK.out _ _ ?hS2b (fun hHeld => ?rest2b)
    case hS2b => exact X3
    clear hK K
    try simp only [Act.put, List.setIfInBounds_toArray, List.set_cons_zero, List.set_cons_succ, List.getElem_toArray, List.getElem_cons_zero, List.getElem_cons_succ]
    refine wpAnyH_ready (rs := [5]) (by kernel_rfl) (by simp) ?_
    refine AllReadyH.cons rfl (fun K hK => ?_) AllReadyH.nil
    go_simp
    refine (kText_is x.k HK.out base v3 (A ++ [0]) u3 O3.out (by simp; omega) hb3).mono ?_
    rintro e u4 ⟨v4, rfl, ho4, hg4⟩
    have O4 : Hid (Owned u4 base v4 (A ++ [0] ++ tB x.k)) := ho4
    have G4 : Hid (Gr W1 u4 (Value.ownBlock (.slice a A.length c)) v4.ownBlock) := G3.out.trans hg4
    have N3 : v3.ownBlock ≠ some w.heap.size := fun e => by
      rcases G3.out.2 with h | ⟨q, h, hq⟩
      · exact HNE.out (by rw [← h]; exact e)
      · rw [h] at e
        have := Option.some.inj e
        have := HW1.out
        omega
    have X4 : u4.heap[w.heap.size]? = some (.cells (pC x) 45) := (hg4.block _ (lt_of_heapK X3) N3).trans X3
    have hb4 : base ≤ u4.heap.size := Nat.le_trans hb3 hg4.1.size
    clear ho4 hg4
    go_wp2_with fail
    refine hK.out _ _ ?hS5b (fun hHeld => ?rest5b)
    case hS5b => exact X4
    clear hK K
    try simp only [Act.put, List.setIfInBounds_toArray, List.set_cons_zero, List.set_cons_succ, List.getElem_toArray, List.getElem_cons_zero, List.getElem_cons_succ]
    refine wpAnyH_take (i := 6) (v := v4) rfl (by kernel_rfl) (by kernel_rfl) (by kernel_rfl) (fun _ _ _ h => h) (Or.inl ⟨by kernel_rfl, ?hy6b⟩) hHeld ?rest6b
    case hy6b => (intro u hSu; obtain ⟨q0, q1, q2⟩ := pc_cells hSu; clear hSu; go_simp; try with_reducible rfl)
    try simp only [Act.put, List.setIfInBounds_toArray, List.set_cons_zero, List.set_cons_succ, List.getElem_toArray, List.getElem_cons_zero, List.getElem_cons_succ]
    refine wpAnyH_done (by kernel_rfl) ?_ _
    refine NoPanic.normal ?_
    obtain ⟨q0, q1, q2⟩ := pc_cells hHeld
    go_wp2_with fail
    refine (kText_is x.v HVs.out.1 base v4 (A ++ [0] ++ tB x.k) _ O4.out (by rw [List.length_append, List.length_append, tB_len]; have := (vk_len x.k.size).2; have := HVs.out; simp; omega) hb4).mono ?_
    rintro e u5 ⟨v5, rfl, ho5, hg5⟩
    have O5 : Hid (Owned u5 base v5 (A ++ [0] ++ tB x.k ++ tB x.v)) := ho5
    have G5 : Hid (Gr W1 u5 (Value.ownBlock (.slice a A.length c)) v5.ownBlock) := G4.out.trans hg5
    clear ho5 hg5
    go_wp2_with fail
    go_ret
    refine ⟨_, rfl, ?_, HG0.out.trans G5.out⟩
    have e := O5.out
    rw [HCB.out, if_neg hg]
    simp only [List.append_assoc, List.singleton_append, List.cons_append, List.nil_append] at e ⊢
    exact e
end Go.Proofs.YtcindeechmpalaaGreat
namespace Go.Proofs.YtcindeechmpalaaGreat
open Go.ChangeShapes Go.WideShapes Go.ChangeAt Go.RowKit Go.Deep Go.Maps
set_option linter.unusedVariables false
set_option linter.unusedSimpArgs false
/-- a change done -/
def ch1 (T : ByteArray → Option Pt) (x : Pt) : ByteArray → Option Pt := fun q => if q = x.k then (if x.g = true then none else some x) else T q
def chT (T : ByteArray → Option Pt) (l : List Pt) : ByteArray → Option Pt := l.foldl ch1 T
theorem chT_snoc (T : ByteArray → Option Pt) (l : List Pt) (x : Pt) : chT T (l ++ [x]) = ch1 (chT T l) x := by unfold chT; rw [List.foldl_append]; rfl
theorem chT_app (T : ByteArray → Option Pt) (l k : List Pt) : chT T (l ++ k) = chT (chT T l) k := by unfold chT; rw [List.foldl_append]
theorem nodup_le {A : Type} [DecidableEq A] : ∀ (l k : List A), l.Nodup → (∀ x ∈ l, x ∈ k) → l.length ≤ k.length
  | [], _, _, _ => Nat.zero_le _
  | x :: l, k, h, hs => by
    obtain ⟨h1, h2⟩ := List.nodup_cons.1 h
    have hx := hs x (by simp)
    have ih := nodup_le l (k.erase x) h2 (fun y hy => (List.mem_erase_of_ne (fun e => h1 (by rw [← e]; exact hy))).2 (hs y (by simp [hy])))
    rw [List.length_erase_of_mem hx] at ih
    have : 0 < k.length := List.length_pos_of_mem hx
    simp only [List.length_cons]
    omega
theorem pw_monoK {A : Type} {R S : A → A → Prop} : ∀ {l : List A}, (∀ a b, a ∈ l → b ∈ l → R a b → S a b) → l.Pairwise R → l.Pairwise S
  | [], _, _ => List.Pairwise.nil
  | x :: l, h, hp => by
    obtain ⟨h1, h2⟩ := List.pairwise_cons.1 hp
    exact List.pairwise_cons.2 ⟨fun y hy => h x y (by simp) (by simp [hy]) (h1 y hy), pw_monoK (fun a b ha hb => h a b (by simp [ha]) (by simp [hb])) h2⟩
/-- a list of just the keys of a map -/
def Ks (T : ByteArray → Option Pt) (l : List ByteArray) : Prop := l.Nodup ∧ ∀ k, (T k).isSome = true ↔ k ∈ l
def keyK' : Lit → ByteArray
  | .string p => ⟨p.toArray⟩
  | _ => ⟨#[]⟩
theorem keyK'_dL (p : ByteArray) : keyK' (.string (dL p)) = p := by
  unfold keyK' dL
  cases p
  simp
theorem pm_exact {w : World} {b n : Nat} {T : ByteArray → Option Pt} (h : Pm w b n T) (l : List ByteArray) (hl : Ks T l) : ∃ D, w.ownsMap Tryz.prog 9 pR b n D ∧ Maps.size D = l.length := by
  obtain ⟨D, h1, h2⟩ := h
  have ht := h1.tidy lawK
  have H1 := h1
  obtain ⟨es, clock, hb, F, hn, hD⟩ := h1
  obtain ⟨kvs, hk, hap⟩ := ht
  have hkd : kvs = (es.toList.map (Go.WideElems.rg Tryz.prog 9 pR)).foldr DataW.insert [] := by
    rw [hD] at hk
    injection hk with e
    exact e.symm
  have hkey : ∀ kv ∈ kvs, kv.1 = .string (dL (keyK' kv.1)) := fun kv hkv => by
    rw [hkd, mem_sorted, List.mem_map] at hkv
    obtain ⟨x, hx, rfl⟩ := hkv
    obtain ⟨y, hy⟩ := F.reads x hx
    have e : Go.WideElems.rg Tryz.prog 9 pR x = y := Go.WideElems.rg_of hy
    rw [e]
    obtain ⟨p, _, hp⟩ := keyK_inv (Go.WideElems.rd_key hy)
    rw [hp, keyK'_dL]
  have hin : ∀ kv ∈ kvs, (T (keyK' kv.1)).isSome = true := fun kv hkv => by
    rw [← (h2 (keyK' kv.1)).1, hk, Maps.has_eq, List.any_eq_true]
    refine ⟨kv, hkv, ?_⟩
    rw [hkey kv hkv, keyK'_dL, strike_k]
    simp
  have hall : ∀ q, (T q).isSome = true → q ∈ kvs.map (fun kv => keyK' kv.1) := fun q hq => by
    rw [← (h2 q).1, hk, Maps.has_eq, List.any_eq_true] at hq
    obtain ⟨kv, hkv, hs⟩ := hq
    rw [List.mem_map]
    refine ⟨kv, hkv, ?_⟩
    rw [hkey kv hkv, strike_k] at hs
    simpa using hs
  have hnd : (kvs.map (fun kv => keyK' kv.1)).Nodup := by
    rw [List.Nodup, List.pairwise_map]
    refine pw_monoK (fun a b ha hb' hne e => hne ?_) hap
    rw [hkey a ha, hkey b hb', e]
  refine ⟨D, H1, ?_⟩
  rw [hk, Maps.size_eq]
  have a1 := nodup_le (kvs.map (fun kv => keyK' kv.1)) l hnd (fun x hx => by
    obtain ⟨kv, hkv, rfl⟩ := List.mem_map.1 hx
    exact (hl.2 _).1 (hin kv hkv))
  have a2 := nodup_le l (kvs.map (fun kv => keyK' kv.1)) hl.1 (fun x hx => hall x ((hl.2 x).2 hx))
  rw [List.length_map] at a1 a2
  omega
/-- 'v, ok := m[k]' -/
theorem Pm.look2 {w : World} {b n : Nat} {T : ByteArray → Option Pt} (h : Pm w b n T) (p : ByteArray) (hp : p.size ≤ 140737488355328) : (Instr.lookup 65 (.map (some b)) (.string p) true).run Tryz.prog w = .ok (.tuple #[pA ((T p).getD noP), .bool (T p).isSome]) w := by
  obtain ⟨D, h1, h2⟩ := h
  obtain ⟨v, ps, hrun, hv⟩ := h1.look_ok lawK Tryz.underlying65 (zeroPt w) (pR_ag noP) (keyK p hp)
  obtain ⟨x, rfl, hx⟩ := pR_inv hv
  simp only [Prod.mk.injEq] at hx
  rw [h2.at p] at hx
  rw [pD_inj hx.1, ← (h2 p).1]
  exact hrun
set_option maxRecDepth 100000 in
set_option maxHeartbeats 4000000 in
theorem kSet_is (l : List Pt) (n : Nat) (hn : l.length = n) (hn2 : n ≤ 1000000) (hs : ∀ x ∈ l, x.k.size ≤ 140737488355328) (a : Option Addr) (c : Nat) (b N : Nat) (hN : N ≤ 1000000000) (T : ByteArray → Option Pt) (w : World) (hl : InP w a l) (hm : Pm w b N T) (hx : ∀ x, a = some x → l ≠ [] → x.block ≠ b) :
    Calls Tryz.prog 39 #[.map (some b), .slice a n c] w fun e w' => e = .returned (.tuple #[]) ∧ Pm w' b (N + n) (chT T l) ∧ w.grownBy w' (some b) := by
  have HL : Hid (InP w a l) := hl
  have HN : Hid (l.length = n) := hn
  have HM : Hid (Pm w b N T) := hm
  have HX : Hid (∀ x, a = some x → l ≠ [] → x.block ≠ b) := hx
  have HS : Hid (∀ x ∈ l, x.k.size ≤ 140737488355328) := hs
  clear hl hn hm hx hs
  go_enter Tryz.func39, Tryz.ntmps39
  go_wp2_with fail
  go_loopg [8] n (fun gg iv wr => ∃ j : Nat, j ≤ n ∧ gg = n - j ∧ iv = .int .i64 (j : Int) ∧ Hid (Pm wr b (N + j) (chT T (l.take j)) ∧ w.grownBy wr (some b)))
  case atStart => exact ⟨0, Nat.zero_le _, rfl, rfl, HM.out, ⟨rfl, rfl, rfl, Nat.le_refl _, fun _ _ _ => rfl⟩⟩
  case round =>
    obtain ⟨j, hj, rfl, rfl, RW⟩ := hrel
    by_cases hlt : j < n
    · have j1 : decide ((j : Int) < (n : Int)) = true := by rw [decide_eq_true_eq]; omega
      obtain ⟨x, hx⟩ : ∃ x, l[j]? = some x := ⟨l[j]'(by rw [HN.out]; exact hlt), by simp [HN.out, hlt]⟩
      obtain ⟨g, off, rfl, hgw, hpc⟩ := HL.out.at hx
      have hgb : g ≠ b := HX.out _ rfl (fun e => by rw [e] at hx; cases hx)
      obtain ⟨c0, c1, c2⟩ := hpc.kept (RW.out.2.block g hgw (fun e => hgb (Option.some.inj e)))
      have HTK : Hid (chT T (l.take (j + 1)) = ch1 (chT T (l.take j)) x) := by
        show _ = _
        obtain ⟨h1, h2⟩ := List.getElem?_eq_some_iff.1 hx
        rw [List.take_succ_eq_append_getElem h1, h2, chT_snoc]
      have ri : IntKind.i64.wrap ((j : Int) + 1) = (j : Int) + 1 := by rw [IntKind.wrap_i64]; omega
      have HXS : Hid (x.k.size ≤ 140737488355328) := HS.out x (List.mem_of_getElem? hx)
      clear hx hpc hgb
      obtain ⟨xk, xv, xg⟩ := x
      simp only at c0 c1 c2 HXS
      have hxs : xk.size ≤ 140737488355328 := HXS.out
      obtain ⟨u1, hu1⟩ : ∃ u1, wr.alloc (.cells #[.string xk, .string xv, .bool xg] 45) = u1 := ⟨_, rfl⟩
      have M1 : Hid (Pm u1 b (N + j) (chT T (l.take j))) := by rw [← hu1]; exact RW.out.1.keep (below1 _ _)
      have G1 : Hid (w.grownBy u1 (some b)) := by
        have a1 := RW.out.2
        have a2 := below1 wr (.cells #[.string xk, .string xv, .bool xg] 45)
        rw [hu1] at a2
        exact ⟨a2.os.trans a1.os, a2.tape.trans a1.tape, a2.output.trans a1.output, Nat.le_trans a1.size a2.size, fun k hk hr => (a2.block k (Nat.lt_of_lt_of_le hk a1.size)).trans (a1.block k hk hr)⟩
      have X1 : u1.heap[wr.heap.size]? = some (.cells (pC ⟨xk, xv, xg⟩) 45) := by rw [← hu1]; exact heap_alloc_new wr _
      obtain ⟨r0, r1, r2⟩ := pc_cells X1
      simp only at r0 r1 r2
      have U1E : Hid (wr.alloc (.cells #[.string xk, .string xv, .bool xg] 45) = u1) := hu1
      clear RW X1 hu1 r0 r1 r2
      cases xg
      · go_wp2_with (first | (at_mapUpdate; rw [show World.alloc wr _ = u1 from U1E.out]; refine wpList_put_pm rfl (.tmp 17) (.tmp 19) (.tmp 20) rfl b (N + j) _ rfl M1.out (by omega) xk hxs ⟨xk, xv, false⟩ rfl rfl ?_; intro w7 hs7 hg7; have S7 : Hid (Pm w7 b (N + j + 1) (fun q => if q = xk then some ⟨xk, xv, false⟩ else chT T (l.take j) q) ∧ u1.grownBy w7 (some b)) := ⟨hs7, hg7⟩; clear hs7 hg7))
        have RW9 : Hid (Pm w7 b (N + (j + 1)) (chT T (l.take (j + 1))) ∧ w.grownBy w7 (some b)) := by
          have a1 := G1.out
          have a2 := S7.out.2
          refine ⟨?_, ⟨a2.os.trans a1.os, a2.tape.trans a1.tape, a2.output.trans a1.output, Nat.le_trans a1.size a2.size, fun k hk hr => (a2.block k (Nat.lt_of_lt_of_le hk a1.size) hr).trans (a1.block k hk hr)⟩⟩
          rw [HTK.out]
          exact S7.out.1
        go_roundg (n - (j + 1))
        case measure => omega
        case rel => exact ⟨j + 1, by omega, rfl, by simp, RW9⟩
      · go_wp2_with (first | (at_delete; rw [show World.alloc wr _ = u1 from U1E.out]; refine wpList_del_pm rfl (.tmp 14) (.tmp 16) rfl b (N + j) _ rfl M1.out xk hxs rfl ?_; intro w7 hs7 hg7; have S7 : Hid (Pm w7 b (N + j) (fun q => if q = xk then none else chT T (l.take j) q) ∧ u1.grownBy w7 (some b)) := ⟨hs7, hg7⟩; clear hs7 hg7))
        have RW9 : Hid (Pm w7 b (N + (j + 1)) (chT T (l.take (j + 1))) ∧ w.grownBy w7 (some b)) := by
          have a1 := G1.out
          have a2 := S7.out.2
          refine ⟨?_, ⟨a2.os.trans a1.os, a2.tape.trans a1.tape, a2.output.trans a1.output, Nat.le_trans a1.size a2.size, fun k hk hr => (a2.block k (Nat.lt_of_lt_of_le hk a1.size) hr).trans (a1.block k hk hr)⟩⟩
          rw [HTK.out]
          exact S7.out.1.mono (by omega)
        go_roundg (n - (j + 1))
        case measure => omega
        case rel => exact ⟨j + 1, by omega, rfl, by simp, RW9⟩
    · have j1 : decide ((j : Int) < (n : Int)) = false := by rw [decide_eq_false_iff_not]; omega
      have HF : Hid (Pm wr b (N + n) (chT T l) ∧ w.grownBy wr (some b)) := by
        have q := RW.out.1
        rw [List.take_of_length_le (by have := HN.out; omega)] at q
        exact ⟨q.mono (by omega), RW.out.2⟩
      go_wp2_with fail
      go_end0
      exact ⟨rfl, HF.out⟩
end Go.Proofs.YtcindeechmpalaaGreat
namespace Go.Proofs.YtcindeechmpalaaGreat
open Go.ChangeShapes Go.WideShapes Go.ChangeAt Go.RowKit Go.Deep Go.Maps
set_option linter.unusedVariables false
def sA (x : ByteArray) : Value := .string x
/-- what a text reads as -/
def sD (x : ByteArray) : DataW Unit := .lit (.string (dL x))
def sR : Value → Option (DataW Unit × List MemPlace)
  | .string k => some (.lit (.string (dL k)), [])
  | _ => none
theorem sR_ag (x : ByteArray) : sR (sA x) = some (sD x, []) := rfl
theorem sR_inv {v : Value} {z : DataW Unit × List MemPlace} (h : sR v = some z) : ∃ x : ByteArray, v = sA x ∧ z = (sD x, []) := by
  unfold sR at h
  split at h
  · rename_i k
    simp only [Option.some.injEq] at h
    exact ⟨k, rfl, h.symm⟩
  · simp at h
theorem sD_inj {x y : ByteArray} (h : sD x = sD y) : x = y := by
  simp [sD] at h
  exact dL_inj h
/-- a map's datum tells this function -/
def Sp (D : DataW Unit) (T : ByteArray → Option ByteArray) : Prop := ∀ p, Maps.has D (.string (dL p)) = (T p).isSome ∧ ∀ x, T p = some x → ∀ z, D.atKey (.string (dL p)) z = sD x
/-- block b is a map that tells this function, of at most n entries -/
def Sm (w : World) (b n : Nat) (T : ByteArray → Option ByteArray) : Prop := ∃ D, w.ownsMap Tryz.prog 9 sR b n D ∧ Sp D T
theorem zeroSt (w : World) : (zeroValue 9).run Tryz.prog w = .ok (sA ⟨#[]⟩) w := by kernel_rfl
theorem Sp.put {D : DataW Unit} {T : ByteArray → Option ByteArray} (h : Sp D T) (hm : IsMap D) (p : ByteArray) (x : ByteArray) : Sp (D.put (.string (dL p)) (sD x)) (fun q => if q = p then some x else T q) := by
  intro q
  by_cases hq : q = p
  · subst hq
    simp only [if_pos]
    refine ⟨by rw [has_put_same hm (k := .string (dL q)) trivial]; rfl, fun y hy z => ?_⟩
    cases hy
    exact atKey_put_same hm (k := .string (dL q)) trivial _ _
  · have hne : (Lit.string (dL q)) ≠ .string (dL p) := fun e => hq (dL_inj (by injection e))
    simp only [if_neg hq]
    refine ⟨by rw [has_put_other hne]; exact (h q).1, fun y hy z => ?_⟩
    rw [atKey_put_other hne]
    exact (h q).2 y hy z
theorem Sp.del {D : DataW Unit} {T : ByteArray → Option ByteArray} (h : Sp D T) (p : ByteArray) : Sp (D.del (.string (dL p))) (fun q => if q = p then none else T q) := by
  intro q
  by_cases hq : q = p
  · subst hq
    simp only [if_pos]
    exact ⟨by rw [has_del_same]; rfl, fun y hy => by cases hy⟩
  · have hne : (Lit.string (dL q)) ≠ .string (dL p) := fun e => hq (dL_inj (by injection e))
    simp only [if_neg hq]
    refine ⟨by rw [has_del_other hne]; exact (h q).1, fun y hy z => ?_⟩
    rw [atKey_del_other hne]
    exact (h q).2 y hy z
theorem Sp.at {D : DataW Unit} {T : ByteArray → Option ByteArray} (h : Sp D T) (p : ByteArray) : D.atKey (.string (dL p)) (sD ⟨#[]⟩) = sD ((T p).getD ⟨#[]⟩) := by
  cases hp : T p with
  | none =>
    have := (h p).1
    rw [hp] at this
    rw [atKey_of_not_has (by simpa using this)]
    rfl
  | some x => exact (h p).2 x hp _
theorem Sm.empty (w : World) : Sm (w.alloc (.map #[] 0)) w.heap.size 0 (fun _ => none) := ⟨.map [], World.ownsMap_made w _ _ _, fun p => ⟨rfl, fun x hx => by cases hx⟩⟩
theorem Sm.mono {w : World} {b n n' : Nat} {T : ByteArray → Option ByteArray} (h : Sm w b n T) (hn : n ≤ n') : Sm w b n' T := by
  obtain ⟨D, h1, h2⟩ := h
  exact ⟨D, h1.mono hn, h2⟩
theorem Sm.lt {w : World} {b n : Nat} {T : ByteArray → Option ByteArray} (h : Sm w b n T) : b < w.heap.size := by
  obtain ⟨D, h1, h2⟩ := h
  exact h1.lt
theorem Sm.kept {w w' : World} {b n : Nat} {T : ByteArray → Option ByteArray} {row : Option Nat} (h : Sm w b n T) (hg : w.grownBy w' row) (hne : some b ≠ row) : Sm w' b n T := by
  obtain ⟨D, h1, h2⟩ := h
  exact ⟨D, h1.kept hg hne, h2⟩
theorem Sm.keep {w w' : World} {b n : Nat} {T : ByteArray → Option ByteArray} (h : Sm w b n T) (hb : Below w.heap.size w w') : Sm w' b n T :=
  h.kept (row := none) ⟨hb.os, hb.tape, hb.output, hb.size, fun i hi _ => hb.block i hi⟩ (by simp)
/-- 'm[k]' -/
theorem Sm.look {w : World} {b n : Nat} {T : ByteArray → Option ByteArray} (h : Sm w b n T) (p : ByteArray) (hp : p.size ≤ 140737488355328) : (Instr.lookup 76 (.map (some b)) (.string p) false).run Tryz.prog w = .ok (sA ((T p).getD ⟨#[]⟩)) w := by
  obtain ⟨D, h1, h2⟩ := h
  obtain ⟨v, ps, hrun, hv⟩ := h1.lookup lawK Tryz.underlying76 (zeroSt w) (sR_ag ⟨#[]⟩) (keyK p hp)
  obtain ⟨x, rfl, hx⟩ := sR_inv hv
  simp only [Prod.mk.injEq] at hx
  rw [h2.at p] at hx
  rw [sD_inj hx.1]
  exact hrun
section
variable {ops : Array Oper} {rest : List Oper} {o : Oper} {a : Act} {Q : Exit → Act → World → Prop}
/-- 'm[k] = v' -/
theorem wpList_put_sm {w : World} (hg : o.guard = none) (m x v : Operand) (hop : o.op = Op.mapUpdate 76 m x v) (b n : Nat) (T : ByteArray → Option ByteArray) (hm : a.eval m = .map (some b)) (hs : Sm w b n T) (hn : n < 4611686018427387904) (p : ByteArray) (hp : p.size ≤ 140737488355328) (y : ByteArray) (hx : a.eval x = .string p) (hv : a.eval v = sA y)
    (hK : ∀ w', Sm w' b (n + 1) (fun q => if q = p then some y else T q) → w.grownBy w' (some b) → wpList Tryz.prog ops Q rest (a.put o.dst undef) w') : wpList Tryz.prog ops Q (o :: rest) a w := by
  obtain ⟨D, h1, h2⟩ := hs
  refine wpList_mapUpdate_own w hg m x v 76 hop 9 9 lawK Tryz.underlying76 sR b n D hm h1 (by unfold maxLen; omega) _ _ _ hx hv (keyK p hp) _ [] (sR_ag y) ?_
  intro w' ho hgr
  exact hK w' ⟨_, ho, h2.put h1.isMap p y⟩ hgr
/-- 'delete(m, k)' -/
theorem wpList_del_sm {w : World} (hg : o.guard = none) (m x : Operand) (hop : o.op = Op.call { callee := Callee.builtin Builtin.delete, args := #[m, x], argTypes := #[76, 9] }) (b n : Nat) (T : ByteArray → Option ByteArray) (hm : a.eval m = .map (some b)) (hs : Sm w b n T) (p : ByteArray) (hp : p.size ≤ 140737488355328) (hx : a.eval x = .string p)
    (hK : ∀ w', Sm w' b n (fun q => if q = p then none else T q) → w.grownBy w' (some b) → wpList Tryz.prog ops Q rest (a.put o.dst (.tuple #[])) w') : wpList Tryz.prog ops Q (o :: rest) a w := by
  obtain ⟨D, h1, h2⟩ := hs
  refine wpList_delete_own w hg m x 76 9 hop 9 lawK Tryz.underlying76 sR b n D hm h1 _ _ hx (keyK p hp) ?_
  intro w' ho ht
  exact hK w' ⟨_, ho, h2.del p⟩ ht.grown
end
/-- block r ranges over the map in block b; 'left' is still to come -/
def Sn (w : World) (b r n : Nat) (T : ByteArray → Option ByteArray) (left : ByteArray → Bool) (cnt : Nat) : Prop := ∃ D leftD, w.ranges Tryz.prog 9 sR b r n D leftD cnt ∧ Sp D T ∧ ∀ p, leftD (.string (dL p)) = left p
theorem Sn.pm {w : World} {b r n cnt : Nat} {T : ByteArray → Option ByteArray} {left : ByteArray → Bool} (h : Sn w b r n T left cnt) : Sm w b n T := by
  obtain ⟨D, l, h1, h2, _⟩ := h
  exact ⟨D, h1.owns, h2⟩
theorem Sn.ne {w : World} {b r n cnt : Nat} {T : ByteArray → Option ByteArray} {left : ByteArray → Bool} (h : Sn w b r n T left cnt) : r ≠ b := by
  obtain ⟨D, l, h1, h2, _⟩ := h
  exact h1.ne
theorem Sn.lt {w : World} {b r n cnt : Nat} {T : ByteArray → Option ByteArray} {left : ByteArray → Bool} (h : Sn w b r n T left cnt) : r < w.heap.size := by
  obtain ⟨D, l, h1, h2, _⟩ := h
  exact h1.lt
theorem Sn.left_eq {w : World} {b r n cnt : Nat} {T : ByteArray → Option ByteArray} {left : ByteArray → Bool} (h : Sn w b r n T left cnt) : w.rangeLeft b r = cnt := by
  obtain ⟨D, l, h1, h2, _⟩ := h
  exact h1.left_eq
theorem Sn.kept {w w' : World} {b r n cnt : Nat} {T : ByteArray → Option ByteArray} {left : ByteArray → Bool} {row : Option Nat} (h : Sn w b r n T left cnt) (hg : w.grownBy w' row) (hb : some b ≠ row) (hr : some r ≠ row) : Sn w' b r n T left cnt := by
  obtain ⟨D, l, h1, h2, h3⟩ := h
  exact ⟨D, l, h1.kept hg hb hr, h2, h3⟩
theorem Sn.keep {w w' : World} {b r n cnt : Nat} {T : ByteArray → Option ByteArray} {left : ByteArray → Bool} (h : Sn w b r n T left cnt) (hb : Below w.heap.size w w') : Sn w' b r n T left cnt :=
  h.kept (row := none) ⟨hb.os, hb.tape, hb.output, hb.size, fun i hi _ => hb.block i hi⟩ (by simp) (by simp)
section
variable {ops : Array Oper} {rest : List Oper} {o : Oper} {a : Act} {Q : Exit → Act → World → Prop}
/-- 'range m' -/
theorem wpList_range_sm {w : World} (hg : o.guard = none) (m : Operand) (hop : o.op = Op.range 76 m) (b n : Nat) (T : ByteArray → Option ByteArray) (hm : a.eval m = .map (some b)) (hs : Sm w b n T)
    (hK : ∀ w' cnt, Sn w' b w.heap.size n T (fun p => (T p).isSome) cnt → w.grownBy w' none → w'.heap.size = w.heap.size + 1 → wpList Tryz.prog ops Q rest (a.put o.dst (.pointer (some ⟨w.heap.size, 0, none⟩))) w') : wpList Tryz.prog ops Q (o :: rest) a w := by
  obtain ⟨D, h1, h2⟩ := hs
  refine wpList_range_own w hg m 76 hop 9 9 lawK Tryz.underlying76 sR b n D hm h1 ?_
  intro w' hr hgr hsz
  exact hK w' _ ⟨D, _, hr, h2, fun p => (h2 p).1⟩ hgr hsz
/-- the step -/
theorem wpList_next_sm {w : World} (hg : o.guard = none) (it : Operand) (hop : o.op = Op.next it false) (b r n : Nat) (T : ByteArray → Option ByteArray) (left : ByteArray → Bool) (cnt : Nat) (hit : a.eval it = .pointer (some ⟨r, 0, none⟩)) (h : Sn w b r n T left cnt)
    (hDone : cnt = 0 → (∀ q, left q = false) → wpList Tryz.prog ops Q rest (a.put o.dst (.tuple #[.bool false])) w)
    (hMore : ∀ (p : ByteArray) (x : ByteArray) (w' : World) (cnt' : Nat), p.size ≤ 9223372036854775807 → left p = true → T p = some x → Sn w' b r n T (fun q => left q && !decide (q = p)) cnt' → cnt' < cnt → w.grownBy w' (some r) → w'.heap.size = w.heap.size →
      (Instr.entry (.pointer (some ⟨r, 0, none⟩))).run Tryz.prog w' = .ok (.tuple #[.string p, sA x]) w' → wpList Tryz.prog ops Q rest (a.put o.dst (.tuple #[.bool true, .string p, sA x])) w') :
    wpList Tryz.prog ops Q (o :: rest) a w := by
  obtain ⟨D, l, h1, h2, h3⟩ := h
  refine wpList_next_ranges w hg it hop 9 lawK sR (fun p : ByteArray => Value.string p) sA (fun key kl hk => ?_) (fun v y hy => ?_) b r n D l cnt hit h1 ?_ ?_
  · obtain ⟨p, e, _⟩ := keyK_inv hk
    exact ⟨p, e⟩
  · obtain ⟨x, e, _⟩ := sR_inv hy
    exact ⟨x, e⟩
  · intro h0 hl
    exact hDone h0 (fun q => by rw [← h3]; exact hl _)
  · intro p x kl y w' cnt' hkey hlk hv hat hrg hlt hgr hsz hen
    obtain ⟨p', e1, rfl⟩ := keyK_inv hkey
    have hpp : p' = p := by
      have : p = p' := by injection e1
      exact this.symm
    subst hpp
    have hsz9 : p'.size ≤ 9223372036854775807 := by
      have := hkey
      simp only [keyOf, Tryz.underlying9, mapKey] at this
      split at this
      · rename_i hle
        simpa [maxLen] using hle
      · simp at this
    obtain ⟨x', e2, rfl⟩ := sR_inv hv
    have hT : T p' = some x := by
      have hs := (h2 p').1
      have hh : Maps.has D (.string (dL p')) = true := has_true_of_atKey (y := sD x') (fun z => hat z)
      rw [hh] at hs
      obtain ⟨x2, hx2⟩ := Option.isSome_iff_exists.1 hs.symm
      have := (h2 p').2 x2 hx2 (sD ⟨#[]⟩)
      rw [hat] at this
      have e3 := sD_inj this
      have e4 : x = x' := by
        have := sR_ag x
        rw [hv] at this
        simp only [Option.some.injEq, Prod.mk.injEq, and_true] at this
        exact (sD_inj this).symm
      rw [hx2, ← e3, e4]
    refine hMore p' x w' cnt' hsz9 (by rw [← h3]; exact hlk) hT ⟨D, _, hrg, h2, fun q => ?_⟩ hlt hgr hsz hen
    rw [h3, strike_k]
/-- 'delete(m, k)' in the round -/
theorem wpList_del_sr {w : World} (hg : o.guard = none) (m x : Operand) (hop : o.op = Op.call { callee := Callee.builtin Builtin.delete, args := #[m, x], argTypes := #[76, 9] }) (b r n : Nat) (T : ByteArray → Option ByteArray) (left : ByteArray → Bool) (cnt : Nat) (hm : a.eval m = .map (some b)) (h : Sn w b r n T left cnt) (p : ByteArray) (hp : p.size ≤ maxLen) (hx : a.eval x = .string p)
    (hK : ∀ w' cnt', Sn w' b r n (fun q => if q = p then none else T q) (fun q => left q && !decide (q = p)) cnt' → cnt' ≤ cnt → w.grownBy w' (some b) → wpList Tryz.prog ops Q rest (a.put o.dst (.tuple #[])) w') : wpList Tryz.prog ops Q (o :: rest) a w := by
  obtain ⟨D, l, h1, h2, h3⟩ := h
  have hkey : keyOf Tryz.prog 9 (.string p) = some (.string (dL p)) := by
    have := WideMaps.keyOf_string_mk (P := Tryz.prog) (k := 9) Tryz.underlying9 (s := p) hp
    exact this
  refine wpList_delete_ranges w hg m x 76 9 hop 9 lawK Tryz.underlying76 sR b r n D l cnt hm h1 _ _ hx hkey ?_
  intro w' cnt' hr hle ht
  refine hK w' cnt' ⟨_, _, hr, h2.del p, fun q => ?_⟩ hle ht.grown
  rw [h3, strike_k]
end
/-- a list of just the keys of a map -/
def Kt (T : ByteArray → Option ByteArray) (l : List ByteArray) : Prop := l.Nodup ∧ ∀ k, (T k).isSome = true ↔ k ∈ l
theorem sm_exact {w : World} {b n : Nat} {T : ByteArray → Option ByteArray} (h : Sm w b n T) (l : List ByteArray) (hl : Kt T l) : ∃ D, w.ownsMap Tryz.prog 9 sR b n D ∧ Maps.size D = l.length := by
  obtain ⟨D, h1, h2⟩ := h
  have ht := h1.tidy lawK
  have H1 := h1
  obtain ⟨es, clock, hb, F, hn, hD⟩ := h1
  obtain ⟨kvs, hk, hap⟩ := ht
  have hkd : kvs = (es.toList.map (Go.WideElems.rg Tryz.prog 9 sR)).foldr DataW.insert [] := by
    rw [hD] at hk
    injection hk with e
    exact e.symm
  have hkey : ∀ kv ∈ kvs, kv.1 = .string (dL (keyK' kv.1)) := fun kv hkv => by
    rw [hkd, mem_sorted, List.mem_map] at hkv
    obtain ⟨x, hx, rfl⟩ := hkv
    obtain ⟨y, hy⟩ := F.reads x hx
    have e : Go.WideElems.rg Tryz.prog 9 sR x = y := Go.WideElems.rg_of hy
    rw [e]
    obtain ⟨p, _, hp⟩ := keyK_inv (Go.WideElems.rd_key hy)
    rw [hp, keyK'_dL]
  have hin : ∀ kv ∈ kvs, (T (keyK' kv.1)).isSome = true := fun kv hkv => by
    rw [← (h2 (keyK' kv.1)).1, hk, Maps.has_eq, List.any_eq_true]
    refine ⟨kv, hkv, ?_⟩
    rw [hkey kv hkv, keyK'_dL, strike_k]
    simp
  have hall : ∀ q, (T q).isSome = true → q ∈ kvs.map (fun kv => keyK' kv.1) := fun q hq => by
    rw [← (h2 q).1, hk, Maps.has_eq, List.any_eq_true] at hq
    obtain ⟨kv, hkv, hs⟩ := hq
    rw [List.mem_map]
    refine ⟨kv, hkv, ?_⟩
    rw [hkey kv hkv, strike_k] at hs
    simpa using hs
  have hnd : (kvs.map (fun kv => keyK' kv.1)).Nodup := by
    rw [List.Nodup, List.pairwise_map]
    refine pw_monoK (fun a b ha hb' hne e => hne ?_) hap
    rw [hkey a ha, hkey b hb', e]
  refine ⟨D, H1, ?_⟩
  rw [hk, Maps.size_eq]
  have a1 := nodup_le (kvs.map (fun kv => keyK' kv.1)) l hnd (fun x hx => by
    obtain ⟨kv, hkv, rfl⟩ := List.mem_map.1 hx
    exact (hl.2 _).1 (hin kv hkv))
  have a2 := nodup_le l (kvs.map (fun kv => keyK' kv.1)) hl.1 (fun x hx => hall x ((hl.2 x).2 hx))
  rw [List.length_map] at a1 a2
  omega
/-- 'v, ok := m[k]' -/
theorem Sm.look2 {w : World} {b n : Nat} {T : ByteArray → Option ByteArray} (h : Sm w b n T) (p : ByteArray) (hp : p.size ≤ 140737488355328) : (Instr.lookup 76 (.map (some b)) (.string p) true).run Tryz.prog w = .ok (.tuple #[sA ((T p).getD ⟨#[]⟩), .bool (T p).isSome]) w := by
  obtain ⟨D, h1, h2⟩ := h
  obtain ⟨v, ps, hrun, hv⟩ := h1.look_ok lawK Tryz.underlying76 (zeroSt w) (sR_ag ⟨#[]⟩) (keyK p hp)
  obtain ⟨x, rfl, hx⟩ := sR_inv hv
  simp only [Prod.mk.injEq] at hx
  rw [h2.at p] at hx
  rw [sD_inj hx.1, ← (h2 p).1]
  exact hrun
theorem Sn.cnt_le {w : World} {b r n cnt : Nat} {T : ByteArray → Option ByteArray} {left : ByteArray → Bool} (h : Sn w b r n T left cnt) : cnt ≤ n := by
  obtain ⟨D, l, ⟨es, clock, since, seen, c0, hb, F, hs, hD, hr, hborn, hcnt, _⟩, h2, h3⟩ := h
  have : (leftOf es seen).size ≤ es.size := by
    unfold leftOf
    exact Array.size_filter_le
  omega
end Go.Proofs.YtcindeechmpalaaGreat
namespace Go.Proofs.YtcindeechmpalaaGreat
open Go.ChangeShapes Go.WideShapes Go.ChangeAt Go.RowKit Go.Deep
set_option linter.unusedVariables false
set_option linter.unusedSimpArgs false
/-- each text is short enough for any machine -/
def FitP (l : List Pt) : Prop := ∀ x ∈ l, x.k.size ≤ 140737488355328 ∧ x.v.size ≤ 140737488355328
theorem list_empty {s : ByteArray} (h : s.size ≠ 0) : ¬ s.toList = [] := by
  intro e
  apply h
  rw [← sN_len s]
  unfold sN
  rw [e]
  rfl
set_option maxRecDepth 100000 in
set_option maxHeartbeats 4000000 in
theorem kWrong_is (x : Pt) (hx : x.k.size ≤ 140737488355328 ∧ x.v.size ≤ 140737488355328) (w : World) :
    Calls Tryz.prog 61 #[.agg #[.string x.k, .string x.v, .bool x.g]] w fun e w' => e = .returned (.bool (badP x)) ∧ Below w.heap.size w w' := by
  obtain ⟨k, v, g⟩ := x
  have hB : Hid (Below w.heap.size w (w.alloc (.cells #[.string k, .string v, .bool g] 45))) := below1 _ _
  have HB : Hid (badP ⟨k, v, g⟩ = (decide (k.size = 0) || decide (64 < k.size) || decide ((if g = true then 0 else 1024) < v.size))) := rfl
  generalize badP ⟨k, v, g⟩ = r at *
  obtain ⟨hk, hv⟩ := hx
  simp only at hk hv
  by_cases h0 : k.size = 0
  · obtain rfl := no_bytes h0
    have HR : Hid (r = true) := by show _ = _; rw [HB.out]; rfl
    clear HB h0
    cases g
    · go_enter Tryz.func61, Tryz.ntmps61
      go_wp2_with fail
      go_ret
      exact ⟨by rw [HR.out]; rfl, hB.out⟩
    · go_enter Tryz.func61, Tryz.ntmps61
      go_wp2_with fail
      go_ret
      exact ⟨by rw [HR.out]; rfl, hB.out⟩
  · have e0 := list_empty h0
    by_cases h1 : 64 < k.size
    · have HR : Hid (r = true) := by show _ = _; rw [HB.out]; simp [h1]
      have e1 : decide (64 < (k.size : Int)) = true := by rw [decide_eq_true_eq]; omega
      clear HB
      cases g
      · go_enter Tryz.func61, Tryz.ntmps61
        go_wp2_with fail
        go_ret
        exact ⟨by rw [HR.out]; rfl, hB.out⟩
      · go_enter Tryz.func61, Tryz.ntmps61
        go_wp2_with fail
        go_ret
        exact ⟨by rw [HR.out]; rfl, hB.out⟩
    · have e1 : decide (64 < (k.size : Int)) = false := by rw [decide_eq_false_iff_not]; omega
      cases g
      · have HR : Hid (r = decide (1024 < (v.size : Int))) := by
          show _ = _
          rw [HB.out, decide_eq_false h0, decide_eq_false h1]
          simp
          constructor <;> intro h <;> omega
        clear HB
        go_enter Tryz.func61, Tryz.ntmps61
        go_wp2_with fail
        go_ret
        exact ⟨by rw [HR.out]; simp [e0], hB.out⟩
      · have HR : Hid (r = decide (0 < (v.size : Int))) := by
          show _ = _
          rw [HB.out, decide_eq_false h0, decide_eq_false h1]
          simp
        clear HB
        go_enter Tryz.func61, Tryz.ntmps61
        go_wp2_with fail
        go_ret
        exact ⟨by rw [HR.out]; simp [e0], hB.out⟩
set_option maxRecDepth 100000 in
set_option maxHeartbeats 4000000 in
theorem kIndex_is (l : List Pt) (n : Nat) (hn : l.length = n) (hn62 : n ≤ 4611686018427387904) (hf : FitP l) (a : Option Addr) (c : Nat) (w : World) (hl : InP w a l) :
    Calls Tryz.prog 94 #[.slice a n c, .func (.func 61) #[] #[]] w fun e w' => ∃ r : Int, e = .returned (.int .i64 r) ∧ decide (0 ≤ r) = l.any badP ∧ Below w.heap.size w w' := by
  have HF : Hid (FitP l) := hf
  have HL : Hid (InP w a l) := hl
  have HN : Hid (l.length = n) := hn
  have KW : Hid (∀ x ∈ l, ∀ W, Calls Tryz.prog 61 #[.agg #[.string x.k, .string x.v, .bool x.g]] W fun e w' => e = .returned (.bool (badP x)) ∧ Below W.heap.size W w') := fun x hx W => kWrong_is x (HF.out x hx) W
  clear hf hl hn
  go_enter Tryz.func94, Tryz.ntmps94
  go_wp2_with fail
  go_loopg [8] n (fun gg iv wr => ∃ j : Nat, j ≤ n ∧ gg = n - j ∧ iv = .int .i64 (j : Int) ∧ Hid (∀ i x, i < j → l[i]? = some x → badP x = false) ∧ Hid (Below w.heap.size w wr))
  case atStart => exact ⟨0, Nat.zero_le _, rfl, rfl, fun i x hi => by omega, Below.refl _ _⟩
  case round =>
    obtain ⟨j, hj, rfl, rfl, HA, HW⟩ := hrel
    by_cases hlt : j < n
    · have j1 : decide ((j : Int) < (n : Int)) = true := by rw [decide_eq_true_eq]; omega
      obtain ⟨x, hx⟩ : ∃ x, l[j]? = some x := ⟨l[j]'(by rw [HN.out]; exact hlt), by simp [HN.out, hlt]⟩
      have HX : Hid (l[j]? = some x) := hx
      obtain ⟨b, off, rfl, hbw, hpc⟩ := HL.out.at hx
      obtain ⟨c0, c1, c2⟩ := hpc.kept (HW.out.block b hbw)
      have K := KW.out x (List.mem_of_getElem? hx)
      have KX : Hid (∀ W, Calls Tryz.prog 61 #[.agg #[.string x.k, .string x.v, .bool x.g]] W fun e w' => e = .returned (.bool (badP x)) ∧ Below W.heap.size W w') := K
      have ri : IntKind.i64.wrap ((j : Int) + 1) = (j : Int) + 1 := by rw [IntKind.wrap_i64]; omega
      clear hx hpc K
      obtain ⟨xk, xv, xg⟩ := x
      simp only at c0 c1 c2 KX
      cases hb : badP ⟨xk, xv, xg⟩ with
      | true =>
        rw [hb] at KX
        have HR : Hid (l.any badP = true) := List.any_eq_true.2 ⟨_, List.mem_of_getElem? HX.out, hb⟩
        clear hb
        go_wp2_with (go_at_call 61; refine (KX.out _).mono ?_; rintro e w1 ⟨rfl, hb1⟩; have HW1 : Hid (Below w.heap.size w w1) := HW.out.trans (hb1.mono HW.out.size); clear hb1)
        go_ret
        exact ⟨_, rfl, by rw [HR.out, decide_eq_true_eq]; omega, HW1.out⟩
      | false =>
        rw [hb] at KX
        have HA2 : Hid (∀ i x, i < j + 1 → l[i]? = some x → badP x = false) := fun i y hi hy => by
          rcases (by omega : i < j ∨ i = j) with h | h
          · exact HA.out i y h hy
          · subst h
            rw [HX.out] at hy
            cases hy
            exact hb
        clear hb
        go_wp2_with (go_at_call 61; refine (KX.out _).mono ?_; rintro e w1 ⟨rfl, hb1⟩; have HW1 : Hid (Below w.heap.size w w1) := HW.out.trans (hb1.mono HW.out.size); clear hb1)
        go_roundg (n - (j + 1))
        case measure => omega
        case rel => exact ⟨j + 1, by omega, rfl, by simp, HA2, HW1⟩
    · have j1 : decide ((j : Int) < (n : Int)) = false := by rw [decide_eq_false_iff_not]; omega
      have HR : Hid (l.any badP = false) := by
        show _ = _
        rw [List.any_eq_false]
        intro x hx
        obtain ⟨i, hi⟩ := List.getElem?_of_mem hx
        have h1 := (List.getElem?_eq_some_iff.1 hi).1
        have h2 := HN.out
        rw [HA.out i x (by omega) hi]
        simp
      go_wp2_with fail
      go_ret
      exact ⟨_, rfl, by rw [HR.out]; decide, HW.out⟩
set_option maxHeartbeats 4000000 in
theorem kContains_is (l : List Pt) (n : Nat) (hn : l.length = n) (hn62 : n ≤ 4611686018427387904) (hf : FitP l) (a : Option Addr) (c : Nat) (w : World) (hl : InP w a l) :
    Calls Tryz.prog 60 #[.slice a n c, .func (.func 61) #[] #[]] w fun e w' => e = .returned (.bool (l.any badP)) ∧ Below w.heap.size w w' := by
  have K : Hid (Calls Tryz.prog 94 #[.slice a n c, .func (.func 61) #[] #[]] w fun e w' => ∃ r : Int, e = .returned (.int .i64 r) ∧ decide (0 ≤ r) = l.any badP ∧ Below w.heap.size w w') := kIndex_is l n hn hn62 hf a c w hl
  generalize l.any badP = b at *
  clear hn hf hl
  go_enter Tryz.func60, Tryz.ntmps60
  go_wp2_with fail
  refine K.out.mono ?_
  rintro e w1 ⟨r, rfl, hr, hb1⟩
  have HB : Hid (Below w.heap.size w w1) := hb1
  have HR : Hid (decide (0 ≤ r) = b) := hr
  clear hb1 hr
  go_wp2_with fail
  go_ret
  exact ⟨by rw [← HR.out]; rfl, HB.out⟩
end Go.Proofs.YtcindeechmpalaaGreat
