/- play (gen_ptp.py). -/
import Derived.Test.YtmokonaodoiflaaPtN
import Derived.Deep.CutRange
import Derived.Great.Walk
namespace Go.Proofs.Ytmokonaodoiflaa
open Go.ChangeShapes Go.WideShapes Go.ChangeAt Go.RowKit Go.Deep Go.Maps
set_option linter.unusedVariables false
set_option linter.unusedSimpArgs false
theorem results_pt {fn : Func} {p : Tmp} (h : fn.results = #[.cell p 24]) (tmps : Array Value) (w : World) (g : Nat) (D : Array Value) (hD : D.size = 3)
    (hp : tmps.getD p undef = .pointer (some ⟨g, 0, none⟩)) (hg : w.heap[g]? = some (.cells D 24)) :
    (results fn tmps).run Try.prog w = .ok (.agg D) w := by
  have hp' : tmps[p]?.getD undef = .pointer (some ⟨g, 0, none⟩) := by simpa using hp
  simp [results, h, hp', asAddr, run_loadVar_row w g 24 24 D (0, 0) _ hg Try.underlying24 rfl (by rw [hD]; exact size3P)]
/-- append of numbers to a row that was just made, in a region -/
theorem wp_new_ints {W : World} {z gz : Nat} {a : Option Addr} {n c : Nat} {D : List Int} (hO : OwnZ W z (.slice (some ⟨gz, 0, none⟩) 0 0) []) (hz : z ≤ W.heap.size) (hi : InZ W a D) (hl : D.length = n) (ha : a = none → n = 0 ∧ c = 0) (hn : n ≤ 100000)
    {o : Oper} {act : Act} {K : Act → World → Prop} {Q : Exit → Act → World → Prop} (s x : Operand) (ho : o.op = .call { callee := .builtin .append, args := #[s, x], argTypes := #[22, 22] }) (hs : act.eval s = .slice (some ⟨gz, 0, none⟩) 0 0) (hx : act.eval x = .slice a n c)
    (h : ∀ v' w', OwnZ w' z v' D → W.grownBy w' (some gz) → K (act.put o.dst v') w') : o.wp Try.prog act W K Q := by
  cases a with
  | none =>
    obtain ⟨rfl, rfl⟩ := ha rfl
    have hd : D = [] := List.length_eq_zero_iff.1 hl
    refine wp_append_ints0 s x ho z _ [] hs hO hx ?_
    exact h _ _ (by rw [hd]; exact hO) ⟨rfl, rfl, rfl, Nat.le_refl _, fun _ _ _ => rfl⟩
  | some q => exact wp_append_ints s x ho z _ [] hs hO q n c D hx hl hi (by simp; omega) hz (fun v' w' o1 g1 => h v' w' o1 g1)
theorem alloc_run (W : World) (o : Oper) (ρ : Operand → Value) (ho : o.op = .alloc 24) : (execOp ρ o).run Try.prog W = .ok (.value (.pointer (some ⟨W.heap.size, 0, none⟩))) (W.alloc (.cells #[.int .i64 0, .int .i64 0, .slice none 0 0] 24)) := by
  unfold execOp
  simp only [ho]
  go_simp
theorem wp_alloc_pt {W : World} {o : Oper} {act : Act} {K : Act → World → Prop} {Q : Exit → Act → World → Prop} (ho : o.op = .alloc 24) (h : K (act.put o.dst (.pointer (some ⟨W.heap.size, 0, none⟩))) (W.alloc (.cells #[.int .i64 0, .int .i64 0, .slice none 0 0] 24))) : o.wp Try.prog act W K Q := by
  unfold Oper.wp
  rw [alloc_run W o act.eval ho, Oper.upon_value]
  exact h
theorem wp_alloc_ptN {W : World} {o : Oper} {act : Act} {K : Act → World → Prop} {Q : Exit → Act → World → Prop} (ho : o.op = .alloc 24) {N : Nat} (hN : W.heap.size = N) (h : K (act.put o.dst (.pointer (some ⟨N, 0, none⟩))) (W.alloc (.cells #[.int .i64 0, .int .i64 0, .slice none 0 0] 24))) : o.wp Try.prog act W K Q := wp_alloc_pt ho (by rw [hN]; exact h)
def ndA (st : Int × List Int) (l : List Dd) : Int × List Int := l.foldl ndS st
theorem ndA_next {st : Int × List Int} {l : List Dd} {j : Nat} {y : Dd} (h : l[j]? = some y) : ndA st (l.take (j + 1)) = ndS (ndA st (l.take j)) y := by
  unfold ndA
  rw [List.take_add_one, h, List.foldl_append]
  rfl
theorem ndS_len (st : Int × List Int) (y : Dd) : (ndS st y).2.length ≤ st.2.length + 1 := by
  unfold ndS
  repeat' split
  all_goals simp
/-- the box of what play tells -/
def OutAt (W0 wr : World) (z q : Nat) (r S : Int) (a1 : Option Addr) (n1 c1 : Nat) (Dn : List Int) : Prop := wr.heap[q]? = some (.cells #[.int .i64 r, .int .i64 S, .slice a1 n1 c1] 24) ∧ OwnZ wr z (.slice a1 n1 c1) Dn ∧ z ≤ q ∧ Below z W0 wr
set_option maxRecDepth 100000 in
set_option maxHeartbeats 8000000 in
theorem play_is (w : World) (r s : Int) (a : Option Addr) (n c : Nat) (D : List Int) (hp : PrtAt w a n c D) (base : Nat) (aV : Option Addr) (N cV : Nat) (dl : List Dd) (hV : OwnD w base (.slice aV N cV) dl) (hN : dl.length = N) (hN4 : N ≤ 4) :
    Calls Try.prog 21 #[.agg #[.int .i64 r, .int .i64 s, .slice a n c], .slice aV N cV] w fun e w' => ∃ a1 n1 c1, e = .returned (.agg #[.int .i64 r, .int .i64 (ndA (s, D) dl).1, .slice a1 n1 c1]) ∧ OwnZ w' w.heap.size (.slice a1 n1 c1) (ndA (s, D) dl).2 ∧ Below w.heap.size w w' := by
  obtain ⟨W0, hW0⟩ : ∃ W0, W0 = (w.alloc (.cells #[.int .i64 r, .int .i64 s, .slice a n c] 24)).alloc (.cells #[.int .i64 0, .int .i64 0, .slice none 0 0] 24) := ⟨_, rfl⟩
  have HE : Hid (W0 = (w.alloc (.cells #[.int .i64 r, .int .i64 s, .slice a n c] 24)).alloc (.cells #[.int .i64 0, .int .i64 0, .slice none 0 0] 24)) := hW0
  have hb0 : Below w.heap.size w W0 := by rw [hW0]; exact ((Below.refl _ _).alloc (Nat.le_refl _) _).alloc (by simp) _
  have hq0 : W0.heap[w.heap.size]? = some (.cells #[.int .i64 r, .int .i64 s, .slice a n c] 24) := by rw [hW0]; exact (Below.heap_alloc _ _ _ (by simp)).trans (heap_alloc_new w _)
  have hq1 : W0.heap[w.heap.size + 1]? = some (.cells #[.int .i64 0, .int .i64 0, .slice none 0 0] 24) := by
    rw [hW0]
    have := heap_alloc_new (w.alloc (.cells #[.int .i64 r, .int .i64 s, .slice a n c] 24)) (.cells #[.int .i64 0, .int .i64 0, .slice none 0 0] 24)
    rw [show (w.alloc (.cells #[.int .i64 r, .int .i64 s, .slice a n c] 24)).heap.size = w.heap.size + 1 by simp] at this
    exact this
  obtain ⟨z, hz⟩ : ∃ z, z = W0.heap.size := ⟨_, rfl⟩
  have HZ : Hid (z = W0.heap.size ∧ W0.heap.size = w.heap.size + 2) := ⟨hz, by rw [hW0]; simp⟩
  have HW : Hid (Below w.heap.size w W0) := hb0
  have HQ1 : Hid (W0.heap[w.heap.size + 1]? = some (.cells #[.int .i64 0, .int .i64 0, .slice none 0 0] 24)) := hq1
  have KC : Hid (∀ W, Below z W0 W → (W.cell? ⟨w.heap.size, 0, none⟩ = some (.int .i64 r) ∧ W.cell? ⟨w.heap.size, 1, none⟩ = some (.int .i64 s) ∧ W.cell? ⟨w.heap.size, 2, none⟩ = some (.slice a n c))) := fun W hW => Bx.cells ((hW.block _ (by have := HZ.out; omega)).trans hq0)
  have BR : Hid (Below z W0 W0) := Below.refl _ _
  have HPI : Hid (InZ w a D ∧ D.length = n ∧ (a = none → n = 0 ∧ c = 0) ∧ n ≤ 100000) := ⟨hp.inz, hp.len, hp.nil, by have := hp.big; omega⟩
  have HD0 : Hid (D.length ≤ 10000) := by show _ ≤ _; have := hp.big; have := hp.len; omega
  have HV : Hid (OwnD w base (.slice aV N cV) dl ∧ dl.length = N) := ⟨hV, hN⟩
  obtain ⟨F1, hF1⟩ : ∃ F1, ndA (s, D) dl = F1 := ⟨_, rfl⟩
  have HF1 : Hid (ndA (s, D) dl = F1) := hF1
  rw [hF1]
  clear hW0 hb0 hq0 hq1 hz hp hV hN hF1
  go_enter Try.func21, Try.ntmps21
  go_wp2_with fail
  rw [← HE.out]
  clear HE
  go_cut [5] from 8 to 16 (fun v wx => ∃ q a1 n1 c1, v = .pointer (some ⟨q, 0, none⟩) ∧ Hid (OutAt W0 wx z q r s a1 n1 c1 D))
  case first =>
    refine wp_region_noPanic ?_
    refine wp_region_held_drew (S := (fun W : World => Below z W0 W)) (by kernel_rfl) ?hSas (fun hHeld => ?restas)
    case hSas => exact below_drewM BR.out
    case restas =>
      refine wpAnyH_take (i := 0) (v := .pointer (some ⟨w.heap.size, 0, none⟩)) rfl (by kernel_rfl) (by kernel_rfl) (by kernel_rfl) (fun _ _ _ h => h) (Or.inl ⟨by kernel_rfl, ?hy0s⟩) hHeld ?rest0s
      case hy0s => (intro w' hSw; (try dsimp only at hSw); go_simp; try with_reducible rfl)
      try simp only [Act.put, List.setIfInBounds_toArray, List.set_cons_zero, List.set_cons_succ, List.getElem_toArray, List.getElem_cons_zero, List.getElem_cons_succ]
      refine wpAnyH_take (i := 1) (v := .int .i64 r) rfl (by kernel_rfl) (by kernel_rfl) (by kernel_rfl) (fun _ _ _ h => h) (Or.inl ⟨by kernel_rfl, ?hy1s⟩) hHeld ?rest1s
      case hy1s => (intro w' hSw; (try dsimp only at hSw); obtain ⟨q0, q1, q2⟩ := KC.out _ hSw; go_simp; try with_reducible rfl)
      try simp only [Act.put, List.setIfInBounds_toArray, List.set_cons_zero, List.set_cons_succ, List.getElem_toArray, List.getElem_cons_zero, List.getElem_cons_succ]
      refine wpAnyH_take (i := 2) (v := .pointer (some ⟨w.heap.size, 1, none⟩)) rfl (by kernel_rfl) (by kernel_rfl) (by kernel_rfl) (fun _ _ _ h => h) (Or.inl ⟨by kernel_rfl, ?hy2s⟩) hHeld ?rest2s
      case hy2s => (intro w' hSw; (try dsimp only at hSw); go_simp; try with_reducible rfl)
      try simp only [Act.put, List.setIfInBounds_toArray, List.set_cons_zero, List.set_cons_succ, List.getElem_toArray, List.getElem_cons_zero, List.getElem_cons_succ]
      refine wpAnyH_take (i := 3) (v := .int .i64 s) rfl (by kernel_rfl) (by kernel_rfl) (by kernel_rfl) (fun _ _ _ h => h) (Or.inl ⟨by kernel_rfl, ?hy3s⟩) hHeld ?rest3s
      case hy3s => (intro w' hSw; (try dsimp only at hSw); obtain ⟨q0, q1, q2⟩ := KC.out _ hSw; go_simp; try with_reducible rfl)
      try simp only [Act.put, List.setIfInBounds_toArray, List.set_cons_zero, List.set_cons_succ, List.getElem_toArray, List.getElem_cons_zero, List.getElem_cons_succ]
      refine wpAnyH_take (i := 5) (v := .pointer (some ⟨w.heap.size, 2, none⟩)) rfl (by kernel_rfl) (by kernel_rfl) (by kernel_rfl) (fun _ _ _ h => h) (Or.inl ⟨by kernel_rfl, ?hy5s⟩) hHeld ?rest5s
      case hy5s => (intro w' hSw; (try dsimp only at hSw); go_simp; try with_reducible rfl)
      try simp only [Act.put, List.setIfInBounds_toArray, List.set_cons_zero, List.set_cons_succ, List.getElem_toArray, List.getElem_cons_zero, List.getElem_cons_succ]
      refine wpAnyH_take (i := 6) (v := .slice a n c) rfl (by kernel_rfl) (by kernel_rfl) (by kernel_rfl) (fun _ _ _ h => h) (Or.inl ⟨by kernel_rfl, ?hy6s⟩) hHeld ?rest6s
      case hy6s => (intro w' hSw; (try dsimp only at hSw); obtain ⟨q0, q1, q2⟩ := KC.out _ hSw; go_simp; try with_reducible rfl)
      try simp only [Act.put, List.setIfInBounds_toArray, List.set_cons_zero, List.set_cons_succ, List.getElem_toArray, List.getElem_cons_zero, List.getElem_cons_succ]
      refine wpAnyH_ready (rs := [4, 9]) (by kernel_rfl) (by simp) ?_
      refine AllReadyH.cons rfl (fun K hK => ?_) (AllReadyH.cons rfl (fun K hK => ?_) AllReadyH.nil)
      · skip
        have HB0 : Hid (Below z W0 (W0.drew.alloc (.cells #[] 3))) := (below_drewM BR.out).alloc (by have := HZ.out; show _ ≤ W0.heap.size; omega) _
        have HO0 : Hid (OwnZ (W0.drew.alloc (.cells #[] 3)) z (.slice (some ⟨W0.heap.size, 0, none⟩) 0 0) []) := World.ownsRow_made (e := 3) (size := 1) (base := z) W0.drew #[] 0 (by have := HZ.out; simp; omega) (by simp) (by simp)
        go_wp2_with fail
        refine hK.out _ _ ?hS4B (fun hHeld => ?rest4B)
        case hS4B => exact HB0.out
        clear hK K
        try simp only [Act.put, List.setIfInBounds_toArray, List.set_cons_zero, List.set_cons_succ, List.getElem_toArray, List.getElem_cons_zero, List.getElem_cons_succ]
        refine wpAnyH_ready (rs := [7, 9]) (by kernel_rfl) (by simp) ?_
        refine AllReadyH.cons rfl (fun K hK => ?_) (AllReadyH.cons rfl (fun K hK => ?_) AllReadyH.nil)
        · skip
          have HBZ : Hid (Below z W0 (W0.drew.alloc (.cells #[] 3))) := HB0.out
          have HBW : Hid (Hid (Below w.heap.size w (W0.drew.alloc (.cells #[] 3)))) := (HW.out.trans (HBZ.out.mono (by have := HZ.out; omega)) : Below _ _ _)
          have HZ2 : Hid (z ≤ (W0.drew.alloc (.cells #[] 3)).heap.size) := (by have := HBZ.out.size; have := HZ.out; show _ ≤ _; omega)
          have HOZ := HO0
          refine wp_new_ints (gz := W0.heap.size) (a := a) (n := n) (c := c) (D := D) HOZ.out HZ2.out (HPI.out.1.keep (HBW.out.out)) HPI.out.2.1 HPI.out.2.2.1 HPI.out.2.2.2 (.tmp 12) (.tmp 14) rfl rfl rfl ?_
          intro v9 w9 o9 g9
          obtain ⟨a1, c1, rfl, -⟩ := o9.slice
          obtain ⟨n1, hn1⟩ : ∃ n1, n1 = D.length := ⟨_, rfl⟩
          rw [← hn1] at o9 ⊢
          have OA : Hid (OwnZ w9 z (.slice a1 n1 c1) D) := o9
          have HBL : Hid (Below z W0 w9) := HBZ.out.grown g9 HZ2.out (fun k hk => by cases hk; have := HZ.out; omega)
          have G9 : Hid ((W0.drew.alloc (.cells #[] 3)).grownBy w9 (some W0.heap.size)) := g9
          clear o9 g9 hn1
          refine hK.out _ _ ?hS7C (fun hHeld => ?rest7C)
          case hS7C => exact HBL.out
          clear hK K
          try simp only [Act.put, List.setIfInBounds_toArray, List.set_cons_zero, List.set_cons_succ, List.getElem_toArray, List.getElem_cons_zero, List.getElem_cons_succ]
          refine wpAnyH_take (i := 8) (v := .agg #[.int .i64 r, .int .i64 s, .slice a1 n1 c1]) rfl (by kernel_rfl) (by kernel_rfl) (by kernel_rfl) (fun _ _ _ h => h) (Or.inl ⟨by kernel_rfl, ?hy8C⟩) hHeld ?rest8C
          case hy8C => (intro w' hSw; (try dsimp only at hSw); go_simp; try with_reducible rfl)
          try simp only [Act.put, List.setIfInBounds_toArray, List.set_cons_zero, List.set_cons_succ, List.getElem_toArray, List.getElem_cons_zero, List.getElem_cons_succ]
          have HA1 : Hid (Below z W0 (w9.alloc (.cells #[.int .i64 0, .int .i64 0, .slice none 0 0] 24))) := HBL.out.alloc (by have := HBL.out.size; have := HZ.out; omega) _
          refine wpAnyH_ready (rs := [9]) (by kernel_rfl) (by simp) ?_
          refine AllReadyH.cons rfl (fun K hK => ?_) AllReadyH.nil
          refine wp_alloc_pt rfl ?_
          refine hK.out _ _ ?hS9C (fun hHeld => ?rest9C)
          case hS9C => exact HA1.out
          clear hK K
          try simp only [Act.put, List.setIfInBounds_toArray, List.set_cons_zero, List.set_cons_succ, List.getElem_toArray, List.getElem_cons_zero, List.getElem_cons_succ]
          have HBX : Hid ((w9.alloc (.cells #[.int .i64 0, .int .i64 0, .slice none 0 0] 24)).heap[w9.heap.size]? = some (.cells #[.int .i64 0, .int .i64 0, .slice none 0 0] 24)) := heap_alloc_new w9 _
          replace OA : Hid (OwnZ (w9.alloc (.cells #[.int .i64 0, .int .i64 0, .slice none 0 0] 24)) z (.slice a1 n1 c1) D) := OA.out.keep (below1 _ _)
          replace HBL : Hid (Below z W0 (w9.alloc (.cells #[.int .i64 0, .int .i64 0, .slice none 0 0] 24))) := HA1
          have HZ9 : z ≤ w9.heap.size := by have := HA1.out.size; have h2 := G9.out.size; have := HZ2.out; omega
          have HR : Hid (OutAt W0 ((w9.alloc (.cells #[.int .i64 0, .int .i64 0, .slice none 0 0] 24)).setRow w9.heap.size #[.int .i64 r, .int .i64 s, .slice a1 n1 c1]) z w9.heap.size r s a1 n1 c1 D) := (by
            refine ⟨setRow_heap _ _ _ _ _ _ HBX.out, OA.out.kept fun k hk => setRow_other _ _ _ _ (fun e => ?_), by have := HZ.out; omega, ?_⟩
            · obtain ⟨cs, hc⟩ := OA.out.blk hk
              rw [e, HBX.out] at hc
              cases hc
            · exact ⟨HBL.out.os, HBL.out.tape, HBL.out.output, by rw [setRow_size]; exact HBL.out.size, fun k hk => (setRow_other _ _ _ _ (by have := HZ.out; omega)).trans (HBL.out.block k hk)⟩)
          refine wpAnyH_ready (rs := [10]) (by kernel_rfl) (by simp) ?_
          refine AllReadyH.cons rfl (fun K hK => ?_) AllReadyH.nil
          rw [if_pos (by kernel_rfl)]
          refine wp_store_row 24 (.tmp 5) (.tmp 16) rfl w9.heap.size #[.int .i64 r, .int .i64 s, .slice a1 n1 c1] rfl rfl 24 #[.int .i64 0, .int .i64 0, .slice none 0 0] HBX.out size3P rfl (by simp [Value.oneCell']) ?_
          refine hK.out _ _ ?hS10C (fun hHeld => ?rest10C)
          case hS10C => exact HR.out.2.2.2
          clear hK K
          refine wpAnyH_done (by kernel_rfl) ?_ _
          refine NoPanic.normal ?_
          try go_wp2_with fail
          go_meet
          case rel => exact ⟨w9.heap.size, a1, n1, c1, rfl, HR.out⟩
        · skip
          have HA1 : Hid (Below z W0 ((W0.drew.alloc (.cells #[] 3)).alloc (.cells #[.int .i64 0, .int .i64 0, .slice none 0 0] 24))) := HB0.out.alloc (by have := HZ.out; simp; omega) _
          refine wp_alloc_ptN rfl (N := W0.heap.size + 1) (by simp) ?_
          refine hK.out _ _ ?hS9D (fun hHeld => ?rest9D)
          case hS9D => exact HA1.out
          clear hK K
          try simp only [Act.put, List.setIfInBounds_toArray, List.set_cons_zero, List.set_cons_succ, List.getElem_toArray, List.getElem_cons_zero, List.getElem_cons_succ]
          have HBZ : Hid (Below z W0 ((W0.drew.alloc (.cells #[] 3)).alloc (.cells #[.int .i64 0, .int .i64 0, .slice none 0 0] 24))) := HA1.out
          have HBW : Hid (Hid (Below w.heap.size w ((W0.drew.alloc (.cells #[] 3)).alloc (.cells #[.int .i64 0, .int .i64 0, .slice none 0 0] 24)))) := (HW.out.trans (HBZ.out.mono (by have := HZ.out; omega)) : Below _ _ _)
          have HZ2 : Hid (z ≤ ((W0.drew.alloc (.cells #[] 3)).alloc (.cells #[.int .i64 0, .int .i64 0, .slice none 0 0] 24)).heap.size) := (by have := HBZ.out.size; have := HZ.out; show _ ≤ _; omega)
          have HOZ : Hid (OwnZ ((W0.drew.alloc (.cells #[] 3)).alloc (.cells #[.int .i64 0, .int .i64 0, .slice none 0 0] 24)) z (.slice (some ⟨W0.heap.size, 0, none⟩) 0 0) []) := HO0.out.keep (below1 _ _)
          refine wpAnyH_ready (rs := [7]) (by kernel_rfl) (by simp) ?_
          refine AllReadyH.cons rfl (fun K hK => ?_) AllReadyH.nil
          refine wp_new_ints (gz := W0.heap.size) (a := a) (n := n) (c := c) (D := D) HOZ.out HZ2.out (HPI.out.1.keep (HBW.out.out)) HPI.out.2.1 HPI.out.2.2.1 HPI.out.2.2.2 (.tmp 12) (.tmp 14) rfl rfl rfl ?_
          intro v9 w9 o9 g9
          obtain ⟨a1, c1, rfl, -⟩ := o9.slice
          obtain ⟨n1, hn1⟩ : ∃ n1, n1 = D.length := ⟨_, rfl⟩
          rw [← hn1] at o9 ⊢
          have OA : Hid (OwnZ w9 z (.slice a1 n1 c1) D) := o9
          have HBL : Hid (Below z W0 w9) := HBZ.out.grown g9 HZ2.out (fun k hk => by cases hk; have := HZ.out; omega)
          have G9 : Hid (((W0.drew.alloc (.cells #[] 3)).alloc (.cells #[.int .i64 0, .int .i64 0, .slice none 0 0] 24)).grownBy w9 (some W0.heap.size)) := g9
          clear o9 g9 hn1
          refine hK.out _ _ ?hS7D (fun hHeld => ?rest7D)
          case hS7D => exact HBL.out
          clear hK K
          try simp only [Act.put, List.setIfInBounds_toArray, List.set_cons_zero, List.set_cons_succ, List.getElem_toArray, List.getElem_cons_zero, List.getElem_cons_succ]
          have HBX : Hid (w9.heap[W0.heap.size + 1]? = some (.cells #[.int .i64 0, .int .i64 0, .slice none 0 0] 24)) := (G9.out.block (W0.heap.size + 1) (by simp) (by simp)).trans (by
            have := heap_alloc_new (W0.drew.alloc (.cells #[] 3)) (.cells #[.int .i64 0, .int .i64 0, .slice none 0 0] 24)
            rw [show (W0.drew.alloc (.cells #[] 3)).heap.size = W0.heap.size + 1 by simp] at this
            exact this)
          refine wpAnyH_take (i := 8) (v := .agg #[.int .i64 r, .int .i64 s, .slice a1 n1 c1]) rfl (by kernel_rfl) (by kernel_rfl) (by kernel_rfl) (fun _ _ _ h => h) (Or.inl ⟨by kernel_rfl, ?hy8D⟩) hHeld ?rest8D
          case hy8D => (intro w' hSw; (try dsimp only at hSw); go_simp; try with_reducible rfl)
          try simp only [Act.put, List.setIfInBounds_toArray, List.set_cons_zero, List.set_cons_succ, List.getElem_toArray, List.getElem_cons_zero, List.getElem_cons_succ]
          have HR : Hid (OutAt W0 (w9.setRow (W0.heap.size + 1) #[.int .i64 r, .int .i64 s, .slice a1 n1 c1]) z (W0.heap.size + 1) r s a1 n1 c1 D) := (by
            refine ⟨setRow_heap _ _ _ _ _ _ HBX.out, OA.out.kept fun k hk => setRow_other _ _ _ _ (fun e => ?_), by have := HZ.out; omega, ?_⟩
            · obtain ⟨cs, hc⟩ := OA.out.blk hk
              rw [e, HBX.out] at hc
              cases hc
            · exact ⟨HBL.out.os, HBL.out.tape, HBL.out.output, by rw [setRow_size]; exact HBL.out.size, fun k hk => (setRow_other _ _ _ _ (by have := HZ.out; omega)).trans (HBL.out.block k hk)⟩)
          refine wpAnyH_ready (rs := [10]) (by kernel_rfl) (by simp) ?_
          refine AllReadyH.cons rfl (fun K hK => ?_) AllReadyH.nil
          rw [if_pos (by kernel_rfl)]
          refine wp_store_row 24 (.tmp 5) (.tmp 16) rfl (W0.heap.size + 1) #[.int .i64 r, .int .i64 s, .slice a1 n1 c1] rfl rfl 24 #[.int .i64 0, .int .i64 0, .slice none 0 0] HBX.out size3P rfl (by simp [Value.oneCell']) ?_
          refine hK.out _ _ ?hS10D (fun hHeld => ?rest10D)
          case hS10D => exact HR.out.2.2.2
          clear hK K
          refine wpAnyH_done (by kernel_rfl) ?_ _
          refine NoPanic.normal ?_
          try go_wp2_with fail
          go_meet
          case rel => exact ⟨(W0.heap.size + 1), a1, n1, c1, rfl, HR.out⟩
      · skip
        have HA1 : Hid (Below z W0 (W0.drew.alloc (.cells #[.int .i64 0, .int .i64 0, .slice none 0 0] 24))) := (below_drewM BR.out).alloc (by have := HZ.out; show _ ≤ W0.heap.size; omega) _
        go_wp2_with fail
        refine hK.out _ _ ?hS9A (fun hHeld => ?rest9A)
        case hS9A => exact HA1.out
        clear hK K
        try simp only [Act.put, List.setIfInBounds_toArray, List.set_cons_zero, List.set_cons_succ, List.getElem_toArray, List.getElem_cons_zero, List.getElem_cons_succ]
        have HBZ : Hid (Below z W0 ((W0.drew.alloc (.cells #[.int .i64 0, .int .i64 0, .slice none 0 0] 24)).alloc (.cells #[] 3))) := HA1.out.alloc (by have := HZ.out; simp; omega) _
        have HBW : Hid (Hid (Below w.heap.size w ((W0.drew.alloc (.cells #[.int .i64 0, .int .i64 0, .slice none 0 0] 24)).alloc (.cells #[] 3)))) := (HW.out.trans (HBZ.out.mono (by have := HZ.out; omega)) : Below _ _ _)
        have HZ2 : Hid (z ≤ ((W0.drew.alloc (.cells #[.int .i64 0, .int .i64 0, .slice none 0 0] 24)).alloc (.cells #[] 3)).heap.size) := (by have := HBZ.out.size; have := HZ.out; show _ ≤ _; omega)
        have HOZ : Hid (OwnZ ((W0.drew.alloc (.cells #[.int .i64 0, .int .i64 0, .slice none 0 0] 24)).alloc (.cells #[] 3)) z (.slice (some ⟨W0.heap.size + 1, 0, none⟩) 0 0) []) := (by
          have := World.ownsRow_made (e := 3) (size := 1) (base := z) (W0.drew.alloc (.cells #[.int .i64 0, .int .i64 0, .slice none 0 0] 24)) #[] 0 (by have := HZ.out; simp; omega) (by simp) (by simp)
          rw [show (W0.drew.alloc (.cells #[.int .i64 0, .int .i64 0, .slice none 0 0] 24)).heap.size = W0.heap.size + 1 by simp] at this
          exact this)
        refine wpAnyH_ready (rs := [4]) (by kernel_rfl) (by simp) ?_
        refine AllReadyH.cons rfl (fun K hK => ?_) AllReadyH.nil
        go_wp2_with fail
        refine hK.out _ _ ?hS4A (fun hHeld => ?rest4A)
        case hS4A => exact HBZ.out
        clear hK K
        try simp only [Act.put, List.setIfInBounds_toArray, List.set_cons_zero, List.set_cons_succ, List.getElem_toArray, List.getElem_cons_zero, List.getElem_cons_succ]
        refine wpAnyH_ready (rs := [7]) (by kernel_rfl) (by simp) ?_
        refine AllReadyH.cons rfl (fun K hK => ?_) AllReadyH.nil
        refine wp_new_ints (gz := (W0.heap.size + 1)) (a := a) (n := n) (c := c) (D := D) HOZ.out HZ2.out (HPI.out.1.keep (HBW.out.out)) HPI.out.2.1 HPI.out.2.2.1 HPI.out.2.2.2 (.tmp 12) (.tmp 14) rfl rfl rfl ?_
        intro v9 w9 o9 g9
        obtain ⟨a1, c1, rfl, -⟩ := o9.slice
        obtain ⟨n1, hn1⟩ : ∃ n1, n1 = D.length := ⟨_, rfl⟩
        rw [← hn1] at o9 ⊢
        have OA : Hid (OwnZ w9 z (.slice a1 n1 c1) D) := o9
        have HBL : Hid (Below z W0 w9) := HBZ.out.grown g9 HZ2.out (fun k hk => by cases hk; have := HZ.out; omega)
        have G9 : Hid (((W0.drew.alloc (.cells #[.int .i64 0, .int .i64 0, .slice none 0 0] 24)).alloc (.cells #[] 3)).grownBy w9 (some (W0.heap.size + 1))) := g9
        clear o9 g9 hn1
        refine hK.out _ _ ?hS7A (fun hHeld => ?rest7A)
        case hS7A => exact HBL.out
        clear hK K
        try simp only [Act.put, List.setIfInBounds_toArray, List.set_cons_zero, List.set_cons_succ, List.getElem_toArray, List.getElem_cons_zero, List.getElem_cons_succ]
        have HBX : Hid (w9.heap[W0.heap.size]? = some (.cells #[.int .i64 0, .int .i64 0, .slice none 0 0] 24)) := (G9.out.block W0.heap.size (by simp; omega) (by simp)).trans ((Below.heap_alloc _ _ _ (by simp)).trans (heap_alloc_new W0.drew _))
        refine wpAnyH_take (i := 8) (v := .agg #[.int .i64 r, .int .i64 s, .slice a1 n1 c1]) rfl (by kernel_rfl) (by kernel_rfl) (by kernel_rfl) (fun _ _ _ h => h) (Or.inl ⟨by kernel_rfl, ?hy8A⟩) hHeld ?rest8A
        case hy8A => (intro w' hSw; (try dsimp only at hSw); go_simp; try with_reducible rfl)
        try simp only [Act.put, List.setIfInBounds_toArray, List.set_cons_zero, List.set_cons_succ, List.getElem_toArray, List.getElem_cons_zero, List.getElem_cons_succ]
        have HR : Hid (OutAt W0 (w9.setRow W0.heap.size #[.int .i64 r, .int .i64 s, .slice a1 n1 c1]) z W0.heap.size r s a1 n1 c1 D) := (by
          refine ⟨setRow_heap _ _ _ _ _ _ HBX.out, OA.out.kept fun k hk => setRow_other _ _ _ _ (fun e => ?_), by have := HZ.out; omega, ?_⟩
          · obtain ⟨cs, hc⟩ := OA.out.blk hk
            rw [e, HBX.out] at hc
            cases hc
          · exact ⟨HBL.out.os, HBL.out.tape, HBL.out.output, by rw [setRow_size]; exact HBL.out.size, fun k hk => (setRow_other _ _ _ _ (by have := HZ.out; omega)).trans (HBL.out.block k hk)⟩)
        refine wpAnyH_ready (rs := [10]) (by kernel_rfl) (by simp) ?_
        refine AllReadyH.cons rfl (fun K hK => ?_) AllReadyH.nil
        rw [if_pos (by kernel_rfl)]
        refine wp_store_row 24 (.tmp 5) (.tmp 16) rfl W0.heap.size #[.int .i64 r, .int .i64 s, .slice a1 n1 c1] rfl rfl 24 #[.int .i64 0, .int .i64 0, .slice none 0 0] HBX.out size3P rfl (by simp [Value.oneCell']) ?_
        refine hK.out _ _ ?hS10A (fun hHeld => ?rest10A)
        case hS10A => exact HR.out.2.2.2
        clear hK K
        refine wpAnyH_done (by kernel_rfl) ?_ _
        refine NoPanic.normal ?_
        try go_wp2_with fail
        go_meet
        case rel => exact ⟨W0.heap.size, a1, n1, c1, rfl, HR.out⟩
  case rest =>
    obtain ⟨q, a1, n1, c1, rfl, HC⟩ := hcut
    have HOUT : Hid (∃ q' : Nat, q' = q) := ⟨q, rfl⟩
    clear HOUT
    have HL0 : Hid (OutAt W0 _ z q r s a1 n1 c1 D) := HC
    go_wp2_with fail
    go_loopg [19] N (fun g i wr => ∃ (j : Nat) (S : Int) (a2 : Option Addr) (n2 c2 : Nat) (Dn : List Int), j ≤ N ∧ g = N - j ∧ i = .int .i64 (j : Int) ∧ Hid (OutAt W0 wr z q r S a2 n2 c2 Dn ∧ ndA (s, D) (dl.take j) = (S, Dn) ∧ Dn.length ≤ 10000 + j))
    case atStart => exact ⟨0, s, a1, n1, c1, D, Nat.zero_le _, rfl, rfl, HL0.out, rfl, by have := HD0.out; omega⟩
    obtain ⟨j, S, a2, n2, c2, Dn, hj, rfl, rfl, RW⟩ := hrel
    have HZW : Hid (z ≤ wr.heap.size) := by show _ ≤ _; have := RW.out.1.2.2.2.size; have := HZ.out; omega
    have HUP : Hid (Below w.heap.size w wr) := HW.out.trans (RW.out.1.2.2.2.mono (by have := HZ.out; omega))
    by_cases hlt : j < N
    · have j1 : decide ((j : Int) < (N : Int)) = true := by rw [decide_eq_true_eq]; omega
      obtain ⟨y', hy⟩ : ∃ y', dl[j]? = some y' := ⟨dl[j]'(by rw [HV.out.2]; exact hlt), by simp [HV.out.2, hlt]⟩
      obtain ⟨g, c8, e8, _, hg8, _, _, hdc⟩ := HV.out.1.form (by rw [HV.out.2]; omega)
      have hpc := (hdc j y' hy).kept (HUP.out.block g hg8)
      injection e8 with e8a e8b e8c
      subst e8a
      obtain ⟨d0, d1, d2, d3, d4, d5, d6, d7, d8⟩ := hpc
      have ri : IntKind.i64.wrap ((j : Int) + 1) = (j : Int) + 1 := by rw [IntKind.wrap_i64]; omega
      have HNX : Hid (ndA (s, D) (dl.take (j + 1)) = ndS (S, Dn) y') := by show _ = _; rw [ndA_next hy, RW.out.2.1]
      clear hy hdc e8b e8c hg8
      obtain ⟨dk, dt, dpa, dpn, dpc, mk, mf, mt, mx, my, mpa, mpn, mpc⟩ := y'
      simp only at d0 d1 d2 d3 d4 d5 d6 d7 d8
      have B1 : Hid (Below wr.heap.size wr (wr.alloc (.cells #[.int .i64 dk, .int .i64 dt, .slice dpa dpn dpc, .int .i64 mk, .int .i64 mf, .int .i64 mt, .int .i64 mx, .bool my, .slice mpa mpn mpc] 37))) := below1 _ _
      have p1 : (wr.alloc (.cells #[.int .i64 dk, .int .i64 dt, .slice dpa dpn dpc, .int .i64 mk, .int .i64 mf, .int .i64 mt, .int .i64 mx, .bool my, .slice mpa mpn mpc] 37)).heap[q]? = some (.cells #[.int .i64 r, .int .i64 S, .slice a2 n2 c2] 24) := (Below.heap_alloc _ _ _ (lt_of_heapK RW.out.1.1)).trans RW.out.1.1
      have P1 : Hid ((wr.alloc (.cells #[.int .i64 dk, .int .i64 dt, .slice dpa dpn dpc, .int .i64 mk, .int .i64 mf, .int .i64 mt, .int .i64 mx, .bool my, .slice mpa mpn mpc] 37)).heap[q]? = some (.cells #[.int .i64 r, .int .i64 S, .slice a2 n2 c2] 24)) := p1
      have O1 : Hid (OwnZ (wr.alloc (.cells #[.int .i64 dk, .int .i64 dt, .slice dpa dpn dpc, .int .i64 mk, .int .i64 mf, .int .i64 mt, .int .i64 mx, .bool my, .slice mpa mpn mpc] 37)) z (.slice a2 n2 c2) Dn ∧ z ≤ q ∧ Below z W0 (wr.alloc (.cells #[.int .i64 dk, .int .i64 dt, .slice dpa dpn dpc, .int .i64 mk, .int .i64 mf, .int .i64 mt, .int .i64 mx, .bool my, .slice mpa mpn mpc] 37)) ∧ Dn.length ≤ 10000 + j) := ⟨RW.out.1.2.1.keep B1.out, RW.out.1.2.2.1, RW.out.1.2.2.2.trans (B1.out.mono HZW.out), RW.out.2.2⟩
      obtain ⟨x0, x1, x2⟩ := Bx.cells p1
      have f1 := frozen_blk p1 1
      have f2 := frozen_blk p1 2
      clear p1
      -- a cell of the box is changed
      have SET : Hid (∀ W S', W.heap[q]? = some (.cells #[.int .i64 r, .int .i64 S, .slice a2 n2 c2] 24) → OwnZ W z (.slice a2 n2 c2) Dn → Below z W0 W → OutAt W0 (W.setCell ⟨q, 1, none⟩ (.int .i64 S')) z q r S' a2 n2 c2 Dn) := fun W S' h1 h2 h3 => (by
        refine ⟨setCell_blk (i := 1) (.int .i64 S') h1, h2.kept fun k hk => set_off W q 1 k _ (fun e => ?_), O1.out.2.1, h3.grown (grown_setCell W q 1 _) (by have := h3.size; have := HZ.out; omega) (fun k hk => by cases hk; exact O1.out.2.1)⟩
        obtain ⟨cs, hc⟩ := h2.blk hk
        rw [e, h1] at hc
        cases hc)
      by_cases k2 : dk = 2
      · have HR : Hid (OutAt W0 ((wr.alloc (.cells #[.int .i64 2, .int .i64 dt, .slice dpa dpn dpc, .int .i64 mk, .int .i64 mf, .int .i64 mt, .int .i64 mx, .bool my, .slice mpa mpn mpc] 37)).setCell ⟨q, 1, none⟩ (.int .i64 dt)) z q r dt a2 n2 c2 Dn ∧ ndA (s, D) (dl.take (j + 1)) = (dt, Dn) ∧ Dn.length ≤ 10000 + (j + 1)) := by
          rw [← k2]
          refine ⟨SET.out _ dt P1.out O1.out.1 O1.out.2.2.1, ?_, by have := O1.out.2.2.2; omega⟩
          rw [HNX.out]; unfold ndS; rw [if_pos k2]
        subst k2
        clear SET
        go_wp2_with fail
        go_roundg (N - (j + 1))
        case measure => omega
        case rel => exact ⟨j + 1, dt, a2, n2, c2, Dn, by omega, rfl, rfl, HR.out⟩
      have k2a : (dk == 2) = false := by simp [k2]
      by_cases k3 : dk = 3
      · have HA : Hid (ndA (s, D) (dl.take (j + 1)) = (0, Dn ++ [dt])) := by show _ = _; rw [HNX.out]; unfold ndS; rw [if_neg k2, if_pos k3]
        have o1 := SET.out _ 0 P1.out O1.out.1 O1.out.2.2.1
        subst k3
        obtain ⟨U, hU⟩ : ∃ U, U = (wr.alloc (.cells #[.int .i64 3, .int .i64 dt, .slice dpa dpn dpc, .int .i64 mk, .int .i64 mf, .int .i64 mt, .int .i64 mx, .bool my, .slice mpa mpn mpc] 37)).setCell ⟨q, 1, none⟩ (.int .i64 0) := ⟨_, rfl⟩
        rw [← hU] at o1
        have HU : Hid (U = (wr.alloc (.cells #[.int .i64 3, .int .i64 dt, .slice dpa dpn dpc, .int .i64 mk, .int .i64 mf, .int .i64 mt, .int .i64 mx, .bool my, .slice mpa mpn mpc] 37)).setCell ⟨q, 1, none⟩ (.int .i64 0)) := hU
        have OU : Hid (OutAt W0 U z q r 0 a2 n2 c2 Dn) := o1
        have ub : U.heap[wr.heap.size]? = some (.cells #[.int .i64 3, .int .i64 dt, .slice dpa dpn dpc, .int .i64 mk, .int .i64 mf, .int .i64 mt, .int .i64 mx, .bool my, .slice mpa mpn mpc] 37) := by rw [hU]; exact (set_off _ _ _ _ _ (by have := lt_of_heapK RW.out.1.1; omega)).trans (heap_alloc_new wr _)
        have uz : U.heap.size = wr.heap.size + 1 := by rw [hU]; simp [World.setCell]
        obtain ⟨y0, y1, y2⟩ := Bx.cells o1.1
        have y3 : U.cell? ⟨wr.heap.size, 1, none⟩ = some (.int .i64 dt) := by rw [cell_of_row _ wr.heap.size 1 _ _ (0, 0) ub]; rfl
        have HUZ : Hid (U.heap.size = wr.heap.size + 1) := uz
        clear o1 ub uz hU SET k2 k2a
        go_upto_region 10 with fail
        rw [← HU.out]
        clear HU f1 f2 x0 x1 x2
        have UB : Hid (Below U.heap.size U (U.alloc (.cells #[.int .i64 dt] 3))) := below1 _ _
        have AP : Hid (OwnZ (U.alloc (.cells #[.int .i64 dt] 3)) z (.slice a2 n2 c2) Dn ∧ InZ (U.alloc (.cells #[.int .i64 dt] 3)) (some ⟨U.heap.size, 0, none⟩) [dt] ∧ Dn.length + 1 ≤ 17592186044416 ∧ z ≤ (U.alloc (.cells #[.int .i64 dt] 3)).heap.size) := by
          refine ⟨OU.out.2.1.keep UB.out, .inr ⟨U.heap.size, 0, rfl, by simp, fun i v hv => ?_⟩, by have := O1.out.2.2.2; omega, by have := UB.out.size; have := HUZ.out; have := HZW.out; omega⟩
          have hi : i = 0 := by have := (List.getElem?_eq_some_iff.1 hv).1; simpa using this
          subst hi
          simp at hv
          subst hv
          rw [Nat.zero_add, cell_of_row _ U.heap.size 0 _ _ (0, 0) (heap_alloc_new U _)]
          rfl
        go_wp2_with (at_builtin; refine append_ints rfl (.tmp 34) (.tmp 37) rfl z _ Dn rfl AP.out.1 (some ⟨U.heap.size, 0, none⟩) 1 1 [dt] rfl rfl AP.out.2.1 (fun e => by cases e) AP.out.2.2.1 AP.out.2.2.2 ?_; intro v8 w8 o8 g8; have O8 : Hid (OwnZ w8 z v8 (Dn ++ [dt])) := o8; obtain ⟨a8, c8', rfl, -⟩ := O8.out.slice; obtain ⟨n8, hn8⟩ : ∃ n8, n8 = (Dn ++ [dt]).length := ⟨_, rfl⟩; rw [← hn8] at O8 ⊢; have q8 : w8.heap[q]? = some (.cells #[.int .i64 r, .int .i64 0, .slice a2 n2 c2] 24) := ((g8.block q (by have := lt_of_heapK OU.out.1; simp; omega) (fun e => (by obtain ⟨cs, hc⟩ := AP.out.1.blk e.symm; rw [(Below.heap_alloc _ _ _ (lt_of_heapK OU.out.1)).trans OU.out.1] at hc; cases hc))).trans ((Below.heap_alloc _ _ _ (lt_of_heapK OU.out.1)).trans OU.out.1)); have f3 := frozen_blk q8 2; have z2 := (Bx.cells q8).2.2; have Q8 : Hid (w8.heap[q]? = some (.cells #[.int .i64 r, .int .i64 0, .slice a2 n2 c2] 24)) := q8; have B8 : Hid (Below z W0 w8) := ((OU.out.2.2.2.trans (UB.out.mono (by have := HUZ.out; have := HZW.out; omega))).grown g8 (by have := AP.out.2.2.2; omega) (fun k hk => (AP.out.1.own k hk).1)); clear o8 g8 hn8 q8)
        have HR : Hid (OutAt W0 (w8.setCell ⟨q, 2, none⟩ (.slice a8 n8 c8')) z q r 0 a8 n8 c8' (Dn ++ [dt]) ∧ ndA (s, D) (dl.take (j + 1)) = (0, Dn ++ [dt]) ∧ (Dn ++ [dt]).length ≤ 10000 + (j + 1)) := by
          refine ⟨⟨setCell_blk (i := 2) (.slice a8 n8 c8') Q8.out, O8.out.kept fun k hk => set_off w8 q 2 k _ (fun e => ?_), O1.out.2.1, B8.out.grown (grown_setCell w8 q 2 _) (by have := B8.out.size; have := HZ.out; omega) (fun k hk => by cases hk; exact O1.out.2.1)⟩, HA.out, by rw [List.length_append]; have := O1.out.2.2.2; simp; omega⟩
          obtain ⟨cs, hc⟩ := O8.out.blk hk
          rw [e, Q8.out] at hc
          cases hc
        go_roundg (N - (j + 1))
        case measure => omega
        case rel => exact ⟨j + 1, 0, a8, n8, c8', Dn ++ [dt], by omega, rfl, rfl, HR.out⟩
      have k3a : (dk == 3) = false := by simp [k3]
      by_cases k4 : dk = 4
      · have HR : Hid (OutAt W0 ((wr.alloc (.cells #[.int .i64 4, .int .i64 dt, .slice dpa dpn dpc, .int .i64 mk, .int .i64 mf, .int .i64 mt, .int .i64 mx, .bool my, .slice mpa mpn mpc] 37)).setCell ⟨q, 1, none⟩ (.int .i64 0)) z q r 0 a2 n2 c2 Dn ∧ ndA (s, D) (dl.take (j + 1)) = (0, Dn) ∧ Dn.length ≤ 10000 + (j + 1)) := by
          rw [← k4]
          refine ⟨SET.out _ 0 P1.out O1.out.1 O1.out.2.2.1, ?_, by have := O1.out.2.2.2; omega⟩
          rw [HNX.out]; unfold ndS; rw [if_neg k2, if_neg k3, if_pos k4]
        subst k4
        clear SET k2 k3
        go_wp2_with fail
        go_roundg (N - (j + 1))
        case measure => omega
        case rel => exact ⟨j + 1, 0, a2, n2, c2, Dn, by omega, rfl, rfl, HR.out⟩
      have k4a : (dk == 4) = false := by simp [k4]
      have HR : Hid (OutAt W0 (wr.alloc (.cells #[.int .i64 dk, .int .i64 dt, .slice dpa dpn dpc, .int .i64 mk, .int .i64 mf, .int .i64 mt, .int .i64 mx, .bool my, .slice mpa mpn mpc] 37)) z q r S a2 n2 c2 Dn ∧ ndA (s, D) (dl.take (j + 1)) = (S, Dn) ∧ Dn.length ≤ 10000 + (j + 1)) := by
        refine ⟨⟨P1.out, O1.out.1, O1.out.2.1, O1.out.2.2.1⟩, ?_, by have := O1.out.2.2.2; omega⟩
        rw [HNX.out]; unfold ndS; rw [if_neg k2, if_neg k3, if_neg k4]
      clear SET k2 k3 k4
      go_wp2_with fail
      go_roundg (N - (j + 1))
      case measure => omega
      case rel => exact ⟨j + 1, S, a2, n2, c2, Dn, by omega, rfl, rfl, HR.out⟩
    · have j1 : decide ((j : Int) < (N : Int)) = false := by rw [decide_eq_false_iff_not]; omega
      have HE1 : Hid (F1 = (S, Dn)) := by
        have := RW.out.2.1
        rw [List.take_of_length_le (by rw [HV.out.2]; omega), HF1.out] at this
        exact this
      obtain ⟨x0, x1, x2⟩ := Bx.cells RW.out.1.1
      have RB : Hid (wr.heap[w.heap.size + 1]? = some (.cells #[.int .i64 0, .int .i64 0, .slice none 0 0] 24)) := (RW.out.1.2.2.2.block _ (by have := HZ.out; omega)).trans HQ1.out
      go_wp2_with (refine wpList_store_row rfl 24 (.tmp 4) (.tmp 44) rfl (w.heap.size + 1) #[.int .i64 r, .int .i64 S, .slice a2 n2 c2] rfl rfl 24 _ RB.out size3P rfl (by simp [Value.oneCell']) ?_)
      refine bodyPost_ret (results_pt rfl _ _ (w.heap.size + 1) _ rfl rfl (setRow_heap _ _ _ _ _ _ RB.out)) rfl ?_
      have oS : ∀ k, k ≠ w.heap.size + 1 → (wr.setRow (w.heap.size + 1) #[.int .i64 r, .int .i64 S, .slice a2 n2 c2]).heap[k]? = wr.heap[k]? := fun k hk => setRow_other _ _ _ _ hk
      have hz2 := HZ.out
      refine ⟨a2, n2, c2, by rw [HE1.out], ?_, ?_⟩
      · rw [HE1.out]
        refine OwnZ.base (b := z) ?_ (by omega)
        exact RW.out.1.2.1.kept fun k hk => oS k (by have := (RW.out.1.2.1.own k hk).1; omega)
      · have h := HUP.out
        exact ⟨h.os, h.tape, h.output, by rw [setRow_size]; exact h.size, fun k hk => (oS k (by omega)).trans (h.block k hk)⟩
end Go.Proofs.Ytmokonaodoiflaa
