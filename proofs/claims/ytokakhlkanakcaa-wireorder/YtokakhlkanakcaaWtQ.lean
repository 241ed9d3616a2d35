/- The document's Same of packages (gen_pu.py). -/
import Derived.Test.YtokakhlkanakcaaWtP
namespace Go.Proofs.Ytokakhlkanakcaa
open Go.ChangeShapes Go.WideShapes Go.ChangeAt Go.RowKit Go.Deep Go.Maps
set_option linter.unusedVariables false
set_option linter.unusedSimpArgs false
theorem pkc_sub {w : World} {b o : Nat} {x : Pk} (h : Pkc w b o x) : w.cell? ⟨b, o, none⟩ = some (.int .i64 x.o) ∧ w.cell? ⟨b, o + 1, none⟩ = some (.string (tx x.n)) ∧ w.cell? ⟨b, o + 1 + 1, none⟩ = some (.string (tx x.v)) ∧ w.cell? ⟨b, o + 1 + 2, none⟩ = some (.slice x.la x.ln x.lc) := h
set_option maxRecDepth 100000 in
set_option maxHeartbeats 8000000 in
theorem rpsame_true (w : World) (a1 a2 : Option Addr) (n c1 c2 : Nat) (L1 L2 : List Pk) (h1 : L1.length = n) (i1 : InPk w a1 L1) (i2 : InPk w a2 L2) (hk : Alike L1 L2) (hN : n ≤ 1000000) :
    Calls Try.prog 46 #[.slice a1 n c1, .slice a2 n c2] w fun e w' => e = .returned (.bool true) ∧ Below w.heap.size w w' := by
  have HL : Hid (InPk w a1 L1 ∧ InPk w a2 L2 ∧ Alike L1 L2 ∧ L1.length = n) := ⟨i1, i2, hk, h1⟩
  clear h1 i1 i2 hk
  go_enter Try.func46, Try.ntmps46
  go_wp2_with fail
  go_loopg [5] n (fun g i wr => ∃ j : Nat, j ≤ n ∧ g = n - j ∧ i = .int .i64 (j : Int) ∧ Hid (Below w.heap.size w wr))
  case atStart => exact ⟨0, Nat.zero_le _, rfl, rfl, Below.refl _ _⟩
  obtain ⟨j, hj, rfl, rfl, RW⟩ := hrel
  by_cases hlt : j < n
  · have j1 : decide ((j : Int) < (n : Int)) = true := by rw [decide_eq_true_eq]; omega
    have j2 : (j : Int) < (n : Int) := by omega
    obtain ⟨x, hx⟩ : ∃ x, L1[j]? = some x := ⟨L1[j]'(by rw [HL.out.2.2.2]; exact hlt), by simp [HL.out.2.2.2, hlt]⟩
    obtain ⟨y, hy⟩ : ∃ y, L2[j]? = some y := ⟨L2[j]'(by rw [← HL.out.2.2.1.1, HL.out.2.2.2]; exact hlt), by simp [← HL.out.2.2.1.1, HL.out.2.2.2, hlt]⟩
    obtain ⟨b1, o1, rfl, hb1, p1, k1⟩ := (HL.out.1.keep RW.out).at hx
    obtain ⟨b2, o2, rfl, hb2, p2, k2⟩ := (HL.out.2.1.keep RW.out).at hy
    obtain ⟨q1, q2, q3, q4⟩ := HL.out.2.2.1.2 j x y hx hy
    have KX : Hid (∀ W, Below wr.heap.size wr W → W.cell? ⟨b1, o1 + j * 4, none⟩ = some (.int .i64 x.o) ∧ W.cell? ⟨b1, o1 + j * 4 + 1, none⟩ = some (.string (tx x.n)) ∧ W.cell? ⟨b1, o1 + j * 4 + 1 + 1, none⟩ = some (.string (tx x.v)) ∧ W.cell? ⟨b1, o1 + j * 4 + 1 + 2, none⟩ = some (.slice x.la x.ln x.lc)) := fun W hW => pkc_sub (p1.kept (hW.block b1 hb1))
    have KY : Hid (∀ W, Below wr.heap.size wr W → W.cell? ⟨b2, o2 + j * 4, none⟩ = some (.int .i64 y.o) ∧ W.cell? ⟨b2, o2 + j * 4 + 1, none⟩ = some (.string (tx y.n)) ∧ W.cell? ⟨b2, o2 + j * 4 + 1 + 1, none⟩ = some (.string (tx y.v)) ∧ W.cell? ⟨b2, o2 + j * 4 + 1 + 2, none⟩ = some (.slice y.la y.ln y.lc)) := fun W hW => pkc_sub (p2.kept (hW.block b2 hb2))
    have KS : Hid (∀ W, Below wr.heap.size wr W → Calls Try.prog 53 #[.agg #[.string (tx x.n), .string (tx x.v), .slice x.la x.ln x.lc], .agg #[.string (tx y.n), .string (tx y.v), .slice y.la y.ln y.lc]] W fun e w' => e = .returned (.bool true) ∧ Below W.heap.size W w') := fun W hW => by
      have hr := rmsame_is x.mf y.mf x.ln y.ln x.lc y.lc x.la y.la W k1.len k2.len (by have := k1.big; omega) (by have := k2.big; omega) k1.dg k2.dg (k1.inr.keep hW) (k2.inr.keep hW)
      rw [show decide (x.mf = y.mf) = true by rw [decide_eq_true_eq]; unfold Pk.mf; rw [q2, q3, q4]] at hr
      exact hr
    have e0 : (x.o != y.o) = false := by rw [q1]; simp
    have ri : IntKind.i64.wrap ((j : Int) + 1) = (j : Int) + 1 := by rw [IntKind.wrap_i64]; omega
    clear hx hy p1 p2 k1 k2 q1 q2 q3 q4 hb1 hb2
    go_wp2_with fail
    refine wp_region_noPanic ?_
    refine wp_region_held_drew (S := (fun u : World => Below wr.heap.size wr u)) (by kernel_rfl) ?hSap (fun hHeld => ?restap)
    case hSap => exact (Below.refl _ _).drew
    case restap =>
    refine wpAnyH_take (i := 0) (v := .slice (some ⟨b1, o1, none⟩) n c1) rfl (by kernel_rfl) (by kernel_rfl) (by kernel_rfl) (fun _ _ _ h => h) (Or.inl ⟨by kernel_rfl, ?hy0p⟩) hHeld ?rest0p
    case hy0p => (intro w' hSw; go_simp; try with_reducible rfl)
    try simp only [Act.put, List.setIfInBounds_toArray, List.set_cons_zero, List.set_cons_succ, List.getElem_toArray, List.getElem_cons_zero, List.getElem_cons_succ]
    refine wpAnyH_take (i := 1) (v := .int .i64 (j : Int)) rfl (by kernel_rfl) (by kernel_rfl) (by kernel_rfl) (fun _ _ _ h => h) (Or.inl ⟨by kernel_rfl, ?hy1p⟩) hHeld ?rest1p
    case hy1p => (intro w' hSw; go_simp; try with_reducible rfl)
    try simp only [Act.put, List.setIfInBounds_toArray, List.set_cons_zero, List.set_cons_succ, List.getElem_toArray, List.getElem_cons_zero, List.getElem_cons_succ]
    refine wpAnyH_take (i := 2) (v := .pointer (some ⟨b1, o1 + j * 4, none⟩)) rfl (by kernel_rfl) (by kernel_rfl) (by kernel_rfl) (fun _ _ _ h => h) (Or.inl ⟨by kernel_rfl, ?hy2p⟩) hHeld ?rest2p
    case hy2p => (intro w' hSw; go_simp; try with_reducible rfl)
    try simp only [Act.put, List.setIfInBounds_toArray, List.set_cons_zero, List.set_cons_succ, List.getElem_toArray, List.getElem_cons_zero, List.getElem_cons_succ]
    refine wpAnyH_take (i := 3) (v := .pointer (some ⟨b1, o1 + j * 4, none⟩)) rfl (by kernel_rfl) (by kernel_rfl) (by kernel_rfl) (fun _ _ _ h => h) (Or.inl ⟨by kernel_rfl, ?hy3p⟩) hHeld ?rest3p
    case hy3p => (intro w' hSw; go_simp; try with_reducible rfl)
    try simp only [Act.put, List.setIfInBounds_toArray, List.set_cons_zero, List.set_cons_succ, List.getElem_toArray, List.getElem_cons_zero, List.getElem_cons_succ]
    refine wpAnyH_take (i := 4) (v := .int .i64 x.o) rfl (by kernel_rfl) (by kernel_rfl) (by kernel_rfl) (fun _ _ _ h => h) (Or.inl ⟨by kernel_rfl, ?hy4p⟩) hHeld ?rest4p
    case hy4p => (intro w' hSw; obtain ⟨s0, s1, s2, s3⟩ := KX.out _ hSw; go_simp; try with_reducible rfl)
    try simp only [Act.put, List.setIfInBounds_toArray, List.set_cons_zero, List.set_cons_succ, List.getElem_toArray, List.getElem_cons_zero, List.getElem_cons_succ]
    refine wpAnyH_take (i := 5) (v := .slice (some ⟨b2, o2, none⟩) n c2) rfl (by kernel_rfl) (by kernel_rfl) (by kernel_rfl) (fun _ _ _ h => h) (Or.inl ⟨by kernel_rfl, ?hy5p⟩) hHeld ?rest5p
    case hy5p => (intro w' hSw; go_simp; try with_reducible rfl)
    try simp only [Act.put, List.setIfInBounds_toArray, List.set_cons_zero, List.set_cons_succ, List.getElem_toArray, List.getElem_cons_zero, List.getElem_cons_succ]
    refine wpAnyH_take (i := 6) (v := .int .i64 (j : Int)) rfl (by kernel_rfl) (by kernel_rfl) (by kernel_rfl) (fun _ _ _ h => h) (Or.inl ⟨by kernel_rfl, ?hy6p⟩) hHeld ?rest6p
    case hy6p => (intro w' hSw; go_simp; try with_reducible rfl)
    try simp only [Act.put, List.setIfInBounds_toArray, List.set_cons_zero, List.set_cons_succ, List.getElem_toArray, List.getElem_cons_zero, List.getElem_cons_succ]
    refine wpAnyH_take (i := 7) (v := .pointer (some ⟨b2, o2 + j * 4, none⟩)) rfl (by kernel_rfl) (by kernel_rfl) (by kernel_rfl) (fun _ _ _ h => h) (Or.inl ⟨by kernel_rfl, ?hy7p⟩) hHeld ?rest7p
    case hy7p => (intro w' hSw; go_simp; try with_reducible rfl)
    try simp only [Act.put, List.setIfInBounds_toArray, List.set_cons_zero, List.set_cons_succ, List.getElem_toArray, List.getElem_cons_zero, List.getElem_cons_succ]
    refine wpAnyH_take (i := 8) (v := .pointer (some ⟨b2, o2 + j * 4, none⟩)) rfl (by kernel_rfl) (by kernel_rfl) (by kernel_rfl) (fun _ _ _ h => h) (Or.inl ⟨by kernel_rfl, ?hy8p⟩) hHeld ?rest8p
    case hy8p => (intro w' hSw; go_simp; try with_reducible rfl)
    try simp only [Act.put, List.setIfInBounds_toArray, List.set_cons_zero, List.set_cons_succ, List.getElem_toArray, List.getElem_cons_zero, List.getElem_cons_succ]
    refine wpAnyH_take (i := 9) (v := .int .i64 y.o) rfl (by kernel_rfl) (by kernel_rfl) (by kernel_rfl) (fun _ _ _ h => h) (Or.inl ⟨by kernel_rfl, ?hy9p⟩) hHeld ?rest9p
    case hy9p => (intro w' hSw; obtain ⟨s0, s1, s2, s3⟩ := KY.out _ hSw; go_simp; try with_reducible rfl)
    try simp only [Act.put, List.setIfInBounds_toArray, List.set_cons_zero, List.set_cons_succ, List.getElem_toArray, List.getElem_cons_zero, List.getElem_cons_succ]
    refine wpAnyH_take (i := 10) (v := .bool false) rfl (by kernel_rfl) (by kernel_rfl) (by kernel_rfl) (fun _ _ _ h => h) (Or.inl ⟨by kernel_rfl, ?hy10p⟩) hHeld ?rest10p
    case hy10p => (intro w' hSw; go_simp; try with_reducible rfl)
    try simp only [Act.put, List.setIfInBounds_toArray, List.set_cons_zero, List.set_cons_succ, List.getElem_toArray, List.getElem_cons_zero, List.getElem_cons_succ]
    refine wpAnyH_take (i := 11) (v := .bool false) rfl (by kernel_rfl) (by kernel_rfl) (by kernel_rfl) (fun _ _ _ h => h) (Or.inl ⟨by kernel_rfl, ?hy11p⟩) hHeld ?rest11p
    case hy11p => (intro w' hSw; go_simp; try with_reducible rfl)
    try simp only [Act.put, List.setIfInBounds_toArray, List.set_cons_zero, List.set_cons_succ, List.getElem_toArray, List.getElem_cons_zero, List.getElem_cons_succ]
    refine wpAnyH_take (i := 12) (v := .slice (some ⟨b1, o1, none⟩) n c1) rfl (by kernel_rfl) (by kernel_rfl) (by kernel_rfl) (fun _ _ _ h => h) (Or.inl ⟨by kernel_rfl, ?hy12p⟩) hHeld ?rest12p
    case hy12p => (intro w' hSw; go_simp; try with_reducible rfl)
    try simp only [Act.put, List.setIfInBounds_toArray, List.set_cons_zero, List.set_cons_succ, List.getElem_toArray, List.getElem_cons_zero, List.getElem_cons_succ]
    refine wpAnyH_take (i := 13) (v := .int .i64 (j : Int)) rfl (by kernel_rfl) (by kernel_rfl) (by kernel_rfl) (fun _ _ _ h => h) (Or.inl ⟨by kernel_rfl, ?hy13p⟩) hHeld ?rest13p
    case hy13p => (intro w' hSw; go_simp; try with_reducible rfl)
    try simp only [Act.put, List.setIfInBounds_toArray, List.set_cons_zero, List.set_cons_succ, List.getElem_toArray, List.getElem_cons_zero, List.getElem_cons_succ]
    refine wpAnyH_take (i := 14) (v := .pointer (some ⟨b1, o1 + j * 4, none⟩)) rfl (by kernel_rfl) (by kernel_rfl) (by kernel_rfl) (fun _ _ _ h => h) (Or.inl ⟨by kernel_rfl, ?hy14p⟩) hHeld ?rest14p
    case hy14p => (intro w' hSw; go_simp; try with_reducible rfl)
    try simp only [Act.put, List.setIfInBounds_toArray, List.set_cons_zero, List.set_cons_succ, List.getElem_toArray, List.getElem_cons_zero, List.getElem_cons_succ]
    refine wpAnyH_take (i := 15) (v := .pointer (some ⟨b1, o1 + j * 4 + 1, none⟩)) rfl (by kernel_rfl) (by kernel_rfl) (by kernel_rfl) (fun _ _ _ h => h) (Or.inl ⟨by kernel_rfl, ?hy15p⟩) hHeld ?rest15p
    case hy15p => (intro w' hSw; go_simp; try with_reducible rfl)
    try simp only [Act.put, List.setIfInBounds_toArray, List.set_cons_zero, List.set_cons_succ, List.getElem_toArray, List.getElem_cons_zero, List.getElem_cons_succ]
    refine wpAnyH_take (i := 16) (v := .agg #[.string (tx x.n), .string (tx x.v), .slice x.la x.ln x.lc]) rfl (by kernel_rfl) (by kernel_rfl) (by kernel_rfl) (fun _ _ _ h => h) (Or.inl ⟨by kernel_rfl, ?hy16p⟩) hHeld ?rest16p
    case hy16p => (intro w' hSw; obtain ⟨s0, s1, s2, s3⟩ := KX.out _ hSw; go_simp; try with_reducible rfl)
    try simp only [Act.put, List.setIfInBounds_toArray, List.set_cons_zero, List.set_cons_succ, List.getElem_toArray, List.getElem_cons_zero, List.getElem_cons_succ]
    refine wpAnyH_take (i := 17) (v := .slice (some ⟨b2, o2, none⟩) n c2) rfl (by kernel_rfl) (by kernel_rfl) (by kernel_rfl) (fun _ _ _ h => h) (Or.inl ⟨by kernel_rfl, ?hy17p⟩) hHeld ?rest17p
    case hy17p => (intro w' hSw; go_simp; try with_reducible rfl)
    try simp only [Act.put, List.setIfInBounds_toArray, List.set_cons_zero, List.set_cons_succ, List.getElem_toArray, List.getElem_cons_zero, List.getElem_cons_succ]
    refine wpAnyH_take (i := 18) (v := .int .i64 (j : Int)) rfl (by kernel_rfl) (by kernel_rfl) (by kernel_rfl) (fun _ _ _ h => h) (Or.inl ⟨by kernel_rfl, ?hy18p⟩) hHeld ?rest18p
    case hy18p => (intro w' hSw; go_simp; try with_reducible rfl)
    try simp only [Act.put, List.setIfInBounds_toArray, List.set_cons_zero, List.set_cons_succ, List.getElem_toArray, List.getElem_cons_zero, List.getElem_cons_succ]
    refine wpAnyH_take (i := 19) (v := .pointer (some ⟨b2, o2 + j * 4, none⟩)) rfl (by kernel_rfl) (by kernel_rfl) (by kernel_rfl) (fun _ _ _ h => h) (Or.inl ⟨by kernel_rfl, ?hy19p⟩) hHeld ?rest19p
    case hy19p => (intro w' hSw; go_simp; try with_reducible rfl)
    try simp only [Act.put, List.setIfInBounds_toArray, List.set_cons_zero, List.set_cons_succ, List.getElem_toArray, List.getElem_cons_zero, List.getElem_cons_succ]
    refine wpAnyH_take (i := 20) (v := .pointer (some ⟨b2, o2 + j * 4 + 1, none⟩)) rfl (by kernel_rfl) (by kernel_rfl) (by kernel_rfl) (fun _ _ _ h => h) (Or.inl ⟨by kernel_rfl, ?hy20p⟩) hHeld ?rest20p
    case hy20p => (intro w' hSw; go_simp; try with_reducible rfl)
    try simp only [Act.put, List.setIfInBounds_toArray, List.set_cons_zero, List.set_cons_succ, List.getElem_toArray, List.getElem_cons_zero, List.getElem_cons_succ]
    refine wpAnyH_take (i := 21) (v := .agg #[.string (tx y.n), .string (tx y.v), .slice y.la y.ln y.lc]) rfl (by kernel_rfl) (by kernel_rfl) (by kernel_rfl) (fun _ _ _ h => h) (Or.inl ⟨by kernel_rfl, ?hy21p⟩) hHeld ?rest21p
    case hy21p => (intro w' hSw; obtain ⟨s0, s1, s2, s3⟩ := KY.out _ hSw; go_simp; try with_reducible rfl)
    try simp only [Act.put, List.setIfInBounds_toArray, List.set_cons_zero, List.set_cons_succ, List.getElem_toArray, List.getElem_cons_zero, List.getElem_cons_succ]
    refine wpAnyH_ready (rs := [22]) (by kernel_rfl) (by simp) ?_
    refine AllReadyH.cons rfl (fun K hK => ?_) AllReadyH.nil
    go_simp; refine (KS.out _ hHeld).mono ?_; rintro e w8 ⟨rfl, b8⟩; have B8 : Hid (Below wr.heap.size wr w8) := (hHeld : Below _ _ _).trans (b8.mono (hHeld : Below _ _ _).size); clear b8; go_wp2_with fail
    refine hK.out _ _ ?hS22p (fun hHeld => ?rest22p)
    case hS22p => exact B8.out
    clear hK K
    try simp only [Act.put, List.setIfInBounds_toArray, List.set_cons_zero, List.set_cons_succ, List.getElem_toArray, List.getElem_cons_zero, List.getElem_cons_succ]
    refine wpAnyH_take (i := 23) (v := .bool false) rfl (by kernel_rfl) (by kernel_rfl) (by kernel_rfl) (fun _ _ _ h => h) (Or.inl ⟨by kernel_rfl, ?hy23p⟩) hHeld ?rest23p
    case hy23p => (intro w' hSw; go_simp; try with_reducible rfl)
    try simp only [Act.put, List.setIfInBounds_toArray, List.set_cons_zero, List.set_cons_succ, List.getElem_toArray, List.getElem_cons_zero, List.getElem_cons_succ]
    refine wpAnyH_take (i := 24) (v := .bool false) rfl (by kernel_rfl) (by kernel_rfl) (by kernel_rfl) (fun _ _ _ h => h) (Or.inl ⟨by kernel_rfl, ?hy24p⟩) hHeld ?rest24p
    case hy24p => (intro w' hSw; go_simp; try with_reducible rfl)
    try simp only [Act.put, List.setIfInBounds_toArray, List.set_cons_zero, List.set_cons_succ, List.getElem_toArray, List.getElem_cons_zero, List.getElem_cons_succ]
    refine wpAnyH_done (by kernel_rfl) ?_ _
    refine NoPanic.normal ?_
    go_wp2_with fail
    go_roundg (n - (j + 1))
    case measure => omega
    case rel => exact ⟨j + 1, by omega, rfl, by push_cast; rfl, RW.out.trans (B8.out.mono RW.out.size)⟩
  · have j1 : decide ((j : Int) < (n : Int)) = false := by rw [decide_eq_false_iff_not]; omega
    go_wp2_with fail
    go_ret
    exact ⟨rfl, RW.out⟩
set_option maxRecDepth 100000 in
set_option maxHeartbeats 8000000 in
theorem rmsg_same (w : World) (k f t x : Int) (y : Bool) (a1 a2 : Option Addr) (n c1 c2 : Nat) (L1 L2 : List Pk) (h1 : MsgAt w a1 n c1 L1) (h2 : MsgAt w a2 n c2 L2) (hk : Alike L1 L2) : Calls Try.prog 23 #[.agg #[.int .i64 k, .int .i64 f, .int .i64 t, .int .i64 x, .bool y, .slice a1 n c1], .agg #[.int .i64 k, .int .i64 f, .int .i64 t, .int .i64 x, .bool y, .slice a2 n c2]] w fun e w' => e = .returned (.bool true) ∧ Below w.heap.size w w' := by
  have HB : Hid (∀ o p, Below w.heap.size w ((w.alloc o).alloc p)) := fun o p => ((Below.refl _ _).alloc (Nat.le_refl _) _).alloc (by simp) _
  have K : Hid (∀ W, Below w.heap.size w W → Calls Try.prog 46 #[.slice a1 n c1, .slice a2 n c2] W fun e w' => e = .returned (.bool true) ∧ Below W.heap.size W w') := fun W hW => rpsame_true W a1 a2 n c1 c2 L1 L2 h1.len (h1.inp.keep hW) (h2.inp.keep hW) hk (by have := h1.big; omega)
  have yy : (y == y) = true := by simp
  clear h1 h2 hk
  go_enter Try.func23, Try.ntmps23
  go_wp2_with (go_at_call 46; refine (K.out _ (HB.out _ _)).mono ?_; rintro e9 w9 ⟨rfl, b9⟩; have B9 : Hid (Below w.heap.size w w9) := (HB.out _ _).trans (b9.mono (HB.out _ _).size); clear b9)
  go_ret
  exact ⟨rfl, B9.out⟩
end Go.Proofs.Ytokakhlkanakcaa
