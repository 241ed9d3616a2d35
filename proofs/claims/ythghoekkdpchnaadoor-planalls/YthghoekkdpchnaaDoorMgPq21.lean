/- The document's Same of packages (gen_pu.py). The document's Check and Do of operations (gen_pok.py). -/
import Derived.Test.YthghoekkdpchnaaDoorMgPq20
import Derived.Test.YthghoekkdpchnaaDoorMgPq12
import Derived.Test.YthghoekkdpchnaaDoorMgPq19
namespace Go.Proofs.YthghoekkdpchnaaDoor
open Go.ChangeShapes Go.WideShapes Go.ChangeAt Go.RowKit Go.Deep Go.Maps
set_option linter.unusedVariables false
set_option linter.unusedSimpArgs false
/-- packages that tell the same, wherever their layers lie -/
def Alike (L1 L2 : List Pk) : Prop := L1.length = L2.length ∧ ∀ (i : Nat) (x y : Pk), L1[i]? = some x → L2[i]? = some y → x.o = y.o ∧ x.n = y.n ∧ x.v = y.v ∧ x.l = y.l
theorem Alike.refl (L : List Pk) : Alike L L := ⟨rfl, fun i x y h1 h2 => by rw [h1] at h2; cases h2; exact ⟨rfl, rfl, rfl, rfl⟩⟩
theorem pkc_sub {w : World} {b o : Nat} {x : Pk} (h : Pkc w b o x) : w.cell? ⟨b, o, none⟩ = some (.int .i64 x.o) ∧ w.cell? ⟨b, o + 1, none⟩ = some (.string (tx x.n)) ∧ w.cell? ⟨b, o + 1 + 1, none⟩ = some (.string (tx x.v)) ∧ w.cell? ⟨b, o + 1 + 2, none⟩ = some (.slice x.la x.ln x.lc) := h
set_option maxRecDepth 100000 in
set_option maxHeartbeats 8000000 in
theorem rpsame_true (w : World) (a1 a2 : Option Addr) (n c1 c2 : Nat) (L1 L2 : List Pk) (h1 : L1.length = n) (i1 : InPk w a1 L1) (i2 : InPk w a2 L2) (hk : Alike L1 L2) (hN : n ≤ 1000000) :
    Calls Tryd.prog 29 #[.slice a1 n c1, .slice a2 n c2] w fun e w' => e = .returned (.bool true) ∧ Below w.heap.size w w' := by
  have HL : Hid (InPk w a1 L1 ∧ InPk w a2 L2 ∧ Alike L1 L2 ∧ L1.length = n) := ⟨i1, i2, hk, h1⟩
  clear h1 i1 i2 hk
  go_enter Tryd.func29, Tryd.ntmps29
  go_wp2_with fail
  go_loopg [5] n (fun g i wr => ∃ j : Nat, j ≤ n ∧ g = n - j ∧ i = .int .i64 (j : Int) ∧ Hid (Below w.heap.size w wr))
  case atStart => exact ⟨0, Nat.zero_le _, rfl, rfl, Below.refl _ _⟩
  obtain ⟨j, hj, rfl, rfl, RW⟩ := hrel
  by_cases hlt : j < n
  · have j1 : decide ((j : Int) < (n : Int)) = true := by rw [decide_eq_true_eq]; omega
    have j2 : (j : Int) < (n : Int) := by omega
    obtain ⟨x, hx⟩ : ∃ x, L1[j]? = some x := ⟨L1[j]'(by rw [HL.out.2.2.2]; exact hlt), by simp [HL.out.2.2.2, hlt]⟩
    obtain ⟨y, hy⟩ : ∃ y, L2[j]? = some y := ⟨L2[j]'(by rw [← HL.out.2.2.1.1, HL.out.2.2.2]; exact hlt), by simp [← HL.out.2.2.1.1, HL.out.2.2.2, hlt]⟩
    obtain ⟨b1, o1, rfl, hb1, p1, k1⟩ := (HL.out.1.keep RW.out).at hx
    obtain ⟨b2, o2, rfl, hb2, p2, k2⟩ := (HL.out.2.1.keep RW.out).at hy
    obtain ⟨q1, q2, q3, q4⟩ := HL.out.2.2.1.2 j x y hx hy
    have KX : Hid (∀ W, Below wr.heap.size wr W → W.cell? ⟨b1, o1 + j * 4, none⟩ = some (.int .i64 x.o) ∧ W.cell? ⟨b1, o1 + j * 4 + 1, none⟩ = some (.string (tx x.n)) ∧ W.cell? ⟨b1, o1 + j * 4 + 1 + 1, none⟩ = some (.string (tx x.v)) ∧ W.cell? ⟨b1, o1 + j * 4 + 1 + 2, none⟩ = some (.slice x.la x.ln x.lc)) := fun W hW => pkc_sub (p1.kept (hW.block b1 hb1))
    have KY : Hid (∀ W, Below wr.heap.size wr W → W.cell? ⟨b2, o2 + j * 4, none⟩ = some (.int .i64 y.o) ∧ W.cell? ⟨b2, o2 + j * 4 + 1, none⟩ = some (.string (tx y.n)) ∧ W.cell? ⟨b2, o2 + j * 4 + 1 + 1, none⟩ = some (.string (tx y.v)) ∧ W.cell? ⟨b2, o2 + j * 4 + 1 + 2, none⟩ = some (.slice y.la y.ln y.lc)) := fun W hW => pkc_sub (p2.kept (hW.block b2 hb2))
    have KS : Hid (∀ W, Below wr.heap.size wr W → Calls Tryd.prog 50 #[.agg #[.string (tx x.n), .string (tx x.v), .slice x.la x.ln x.lc], .agg #[.string (tx y.n), .string (tx y.v), .slice y.la y.ln y.lc]] W fun e w' => e = .returned (.bool true) ∧ Below W.heap.size W w') := fun W hW => by
      have hr := rmsame_is x.mf y.mf x.ln y.ln x.lc y.lc x.la y.la W k1.len k2.len (by have := k1.big; omega) (by have := k2.big; omega) k1.dg k2.dg (k1.inr.keep hW) (k2.inr.keep hW)
      rw [show decide (x.mf = y.mf) = true by rw [decide_eq_true_eq]; unfold Pk.mf; rw [q2, q3, q4]] at hr
      exact hr
    have e0 : (x.o != y.o) = false := by rw [q1]; simp
    have ri : IntKind.i64.wrap ((j : Int) + 1) = (j : Int) + 1 := by rw [IntKind.wrap_i64]; omega
    clear hx hy p1 p2 k1 k2 q1 q2 q3 q4 hb1 hb2
    go_wp2_with fail
    refine wp_region_noPanic ?_
    refine wp_region_held_drew (S := (fun u : World => Below wr.heap.size wr u)) (by kernel_rfl) ?hSap (fun hHeld => ?restap)
    case hSap => exact (Below.refl _ _).drew
    case restap =>
    refine wpAnyH_take (i := 0) (v := .slice (some ⟨b1, o1, none⟩) n c1) rfl (by kernel_rfl) (by kernel_rfl) (by kernel_rfl) (fun _ _ _ h => h) (Or.inl ⟨by kernel_rfl, ?hy0p⟩) hHeld ?rest0p
    case hy0p => (intro w' hSw; go_simp; try with_reducible rfl)
    try simp only [Act.put, List.setIfInBounds_toArray, List.set_cons_zero, List.set_cons_succ, List.getElem_toArray, List.getElem_cons_zero, List.getElem_cons_succ]
    refine wpAnyH_take (i := 1) (v := .int .i64 (j : Int)) rfl (by kernel_rfl) (by kernel_rfl) (by kernel_rfl) (fun _ _ _ h => h) (Or.inl ⟨by kernel_rfl, ?hy1p⟩) hHeld ?rest1p
    case hy1p => (intro w' hSw; go_simp; try with_reducible rfl)
    try simp only [Act.put, List.setIfInBounds_toArray, List.set_cons_zero, List.set_cons_succ, List.getElem_toArray, List.getElem_cons_zero, List.getElem_cons_succ]
    refine wpAnyH_take (i := 2) (v := .pointer (some ⟨b1, o1 + j * 4, none⟩)) rfl (by kernel_rfl) (by kernel_rfl) (by kernel_rfl) (fun _ _ _ h => h) (Or.inl ⟨by kernel_rfl, ?hy2p⟩) hHeld ?rest2p
    case hy2p => (intro w' hSw; go_simp; try with_reducible rfl)
    try simp only [Act.put, List.setIfInBounds_toArray, List.set_cons_zero, List.set_cons_succ, List.getElem_toArray, List.getElem_cons_zero, List.getElem_cons_succ]
    refine wpAnyH_take (i := 3) (v := .pointer (some ⟨b1, o1 + j * 4, none⟩)) rfl (by kernel_rfl) (by kernel_rfl) (by kernel_rfl) (fun _ _ _ h => h) (Or.inl ⟨by kernel_rfl, ?hy3p⟩) hHeld ?rest3p
    case hy3p => (intro w' hSw; go_simp; try with_reducible rfl)
    try simp only [Act.put, List.setIfInBounds_toArray, List.set_cons_zero, List.set_cons_succ, List.getElem_toArray, List.getElem_cons_zero, List.getElem_cons_succ]
    refine wpAnyH_take (i := 4) (v := .int .i64 x.o) rfl (by kernel_rfl) (by kernel_rfl) (by kernel_rfl) (fun _ _ _ h => h) (Or.inl ⟨by kernel_rfl, ?hy4p⟩) hHeld ?rest4p
    case hy4p => (intro w' hSw; obtain ⟨s0, s1, s2, s3⟩ := KX.out _ hSw; go_simp; try with_reducible rfl)
    try simp only [Act.put, List.setIfInBounds_toArray, List.set_cons_zero, List.set_cons_succ, List.getElem_toArray, List.getElem_cons_zero, List.getElem_cons_succ]
    refine wpAnyH_take (i := 5) (v := .slice (some ⟨b2, o2, none⟩) n c2) rfl (by kernel_rfl) (by kernel_rfl) (by kernel_rfl) (fun _ _ _ h => h) (Or.inl ⟨by kernel_rfl, ?hy5p⟩) hHeld ?rest5p
    case hy5p => (intro w' hSw; go_simp; try with_reducible rfl)
    try simp only [Act.put, List.setIfInBounds_toArray, List.set_cons_zero, List.set_cons_succ, List.getElem_toArray, List.getElem_cons_zero, List.getElem_cons_succ]
    refine wpAnyH_take (i := 6) (v := .int .i64 (j : Int)) rfl (by kernel_rfl) (by kernel_rfl) (by kernel_rfl) (fun _ _ _ h => h) (Or.inl ⟨by kernel_rfl, ?hy6p⟩) hHeld ?rest6p
    case hy6p => (intro w' hSw; go_simp; try with_reducible rfl)
    try simp only [Act.put, List.setIfInBounds_toArray, List.set_cons_zero, List.set_cons_succ, List.getElem_toArray, List.getElem_cons_zero, List.getElem_cons_succ]
    refine wpAnyH_take (i := 7) (v := .pointer (some ⟨b2, o2 + j * 4, none⟩)) rfl (by kernel_rfl) (by kernel_rfl) (by kernel_rfl) (fun _ _ _ h => h) (Or.inl ⟨by kernel_rfl, ?hy7p⟩) hHeld ?rest7p
    case hy7p => (intro w' hSw; go_simp; try with_reducible rfl)
    try simp only [Act.put, List.setIfInBounds_toArray, List.set_cons_zero, List.set_cons_succ, List.getElem_toArray, List.getElem_cons_zero, List.getElem_cons_succ]
    refine wpAnyH_take (i := 8) (v := .pointer (some ⟨b2, o2 + j * 4, none⟩)) rfl (by kernel_rfl) (by kernel_rfl) (by kernel_rfl) (fun _ _ _ h => h) (Or.inl ⟨by kernel_rfl, ?hy8p⟩) hHeld ?rest8p
    case hy8p => (intro w' hSw; go_simp; try with_reducible rfl)
    try simp only [Act.put, List.setIfInBounds_toArray, List.set_cons_zero, List.set_cons_succ, List.getElem_toArray, List.getElem_cons_zero, List.getElem_cons_succ]
    refine wpAnyH_take (i := 9) (v := .int .i64 y.o) rfl (by kernel_rfl) (by kernel_rfl) (by kernel_rfl) (fun _ _ _ h => h) (Or.inl ⟨by kernel_rfl, ?hy9p⟩) hHeld ?rest9p
    case hy9p => (intro w' hSw; obtain ⟨s0, s1, s2, s3⟩ := KY.out _ hSw; go_simp; try with_reducible rfl)
    try simp only [Act.put, List.setIfInBounds_toArray, List.set_cons_zero, List.set_cons_succ, List.getElem_toArray, List.getElem_cons_zero, List.getElem_cons_succ]
    refine wpAnyH_take (i := 10) (v := .bool false) rfl (by kernel_rfl) (by kernel_rfl) (by kernel_rfl) (fun _ _ _ h => h) (Or.inl ⟨by kernel_rfl, ?hy10p⟩) hHeld ?rest10p
    case hy10p => (intro w' hSw; go_simp; try with_reducible rfl)
    try simp only [Act.put, List.setIfInBounds_toArray, List.set_cons_zero, List.set_cons_succ, List.getElem_toArray, List.getElem_cons_zero, List.getElem_cons_succ]
    refine wpAnyH_take (i := 11) (v := .bool false) rfl (by kernel_rfl) (by kernel_rfl) (by kernel_rfl) (fun _ _ _ h => h) (Or.inl ⟨by kernel_rfl, ?hy11p⟩) hHeld ?rest11p
    case hy11p => (intro w' hSw; go_simp; try with_reducible rfl)
    try simp only [Act.put, List.setIfInBounds_toArray, List.set_cons_zero, List.set_cons_succ, List.getElem_toArray, List.getElem_cons_zero, List.getElem_cons_succ]
    refine wpAnyH_take (i := 12) (v := .slice (some ⟨b1, o1, none⟩) n c1) rfl (by kernel_rfl) (by kernel_rfl) (by kernel_rfl) (fun _ _ _ h => h) (Or.inl ⟨by kernel_rfl, ?hy12p⟩) hHeld ?rest12p
    case hy12p => (intro w' hSw; go_simp; try with_reducible rfl)
    try simp only [Act.put, List.setIfInBounds_toArray, List.set_cons_zero, List.set_cons_succ, List.getElem_toArray, List.getElem_cons_zero, List.getElem_cons_succ]
    refine wpAnyH_take (i := 13) (v := .int .i64 (j : Int)) rfl (by kernel_rfl) (by kernel_rfl) (by kernel_rfl) (fun _ _ _ h => h) (Or.inl ⟨by kernel_rfl, ?hy13p⟩) hHeld ?rest13p
    case hy13p => (intro w' hSw; go_simp; try with_reducible rfl)
    try simp only [Act.put, List.setIfInBounds_toArray, List.set_cons_zero, List.set_cons_succ, List.getElem_toArray, List.getElem_cons_zero, List.getElem_cons_succ]
    refine wpAnyH_take (i := 14) (v := .pointer (some ⟨b1, o1 + j * 4, none⟩)) rfl (by kernel_rfl) (by kernel_rfl) (by kernel_rfl) (fun _ _ _ h => h) (Or.inl ⟨by kernel_rfl, ?hy14p⟩) hHeld ?rest14p
    case hy14p => (intro w' hSw; go_simp; try with_reducible rfl)
    try simp only [Act.put, List.setIfInBounds_toArray, List.set_cons_zero, List.set_cons_succ, List.getElem_toArray, List.getElem_cons_zero, List.getElem_cons_succ]
    refine wpAnyH_take (i := 15) (v := .pointer (some ⟨b1, o1 + j * 4 + 1, none⟩)) rfl (by kernel_rfl) (by kernel_rfl) (by kernel_rfl) (fun _ _ _ h => h) (Or.inl ⟨by kernel_rfl, ?hy15p⟩) hHeld ?rest15p
    case hy15p => (intro w' hSw; go_simp; try with_reducible rfl)
    try simp only [Act.put, List.setIfInBounds_toArray, List.set_cons_zero, List.set_cons_succ, List.getElem_toArray, List.getElem_cons_zero, List.getElem_cons_succ]
    refine wpAnyH_take (i := 16) (v := .agg #[.string (tx x.n), .string (tx x.v), .slice x.la x.ln x.lc]) rfl (by kernel_rfl) (by kernel_rfl) (by kernel_rfl) (fun _ _ _ h => h) (Or.inl ⟨by kernel_rfl, ?hy16p⟩) hHeld ?rest16p
    case hy16p => (intro w' hSw; obtain ⟨s0, s1, s2, s3⟩ := KX.out _ hSw; go_simp; try with_reducible rfl)
    try simp only [Act.put, List.setIfInBounds_toArray, List.set_cons_zero, List.set_cons_succ, List.getElem_toArray, List.getElem_cons_zero, List.getElem_cons_succ]
    refine wpAnyH_take (i := 17) (v := .slice (some ⟨b2, o2, none⟩) n c2) rfl (by kernel_rfl) (by kernel_rfl) (by kernel_rfl) (fun _ _ _ h => h) (Or.inl ⟨by kernel_rfl, ?hy17p⟩) hHeld ?rest17p
    case hy17p => (intro w' hSw; go_simp; try with_reducible rfl)
    try simp only [Act.put, List.setIfInBounds_toArray, List.set_cons_zero, List.set_cons_succ, List.getElem_toArray, List.getElem_cons_zero, List.getElem_cons_succ]
    refine wpAnyH_take (i := 18) (v := .int .i64 (j : Int)) rfl (by kernel_rfl) (by kernel_rfl) (by kernel_rfl) (fun _ _ _ h => h) (Or.inl ⟨by kernel_rfl, ?hy18p⟩) hHeld ?rest18p
    case hy18p => (intro w' hSw; go_simp; try with_reducible rfl)
    try simp only [Act.put, List.setIfInBounds_toArray, List.set_cons_zero, List.set_cons_succ, List.getElem_toArray, List.getElem_cons_zero, List.getElem_cons_succ]
    refine wpAnyH_take (i := 19) (v := .pointer (some ⟨b2, o2 + j * 4, none⟩)) rfl (by kernel_rfl) (by kernel_rfl) (by kernel_rfl) (fun _ _ _ h => h) (Or.inl ⟨by kernel_rfl, ?hy19p⟩) hHeld ?rest19p
    case hy19p => (intro w' hSw; go_simp; try with_reducible rfl)
    try simp only [Act.put, List.setIfInBounds_toArray, List.set_cons_zero, List.set_cons_succ, List.getElem_toArray, List.getElem_cons_zero, List.getElem_cons_succ]
    refine wpAnyH_take (i := 20) (v := .pointer (some ⟨b2, o2 + j * 4 + 1, none⟩)) rfl (by kernel_rfl) (by kernel_rfl) (by kernel_rfl) (fun _ _ _ h => h) (Or.inl ⟨by kernel_rfl, ?hy20p⟩) hHeld ?rest20p
    case hy20p => (intro w' hSw; go_simp; try with_reducible rfl)
    try simp only [Act.put, List.setIfInBounds_toArray, List.set_cons_zero, List.set_cons_succ, List.getElem_toArray, List.getElem_cons_zero, List.getElem_cons_succ]
    refine wpAnyH_take (i := 21) (v := .agg #[.string (tx y.n), .string (tx y.v), .slice y.la y.ln y.lc]) rfl (by kernel_rfl) (by kernel_rfl) (by kernel_rfl) (fun _ _ _ h => h) (Or.inl ⟨by kernel_rfl, ?hy21p⟩) hHeld ?rest21p
    case hy21p => (intro w' hSw; obtain ⟨s0, s1, s2, s3⟩ := KY.out _ hSw; go_simp; try with_reducible rfl)
    try simp only [Act.put, List.setIfInBounds_toArray, List.set_cons_zero, List.set_cons_succ, List.getElem_toArray, List.getElem_cons_zero, List.getElem_cons_succ]
    refine wpAnyH_ready (rs := [22]) (by kernel_rfl) (by simp) ?_
    refine AllReadyH.cons rfl (fun K hK => ?_) AllReadyH.nil
    go_simp; refine (KS.out _ hHeld).mono ?_; rintro e w8 ⟨rfl, b8⟩; have B8 : Hid (Below wr.heap.size wr w8) := (hHeld : Below _ _ _).trans (b8.mono (hHeld : Below _ _ _).size); clear b8; go_wp2_with fail
    refine hK.out _ _ ?hS22p (fun hHeld => ?rest22p)
    case hS22p => exact B8.out
    clear hK K
    try simp only [Act.put, List.setIfInBounds_toArray, List.set_cons_zero, List.set_cons_succ, List.getElem_toArray, List.getElem_cons_zero, List.getElem_cons_succ]
    refine wpAnyH_take (i := 23) (v := .bool false) rfl (by kernel_rfl) (by kernel_rfl) (by kernel_rfl) (fun _ _ _ h => h) (Or.inl ⟨by kernel_rfl, ?hy23p⟩) hHeld ?rest23p
    case hy23p => (intro w' hSw; go_simp; try with_reducible rfl)
    try simp only [Act.put, List.setIfInBounds_toArray, List.set_cons_zero, List.set_cons_succ, List.getElem_toArray, List.getElem_cons_zero, List.getElem_cons_succ]
    refine wpAnyH_take (i := 24) (v := .bool false) rfl (by kernel_rfl) (by kernel_rfl) (by kernel_rfl) (fun _ _ _ h => h) (Or.inl ⟨by kernel_rfl, ?hy24p⟩) hHeld ?rest24p
    case hy24p => (intro w' hSw; go_simp; try with_reducible rfl)
    try simp only [Act.put, List.setIfInBounds_toArray, List.set_cons_zero, List.set_cons_succ, List.getElem_toArray, List.getElem_cons_zero, List.getElem_cons_succ]
    refine wpAnyH_done (by kernel_rfl) ?_ _
    refine NoPanic.normal ?_
    go_wp2_with fail
    go_roundg (n - (j + 1))
    case measure => omega
    case rel => exact ⟨j + 1, by omega, rfl, by push_cast; rfl, RW.out.trans (B8.out.mono RW.out.size)⟩
  · have j1 : decide ((j : Int) < (n : Int)) = false := by rw [decide_eq_false_iff_not]; omega
    go_wp2_with fail
    go_ret
    exact ⟨rfl, RW.out⟩
end Go.Proofs.YthghoekkdpchnaaDoor
namespace Go.Proofs.YthghoekkdpchnaaDoor
open Go.ChangeShapes Go.WideShapes Go.ChangeAt Go.RowKit Go.Deep Go.Maps
set_option linter.unusedVariables false
set_option linter.unusedSimpArgs false
set_option maxRecDepth 100000 in
set_option maxHeartbeats 8000000 in
theorem rpcheck_is (w : World) (o : Op5) (la : Option Addr) (ln lc : Nat) (ho : OpAt w o la ln lc) : Calls Tryd.prog 47 #[opV o la ln lc] w fun e w' => e = .returned (.int .i64 (opE o)) ∧ Below w.heap.size w w' := by
  obtain ⟨k, r, nm, v, l⟩ := o
  unfold opV
  simp only
  obtain ⟨W0, hW0⟩ : ∃ W0, W0 = w.alloc (.cells #[.int .i64 k, .int .i64 r, .string (tx nm), .string (tx v), .slice la ln lc] 46) := ⟨_, rfl⟩
  have HE : Hid (W0 = w.alloc (.cells #[.int .i64 k, .int .i64 r, .string (tx nm), .string (tx v), .slice la ln lc] 46)) := hW0
  have hb0 : Below w.heap.size w W0 := by rw [hW0]; exact below1 w _
  have hz : W0.heap.size = w.heap.size + 1 := by rw [hW0]; simp
  have hq : W0.heap[w.heap.size]? = some (.cells #[.int .i64 k, .int .i64 r, .string (tx nm), .string (tx v), .slice la ln lc] 46) := by rw [hW0]; exact heap_alloc_new w _
  have HB : Hid (Below w.heap.size w W0) := hb0
  have UP : Hid (∀ u, Below W0.heap.size W0 u → Below w.heap.size w u) := fun u hu => hb0.trans (hu.mono hb0.size)
  have KB : Hid (∀ u, Below W0.heap.size W0 u → u.cell? ⟨w.heap.size, 0, none⟩ = some (.int .i64 k) ∧ u.cell? ⟨w.heap.size, 1, none⟩ = some (.int .i64 r) ∧ u.cell? ⟨w.heap.size, 2, none⟩ = some (.string (tx nm)) ∧ u.cell? ⟨w.heap.size, 3, none⟩ = some (.string (tx v)) ∧ u.cell? ⟨w.heap.size, 4, none⟩ = some (.slice la ln lc)) := fun u hu => by
    have h := (hu.block w.heap.size (by omega)).trans hq
    refine ⟨?_, ?_, ?_, ?_, ?_⟩ <;> simp [World.cell?, h]
  obtain ⟨E, hE⟩ : ∃ E, opE ⟨k, r, nm, v, l⟩ = E := ⟨_, rfl⟩
  have HR : Hid (opE ⟨k, r, nm, v, l⟩ = E) := hE
  rw [hE]
  have HO : Hid (OpAt w ⟨k, r, nm, v, l⟩ la ln lc) := ho
  clear hW0 hb0 hq hz hE ho
  obtain ⟨c0, c1, c2, c3, c4⟩ := KB.out W0 (Below.refl _ _)
  go_enter Tryd.func47, Tryd.ntmps47
  by_cases h1 : k < 1
  · have d1 : decide (k < (1 : Int)) = true := by rw [decide_eq_true_eq]; exact h1
    have HF : Hid ((13 : Int) = E) := by rw [← HR.out]; exact (if_pos (.inl h1)).symm
    clear h1 HR
    go_wp2_with fail
    rw [← HE.out]
    go_wp2_with fail
    go_ret
    exact ⟨congrArg (fun z => Ending.returned (.int .i64 z)) HF.out, HB.out⟩
  have d1 : decide (k < (1 : Int)) = false := by rw [decide_eq_false_iff_not]; exact h1
  by_cases h2 : 3 < k
  · have d2 : decide ((3 : Int) < k) = true := by rw [decide_eq_true_eq]; exact h2
    have HF : Hid ((13 : Int) = E) := by rw [← HR.out]; exact (if_pos (.inr h2)).symm
    clear h1 h2 HR
    go_wp2_with fail
    rw [← HE.out]
    go_wp2_with fail
    go_ret
    exact ⟨congrArg (fun z => Ending.returned (.int .i64 z)) HF.out, HB.out⟩
  have d2 : decide ((3 : Int) < k) = false := by rw [decide_eq_false_iff_not]; exact h2
  have HR1 : Hid ((if isR6 r = false then 2 else if k = 3 then (if v ≠ [] ∨ l ≠ [] then 5 else if nmOk nm = true then 0 else 2) else mchk (nm, v, l)) = E) := by
    have := HR.out
    unfold opE at this
    rwa [if_neg (fun h => h.elim h1 h2)] at this
  clear HR
  by_cases r1 : r < 1
  · have d3 : decide (r < (1 : Int)) = true := by rw [decide_eq_true_eq]; exact r1
    have HF : Hid ((2 : Int) = E) := by have := HR1.out; rwa [if_pos (by unfold isR6; simp; omega)] at this
    clear h1 h2 r1 HR1
    go_wp2_with fail
    rw [← HE.out]
    go_wp2_with fail
    go_ret
    exact ⟨congrArg (fun z => Ending.returned (.int .i64 z)) HF.out, HB.out⟩
  have d3 : decide (r < (1 : Int)) = false := by rw [decide_eq_false_iff_not]; exact r1
  by_cases r6 : 6 < r
  · have d4 : decide ((6 : Int) < r) = true := by rw [decide_eq_true_eq]; exact r6
    have HF : Hid ((2 : Int) = E) := by have := HR1.out; rwa [if_pos (by unfold isR6; simp; omega)] at this
    clear h1 h2 r1 r6 HR1
    go_wp2_with fail
    rw [← HE.out]
    go_wp2_with fail
    go_ret
    exact ⟨congrArg (fun z => Ending.returned (.int .i64 z)) HF.out, HB.out⟩
  have d4 : decide ((6 : Int) < r) = false := by rw [decide_eq_false_iff_not]; exact r6
  have HR2 : Hid ((if k = 3 then (if v ≠ [] ∨ l ≠ [] then 5 else if nmOk nm = true then 0 else 2) else mchk (nm, v, l)) = E) := by have := HR1.out; rwa [if_neg (by unfold isR6; simp; omega)] at this
  clear HR1 h1 h2 r1 r6
  by_cases h3 : k = 3
  case neg =>
    have e3 : (k == 3) = false := by simpa using h3
    have HF : Hid (mchk (nm, v, l) = E) := by have := HR2.out; rwa [if_neg h3] at this
    have KC : Hid (∀ W, Below w.heap.size w W → Calls Tryd.prog 70 #[.agg #[.string (tx nm), .string (tx v), .slice la ln lc]] W fun e w' => e = .returned (.int .i64 (mchk (nm, v, l))) ∧ Below W.heap.size W w') := fun W hW => rmcheck_is (nm, v, l) ln HO.out.len (by have := HO.out.big; omega) HO.out.dg HO.out.sn HO.out.sv la lc W (HO.out.keep hW).inr
    clear h3 HR2
    go_wp2_with fail
    rw [← HE.out]
    go_wp2_with fail
    refine (KC.out _ HB.out).mono ?_
    rintro e w4 ⟨rfl, b4⟩
    have B4 : Hid (Below w.heap.size w w4) := HB.out.trans (b4.mono HB.out.size)
    clear b4
    go_wp2_with fail
    go_ret
    exact ⟨congrArg (fun z => Ending.returned (.int .i64 z)) HF.out, B4.out⟩
  have e3 : (k == 3) = true := by simpa using h3
  have HR3 : Hid ((if v ≠ [] ∨ l ≠ [] then 5 else if nmOk nm = true then 0 else 2) = E) := by have := HR2.out; rwa [if_pos h3] at this
  clear HR2 h3
  by_cases hv : v = []
  case neg =>
    have tv : ¬ (tx v).toList = [] := by rw [tx_toList]; exact hv
    have HF : Hid ((5 : Int) = E) := by have := HR3.out; rwa [if_pos (.inl hv)] at this
    clear HR3 hv
    go_wp2_with fail
    rw [← HE.out]
    go_wp2_with fail
    go_ret
    exact ⟨congrArg (fun z => Ending.returned (.int .i64 z)) HF.out, HB.out⟩
  have tv : (tx v).toList = [] := by rw [tx_toList]; exact hv
  by_cases hl0 : 0 < ln
  · have z1 : decide (0 < ln) = true := by rw [decide_eq_true_eq]; exact hl0
    have z2 : decide ((0 : Int) < (ln : Int)) = true := by rw [decide_eq_true_eq]; omega
    have HF : Hid ((5 : Int) = E) := by
      have := HR3.out
      rwa [if_pos (.inr (fun e => by have := HO.out.len; simp only at this; rw [e] at this; simp at this; omega))] at this
    clear HR3 hv
    go_wp2_with fail
    rw [← HE.out]
    go_wp2_with fail
    go_ret
    exact ⟨congrArg (fun z => Ending.returned (.int .i64 z)) HF.out, HB.out⟩
  have z1 : decide (0 < ln) = false := by rw [decide_eq_false_iff_not]; exact hl0
  have z2 : decide ((0 : Int) < (ln : Int)) = false := by rw [decide_eq_false_iff_not]; omega
  have HR4 : Hid ((if nmOk nm = true then 0 else 2) = E) := by
    have := HR3.out
    rwa [if_neg (fun h => h.elim (fun h => h hv) (fun h => h (List.length_eq_zero_iff.1 (by have := HO.out.len; simp only at this; omega))))] at this
  have KN : Hid (∀ W : World, Calls Tryd.prog 69 #[.string (tx nm)] W fun e w' => e = .returned (.bool (nmOk nm)) ∧ w' = W) := fun W => rname_is nm HO.out.sn W
  obtain ⟨nb, hnb⟩ : ∃ b, nmOk nm = b := ⟨_, rfl⟩
  rw [hnb] at KN HR4
  clear HR3 hv hl0 hnb
  go_wp2_with fail
  rw [← HE.out]
  go_wp2_with fail
  refine (KN.out _).mono ?_
  rintro e w3 ⟨rfl, hw⟩
  obtain rfl := hw.symm
  clear hw
  cases nb with
  | true =>
    have HF : Hid ((0 : Int) = E) := HR4.out
    go_wp2_with fail
    go_ret
    exact ⟨congrArg (fun z => Ending.returned (.int .i64 z)) HF.out, HB.out⟩
  | false =>
    have HF : Hid ((2 : Int) = E) := HR4.out
    go_wp2_with fail
    go_ret
    exact ⟨congrArg (fun z => Ending.returned (.int .i64 z)) HF.out, HB.out⟩
end Go.Proofs.YthghoekkdpchnaaDoor
