/- The statements' own same (veneerlaw10): both have the same. What waits of the document's disk. The document's disk: Crash. Written by gen_rcrash.py. The pair between two calls: each side has its own plain state; one call of one side. A log through any calls, plainly: it agrees with its disk, or it is lost and its disk is down. Rows of bytes that may be read; disk.Of. The document's disk: Of. Written by gen_rof.py. The walk through veneerlaw10.WalOpens. -/
import Derived.Test.YtkhopmlhinkpcaaGreatMgWo21
import Derived.BigQuiet
import Derived.Deep.DeepCutAuto
import Derived.Deep.QuietTactic
import Derived.Test.YtkhopmlhinkpcaaGreatMgWo10
import Derived.Test.YtkhopmlhinkpcaaGreatMgWo8
import Derived.Test.YtkhopmlhinkpcaaGreatMgWo11
import Derived.Deep.RegionHeld3
import Derived.Test.YtkhopmlhinkpcaaGreatMgWo17
import Derived.Test.YtkhopmlhinkpcaaGreatMgWo16
import Derived.Test.YtkhopmlhinkpcaaGreatMgWo9
import Derived.Test.YtkhopmlhinkpcaaGreatMgWo2
import Derived.Test.YtkhopmlhinkpcaaGreatMgWo6
import Derived.Laws.IdiomCopy
namespace Go.Proofs.YtkhopmlhinkpcaaGreat
open Go.ChangeShapes Go.WideShapes Go.ChangeAt Go.RowKit Go.Deep Go.Maps
set_option linter.unusedVariables false
set_option linter.unusedSimpArgs false
theorem RowsS.store {w : World} {base g n c : Nat} {l : List (List Int)} (h : RowsS w base (.slice (some ⟨g, 0, none⟩) n c) l) (hn : l.length = n) (i : Nat) (y : List Int) : RowsS (w.setCell ⟨g, i, none⟩ (.string (strOfNums y))) base (.slice (some ⟨g, 0, none⟩) n c) (l.set i y) := by
  subst hn
  unfold RowsS
  rw [List.length_set, show sV (l.set i y) = (sV l).set i (.string (strOfNums y)) by unfold sV; rw [List.map_set]]
  exact (World.ownsRow.stored h i (.string (strOfNums y))).1
theorem PwL.keep {wr w' : World} {d r N : Nat} {o : Option Lg} {vl vq : Value} {G G2 : Nat → Prop} (h : PwL wr d r N o vl vq G G2) (hb : Below wr.heap.size wr w') : PwL w' d r N o vl vq G G2 := by
  cases o with
  | none => exact h
  | some l =>
    obtain ⟨bl, bq, h1, h2, h3, h4, h5⟩ := h
    exact ⟨bl, bq, h1, h2, h3.keep hb, h4.keep hb, h5⟩
theorem PwP.keep {w wr w' : World} {bp d r N : Nat} {s : Ds} {o : Option Lg} {vl vq : Value} {F F2 G G2 : Nat → Prop} (h : PwP w wr bp d r N s o vl vq F F2 G G2) (hb : Below wr.heap.size wr w') : PwP w w' bp d r N s o vl vq F F2 G G2 :=
  ⟨h.dk.keep hb, Rk.keep h.rk hb, h.lg.keep hb, (hb.block bp (Array.getElem?_eq_some_iff.1 h.box).1).trans h.box, h.x1, h.x2, h.x3, h.nb, h.fr, h.hb, h.bel.trans (hb.mono h.bel.size)⟩
theorem Pw.keep {w wr w' : World} {bp d r N : Nat} {s : Ds} {o : Option Lg} (h : Pw w wr bp d r N s o) (hb : Below wr.heap.size wr w') : Pw w w' bp d r N s o := by
  obtain ⟨vl, vq, F, F2, G, G2, p⟩ := h
  exact ⟨vl, vq, F, F2, G, G2, p.keep hb⟩
set_option maxRecDepth 100000 in
set_option maxHeartbeats 8000000 in
theorem pw_same {w wz : World} {bp d r N : Nat} {s : Ds} {o : Option Lg} (T : Pw w wz bp d r N s o) (hN : N ≤ 999000) (hm : ∀ l, o = some l → l.m = s.am ∧ 2 ≤ s.D.length) :
    Calls Tryz.prog 9 #[.pointer (some ⟨bp, 0, none⟩)] wz fun e w' => e = .returned (.bool true) ∧ Below wz.heap.size wz w' := by
  obtain ⟨vl, vq, F, F2, G, G2, pp⟩ := T
  have HP : Hid (PwP w wz bp d r N s o vl vq F F2 G G2) := pp
  have HM : Hid (∀ l, o = some l → l.m = s.am ∧ 2 ≤ s.D.length) := hm
  obtain ⟨L, vB, vL', rp, hF, h1, hl, h3, h4, h5⟩ := pp.rk
  obtain ⟨c0, c1, c2, c3, c4⟩ := r5_of rp.cell
  obtain ⟨aB, cB, hvB⟩ := rp.dur.form
  subst hvB
  obtain ⟨n, hn⟩ : ∃ n, s.D.length = n := ⟨_, rfl⟩
  have eR := rp.dur
  rw [hn] at c0 eR
  obtain ⟨up, hup⟩ : ∃ u, s.up = u := ⟨_, rfl⟩
  obtain ⟨dn, hdn⟩ : ∃ u, s.dn = u := ⟨_, rfl⟩
  rw [hup] at c3
  rw [hdn] at c4
  have hrl : r < wz.heap.size := (Array.getElem?_eq_some_iff.1 rp.cell).1
  have hbl : bp < wz.heap.size := (Array.getElem?_eq_some_iff.1 pp.box).1
  obtain ⟨q0, q1, q2, q3, _⟩ := pbox pp.box
  have CC : Hid (∀ W, Below wz.heap.size wz W → W.cell? ⟨bp, 0, none⟩ = some (.pointer (some ⟨d, 0, none⟩)) ∧ W.cell? ⟨bp, 1, none⟩ = some (.pointer (some ⟨r, 0, none⟩)) ∧ W.cell? ⟨r, 0, none⟩ = some (.slice aB n cB) ∧ W.cell? ⟨r, 3, none⟩ = some (.bool (!up)) ∧ W.cell? ⟨r, 4, none⟩ = some (.int .i64 dn)) := fun W hb => ⟨(hb.cell (p := ⟨bp, 0, none⟩) hbl).trans q0, (hb.cell (p := ⟨bp, 1, none⟩) hbl).trans q1, (hb.cell (p := ⟨r, 0, none⟩) hrl).trans c0, (hb.cell (p := ⟨r, 3, none⟩) hrl).trans c3, (hb.cell (p := ⟨r, 4, none⟩) hrl).trans c4⟩
  have CQ : Hid (∀ W, Below wz.heap.size wz W → W.cell? ⟨bp, 2, none⟩ = some vl ∧ W.cell? ⟨bp, 3, none⟩ = some vq) := fun W hb => ⟨(hb.cell (p := ⟨bp, 2, none⟩) hbl).trans q2, (hb.cell (p := ⟨bp, 3, none⟩) hbl).trans q3⟩
  have RT : Hid (∀ W, Below wz.heap.size wz W → RowT W 0 (.slice aB n cB) s.D) := fun W hb => eR.keep hb
  have HN : Hid (s.D.length = n ∧ n ≤ 4096) := ⟨hn, by rw [← hn]; exact hl.2⟩
  have KI : Hid (Calls Tryz.prog 24 #[.pointer (some ⟨d, 0, none⟩)] wz fun e w' => ∃ go V, e = .returned (.slice (some ⟨go, 0, none⟩) n n) ∧ V.length = n ∧ Img w' wz.heap.size go n V s.D ∧ Below wz.heap.size wz w') := by
    have k := dk_image wz F d N s pp.dk
    rw [hn] at k
    exact k
  have KD : Hid (∀ W, Below wz.heap.size wz W → Calls Tryz.prog 25 #[.pointer (some ⟨d, 0, none⟩)] W fun e w' => e = .returned (.int .i64 dn) ∧ w' = W) := fun W hb => by
    have k := dk_done W F d N s (HP.out.dk.keep hb)
    rw [hdn] at k
    exact k
  have KU : Hid (∀ W, Below wz.heap.size wz W → Calls Tryz.prog 26 #[.pointer (some ⟨d, 0, none⟩)] W fun e w' => e = .returned (.bool up) ∧ w' = W) := fun W hb => by
    have k := dk_up W F d N s (HP.out.dk.keep hb)
    rw [hup] at k
    exact k
  have HUp : Hid ((up == !up) = false) := by cases up <;> rfl
  clear pp rp hF h1 hl h3 h4 h5 c0 c1 c2 c3 c4 eR hn hup hdn q1 q2 q3 hm hrl hbl
  go_enter Tryz.func9, Tryz.ntmps9
  go_wp2_with fail
  refine KI.out.mono ?_
  rintro e w1 ⟨go, V, rfl, hV, hI, hb⟩
  have BW1 : Hid (Below wz.heap.size wz w1) := hb
  have HV : Hid (V.length = n) := hV
  have IM : Hid (Img w1 wz.heap.size go n V s.D) := hI
  have BWd : Hid (Below wz.heap.size wz w1.drew) := hb.trans ((below_drewN (Below.refl _ _) 1).mono hb.size)
  clear hV hI hb q0
  go_upto_region 2 with fail
  go_cut [53] (fun c wx => c = .bool false ∧ Hid (Below w1.heap.size w1 wx))
  case first =>
    refine wp_region_noPanic ?_
    refine wp_region_held_drew (S := (fun W : World => W.cell? ⟨bp, 0, none⟩ = some (.pointer (some ⟨d, 0, none⟩)) ∧ W.cell? ⟨bp, 1, none⟩ = some (.pointer (some ⟨r, 0, none⟩)) ∧ W.cell? ⟨r, 0, none⟩ = some (.slice aB n cB) ∧ W.cell? ⟨r, 3, none⟩ = some (.bool (!up)) ∧ W.cell? ⟨r, 4, none⟩ = some (.int .i64 dn))) (by kernel_rfl) ?hSaa (fun hHeld => ?restaa)
    case hSaa => exact CC.out _ BWd.out
    case restaa =>
      refine wpAnyH_take (i := 0) (v := .slice (some ⟨go, 0, none⟩) n n) rfl (by kernel_rfl) (by kernel_rfl) (by kernel_rfl) (fun _ _ _ h => h) (Or.inl ⟨by kernel_rfl, ?hy0a⟩) hHeld ?rest0a
      case hy0a => (intro w hSw; (try dsimp only at hSw); go_simp; try with_reducible rfl)
      try simp only [Act.put, List.setIfInBounds_toArray, List.set_cons_zero, List.set_cons_succ, List.getElem_toArray, List.getElem_cons_zero]
      refine wpAnyH_take (i := 1) (v := .int .i64 (n : Int)) rfl (by kernel_rfl) (by kernel_rfl) (by kernel_rfl) (fun _ _ _ h => h) (Or.inl ⟨by kernel_rfl, ?hy1a⟩) hHeld ?rest1a
      case hy1a => (intro w hSw; (try dsimp only at hSw); go_simp; try with_reducible rfl)
      try simp only [Act.put, List.setIfInBounds_toArray, List.set_cons_zero, List.set_cons_succ, List.getElem_toArray, List.getElem_cons_zero, List.getElem_cons_succ]
      refine wpAnyH_take (i := 2) (v := .pointer (some ⟨bp, 0, none⟩)) rfl (by kernel_rfl) (by kernel_rfl) (by kernel_rfl) (fun _ _ _ h => h) (Or.inl ⟨by kernel_rfl, ?hy2a⟩) hHeld ?rest2a
      case hy2a => (intro w hSw; (try dsimp only at hSw); go_simp; try with_reducible rfl)
      try simp only [Act.put, List.setIfInBounds_toArray, List.set_cons_zero, List.set_cons_succ, List.getElem_toArray, List.getElem_cons_zero, List.getElem_cons_succ]
      refine wpAnyH_take (i := 3) (v := .pointer (some ⟨bp, 0, none⟩)) rfl (by kernel_rfl) (by kernel_rfl) (by kernel_rfl) (fun _ _ _ h => h) (Or.inl ⟨by kernel_rfl, ?hy3a⟩) hHeld ?rest3a
      case hy3a => (intro w hSw; (try dsimp only at hSw); go_simp; try with_reducible rfl)
      try simp only [Act.put, List.setIfInBounds_toArray, List.set_cons_zero, List.set_cons_succ, List.getElem_toArray, List.getElem_cons_zero, List.getElem_cons_succ]
      refine wpAnyH_take (i := 4) (v := .pointer (some ⟨bp, 1, none⟩)) rfl (by kernel_rfl) (by kernel_rfl) (by kernel_rfl) (fun _ _ _ h => h) (Or.inl ⟨by kernel_rfl, ?hy4a⟩) hHeld ?rest4a
      case hy4a => (intro w hSw; (try dsimp only at hSw); go_simp; try with_reducible rfl)
      try simp only [Act.put, List.setIfInBounds_toArray, List.set_cons_zero, List.set_cons_succ, List.getElem_toArray, List.getElem_cons_zero, List.getElem_cons_succ]
      refine wpAnyH_take (i := 5) (v := .pointer (some ⟨r, 0, none⟩)) rfl (by kernel_rfl) (by kernel_rfl) (by kernel_rfl) (fun _ _ _ h => h) (Or.inl ⟨by kernel_rfl, ?hy5a⟩) hHeld ?rest5a
      case hy5a => (intro w hSw; (try dsimp only at hSw); go_simp; try with_reducible rfl)
      try simp only [Act.put, List.setIfInBounds_toArray, List.set_cons_zero, List.set_cons_succ, List.getElem_toArray, List.getElem_cons_zero, List.getElem_cons_succ]
      refine wpAnyH_take (i := 6) (v := .pointer (some ⟨r, 0, none⟩)) rfl (by kernel_rfl) (by kernel_rfl) (by kernel_rfl) (fun _ _ _ h => h) (Or.inl ⟨by kernel_rfl, ?hy6a⟩) hHeld ?rest6a
      case hy6a => (intro w hSw; (try dsimp only at hSw); go_simp; try with_reducible rfl)
      try simp only [Act.put, List.setIfInBounds_toArray, List.set_cons_zero, List.set_cons_succ, List.getElem_toArray, List.getElem_cons_zero, List.getElem_cons_succ]
      refine wpAnyH_take (i := 7) (v := .pointer (some ⟨r, 0, none⟩)) rfl (by kernel_rfl) (by kernel_rfl) (by kernel_rfl) (fun _ _ _ h => h) (Or.inl ⟨by kernel_rfl, ?hy7a⟩) hHeld ?rest7a
      case hy7a => (intro w hSw; (try dsimp only at hSw); go_simp; try with_reducible rfl)
      try simp only [Act.put, List.setIfInBounds_toArray, List.set_cons_zero, List.set_cons_succ, List.getElem_toArray, List.getElem_cons_zero, List.getElem_cons_succ]
      refine wpAnyH_take (i := 8) (v := .slice aB n cB) rfl (by kernel_rfl) (by kernel_rfl) (by kernel_rfl) (fun _ _ _ h => h) (Or.inl ⟨by kernel_rfl, ?hy8a⟩) hHeld ?rest8a
      case hy8a => (intro w hSw; (try dsimp only at hSw); go_simp; try with_reducible rfl)
      try simp only [Act.put, List.setIfInBounds_toArray, List.set_cons_zero, List.set_cons_succ, List.getElem_toArray, List.getElem_cons_zero, List.getElem_cons_succ]
      refine wpAnyH_take (i := 9) (v := .int .i64 (n : Int)) rfl (by kernel_rfl) (by kernel_rfl) (by kernel_rfl) (fun _ _ _ h => h) (Or.inl ⟨by kernel_rfl, ?hy9a⟩) hHeld ?rest9a
      case hy9a => (intro w hSw; (try dsimp only at hSw); go_simp; try with_reducible rfl)
      try simp only [Act.put, List.setIfInBounds_toArray, List.set_cons_zero, List.set_cons_succ, List.getElem_toArray, List.getElem_cons_zero, List.getElem_cons_succ]
      refine wpAnyH_take (i := 10) (v := .bool false) rfl (by kernel_rfl) (by kernel_rfl) (by kernel_rfl) (fun _ _ _ h => h) (Or.inl ⟨by kernel_rfl, ?hy10a⟩) hHeld ?rest10a
      case hy10a => (intro w hSw; (try dsimp only at hSw); go_simp; try with_reducible rfl)
      try simp only [Act.put, List.setIfInBounds_toArray, List.set_cons_zero, List.set_cons_succ, List.getElem_toArray, List.getElem_cons_zero, List.getElem_cons_succ]
      refine wpAnyH_take (i := 11) (v := .bool false) rfl (by kernel_rfl) (by kernel_rfl) (by kernel_rfl) (fun _ _ _ h => h) (Or.inl ⟨by kernel_rfl, ?hy11a⟩) hHeld ?rest11a
      case hy11a => (intro w hSw; (try dsimp only at hSw); go_simp; try with_reducible rfl)
      try simp only [Act.put, List.setIfInBounds_toArray, List.set_cons_zero, List.set_cons_succ, List.getElem_toArray, List.getElem_cons_zero, List.getElem_cons_succ]
      refine wpAnyH_take (i := 12) (v := .pointer (some ⟨bp, 0, none⟩)) rfl (by kernel_rfl) (by kernel_rfl) (by kernel_rfl) (fun _ _ _ h => h) (Or.inl ⟨by kernel_rfl, ?hy12a⟩) hHeld ?rest12a
      case hy12a => (intro w hSw; (try dsimp only at hSw); go_simp; try with_reducible rfl)
      try simp only [Act.put, List.setIfInBounds_toArray, List.set_cons_zero, List.set_cons_succ, List.getElem_toArray, List.getElem_cons_zero, List.getElem_cons_succ]
      refine wpAnyH_take (i := 13) (v := .pointer (some ⟨bp, 0, none⟩)) rfl (by kernel_rfl) (by kernel_rfl) (by kernel_rfl) (fun _ _ _ h => h) (Or.inl ⟨by kernel_rfl, ?hy13a⟩) hHeld ?rest13a
      case hy13a => (intro w hSw; (try dsimp only at hSw); go_simp; try with_reducible rfl)
      try simp only [Act.put, List.setIfInBounds_toArray, List.set_cons_zero, List.set_cons_succ, List.getElem_toArray, List.getElem_cons_zero, List.getElem_cons_succ]
      refine wpAnyH_take (i := 14) (v := .pointer (some ⟨bp, 0, none⟩)) rfl (by kernel_rfl) (by kernel_rfl) (by kernel_rfl) (fun _ _ _ h => h) (Or.inl ⟨by kernel_rfl, ?hy14a⟩) hHeld ?rest14a
      case hy14a => (intro w hSw; (try dsimp only at hSw); go_simp; try with_reducible rfl)
      try simp only [Act.put, List.setIfInBounds_toArray, List.set_cons_zero, List.set_cons_succ, List.getElem_toArray, List.getElem_cons_zero, List.getElem_cons_succ]
      refine wpAnyH_take (i := 15) (v := .pointer (some ⟨d, 0, none⟩)) rfl (by kernel_rfl) (by kernel_rfl) (by kernel_rfl) (fun _ _ _ h => h) (Or.inl ⟨by kernel_rfl, ?hy15a⟩) hHeld ?rest15a
      case hy15a => (intro w hSw; (try dsimp only at hSw); go_simp; try with_reducible rfl)
      try simp only [Act.put, List.setIfInBounds_toArray, List.set_cons_zero, List.set_cons_succ, List.getElem_toArray, List.getElem_cons_zero, List.getElem_cons_succ]
      refine wpAnyH_take (i := 17) (v := .pointer (some ⟨bp, 0, none⟩)) rfl (by kernel_rfl) (by kernel_rfl) (by kernel_rfl) (fun _ _ _ h => h) (Or.inl ⟨by kernel_rfl, ?hy17a⟩) hHeld ?rest17a
      case hy17a => (intro w hSw; (try dsimp only at hSw); go_simp; try with_reducible rfl)
      try simp only [Act.put, List.setIfInBounds_toArray, List.set_cons_zero, List.set_cons_succ, List.getElem_toArray, List.getElem_cons_zero, List.getElem_cons_succ]
      refine wpAnyH_take (i := 18) (v := .pointer (some ⟨bp, 0, none⟩)) rfl (by kernel_rfl) (by kernel_rfl) (by kernel_rfl) (fun _ _ _ h => h) (Or.inl ⟨by kernel_rfl, ?hy18a⟩) hHeld ?rest18a
      case hy18a => (intro w hSw; (try dsimp only at hSw); go_simp; try with_reducible rfl)
      try simp only [Act.put, List.setIfInBounds_toArray, List.set_cons_zero, List.set_cons_succ, List.getElem_toArray, List.getElem_cons_zero, List.getElem_cons_succ]
      refine wpAnyH_take (i := 19) (v := .pointer (some ⟨bp, 1, none⟩)) rfl (by kernel_rfl) (by kernel_rfl) (by kernel_rfl) (fun _ _ _ h => h) (Or.inl ⟨by kernel_rfl, ?hy19a⟩) hHeld ?rest19a
      case hy19a => (intro w hSw; (try dsimp only at hSw); go_simp; try with_reducible rfl)
      try simp only [Act.put, List.setIfInBounds_toArray, List.set_cons_zero, List.set_cons_succ, List.getElem_toArray, List.getElem_cons_zero, List.getElem_cons_succ]
      refine wpAnyH_take (i := 20) (v := .pointer (some ⟨r, 0, none⟩)) rfl (by kernel_rfl) (by kernel_rfl) (by kernel_rfl) (fun _ _ _ h => h) (Or.inl ⟨by kernel_rfl, ?hy20a⟩) hHeld ?rest20a
      case hy20a => (intro w hSw; (try dsimp only at hSw); go_simp; try with_reducible rfl)
      try simp only [Act.put, List.setIfInBounds_toArray, List.set_cons_zero, List.set_cons_succ, List.getElem_toArray, List.getElem_cons_zero, List.getElem_cons_succ]
      refine wpAnyH_take (i := 21) (v := .pointer (some ⟨r, 0, none⟩)) rfl (by kernel_rfl) (by kernel_rfl) (by kernel_rfl) (fun _ _ _ h => h) (Or.inl ⟨by kernel_rfl, ?hy21a⟩) hHeld ?rest21a
      case hy21a => (intro w hSw; (try dsimp only at hSw); go_simp; try with_reducible rfl)
      try simp only [Act.put, List.setIfInBounds_toArray, List.set_cons_zero, List.set_cons_succ, List.getElem_toArray, List.getElem_cons_zero, List.getElem_cons_succ]
      refine wpAnyH_take (i := 22) (v := .pointer (some ⟨r, 4, none⟩)) rfl (by kernel_rfl) (by kernel_rfl) (by kernel_rfl) (fun _ _ _ h => h) (Or.inl ⟨by kernel_rfl, ?hy22a⟩) hHeld ?rest22a
      case hy22a => (intro w hSw; (try dsimp only at hSw); go_simp; try with_reducible rfl)
      try simp only [Act.put, List.setIfInBounds_toArray, List.set_cons_zero, List.set_cons_succ, List.getElem_toArray, List.getElem_cons_zero, List.getElem_cons_succ]
      refine wpAnyH_take (i := 23) (v := .int .i64 dn) rfl (by kernel_rfl) (by kernel_rfl) (by kernel_rfl) (fun _ _ _ h => h) (Or.inl ⟨by kernel_rfl, ?hy23a⟩) hHeld ?rest23a
      case hy23a => (intro w hSw; (try dsimp only at hSw); go_simp; try with_reducible rfl)
      try simp only [Act.put, List.setIfInBounds_toArray, List.set_cons_zero, List.set_cons_succ, List.getElem_toArray, List.getElem_cons_zero, List.getElem_cons_succ]
      refine wpAnyH_ready (rs := [16]) (by kernel_rfl) (by simp) ?_
      refine AllReadyH.cons rfl (fun K hK => ?_) AllReadyH.nil
      go_simp; refine (KD.out _ BWd.out).mono ?_; rintro e w' ⟨rfl, hw⟩; obtain rfl := hw.symm; clear hw; go_wp2_with fail
      refine hK.out _ _ ?hS16a (fun hHeld => ?rest16a)
      case hS16a => exact CC.out _ BWd.out
      clear hK K
      try simp only [Act.put, List.setIfInBounds_toArray, List.set_cons_zero, List.set_cons_succ, List.getElem_toArray, List.getElem_cons_zero, List.getElem_cons_succ]
      refine wpAnyH_take (i := 24) (v := .bool false) rfl (by kernel_rfl) (by kernel_rfl) (by kernel_rfl) (fun _ _ _ h => h) (Or.inl ⟨by kernel_rfl, ?hy24a⟩) hHeld ?rest24a
      case hy24a => (intro w hSw; (try dsimp only at hSw); go_simp; try with_reducible rfl)
      try simp only [Act.put, List.setIfInBounds_toArray, List.set_cons_zero, List.set_cons_succ, List.getElem_toArray, List.getElem_cons_zero, List.getElem_cons_succ]
      refine wpAnyH_take (i := 25) (v := .bool false) rfl (by kernel_rfl) (by kernel_rfl) (by kernel_rfl) (fun _ _ _ h => h) (Or.inl ⟨by kernel_rfl, ?hy25a⟩) hHeld ?rest25a
      case hy25a => (intro w hSw; (try dsimp only at hSw); go_simp; try with_reducible rfl)
      try simp only [Act.put, List.setIfInBounds_toArray, List.set_cons_zero, List.set_cons_succ, List.getElem_toArray, List.getElem_cons_zero, List.getElem_cons_succ]
      refine wpAnyH_take (i := 26) (v := .bool false) rfl (by kernel_rfl) (by kernel_rfl) (by kernel_rfl) (fun _ _ _ h => h) (Or.inl ⟨by kernel_rfl, ?hy26a⟩) hHeld ?rest26a
      case hy26a => (intro w hSw; (try dsimp only at hSw); go_simp; try with_reducible rfl)
      try simp only [Act.put, List.setIfInBounds_toArray, List.set_cons_zero, List.set_cons_succ, List.getElem_toArray, List.getElem_cons_zero, List.getElem_cons_succ]
      refine wpAnyH_take (i := 27) (v := .pointer (some ⟨bp, 0, none⟩)) rfl (by kernel_rfl) (by kernel_rfl) (by kernel_rfl) (fun _ _ _ h => h) (Or.inl ⟨by kernel_rfl, ?hy27a⟩) hHeld ?rest27a
      case hy27a => (intro w hSw; (try dsimp only at hSw); go_simp; try with_reducible rfl)
      try simp only [Act.put, List.setIfInBounds_toArray, List.set_cons_zero, List.set_cons_succ, List.getElem_toArray, List.getElem_cons_zero, List.getElem_cons_succ]
      refine wpAnyH_take (i := 28) (v := .pointer (some ⟨bp, 0, none⟩)) rfl (by kernel_rfl) (by kernel_rfl) (by kernel_rfl) (fun _ _ _ h => h) (Or.inl ⟨by kernel_rfl, ?hy28a⟩) hHeld ?rest28a
      case hy28a => (intro w hSw; (try dsimp only at hSw); go_simp; try with_reducible rfl)
      try simp only [Act.put, List.setIfInBounds_toArray, List.set_cons_zero, List.set_cons_succ, List.getElem_toArray, List.getElem_cons_zero, List.getElem_cons_succ]
      refine wpAnyH_take (i := 29) (v := .pointer (some ⟨bp, 0, none⟩)) rfl (by kernel_rfl) (by kernel_rfl) (by kernel_rfl) (fun _ _ _ h => h) (Or.inl ⟨by kernel_rfl, ?hy29a⟩) hHeld ?rest29a
      case hy29a => (intro w hSw; (try dsimp only at hSw); go_simp; try with_reducible rfl)
      try simp only [Act.put, List.setIfInBounds_toArray, List.set_cons_zero, List.set_cons_succ, List.getElem_toArray, List.getElem_cons_zero, List.getElem_cons_succ]
      refine wpAnyH_take (i := 30) (v := .pointer (some ⟨d, 0, none⟩)) rfl (by kernel_rfl) (by kernel_rfl) (by kernel_rfl) (fun _ _ _ h => h) (Or.inl ⟨by kernel_rfl, ?hy30a⟩) hHeld ?rest30a
      case hy30a => (intro w hSw; (try dsimp only at hSw); go_simp; try with_reducible rfl)
      try simp only [Act.put, List.setIfInBounds_toArray, List.set_cons_zero, List.set_cons_succ, List.getElem_toArray, List.getElem_cons_zero, List.getElem_cons_succ]
      refine wpAnyH_take (i := 32) (v := .pointer (some ⟨bp, 0, none⟩)) rfl (by kernel_rfl) (by kernel_rfl) (by kernel_rfl) (fun _ _ _ h => h) (Or.inl ⟨by kernel_rfl, ?hy32a⟩) hHeld ?rest32a
      case hy32a => (intro w hSw; (try dsimp only at hSw); go_simp; try with_reducible rfl)
      try simp only [Act.put, List.setIfInBounds_toArray, List.set_cons_zero, List.set_cons_succ, List.getElem_toArray, List.getElem_cons_zero, List.getElem_cons_succ]
      refine wpAnyH_take (i := 33) (v := .pointer (some ⟨bp, 0, none⟩)) rfl (by kernel_rfl) (by kernel_rfl) (by kernel_rfl) (fun _ _ _ h => h) (Or.inl ⟨by kernel_rfl, ?hy33a⟩) hHeld ?rest33a
      case hy33a => (intro w hSw; (try dsimp only at hSw); go_simp; try with_reducible rfl)
      try simp only [Act.put, List.setIfInBounds_toArray, List.set_cons_zero, List.set_cons_succ, List.getElem_toArray, List.getElem_cons_zero, List.getElem_cons_succ]
      refine wpAnyH_take (i := 34) (v := .pointer (some ⟨bp, 1, none⟩)) rfl (by kernel_rfl) (by kernel_rfl) (by kernel_rfl) (fun _ _ _ h => h) (Or.inl ⟨by kernel_rfl, ?hy34a⟩) hHeld ?rest34a
      case hy34a => (intro w hSw; (try dsimp only at hSw); go_simp; try with_reducible rfl)
      try simp only [Act.put, List.setIfInBounds_toArray, List.set_cons_zero, List.set_cons_succ, List.getElem_toArray, List.getElem_cons_zero, List.getElem_cons_succ]
      refine wpAnyH_take (i := 35) (v := .pointer (some ⟨r, 0, none⟩)) rfl (by kernel_rfl) (by kernel_rfl) (by kernel_rfl) (fun _ _ _ h => h) (Or.inl ⟨by kernel_rfl, ?hy35a⟩) hHeld ?rest35a
      case hy35a => (intro w hSw; (try dsimp only at hSw); go_simp; try with_reducible rfl)
      try simp only [Act.put, List.setIfInBounds_toArray, List.set_cons_zero, List.set_cons_succ, List.getElem_toArray, List.getElem_cons_zero, List.getElem_cons_succ]
      refine wpAnyH_take (i := 36) (v := .pointer (some ⟨r, 0, none⟩)) rfl (by kernel_rfl) (by kernel_rfl) (by kernel_rfl) (fun _ _ _ h => h) (Or.inl ⟨by kernel_rfl, ?hy36a⟩) hHeld ?rest36a
      case hy36a => (intro w hSw; (try dsimp only at hSw); go_simp; try with_reducible rfl)
      try simp only [Act.put, List.setIfInBounds_toArray, List.set_cons_zero, List.set_cons_succ, List.getElem_toArray, List.getElem_cons_zero, List.getElem_cons_succ]
      refine wpAnyH_take (i := 37) (v := .pointer (some ⟨r, 3, none⟩)) rfl (by kernel_rfl) (by kernel_rfl) (by kernel_rfl) (fun _ _ _ h => h) (Or.inl ⟨by kernel_rfl, ?hy37a⟩) hHeld ?rest37a
      case hy37a => (intro w hSw; (try dsimp only at hSw); go_simp; try with_reducible rfl)
      try simp only [Act.put, List.setIfInBounds_toArray, List.set_cons_zero, List.set_cons_succ, List.getElem_toArray, List.getElem_cons_zero, List.getElem_cons_succ]
      refine wpAnyH_take (i := 38) (v := .bool (!up)) rfl (by kernel_rfl) (by kernel_rfl) (by kernel_rfl) (fun _ _ _ h => h) (Or.inl ⟨by kernel_rfl, ?hy38a⟩) hHeld ?rest38a
      case hy38a => (intro w hSw; (try dsimp only at hSw); go_simp; try with_reducible rfl)
      try simp only [Act.put, List.setIfInBounds_toArray, List.set_cons_zero, List.set_cons_succ, List.getElem_toArray, List.getElem_cons_zero, List.getElem_cons_succ]
      refine wpAnyH_ready (rs := [31]) (by kernel_rfl) (by simp) ?_
      refine AllReadyH.cons rfl (fun K hK => ?_) AllReadyH.nil
      go_simp; refine (KU.out _ BWd.out).mono ?_; rintro e w' ⟨rfl, hw⟩; obtain rfl := hw.symm; clear hw; go_wp2_with fail
      refine hK.out _ _ ?hS31a (fun hHeld => ?rest31a)
      case hS31a => exact CC.out _ BWd.out
      clear hK K
      try simp only [Act.put, List.setIfInBounds_toArray, List.set_cons_zero, List.set_cons_succ, List.getElem_toArray, List.getElem_cons_zero, List.getElem_cons_succ]
      refine wpAnyH_take (i := 39) (v := .bool false) rfl (by kernel_rfl) (by kernel_rfl) (by kernel_rfl) (fun _ _ _ h => h) (Or.inl ⟨by kernel_rfl, ?hy39a⟩) hHeld ?rest39a
      case hy39a => (intro w hSw; (try dsimp only at hSw); go_simp; try (first | exact HUp.out | (cases up <;> rfl)))
      try simp only [Act.put, List.setIfInBounds_toArray, List.set_cons_zero, List.set_cons_succ, List.getElem_toArray, List.getElem_cons_zero, List.getElem_cons_succ]
      refine wpAnyH_take (i := 40) (v := .bool false) rfl (by kernel_rfl) (by kernel_rfl) (by kernel_rfl) (fun _ _ _ h => h) (Or.inl ⟨by kernel_rfl, ?hy40a⟩) hHeld ?rest40a
      case hy40a => (intro w hSw; (try dsimp only at hSw); go_simp; try with_reducible rfl)
      try simp only [Act.put, List.setIfInBounds_toArray, List.set_cons_zero, List.set_cons_succ, List.getElem_toArray, List.getElem_cons_zero, List.getElem_cons_succ]
      refine wpAnyH_done (by kernel_rfl) ?_ _
      refine NoPanic.normal ?_

      try go_wp2_with fail
      go_meet
      case rel => exact ⟨rfl, below_drewN (Below.refl _ _) 1⟩
  case rest =>
    obtain ⟨rfl, BX⟩ := hcut
    have IX : Hid (Img wc wz.heap.size go n V s.D) := IM.out.keep BX.out
    have B0 : Hid (Below wz.heap.size wz wc) := BW1.out.trans (BX.out.mono BW1.out.size)
    clear IM BX KU KD KI
    go_wp2_with fail
    go_loopg [56] n (fun gg jv wq => ∃ (j : Nat), j ≤ n ∧ gg = n - j ∧ jv = .int .i64 (j : Int) ∧ Hid (Img wq wz.heap.size go n V s.D) ∧ Hid (Below wz.heap.size wz wq))
    case atStart => exact ⟨0, by omega, rfl, rfl, IX, B0⟩
    case round =>
      obtain ⟨j, hjn, rfl, rfl, IQ, BQ⟩ := hrel
      clear IX B0
      by_cases hj : j < n
      · have f1 : decide ((j : Int) < (n : Int)) = true := by rw [decide_eq_true_eq]; omega
        have hn4 := HN.out.2
        have hDl := HN.out.1
        have hVl := HV.out
        obtain ⟨p1, hp1⟩ : ∃ p, V[j]? = some p := ⟨_, List.getElem?_eq_getElem (by omega)⟩
        obtain ⟨z1, hz1, ho1⟩ := IQ.out.own j p1 hp1
        have s64 : z1.length = 64 := by
          have := ho1.holds.2.1
          simpa [sv] using this
        have k1 : wr.cell? ⟨go, j, none⟩ = some (.slice (some ⟨p1.1, 0, none⟩) 64 p1.2) := (IQ.out.row.cellAt j (by omega)).trans (vlS_at V n j p1 hp1)
        obtain ⟨gB, cB', eB, k3⟩ := (RT.out _ BQ.out).cell j z1 hz1
        injection eB with eB1 eB2 eB3
        subst eB1
        clear eB2 eB3
        obtain ⟨_, k4, k2, _, _⟩ := CC.out _ BQ.out
        have cv1 : ∀ q, (convert 52 9 (.slice (some ⟨p1.1, 0, none⟩) 64 p1.2)).run Tryz.prog (wr.drewN q) = .ok (.string (strOfNums z1)) (wr.drewN q) := fun q => conv_str (w := wr.drewN q) ho1.holds.1 _ _ s64
        have rj : IntKind.i64.wrap ((j : Int) + 1) = (j : Int) + 1 := by rw [IntKind.wrap_i64]; omega
        clear hz1 ho1 s64 hp1 hDl hVl
        generalize strOfNums z1 = st at *
        obtain ⟨pa, pb⟩ := p1
        simp only at k1 cv1
        go_wp2_with fail
        go_quiet (fail)
        go_wp2_with fail
        go_roundg (n - (j + 1))
        case measure => omega
        case rel => exact ⟨j + 1, by omega, rfl, by go_num, IQ.out.keep ⟨rfl, rfl, rfl, Nat.le_refl _, fun _ _ => rfl⟩, BQ.out.trans ⟨rfl, rfl, rfl, Nat.le_refl _, fun _ _ => rfl⟩⟩
      · have f1 : decide ((j : Int) < (n : Int)) = false := by rw [decide_eq_false_iff_not]; omega
        obtain ⟨k2, k3⟩ := CQ.out _ BQ.out
        cases o with
        | none =>
          obtain ⟨e1, e2, _, _⟩ := HP.out.lg
          subst e1 e2
          go_wp2_with fail
          go_ret
          exact ⟨rfl, BQ.out⟩
        | some l =>
          obtain ⟨bl, bq, e1, e2, hlm, hrl, hok⟩ := HP.out.lg
          subst e1 e2
          have HLM : Hid (∀ W, Below wz.heap.size wz W → Lm W G bl d l) := fun W hb => hlm.keep hb
          have HRL : Hid (∀ W, Below wz.heap.size wz W → Rl W G2 bq r l) := fun W hb => hrl.keep hb
          have HRK : Hid (∀ W, Below wz.heap.size wz W → Rk W F2 r N s) := fun W hb => Rk.keep HP.out.rk hb
          have HOK : Hid (l.Ok N) := hok
          obtain ⟨hm1, hm2⟩ := HM.out l rfl
          obtain ⟨vL, vW, rp, _⟩ := hrl
          obtain ⟨d0, d1, d2, d3, d4, d5⟩ := rp.cell.six
          obtain ⟨aL, cL, hvL, _, hiL, _, _⟩ := rp.rows.slice
          obtain ⟨aW, cW, hvW, _, _, _, _⟩ := rp.wait.slice
          subst hvL hvW
          have hbql : bq < wz.heap.size := rp.cell.lt
          obtain ⟨nl, hnl⟩ : ∃ q, l.R.length = q := ⟨_, rfl⟩
          obtain ⟨kw, hkw⟩ : ∃ q, l.W.length = q := ⟨_, rfl⟩
          rw [hnl] at d3
          rw [hkw] at d4
          have HNL : Hid (l.R.length = nl ∧ l.W.length = kw ∧ nl ≤ 16376) := ⟨hnl, hkw, by rw [← hnl]; exact hok.few.1⟩
          have HIL : Hid (∀ W, Below wz.heap.size wz W → InS W aL l.R) := fun W hb => hiL.keep hb
          have CS : Hid (∀ W, Below wz.heap.size wz W → W.cell? ⟨bp, 2, none⟩ = some (.pointer (some ⟨bl, 0, none⟩)) ∧ W.cell? ⟨bp, 3, none⟩ = some (.pointer (some ⟨bq, 0, none⟩)) ∧ W.cell? ⟨bq, 3, none⟩ = some (.slice aL nl cL) ∧ W.cell? ⟨bq, 4, none⟩ = some (.slice aW kw cW)) := fun W hb => ⟨(CQ.out W hb).1, (CQ.out W hb).2, (hb.cell (p := ⟨bq, 3, none⟩) hbql).trans d3, (hb.cell (p := ⟨bq, 4, none⟩) hbql).trans d4⟩
          have HRb : Hid (∀ B ∈ l.R, IsBytes B) := fun B hB => (hok.rb B hB).1
          clear hlm rp d0 d1 d2 d3 d4 d5 hiL hok hnl hkw hbql
          go_wp2_with fail
          refine (wrecords_is wr G bl d N l (HLM.out wr BQ.out) HOK.out).mono ?_
          rintro e w2 ⟨v2, rfl, hr2, hb2⟩
          obtain ⟨a2, c2, hv2, _, hi2, _, _⟩ := hr2.slice
          subst hv2
          have R2 : Hid (RowsS w2 wr.heap.size (.slice a2 nl c2) l.R) := by have h := hr2; rw [HNL.out.1] at h; exact h
          have HI2 : Hid (InS w2 a2 l.R) := hi2
          have B2 : Hid (Below wr.heap.size wr w2) := hb2
          have BZ2 : Hid (Below wz.heap.size wz w2) := BQ.out.trans (hb2.mono BQ.out.size)
          have BZd : Hid (Below wz.heap.size wz w2.drew) := BZ2.out.trans ((below_drewN (Below.refl _ _) 1).mono BZ2.out.size)
          rw [HNL.out.1]
          clear hr2 hi2 hb2
          go_upto_region 13 with fail
          go_cut [6] (fun c wx => c = .bool true ∧ Hid (Below w2.heap.size w2 wx))
          case first =>
            refine wp_region_noPanic ?_
            refine wp_region_held_drew (S := (fun W : World => W.cell? ⟨bp, 2, none⟩ = some (.pointer (some ⟨bl, 0, none⟩)) ∧ W.cell? ⟨bp, 3, none⟩ = some (.pointer (some ⟨bq, 0, none⟩)) ∧ W.cell? ⟨bq, 3, none⟩ = some (.slice aL nl cL) ∧ W.cell? ⟨bq, 4, none⟩ = some (.slice aW kw cW))) (by kernel_rfl) ?hSab (fun hHeld => ?restab)
            case hSab => exact CS.out _ BZd.out
            case restab =>
              refine wpAnyH_take (i := 0) (v := .slice a2 nl c2) rfl (by kernel_rfl) (by kernel_rfl) (by kernel_rfl) (fun _ _ _ h => h) (Or.inl ⟨by kernel_rfl, ?hy0b⟩) hHeld ?rest0b
              case hy0b => (intro w hSw; (try dsimp only at hSw); go_simp; try with_reducible rfl)
              try simp only [Act.put, List.setIfInBounds_toArray, List.set_cons_zero, List.set_cons_succ, List.getElem_toArray, List.getElem_cons_zero]
              refine wpAnyH_take (i := 1) (v := .pointer (some ⟨bp, 0, none⟩)) rfl (by kernel_rfl) (by kernel_rfl) (by kernel_rfl) (fun _ _ _ h => h) (Or.inl ⟨by kernel_rfl, ?hy1b⟩) hHeld ?rest1b
              case hy1b => (intro w hSw; (try dsimp only at hSw); go_simp; try with_reducible rfl)
              try simp only [Act.put, List.setIfInBounds_toArray, List.set_cons_zero, List.set_cons_succ, List.getElem_toArray, List.getElem_cons_zero, List.getElem_cons_succ]
              refine wpAnyH_take (i := 2) (v := .pointer (some ⟨bp, 0, none⟩)) rfl (by kernel_rfl) (by kernel_rfl) (by kernel_rfl) (fun _ _ _ h => h) (Or.inl ⟨by kernel_rfl, ?hy2b⟩) hHeld ?rest2b
              case hy2b => (intro w hSw; (try dsimp only at hSw); go_simp; try with_reducible rfl)
              try simp only [Act.put, List.setIfInBounds_toArray, List.set_cons_zero, List.set_cons_succ, List.getElem_toArray, List.getElem_cons_zero, List.getElem_cons_succ]
              refine wpAnyH_take (i := 3) (v := .pointer (some ⟨bp, 3, none⟩)) rfl (by kernel_rfl) (by kernel_rfl) (by kernel_rfl) (fun _ _ _ h => h) (Or.inl ⟨by kernel_rfl, ?hy3b⟩) hHeld ?rest3b
              case hy3b => (intro w hSw; (try dsimp only at hSw); go_simp; try with_reducible rfl)
              try simp only [Act.put, List.setIfInBounds_toArray, List.set_cons_zero, List.set_cons_succ, List.getElem_toArray, List.getElem_cons_zero, List.getElem_cons_succ]
              refine wpAnyH_take (i := 4) (v := .pointer (some ⟨bq, 0, none⟩)) rfl (by kernel_rfl) (by kernel_rfl) (by kernel_rfl) (fun _ _ _ h => h) (Or.inl ⟨by kernel_rfl, ?hy4b⟩) hHeld ?rest4b
              case hy4b => (intro w hSw; (try dsimp only at hSw); go_simp; try with_reducible rfl)
              try simp only [Act.put, List.setIfInBounds_toArray, List.set_cons_zero, List.set_cons_succ, List.getElem_toArray, List.getElem_cons_zero, List.getElem_cons_succ]
              refine wpAnyH_take (i := 5) (v := .pointer (some ⟨bq, 0, none⟩)) rfl (by kernel_rfl) (by kernel_rfl) (by kernel_rfl) (fun _ _ _ h => h) (Or.inl ⟨by kernel_rfl, ?hy5b⟩) hHeld ?rest5b
              case hy5b => (intro w hSw; (try dsimp only at hSw); go_simp; try with_reducible rfl)
              try simp only [Act.put, List.setIfInBounds_toArray, List.set_cons_zero, List.set_cons_succ, List.getElem_toArray, List.getElem_cons_zero, List.getElem_cons_succ]
              refine wpAnyH_take (i := 6) (v := .pointer (some ⟨bq, 3, none⟩)) rfl (by kernel_rfl) (by kernel_rfl) (by kernel_rfl) (fun _ _ _ h => h) (Or.inl ⟨by kernel_rfl, ?hy6b⟩) hHeld ?rest6b
              case hy6b => (intro w hSw; (try dsimp only at hSw); go_simp; try with_reducible rfl)
              try simp only [Act.put, List.setIfInBounds_toArray, List.set_cons_zero, List.set_cons_succ, List.getElem_toArray, List.getElem_cons_zero, List.getElem_cons_succ]
              refine wpAnyH_take (i := 7) (v := .slice aL nl cL) rfl (by kernel_rfl) (by kernel_rfl) (by kernel_rfl) (fun _ _ _ h => h) (Or.inl ⟨by kernel_rfl, ?hy7b⟩) hHeld ?rest7b
              case hy7b => (intro w hSw; (try dsimp only at hSw); go_simp; try with_reducible rfl)
              try simp only [Act.put, List.setIfInBounds_toArray, List.set_cons_zero, List.set_cons_succ, List.getElem_toArray, List.getElem_cons_zero, List.getElem_cons_succ]

              have KSa : Hid (Calls Tryz.prog 20 #[.slice a2 nl c2, .slice aL nl cL] w2.drew fun e w' => e = .returned (.bool true) ∧ Below w2.drew.heap.size w2.drew w') := by
                have k := wsame_is w2.drew a2 aL nl nl c2 cL l.R l.R HNL.out.1 HNL.out.1 (by have := HNL.out.2.2; omega) (by have := HNL.out.2.2; omega) (HI2.out.keep (below_drewN (Below.refl _ _) 1)) (HIL.out _ BZd.out) HRb.out HRb.out
                rw [decide_eq_true (rfl : l.R = l.R)] at k
                exact k
              refine wpAnyH_ready (rs := [8]) (by kernel_rfl) (by simp) ?_
              refine AllReadyH.cons rfl (fun K hK => ?_) AllReadyH.nil
              go_simp; refine KSa.out.mono ?_; rintro e w3 ⟨rfl, hb3⟩; have BZ3 : Hid (Below wz.heap.size wz w3) := BZd.out.trans (hb3.mono BZd.out.size); have B3 : Hid (Below w2.heap.size w2 w3) := (below_drewN (Below.refl _ _) 1).trans hb3; clear hb3; go_wp2_with fail
              refine hK.out _ _ ?hS8b (fun hHeld => ?rest8b)
              case hS8b => exact CS.out _ BZ3.out
              clear hK K
              try simp only [Act.put, List.setIfInBounds_toArray, List.set_cons_zero, List.set_cons_succ, List.getElem_toArray, List.getElem_cons_zero, List.getElem_cons_succ]
              refine wpAnyH_take (i := 9) (v := .bool true) rfl (by kernel_rfl) (by kernel_rfl) (by kernel_rfl) (fun _ _ _ h => h) (Or.inl ⟨by kernel_rfl, ?hy9b⟩) hHeld ?rest9b
              case hy9b => (intro w hSw; (try dsimp only at hSw); go_simp; try with_reducible rfl)
              try simp only [Act.put, List.setIfInBounds_toArray, List.set_cons_zero, List.set_cons_succ, List.getElem_toArray, List.getElem_cons_zero, List.getElem_cons_succ]
              refine wpAnyH_take (i := 10) (v := .pointer (some ⟨bp, 0, none⟩)) rfl (by kernel_rfl) (by kernel_rfl) (by kernel_rfl) (fun _ _ _ h => h) (Or.inl ⟨by kernel_rfl, ?hy10b⟩) hHeld ?rest10b
              case hy10b => (intro w hSw; (try dsimp only at hSw); go_simp; try with_reducible rfl)
              try simp only [Act.put, List.setIfInBounds_toArray, List.set_cons_zero, List.set_cons_succ, List.getElem_toArray, List.getElem_cons_zero, List.getElem_cons_succ]
              refine wpAnyH_take (i := 11) (v := .pointer (some ⟨bp, 0, none⟩)) rfl (by kernel_rfl) (by kernel_rfl) (by kernel_rfl) (fun _ _ _ h => h) (Or.inl ⟨by kernel_rfl, ?hy11b⟩) hHeld ?rest11b
              case hy11b => (intro w hSw; (try dsimp only at hSw); go_simp; try with_reducible rfl)
              try simp only [Act.put, List.setIfInBounds_toArray, List.set_cons_zero, List.set_cons_succ, List.getElem_toArray, List.getElem_cons_zero, List.getElem_cons_succ]
              refine wpAnyH_take (i := 12) (v := .pointer (some ⟨bp, 2, none⟩)) rfl (by kernel_rfl) (by kernel_rfl) (by kernel_rfl) (fun _ _ _ h => h) (Or.inl ⟨by kernel_rfl, ?hy12b⟩) hHeld ?rest12b
              case hy12b => (intro w hSw; (try dsimp only at hSw); go_simp; try with_reducible rfl)
              try simp only [Act.put, List.setIfInBounds_toArray, List.set_cons_zero, List.set_cons_succ, List.getElem_toArray, List.getElem_cons_zero, List.getElem_cons_succ]
              refine wpAnyH_take (i := 13) (v := .pointer (some ⟨bl, 0, none⟩)) rfl (by kernel_rfl) (by kernel_rfl) (by kernel_rfl) (fun _ _ _ h => h) (Or.inl ⟨by kernel_rfl, ?hy13b⟩) hHeld ?rest13b
              case hy13b => (intro w hSw; (try dsimp only at hSw); go_simp; try with_reducible rfl)
              try simp only [Act.put, List.setIfInBounds_toArray, List.set_cons_zero, List.set_cons_succ, List.getElem_toArray, List.getElem_cons_zero, List.getElem_cons_succ]
              refine wpAnyH_take (i := 15) (v := .pointer (some ⟨bp, 0, none⟩)) rfl (by kernel_rfl) (by kernel_rfl) (by kernel_rfl) (fun _ _ _ h => h) (Or.inl ⟨by kernel_rfl, ?hy15b⟩) hHeld ?rest15b
              case hy15b => (intro w hSw; (try dsimp only at hSw); go_simp; try with_reducible rfl)
              try simp only [Act.put, List.setIfInBounds_toArray, List.set_cons_zero, List.set_cons_succ, List.getElem_toArray, List.getElem_cons_zero, List.getElem_cons_succ]
              refine wpAnyH_take (i := 16) (v := .pointer (some ⟨bp, 0, none⟩)) rfl (by kernel_rfl) (by kernel_rfl) (by kernel_rfl) (fun _ _ _ h => h) (Or.inl ⟨by kernel_rfl, ?hy16b⟩) hHeld ?rest16b
              case hy16b => (intro w hSw; (try dsimp only at hSw); go_simp; try with_reducible rfl)
              try simp only [Act.put, List.setIfInBounds_toArray, List.set_cons_zero, List.set_cons_succ, List.getElem_toArray, List.getElem_cons_zero, List.getElem_cons_succ]
              refine wpAnyH_take (i := 17) (v := .pointer (some ⟨bp, 3, none⟩)) rfl (by kernel_rfl) (by kernel_rfl) (by kernel_rfl) (fun _ _ _ h => h) (Or.inl ⟨by kernel_rfl, ?hy17b⟩) hHeld ?rest17b
              case hy17b => (intro w hSw; (try dsimp only at hSw); go_simp; try with_reducible rfl)
              try simp only [Act.put, List.setIfInBounds_toArray, List.set_cons_zero, List.set_cons_succ, List.getElem_toArray, List.getElem_cons_zero, List.getElem_cons_succ]
              refine wpAnyH_take (i := 18) (v := .pointer (some ⟨bq, 0, none⟩)) rfl (by kernel_rfl) (by kernel_rfl) (by kernel_rfl) (fun _ _ _ h => h) (Or.inl ⟨by kernel_rfl, ?hy18b⟩) hHeld ?rest18b
              case hy18b => (intro w hSw; (try dsimp only at hSw); go_simp; try with_reducible rfl)
              try simp only [Act.put, List.setIfInBounds_toArray, List.set_cons_zero, List.set_cons_succ, List.getElem_toArray, List.getElem_cons_zero, List.getElem_cons_succ]
              refine wpAnyH_take (i := 19) (v := .pointer (some ⟨bq, 0, none⟩)) rfl (by kernel_rfl) (by kernel_rfl) (by kernel_rfl) (fun _ _ _ h => h) (Or.inl ⟨by kernel_rfl, ?hy19b⟩) hHeld ?rest19b
              case hy19b => (intro w hSw; (try dsimp only at hSw); go_simp; try with_reducible rfl)
              try simp only [Act.put, List.setIfInBounds_toArray, List.set_cons_zero, List.set_cons_succ, List.getElem_toArray, List.getElem_cons_zero, List.getElem_cons_succ]
              refine wpAnyH_take (i := 20) (v := .pointer (some ⟨bq, 4, none⟩)) rfl (by kernel_rfl) (by kernel_rfl) (by kernel_rfl) (fun _ _ _ h => h) (Or.inl ⟨by kernel_rfl, ?hy20b⟩) hHeld ?rest20b
              case hy20b => (intro w hSw; (try dsimp only at hSw); go_simp; try with_reducible rfl)
              try simp only [Act.put, List.setIfInBounds_toArray, List.set_cons_zero, List.set_cons_succ, List.getElem_toArray, List.getElem_cons_zero, List.getElem_cons_succ]
              refine wpAnyH_take (i := 21) (v := .slice aW kw cW) rfl (by kernel_rfl) (by kernel_rfl) (by kernel_rfl) (fun _ _ _ h => h) (Or.inl ⟨by kernel_rfl, ?hy21b⟩) hHeld ?rest21b
              case hy21b => (intro w hSw; (try dsimp only at hSw); go_simp; try with_reducible rfl)
              try simp only [Act.put, List.setIfInBounds_toArray, List.set_cons_zero, List.set_cons_succ, List.getElem_toArray, List.getElem_cons_zero, List.getElem_cons_succ]
              refine wpAnyH_take (i := 22) (v := .int .i64 (kw : Int)) rfl (by kernel_rfl) (by kernel_rfl) (by kernel_rfl) (fun _ _ _ h => h) (Or.inl ⟨by kernel_rfl, ?hy22b⟩) hHeld ?rest22b
              case hy22b => (intro w hSw; (try dsimp only at hSw); go_simp; try with_reducible rfl)
              try simp only [Act.put, List.setIfInBounds_toArray, List.set_cons_zero, List.set_cons_succ, List.getElem_toArray, List.getElem_cons_zero, List.getElem_cons_succ]

              have KWt : Hid (Calls Tryz.prog 27 #[.pointer (some ⟨bl, 0, none⟩)] w3 fun e w' => e = .returned (.int .i64 (kw : Int)) ∧ w' = w3) := by
                have k := wwaiting_is w3 G bl d l (HLM.out w3 BZ3.out)
                rw [HNL.out.2.1] at k
                exact k
              obtain ⟨ln, hln⟩ : ∃ q, l.ln = q := ⟨_, rfl⟩
              obtain ⟨rm, hrm⟩ : ∃ q, l.room = q := ⟨_, rfl⟩
              have KUs : Hid (Calls Tryz.prog 22 #[.pointer (some ⟨bl, 0, none⟩)] w3 fun e w' => e = .returned (.int .i64 (ln : Int)) ∧ w' = w3) := by
                have k := wused_is w3 G bl d l (HLM.out w3 BZ3.out)
                rw [hln] at k
                exact k
              have KUr : Hid (Calls Tryz.prog 28 #[.pointer (some ⟨bq, 0, none⟩)] w3 fun e w' => e = .returned (.int .i64 (ln : Int)) ∧ w' = w3) := by
                have k := rused_is w3 G2 bq r N l (HRL.out w3 BZ3.out) HOK.out
                rw [hln] at k
                exact k
              have KRo : Hid (Calls Tryz.prog 16 #[.pointer (some ⟨bl, 0, none⟩)] w3 fun e w' => e = .returned (.int .i64 (rm : Int)) ∧ Below w3.heap.size w3 w') := by
                have k := wroom_is w3 G bl d N l (HLM.out w3 BZ3.out) HOK.out
                rw [hrm] at k
                exact k
              have KRr : Hid (∀ W, Below wz.heap.size wz W → Calls Tryz.prog 29 #[.pointer (some ⟨bq, 0, none⟩)] W fun e w' => e = .returned (.int .i64 (rm : Int)) ∧ Below W.heap.size W w') := fun W hb => by
                have k := rroom_is W F2 G2 bq r N N s l (HRK.out W hb) hm2 hm1 (HRL.out W hb) HOK.out
                rw [hrm] at k
                exact k
              clear hln hrm
              refine wpAnyH_ready (rs := [14]) (by kernel_rfl) (by simp) ?_
              refine AllReadyH.cons rfl (fun K hK => ?_) AllReadyH.nil
              go_simp; refine KWt.out.mono ?_; rintro e w' ⟨rfl, hw⟩; obtain rfl := hw.symm; clear hw; go_wp2_with fail
              refine hK.out _ _ ?hS14b (fun hHeld => ?rest14b)
              case hS14b => exact CS.out _ BZ3.out
              clear hK K
              try simp only [Act.put, List.setIfInBounds_toArray, List.set_cons_zero, List.set_cons_succ, List.getElem_toArray, List.getElem_cons_zero, List.getElem_cons_succ]
              refine wpAnyH_take (i := 23) (v := .bool true) rfl (by kernel_rfl) (by kernel_rfl) (by kernel_rfl) (fun _ _ _ h => h) (Or.inl ⟨by kernel_rfl, ?hy23b⟩) hHeld ?rest23b
              case hy23b => (intro w hSw; (try dsimp only at hSw); go_simp; try with_reducible rfl)
              try simp only [Act.put, List.setIfInBounds_toArray, List.set_cons_zero, List.set_cons_succ, List.getElem_toArray, List.getElem_cons_zero, List.getElem_cons_succ]
              refine wpAnyH_take (i := 24) (v := .bool true) rfl (by kernel_rfl) (by kernel_rfl) (by kernel_rfl) (fun _ _ _ h => h) (Or.inl ⟨by kernel_rfl, ?hy24b⟩) hHeld ?rest24b
              case hy24b => (intro w hSw; (try dsimp only at hSw); go_simp; try with_reducible rfl)
              try simp only [Act.put, List.setIfInBounds_toArray, List.set_cons_zero, List.set_cons_succ, List.getElem_toArray, List.getElem_cons_zero, List.getElem_cons_succ]
              refine wpAnyH_take (i := 25) (v := .bool true) rfl (by kernel_rfl) (by kernel_rfl) (by kernel_rfl) (fun _ _ _ h => h) (Or.inl ⟨by kernel_rfl, ?hy25b⟩) hHeld ?rest25b
              case hy25b => (intro w hSw; (try dsimp only at hSw); go_simp; try with_reducible rfl)
              try simp only [Act.put, List.setIfInBounds_toArray, List.set_cons_zero, List.set_cons_succ, List.getElem_toArray, List.getElem_cons_zero, List.getElem_cons_succ]
              refine wpAnyH_take (i := 26) (v := .pointer (some ⟨bp, 0, none⟩)) rfl (by kernel_rfl) (by kernel_rfl) (by kernel_rfl) (fun _ _ _ h => h) (Or.inl ⟨by kernel_rfl, ?hy26b⟩) hHeld ?rest26b
              case hy26b => (intro w hSw; (try dsimp only at hSw); go_simp; try with_reducible rfl)
              try simp only [Act.put, List.setIfInBounds_toArray, List.set_cons_zero, List.set_cons_succ, List.getElem_toArray, List.getElem_cons_zero, List.getElem_cons_succ]
              refine wpAnyH_take (i := 27) (v := .pointer (some ⟨bp, 0, none⟩)) rfl (by kernel_rfl) (by kernel_rfl) (by kernel_rfl) (fun _ _ _ h => h) (Or.inl ⟨by kernel_rfl, ?hy27b⟩) hHeld ?rest27b
              case hy27b => (intro w hSw; (try dsimp only at hSw); go_simp; try with_reducible rfl)
              try simp only [Act.put, List.setIfInBounds_toArray, List.set_cons_zero, List.set_cons_succ, List.getElem_toArray, List.getElem_cons_zero, List.getElem_cons_succ]
              refine wpAnyH_take (i := 28) (v := .pointer (some ⟨bp, 2, none⟩)) rfl (by kernel_rfl) (by kernel_rfl) (by kernel_rfl) (fun _ _ _ h => h) (Or.inl ⟨by kernel_rfl, ?hy28b⟩) hHeld ?rest28b
              case hy28b => (intro w hSw; (try dsimp only at hSw); go_simp; try with_reducible rfl)
              try simp only [Act.put, List.setIfInBounds_toArray, List.set_cons_zero, List.set_cons_succ, List.getElem_toArray, List.getElem_cons_zero, List.getElem_cons_succ]
              refine wpAnyH_take (i := 29) (v := .pointer (some ⟨bl, 0, none⟩)) rfl (by kernel_rfl) (by kernel_rfl) (by kernel_rfl) (fun _ _ _ h => h) (Or.inl ⟨by kernel_rfl, ?hy29b⟩) hHeld ?rest29b
              case hy29b => (intro w hSw; (try dsimp only at hSw); go_simp; try with_reducible rfl)
              try simp only [Act.put, List.setIfInBounds_toArray, List.set_cons_zero, List.set_cons_succ, List.getElem_toArray, List.getElem_cons_zero, List.getElem_cons_succ]
              refine wpAnyH_take (i := 31) (v := .pointer (some ⟨bp, 0, none⟩)) rfl (by kernel_rfl) (by kernel_rfl) (by kernel_rfl) (fun _ _ _ h => h) (Or.inl ⟨by kernel_rfl, ?hy31b⟩) hHeld ?rest31b
              case hy31b => (intro w hSw; (try dsimp only at hSw); go_simp; try with_reducible rfl)
              try simp only [Act.put, List.setIfInBounds_toArray, List.set_cons_zero, List.set_cons_succ, List.getElem_toArray, List.getElem_cons_zero, List.getElem_cons_succ]
              refine wpAnyH_take (i := 32) (v := .pointer (some ⟨bp, 0, none⟩)) rfl (by kernel_rfl) (by kernel_rfl) (by kernel_rfl) (fun _ _ _ h => h) (Or.inl ⟨by kernel_rfl, ?hy32b⟩) hHeld ?rest32b
              case hy32b => (intro w hSw; (try dsimp only at hSw); go_simp; try with_reducible rfl)
              try simp only [Act.put, List.setIfInBounds_toArray, List.set_cons_zero, List.set_cons_succ, List.getElem_toArray, List.getElem_cons_zero, List.getElem_cons_succ]
              refine wpAnyH_take (i := 33) (v := .pointer (some ⟨bp, 3, none⟩)) rfl (by kernel_rfl) (by kernel_rfl) (by kernel_rfl) (fun _ _ _ h => h) (Or.inl ⟨by kernel_rfl, ?hy33b⟩) hHeld ?rest33b
              case hy33b => (intro w hSw; (try dsimp only at hSw); go_simp; try with_reducible rfl)
              try simp only [Act.put, List.setIfInBounds_toArray, List.set_cons_zero, List.set_cons_succ, List.getElem_toArray, List.getElem_cons_zero, List.getElem_cons_succ]
              refine wpAnyH_take (i := 34) (v := .pointer (some ⟨bq, 0, none⟩)) rfl (by kernel_rfl) (by kernel_rfl) (by kernel_rfl) (fun _ _ _ h => h) (Or.inl ⟨by kernel_rfl, ?hy34b⟩) hHeld ?rest34b
              case hy34b => (intro w hSw; (try dsimp only at hSw); go_simp; try with_reducible rfl)
              try simp only [Act.put, List.setIfInBounds_toArray, List.set_cons_zero, List.set_cons_succ, List.getElem_toArray, List.getElem_cons_zero, List.getElem_cons_succ]
              refine wpAnyH_ready (rs := [30]) (by kernel_rfl) (by simp) ?_
              refine AllReadyH.cons rfl (fun K hK => ?_) AllReadyH.nil
              go_simp; refine KUs.out.mono ?_; rintro e w' ⟨rfl, hw⟩; obtain rfl := hw.symm; clear hw; go_wp2_with fail
              refine hK.out _ _ ?hS30b (fun hHeld => ?rest30b)
              case hS30b => exact CS.out _ BZ3.out
              clear hK K
              try simp only [Act.put, List.setIfInBounds_toArray, List.set_cons_zero, List.set_cons_succ, List.getElem_toArray, List.getElem_cons_zero, List.getElem_cons_succ]
              refine wpAnyH_ready (rs := [35]) (by kernel_rfl) (by simp) ?_
              refine AllReadyH.cons rfl (fun K hK => ?_) AllReadyH.nil
              go_simp; refine KUr.out.mono ?_; rintro e w' ⟨rfl, hw⟩; obtain rfl := hw.symm; clear hw; go_wp2_with fail
              refine hK.out _ _ ?hS35b (fun hHeld => ?rest35b)
              case hS35b => exact CS.out _ BZ3.out
              clear hK K
              try simp only [Act.put, List.setIfInBounds_toArray, List.set_cons_zero, List.set_cons_succ, List.getElem_toArray, List.getElem_cons_zero, List.getElem_cons_succ]
              refine wpAnyH_take (i := 36) (v := .bool true) rfl (by kernel_rfl) (by kernel_rfl) (by kernel_rfl) (fun _ _ _ h => h) (Or.inl ⟨by kernel_rfl, ?hy36b⟩) hHeld ?rest36b
              case hy36b => (intro w hSw; (try dsimp only at hSw); go_simp; try with_reducible rfl)
              try simp only [Act.put, List.setIfInBounds_toArray, List.set_cons_zero, List.set_cons_succ, List.getElem_toArray, List.getElem_cons_zero, List.getElem_cons_succ]
              refine wpAnyH_take (i := 37) (v := .bool true) rfl (by kernel_rfl) (by kernel_rfl) (by kernel_rfl) (fun _ _ _ h => h) (Or.inl ⟨by kernel_rfl, ?hy37b⟩) hHeld ?rest37b
              case hy37b => (intro w hSw; (try dsimp only at hSw); go_simp; try with_reducible rfl)
              try simp only [Act.put, List.setIfInBounds_toArray, List.set_cons_zero, List.set_cons_succ, List.getElem_toArray, List.getElem_cons_zero, List.getElem_cons_succ]
              refine wpAnyH_take (i := 38) (v := .bool true) rfl (by kernel_rfl) (by kernel_rfl) (by kernel_rfl) (fun _ _ _ h => h) (Or.inl ⟨by kernel_rfl, ?hy38b⟩) hHeld ?rest38b
              case hy38b => (intro w hSw; (try dsimp only at hSw); go_simp; try with_reducible rfl)
              try simp only [Act.put, List.setIfInBounds_toArray, List.set_cons_zero, List.set_cons_succ, List.getElem_toArray, List.getElem_cons_zero, List.getElem_cons_succ]
              refine wpAnyH_take (i := 39) (v := .pointer (some ⟨bp, 0, none⟩)) rfl (by kernel_rfl) (by kernel_rfl) (by kernel_rfl) (fun _ _ _ h => h) (Or.inl ⟨by kernel_rfl, ?hy39b⟩) hHeld ?rest39b
              case hy39b => (intro w hSw; (try dsimp only at hSw); go_simp; try with_reducible rfl)
              try simp only [Act.put, List.setIfInBounds_toArray, List.set_cons_zero, List.set_cons_succ, List.getElem_toArray, List.getElem_cons_zero, List.getElem_cons_succ]
              refine wpAnyH_take (i := 40) (v := .pointer (some ⟨bp, 0, none⟩)) rfl (by kernel_rfl) (by kernel_rfl) (by kernel_rfl) (fun _ _ _ h => h) (Or.inl ⟨by kernel_rfl, ?hy40b⟩) hHeld ?rest40b
              case hy40b => (intro w hSw; (try dsimp only at hSw); go_simp; try with_reducible rfl)
              try simp only [Act.put, List.setIfInBounds_toArray, List.set_cons_zero, List.set_cons_succ, List.getElem_toArray, List.getElem_cons_zero, List.getElem_cons_succ]
              refine wpAnyH_take (i := 41) (v := .pointer (some ⟨bp, 2, none⟩)) rfl (by kernel_rfl) (by kernel_rfl) (by kernel_rfl) (fun _ _ _ h => h) (Or.inl ⟨by kernel_rfl, ?hy41b⟩) hHeld ?rest41b
              case hy41b => (intro w hSw; (try dsimp only at hSw); go_simp; try with_reducible rfl)
              try simp only [Act.put, List.setIfInBounds_toArray, List.set_cons_zero, List.set_cons_succ, List.getElem_toArray, List.getElem_cons_zero, List.getElem_cons_succ]
              refine wpAnyH_take (i := 42) (v := .pointer (some ⟨bl, 0, none⟩)) rfl (by kernel_rfl) (by kernel_rfl) (by kernel_rfl) (fun _ _ _ h => h) (Or.inl ⟨by kernel_rfl, ?hy42b⟩) hHeld ?rest42b
              case hy42b => (intro w hSw; (try dsimp only at hSw); go_simp; try with_reducible rfl)
              try simp only [Act.put, List.setIfInBounds_toArray, List.set_cons_zero, List.set_cons_succ, List.getElem_toArray, List.getElem_cons_zero, List.getElem_cons_succ]
              refine wpAnyH_take (i := 44) (v := .pointer (some ⟨bp, 0, none⟩)) rfl (by kernel_rfl) (by kernel_rfl) (by kernel_rfl) (fun _ _ _ h => h) (Or.inl ⟨by kernel_rfl, ?hy44b⟩) hHeld ?rest44b
              case hy44b => (intro w hSw; (try dsimp only at hSw); go_simp; try with_reducible rfl)
              try simp only [Act.put, List.setIfInBounds_toArray, List.set_cons_zero, List.set_cons_succ, List.getElem_toArray, List.getElem_cons_zero, List.getElem_cons_succ]
              refine wpAnyH_take (i := 45) (v := .pointer (some ⟨bp, 0, none⟩)) rfl (by kernel_rfl) (by kernel_rfl) (by kernel_rfl) (fun _ _ _ h => h) (Or.inl ⟨by kernel_rfl, ?hy45b⟩) hHeld ?rest45b
              case hy45b => (intro w hSw; (try dsimp only at hSw); go_simp; try with_reducible rfl)
              try simp only [Act.put, List.setIfInBounds_toArray, List.set_cons_zero, List.set_cons_succ, List.getElem_toArray, List.getElem_cons_zero, List.getElem_cons_succ]
              refine wpAnyH_take (i := 46) (v := .pointer (some ⟨bp, 3, none⟩)) rfl (by kernel_rfl) (by kernel_rfl) (by kernel_rfl) (fun _ _ _ h => h) (Or.inl ⟨by kernel_rfl, ?hy46b⟩) hHeld ?rest46b
              case hy46b => (intro w hSw; (try dsimp only at hSw); go_simp; try with_reducible rfl)
              try simp only [Act.put, List.setIfInBounds_toArray, List.set_cons_zero, List.set_cons_succ, List.getElem_toArray, List.getElem_cons_zero, List.getElem_cons_succ]
              refine wpAnyH_take (i := 47) (v := .pointer (some ⟨bq, 0, none⟩)) rfl (by kernel_rfl) (by kernel_rfl) (by kernel_rfl) (fun _ _ _ h => h) (Or.inl ⟨by kernel_rfl, ?hy47b⟩) hHeld ?rest47b
              case hy47b => (intro w hSw; (try dsimp only at hSw); go_simp; try with_reducible rfl)
              try simp only [Act.put, List.setIfInBounds_toArray, List.set_cons_zero, List.set_cons_succ, List.getElem_toArray, List.getElem_cons_zero, List.getElem_cons_succ]
              refine wpAnyH_ready (rs := [43]) (by kernel_rfl) (by simp) ?_
              refine AllReadyH.cons rfl (fun K hK => ?_) AllReadyH.nil
              go_simp; refine KRo.out.mono ?_; rintro e w4 ⟨rfl, hb4⟩; have BZ4 : Hid (Below wz.heap.size wz w4) := BZ3.out.trans (hb4.mono BZ3.out.size); have B4 : Hid (Below w2.heap.size w2 w4) := B3.out.trans (hb4.mono B3.out.size); clear hb4; go_wp2_with fail
              refine hK.out _ _ ?hS43b (fun hHeld => ?rest43b)
              case hS43b => exact CS.out _ BZ4.out
              clear hK K
              try simp only [Act.put, List.setIfInBounds_toArray, List.set_cons_zero, List.set_cons_succ, List.getElem_toArray, List.getElem_cons_zero, List.getElem_cons_succ]
              refine wpAnyH_ready (rs := [48]) (by kernel_rfl) (by simp) ?_
              refine AllReadyH.cons rfl (fun K hK => ?_) AllReadyH.nil
              go_simp; refine (KRr.out w4 BZ4.out).mono ?_; rintro e w5 ⟨rfl, hb5⟩; have BZ5 : Hid (Below wz.heap.size wz w5) := BZ4.out.trans (hb5.mono BZ4.out.size); have B5 : Hid (Below w2.heap.size w2 w5) := B4.out.trans (hb5.mono B4.out.size); clear hb5; go_wp2_with fail
              refine hK.out _ _ ?hS48b (fun hHeld => ?rest48b)
              case hS48b => exact CS.out _ BZ5.out
              clear hK K
              try simp only [Act.put, List.setIfInBounds_toArray, List.set_cons_zero, List.set_cons_succ, List.getElem_toArray, List.getElem_cons_zero, List.getElem_cons_succ]
              refine wpAnyH_take (i := 49) (v := .bool true) rfl (by kernel_rfl) (by kernel_rfl) (by kernel_rfl) (fun _ _ _ h => h) (Or.inl ⟨by kernel_rfl, ?hy49b⟩) hHeld ?rest49b
              case hy49b => (intro w hSw; (try dsimp only at hSw); go_simp; try with_reducible rfl)
              try simp only [Act.put, List.setIfInBounds_toArray, List.set_cons_zero, List.set_cons_succ, List.getElem_toArray, List.getElem_cons_zero, List.getElem_cons_succ]
              refine wpAnyH_take (i := 50) (v := .bool true) rfl (by kernel_rfl) (by kernel_rfl) (by kernel_rfl) (fun _ _ _ h => h) (Or.inl ⟨by kernel_rfl, ?hy50b⟩) hHeld ?rest50b
              case hy50b => (intro w hSw; (try dsimp only at hSw); go_simp; try with_reducible rfl)
              try simp only [Act.put, List.setIfInBounds_toArray, List.set_cons_zero, List.set_cons_succ, List.getElem_toArray, List.getElem_cons_zero, List.getElem_cons_succ]
              refine wpAnyH_take (i := 51) (v := .bool true) rfl (by kernel_rfl) (by kernel_rfl) (by kernel_rfl) (fun _ _ _ h => h) (Or.inl ⟨by kernel_rfl, ?hy51b⟩) hHeld ?rest51b
              case hy51b => (intro w hSw; (try dsimp only at hSw); go_simp; try with_reducible rfl)
              try simp only [Act.put, List.setIfInBounds_toArray, List.set_cons_zero, List.set_cons_succ, List.getElem_toArray, List.getElem_cons_zero, List.getElem_cons_succ]
              refine wpAnyH_done (by kernel_rfl) ?_ _
              refine NoPanic.normal ?_

              try go_wp2_with fail
              go_meet
              case rel => exact ⟨rfl, B5⟩
          case rest =>
            obtain ⟨rfl, BX⟩ := hcut
            have R3 : Hid (RowsS wc wr.heap.size (.slice a2 nl c2) l.R) := R2.out.keep BX.out
            have B3 : Hid (Below wz.heap.size wz wc) := BZ2.out.trans (BX.out.mono BZ2.out.size)
            obtain ⟨h9, h9e⟩ : ∃ h, h = wr.heap.size := ⟨_, rfl⟩
            have hzr : wz.heap.size ≤ h9 := by rw [h9e]; exact BQ.out.size
            have R3' : Hid (RowsS wc h9 (.slice a2 nl c2) l.R) := by rw [h9e]; exact R3.out
            clear R3 h9e
            have hnl4 := HNL.out.2.2
            have HLn : Hid (l.R.length = nl) := HNL.out.1
            clear BX CS HLM HRL HRK HIL
            go_wp2_with fail
            go_loopg [139] nl (fun gg jv wq => ∃ (j : Nat) (L2 : List (List Int)), j ≤ nl ∧ gg = nl - j ∧ jv = .int .i64 (j : Int) ∧ Hid (RowsS wq h9 (.slice a2 nl c2) L2 ∧ L2.length = nl) ∧ Hid (Below wz.heap.size wz wq))
            case atStart => exact ⟨0, l.R, by omega, rfl, rfl, ⟨R3'.out, HLn.out⟩, B3⟩
            case round =>
              obtain ⟨j, L2, hjn, rfl, rfl, RQ, BQ2⟩ := hrel
              by_cases hj : j < nl
              · have f1 : decide ((j : Int) < (nl : Int)) = true := by rw [decide_eq_true_eq]; omega
                obtain ⟨g, hg⟩ : ∃ g, a2 = some ⟨g, 0, none⟩ := by
                  rcases RQ.out.1.2 with ⟨h, h0⟩ | ⟨g, cap, cur, h, _⟩
                  · have := RQ.out.2; omega
                  · injection h with h1 _ _
                    exact ⟨g, h1⟩
                subst hg
                have hgo : h9 ≤ g := (RQ.out.1.own g rfl).1
                have hc : wr.cell? ⟨g, j, none⟩ = some (.string (strOfNums (L2.getD j []))) := by
                  have h := RQ.out.1.slice
                  obtain ⟨a', c', e', _, hi, _, _⟩ := h
                  rcases hi with h | ⟨g', off, e2, h3⟩
                  · have := RQ.out.2; rw [h] at this; simp at this; omega
                  · injection e' with e1 _ _
                    rw [e2] at e1
                    have e3 := Option.some.inj e1
                    injection e3 with e4 e5 _
                    subst e4 e5
                    have := h3 j (by rw [RQ.out.2]; exact hj)
                    rwa [Nat.zero_add] at this
                have hfz : wr.frozen? ⟨g, j, none⟩ = false := World.ownsRow.frozenAt (n := L2.length) (show wr.ownsRow h9 9 1 (.slice (some ⟨g, 0, none⟩) L2.length c2) L2.length (sV L2) by have h := RQ.out.1; rw [← RQ.out.2] at h; exact h) j
                have RS : Hid (RowsS (wr.setCell ⟨g, j, none⟩ (.string (strOfNums [63]))) h9 (.slice (some ⟨g, 0, none⟩) nl c2) (L2.set j [63]) ∧ (L2.set j [63]).length = nl) := ⟨RQ.out.1.store RQ.out.2 j [63], by rw [List.length_set]; exact RQ.out.2⟩
                have BS : Hid (Below wz.heap.size wz (wr.setCell ⟨g, j, none⟩ (.string (strOfNums [63])))) := BQ2.out.setCell (show wz.heap.size ≤ g from Nat.le_trans hzr hgo) _
                generalize strOfNums (L2.getD j []) = old at *
                go_wp2_with fail
                go_roundg (nl - (j + 1))
                case measure => omega
                case rel => exact ⟨j + 1, _, by omega, rfl, by go_num, RS.out, BS.out⟩
              · have f1 : decide ((j : Int) < (nl : Int)) = false := by rw [decide_eq_false_iff_not]; omega
                go_wp2_with fail
                go_ret
                exact ⟨rfl, BQ2.out⟩

end Go.Proofs.YtkhopmlhinkpcaaGreat
namespace Go.Proofs.YtkhopmlhinkpcaaGreat
open Go.ChangeShapes Go.WideShapes Go.ChangeAt Go.RowKit Go.Deep Go.Maps
set_option linter.unusedVariables false
theorem wa_succ (i : Nat) (W : Int → List (List Int)) : wa (i + 1) W = wa i W ++ (if W (i : Int) = [] then [] else [((i : Int), ((W (i : Int)).length : Int))]) := by
  unfold wa wb
  rw [List.range_succ, List.filter_append, List.map_append]
  by_cases h : W (i : Int) = []
  · simp [h]
  · simp [h]
set_option maxRecDepth 100000 in
set_option maxHeartbeats 4000000 in
theorem rk_waiting (w : World) (F : Nat → Prop) (b N : Nat) (s : Ds) (H : Rk w F b N s) (hN : N ≤ 1000000) :
    Calls Tryz.prog 59 #[.pointer (some ⟨b, 0, none⟩)] w fun e w' => ∃ v, e = .returned v ∧ OwnW w' w.heap.size v (wa s.D.length s.W) ∧ Below w.heap.size w w' := by
  obtain ⟨L, vB, vL, p, hF, h1, h2, h3, h4, h5⟩ := H
  obtain ⟨aB, cB, rfl⟩ := p.dur.form
  obtain ⟨aL, cL, rfl⟩ := p.wts.form
  have hW : s.W = sel L := funext h1
  rw [hW]
  have WW : Hid (∀ wr, Below w.heap.size w wr → RkP wr b s.D L (!s.up) s.dn s.fu (.slice aB s.D.length cB) (.slice aL L.length cL)) := fun wr hb => p.kept fun k hk => hb.block k (p.lt k hk)
  clear p hF h1 h4 h5 hW
  obtain ⟨n, hn⟩ : ∃ n, s.D.length = n := ⟨_, rfl⟩
  obtain ⟨nL, hnL⟩ : ∃ nL, L.length = nL := ⟨_, rfl⟩
  have HNL : Hid (L.length = nL) := hnL
  have WW : Hid (∀ wr, Below w.heap.size w wr → RkP wr b s.D L (!s.up) s.dn s.fu (.slice aB n cB) (.slice aL nL cL)) := by rw [← hn, ← hnL]; exact WW.out
  rw [hn] at h2 ⊢
  rw [hnL] at h3
  clear hn hnL
  go_enter Tryz.func59, Tryz.ntmps59
  go_wp2_with fail
  go_loopg [4, 3] n (fun gg iv ov wr => ∃ i : Nat, i ≤ n ∧ gg = n - i ∧ iv = .int .i64 (i : Int) ∧ Hid (OwnW wr w.heap.size ov (wa i (sel L))) ∧ Hid (Below w.heap.size w wr))
  case atStart => exact ⟨0, by omega, rfl, rfl, OwnW.nil _ _, Below.refl _ _⟩
  case round =>
    obtain ⟨i, hin, rfl, rfl, RO, BW⟩ := hrel
    obtain ⟨d0, d1, d2, d3, d4⟩ := r5_of (WW.out wr BW.out).cell
    have ri : i ≤ 4096 := by omega
    by_cases hi : i < n
    · have f1 : decide ((i : Int) < (n : Int)) = true := by rw [decide_eq_true_eq]; omega
      rcases Nat.eq_zero_or_pos nL with h0 | h0
      · subst h0
        have f2 : decide ((0 : Int) < ((0 : Nat) : Int)) = false := by decide
        have hL : L = [] := List.length_eq_zero_iff.1 HNL.out
        have E : Hid (wa i (sel L) = wa n (sel L)) := by
          have : ∀ m, wa m (sel L) = [] := fun m => by
            induction m with
            | zero => rfl
            | succ m ih => rw [wa_succ, ih, hL]; rfl
          show _ = _
          rw [this, this]
        clear hL
        go_wp2_with fail
        go_ret
        exact ⟨u3, rfl, E.out ▸ RO.out, BW.out⟩
      · have f2 : decide ((0 : Int) < (nL : Int)) = true := by rw [decide_eq_true_eq]; omega
        have rI : IntKind.i64.wrap ((i : Int) + 1) = (i : Int) + 1 := by rw [IntKind.wrap_i64]; omega
        rename World => wo
        go_wp2_with fail
        go_loopg [6, 5] nL (fun gg kv cv wr => ∃ k : Nat, k ≤ nL ∧ gg = nL - k ∧ kv = .int .i64 (k : Int) ∧ cv = .int .i64 ((sel (L.take k) (i : Int)).length : Int) ∧ Hid (wr = wo))
        case atStart => exact ⟨0, by omega, rfl, rfl, rfl, rfl⟩
        case round =>
          obtain ⟨k, hkn, rfl, rfl, rfl, HQ⟩ := hrel
          obtain rfl := HQ.out
          have sl9 : (sel (L.take k) (i : Int)).length ≤ 1000000000 := by
            have h1 := sel_len (L.take k) (i : Int)
            have h2 : (L.take k).length ≤ k := List.length_take_le _ _
            omega
          by_cases hk : k < nL
          · have g1 : decide ((k : Int) < (nL : Int)) = true := by rw [decide_eq_true_eq]; omega
            obtain ⟨y, hy⟩ : ∃ y, L[k]? = some y := ⟨_, List.getElem?_eq_getElem (by rw [HNL.out]; exact hk)⟩
            have ow := (WW.out wr BW.out).wts
            obtain ⟨g, c, e, m0, m1⟩ := ow.cells k y hy
            have e2 : Value.slice aL nL cL = .slice (some ⟨g, 0, none⟩) nL c := by rw [e, HNL.out]
            cases e2
            have hs := sel_take L k y hy (i : Int)
            have rk : IntKind.i64.wrap ((k : Int) + 1) = (k : Int) + 1 := by rw [IntKind.wrap_i64]; omega
            generalize sel (L.take k) (i : Int) = l at *
            have rs : IntKind.i64.wrap ((l.length : Int) + 1) = (l.length : Int) + 1 := by rw [IntKind.wrap_i64]; omega
            obtain ⟨y1, y2⟩ := y
            simp only at m0 m1 hs
            clear ow e
            by_cases hyi : y1 = (i : Int)
            · subst hyi
              rw [if_pos rfl] at hs
              have AA : Hid ((sel (L.take (k + 1)) (i : Int)).length = l.length + 1) := by show _ = _; rw [hs]; simp
              clear hs hy
              go_wp2_with fail
              go_roundg (nL - (k + 1))
              case measure => omega
              case rel => exact ⟨k + 1, by omega, rfl, by simp, by rw [AA.out]; simp, rfl⟩
            · rw [if_neg hyi, List.append_nil] at hs
              have AA : Hid ((sel (L.take (k + 1)) (i : Int)).length = l.length) := by show _ = _; rw [hs]
              have g2 : (y1 == (i : Int)) = false := by rw [beq_eq_false_iff_ne]; exact hyi
              clear hs hy
              go_wp2_with fail
              go_roundg (nL - (k + 1))
              case measure => omega
              case rel => exact ⟨k + 1, by omega, rfl, by simp, by rw [AA.out], rfl⟩
          · have g1 : decide ((k : Int) < (nL : Int)) = false := by rw [decide_eq_false_iff_not]; omega
            have et : L.take k = L := List.take_of_length_le (by rw [HNL.out]; omega)
            rw [et] at sl9 ⊢
            have hws := wa_succ i (sel L)
            obtain ⟨l, hl⟩ : ∃ l, sel L (i : Int) = l := ⟨_, rfl⟩
            rw [hl] at hws sl9 ⊢
            cases l with
            | nil =>
              have g3 : decide ((0 : Int) < ((0 : Nat) : Int)) = false := by decide
              have HS : Hid (wa (i + 1) (sel L) = wa i (sel L)) := by show _ = _; rw [hws]; simp
              clear hws
              go_wp2_with fail
              go_roundg (n - (i + 1))
              case measure => omega
              case rel => exact ⟨i + 1, by omega, rfl, by simp, (by rw [HS.out]; exact RO), BW⟩
            | cons y r =>
              obtain ⟨m, hm⟩ : ∃ m, (y :: r).length = m := ⟨_, rfl⟩
              have hm0 : 0 < m := by rw [← hm]; simp
              rw [hm] at sl9 ⊢
              have g3 : decide ((0 : Int) < (m : Int)) = true := by rw [decide_eq_true_eq]; omega
              have HS : Hid (wa (i + 1) (sel L) = wa i (sel L) ++ [((i : Int), (m : Int))]) := by show _ = _; rw [hws, hm]; simp
              have L9 : Hid ((wa i (sel L)).length ≤ 1000000000) := by
                have : (wb i (sel L)).length ≤ (List.range i).length := List.length_filter_le _ _
                rw [List.length_range] at this
                show (wa i (sel L)).length ≤ _
                unfold wa
                rw [List.length_map]
                omega
              clear hws hl hm
              go_wp2_with (at_builtin; refine append_wait rfl (.tmp 47) (.tmp 51) rfl w.heap.size u3 (wa i (sel L)) rfl (RO.out.keep (below1 _ _)) wr.heap.size 1 ((i : Int), (m : Int)) rfl (heap_alloc_new _ _) L9.out (Nat.le_trans BW.out.size (below1 _ _).size) ?_; intro v4 w4 o4 hg4; have O4 : Hid (OwnW w4 w.heap.size v4 (wa i (sel L) ++ [((i : Int), (m : Int))])) := o4; have B4 : Hid (Below w.heap.size w w4) := (BW.out.trans ((below1 wr _).mono BW.out.size)).grown hg4 (Nat.le_trans BW.out.size (below1 _ _).size) (fun k e => (RO.out.own k e).1); clear o4 hg4)
              go_roundg (n - (i + 1))
              case measure => omega
              case rel => exact ⟨i + 1, by omega, rfl, by simp, (by rw [HS.out]; exact O4), B4⟩
    · have f1 : decide ((i : Int) < (n : Int)) = false := by rw [decide_eq_false_iff_not]; omega
      obtain rfl : i = n := by omega
      go_wp2_with fail
      go_ret
      exact ⟨u3, rfl, RO.out, BW.out⟩
end Go.Proofs.YtkhopmlhinkpcaaGreat
namespace Go.Proofs.YtkhopmlhinkpcaaGreat
open Go.ChangeShapes Go.WideShapes Go.ChangeAt Go.RowKit Go.Deep Go.Maps
set_option linter.unusedVariables false
/-- append(texts, others...) -/
theorem append_textsT {w : World} {ops : Array Oper} {rest : List Oper} {o : Oper} {act : Act} {Q : Exit → Act → World → Prop} (hgd : o.guard = none) (s x : Operand)
    (ho : o.op = .call { callee := .builtin .append, args := #[s, x], argTypes := #[37, 37] })
    (base : Nat) (v : Value) (l : List (List Int)) (hs : act.eval s = v) (hown : RowT w base v l)
    (g c n : Nat) (l2 : List (List Int)) (hn : l2.length = n) (hn0 : 1 ≤ n) (base2 : Nat) (hx : act.eval x = .slice (some ⟨g, 0, none⟩) n c) (hc : RowT w base2 (.slice (some ⟨g, 0, none⟩) n c) l2)
    (hN : l.length + n ≤ 1000000000) (hbase : base ≤ w.heap.size)
    (h : ∀ g' c' w', RowT w' base (.slice (some ⟨g', 0, none⟩) (l.length + n) c') (l ++ l2) → w.grownBy w' v.ownBlock → wpList Tryz.prog ops Q rest (act.put o.dst (.slice (some ⟨g', 0, none⟩) (l.length + n) c')) w') :
    wpList Tryz.prog ops Q (o :: rest) act w := by
  obtain ⟨i, hi, hz, h1, h2⟩ := infoS
  refine wpList_append_lies w hgd s x 37 ho base 9 i _ 1 16 Tryz.underlying37 hi hz h1 h2 rfl (by decide) v l.length _ hs hown ⟨g, 0, none⟩ n c (l2.map sT) hx (by rw [List.length_map, hn, Nat.mul_one]) ?_ (by intro u hu; obtain ⟨z, _, rfl⟩ := List.mem_map.1 hu; rfl) (by omega) (by simp only [maxLen]; omega) (by omega) hbase _ rfl ?_
  · intro j u hu
    exact World.ownsRow.cells hc (g := g) rfl j u hu
  · intro g' c' w' hown' hg hat _
    refine h g' c' w' ?_ hg
    unfold RowT
    rw [List.length_append, List.map_append, hn]
    exact hown'
theorem rowT_empty (w : World) (base : Nat) (hb : base ≤ w.heap.size) : RowT (w.alloc (.cells #[] 9)) base (.slice (some ⟨w.heap.size, 0, none⟩) 0 0) [] :=
  World.ownsRow_made (e := 9) (size := 1) (base := base) w #[] 0 hb (by simp [maxLen]) rfl
theorem RowT.store {w : World} {base g n c : Nat} {l : List (List Int)} (h : RowT w base (.slice (some ⟨g, 0, none⟩) n c) l) (hn : l.length = n) (i : Nat) (y : List Int) : RowT (w.setCell ⟨g, i, none⟩ (sT y)) base (.slice (some ⟨g, 0, none⟩) n c) (l.set i y) := by
  subst hn
  unfold RowT
  rw [List.length_set, List.map_set]
  exact (World.ownsRow.stored h i (sT y)).1
set_option linter.unusedSimpArgs false in
set_option maxRecDepth 100000 in
set_option maxHeartbeats 8000000 in
theorem rk_crash (w : World) (F : Nat → Prop) (b N : Nat) (s : Ds) (H : Rk w F b N s) (hN : N ≤ 1000000) (ka : Option Addr) (kl kc : Nat) (keep : List Int) (hkl : keep.length = kl) (hin : InK w ka keep) :
    Calls Tryz.prog 37 #[.pointer (some ⟨b, 0, none⟩), .slice ka kl kc] w fun e w' => e = .returned (.tuple #[]) ∧ ∃ F', Rk w' F' b N (s.cr keep) ∧ Step F F' w w' := by
  have KW : Hid (Calls Tryz.prog 59 #[.pointer (some ⟨b, 0, none⟩)] w fun e w' => ∃ v, e = .returned v ∧ OwnW w' w.heap.size v (wa s.D.length s.W) ∧ Below w.heap.size w w') := rk_waiting w F b N s H hN
  obtain ⟨L, vB, vL, p, hF, h1, h2, h3, h4, h5⟩ := H
  have HP : Hid (RkP w b s.D L (!s.up) s.dn s.fu vB vL ∧ (∀ k, F k ↔ RFp b vB vL k) ∧ (∀ i, s.W i = sel L i) ∧ (1 ≤ s.D.length ∧ s.D.length ≤ 4096) ∧ L.length ≤ N ∧ (0 ≤ s.dn ∧ s.dn ≤ N) ∧ s.fu ≤ 9223372036854775807) := ⟨p, hF, h1, h2, h3, h4, h5⟩
  have WW : Hid (∀ wr, Below w.heap.size w wr → RkP wr b s.D L (!s.up) s.dn s.fu vB vL) := fun wr hb => p.kept fun k hk => hb.block k (p.lt k hk)
  obtain ⟨n, hn⟩ : ∃ n, s.D.length = n := ⟨_, rfl⟩
  have HND : Hid (s.D.length = n) := hn
  obtain ⟨gB, cB, hvB⟩ : ∃ gB cB, vB = .slice (some ⟨gB, 0, none⟩) n cB := by
    rcases p.dur.2 with ⟨_, h0⟩ | ⟨g, c, cur, e, _⟩
    · omega
    · exact ⟨g, c, by rw [e, hn]⟩
  have hn4 : 1 ≤ n ∧ n ≤ 4096 := by rw [← hn]; exact h2
  have HIN : Hid (InK w ka keep ∧ keep.length = kl) := ⟨hin, hkl⟩
  have WL : Hid (∀ i, (s.W i).length ≤ 1000000) := fun i => by rw [h1 i]; have := sel_len L i; omega
  have KA : Hid (∀ Wd, Below w.heap.size w Wd → ∀ (i m : Nat) (x : List Int), s.D[i]? = some x → m ≤ (s.W (i : Int)).length → Calls Tryz.prog 60 #[.pointer (some ⟨b, 0, none⟩), .int .i64 (i : Int), .int .i64 (m : Int)] Wd fun e w' => e = .returned (.string (strOfNums (pick (s.W (i : Int)) m x))) ∧ w' = Wd) := by
    intro Wd hb i m x hx hm
    have := rat_is Wd b s.D L _ _ _ _ _ (WW.out Wd hb) (by omega) (by omega) i x hx (m : Int) (by have := WL.out (i : Int); omega)
    rw [atB_some _ _ _ (by rw [← h1]; exact hm), ← h1] at this
    exact this
  subst hvB
  clear p hF h1 h2 h3 h4 h5 hin hkl hn
  go_enter Tryz.func37, Tryz.ntmps37
  go_wp2_with fail
  refine KW.out.mono ?_
  rintro e w1 ⟨vw, rfl, ow, b1⟩
  have OW : Hid (OwnW w1 w.heap.size vw (wa s.D.length s.W)) := ow
  have B1 : Hid (Below w.heap.size w w1) := b1
  obtain ⟨d0, d1, d2, d3, d4⟩ := r5_of (WW.out w1 b1).cell
  have hb1 : b < w1.heap.size := (Array.getElem?_eq_some_iff.1 (WW.out w1 b1).cell).1
  clear ow b1 KW
  go_wp2_with (at_builtin; refine append_textsT rfl (.tmp 10) (.tmp 14) rfl w1.heap.size (.slice (some ⟨w1.heap.size, 0, none⟩) 0 0) [] rfl (rowT_empty w1 w1.heap.size (Nat.le_refl _)) gB cB n s.D HND.out hn4.1 0 rfl ((WW.out w1 B1.out).dur.kept fun k hk => Below.heap_alloc _ _ _ ((WW.out w1 B1.out).dur.own k hk).2) (by simp; omega) (by simp) ?_; intro go oc w2 o2 hg2; have O2 : Hid (RowT w2 w1.heap.size (.slice (some ⟨go, 0, none⟩) n oc) s.D ∧ Below w1.heap.size w1 w2) := ⟨(by simpa using o2), (below1 w1 _).grown hg2 (by simp) (fun k e => by have : w1.heap.size = k := (by simpa [Value.ownBlock] using e); omega)⟩; clear o2 hg2)
  obtain ⟨va, vc, hvw⟩ : ∃ va vc, vw = .slice va (wa s.D.length s.W).length vc := by
    obtain ⟨a, c, e, _⟩ := OW.out.slice
    exact ⟨a, c, e⟩
  obtain ⟨lw, hlw⟩ : ∃ lw, (wa s.D.length s.W).length = lw := ⟨_, rfl⟩
  have HLW : Hid ((wa s.D.length s.W).length = lw ∧ (wb s.D.length s.W).length = lw ∧ lw ≤ 4096) := by
    refine ⟨hlw, by rw [← hlw]; unfold wa; simp, ?_⟩
    rw [← hlw]
    unfold wa
    rw [List.length_map]
    have : (wb s.D.length s.W).length ≤ (List.range s.D.length).length := List.length_filter_le _ _
    rw [List.length_range] at this
    have := HND.out
    omega
  have hl4 := HLW.out.2.2
  rw [hlw] at hvw
  subst hvw
  clear hlw
  try simp only [List.length_nil, Nat.zero_add]
  go_loopg [6] lw (fun gg kv wr => ∃ (k : Nat) (Dc : List (List Int)), k ≤ lw ∧ gg = lw - k ∧ kv = .int .i64 (k : Int) ∧ Hid (RowT wr w1.heap.size (.slice (some ⟨go, 0, none⟩) n oc) Dc ∧ Dc.length = n ∧ crs keep s.W ((wb s.D.length s.W).drop k) k Dc = crD keep s.D s.W ∧ ∀ i, i ∈ (wb s.D.length s.W).drop k → Dc[i]? = s.D[i]?) ∧ Hid (Below w1.heap.size w1 wr))
  case atStart => exact ⟨0, s.D, by omega, rfl, rfl, ⟨O2.out.1, HND.out, rfl, fun _ _ => rfl⟩, O2.out.2⟩
  case round =>
    obtain ⟨k, Dc, hkl2, rfl, rfl, RO, BW⟩ := hrel
    have BWW : Hid (Below w.heap.size w wr) := B1.out.trans (BW.out.mono B1.out.size)
    by_cases hk : k < lw
    · have g1 : decide ((k : Int) < (lw : Int)) = true := by rw [decide_eq_true_eq]; omega
      have rk : IntKind.i64.wrap ((k : Int) + 1) = (k : Int) + 1 := by rw [IntKind.wrap_i64]; omega
      obtain ⟨i, hi⟩ : ∃ i, (wb s.D.length s.W)[k]? = some i := ⟨_, List.getElem?_eq_getElem (by have := HLW.out.2.1; omega)⟩
      have hiD := mem_wb.1 (List.mem_of_getElem? hi)
      have hwa : (wa s.D.length s.W)[k]? = some ((i : Int), ((s.W (i : Int)).length : Int)) := by simp [wa, hi]
      obtain ⟨x, hx⟩ : ∃ x, s.D[i]? = some x := ⟨_, List.getElem?_eq_getElem hiD.1⟩
      obtain ⟨m9, hm9⟩ : ∃ m9, (s.W (i : Int)).length = m9 := ⟨_, rfl⟩
      rw [hm9] at hwa
      have hm9b : m9 ≤ 1000000 := by rw [← hm9]; exact WL.out _
      have hid : i < n := by have := HND.out; omega
      obtain ⟨gv, ovf, rfl, q0, q1⟩ : ∃ g o, va = some ⟨g, o, none⟩ ∧ wr.cell? ⟨g, o + k * 2, none⟩ = some (.int .i64 (i : Int)) ∧ wr.cell? ⟨g, o + k * 2 + 1, none⟩ = some (.int .i64 (m9 : Int)) := by
        obtain ⟨a, c, e, inw, _⟩ := (OW.out.keep BW.out).slice
        have e2 : va = a := by cases e; rfl
        rcases inw with h0 | ⟨g, o, e3, _, hc⟩
        · rw [h0] at hwa; simp at hwa
        · exact ⟨g, o, e2.trans e3, hc k _ hwa⟩
      have NG : Hid (gv ≠ go) := by
        rcases OW.out.2 with ⟨e, h0⟩ | ⟨g, c, cur, e, _, hg, _⟩
        · have := HLW.out.1; omega
        · have e2 : gv = g := by
            have := congrArg Value.ownBlock e
            simpa [Value.ownBlock] using this
          have hgo := RO.out.1.at go rfl
          obtain ⟨cs, hcs⟩ := hgo
          rintro rfl
          have := BW.out.block gv (by rw [e2]; exact (Array.getElem?_eq_some_iff.1 hg).1)
          rw [hcs, e2, hg] at this
          simp at this
      have IDX : Hid ((wb s.D.length s.W)[k]? = some i ∧ s.D[i]? = some x ∧ (s.W (i : Int)).length = m9 ∧ Dc[i]? = some x) := ⟨hi, hx, hm9, by
        rw [RO.out.2.2.2 i (List.mem_of_getElem? (i := 0) (by rw [List.getElem?_drop]; exact hi))]; exact hx⟩
      have rm : IntKind.i64.wrap ((m9 : Int) + 1) = (m9 : Int) + 1 := by rw [IntKind.wrap_i64]; omega
      have em : ((m9 : Int) + 1 == 0) = false := by rw [beq_eq_false_iff_ne]; omega
      have MS : Hid (kp keep k m9 ≤ m9) := kp_le keep k m9
      clear hi hiD hwa hx hm9
      by_cases hkk : k < kl
      · have e2 : decide ((k : Int) < (kl : Int)) = true := by rw [decide_eq_true_eq]; omega
        obtain ⟨m, hm⟩ : ∃ m, keep[k]? = some m := ⟨_, List.getElem?_eq_getElem (by rw [HIN.out.2]; exact hkk)⟩
        obtain ⟨xa, rfl, hxc⟩ : ∃ xa, ka = some xa ∧ wr.cell? (xa.add k) = some (.int .i64 m) := by
          rcases HIN.out.1 with h0 | ⟨xa, hxa, hc⟩
          · rw [h0] at hm; simp at hm
          · have hx0 := hc k m hm
            exact ⟨xa, hxa, (BWW.out.cell (World.block_lt_of_cell? _ _ hx0)).trans hx0⟩
        by_cases hm0 : 0 ≤ m
        · have e3 : decide (0 ≤ m) = true := by rw [decide_eq_true_eq]; exact hm0
          have KM : Hid (((kp keep k m9 : Nat) : Int) = m % ((m9 : Int) + 1)) := by
            show _ = _
            unfold kp
            rw [hm]
            simp only
            by_cases h0 : 0 < m
            · rw [if_pos h0, Int.toNat_of_nonneg (Int.emod_nonneg _ (by omega))]
            · have : m = 0 := by omega
              rw [if_neg h0, this]
              simp
          obtain ⟨r, hr⟩ : ∃ r, kp keep k m9 = r := ⟨_, rfl⟩
          have HR : Hid (kp keep k m9 = r ∧ r ≤ m9) := ⟨hr, by rw [← hr]; exact MS.out⟩
          have hmr : m % ((m9 : Int) + 1) = (r : Int) := by rw [← KM.out, hr]
          clear hr KM
          go_wp2_with fail
          go_quiet (fail)
          go_wp2_with fail
          generalize hWq : World.drewN wr _ = wq
          have BQ : Hid (Below wr.heap.size wr wq ∧ RowT wq w1.heap.size (.slice (some ⟨go, 0, none⟩) n oc) Dc ∧ wq.cell? ⟨gv, ovf + k * 2, none⟩ = some (.int .i64 (i : Int))) := by rw [← hWq]; exact ⟨⟨rfl, rfl, rfl, Nat.le_refl _, fun _ _ => rfl⟩, RO.out.1, q0⟩
          clear hWq
          have PZ : Hid (pick (s.W (i : Int)) (kp keep k m9) x = pick (s.W (i : Int)) r x) := by show _ = _; rw [HR.out.1]
          have NN : Hid (¬ (n : Int) ≤ (i : Int)) := by show ¬ _; omega
          refine wp_region_noPanic ?_
          refine wp_region_held_drew (S := (fun Wd : World => Wd.cell? ⟨gv, ovf + k * 2, none⟩ = some (.int .i64 (i : Int)))) (by kernel_rfl) ?hSac (fun hHeld => ?restac)
          case hSac => exact BQ.out.2.2
          case restac =>
            refine wpAnyH_take (i := 0) (v := .slice (some ⟨go, 0, none⟩) n oc) rfl (by kernel_rfl) (by kernel_rfl) (by kernel_rfl) (fun _ _ _ h => h) (Or.inl ⟨by rfl, ?hy0c⟩) hHeld ?rest0c
            case hy0c => (intro w hSw; (try dsimp only at hSw); clear hSw; go_simp; try with_reducible rfl)
            try simp only [Act.put, List.setIfInBounds_toArray, List.set_cons_zero, List.set_cons_succ, List.getElem_toArray, List.getElem_cons_zero]
            refine wpAnyH_take (i := 1) (v := .slice (some ⟨gv, ovf, none⟩) lw vc) rfl (by kernel_rfl) (by kernel_rfl) (by kernel_rfl) (fun _ _ _ h => h) (Or.inl ⟨by rfl, ?hy1c⟩) hHeld ?rest1c
            case hy1c => (intro w hSw; (try dsimp only at hSw); clear hSw; go_simp; try with_reducible rfl)
            try simp only [Act.put, List.setIfInBounds_toArray, List.set_cons_zero, List.set_cons_succ, List.getElem_toArray, List.getElem_cons_zero, List.getElem_cons_succ]
            refine wpAnyH_take (i := 2) (v := .int .i64 (k : Int)) rfl (by kernel_rfl) (by kernel_rfl) (by kernel_rfl) (fun _ _ _ h => h) (Or.inl ⟨by rfl, ?hy2c⟩) hHeld ?rest2c
            case hy2c => (intro w hSw; (try dsimp only at hSw); clear hSw; go_simp; try with_reducible rfl)
            try simp only [Act.put, List.setIfInBounds_toArray, List.set_cons_zero, List.set_cons_succ, List.getElem_toArray, List.getElem_cons_zero, List.getElem_cons_succ]
            refine wpAnyH_take (i := 3) (v := .pointer (some ⟨gv, ovf + k * 2, none⟩)) rfl (by kernel_rfl) (by kernel_rfl) (by kernel_rfl) (fun _ _ _ h => h) (Or.inl ⟨by rfl, ?hy3c⟩) hHeld ?rest3c
            case hy3c => (intro w hSw; (try dsimp only at hSw); clear hSw; go_simp; try with_reducible rfl)
            try simp only [Act.put, List.setIfInBounds_toArray, List.set_cons_zero, List.set_cons_succ, List.getElem_toArray, List.getElem_cons_zero, List.getElem_cons_succ]
            refine wpAnyH_take (i := 4) (v := .pointer (some ⟨gv, ovf + k * 2, none⟩)) rfl (by kernel_rfl) (by kernel_rfl) (by kernel_rfl) (fun _ _ _ h => h) (Or.inl ⟨by rfl, ?hy4c⟩) hHeld ?rest4c
            case hy4c => (intro w hSw; (try dsimp only at hSw); clear hSw; go_simp; try with_reducible rfl)
            try simp only [Act.put, List.setIfInBounds_toArray, List.set_cons_zero, List.set_cons_succ, List.getElem_toArray, List.getElem_cons_zero, List.getElem_cons_succ]
            refine wpAnyH_take (i := 5) (v := .int .i64 (i : Int)) rfl (by kernel_rfl) (by kernel_rfl) (by kernel_rfl) (fun _ _ _ h => h) (Or.inl ⟨by rfl, ?hy5c⟩) hHeld ?rest5c
            case hy5c => (intro w hSw; have hS1 := hSw; clear hSw; go_simp; try with_reducible rfl)
            try simp only [Act.put, List.setIfInBounds_toArray, List.set_cons_zero, List.set_cons_succ, List.getElem_toArray, List.getElem_cons_zero, List.getElem_cons_succ]
            refine wpAnyH_take (i := 6) (v := .pointer (some ⟨b, 0, none⟩)) rfl (by kernel_rfl) (by kernel_rfl) (by kernel_rfl) (fun _ _ _ h => h) (Or.inl ⟨by rfl, ?hy6c⟩) hHeld ?rest6c
            case hy6c => (intro w hSw; (try dsimp only at hSw); clear hSw; go_simp; try with_reducible rfl)
            try simp only [Act.put, List.setIfInBounds_toArray, List.set_cons_zero, List.set_cons_succ, List.getElem_toArray, List.getElem_cons_zero, List.getElem_cons_succ]
            refine wpAnyH_take (i := 7) (v := .slice (some ⟨gv, ovf, none⟩) lw vc) rfl (by kernel_rfl) (by kernel_rfl) (by kernel_rfl) (fun _ _ _ h => h) (Or.inl ⟨by rfl, ?hy7c⟩) hHeld ?rest7c
            case hy7c => (intro w hSw; (try dsimp only at hSw); clear hSw; go_simp; try with_reducible rfl)
            try simp only [Act.put, List.setIfInBounds_toArray, List.set_cons_zero, List.set_cons_succ, List.getElem_toArray, List.getElem_cons_zero, List.getElem_cons_succ]
            refine wpAnyH_take (i := 8) (v := .int .i64 (k : Int)) rfl (by kernel_rfl) (by kernel_rfl) (by kernel_rfl) (fun _ _ _ h => h) (Or.inl ⟨by rfl, ?hy8c⟩) hHeld ?rest8c
            case hy8c => (intro w hSw; (try dsimp only at hSw); clear hSw; go_simp; try with_reducible rfl)
            try simp only [Act.put, List.setIfInBounds_toArray, List.set_cons_zero, List.set_cons_succ, List.getElem_toArray, List.getElem_cons_zero, List.getElem_cons_succ]
            refine wpAnyH_take (i := 9) (v := .pointer (some ⟨gv, ovf + k * 2, none⟩)) rfl (by kernel_rfl) (by kernel_rfl) (by kernel_rfl) (fun _ _ _ h => h) (Or.inl ⟨by rfl, ?hy9c⟩) hHeld ?rest9c
            case hy9c => (intro w hSw; (try dsimp only at hSw); clear hSw; go_simp; try with_reducible rfl)
            try simp only [Act.put, List.setIfInBounds_toArray, List.set_cons_zero, List.set_cons_succ, List.getElem_toArray, List.getElem_cons_zero, List.getElem_cons_succ]
            refine wpAnyH_take (i := 10) (v := .pointer (some ⟨gv, ovf + k * 2, none⟩)) rfl (by kernel_rfl) (by kernel_rfl) (by kernel_rfl) (fun _ _ _ h => h) (Or.inl ⟨by rfl, ?hy10c⟩) hHeld ?rest10c
            case hy10c => (intro w hSw; (try dsimp only at hSw); clear hSw; go_simp; try with_reducible rfl)
            try simp only [Act.put, List.setIfInBounds_toArray, List.set_cons_zero, List.set_cons_succ, List.getElem_toArray, List.getElem_cons_zero, List.getElem_cons_succ]
            refine wpAnyH_take (i := 11) (v := .int .i64 (i : Int)) rfl (by kernel_rfl) (by kernel_rfl) (by kernel_rfl) (fun _ _ _ h => h) (Or.inl ⟨by rfl, ?hy11c⟩) hHeld ?rest11c
            case hy11c => (intro w hSw; have hS1 := hSw; clear hSw; go_simp; try with_reducible rfl)
            try simp only [Act.put, List.setIfInBounds_toArray, List.set_cons_zero, List.set_cons_succ, List.getElem_toArray, List.getElem_cons_zero, List.getElem_cons_succ]
            refine wpAnyH_take (i := 12) (v := .int .i64 (r : Int)) rfl (by kernel_rfl) (by kernel_rfl) (by kernel_rfl) (fun _ _ _ h => h) (Or.inl ⟨by rfl, ?hy12c⟩) hHeld ?rest12c
            case hy12c => (intro w hSw; (try dsimp only at hSw); clear hSw; go_simp; try with_reducible rfl)
            try simp only [Act.put, List.setIfInBounds_toArray, List.set_cons_zero, List.set_cons_succ, List.getElem_toArray, List.getElem_cons_zero, List.getElem_cons_succ]
            refine wpAnyH_ready (rs := [13]) (by kernel_rfl) (by simp) ?_
            refine AllReadyH.cons rfl (fun K hK => ?_) AllReadyH.nil
            go_simp
            refine (KA.out wq.drew (BWW.out.trans (⟨BQ.out.1.os, BQ.out.1.tape, BQ.out.1.output, BQ.out.1.size, fun k hk => BQ.out.1.block k (Nat.lt_of_lt_of_le hk BWW.out.size)⟩)) i r x IDX.out.2.1 (by rw [IDX.out.2.2.1]; exact HR.out.2)).mono ?_
            rintro e w5 ⟨rfl, hw5⟩
            obtain rfl := hw5.symm
            clear hw5
            refine hK.out _ _ ?hS13c (fun hHeld => ?rest13c)
            case hS13c => exact BQ.out.2.2
            clear hK K
            try simp only [Act.put, List.setIfInBounds_toArray, List.set_cons_zero, List.set_cons_succ, List.getElem_toArray, List.getElem_cons_zero, List.getElem_cons_succ]
            refine wpAnyH_take (i := 14) (v := .pointer (some ⟨go, i, none⟩)) rfl (by kernel_rfl) (by kernel_rfl) (by kernel_rfl) (fun _ _ _ h => h) (Or.inl ⟨by rfl, ?hy14c⟩) hHeld ?rest14c
            case hy14c => (intro w hSw; (try dsimp only at hSw); clear hSw; go_simp; try with_reducible rfl)
            try simp only [Act.put, List.setIfInBounds_toArray, List.set_cons_zero, List.set_cons_succ, List.getElem_toArray, List.getElem_cons_zero, List.getElem_cons_succ]
            refine wpAnyH_ready (rs := [15]) (by kernel_rfl) (by simp) ?_
            refine AllReadyH.cons rfl (fun K hK => ?_) AllReadyH.nil
            have RS : RowT (wq.drew.setCell ⟨go, i, none⟩ (sT (pick (s.W (i : Int)) r x))) w1.heap.size (.slice (some ⟨go, 0, none⟩) n oc) (Dc.set i (pick (s.W (i : Int)) r x)) := RowT.store (w := wq.drew) BQ.out.2.1 RO.out.2.1 i _
            obtain ⟨csg, hcsg⟩ := BQ.out.2.1.at go rfl
            have cg : (wq.drew.cell? ⟨go, i, none⟩).isSome = true := by
              have hr := BQ.out.2.1
              unfold RowT at hr
              rw [RO.out.2.1] at hr
              show (wq.cell? ⟨go, i, none⟩).isSome = true
              rw [World.ownsRow.cellAt hr i (by omega), List.getElem?_map, IDX.out.2.2.2]
              rfl
            refine wp_store_val 9 (.tmp 58) (.tmp 57) rfl go i (.string (strOfNums (pick (s.W (i : Int)) r x))) rfl rfl rfl rfl cg (frozen_not (w := wq.drew) hcsg i) (by kernel_rfl) ?_
            have GS := grown_set wq.drew go i (.string (strOfNums (pick (s.W (i : Int)) r x)))
            have RN2 : Hid (RowT (wq.drew.setCell ⟨go, i, none⟩ (.string (strOfNums (pick (s.W (i : Int)) r x)))) w1.heap.size (.slice (some ⟨go, 0, none⟩) n oc) (Dc.set i (pick (s.W (i : Int)) r x)) ∧ (Dc.set i (pick (s.W (i : Int)) r x)).length = n ∧ crs keep s.W ((wb s.D.length s.W).drop (k + 1)) (k + 1) (Dc.set i (pick (s.W (i : Int)) r x)) = crD keep s.D s.W ∧ ∀ z, z ∈ (wb s.D.length s.W).drop (k + 1) → (Dc.set i (pick (s.W (i : Int)) r x))[z]? = s.D[z]?) := by
              refine ⟨RS, by rw [List.length_set]; exact RO.out.2.1, ?_, fun z hz => ?_⟩
              · rw [← RO.out.2.2.1]
                obtain ⟨hj, he⟩ := List.getElem?_eq_some_iff.1 IDX.out.1
                rw [List.drop_eq_getElem_cons hj, crs, he, IDX.out.2.2.2, IDX.out.2.2.1]
                show _ = crs keep s.W _ (k + 1) (Dc.set i (pick (s.W (i : Int)) (kp keep k m9) x))
                rw [PZ.out]
              · obtain ⟨hj, he⟩ := List.getElem?_eq_some_iff.1 IDX.out.1
                have hd := List.drop_eq_getElem_cons hj
                have hp2 : ((wb s.D.length s.W).drop k).Pairwise (· < ·) := (wb_rise s.D.length s.W).sublist (List.drop_sublist _ _)
                rw [hd, List.pairwise_cons, he] at hp2
                have := hp2.1 z hz
                rw [List.getElem?_set_ne (by omega)]
                exact RO.out.2.2.2 z (by rw [hd]; exact List.mem_cons_of_mem _ hz)
            have BN : Hid (Below w1.heap.size w1 (wq.drew.setCell ⟨go, i, none⟩ (.string (strOfNums (pick (s.W (i : Int)) r x))))) := ((BW.out.trans (BQ.out.1.mono BW.out.size)).drew).setCell (RO.out.1.own go rfl).1 _
            have CN : Hid ((wq.drew.setCell ⟨go, i, none⟩ (.string (strOfNums (pick (s.W (i : Int)) r x)))).cell? ⟨gv, ovf + k * 2, none⟩ = some (.int .i64 (i : Int))) := (World.cell?_of_block (a := ⟨gv, ovf + k * 2, none⟩) (GS.block gv (World.block_lt_of_cell? _ _ BQ.out.2.2) (by have := NG.out; simpa using this))).trans BQ.out.2.2
            clear RS cg GS
            refine hK.out _ _ ?hS15c (fun hHeld => ?rest15c)
            case hS15c => exact CN.out
            clear hK K
            try simp only [Act.put, List.setIfInBounds_toArray, List.set_cons_zero, List.set_cons_succ, List.getElem_toArray, List.getElem_cons_zero, List.getElem_cons_succ]
            refine wpAnyH_done (by kernel_rfl) ?_ _
            refine NoPanic.normal ?_
            clear CN
            generalize pick (s.W (i : Int)) r x = zz at *
            go_wp2_with fail
            go_roundg (lw - (k + 1))
            case measure => omega
            case rel => exact ⟨k + 1, _, by omega, rfl, by simp, RN2, BN⟩
        · have e3 : decide (0 ≤ m) = false := by rw [decide_eq_false_iff_not]; exact hm0
          obtain ⟨r, hr⟩ : ∃ r, r = 0 := ⟨0, rfl⟩
          have HR : Hid (kp keep k m9 = r ∧ r ≤ m9) := by
            refine ⟨?_, by omega⟩
            rw [hr]
            unfold kp
            rw [hm]
            simp only
            rw [if_neg (by omega)]
          subst hr
          have BQ : Hid (Below wr.heap.size wr wr ∧ RowT wr w1.heap.size (.slice (some ⟨go, 0, none⟩) n oc) Dc ∧ wr.cell? ⟨gv, ovf + k * 2, none⟩ = some (.int .i64 (i : Int))) := ⟨Below.refl _ _, RO.out.1, q0⟩
          go_wp2_with fail
          have PZ : Hid (pick (s.W (i : Int)) (kp keep k m9) x = pick (s.W (i : Int)) 0 x) := by show _ = _; rw [HR.out.1]
          have NN : Hid (¬ (n : Int) ≤ (i : Int)) := by show ¬ _; omega
          refine wp_region_noPanic ?_
          refine wp_region_held_drew (S := (fun Wd : World => Wd.cell? ⟨gv, ovf + k * 2, none⟩ = some (.int .i64 (i : Int)))) (by kernel_rfl) ?hSab (fun hHeld => ?restab)
          case hSab => exact BQ.out.2.2
          case restab =>
            refine wpAnyH_take (i := 0) (v := .slice (some ⟨go, 0, none⟩) n oc) rfl (by kernel_rfl) (by kernel_rfl) (by kernel_rfl) (fun _ _ _ h => h) (Or.inl ⟨by rfl, ?hy0b⟩) hHeld ?rest0b
            case hy0b => (intro w hSw; (try dsimp only at hSw); clear hSw; go_simp; try with_reducible rfl)
            try simp only [Act.put, List.setIfInBounds_toArray, List.set_cons_zero, List.set_cons_succ, List.getElem_toArray, List.getElem_cons_zero]
            refine wpAnyH_take (i := 1) (v := .slice (some ⟨gv, ovf, none⟩) lw vc) rfl (by kernel_rfl) (by kernel_rfl) (by kernel_rfl) (fun _ _ _ h => h) (Or.inl ⟨by rfl, ?hy1b⟩) hHeld ?rest1b
            case hy1b => (intro w hSw; (try dsimp only at hSw); clear hSw; go_simp; try with_reducible rfl)
            try simp only [Act.put, List.setIfInBounds_toArray, List.set_cons_zero, List.set_cons_succ, List.getElem_toArray, List.getElem_cons_zero, List.getElem_cons_succ]
            refine wpAnyH_take (i := 2) (v := .int .i64 (k : Int)) rfl (by kernel_rfl) (by kernel_rfl) (by kernel_rfl) (fun _ _ _ h => h) (Or.inl ⟨by rfl, ?hy2b⟩) hHeld ?rest2b
            case hy2b => (intro w hSw; (try dsimp only at hSw); clear hSw; go_simp; try with_reducible rfl)
            try simp only [Act.put, List.setIfInBounds_toArray, List.set_cons_zero, List.set_cons_succ, List.getElem_toArray, List.getElem_cons_zero, List.getElem_cons_succ]
            refine wpAnyH_take (i := 3) (v := .pointer (some ⟨gv, ovf + k * 2, none⟩)) rfl (by kernel_rfl) (by kernel_rfl) (by kernel_rfl) (fun _ _ _ h => h) (Or.inl ⟨by rfl, ?hy3b⟩) hHeld ?rest3b
            case hy3b => (intro w hSw; (try dsimp only at hSw); clear hSw; go_simp; try with_reducible rfl)
            try simp only [Act.put, List.setIfInBounds_toArray, List.set_cons_zero, List.set_cons_succ, List.getElem_toArray, List.getElem_cons_zero, List.getElem_cons_succ]
            refine wpAnyH_take (i := 4) (v := .pointer (some ⟨gv, ovf + k * 2, none⟩)) rfl (by kernel_rfl) (by kernel_rfl) (by kernel_rfl) (fun _ _ _ h => h) (Or.inl ⟨by rfl, ?hy4b⟩) hHeld ?rest4b
            case hy4b => (intro w hSw; (try dsimp only at hSw); clear hSw; go_simp; try with_reducible rfl)
            try simp only [Act.put, List.setIfInBounds_toArray, List.set_cons_zero, List.set_cons_succ, List.getElem_toArray, List.getElem_cons_zero, List.getElem_cons_succ]
            refine wpAnyH_take (i := 5) (v := .int .i64 (i : Int)) rfl (by kernel_rfl) (by kernel_rfl) (by kernel_rfl) (fun _ _ _ h => h) (Or.inl ⟨by rfl, ?hy5b⟩) hHeld ?rest5b
            case hy5b => (intro w hSw; have hS1 := hSw; clear hSw; go_simp; try with_reducible rfl)
            try simp only [Act.put, List.setIfInBounds_toArray, List.set_cons_zero, List.set_cons_succ, List.getElem_toArray, List.getElem_cons_zero, List.getElem_cons_succ]
            refine wpAnyH_take (i := 6) (v := .pointer (some ⟨b, 0, none⟩)) rfl (by kernel_rfl) (by kernel_rfl) (by kernel_rfl) (fun _ _ _ h => h) (Or.inl ⟨by rfl, ?hy6b⟩) hHeld ?rest6b
            case hy6b => (intro w hSw; (try dsimp only at hSw); clear hSw; go_simp; try with_reducible rfl)
            try simp only [Act.put, List.setIfInBounds_toArray, List.set_cons_zero, List.set_cons_succ, List.getElem_toArray, List.getElem_cons_zero, List.getElem_cons_succ]
            refine wpAnyH_take (i := 7) (v := .slice (some ⟨gv, ovf, none⟩) lw vc) rfl (by kernel_rfl) (by kernel_rfl) (by kernel_rfl) (fun _ _ _ h => h) (Or.inl ⟨by rfl, ?hy7b⟩) hHeld ?rest7b
            case hy7b => (intro w hSw; (try dsimp only at hSw); clear hSw; go_simp; try with_reducible rfl)
            try simp only [Act.put, List.setIfInBounds_toArray, List.set_cons_zero, List.set_cons_succ, List.getElem_toArray, List.getElem_cons_zero, List.getElem_cons_succ]
            refine wpAnyH_take (i := 8) (v := .int .i64 (k : Int)) rfl (by kernel_rfl) (by kernel_rfl) (by kernel_rfl) (fun _ _ _ h => h) (Or.inl ⟨by rfl, ?hy8b⟩) hHeld ?rest8b
            case hy8b => (intro w hSw; (try dsimp only at hSw); clear hSw; go_simp; try with_reducible rfl)
            try simp only [Act.put, List.setIfInBounds_toArray, List.set_cons_zero, List.set_cons_succ, List.getElem_toArray, List.getElem_cons_zero, List.getElem_cons_succ]
            refine wpAnyH_take (i := 9) (v := .pointer (some ⟨gv, ovf + k * 2, none⟩)) rfl (by kernel_rfl) (by kernel_rfl) (by kernel_rfl) (fun _ _ _ h => h) (Or.inl ⟨by rfl, ?hy9b⟩) hHeld ?rest9b
            case hy9b => (intro w hSw; (try dsimp only at hSw); clear hSw; go_simp; try with_reducible rfl)
            try simp only [Act.put, List.setIfInBounds_toArray, List.set_cons_zero, List.set_cons_succ, List.getElem_toArray, List.getElem_cons_zero, List.getElem_cons_succ]
            refine wpAnyH_take (i := 10) (v := .pointer (some ⟨gv, ovf + k * 2, none⟩)) rfl (by kernel_rfl) (by kernel_rfl) (by kernel_rfl) (fun _ _ _ h => h) (Or.inl ⟨by rfl, ?hy10b⟩) hHeld ?rest10b
            case hy10b => (intro w hSw; (try dsimp only at hSw); clear hSw; go_simp; try with_reducible rfl)
            try simp only [Act.put, List.setIfInBounds_toArray, List.set_cons_zero, List.set_cons_succ, List.getElem_toArray, List.getElem_cons_zero, List.getElem_cons_succ]
            refine wpAnyH_take (i := 11) (v := .int .i64 (i : Int)) rfl (by kernel_rfl) (by kernel_rfl) (by kernel_rfl) (fun _ _ _ h => h) (Or.inl ⟨by rfl, ?hy11b⟩) hHeld ?rest11b
            case hy11b => (intro w hSw; have hS1 := hSw; clear hSw; go_simp; try with_reducible rfl)
            try simp only [Act.put, List.setIfInBounds_toArray, List.set_cons_zero, List.set_cons_succ, List.getElem_toArray, List.getElem_cons_zero, List.getElem_cons_succ]
            refine wpAnyH_take (i := 12) (v := .int .i64 (0 : Int)) rfl (by kernel_rfl) (by kernel_rfl) (by kernel_rfl) (fun _ _ _ h => h) (Or.inl ⟨by rfl, ?hy12b⟩) hHeld ?rest12b
            case hy12b => (intro w hSw; (try dsimp only at hSw); clear hSw; go_simp; try with_reducible rfl)
            try simp only [Act.put, List.setIfInBounds_toArray, List.set_cons_zero, List.set_cons_succ, List.getElem_toArray, List.getElem_cons_zero, List.getElem_cons_succ]
            refine wpAnyH_ready (rs := [13]) (by kernel_rfl) (by simp) ?_
            refine AllReadyH.cons rfl (fun K hK => ?_) AllReadyH.nil
            go_simp
            refine (KA.out wr.drew (BWW.out.trans (⟨BQ.out.1.os, BQ.out.1.tape, BQ.out.1.output, BQ.out.1.size, fun k hk => BQ.out.1.block k (Nat.lt_of_lt_of_le hk BWW.out.size)⟩)) i 0 x IDX.out.2.1 (by rw [IDX.out.2.2.1]; exact HR.out.2)).mono ?_
            rintro e w5 ⟨rfl, hw5⟩
            obtain rfl := hw5.symm
            clear hw5
            refine hK.out _ _ ?hS13b (fun hHeld => ?rest13b)
            case hS13b => exact BQ.out.2.2
            clear hK K
            try simp only [Act.put, List.setIfInBounds_toArray, List.set_cons_zero, List.set_cons_succ, List.getElem_toArray, List.getElem_cons_zero, List.getElem_cons_succ]
            refine wpAnyH_take (i := 14) (v := .pointer (some ⟨go, i, none⟩)) rfl (by kernel_rfl) (by kernel_rfl) (by kernel_rfl) (fun _ _ _ h => h) (Or.inl ⟨by rfl, ?hy14b⟩) hHeld ?rest14b
            case hy14b => (intro w hSw; (try dsimp only at hSw); clear hSw; go_simp; try with_reducible rfl)
            try simp only [Act.put, List.setIfInBounds_toArray, List.set_cons_zero, List.set_cons_succ, List.getElem_toArray, List.getElem_cons_zero, List.getElem_cons_succ]
            refine wpAnyH_ready (rs := [15]) (by kernel_rfl) (by simp) ?_
            refine AllReadyH.cons rfl (fun K hK => ?_) AllReadyH.nil
            have RS : RowT (wr.drew.setCell ⟨go, i, none⟩ (sT (pick (s.W (i : Int)) 0 x))) w1.heap.size (.slice (some ⟨go, 0, none⟩) n oc) (Dc.set i (pick (s.W (i : Int)) 0 x)) := RowT.store (w := wr.drew) BQ.out.2.1 RO.out.2.1 i _
            obtain ⟨csg, hcsg⟩ := BQ.out.2.1.at go rfl
            have cg : (wr.drew.cell? ⟨go, i, none⟩).isSome = true := by
              have hr := BQ.out.2.1
              unfold RowT at hr
              rw [RO.out.2.1] at hr
              show (wr.cell? ⟨go, i, none⟩).isSome = true
              rw [World.ownsRow.cellAt hr i (by omega), List.getElem?_map, IDX.out.2.2.2]
              rfl
            refine wp_store_val 9 (.tmp 58) (.tmp 57) rfl go i (.string (strOfNums (pick (s.W (i : Int)) 0 x))) rfl rfl rfl rfl cg (frozen_not (w := wr.drew) hcsg i) (by kernel_rfl) ?_
            have GS := grown_set wr.drew go i (.string (strOfNums (pick (s.W (i : Int)) 0 x)))
            have RN2 : Hid (RowT (wr.drew.setCell ⟨go, i, none⟩ (.string (strOfNums (pick (s.W (i : Int)) 0 x)))) w1.heap.size (.slice (some ⟨go, 0, none⟩) n oc) (Dc.set i (pick (s.W (i : Int)) 0 x)) ∧ (Dc.set i (pick (s.W (i : Int)) 0 x)).length = n ∧ crs keep s.W ((wb s.D.length s.W).drop (k + 1)) (k + 1) (Dc.set i (pick (s.W (i : Int)) 0 x)) = crD keep s.D s.W ∧ ∀ z, z ∈ (wb s.D.length s.W).drop (k + 1) → (Dc.set i (pick (s.W (i : Int)) 0 x))[z]? = s.D[z]?) := by
              refine ⟨RS, by rw [List.length_set]; exact RO.out.2.1, ?_, fun z hz => ?_⟩
              · rw [← RO.out.2.2.1]
                obtain ⟨hj, he⟩ := List.getElem?_eq_some_iff.1 IDX.out.1
                rw [List.drop_eq_getElem_cons hj, crs, he, IDX.out.2.2.2, IDX.out.2.2.1]
                show _ = crs keep s.W _ (k + 1) (Dc.set i (pick (s.W (i : Int)) (kp keep k m9) x))
                rw [PZ.out]
              · obtain ⟨hj, he⟩ := List.getElem?_eq_some_iff.1 IDX.out.1
                have hd := List.drop_eq_getElem_cons hj
                have hp2 : ((wb s.D.length s.W).drop k).Pairwise (· < ·) := (wb_rise s.D.length s.W).sublist (List.drop_sublist _ _)
                rw [hd, List.pairwise_cons, he] at hp2
                have := hp2.1 z hz
                rw [List.getElem?_set_ne (by omega)]
                exact RO.out.2.2.2 z (by rw [hd]; exact List.mem_cons_of_mem _ hz)
            have BN : Hid (Below w1.heap.size w1 (wr.drew.setCell ⟨go, i, none⟩ (.string (strOfNums (pick (s.W (i : Int)) 0 x))))) := ((BW.out.trans (BQ.out.1.mono BW.out.size)).drew).setCell (RO.out.1.own go rfl).1 _
            have CN : Hid ((wr.drew.setCell ⟨go, i, none⟩ (.string (strOfNums (pick (s.W (i : Int)) 0 x)))).cell? ⟨gv, ovf + k * 2, none⟩ = some (.int .i64 (i : Int))) := (World.cell?_of_block (a := ⟨gv, ovf + k * 2, none⟩) (GS.block gv (World.block_lt_of_cell? _ _ BQ.out.2.2) (by have := NG.out; simpa using this))).trans BQ.out.2.2
            clear RS cg GS
            refine hK.out _ _ ?hS15b (fun hHeld => ?rest15b)
            case hS15b => exact CN.out
            clear hK K
            try simp only [Act.put, List.setIfInBounds_toArray, List.set_cons_zero, List.set_cons_succ, List.getElem_toArray, List.getElem_cons_zero, List.getElem_cons_succ]
            refine wpAnyH_done (by kernel_rfl) ?_ _
            refine NoPanic.normal ?_
            clear CN
            generalize pick (s.W (i : Int)) 0 x = zz at *
            go_wp2_with fail
            go_roundg (lw - (k + 1))
            case measure => omega
            case rel => exact ⟨k + 1, _, by omega, rfl, by simp, RN2, BN⟩
      · have e2 : decide ((k : Int) < (kl : Int)) = false := by rw [decide_eq_false_iff_not]; omega
        obtain ⟨r, hr⟩ : ∃ r, r = 0 := ⟨0, rfl⟩
        have HR : Hid (kp keep k m9 = r ∧ r ≤ m9) := by
          refine ⟨?_, by omega⟩
          rw [hr]
          unfold kp
          rw [List.getElem?_eq_none (by rw [HIN.out.2]; omega)]
        subst hr
        have BQ : Hid (Below wr.heap.size wr wr ∧ RowT wr w1.heap.size (.slice (some ⟨go, 0, none⟩) n oc) Dc ∧ wr.cell? ⟨gv, ovf + k * 2, none⟩ = some (.int .i64 (i : Int))) := ⟨Below.refl _ _, RO.out.1, q0⟩
        go_wp2_with fail
        have PZ : Hid (pick (s.W (i : Int)) (kp keep k m9) x = pick (s.W (i : Int)) 0 x) := by show _ = _; rw [HR.out.1]
        have NN : Hid (¬ (n : Int) ≤ (i : Int)) := by show ¬ _; omega
        refine wp_region_noPanic ?_
        refine wp_region_held_drew (S := (fun Wd : World => Wd.cell? ⟨gv, ovf + k * 2, none⟩ = some (.int .i64 (i : Int)))) (by kernel_rfl) ?hSaa (fun hHeld => ?restaa)
        case hSaa => exact BQ.out.2.2
        case restaa =>
          refine wpAnyH_take (i := 0) (v := .slice (some ⟨go, 0, none⟩) n oc) rfl (by kernel_rfl) (by kernel_rfl) (by kernel_rfl) (fun _ _ _ h => h) (Or.inl ⟨by rfl, ?hy0a⟩) hHeld ?rest0a
          case hy0a => (intro w hSw; (try dsimp only at hSw); clear hSw; go_simp; try with_reducible rfl)
          try simp only [Act.put, List.setIfInBounds_toArray, List.set_cons_zero, List.set_cons_succ, List.getElem_toArray, List.getElem_cons_zero]
          refine wpAnyH_take (i := 1) (v := .slice (some ⟨gv, ovf, none⟩) lw vc) rfl (by kernel_rfl) (by kernel_rfl) (by kernel_rfl) (fun _ _ _ h => h) (Or.inl ⟨by rfl, ?hy1a⟩) hHeld ?rest1a
          case hy1a => (intro w hSw; (try dsimp only at hSw); clear hSw; go_simp; try with_reducible rfl)
          try simp only [Act.put, List.setIfInBounds_toArray, List.set_cons_zero, List.set_cons_succ, List.getElem_toArray, List.getElem_cons_zero, List.getElem_cons_succ]
          refine wpAnyH_take (i := 2) (v := .int .i64 (k : Int)) rfl (by kernel_rfl) (by kernel_rfl) (by kernel_rfl) (fun _ _ _ h => h) (Or.inl ⟨by rfl, ?hy2a⟩) hHeld ?rest2a
          case hy2a => (intro w hSw; (try dsimp only at hSw); clear hSw; go_simp; try with_reducible rfl)
          try simp only [Act.put, List.setIfInBounds_toArray, List.set_cons_zero, List.set_cons_succ, List.getElem_toArray, List.getElem_cons_zero, List.getElem_cons_succ]
          refine wpAnyH_take (i := 3) (v := .pointer (some ⟨gv, ovf + k * 2, none⟩)) rfl (by kernel_rfl) (by kernel_rfl) (by kernel_rfl) (fun _ _ _ h => h) (Or.inl ⟨by rfl, ?hy3a⟩) hHeld ?rest3a
          case hy3a => (intro w hSw; (try dsimp only at hSw); clear hSw; go_simp; try with_reducible rfl)
          try simp only [Act.put, List.setIfInBounds_toArray, List.set_cons_zero, List.set_cons_succ, List.getElem_toArray, List.getElem_cons_zero, List.getElem_cons_succ]
          refine wpAnyH_take (i := 4) (v := .pointer (some ⟨gv, ovf + k * 2, none⟩)) rfl (by kernel_rfl) (by kernel_rfl) (by kernel_rfl) (fun _ _ _ h => h) (Or.inl ⟨by rfl, ?hy4a⟩) hHeld ?rest4a
          case hy4a => (intro w hSw; (try dsimp only at hSw); clear hSw; go_simp; try with_reducible rfl)
          try simp only [Act.put, List.setIfInBounds_toArray, List.set_cons_zero, List.set_cons_succ, List.getElem_toArray, List.getElem_cons_zero, List.getElem_cons_succ]
          refine wpAnyH_take (i := 5) (v := .int .i64 (i : Int)) rfl (by kernel_rfl) (by kernel_rfl) (by kernel_rfl) (fun _ _ _ h => h) (Or.inl ⟨by rfl, ?hy5a⟩) hHeld ?rest5a
          case hy5a => (intro w hSw; have hS1 := hSw; clear hSw; go_simp; try with_reducible rfl)
          try simp only [Act.put, List.setIfInBounds_toArray, List.set_cons_zero, List.set_cons_succ, List.getElem_toArray, List.getElem_cons_zero, List.getElem_cons_succ]
          refine wpAnyH_take (i := 6) (v := .pointer (some ⟨b, 0, none⟩)) rfl (by kernel_rfl) (by kernel_rfl) (by kernel_rfl) (fun _ _ _ h => h) (Or.inl ⟨by rfl, ?hy6a⟩) hHeld ?rest6a
          case hy6a => (intro w hSw; (try dsimp only at hSw); clear hSw; go_simp; try with_reducible rfl)
          try simp only [Act.put, List.setIfInBounds_toArray, List.set_cons_zero, List.set_cons_succ, List.getElem_toArray, List.getElem_cons_zero, List.getElem_cons_succ]
          refine wpAnyH_take (i := 7) (v := .slice (some ⟨gv, ovf, none⟩) lw vc) rfl (by kernel_rfl) (by kernel_rfl) (by kernel_rfl) (fun _ _ _ h => h) (Or.inl ⟨by rfl, ?hy7a⟩) hHeld ?rest7a
          case hy7a => (intro w hSw; (try dsimp only at hSw); clear hSw; go_simp; try with_reducible rfl)
          try simp only [Act.put, List.setIfInBounds_toArray, List.set_cons_zero, List.set_cons_succ, List.getElem_toArray, List.getElem_cons_zero, List.getElem_cons_succ]
          refine wpAnyH_take (i := 8) (v := .int .i64 (k : Int)) rfl (by kernel_rfl) (by kernel_rfl) (by kernel_rfl) (fun _ _ _ h => h) (Or.inl ⟨by rfl, ?hy8a⟩) hHeld ?rest8a
          case hy8a => (intro w hSw; (try dsimp only at hSw); clear hSw; go_simp; try with_reducible rfl)
          try simp only [Act.put, List.setIfInBounds_toArray, List.set_cons_zero, List.set_cons_succ, List.getElem_toArray, List.getElem_cons_zero, List.getElem_cons_succ]
          refine wpAnyH_take (i := 9) (v := .pointer (some ⟨gv, ovf + k * 2, none⟩)) rfl (by kernel_rfl) (by kernel_rfl) (by kernel_rfl) (fun _ _ _ h => h) (Or.inl ⟨by rfl, ?hy9a⟩) hHeld ?rest9a
          case hy9a => (intro w hSw; (try dsimp only at hSw); clear hSw; go_simp; try with_reducible rfl)
          try simp only [Act.put, List.setIfInBounds_toArray, List.set_cons_zero, List.set_cons_succ, List.getElem_toArray, List.getElem_cons_zero, List.getElem_cons_succ]
          refine wpAnyH_take (i := 10) (v := .pointer (some ⟨gv, ovf + k * 2, none⟩)) rfl (by kernel_rfl) (by kernel_rfl) (by kernel_rfl) (fun _ _ _ h => h) (Or.inl ⟨by rfl, ?hy10a⟩) hHeld ?rest10a
          case hy10a => (intro w hSw; (try dsimp only at hSw); clear hSw; go_simp; try with_reducible rfl)
          try simp only [Act.put, List.setIfInBounds_toArray, List.set_cons_zero, List.set_cons_succ, List.getElem_toArray, List.getElem_cons_zero, List.getElem_cons_succ]
          refine wpAnyH_take (i := 11) (v := .int .i64 (i : Int)) rfl (by kernel_rfl) (by kernel_rfl) (by kernel_rfl) (fun _ _ _ h => h) (Or.inl ⟨by rfl, ?hy11a⟩) hHeld ?rest11a
          case hy11a => (intro w hSw; have hS1 := hSw; clear hSw; go_simp; try with_reducible rfl)
          try simp only [Act.put, List.setIfInBounds_toArray, List.set_cons_zero, List.set_cons_succ, List.getElem_toArray, List.getElem_cons_zero, List.getElem_cons_succ]
          refine wpAnyH_take (i := 12) (v := .int .i64 (0 : Int)) rfl (by kernel_rfl) (by kernel_rfl) (by kernel_rfl) (fun _ _ _ h => h) (Or.inl ⟨by rfl, ?hy12a⟩) hHeld ?rest12a
          case hy12a => (intro w hSw; (try dsimp only at hSw); clear hSw; go_simp; try with_reducible rfl)
          try simp only [Act.put, List.setIfInBounds_toArray, List.set_cons_zero, List.set_cons_succ, List.getElem_toArray, List.getElem_cons_zero, List.getElem_cons_succ]
          refine wpAnyH_ready (rs := [13]) (by kernel_rfl) (by simp) ?_
          refine AllReadyH.cons rfl (fun K hK => ?_) AllReadyH.nil
          go_simp
          refine (KA.out wr.drew (BWW.out.trans (⟨BQ.out.1.os, BQ.out.1.tape, BQ.out.1.output, BQ.out.1.size, fun k hk => BQ.out.1.block k (Nat.lt_of_lt_of_le hk BWW.out.size)⟩)) i 0 x IDX.out.2.1 (by rw [IDX.out.2.2.1]; exact HR.out.2)).mono ?_
          rintro e w5 ⟨rfl, hw5⟩
          obtain rfl := hw5.symm
          clear hw5
          refine hK.out _ _ ?hS13a (fun hHeld => ?rest13a)
          case hS13a => exact BQ.out.2.2
          clear hK K
          try simp only [Act.put, List.setIfInBounds_toArray, List.set_cons_zero, List.set_cons_succ, List.getElem_toArray, List.getElem_cons_zero, List.getElem_cons_succ]
          refine wpAnyH_take (i := 14) (v := .pointer (some ⟨go, i, none⟩)) rfl (by kernel_rfl) (by kernel_rfl) (by kernel_rfl) (fun _ _ _ h => h) (Or.inl ⟨by rfl, ?hy14a⟩) hHeld ?rest14a
          case hy14a => (intro w hSw; (try dsimp only at hSw); clear hSw; go_simp; try with_reducible rfl)
          try simp only [Act.put, List.setIfInBounds_toArray, List.set_cons_zero, List.set_cons_succ, List.getElem_toArray, List.getElem_cons_zero, List.getElem_cons_succ]
          refine wpAnyH_ready (rs := [15]) (by kernel_rfl) (by simp) ?_
          refine AllReadyH.cons rfl (fun K hK => ?_) AllReadyH.nil
          have RS : RowT (wr.drew.setCell ⟨go, i, none⟩ (sT (pick (s.W (i : Int)) 0 x))) w1.heap.size (.slice (some ⟨go, 0, none⟩) n oc) (Dc.set i (pick (s.W (i : Int)) 0 x)) := RowT.store (w := wr.drew) BQ.out.2.1 RO.out.2.1 i _
          obtain ⟨csg, hcsg⟩ := BQ.out.2.1.at go rfl
          have cg : (wr.drew.cell? ⟨go, i, none⟩).isSome = true := by
            have hr := BQ.out.2.1
            unfold RowT at hr
            rw [RO.out.2.1] at hr
            show (wr.cell? ⟨go, i, none⟩).isSome = true
            rw [World.ownsRow.cellAt hr i (by omega), List.getElem?_map, IDX.out.2.2.2]
            rfl
          refine wp_store_val 9 (.tmp 58) (.tmp 57) rfl go i (.string (strOfNums (pick (s.W (i : Int)) 0 x))) rfl rfl rfl rfl cg (frozen_not (w := wr.drew) hcsg i) (by kernel_rfl) ?_
          have GS := grown_set wr.drew go i (.string (strOfNums (pick (s.W (i : Int)) 0 x)))
          have RN2 : Hid (RowT (wr.drew.setCell ⟨go, i, none⟩ (.string (strOfNums (pick (s.W (i : Int)) 0 x)))) w1.heap.size (.slice (some ⟨go, 0, none⟩) n oc) (Dc.set i (pick (s.W (i : Int)) 0 x)) ∧ (Dc.set i (pick (s.W (i : Int)) 0 x)).length = n ∧ crs keep s.W ((wb s.D.length s.W).drop (k + 1)) (k + 1) (Dc.set i (pick (s.W (i : Int)) 0 x)) = crD keep s.D s.W ∧ ∀ z, z ∈ (wb s.D.length s.W).drop (k + 1) → (Dc.set i (pick (s.W (i : Int)) 0 x))[z]? = s.D[z]?) := by
            refine ⟨RS, by rw [List.length_set]; exact RO.out.2.1, ?_, fun z hz => ?_⟩
            · rw [← RO.out.2.2.1]
              obtain ⟨hj, he⟩ := List.getElem?_eq_some_iff.1 IDX.out.1
              rw [List.drop_eq_getElem_cons hj, crs, he, IDX.out.2.2.2, IDX.out.2.2.1]
              show _ = crs keep s.W _ (k + 1) (Dc.set i (pick (s.W (i : Int)) (kp keep k m9) x))
              rw [PZ.out]
            · obtain ⟨hj, he⟩ := List.getElem?_eq_some_iff.1 IDX.out.1
              have hd := List.drop_eq_getElem_cons hj
              have hp2 : ((wb s.D.length s.W).drop k).Pairwise (· < ·) := (wb_rise s.D.length s.W).sublist (List.drop_sublist _ _)
              rw [hd, List.pairwise_cons, he] at hp2
              have := hp2.1 z hz
              rw [List.getElem?_set_ne (by omega)]
              exact RO.out.2.2.2 z (by rw [hd]; exact List.mem_cons_of_mem _ hz)
          have BN : Hid (Below w1.heap.size w1 (wr.drew.setCell ⟨go, i, none⟩ (.string (strOfNums (pick (s.W (i : Int)) 0 x))))) := ((BW.out.trans (BQ.out.1.mono BW.out.size)).drew).setCell (RO.out.1.own go rfl).1 _
          have CN : Hid ((wr.drew.setCell ⟨go, i, none⟩ (.string (strOfNums (pick (s.W (i : Int)) 0 x)))).cell? ⟨gv, ovf + k * 2, none⟩ = some (.int .i64 (i : Int))) := (World.cell?_of_block (a := ⟨gv, ovf + k * 2, none⟩) (GS.block gv (World.block_lt_of_cell? _ _ BQ.out.2.2) (by have := NG.out; simpa using this))).trans BQ.out.2.2
          clear RS cg GS
          refine hK.out _ _ ?hS15a (fun hHeld => ?rest15a)
          case hS15a => exact CN.out
          clear hK K
          try simp only [Act.put, List.setIfInBounds_toArray, List.set_cons_zero, List.set_cons_succ, List.getElem_toArray, List.getElem_cons_zero, List.getElem_cons_succ]
          refine wpAnyH_done (by kernel_rfl) ?_ _
          refine NoPanic.normal ?_
          clear CN
          generalize pick (s.W (i : Int)) 0 x = zz at *
          go_wp2_with fail
          go_roundg (lw - (k + 1))
          case measure => omega
          case rel => exact ⟨k + 1, _, by omega, rfl, by simp, RN2, BN⟩
    · have g1 : decide ((k : Int) < (lw : Int)) = false := by rw [decide_eq_false_iff_not]; omega
      have pr := WW.out wr BWW.out
      obtain ⟨y0, y1, y2, y3, y4⟩ := r5_of pr.cell
      have z0 := frozen_not pr.cell 0
      have z1 := frozen_not pr.cell 1
      have z2 := frozen_not pr.cell 2
      have z3 := frozen_not pr.cell 3
      have PR : Hid (RkP wr b s.D L (!s.up) s.dn s.fu (.slice (some ⟨gB, 0, none⟩) n cB) vL) := pr
      have eD : Hid (Dc = crD keep s.D s.W) := by
        have := RO.out.2.2.1
        rw [List.drop_eq_nil_of_le (by have := HLW.out.2.1; omega)] at this
        exact this
      have hbw : b < wr.heap.size := (Array.getElem?_eq_some_iff.1 pr.cell).1
      clear pr
      go_wp2_with fail
      refine Great.bodyPost_end0 rfl rfl ?_
      have a1 := grown_set wr b 0 (.slice (some ⟨go, 0, none⟩) n oc)
      have a2 := grown_set (wr.setCell ⟨b, 0, none⟩ (.slice (some ⟨go, 0, none⟩) n oc)) b 1 (.slice none 0 0)
      have a3 := grown_set ((wr.setCell ⟨b, 0, none⟩ (.slice (some ⟨go, 0, none⟩) n oc)).setCell ⟨b, 1, none⟩ (.slice none 0 0)) b 2 (.int .i64 (-1))
      have a4 := grown_set (((wr.setCell ⟨b, 0, none⟩ (.slice (some ⟨go, 0, none⟩) n oc)).setCell ⟨b, 1, none⟩ (.slice none 0 0)).setCell ⟨b, 2, none⟩ (.int .i64 (-1))) b 3 (.bool false)
      have lgo := RO.out.1.own go rfl
      have hgb : go ≠ b := by omega
      have fb : F b := (HP.out.2.1 b).2 (.inl rfl)
      refine ⟨rfl, RFp b (.slice (some ⟨go, 0, none⟩) n oc) (.slice none 0 0), ⟨[], .slice (some ⟨go, 0, none⟩) n oc, .slice none 0 0, ⟨set_own _ b 3 _ _ (set_own _ b 2 _ _ (set_own _ b 1 _ _ (set_own wr b 0 _ _ PR.out.cell _) _) _) _, ?_, OwnN.nil _ _⟩, fun _ => Iff.rfl, fun _ => rfl, ?_, Nat.zero_le _, HP.out.2.2.2.2.2.1, by show (-1 : Int) ≤ _; omega⟩, ?_, ?_⟩
      · show RowT _ 0 _ (crD keep s.D s.W)
        rw [← eD.out]
        have rk : RowT wr 0 (.slice (some ⟨go, 0, none⟩) n oc) Dc := ⟨RO.out.1.1, by
          rcases RO.out.1.2 with h | ⟨g, c, cur, e, _, rest⟩
          · exact .inl h
          · exact .inr ⟨g, c, cur, e, Nat.zero_le _, rest⟩⟩
        refine rk.kept fun k hk => ?_
        have e : go = k := by simpa [Value.ownBlock] using hk
        subst e
        have s1 := a1.size
        have s2 := a2.size
        have s3 := a3.size
        exact (a4.block _ (by omega) (by simpa using hgb)).trans ((a3.block _ (by omega) (by simpa using hgb)).trans ((a2.block _ (by omega) (by simpa using hgb)).trans (a1.block _ lgo.2 (by simpa using hgb))))
      · show 1 ≤ (crD keep s.D s.W).length ∧ (crD keep s.D s.W).length ≤ 4096
        unfold crD
        rw [crs_len]
        exact HP.out.2.2.2.1
      · exact (((((Off.ofBelow F BWW.out).grown a1 (fun k e => .inl (Option.some.inj e ▸ fb))).grown a2 (fun k e => .inl (Option.some.inj e ▸ fb))).grown a3 (fun k e => .inl (Option.some.inj e ▸ fb))).grown a4 (fun k e => .inl (Option.some.inj e ▸ fb)))
      · exact fp_new fb (fun k hk => by have e : go = k := (by simpa [Value.ownBlock] using hk); have := B1.out.size; omega)
end Go.Proofs.YtkhopmlhinkpcaaGreat
namespace Go.Proofs.YtkhopmlhinkpcaaGreat
open Go.ChangeShapes Go.WideShapes Go.ChangeAt Go.RowKit Go.Deep Go.Maps
set_option linter.unusedVariables false
structure PxP (w wr : World) (P : Nat → Prop) (bp d r bl bq N : Nat) (sd sr : Ds) (ld lr : Lg) (F F2 G G2 : Nat → Prop) : Prop where
  dk : Dk wr F d N sd
  rk : Rk wr F2 r N sr
  lm : Lm wr G bl d ld
  rl : Rl wr G2 bq r lr
  kd : ld.Ok N
  kr : lr.Ok N
  box : wr.heap[bp]? = some (.cells #[.pointer (some ⟨d, 0, none⟩), .pointer (some ⟨r, 0, none⟩), .pointer (some ⟨bl, 0, none⟩), .pointer (some ⟨bq, 0, none⟩)] 35)
  x1 : ∀ k, F k → ¬ F2 k
  x2 : ∀ k, G k → ¬ F k ∧ ¬ F2 k
  x3 : ∀ k, G2 k → ¬ F k ∧ ¬ F2 k ∧ ¬ G k
  nb : ¬ F bp ∧ ¬ F2 bp ∧ ¬ G bp ∧ ¬ G2 bp
  fr : ∀ k, F k ∨ F2 k ∨ G k ∨ G2 k → w.heap.size ≤ k
  hb : w.heap.size ≤ bp
  bel : Below w.heap.size w wr
  hp : ∀ k, P k → k < wr.heap.size ∧ ¬ F k ∧ ¬ F2 k ∧ ¬ G k ∧ ¬ G2 k ∧ k ≠ bp
def Px (w wr : World) (P : Nat → Prop) (bp d r bl bq N : Nat) (sd sr : Ds) (ld lr : Lg) : Prop := ∃ F F2 G G2, PxP w wr P bp d r bl bq N sd sr ld lr F F2 G G2
theorem Px.of {w wr : World} {bp d r N : Nat} {s : Ds} {l : Lg} (h : Pw w wr bp d r N s (some l)) : ∃ bl bq, Px w wr (fun _ => False) bp d r bl bq N s s l l := by
  obtain ⟨vl, vq, F, F2, G, G2, p⟩ := h
  obtain ⟨bl, bq, rfl, rfl, h1, h2, h3⟩ := p.lg
  exact ⟨bl, bq, F, F2, G, G2, p.dk, p.rk, h1, h2, h3, h3, p.box, p.x1, p.x2, p.x3, p.nb, p.fr, p.hb, p.bel, fun _ h => h.elim⟩
theorem Px.pw {w wr : World} {P : Nat → Prop} {bp d r bl bq N : Nat} {s : Ds} {l : Lg} (h : Px w wr P bp d r bl bq N s s l l) : Pw w wr bp d r N s (some l) := by
  obtain ⟨F, F2, G, G2, p⟩ := h
  exact ⟨_, _, F, F2, G, G2, p.dk, p.rk, ⟨bl, bq, rfl, rfl, p.lm, p.rl, p.kd⟩, p.box, p.x1, p.x2, p.x3, p.nb, p.fr, p.hb, p.bel⟩
theorem Px.lt {w wr : World} {P : Nat → Prop} {bp d r bl bq N : Nat} {sd sr : Ds} {ld lr : Lg} (h : Px w wr P bp d r bl bq N sd sr ld lr) : bp < wr.heap.size := by
  obtain ⟨F, F2, G, G2, p⟩ := h
  exact (Array.getElem?_eq_some_iff.1 p.box).1
theorem Px.box {w wr : World} {P : Nat → Prop} {bp d r bl bq N : Nat} {sd sr : Ds} {ld lr : Lg} (h : Px w wr P bp d r bl bq N sd sr ld lr) : wr.heap[bp]? = some (.cells #[.pointer (some ⟨d, 0, none⟩), .pointer (some ⟨r, 0, none⟩), .pointer (some ⟨bl, 0, none⟩), .pointer (some ⟨bq, 0, none⟩)] 35) := by
  obtain ⟨F, F2, G, G2, p⟩ := h
  exact p.box
theorem Px.below {w wr : World} {P : Nat → Prop} {bp d r bl bq N : Nat} {sd sr : Ds} {ld lr : Lg} (h : Px w wr P bp d r bl bq N sd sr ld lr) : Below w.heap.size w wr := by
  obtain ⟨F, F2, G, G2, p⟩ := h
  exact p.bel
theorem Px.ok {w wr : World} {P : Nat → Prop} {bp d r bl bq N : Nat} {sd sr : Ds} {ld lr : Lg} (h : Px w wr P bp d r bl bq N sd sr ld lr) : ld.Ok N ∧ lr.Ok N := by
  obtain ⟨F, F2, G, G2, p⟩ := h
  exact ⟨p.kd, p.kr⟩
theorem Px.keep {w wr w' : World} {P : Nat → Prop} {bp d r bl bq N : Nat} {sd sr : Ds} {ld lr : Lg} (h : Px w wr P bp d r bl bq N sd sr ld lr) (hb : Below wr.heap.size wr w') : Px w w' (fun k => P k ∨ (wr.heap.size ≤ k ∧ k < w'.heap.size)) bp d r bl bq N sd sr ld lr := by
  obtain ⟨F, F2, G, G2, p⟩ := h
  have hbl := (Array.getElem?_eq_some_iff.1 p.box).1
  refine ⟨F, F2, G, G2, p.dk.keep hb, Rk.keep p.rk hb, p.lm.keep hb, p.rl.keep hb, p.kd, p.kr, (hb.block bp hbl).trans p.box, p.x1, p.x2, p.x3, p.nb, p.fr, p.hb, p.bel.trans (hb.mono p.bel.size), fun k hk => ?_⟩
  rcases hk with hk | ⟨h1, h2⟩
  · exact ⟨Nat.lt_of_lt_of_le (p.hp k hk).1 hb.size, (p.hp k hk).2⟩
  · exact ⟨h2, fun e => by have := p.dk.lt k e; omega, fun e => by have := p.rk.lt k e; omega, fun e => by have := p.lm.lt k e; omega, fun e => by have := p.rl.lt k e; omega, by omega⟩
theorem Px.less {w wr : World} {P Q : Nat → Prop} {bp d r bl bq N : Nat} {sd sr : Ds} {ld lr : Lg} (h : Px w wr P bp d r bl bq N sd sr ld lr) (hq : ∀ k, Q k → P k) : Px w wr Q bp d r bl bq N sd sr ld lr := by
  obtain ⟨F, F2, G, G2, p⟩ := h
  exact ⟨F, F2, G, G2, p.dk, p.rk, p.lm, p.rl, p.kd, p.kr, p.box, p.x1, p.x2, p.x3, p.nb, p.fr, p.hb, p.bel, fun k hk => p.hp k (hq k hk)⟩
theorem Px.more {w wr : World} {P : Nat → Prop} {bp d r bl bq N N' : Nat} {sd sr : Ds} {ld lr : Lg} (h : Px w wr P bp d r bl bq N sd sr ld lr) (hN : N ≤ N') : Px w wr P bp d r bl bq N' sd sr ld lr := by
  obtain ⟨F, F2, G, G2, p⟩ := h
  exact ⟨F, F2, G, G2, p.dk.more hN, p.rk.more hN, p.lm, p.rl, p.kd.more hN, p.kr.more hN, p.box, p.x1, p.x2, p.x3, p.nb, p.fr, p.hb, p.bel, p.hp⟩
theorem Px.drewN {w wr : World} {P : Nat → Prop} {bp d r bl bq N : Nat} {sd sr : Ds} {ld lr : Lg} (h : Px w wr P bp d r bl bq N sd sr ld lr) (q : Nat) : Px w (wr.drewN q) P bp d r bl bq N sd sr ld lr := (h.keep (w' := wr.drewN q) ⟨rfl, rfl, rfl, Nat.le_refl _, fun _ _ => rfl⟩).less (fun _ h => .inl h)
theorem Px.setP {w wr : World} {P : Nat → Prop} {bp d r bl bq N : Nat} {sd sr : Ds} {ld lr : Lg} (h : Px w wr P bp d r bl bq N sd sr ld lr) {g : Nat} (hg : P g) (hw : w.heap.size ≤ g) (j : Nat) (v : Value) : Px w (wr.setCell ⟨g, j, none⟩ v) P bp d r bl bq N sd sr ld lr := by
  obtain ⟨F, F2, G, G2, p⟩ := h
  have hgr := grown_setCell wr g j v
  have q := p.hp g hg
  have off : ∀ k, k ≠ g → (wr.setCell ⟨g, j, none⟩ v).heap[k]? = wr.heap[k]? := fun k hk => set_off _ _ _ _ _ hk
  refine ⟨F, F2, G, G2, p.dk.grown hgr (fun k e hk => ?_), p.rk.kept fun k hk => off k fun e => ?_, p.lm.kept fun k hk => off k fun e => ?_, p.rl.kept fun k hk => off k fun e => ?_, p.kd, p.kr, (off bp (Ne.symm q.2.2.2.2.2)).trans p.box, p.x1, p.x2, p.x3, p.nb, p.fr, p.hb, p.bel.setCell hw _, fun k hk => ⟨Nat.lt_of_lt_of_le (p.hp k hk).1 hgr.size, (p.hp k hk).2⟩⟩
  · cases e; exact q.2.1 hk
  · subst e; exact q.2.2.1 hk
  · subst e; exact q.2.2.2.1 hk
  · subst e; exact q.2.2.2.2.1 hk
theorem pw_new {w w2 : World} {d r N : Nat} {s : Ds} {F1 F2 : Nat → Prop} (hd : Dk w2 F1 d N s) (hr : Rk w2 F2 r N s) (hx : ∀ k, F1 k → ¬ F2 k) (hf : ∀ k, F1 k ∨ F2 k → w.heap.size ≤ k) (hb : Below w.heap.size w w2) : Pw w (w2.alloc (.cells #[.pointer (some ⟨d, 0, none⟩), .pointer (some ⟨r, 0, none⟩), .pointer none, .pointer none] 35)) w2.heap.size d r N s none := by
  have b1 := below1 w2 (.cells #[.pointer (some ⟨d, 0, none⟩), .pointer (some ⟨r, 0, none⟩), .pointer none, .pointer none] 35)
  refine ⟨.pointer none, .pointer none, F1, F2, fun _ => False, fun _ => False, hd.keep b1, Rk.keep hr b1, ⟨rfl, rfl, fun _ h => h, fun _ h => h⟩, heap_alloc_new _ _, hx, fun _ h => h.elim, fun _ h => h.elim, ⟨fun h => by have := hd.lt _ h; omega, fun h => by have := hr.lt _ h; omega, fun h => h, fun h => h⟩, ?_, hb.size, hb.trans (b1.mono hb.size)⟩
  rintro k (h | h | h | h)
  · exact hf k (.inl h)
  · exact hf k (.inr h)
  · exact h.elim
  · exact h.elim
/-- the program's side has moved -/
theorem PxP.stepA {w wr w' : World} {P : Nat → Prop} {bp d r bl bq N N' : Nat} {sd sr sd' : Ds} {ld lr ld' : Lg} {F F2 G G2 F' G' : Nat → Prop} (p : PxP w wr P bp d r bl bq N sd sr ld lr F F2 G G2)
    (hs : StepB F F' G G' wr w') (hd : Dk w' F' d N' sd') (hl : Lm w' G' bl d ld') (hx : ∀ k, G' k → ¬ F' k) (hok : ld'.Ok N') (hN : N ≤ N') : Px w w' P bp d r bl bq N' sd' sr ld' lr ∧ (∀ k, P k → w'.heap[k]? = wr.heap[k]?) ∧ wr.heap.size ≤ w'.heap.size := by
  have hbl := (Array.getElem?_eq_some_iff.1 p.box).1
  have keep : ∀ k, k < wr.heap.size → ¬ F k → ¬ G k → w'.heap[k]? = wr.heap[k]? := fun k h1 h2 h3 => hs.off.block k h1 (fun e => e.elim h2 h3)
  have sF : ∀ k, k < wr.heap.size → F' k → F k := fun k h1 h2 => (hs.sub k h2).elim id fun e => absurd h1 (by omega)
  have sG : ∀ k, k < wr.heap.size → G' k → G k := fun k h1 h2 => (hs.sug k h2).elim id fun e => absurd h1 (by omega)
  refine ⟨⟨F', F2, G', G2, hd, (p.rk.kept fun k hk => keep k (p.rk.lt k hk) (fun e => p.x1 k e hk) (fun e => (p.x2 k e).2 hk)).more hN, hl, p.rl.kept fun k hk => keep k (p.rl.lt k hk) (p.x3 k hk).1 (p.x3 k hk).2.2, hok, p.kr.more hN, (keep bp hbl p.nb.1 p.nb.2.2.1).trans p.box, ?_, ?_, ?_, ?_, ?_, p.hb, ?_, ?_⟩, fun k hk => keep k (p.hp k hk).1 (p.hp k hk).2.1 (p.hp k hk).2.2.2.1, hs.off.size⟩
  · exact fun k h1 h2 => p.x1 k (sF k (p.rk.lt k h2) h1) h2
  · exact fun k h1 => ⟨hx k h1, fun h2 => (p.x2 k (sG k (p.rk.lt k h2) h1)).2 h2⟩
  · exact fun k h1 => ⟨fun h2 => (p.x3 k h1).1 (sF k (p.rl.lt k h1) h2), (p.x3 k h1).2.1, fun h2 => (p.x3 k h1).2.2 (sG k (p.rl.lt k h1) h2)⟩
  · exact ⟨fun h => p.nb.1 (sF bp hbl h), p.nb.2.1, fun h => p.nb.2.2.1 (sG bp hbl h), p.nb.2.2.2⟩
  · rintro k (h | h | h | h)
    · rcases hs.sub k h with e | e
      · exact p.fr k (.inl e)
      · exact Nat.le_trans p.bel.size e
    · exact p.fr k (.inr (.inl h))
    · rcases hs.sug k h with e | e
      · exact p.fr k (.inr (.inr (.inl e)))
      · exact Nat.le_trans p.bel.size e
    · exact p.fr k (.inr (.inr (.inr h)))
  · exact p.bel.trans (hs.off.below (fun k hk => hk.elim (fun e => p.fr k (.inl e)) (fun e => p.fr k (.inr (.inr (.inl e))))) p.bel.size)
  · intro k hk
    obtain ⟨q1, q2, q3, q4, q5, q6⟩ := p.hp k hk
    exact ⟨Nat.lt_of_lt_of_le q1 hs.off.size, fun e => q2 (sF k q1 e), q3, fun e => q4 (sG k q1 e), q5, q6⟩
/-- the document's side has moved -/
theorem PxP.stepR {w wr w' : World} {P : Nat → Prop} {bp d r bl bq N N' : Nat} {sd sr sr' : Ds} {ld lr lr' : Lg} {F F2 G G2 F' G' : Nat → Prop} (p : PxP w wr P bp d r bl bq N sd sr ld lr F F2 G G2)
    (hs : StepB F2 F' G2 G' wr w') (hd : Rk w' F' r N' sr') (hl : Rl w' G' bq r lr') (hx : ∀ k, G' k → ¬ F' k) (hok : lr'.Ok N') (hN : N ≤ N') : Px w w' P bp d r bl bq N' sd sr' ld lr' ∧ (∀ k, P k → w'.heap[k]? = wr.heap[k]?) ∧ wr.heap.size ≤ w'.heap.size := by
  have hbl := (Array.getElem?_eq_some_iff.1 p.box).1
  have keep : ∀ k, k < wr.heap.size → ¬ F2 k → ¬ G2 k → w'.heap[k]? = wr.heap[k]? := fun k h1 h2 h3 => hs.off.block k h1 (fun e => e.elim h2 h3)
  have sF : ∀ k, k < wr.heap.size → F' k → F2 k := fun k h1 h2 => (hs.sub k h2).elim id fun e => absurd h1 (by omega)
  have sG : ∀ k, k < wr.heap.size → G' k → G2 k := fun k h1 h2 => (hs.sug k h2).elim id fun e => absurd h1 (by omega)
  refine ⟨⟨F, F', G, G', (p.dk.apart hs.off (fun k hk e => e.elim (p.x1 k hk) (fun e2 => (p.x3 k e2).1 hk))).more hN, hd, p.lm.kept fun k hk => keep k (p.lm.lt k hk) (p.x2 k hk).2 (fun e => (p.x3 k e).2.2 hk), hl, p.kd.more hN, hok, (keep bp hbl p.nb.2.1 p.nb.2.2.2).trans p.box, ?_, ?_, ?_, ?_, ?_, p.hb, ?_, ?_⟩, fun k hk => keep k (p.hp k hk).1 (p.hp k hk).2.2.1 (p.hp k hk).2.2.2.2.1, hs.off.size⟩
  · exact fun k h1 h2 => p.x1 k h1 (sF k (p.dk.lt k h1) h2)
  · exact fun k h1 => ⟨(p.x2 k h1).1, fun h2 => (p.x2 k h1).2 (sF k (p.lm.lt k h1) h2)⟩
  · exact fun k h1 => ⟨fun h2 => (p.x3 k (sG k (p.dk.lt k h2) h1)).1 h2, hx k h1, fun h2 => (p.x3 k (sG k (p.lm.lt k h2) h1)).2.2 h2⟩
  · exact ⟨p.nb.1, fun h => p.nb.2.1 (sF bp hbl h), p.nb.2.2.1, fun h => p.nb.2.2.2 (sG bp hbl h)⟩
  · rintro k (h | h | h | h)
    · exact p.fr k (.inl h)
    · rcases hs.sub k h with e | e
      · exact p.fr k (.inr (.inl e))
      · exact Nat.le_trans p.bel.size e
    · exact p.fr k (.inr (.inr (.inl h)))
    · rcases hs.sug k h with e | e
      · exact p.fr k (.inr (.inr (.inr e)))
      · exact Nat.le_trans p.bel.size e
  · exact p.bel.trans (hs.off.below (fun k hk => hk.elim (fun e => p.fr k (.inr (.inl e))) (fun e => p.fr k (.inr (.inr (.inr e))))) p.bel.size)
  · intro k hk
    obtain ⟨q1, q2, q3, q4, q5, q6⟩ := p.hp k hk
    exact ⟨Nat.lt_of_lt_of_le q1 hs.off.size, q2, fun e => q3 (sF k q1 e), q4, fun e => q5 (sG k q1 e), q6⟩
theorem Step.toBF {F F' G : Nat → Prop} {w w' : World} (h : Step F F' w w') : StepB F F' G G w w' := ⟨⟨h.off.os, h.off.tape, h.off.output, h.off.size, fun k hk hn => h.off.block k hk (fun e => hn (.inl e))⟩, h.sub, fun _ hk => .inl hk⟩
/-- what each call keeps -/
def Pk (P : Nat → Prop) (wr w' : World) : Prop := (∀ k, P k → w'.heap[k]? = wr.heap[k]?) ∧ wr.heap.size ≤ w'.heap.size
section
variable {w wr : World} {P : Nat → Prop} {bp d r bl bq N : Nat} {sd sr : Ds} {ld lr : Lg}
theorem px_add (T : Px w wr P bp d r bl bq N sd sr ld lr) (rec : List Int) (hr : IsBytes rec) :
    Calls Tryz.prog 17 #[.pointer (some ⟨bl, 0, none⟩), .string (strOfNums rec)] wr fun e w' => e = .returned (.int .i64 (ld.add rec).1) ∧ Px w w' P bp d r bl bq N sd sr (ld.add rec).2 lr ∧ Pk P wr w' := by
  obtain ⟨F, F2, G, G2, p⟩ := T
  refine (add_is wr G bl d N ld p.lm p.kd rec hr).mono ?_
  rintro e w' ⟨rfl, G', hl, hs⟩
  exact ⟨rfl, p.stepA hs.toBG (p.dk.apart hs.off (fun k hk e => (p.x2 k e).1 hk)) hl (fun k hk hf => by
    rcases hs.sub k hk with e | e
    · exact (p.x2 k e).1 hf
    · have := p.dk.lt k hf; omega) (Lg.add_ok p.kd hr) (Nat.le_refl _)⟩
theorem px_radd (T : Px w wr P bp d r bl bq N sd sr ld lr) (h2 : 2 ≤ sr.D.length) (hm : lr.m = sr.am) (rec : List Int) (hr : IsBytes rec) (hrl : rec.length ≤ 1000000) :
    Calls Tryz.prog 31 #[.pointer (some ⟨bq, 0, none⟩), .string (strOfNums rec)] wr fun e w' => e = .returned (.int .i64 (lr.add rec).1) ∧ Px w w' P bp d r bl bq N sd sr ld (lr.add rec).2 ∧ Pk P wr w' := by
  obtain ⟨F, F2, G, G2, p⟩ := T
  refine (radd_is wr F2 G2 bq r N N sr lr p.rk h2 hm p.rl p.kr rec hr hrl).mono ?_
  rintro e w' ⟨rfl, G', hl, hs⟩
  exact ⟨rfl, p.stepR hs.toBG (p.rk.kept fun k hk => hs.off.block k (p.rk.lt k hk) (fun e => (p.x3 k e).2.1 hk)) hl (fun k hk hf => by
    rcases hs.sub k hk with e | e
    · exact (p.x3 k e).2.1 hf
    · have := p.rk.lt k hf; omega) (Lg.add_ok p.kr hr) (Nat.le_refl _)⟩
theorem px_sync (T : Px w wr P bp d r bl bq N sd sr ld lr) (hfit : 2 + ld.ar * ld.m + ld.m ≤ sd.D.length) (hN : N + 3000 < 999900) :
    Calls Tryz.prog 18 #[.pointer (some ⟨bl, 0, none⟩)] wr fun e w' => e = .returned (.int .i64 (ld.sync sd).1) ∧ Px w w' P bp d r bl bq (N + 2100) (ld.sync sd).2.2 sr (ld.sync sd).2.1 lr ∧ Pk P wr w' := by
  obtain ⟨F, F2, G, G2, p⟩ := T
  refine (sync_is wr F G bl d N sd ld p.dk p.lm p.kd (fun k hk => (p.x2 k hk).1) hfit hN).mono ?_
  rintro e w' ⟨rfl, F', G', hd, hl, hs, hx⟩
  exact ⟨rfl, p.stepA hs hd hl hx (sync_ok p.kd) (by omega)⟩
theorem px_rsync (T : Px w wr P bp d r bl bq N sd sr ld lr) (h6 : 6 ≤ sr.D.length) (hm : lr.m = sr.am) (hg : lr.lost = true ∨ Gu sr lr) (hN : N + 3000 < 999900) :
    Calls Tryz.prog 32 #[.pointer (some ⟨bq, 0, none⟩)] wr fun e w' => e = .returned (.int .i64 (lr.sync sr).1) ∧ Px w w' P bp d r bl bq (N + 2100) sd (lr.sync sr).2.2 ld (lr.sync sr).2.1 ∧ Pk P wr w' := by
  obtain ⟨F, F2, G, G2, p⟩ := T
  refine (rsync_is wr F2 G2 bq r N N sr lr p.rk (by omega) h6 hm p.rl p.kr (by omega) (fun k hk => (p.x3 k hk).2.1) hg).mono ?_
  rintro e w' ⟨rfl, F', G', hd, hl, hs, hx⟩
  exact ⟨rfl, p.stepR hs hd hl hx (sync_ok p.kr) (by omega)⟩
theorem px_reset (T : Px w wr P bp d r bl bq N sd sr ld lr) (hN : N + 3000 < 999900) (a : Option Addr) (n c : Nat) (recs : List (List Int)) (hn : recs.length = n) (hn2 : n ≤ 1000000) (hin : InS wr a recs) (ha : a = none → n = 0 ∧ c = 0) (hB : ∀ B ∈ recs, IsBytes B) (hx : ∀ x, a = some x → recs ≠ [] → P x.block) :
    Calls Tryz.prog 33 #[.pointer (some ⟨bl, 0, none⟩), .slice a n c] wr fun e w' => e = .returned (.int .i64 (ld.reset sd recs).1) ∧ Px w w' P bp d r bl bq (N + 2100) (ld.reset sd recs).2.2 sr (ld.reset sd recs).2.1 lr ∧ Pk P wr w' := by
  obtain ⟨F, F2, G, G2, p⟩ := T
  refine (reset_is wr F G bl d N sd ld p.dk p.lm p.kd (fun k hk => (p.x2 k hk).1) hN a n c recs hn hn2 hin ha hB (fun x h1 h2 => ⟨(p.hp _ (hx x h1 h2)).2.1, (p.hp _ (hx x h1 h2)).2.2.2.1⟩)).mono ?_
  rintro e w' ⟨rfl, F', G', hd, hl, hs, hx⟩
  exact ⟨rfl, p.stepA hs hd hl hx (reset_ok p.kd hB) (by omega)⟩
theorem px_rreset (T : Px w wr P bp d r bl bq N sd sr ld lr) (hN : N + 3000 < 999900) (h6 : 6 ≤ sr.D.length) (hm : lr.m = sr.am) (a : Option Addr) (n c : Nat) (recs : List (List Int)) (hn : recs.length = n) (hn2 : n ≤ 1000000) (hin : InS wr a recs) (ha : a = none → n = 0 ∧ c = 0) (hB : ∀ B ∈ recs, IsBytes B) (hBl : ∀ B ∈ recs, B.length ≤ 1000000) (hx : ∀ x, a = some x → recs ≠ [] → P x.block) :
    Calls Tryz.prog 34 #[.pointer (some ⟨bq, 0, none⟩), .slice a n c] wr fun e w' => e = .returned (.int .i64 (lr.reset sr recs).1) ∧ Px w w' P bp d r bl bq (N + 2100) sd (lr.reset sr recs).2.2 ld (lr.reset sr recs).2.1 ∧ Pk P wr w' := by
  obtain ⟨F, F2, G, G2, p⟩ := T
  refine (rreset_is wr F2 G2 bq r N N sr lr p.rk (by omega) h6 hm p.rl p.kr (by omega) (fun k hk => (p.x3 k hk).2.1) a n c recs hn hn2 hin ha hB hBl (fun x h1 h2 => ⟨(p.hp _ (hx x h1 h2)).2.2.1, (p.hp _ (hx x h1 h2)).2.2.2.2.1⟩)).mono ?_
  rintro e w' ⟨rfl, F', G', hd, hl, hs, hx⟩
  exact ⟨rfl, p.stepR hs hd hl hx (reset_ok p.kr hB) (by omega)⟩
theorem px_fuse (T : Px w wr P bp d r bl bq N sd sr ld lr) (k : Int) (hk : k ≤ 9223372036854775807) :
    Calls Tryz.prog 35 #[.pointer (some ⟨d, 0, none⟩), .int .i64 k] wr fun e w' => e = .returned (.int .i64 (sd.fs k).1) ∧ Px w w' P bp d r bl bq N (sd.fs k).2 sr ld lr ∧ Pk P wr w' := by
  obtain ⟨F, F2, G, G2, p⟩ := T
  refine (dk_fuse wr F d N sd p.dk k hk).mono ?_
  rintro e w' ⟨rfl, hd, hs⟩
  exact ⟨rfl, p.stepA hs.toBF hd (p.lm.apart hs.off (fun k hk => (p.x2 k hk).1)) (fun k hk => (p.x2 k hk).1) p.kd (Nat.le_refl _)⟩
theorem px_rset (T : Px w wr P bp d r bl bq N sd sr ld lr) (k : Int) (hk : k ≤ 9223372036854775807) :
    Calls Tryz.prog 36 #[.pointer (some ⟨r, 0, none⟩), .int .i64 k] wr fun e w' => e = .returned (.int .i64 (sr.fs k).1) ∧ Px w w' P bp d r bl bq N sd (sr.fs k).2 ld lr ∧ Pk P wr w' := by
  obtain ⟨F, F2, G, G2, p⟩ := T
  refine (rk_set wr F2 r N sr p.rk k hk).mono ?_
  rintro e w' ⟨rfl, hd, hs⟩
  exact ⟨rfl, p.stepR hs.toBF hd (p.rl.kept fun k hk => hs.off.block k (p.rl.lt k hk) (p.x3 k hk).2.1) (fun k hk => (p.x3 k hk).2.1) p.kr (Nat.le_refl _)⟩
theorem px_crash (T : Px w wr P bp d r bl bq N sd sr ld lr) (hN : N ≤ 1000000) (ka : Option Addr) (kl kc : Nat) (keep : List Int) (hkl : keep.length = kl) (hin : InK wr ka keep) (hx : ∀ x, ka = some x → keep ≠ [] → P x.block) :
    Calls Tryz.prog 19 #[.pointer (some ⟨d, 0, none⟩), .slice ka kl kc] wr fun e w' => e = .returned (.int .i64 0) ∧ Px w w' P bp d r bl bq N (sd.cr keep) sr ld lr ∧ Pk P wr w' := by
  obtain ⟨F, F2, G, G2, p⟩ := T
  refine (dk_crash wr F d N sd p.dk hN ka kl kc keep hkl hin (fun x h1 h2 => (p.hp _ (hx x h1 h2)).2.1)).mono ?_
  rintro e w' ⟨rfl, F', hd, hs⟩
  exact ⟨rfl, p.stepA hs.toBF hd (p.lm.apart hs.off (fun k hk => (p.x2 k hk).1)) (fun k hk hf => by
    rcases hs.sub k hf with e | e
    · exact (p.x2 k hk).1 e
    · have := p.lm.lt k hk; omega) p.kd (Nat.le_refl _)⟩
theorem px_rcrash (T : Px w wr P bp d r bl bq N sd sr ld lr) (hN : N ≤ 1000000) (ka : Option Addr) (kl kc : Nat) (keep : List Int) (hkl : keep.length = kl) (hin : InK wr ka keep) :
    Calls Tryz.prog 37 #[.pointer (some ⟨r, 0, none⟩), .slice ka kl kc] wr fun e w' => e = .returned (.tuple #[]) ∧ Px w w' P bp d r bl bq N sd (sr.cr keep) ld lr ∧ Pk P wr w' := by
  obtain ⟨F, F2, G, G2, p⟩ := T
  refine (rk_crash wr F2 r N sr p.rk hN ka kl kc keep hkl hin).mono ?_
  rintro e w' ⟨rfl, F', hd, hs⟩
  exact ⟨rfl, p.stepR hs.toBF hd (p.rl.kept fun k hk => hs.off.block k (p.rl.lt k hk) (p.x3 k hk).2.1) (fun k hk hf => by
    rcases hs.sub k hf with e | e
    · exact (p.x3 k hk).2.1 e
    · have := p.rl.lt k hk; omega) p.kr (Nat.le_refl _)⟩
end
end Go.Proofs.YtkhopmlhinkpcaaGreat
namespace Go.Proofs.YtkhopmlhinkpcaaGreat
set_option linter.unusedVariables false
/-- an act, plainly -/
def stp (s : Ds) (l : Lg) (k n : Int) (rec : List Int) (recs : List (List Int)) (z : List Int) : Ds × Option Lg :=
  if k = 0 then (s, some (l.add (cS rec)).2) else if k = 1 then ((l.sync s).2.2, some (l.sync s).2.1) else if k = 2 then ((l.reset s (smL recs)).2.2, some (l.reset s (smL recs)).2.1)
  else if k = 3 then ((s.fs n).2, some l) else if k = 4 then ((s.cr z).opn.2.2, (s.cr z).opn.2.1) else if k = 5 then (s.opn.2.2, s.opn.2.1) else (s, some l)
/-- what stands behind j calls -/
def Jn (n j : Nat) (s : Ds) (l : Lg) : Prop := s.D.length = n ∧ l.m = s.am ∧ l.no ≤ 1 + j ∧ (Gu s l ∨ (l.lost = true ∧ s.up = false ∧ ∀ keep, ∃ l', Inv n (s.cr keep) l' ∧ l'.no ≤ 1 + j))
theorem Jn.more {n j j' : Nat} {s : Ds} {l : Lg} (h : Jn n j s l) (hj : j ≤ j') : Jn n j' s l := by
  obtain ⟨h1, h2, h3, h4⟩ := h
  refine ⟨h1, h2, by omega, h4.elim .inl fun ⟨a, b, c⟩ => .inr ⟨a, b, fun keep => ?_⟩⟩
  obtain ⟨l', e1, e2⟩ := c keep
  exact ⟨l', e1, by omega⟩
theorem am_of {s : Ds} {n : Nat} (h : s.D.length = n) : s.am = (n - 2) / 2 := by unfold Ds.am; rw [h]
theorem cr_length (s : Ds) (keep : List Int) : (s.cr keep).D.length = s.D.length := by
  show (crD keep s.D s.W).length = _
  exact crs_len _ _ _ _ _
theorem fob_len (s : Ds) (m : Nat) : (s.fob m).2.2.D.length = s.D.length := by
  unfold Ds.fob
  split
  · split <;> exact run_len _ _
  · split <;> rfl
theorem opn_am {s : Ds} {l : Lg} (h : s.opn.2.1 = some l) : l.m = s.opn.2.2.am ∧ 2 ≤ s.opn.2.2.D.length := by
  by_cases hu : s.up = false
  · rw [Ds.opn, if_pos hu] at h
    cases h
  by_cases h6 : s.D.length < 6
  · rw [Ds.opn, if_neg hu, if_pos h6] at h
    cases h
  rw [Ds.opn, if_neg hu, if_neg h6] at h ⊢
  have hl := fob_len s s.am
  obtain ⟨x, hx, rfl⟩ := Option.map_eq_some_iff.1 h
  exact ⟨(am_of hl).symm, by show 2 ≤ (s.fob s.am).2.2.D.length; rw [hl]; omega⟩
theorem gu_drop {s : Ds} {l : Lg} (h : Gu s l) : Gu s { l with W := [] } := ⟨h.up, h.W, gd_drop h.gd⟩
theorem inv_jn {n j : Nat} {t : Ds} {l : Lg} (h6 : 6 ≤ n) (hn : n ≤ 4096) (ht : t.D.length = n) (h : Inv n t l) (hno : l.no ≤ 1 + j) : t.opn.2.1 = some l ∧ Jn n j t.opn.2.2 l := by
  obtain ⟨f, hW, h | ⟨rfl, h⟩⟩ := h
  · have e := gd_open h
    rw [show ({ l with W := [] } : Lg) = l by rw [← hW]] at e
    rw [e]
    exact ⟨rfl, ht, h.am, hno, .inl (Gu.of h)⟩
  · obtain ⟨c, o, s', e, hor⟩ := open_cut h6 hn h
    obtain ⟨s2, e2⟩ := bare_open h6 hn h f
    rw [e] at e2
    rcases hor with ⟨rfl, rfl, g, hl⟩ | ⟨rfl, rfl, hu, _⟩
    · rw [e]
      exact ⟨rfl, hl, by rw [am_of hl]; rfl, by show 1 ≤ 1 + j; omega, .inl g⟩
    · exact absurd (Prod.mk.inj e2).1 (by decide)
theorem new_jn {n : Nat} (h6 : 6 ≤ n) (hn : n ≤ 4096) : ∃ l, (Ds.new n).opn.2.1 = some l ∧ Jn n 0 (Ds.new n).opn.2.2 l := by
  obtain ⟨s', e, g, hl⟩ := gd_new n h6 hn
  rw [e]
  exact ⟨_, rfl, hl, by rw [am_of hl], Nat.le_refl _, .inl (Gu.of g)⟩
theorem new_few {n : Nat} (h6 : n < 6) : (Ds.new n).opn.2.1 = none := by
  have hl : (Ds.new n).D.length = n := by simp [Ds.new, noughts]
  rw [Ds.opn, if_neg (by simp [Ds.new]), if_pos (by omega)]
theorem stp_jn {n j : Nat} {s : Ds} {l : Lg} (h6 : 6 ≤ n) (hn : n ≤ 4096) (hj : j ≤ 1000000) (h : Jn n j s l) (k m : Int) (rec : List Int) (recs : List (List Int)) (z : List Int) (hB : IsBytes (cS rec)) (hR : ∀ B ∈ smL recs, IsBytes B) :
    ∀ l', (stp s l k m rec recs z).2 = some l' → Jn n (j + 1) (stp s l k m rec recs z).1 l' := by
  have hJ := h
  obtain ⟨hD, hm, hno, hor⟩ := h
  have hno2 : l.no < 1152921504606846976 := by omega
  intro l' hl'
  unfold stp at hl' ⊢
  by_cases k0 : k = 0
  · rw [if_pos k0] at hl' ⊢
    injection hl' with e
    subst e
    rcases hor with g | ⟨hlo, hu, hk⟩
    · have g' : Gu s (l.add (cS rec)).2 := ⟨g.up, g.W, gd_add g.gd _ hB⟩
      refine ⟨hD, g'.gd.am, ?_, .inl g'⟩
      have : (l.add (cS rec)).2.no = l.no := by unfold Lg.add; repeat' (first | rfl | split)
      rw [this]; omega
    · have e : (l.add (cS rec)).2 = l := by unfold Lg.add; rw [if_pos hlo]
      rw [e]
      exact hJ.more (by omega)
  rw [if_neg k0] at hl' ⊢
  by_cases k1 : k = 1
  · rw [if_pos k1] at hl' ⊢
    injection hl' with e
    rcases hor with g | ⟨hlo, hu, hk⟩
    · by_cases hW : l.W = []
      · have e2 : l.sync s = (0, l, s) := by unfold Lg.sync; rw [if_neg (by rw [g.gd.lost]; simp), if_pos hW]
        rw [e2] at e ⊢
        subst e
        exact hJ.more (by omega)
      · obtain ⟨c, l1, s1, e2, hor⟩ := sync_cut g hno2 hW
        have hlen := sync_len e2
        rw [e2] at e ⊢
        have e' : l1 = l' := e
        subst e'
        rcases hor with ⟨rfl, rfl, g1, hD1⟩ | ⟨rfl, rfl, hu, hk⟩
        · exact ⟨hD1.trans hD, g1.gd.am, by show l.no + 1 ≤ _; omega, .inl g1⟩
        · refine ⟨hlen.trans hD, by rw [am_of (hlen.trans hD), ← am_of hD]; exact hm, by show l.no ≤ _; omega, .inr ⟨rfl, hu, fun keep => ?_⟩⟩
          rcases hk keep with q | q
          · exact ⟨_, inv_gd q, by show l.no ≤ _; omega⟩
          · exact ⟨_, inv_gd q, by show l.no + 1 ≤ _; omega⟩
    · have e2 : l.sync s = (15, l, s) := by unfold Lg.sync; rw [if_pos hlo]
      rw [e2] at e ⊢
      have e' : l = l' := e
      subst e'
      exact hJ.more (by omega)
  rw [if_neg k1] at hl' ⊢
  by_cases k2 : k = 2
  · rw [if_pos k2] at hl' ⊢
    injection hl' with e
    rcases hor with g | ⟨hlo, hu, hk⟩
    · have stay : ∀ c, l.reset s (smL recs) = (c, l, s) → Jn n (j + 1) (l.reset s (smL recs)).2.2 l' := fun c e2 => by
        rw [e2] at e ⊢
        have e' : l = l' := e
        subst e'
        exact hJ.more (by omega)
      by_cases hW : l.W = []
      · by_cases hf : (frO (smL recs) (64 * l.m)).2 = 0
        · obtain ⟨c, l1, s1, e2, hor⟩ := reset_cut g hno2 hW (smL recs) hR hf
          have hlen := reset_len e2
          rw [e2] at e ⊢
          have e' : l1 = l' := e
          subst e'
          rcases hor with ⟨rfl, rfl, g1, hD1⟩ | ⟨rfl, rfl, hu, hk⟩
          · exact ⟨hD1.trans hD, g1.gd.am, by show l.no + 1 ≤ _; omega, .inl g1⟩
          · refine ⟨hlen.trans hD, by rw [am_of (hlen.trans hD), ← am_of hD]; exact hm, by show l.no ≤ _; omega, .inr ⟨rfl, hu, fun keep => ?_⟩⟩
            rcases hk keep with q | q
            · exact ⟨_, inv_gd q, by show l.no ≤ _; omega⟩
            · exact ⟨_, inv_gd q, by show l.no + 1 ≤ _; omega⟩
        · exact stay _ (by unfold Lg.reset; rw [if_neg (by rw [g.gd.lost]; simp), if_neg (by rw [hW]; simp), if_pos hf])
      · exact stay _ (by unfold Lg.reset; rw [if_neg (by rw [g.gd.lost]; simp), if_pos hW])
    · have e2 : l.reset s (smL recs) = (15, l, s) := by unfold Lg.reset; rw [if_pos hlo]
      rw [e2] at e ⊢
      have e' : l = l' := e
      subst e'
      exact hJ.more (by omega)
  rw [if_neg k2] at hl' ⊢
  by_cases k3 : k = 3
  · rw [if_pos k3] at hl' ⊢
    injection hl' with e
    subst e
    have h2 := hJ.more (Nat.le_succ j)
    obtain ⟨q1, q2, q3, q4⟩ := h2
    refine ⟨q1, q2, q3, ?_⟩
    rcases q4 with g | ⟨a, b, c⟩
    · exact .inl ⟨g.up, g.W, g.gd⟩
    · exact .inr ⟨a, b, c⟩
  rw [if_neg k3] at hl' ⊢
  by_cases k4 : k = 4
  · rw [if_pos k4] at hl' ⊢
    have hl2 : (s.cr z).opn.2.1 = some l' := hl'
    obtain ⟨l1, i1, i2⟩ : ∃ l1, Inv n (s.cr z) l1 ∧ l1.no ≤ 1 + (j + 1) := by
      rcases hor with g | ⟨hlo, hu, hk⟩
      · exact ⟨_, inv_gd (gu_cr g z), by show l.no ≤ _; omega⟩
      · obtain ⟨l1, i1, i2⟩ := hk z
        exact ⟨l1, i1, by omega⟩
    obtain ⟨e, q⟩ := inv_jn (j := j + 1) h6 hn ((cr_length s z).trans hD) i1 i2
    rw [e] at hl2
    injection hl2 with e3
    subst e3
    exact q
  rw [if_neg k4] at hl' ⊢
  by_cases k5 : k = 5
  · rw [if_pos k5] at hl' ⊢
    have hl2 : s.opn.2.1 = some l' := hl'
    rcases hor with g | ⟨hlo, hu, hk⟩
    · rw [gu_open g] at hl2 ⊢
      injection hl2 with e3
      subst e3
      exact ⟨hD, hm, by show l.no ≤ _; omega, .inl (gu_drop g)⟩
    · rw [Ds.opn, if_pos hu] at hl2
      cases hl2
  rw [if_neg k5] at hl' ⊢
  injection hl' with e
  subst e
  exact hJ.more (by omega)
end Go.Proofs.YtkhopmlhinkpcaaGreat
namespace Go.Proofs.YtkhopmlhinkpcaaGreat
open Go.ChangeShapes Go.WideShapes Go.ChangeAt Go.RowKit Go.Deep Go.Maps
set_option linter.unusedVariables false
/-- a slice of rows of bytes that may be read -/
def In2 (w : World) (a : Option Addr) (len : Nat) (V : Nat → Option Addr × Nat × Nat) (M : Nat → List Int) : Prop :=
  (0 < len → ∃ b off, a = some ⟨b, off, none⟩ ∧ b < w.heap.size ∧ ∀ i, i < len → w.cell? ⟨b, off + i, none⟩ = some (.slice (V i).1 (V i).2.1 (V i).2.2)) ∧
  ∀ i, i < len → Holds w (V i).1 (M i) ∧ (M i).length = (V i).2.1 ∧ IsBytes (M i) ∧ ((V i).1 = none → (V i).2.2 = 0) ∧ (∀ x, (V i).1 = some x → M i ≠ [] → x.block < w.heap.size) ∧ (V i).2.1 ≤ (V i).2.2 ∧ (V i).2.2 ≤ 9223372036854775807
theorem holds_kept {w w' : World} {a : Option Addr} {L : List Int} (h : Holds w a L) (hb : ∀ x, a = some x → L ≠ [] → w'.heap[x.block]? = w.heap[x.block]?) : Holds w' a L := by
  rcases h with h | ⟨b, off, rfl, hc⟩
  · exact .inl h
  · by_cases hL : L = []
    · exact .inl hL
    · exact .inr ⟨b, off, rfl, fun i hi => (World.cell?_of_block (a := ⟨b, off + i, none⟩) (hb ⟨b, off, none⟩ rfl hL)).trans (hc i hi)⟩
theorem In2.below {w w' : World} {a : Option Addr} {len : Nat} {V : Nat → Option Addr × Nat × Nat} {M : Nat → List Int} (h : In2 w a len V M) (hb : Below w.heap.size w w') : In2 w' a len V M := by
  refine ⟨fun h0 => ?_, fun i hi => ?_⟩
  · obtain ⟨b, off, ha, hlt, hc⟩ := h.1 h0
    exact ⟨b, off, ha, Nat.lt_of_lt_of_le hlt hb.size, fun i hi => (hb.cell (p := ⟨b, off + i, none⟩) hlt).trans (hc i hi)⟩
  · obtain ⟨h1, h2, h3, h4, h5, h6, h7⟩ := h.2 i hi
    exact ⟨holds_kept h1 fun x hx hL => hb.block _ (h5 x hx hL), h2, h3, h4, fun x hx hL => Nat.lt_of_lt_of_le (h5 x hx hL) hb.size, h6, h7⟩
theorem In2.less {w : World} {a : Option Addr} {len m : Nat} {V : Nat → Option Addr × Nat × Nat} {M : Nat → List Int} (h : In2 w a len V M) (hm : m ≤ len) : In2 w a m V M := by
  refine ⟨fun h0 => ?_, fun i hi => h.2 i (by omega)⟩
  obtain ⟨b, off, ha, hlt, hc⟩ := h.1 (by omega)
  exact ⟨b, off, ha, hlt, fun i hi => hc i (by omega)⟩
def Ds.of (M : Nat → List Int) (n : Nat) : Ds := ⟨(List.range n).map M, fun _ => [], true, 0, -1⟩
theorem dk_of_at {w' : World} {h b : Nat} {D : List (List Int)} (hd : DkAt w' h b 0 D (fun _ => []) true 0 (-1)) (h1 : 1 ≤ D.length ∧ D.length ≤ 4096) : ∃ F, Dk w' F b 0 ⟨D, fun _ => [], true, 0, -1⟩ ∧ ∀ k, F k → h ≤ k := by
  obtain ⟨gd, cd, mb, T, p⟩ := DkP.of hd
  have p0 : DkP w' 0 b 0 D (fun _ => []) true 0 (-1) gd cd mb T := ⟨Nat.zero_le _, Nat.zero_le _, p.cell, p.dur.base (Nat.zero_le _), p.is64, p.mp, p.nil, fun i x hx => by
    obtain ⟨a1, a2, a3, a4⟩ := p.row i x hx
    exact ⟨a1, a2, a3.base (Nat.zero_le _), a4⟩, p.apart⟩
  exact ⟨Fp b gd mb T, ⟨gd, cd, mb, T, p0, fun _ => Iff.rfl, h1, fun i => Nat.le_refl _, fun i hi => absurd rfl hi, ⟨Int.le_refl _, Int.le_refl _⟩, by show (-1 : Int) ≤ _; omega⟩, fun k hk => (p.fp_lt k hk).2⟩
set_option maxHeartbeats 4000000 in
theorem of_bad (a : Option Addr) (len cap : Nat) (hn : ¬ (1 ≤ len ∧ len ≤ 4096)) (w : World) : Calls Tryz.prog 11 #[.slice a len cap] w fun e w' => e = .returned (.tuple #[.pointer none, .int .i64 2]) ∧ w' = w := by
  have K : Hid (Calls Tryz.prog 13 #[.int .i64 (len : Int)] w fun e w' => e = .returned (.bool false) ∧ w' = w) := by
    have := mayHave_is (len : Int) w
    rw [decide_eq_false (by omega)] at this
    exact this
  go_enter Tryz.func11, Tryz.ntmps11
  go_wp2_with fail
  refine K.out.mono ?_
  rintro e w1 ⟨rfl, hw⟩
  obtain rfl := hw.symm
  go_wp2_with fail
  go_ret2
  exact ⟨rfl, rfl⟩
theorem list_map {M : Nat → List Int} {B : List (List Int)} {n : Nat} (hl : B.length = n) (h : ∀ j, j < n → B[j]? = some (M j)) : B = (List.range n).map M := by
  apply List.ext_getElem?
  intro j
  by_cases hj : j < n
  · rw [h j hj, List.getElem?_map, List.getElem?_range hj]
    rfl
  · rw [List.getElem?_eq_none (by omega), List.getElem?_eq_none (by simp; omega)]
set_option maxRecDepth 100000 in
set_option maxHeartbeats 8000000 in
theorem of_is (a : Option Addr) (n cap : Nat) (V : Nat → Option Addr × Nat × Nat) (M : Nat → List Int) (w : World) (h1 : 1 ≤ n) (h2 : n ≤ 4096) (hI : In2 w a n V M) :
    Calls Tryz.prog 11 #[.slice a n cap] w fun e w' => Below w.heap.size w w' ∧ (((∃ i, i < n ∧ (M i).length ≠ 64) ∧ e = .returned (.tuple #[.pointer none, .int .i64 2])) ∨
      ((∀ i, i < n → (M i).length = 64) ∧ ∃ b F, e = .returned (.tuple #[.pointer (some ⟨b, 0, none⟩), .int .i64 0]) ∧ Dk w' F b 0 (Ds.of M n) ∧ ∀ k, F k → w.heap.size ≤ k)) := by
  have K : Hid (Calls Tryz.prog 13 #[.int .i64 (n : Int)] w fun e w' => e = .returned (.bool true) ∧ w' = w) := by
    have := mayHave_is n w
    rw [decide_eq_true (by omega)] at this
    exact this
  have hmk : (Instr.makeSlice 48 (.int .i64 (n : Int)) (.int .i64 (n : Int))).run Tryz.prog w = .ok (.slice (some ⟨w.heap.size, 0, none⟩) n n) (w.alloc (.cells (madeCells z64 (n * 64)) 74)) := by
    obtain ⟨i, hi, hz, hs, hb⟩ := infoB
    have := run_make (P := Tryz.prog) w 48 74 i _ Tryz.underlying48 hi hz .i64 .i64 (n : Int) (n : Int) (by omega) (Int.le_refl _) (by rw [hb]; omega) (by omega)
    rw [hs] at this
    simpa [show (Value.agg z64).cells = z64 from rfl] using this
  have O0 : Hid (OwnB (w.alloc (.cells (madeCells z64 (n * 64)) 74)) w.heap.size (.slice (some ⟨w.heap.size, 0, none⟩) n n) (noughts n)) := ownB_made w n h2
  have B0 : Hid (Below w.heap.size w (w.alloc (.cells (madeCells z64 (n * 64)) 74))) := (Below.refl _ _).alloc (Nat.le_refl _) _
  have HI : Hid (In2 w a n V M) := hI
  generalize madeCells z64 (n * 64) = mc at *
  clear hI
  go_enter Tryz.func11, Tryz.ntmps11
  go_wp2_with fail
  refine K.out.mono ?_
  rintro e w1 ⟨rfl, hw⟩
  obtain rfl := hw.symm
  clear hw K
  go_wp2_with fail
  go_loopg [16] n (fun gg iv wr => ∃ (i : Nat) (B : List (List Int)), i ≤ n ∧ gg = n - i ∧ iv = .int .i64 (i : Int) ∧ Hid (OwnB wr w.heap.size (.slice (some ⟨w.heap.size, 0, none⟩) n n) B ∧ Is64 B ∧ B.length = n ∧ (∀ j, j < i → B[j]? = some (M j) ∧ (M j).length = 64)) ∧ Hid (Below w.heap.size w wr))
  case atStart => exact ⟨0, noughts n, by omega, rfl, rfl, ⟨O0.out, noughts_64 n, by simp [noughts], fun j hj => by omega⟩, B0⟩
  case round =>
    obtain ⟨i, B, hin, rfl, rfl, PB, BW⟩ := hrel
    clear O0 B0 hmk
    by_cases hi : i < n
    · have g1 : decide ((i : Int) < (n : Int)) = true := by rw [decide_eq_true_eq]; omega
      have ri : IntKind.i64.wrap ((i : Int) + 1) = (i : Int) + 1 := by rw [IntKind.wrap_i64]; omega
      have hia := HI.out.below BW.out
      obtain ⟨ib, off, rfl, hib, hcells⟩ := hia.1 (by omega)
      have c0 := hcells i hi
      obtain ⟨r1, r2, r3, r4, r5, r6, r7⟩ := hia.2 i hi
      generalize hv : V i = v at *
      obtain ⟨va, vl, vc⟩ := v
      simp only at c0 r1 r2 r4 r5 r6 r7
      by_cases hl : vl = 64
      · subst hl
        obtain ⟨xb, xo, rfl, hsrc⟩ : ∃ xb xo, va = some ⟨xb, xo, none⟩ ∧ ∀ j, j < (M i).length → wr.cell? ⟨xb, xo + j, none⟩ = some (.int .u8 ((M i).getD j 0)) := by
          rcases r1 with h | h
          · rw [h] at r2; simp at r2
          · exact h
        have hth := PB.out.1.there PB.out.2.1 i (B[i]'(by have := PB.out.2.2.1; omega)) (List.getElem?_eq_getElem _)
        have hcp : ∀ ty, (Builtin.copy_ #[52, 52] ty #[.slice (some ⟨w.heap.size, i * 64, none⟩) 64 64, .slice (some ⟨xb, xo, none⟩) 64 vc]).run Tryz.prog wr = .ok (.int .i64 64) (wr.setCells w.heap.size (i * 64) ((M i).map (Value.int .u8))) := fun ty => by
          have := run_copy_cells (P := Tryz.prog) wr 52 52 ty 5 w.heap.size (i * 64) 64 64 ⟨xb, xo, none⟩ 64 vc ((M i).map (Value.int .u8)) Tryz.underlying52 (by kernel_rfl) (by rw [List.length_map, r2]; rfl) (fun j v hv => by
            rw [List.getElem?_map] at hv
            obtain ⟨y, hy, rfl⟩ := Option.map_eq_some_iff.1 hv
            have hj := (List.getElem?_eq_some_iff.1 hy).1
            rw [Addr.add_mid, hsrc j hj, List.getD_eq_getElem?_getD, hy]
            rfl) (fun j hj => (hth j (by rw [List.length_map] at hj; omega)).1) (fun j hj => (hth j (by rw [List.length_map] at hj; omega)).2) (ints_oneCell _ _)
          rw [this, List.length_map, r2]
          rfl
        have PN : Hid (OwnB (wr.setCells w.heap.size (i * 64) ((M i).map (Value.int .u8))) w.heap.size (.slice (some ⟨w.heap.size, 0, none⟩) n n) (B.set i (M i)) ∧ Is64 (B.set i (M i)) ∧ (B.set i (M i)).length = n ∧ (∀ j, j < i + 1 → (B.set i (M i))[j]? = some (M j) ∧ (M j).length = 64)) := by
          have hl := PB.out.2.2.1
          refine ⟨OwnB.put hl PB.out.1 PB.out.2.1 i (by omega) (M i) ⟨r2, r3⟩, is64_set PB.out.2.1 i (M i) ⟨r2, r3⟩, by rw [List.length_set]; exact hl, fun j hj => ?_⟩
          by_cases e : j = i
          · subst e
            exact ⟨List.getElem?_set_self (by omega), r2⟩
          · rw [List.getElem?_set_ne (fun e' => e e'.symm)]
            exact PB.out.2.2.2 j (by omega)
        have BN : Hid (Below w.heap.size w (wr.setCells w.heap.size (i * 64) ((M i).map (Value.int .u8)))) := BW.out.grown (grown_sets _ _ _ _) BW.out.size (fun k e => by have := Option.some.inj e; omega)
        generalize wr.setCells w.heap.size (i * 64) ((M i).map (Value.int .u8)) = w5 at *
        clear hth r1 r2 r3 r4 r5 r6 r7 hia hcells hsrc
        go_wp2_with fail
        go_roundg (n - (i + 1))
        case measure => omega
        case rel => exact ⟨i + 1, B.set i (M i), by omega, rfl, by simp, PN, BN⟩
      · have f1 : ((vl : Int) != 64) = true := by simp; omega
        go_wp2_with fail
        go_ret2
        exact ⟨BW.out, .inl ⟨⟨i, hi, by rw [r2]; exact hl⟩, rfl⟩⟩
    · have g1 : decide ((i : Int) < (n : Int)) = false := by rw [decide_eq_false_iff_not]; omega
      obtain rfl : i = n := by omega
      have KF : Hid (Calls Tryz.prog 14 #[.slice (some ⟨w.heap.size, 0, none⟩) i i] wr fun e w' => ∃ b, e = .returned (.pointer (some ⟨b, 0, none⟩)) ∧ DkAt w' w.heap.size b 0 B (fun _ => []) true 0 (-1) ∧ Below wr.heap.size wr w') := fresh_is w.heap.size i i B w.heap.size PB.out.2.2.1 wr PB.out.1 PB.out.2.1 BW.out.size
      go_wp2_with fail
      refine KF.out.mono ?_
      rintro e w2 ⟨b, rfl, hd, hb2⟩
      have HD : Hid (DkAt w2 w.heap.size b 0 B (fun _ => []) true 0 (-1)) := hd
      have B2 : Hid (Below w.heap.size w w2) := BW.out.trans (hb2.mono BW.out.size)
      clear hd hb2 KF
      go_wp2_with fail
      go_ret2
      obtain ⟨F, hF, hF2⟩ := dk_of_at HD.out (by rw [PB.out.2.2.1]; exact ⟨h1, h2⟩)
      rw [list_map PB.out.2.2.1 (fun j hj => (PB.out.2.2.2 j hj).1)] at hF
      exact ⟨B2.out, .inr ⟨fun j hj => (PB.out.2.2.2 j hj).2, b, F, rfl, hF, hF2⟩⟩
end Go.Proofs.YtkhopmlhinkpcaaGreat
namespace Go.Proofs.YtkhopmlhinkpcaaGreat
open Go.ChangeShapes Go.WideShapes Go.ChangeAt Go.RowKit Go.Deep Go.Maps
set_option linter.unusedVariables false
theorem rof_bad (a : Option Addr) (len cap : Nat) (hn : ¬ (1 ≤ len ∧ len ≤ 4096)) (w : World) : Calls Tryz.prog 12 #[.slice a len cap] w fun e w' => e = .returned (.tuple #[.pointer none, .int .i64 2]) ∧ w' = w := by
  by_cases h1 : len < 1
  · have f1 : decide ((len : Int) < 1) = true := by rw [decide_eq_true_eq]; omega
    go_enter Tryz.func12, Tryz.ntmps12
    go_wp2_with fail
    go_ret2
    exact ⟨rfl, rfl⟩
  · have f1 : decide ((len : Int) < 1) = false := by rw [decide_eq_false_iff_not]; omega
    have f2 : decide (4096 < (len : Int)) = true := by rw [decide_eq_true_eq]; omega
    go_enter Tryz.func12, Tryz.ntmps12
    go_wp2_with fail
    go_ret2
    exact ⟨rfl, rfl⟩
def firstM (M : Nat → List Int) (i : Nat) : List (List Int) := (List.range i).map M
theorem firstM_len (M : Nat → List Int) (i : Nat) : (firstM M i).length = i := by simp [firstM]
theorem firstM_succ (M : Nat → List Int) (i : Nat) : firstM M i ++ [M i] = firstM M (i + 1) := by simp [firstM, List.range_succ]
set_option linter.unusedSimpArgs false in
set_option maxRecDepth 100000 in
set_option maxHeartbeats 8000000 in
theorem rof_is (a : Option Addr) (n cap : Nat) (V : Nat → Option Addr × Nat × Nat) (M : Nat → List Int) (w : World) (h1 : 1 ≤ n) (h2 : n ≤ 4096) (hI : In2 w a n V M) :
    Calls Tryz.prog 12 #[.slice a n cap] w fun e w' => Below w.heap.size w w' ∧ (((∃ i, i < n ∧ (M i).length ≠ 64) ∧ e = .returned (.tuple #[.pointer none, .int .i64 2])) ∨
      ((∀ i, i < n → (M i).length = 64) ∧ ∃ b F, e = .returned (.tuple #[.pointer (some ⟨b, 0, none⟩), .int .i64 0]) ∧ Rk w' F b 0 (Ds.of M n) ∧ ∀ k, F k → w.heap.size ≤ k)) := by
  have f1 : decide ((n : Int) < 1) = false := by rw [decide_eq_false_iff_not]; omega
  have f2 : decide (4096 < (n : Int)) = false := by rw [decide_eq_false_iff_not]; omega
  have HI : Hid (In2 w a n V M) := hI
  clear hI
  obtain ⟨W1, hW1⟩ : ∃ W1, w.alloc (.cells #[.slice none 0 0, .slice none 0 0, .int .i64 (-1), .bool false, .int .i64 0] 51) = W1 := ⟨_, rfl⟩
  have X1 : Hid (W1.heap[w.heap.size]? = some (.cells #[.slice none 0 0, .slice none 0 0, .int .i64 (-1), .bool false, .int .i64 0] 51) ∧ Below w.heap.size w W1) := by
    rw [← hW1]
    exact ⟨heap_alloc_new w _, below1 _ _⟩
  have HW1 : Hid (w.alloc (.cells #[.slice none 0 0, .slice none 0 0, .int .i64 (-1), .bool false, .int .i64 0] 51) = W1) := hW1
  clear hW1
  go_enter Tryz.func12, Tryz.ntmps12
  go_wp2_with fail
  rw [show World.alloc _ _ = W1 from HW1.out]
  go_loopg [5] n (fun gg iv wr => ∃ (i : Nat) (oa : Option Addr) (oc : Nat), i ≤ n ∧ gg = n - i ∧ iv = .int .i64 (i : Int) ∧ Hid (RkP wr w.heap.size (firstM M i) [] false 0 (-1) (.slice oa i oc) (.slice none 0 0) ∧ RowT wr w.heap.size (.slice oa i oc) (firstM M i) ∧ ∀ j, j < i → (M j).length = 64) ∧ Hid (Below w.heap.size w wr))
  case atStart => exact ⟨0, none, 0, by omega, rfl, rfl, ⟨⟨X1.out.1, RowT.nil _ _, OwnN.nil _ _⟩, RowT.nil _ _, fun j hj => by omega⟩, X1.out.2⟩
  case round =>
    obtain ⟨i, oa, oc, hin, rfl, rfl, PR, BW⟩ := hrel
    obtain ⟨d0, d1, d2, d3, d4⟩ := r5_of PR.out.1.cell
    by_cases hi : i < n
    · have g1 : decide ((i : Int) < (n : Int)) = true := by rw [decide_eq_true_eq]; omega
      have ri : IntKind.i64.wrap ((i : Int) + 1) = (i : Int) + 1 := by rw [IntKind.wrap_i64]; omega
      have lb : Hid (w.heap.size < wr.heap.size) := (Array.getElem?_eq_some_iff.1 PR.out.1.cell).1
      have hia := HI.out.below BW.out
      obtain ⟨ib, off, rfl, hib, hcells⟩ := HI.out.1 (by omega)
      have c00 := hcells i hi
      have c0 := (BW.out.cell (p := ⟨ib, off + i, none⟩) hib).trans c00
      obtain ⟨r1, r2, r3, r4, r5, r6, r7⟩ := hia.2 i hi
      generalize hv : V i = v at *
      obtain ⟨va, vl, vc⟩ := v
      simp only at c0 c00 r1 r2 r4 r5 r6 r7
      by_cases hl : vl = 64
      · subst hl
        have cv0 : (convert 52 9 (.slice va 64 vc)).run Tryz.prog wr.drew = .ok (.string (strOfNums (M i))) wr.drew := conv_str (w := wr.drew) r1 64 vc r2
        have R2 : Hid ((M i).length = 64) := r2
        obtain ⟨x, hx⟩ : ∃ x, M i = x := ⟨_, rfl⟩
        have HX : Hid (M i = x) := hx
        rw [hx] at cv0
        clear r1 r2 r3 r4 r5 r6 r7 hia hcells hx
        go_wp2_with fail
        refine AnyE.start (S := (fun Wd : World => Wd.cell? ⟨w.heap.size, 0, none⟩ = some (.slice oa i oc) ∧ Wd.cell? ⟨ib, off + i, none⟩ = some (.slice va 64 vc))) (E := [14]) (by kernel_rfl) ?hSa (fun hHeld => ?resta)
        case hSa => exact ⟨d0, c0⟩
        case resta =>
          refine AnyE.take (i := 0) (v := .pointer (some ⟨w.heap.size, 0, none⟩)) rfl (by kernel_rfl) (by kernel_rfl) (by kernel_rfl) (by kernel_rfl) (fun _ _ _ h => h) (Or.inl ⟨by rfl, ?hy0⟩) hHeld ?r0
          case hy0 => (intro w hSw; (try dsimp only at hSw); clear hSw; go_simp; try with_reducible rfl)
          try simp only [Act.put, List.setIfInBounds_toArray, List.set_cons_zero, List.set_cons_succ, List.getElem_toArray, List.getElem_cons_zero]
          refine AnyE.take (i := 1) (v := .pointer (some ⟨w.heap.size, 0, none⟩)) rfl (by kernel_rfl) (by kernel_rfl) (by kernel_rfl) (by kernel_rfl) (fun _ _ _ h => h) (Or.inl ⟨by rfl, ?hy1⟩) hHeld ?r1
          case hy1 => (intro w hSw; (try dsimp only at hSw); clear hSw; go_simp; try with_reducible rfl)
          try simp only [Act.put, List.setIfInBounds_toArray, List.set_cons_zero, List.set_cons_succ, List.getElem_toArray, List.getElem_cons_zero, List.getElem_cons_succ]
          refine AnyE.take (i := 2) (v := .pointer (some ⟨w.heap.size, 0, none⟩)) rfl (by kernel_rfl) (by kernel_rfl) (by kernel_rfl) (by kernel_rfl) (fun _ _ _ h => h) (Or.inl ⟨by rfl, ?hy2⟩) hHeld ?r2
          case hy2 => (intro w hSw; (try dsimp only at hSw); clear hSw; go_simp; try with_reducible rfl)
          try simp only [Act.put, List.setIfInBounds_toArray, List.set_cons_zero, List.set_cons_succ, List.getElem_toArray, List.getElem_cons_zero, List.getElem_cons_succ]
          refine AnyE.take (i := 3) (v := .pointer (some ⟨w.heap.size, 0, none⟩)) rfl (by kernel_rfl) (by kernel_rfl) (by kernel_rfl) (by kernel_rfl) (fun _ _ _ h => h) (Or.inl ⟨by rfl, ?hy3⟩) hHeld ?r3
          case hy3 => (intro w hSw; (try dsimp only at hSw); clear hSw; go_simp; try with_reducible rfl)
          try simp only [Act.put, List.setIfInBounds_toArray, List.set_cons_zero, List.set_cons_succ, List.getElem_toArray, List.getElem_cons_zero, List.getElem_cons_succ]
          refine AnyE.take (i := 4) (v := .slice oa i oc) rfl (by kernel_rfl) (by kernel_rfl) (by kernel_rfl) (by kernel_rfl) (fun _ _ _ h => h) (Or.inl ⟨by rfl, ?hy4⟩) hHeld ?r4
          case hy4 => (intro w hSw; obtain ⟨hS1, hS2⟩ := hSw; go_simp; try with_reducible rfl)
          try simp only [Act.put, List.setIfInBounds_toArray, List.set_cons_zero, List.set_cons_succ, List.getElem_toArray, List.getElem_cons_zero, List.getElem_cons_succ]
          refine AnyE.take (i := 5) (v := .slice (some ⟨ib, off, none⟩) n cap) rfl (by kernel_rfl) (by kernel_rfl) (by kernel_rfl) (by kernel_rfl) (fun _ _ _ h => h) (Or.inl ⟨by rfl, ?hy5⟩) hHeld ?r5
          case hy5 => (intro w hSw; (try dsimp only at hSw); clear hSw; go_simp; try with_reducible rfl)
          try simp only [Act.put, List.setIfInBounds_toArray, List.set_cons_zero, List.set_cons_succ, List.getElem_toArray, List.getElem_cons_zero, List.getElem_cons_succ]
          refine AnyE.take (i := 6) (v := .int .i64 (i : Int)) rfl (by kernel_rfl) (by kernel_rfl) (by kernel_rfl) (by kernel_rfl) (fun _ _ _ h => h) (Or.inl ⟨by rfl, ?hy6⟩) hHeld ?r6
          case hy6 => (intro w hSw; (try dsimp only at hSw); clear hSw; go_simp; try with_reducible rfl)
          try simp only [Act.put, List.setIfInBounds_toArray, List.set_cons_zero, List.set_cons_succ, List.getElem_toArray, List.getElem_cons_zero, List.getElem_cons_succ]
          refine AnyE.take (i := 7) (v := .pointer (some ⟨ib, off + i, none⟩)) rfl (by kernel_rfl) (by kernel_rfl) (by kernel_rfl) (by kernel_rfl) (fun _ _ _ h => h) (Or.inl ⟨by rfl, ?hy7⟩) hHeld ?r7
          case hy7 => (intro w hSw; (try dsimp only at hSw); clear hSw; go_simp; try with_reducible rfl)
          try simp only [Act.put, List.setIfInBounds_toArray, List.set_cons_zero, List.set_cons_succ, List.getElem_toArray, List.getElem_cons_zero, List.getElem_cons_succ]
          refine AnyE.take (i := 8) (v := .slice va 64 vc) rfl (by kernel_rfl) (by kernel_rfl) (by kernel_rfl) (by kernel_rfl) (fun _ _ _ h => h) (Or.inl ⟨by rfl, ?hy8⟩) hHeld ?r8
          case hy8 => (intro w hSw; obtain ⟨hS1, hS2⟩ := hSw; go_simp; try with_reducible rfl)
          try simp only [Act.put, List.setIfInBounds_toArray, List.set_cons_zero, List.set_cons_succ, List.getElem_toArray, List.getElem_cons_zero, List.getElem_cons_succ]
          refine AnyE.ready (rs := [9]) (by kernel_rfl) (by simp) ?_
          refine (ReadyE.cons rfl (fun K hK => ?_) ReadyE.nil)
          go_simp
          refine hK.out _ _ ?hS9 (fun hHeld => ?r9)
          case hS9 => exact ⟨d0, c0⟩
          clear hK K
          try simp only [Act.put, List.setIfInBounds_toArray, List.set_cons_zero, List.set_cons_succ, List.getElem_toArray, List.getElem_cons_zero, List.getElem_cons_succ]
          obtain ⟨w5, hw5⟩ : ∃ w5, wr.drew = w5 := ⟨_, rfl⟩
          have B5 : Hid (Below wr.heap.size wr w5) := by rw [← hw5]; exact (Below.refl _ _).drew
          have LI : Hid (ib < wr.heap.size) := Nat.lt_of_lt_of_le hib BW.out.size
          rw [hw5]
          clear hw5 cv0 hHeld
          have B7 : Hid (Below wr.heap.size wr (w5.alloc (.cells #[.string (strOfNums x)] 9))) := B5.out.trans ((below1 w5 _).mono B5.out.size)
          have c7 : Hid ((w5.alloc (.cells #[.string (strOfNums x)] 9)).cell? ⟨w.heap.size, 0, none⟩ = some (.slice oa i oc)) := (B7.out.cell (p := ⟨w.heap.size, 0, none⟩) lb.out).trans d0
          have N7 : Hid ((w5.alloc (.cells #[.string (strOfNums x)] 9)).cell? ⟨w5.heap.size, 0, none⟩ = some (sT x)) := by
            rw [cell_of_row _ w5.heap.size 0 _ _ (0, 0) (heap_alloc_new w5 _)]
            rfl
          refine AnyE.ready (rs := [10]) (by kernel_rfl) (by simp) ?_
          refine (ReadyE.cons rfl (fun K hK => ?_) ReadyE.nil)
          go_simp
          refine hK.out _ _ ?hS10 (fun hHeld => ?r10)
          case hS10 => exact ⟨c7.out, (B7.out.cell (p := ⟨ib, off + i, none⟩) LI.out).trans c0⟩
          clear hK K
          try simp only [Act.put, List.setIfInBounds_toArray, List.set_cons_zero, List.set_cons_succ, List.getElem_toArray, List.getElem_cons_zero, List.getElem_cons_succ]
          refine AnyE.ready (rs := [11]) (by kernel_rfl) (by simp) ?_
          refine (ReadyE.cons rfl (fun K hK => ?_) ReadyE.nil)
          refine wp_textT (.tmp 32) (.tmp 38) rfl w.heap.size (.slice oa i oc) (firstM M i) rfl (PR.out.2.1.keep B7.out) w5.heap.size 1 x rfl N7.out (by rw [firstM_len]; omega) (Nat.le_trans BW.out.size B7.out.size) ?_
          intro g' c' w9 o9 hg9 hat
          have ln : (firstM M i).length = i := firstM_len M i
          have O9 : Hid (RowT w9 w.heap.size (.slice (some ⟨g', 0, none⟩) (i + 1) c') (firstM M (i + 1)) ∧ w.heap.size < g') := by
            have e : firstM M i ++ [x] = firstM M (i + 1) := by rw [← HX.out]; exact firstM_succ M i
            rw [ln, e] at o9
            refine ⟨o9, ?_⟩
            have := (o9.own g' rfl).1
            rcases hat with e | e
            · have := (PR.out.1.off.1 g' e).1; omega
            · have := B7.out.size; have := lb.out; omega
          have X9 : Hid (w9.heap[w.heap.size]? = some (.cells #[.slice oa i oc, .slice none 0 0, .int .i64 (-1), .bool false, .int .i64 0] 51)) := (hg9.block _ (Nat.lt_of_lt_of_le lb.out B7.out.size) (fun e => (PR.out.1.off.1 _ e.symm).1 rfl)).trans ((B7.out.block _ lb.out).trans PR.out.1.cell)
          have B9 : Hid (Below w.heap.size w w9) := (BW.out.trans (B7.out.mono BW.out.size)).grown hg9 (Nat.le_trans BW.out.size B7.out.size) (fun k e => (PR.out.2.1.own k e).1)
          have c9 : Hid (w9.cell? ⟨w.heap.size, 0, none⟩ = some (.slice oa i oc)) := (r5_of X9.out).1
          have C9 : Hid (w9.cell? ⟨ib, off + i, none⟩ = some (.slice va 64 vc)) := (B9.out.cell (p := ⟨ib, off + i, none⟩) hib).trans c00
          rw [ln]
          clear o9 hg9 hat
          refine hK.out _ _ ?hS11 (fun hHeld => ?r11)
          case hS11 => exact ⟨c9.out, C9.out⟩
          clear hK K
          try simp only [Act.put, List.setIfInBounds_toArray, List.set_cons_zero, List.set_cons_succ, List.getElem_toArray, List.getElem_cons_zero, List.getElem_cons_succ]
          refine AnyE.ready (rs := [12]) (by kernel_rfl) (by simp) ?_
          refine (ReadyE.cons rfl (fun K hK => ?_) ReadyE.nil)
          go_simp
          refine hK.out _ _ ?hS12 (fun hHeld => ?r12)
          case hS12 => exact ⟨c9.out, C9.out⟩
          clear hK K
          try simp only [Act.put, List.setIfInBounds_toArray, List.set_cons_zero, List.set_cons_succ, List.getElem_toArray, List.getElem_cons_zero, List.getElem_cons_succ]
          refine AnyE.ready (rs := [13]) (by kernel_rfl) (by simp) ?_
          refine (ReadyE.cons rfl (fun K hK => ?_) ReadyE.nil)
          go_simp
          refine hK.out _ _ ?hS13 (fun hHeld => ?r13)
          case hS13 => exact ⟨c9.out, C9.out⟩
          clear hK K
          try simp only [Act.put, List.setIfInBounds_toArray, List.set_cons_zero, List.set_cons_succ, List.getElem_toArray, List.getElem_cons_zero, List.getElem_cons_succ]
          refine AnyE.ready (rs := [14]) (by kernel_rfl) (by simp) ?_
          refine ReadyE.last rfl (by simp) (fun K hK => ?_) ReadyE.nil
          refine wp_store_val 37 (.tmp 41) (.tmp 39) rfl w.heap.size 0 (.slice (some ⟨g', 0, none⟩) (i + 1) c') rfl rfl rfl rfl (by rw [c9.out]; rfl) (frozen_not X9.out 0) (by kernel_rfl) ?_
          have G10 := grown_set w9 w.heap.size 0 (.slice (some ⟨g', 0, none⟩) (i + 1) c')
          have R10 : RowT (w9.setCell ⟨w.heap.size, 0, none⟩ (.slice (some ⟨g', 0, none⟩) (i + 1) c')) w.heap.size (.slice (some ⟨g', 0, none⟩) (i + 1) c') (firstM M (i + 1)) := O9.out.1.kept fun k hk => by
            have e : g' = k := by simpa [Value.ownBlock] using hk
            subst e
            exact G10.block _ (O9.out.1.own g' rfl).2 (by have := O9.out.2; simp; omega)
          have P10 : Hid (RkP (w9.setCell ⟨w.heap.size, 0, none⟩ (.slice (some ⟨g', 0, none⟩) (i + 1) c')) w.heap.size (firstM M (i + 1)) [] false 0 (-1) (.slice (some ⟨g', 0, none⟩) (i + 1) c') (.slice none 0 0) ∧ RowT (w9.setCell ⟨w.heap.size, 0, none⟩ (.slice (some ⟨g', 0, none⟩) (i + 1) c')) w.heap.size (.slice (some ⟨g', 0, none⟩) (i + 1) c') (firstM M (i + 1)) ∧ ∀ j, j < i + 1 → (M j).length = 64) := by
            refine ⟨⟨set_own w9 w.heap.size 0 _ _ X9.out _, ⟨R10.1, ?_⟩, OwnN.nil _ _⟩, R10, fun j hj => by
              by_cases e : j = i
              · rw [e]; exact R2.out
              · exact PR.out.2.2 j (by omega)⟩
            rcases R10.2 with h | ⟨g, c, cur, e, _, rest⟩
            · exact .inl h
            · exact .inr ⟨g, c, cur, e, Nat.zero_le _, rest⟩
          have B10 : Hid (Below w.heap.size w (w9.setCell ⟨w.heap.size, 0, none⟩ (.slice (some ⟨g', 0, none⟩) (i + 1) c'))) := B9.out.grown G10 B9.out.size (fun k e => by have := Option.some.inj e; omega)
          refine hK.out _ _ ?_
          clear hK K
          try simp only [Act.put, List.setIfInBounds_toArray, List.set_cons_zero, List.set_cons_succ, List.getElem_toArray, List.getElem_cons_zero, List.getElem_cons_succ]
          refine AnyE.done (by kernel_rfl) ?_ _
          go_wp2_with fail
          go_roundg (n - (i + 1))
          case measure => omega
          case rel => exact ⟨i + 1, some ⟨g', 0, none⟩, c', by omega, rfl, by simp, P10, B10⟩
      · have e1 : ((vl : Int) != 64) = true := by simp; omega
        go_wp2_with fail
        go_ret2
        exact ⟨BW.out, .inl ⟨⟨i, hi, by rw [r2]; exact hl⟩, rfl⟩⟩
    · have g1 : decide ((i : Int) < (n : Int)) = false := by rw [decide_eq_false_iff_not]; omega
      obtain rfl : i = n := by omega
      go_wp2_with fail
      go_ret2
      refine ⟨BW.out, .inr ⟨PR.out.2.2, w.heap.size, RFp w.heap.size (.slice oa i oc) (.slice none 0 0), rfl, ⟨[], _, _, PR.out.1, fun _ => Iff.rfl, fun _ => rfl, ⟨by rw [show (Ds.of M i).D.length = i from firstM_len M i]; exact h1, by rw [show (Ds.of M i).D.length = i from firstM_len M i]; exact h2⟩, Nat.zero_le _, ⟨Int.le_refl _, Int.le_refl _⟩, by show (-1 : Int) ≤ _; omega⟩, fun k hk => ?_⟩⟩
      rcases hk with e | e | e
      · omega
      · exact (PR.out.2.1.own k e).1
      · simp [Value.ownBlock] at e
end Go.Proofs.YtkhopmlhinkpcaaGreat
namespace Go.Proofs.YtkhopmlhinkpcaaGreat
open Go.ChangeShapes Go.WideShapes Go.ChangeAt Go.RowKit Go.Deep Go.Maps
set_option linter.unusedVariables false
theorem Pw.below {w wr : World} {bp d r N : Nat} {s : Ds} {o : Option Lg} (h : Pw w wr bp d r N s o) : Below w.heap.size w wr := by
  obtain ⟨vl, vq, F, F2, G, G2, p⟩ := h
  exact p.bel
set_option maxRecDepth 100000 in
set_option maxHeartbeats 8000000 in
theorem walOpens_walk (a : Option Addr) (len cap : Nat) (V : Nat → Option Addr × Nat × Nat) (M : Nat → List Int) (w : World) (hI : In2 w a len V M) (hl24 : len * 24 ≤ 140737488351232) (hR : ∀ i, i < len → (M i).length ≤ 140737488351232) (hlc : len ≤ cap) :
    Calls Tryz.prog 4 #[.slice a len cap] w fun e w' => e = .returned (.bool true) ∧ Below w.heap.size w w' := by
  have KW : Hid (∀ W, Calls Tryz.prog 7 #[] W fun e w' => e = .returned (.bool true) ∧ Below W.heap.size W w') := works_true
  clear hR
  go_enter Tryz.func4, Tryz.ntmps4
  by_cases h60 : 60 < len
  · have g1 : decide (60 < (len : Int)) = true := by rw [decide_eq_true_eq]; omega
    obtain ⟨ib0, off0, rfl, hib0, _⟩ := hI.1 (by omega)
    have HI : Hid (In2 w (some ⟨ib0, off0, none⟩) 60 V M) := hI.less (by omega)
    have HM : Hid (60 ≤ 4096) := by show 60 ≤ 4096; omega
    have h5c : 60 ≤ cap := by omega
    clear hI hl24 hlc hib0
    by_cases hm : 1 ≤ 60
    · by_cases h64 : ∀ i, i < 60 → (M i).length = 64
      · have KO : Hid (Calls Tryz.prog 11 #[.slice (some ⟨ib0, off0, none⟩) 60 cap] w fun e w' => Below w.heap.size w w' ∧ ∃ b F, e = .returned (.tuple #[.pointer (some ⟨b, 0, none⟩), .int .i64 0]) ∧ Dk w' F b 0 (Ds.of M 60) ∧ ∀ k, F k → w.heap.size ≤ k) := by
          refine (of_is (some ⟨ib0, off0, none⟩) 60 cap V M w hm HM.out HI.out).mono ?_
          rintro e w' ⟨hb, ⟨⟨i, hi, h⟩, _⟩ | ⟨_, h⟩⟩
          · exact absurd (h64 i hi) h
          · exact ⟨hb, h⟩
        have KR : Hid (∀ W, Below w.heap.size w W → Calls Tryz.prog 12 #[.slice (some ⟨ib0, off0, none⟩) 60 cap] W fun e w' => Below W.heap.size W w' ∧ ∃ b F, e = .returned (.tuple #[.pointer (some ⟨b, 0, none⟩), .int .i64 0]) ∧ Rk w' F b 0 (Ds.of M 60) ∧ ∀ k, F k → W.heap.size ≤ k) := fun W hbW => by
          refine (rof_is (some ⟨ib0, off0, none⟩) 60 cap V M W hm HM.out (HI.out.below hbW)).mono ?_
          rintro e w' ⟨hb, ⟨⟨i, hi, h⟩, _⟩ | ⟨_, h⟩⟩
          · exact absurd (h64 i hi) h
          · exact ⟨hb, h⟩
        clear hm h64
        go_wp2_with fail
        refine KO.out.mono ?_
        rintro e w1 ⟨hb1, d, F1, rfl, hd1, hF1⟩
        have D1 : Hid (Dk w1 F1 d 0 (Ds.of M 60) ∧ (∀ k, F1 k → w.heap.size ≤ k)) := ⟨hd1, hF1⟩
        have BW1 : Hid (Below w.heap.size w w1) := hb1
        clear hb1 hd1 hF1 KO
        go_wp2_with fail
        refine (KR.out w1 BW1.out).mono ?_
        rintro e w2 ⟨hb2, r, F2, rfl, hr, hF2⟩
        obtain ⟨w3, hw3⟩ : ∃ w3, w2.alloc (.cells #[.pointer (some ⟨d, 0, none⟩), .pointer (some ⟨r, 0, none⟩), .pointer none, .pointer none] 35) = w3 := ⟨_, rfl⟩
        have W3E : Hid (w2.alloc (.cells #[.pointer (some ⟨d, 0, none⟩), .pointer (some ⟨r, 0, none⟩), .pointer none, .pointer none] 35) = w3) := hw3
        obtain ⟨s, hs⟩ : ∃ s, Ds.of M 60 = s := ⟨_, rfl⟩
        have PW : Hid (Pw w w3 w2.heap.size d r 0 s none) := by
          rw [← hs, ← hw3]
          exact pw_new (D1.out.1.keep hb2) hr (fun k h1 h2 => by have := D1.out.1.lt k h1; have := hF2 k h2; omega) (fun k hk => hk.elim (D1.out.2 k) (fun h => Nat.le_trans BW1.out.size (hF2 k h))) (BW1.out.trans (hb2.mono BW1.out.size))
        obtain ⟨bp, hbp⟩ : ∃ bp, w2.heap.size = bp := ⟨_, rfl⟩
        have BPE : Hid (w2.heap.size = bp) := hbp
        rw [hbp] at PW
        have KOp : Hid (Calls Tryz.prog 8 #[.pointer (some ⟨bp, 0, none⟩)] w3 fun e w' => e = .returned (.bool true) ∧ Pw w w' bp d r 2 s.opn.2.2 s.opn.2.1) := pw_open PW.out (by omega)
        have HAM : Hid (∀ l, s.opn.2.1 = some l → l.m = s.opn.2.2.am ∧ 2 ≤ s.opn.2.2.D.length) := fun l h => opn_am h
        generalize s.opn = X at *
        clear hb2 hr hF2 D1 KR hs hw3 hbp PW
        go_wp2_with fail
        rw [show World.alloc _ _ = w3 from W3E.out, BPE.out]
        refine KOp.out.mono ?_
        rintro e w4 ⟨rfl, t4⟩
        have T4 : Hid (Pw w w4 bp d r 2 X.2.2 X.2.1) := t4
        clear t4 KOp
        have KS : Hid (Calls Tryz.prog 9 #[.pointer (some ⟨bp, 0, none⟩)] w4 fun e w' => e = .returned (.bool true) ∧ Below w4.heap.size w4 w') := pw_same T4.out (by omega) HAM.out
        go_wp2_with fail
        refine KS.out.mono ?_
        rintro e w5 ⟨rfl, hb5⟩
        have B5 : Hid (Below w.heap.size w w5) := (T4.out.keep hb5).below
        clear hb5 KS
        go_wp2_with fail
        refine (KW.out _).mono ?_
        rintro e wl ⟨rfl, hbl⟩
        have BL : Hid (Below w.heap.size w wl) := B5.out.trans (hbl.mono B5.out.size)
        clear hbl
        go_wp2_with fail
        go_ret
        exact ⟨rfl, BL.out⟩
      · obtain ⟨i0, hi0, hl0⟩ : ∃ i, i < 60 ∧ (M i).length ≠ 64 := by
          refine Classical.byContradiction fun hne => h64 fun i hi => ?_
          exact Classical.byContradiction fun h => hne ⟨i, hi, h⟩
        have KO : Hid (Calls Tryz.prog 11 #[.slice (some ⟨ib0, off0, none⟩) 60 cap] w fun e w' => Below w.heap.size w w' ∧ e = .returned (.tuple #[.pointer none, .int .i64 2])) := by
          refine (of_is (some ⟨ib0, off0, none⟩) 60 cap V M w hm HM.out HI.out).mono ?_
          rintro e w' ⟨hb, ⟨_, h⟩ | ⟨h, _⟩⟩
          · exact ⟨hb, h⟩
          · exact absurd (h i0 hi0) hl0
        have KR : Hid (∀ W, Below w.heap.size w W → Calls Tryz.prog 12 #[.slice (some ⟨ib0, off0, none⟩) 60 cap] W fun e w' => Below W.heap.size W w' ∧ e = .returned (.tuple #[.pointer none, .int .i64 2])) := fun W hbW => by
          refine (rof_is (some ⟨ib0, off0, none⟩) 60 cap V M W hm HM.out (HI.out.below hbW)).mono ?_
          rintro e w' ⟨hb, ⟨_, h⟩ | ⟨h, _⟩⟩
          · exact ⟨hb, h⟩
          · exact absurd (h i0 hi0) hl0
        clear hm h64 hi0 hl0
        go_wp2_with fail
        refine KO.out.mono ?_
        rintro e w1 ⟨hb1, rfl⟩
        have BW1 : Hid (Below w.heap.size w w1) := hb1
        clear hb1
        go_wp2_with fail
        refine (KR.out w1 BW1.out).mono ?_
        rintro e w2 ⟨hb2, rfl⟩
        have BW2 : Hid (Below w.heap.size w w2) := BW1.out.trans (hb2.mono BW1.out.size)
        clear hb2
        go_wp2_with fail
        refine (KW.out _).mono ?_
        rintro e wl ⟨rfl, hbl⟩
        have BL : Hid (Below w.heap.size w wl) := BW2.out.trans (hbl.mono BW2.out.size)
        clear hbl
        go_wp2_with fail
        go_ret
        exact ⟨rfl, BL.out⟩
    · have KO : Hid (Calls Tryz.prog 11 #[.slice (some ⟨ib0, off0, none⟩) 60 cap] w fun e w' => Below w.heap.size w w' ∧ e = .returned (.tuple #[.pointer none, .int .i64 2])) := by
        refine (of_bad (some ⟨ib0, off0, none⟩) 60 cap (by omega) w).mono ?_
        rintro e w' ⟨h, rfl⟩
        exact ⟨Below.refl _ _, h⟩
      have KR : Hid (∀ W, Below w.heap.size w W → Calls Tryz.prog 12 #[.slice (some ⟨ib0, off0, none⟩) 60 cap] W fun e w' => Below W.heap.size W w' ∧ e = .returned (.tuple #[.pointer none, .int .i64 2])) := fun W hbW => by
        refine (rof_bad (some ⟨ib0, off0, none⟩) 60 cap (by omega) W).mono ?_
        rintro e w' ⟨h, rfl⟩
        exact ⟨Below.refl _ _, h⟩
      clear hm
      go_wp2_with fail
      refine KO.out.mono ?_
      rintro e w1 ⟨hb1, rfl⟩
      have BW1 : Hid (Below w.heap.size w w1) := hb1
      clear hb1
      go_wp2_with fail
      refine (KR.out w1 BW1.out).mono ?_
      rintro e w2 ⟨hb2, rfl⟩
      have BW2 : Hid (Below w.heap.size w w2) := BW1.out.trans (hb2.mono BW1.out.size)
      clear hb2
      go_wp2_with fail
      refine (KW.out _).mono ?_
      rintro e wl ⟨rfl, hbl⟩
      have BL : Hid (Below w.heap.size w wl) := BW2.out.trans (hbl.mono BW2.out.size)
      clear hbl
      go_wp2_with fail
      go_ret
      exact ⟨rfl, BL.out⟩
  · have g1 : decide (60 < (len : Int)) = false := by rw [decide_eq_false_iff_not]; omega
    have HI : Hid (In2 w a len V M) := hI
    have HM : Hid (len ≤ 4096) := by show len ≤ 4096; omega
    clear hI hl24 hlc
    by_cases hm : 1 ≤ len
    · by_cases h64 : ∀ i, i < len → (M i).length = 64
      · have KO : Hid (Calls Tryz.prog 11 #[.slice a len cap] w fun e w' => Below w.heap.size w w' ∧ ∃ b F, e = .returned (.tuple #[.pointer (some ⟨b, 0, none⟩), .int .i64 0]) ∧ Dk w' F b 0 (Ds.of M len) ∧ ∀ k, F k → w.heap.size ≤ k) := by
          refine (of_is a len cap V M w hm HM.out HI.out).mono ?_
          rintro e w' ⟨hb, ⟨⟨i, hi, h⟩, _⟩ | ⟨_, h⟩⟩
          · exact absurd (h64 i hi) h
          · exact ⟨hb, h⟩
        have KR : Hid (∀ W, Below w.heap.size w W → Calls Tryz.prog 12 #[.slice a len cap] W fun e w' => Below W.heap.size W w' ∧ ∃ b F, e = .returned (.tuple #[.pointer (some ⟨b, 0, none⟩), .int .i64 0]) ∧ Rk w' F b 0 (Ds.of M len) ∧ ∀ k, F k → W.heap.size ≤ k) := fun W hbW => by
          refine (rof_is a len cap V M W hm HM.out (HI.out.below hbW)).mono ?_
          rintro e w' ⟨hb, ⟨⟨i, hi, h⟩, _⟩ | ⟨_, h⟩⟩
          · exact absurd (h64 i hi) h
          · exact ⟨hb, h⟩
        clear hm h64
        go_wp2_with fail
        refine KO.out.mono ?_
        rintro e w1 ⟨hb1, d, F1, rfl, hd1, hF1⟩
        have D1 : Hid (Dk w1 F1 d 0 (Ds.of M len) ∧ (∀ k, F1 k → w.heap.size ≤ k)) := ⟨hd1, hF1⟩
        have BW1 : Hid (Below w.heap.size w w1) := hb1
        clear hb1 hd1 hF1 KO
        go_wp2_with fail
        refine (KR.out w1 BW1.out).mono ?_
        rintro e w2 ⟨hb2, r, F2, rfl, hr, hF2⟩
        obtain ⟨w3, hw3⟩ : ∃ w3, w2.alloc (.cells #[.pointer (some ⟨d, 0, none⟩), .pointer (some ⟨r, 0, none⟩), .pointer none, .pointer none] 35) = w3 := ⟨_, rfl⟩
        have W3E : Hid (w2.alloc (.cells #[.pointer (some ⟨d, 0, none⟩), .pointer (some ⟨r, 0, none⟩), .pointer none, .pointer none] 35) = w3) := hw3
        obtain ⟨s, hs⟩ : ∃ s, Ds.of M len = s := ⟨_, rfl⟩
        have PW : Hid (Pw w w3 w2.heap.size d r 0 s none) := by
          rw [← hs, ← hw3]
          exact pw_new (D1.out.1.keep hb2) hr (fun k h1 h2 => by have := D1.out.1.lt k h1; have := hF2 k h2; omega) (fun k hk => hk.elim (D1.out.2 k) (fun h => Nat.le_trans BW1.out.size (hF2 k h))) (BW1.out.trans (hb2.mono BW1.out.size))
        obtain ⟨bp, hbp⟩ : ∃ bp, w2.heap.size = bp := ⟨_, rfl⟩
        have BPE : Hid (w2.heap.size = bp) := hbp
        rw [hbp] at PW
        have KOp : Hid (Calls Tryz.prog 8 #[.pointer (some ⟨bp, 0, none⟩)] w3 fun e w' => e = .returned (.bool true) ∧ Pw w w' bp d r 2 s.opn.2.2 s.opn.2.1) := pw_open PW.out (by omega)
        have HAM : Hid (∀ l, s.opn.2.1 = some l → l.m = s.opn.2.2.am ∧ 2 ≤ s.opn.2.2.D.length) := fun l h => opn_am h
        generalize s.opn = X at *
        clear hb2 hr hF2 D1 KR hs hw3 hbp PW
        go_wp2_with fail
        rw [show World.alloc _ _ = w3 from W3E.out, BPE.out]
        refine KOp.out.mono ?_
        rintro e w4 ⟨rfl, t4⟩
        have T4 : Hid (Pw w w4 bp d r 2 X.2.2 X.2.1) := t4
        clear t4 KOp
        have KS : Hid (Calls Tryz.prog 9 #[.pointer (some ⟨bp, 0, none⟩)] w4 fun e w' => e = .returned (.bool true) ∧ Below w4.heap.size w4 w') := pw_same T4.out (by omega) HAM.out
        go_wp2_with fail
        refine KS.out.mono ?_
        rintro e w5 ⟨rfl, hb5⟩
        have B5 : Hid (Below w.heap.size w w5) := (T4.out.keep hb5).below
        clear hb5 KS
        go_wp2_with fail
        refine (KW.out _).mono ?_
        rintro e wl ⟨rfl, hbl⟩
        have BL : Hid (Below w.heap.size w wl) := B5.out.trans (hbl.mono B5.out.size)
        clear hbl
        go_wp2_with fail
        go_ret
        exact ⟨rfl, BL.out⟩
      · obtain ⟨i0, hi0, hl0⟩ : ∃ i, i < len ∧ (M i).length ≠ 64 := by
          refine Classical.byContradiction fun hne => h64 fun i hi => ?_
          exact Classical.byContradiction fun h => hne ⟨i, hi, h⟩
        have KO : Hid (Calls Tryz.prog 11 #[.slice a len cap] w fun e w' => Below w.heap.size w w' ∧ e = .returned (.tuple #[.pointer none, .int .i64 2])) := by
          refine (of_is a len cap V M w hm HM.out HI.out).mono ?_
          rintro e w' ⟨hb, ⟨_, h⟩ | ⟨h, _⟩⟩
          · exact ⟨hb, h⟩
          · exact absurd (h i0 hi0) hl0
        have KR : Hid (∀ W, Below w.heap.size w W → Calls Tryz.prog 12 #[.slice a len cap] W fun e w' => Below W.heap.size W w' ∧ e = .returned (.tuple #[.pointer none, .int .i64 2])) := fun W hbW => by
          refine (rof_is a len cap V M W hm HM.out (HI.out.below hbW)).mono ?_
          rintro e w' ⟨hb, ⟨_, h⟩ | ⟨h, _⟩⟩
          · exact ⟨hb, h⟩
          · exact absurd (h i0 hi0) hl0
        clear hm h64 hi0 hl0
        go_wp2_with fail
        refine KO.out.mono ?_
        rintro e w1 ⟨hb1, rfl⟩
        have BW1 : Hid (Below w.heap.size w w1) := hb1
        clear hb1
        go_wp2_with fail
        refine (KR.out w1 BW1.out).mono ?_
        rintro e w2 ⟨hb2, rfl⟩
        have BW2 : Hid (Below w.heap.size w w2) := BW1.out.trans (hb2.mono BW1.out.size)
        clear hb2
        go_wp2_with fail
        refine (KW.out _).mono ?_
        rintro e wl ⟨rfl, hbl⟩
        have BL : Hid (Below w.heap.size w wl) := BW2.out.trans (hbl.mono BW2.out.size)
        clear hbl
        go_wp2_with fail
        go_ret
        exact ⟨rfl, BL.out⟩
    · have KO : Hid (Calls Tryz.prog 11 #[.slice a len cap] w fun e w' => Below w.heap.size w w' ∧ e = .returned (.tuple #[.pointer none, .int .i64 2])) := by
        refine (of_bad a len cap (by omega) w).mono ?_
        rintro e w' ⟨h, rfl⟩
        exact ⟨Below.refl _ _, h⟩
      have KR : Hid (∀ W, Below w.heap.size w W → Calls Tryz.prog 12 #[.slice a len cap] W fun e w' => Below W.heap.size W w' ∧ e = .returned (.tuple #[.pointer none, .int .i64 2])) := fun W hbW => by
        refine (rof_bad a len cap (by omega) W).mono ?_
        rintro e w' ⟨h, rfl⟩
        exact ⟨Below.refl _ _, h⟩
      clear hm
      go_wp2_with fail
      refine KO.out.mono ?_
      rintro e w1 ⟨hb1, rfl⟩
      have BW1 : Hid (Below w.heap.size w w1) := hb1
      clear hb1
      go_wp2_with fail
      refine (KR.out w1 BW1.out).mono ?_
      rintro e w2 ⟨hb2, rfl⟩
      have BW2 : Hid (Below w.heap.size w w2) := BW1.out.trans (hb2.mono BW1.out.size)
      clear hb2
      go_wp2_with fail
      refine (KW.out _).mono ?_
      rintro e wl ⟨rfl, hbl⟩
      have BL : Hid (Below w.heap.size w wl) := BW2.out.trans (hbl.mono BW2.out.size)
      clear hbl
      go_wp2_with fail
      go_ret
      exact ⟨rfl, BL.out⟩
end Go.Proofs.YtkhopmlhinkpcaaGreat
