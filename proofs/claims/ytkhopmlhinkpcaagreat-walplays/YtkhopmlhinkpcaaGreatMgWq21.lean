/- The statements' own same (veneerlaw10): both have the same. -/
import Derived.Test.YtkhopmlhinkpcaaGreatMgWq20
import Derived.BigQuiet
import Derived.Deep.DeepCutAuto
import Derived.Deep.QuietTactic
namespace Go.Proofs.YtkhopmlhinkpcaaGreat
open Go.ChangeShapes Go.WideShapes Go.ChangeAt Go.RowKit Go.Deep Go.Maps
set_option linter.unusedVariables false
set_option linter.unusedSimpArgs false
theorem RowsS.store {w : World} {base g n c : Nat} {l : List (List Int)} (h : RowsS w base (.slice (some ⟨g, 0, none⟩) n c) l) (hn : l.length = n) (i : Nat) (y : List Int) : RowsS (w.setCell ⟨g, i, none⟩ (.string (strOfNums y))) base (.slice (some ⟨g, 0, none⟩) n c) (l.set i y) := by
  subst hn
  unfold RowsS
  rw [List.length_set, show sV (l.set i y) = (sV l).set i (.string (strOfNums y)) by unfold sV; rw [List.map_set]]
  exact (World.ownsRow.stored h i (.string (strOfNums y))).1
theorem PwL.keep {wr w' : World} {d r N : Nat} {o : Option Lg} {vl vq : Value} {G G2 : Nat → Prop} (h : PwL wr d r N o vl vq G G2) (hb : Below wr.heap.size wr w') : PwL w' d r N o vl vq G G2 := by
  cases o with
  | none => exact h
  | some l =>
    obtain ⟨bl, bq, h1, h2, h3, h4, h5⟩ := h
    exact ⟨bl, bq, h1, h2, h3.keep hb, h4.keep hb, h5⟩
theorem PwP.keep {w wr w' : World} {bp d r N : Nat} {s : Ds} {o : Option Lg} {vl vq : Value} {F F2 G G2 : Nat → Prop} (h : PwP w wr bp d r N s o vl vq F F2 G G2) (hb : Below wr.heap.size wr w') : PwP w w' bp d r N s o vl vq F F2 G G2 :=
  ⟨h.dk.keep hb, Rk.keep h.rk hb, h.lg.keep hb, (hb.block bp (Array.getElem?_eq_some_iff.1 h.box).1).trans h.box, h.x1, h.x2, h.x3, h.nb, h.fr, h.hb, h.bel.trans (hb.mono h.bel.size)⟩
theorem Pw.keep {w wr w' : World} {bp d r N : Nat} {s : Ds} {o : Option Lg} (h : Pw w wr bp d r N s o) (hb : Below wr.heap.size wr w') : Pw w w' bp d r N s o := by
  obtain ⟨vl, vq, F, F2, G, G2, p⟩ := h
  exact ⟨vl, vq, F, F2, G, G2, p.keep hb⟩
set_option maxRecDepth 100000 in
set_option maxHeartbeats 8000000 in
theorem pw_same {w wz : World} {bp d r N : Nat} {s : Ds} {o : Option Lg} (T : Pw w wz bp d r N s o) (hN : N ≤ 999000) (hm : ∀ l, o = some l → l.m = s.am ∧ 2 ≤ s.D.length) :
    Calls Tryz.prog 9 #[.pointer (some ⟨bp, 0, none⟩)] wz fun e w' => e = .returned (.bool true) ∧ Below wz.heap.size wz w' := by
  obtain ⟨vl, vq, F, F2, G, G2, pp⟩ := T
  have HP : Hid (PwP w wz bp d r N s o vl vq F F2 G G2) := pp
  have HM : Hid (∀ l, o = some l → l.m = s.am ∧ 2 ≤ s.D.length) := hm
  obtain ⟨L, vB, vL', rp, hF, h1, hl, h3, h4, h5⟩ := pp.rk
  obtain ⟨c0, c1, c2, c3, c4⟩ := r5_of rp.cell
  obtain ⟨aB, cB, hvB⟩ := rp.dur.form
  subst hvB
  obtain ⟨n, hn⟩ : ∃ n, s.D.length = n := ⟨_, rfl⟩
  have eR := rp.dur
  rw [hn] at c0 eR
  obtain ⟨up, hup⟩ : ∃ u, s.up = u := ⟨_, rfl⟩
  obtain ⟨dn, hdn⟩ : ∃ u, s.dn = u := ⟨_, rfl⟩
  rw [hup] at c3
  rw [hdn] at c4
  have hrl : r < wz.heap.size := (Array.getElem?_eq_some_iff.1 rp.cell).1
  have hbl : bp < wz.heap.size := (Array.getElem?_eq_some_iff.1 pp.box).1
  obtain ⟨q0, q1, q2, q3, _⟩ := pbox pp.box
  have CC : Hid (∀ W, Below wz.heap.size wz W → W.cell? ⟨bp, 0, none⟩ = some (.pointer (some ⟨d, 0, none⟩)) ∧ W.cell? ⟨bp, 1, none⟩ = some (.pointer (some ⟨r, 0, none⟩)) ∧ W.cell? ⟨r, 0, none⟩ = some (.slice aB n cB) ∧ W.cell? ⟨r, 3, none⟩ = some (.bool (!up)) ∧ W.cell? ⟨r, 4, none⟩ = some (.int .i64 dn)) := fun W hb => ⟨(hb.cell (p := ⟨bp, 0, none⟩) hbl).trans q0, (hb.cell (p := ⟨bp, 1, none⟩) hbl).trans q1, (hb.cell (p := ⟨r, 0, none⟩) hrl).trans c0, (hb.cell (p := ⟨r, 3, none⟩) hrl).trans c3, (hb.cell (p := ⟨r, 4, none⟩) hrl).trans c4⟩
  have CQ : Hid (∀ W, Below wz.heap.size wz W → W.cell? ⟨bp, 2, none⟩ = some vl ∧ W.cell? ⟨bp, 3, none⟩ = some vq) := fun W hb => ⟨(hb.cell (p := ⟨bp, 2, none⟩) hbl).trans q2, (hb.cell (p := ⟨bp, 3, none⟩) hbl).trans q3⟩
  have RT : Hid (∀ W, Below wz.heap.size wz W → RowT W 0 (.slice aB n cB) s.D) := fun W hb => eR.keep hb
  have HN : Hid (s.D.length = n ∧ n ≤ 4096) := ⟨hn, by rw [← hn]; exact hl.2⟩
  have KI : Hid (Calls Tryz.prog 24 #[.pointer (some ⟨d, 0, none⟩)] wz fun e w' => ∃ go V, e = .returned (.slice (some ⟨go, 0, none⟩) n n) ∧ V.length = n ∧ Img w' wz.heap.size go n V s.D ∧ Below wz.heap.size wz w') := by
    have k := dk_image wz F d N s pp.dk
    rw [hn] at k
    exact k
  have KD : Hid (∀ W, Below wz.heap.size wz W → Calls Tryz.prog 25 #[.pointer (some ⟨d, 0, none⟩)] W fun e w' => e = .returned (.int .i64 dn) ∧ w' = W) := fun W hb => by
    have k := dk_done W F d N s (HP.out.dk.keep hb)
    rw [hdn] at k
    exact k
  have KU : Hid (∀ W, Below wz.heap.size wz W → Calls Tryz.prog 26 #[.pointer (some ⟨d, 0, none⟩)] W fun e w' => e = .returned (.bool up) ∧ w' = W) := fun W hb => by
    have k := dk_up W F d N s (HP.out.dk.keep hb)
    rw [hup] at k
    exact k
  have HUp : Hid ((up == !up) = false) := by cases up <;> rfl
  clear pp rp hF h1 hl h3 h4 h5 c0 c1 c2 c3 c4 eR hn hup hdn q1 q2 q3 hm hrl hbl
  go_enter Tryz.func9, Tryz.ntmps9
  go_wp2_with fail
  refine KI.out.mono ?_
  rintro e w1 ⟨go, V, rfl, hV, hI, hb⟩
  have BW1 : Hid (Below wz.heap.size wz w1) := hb
  have HV : Hid (V.length = n) := hV
  have IM : Hid (Img w1 wz.heap.size go n V s.D) := hI
  have BWd : Hid (Below wz.heap.size wz w1.drew) := hb.trans ((below_drewN (Below.refl _ _) 1).mono hb.size)
  clear hV hI hb q0
  go_upto_region 2 with fail
  go_cut [53] (fun c wx => c = .bool false ∧ Hid (Below w1.heap.size w1 wx))
  case first =>
    refine wp_region_noPanic ?_
    refine wp_region_held_drew (S := (fun W : World => W.cell? ⟨bp, 0, none⟩ = some (.pointer (some ⟨d, 0, none⟩)) ∧ W.cell? ⟨bp, 1, none⟩ = some (.pointer (some ⟨r, 0, none⟩)) ∧ W.cell? ⟨r, 0, none⟩ = some (.slice aB n cB) ∧ W.cell? ⟨r, 3, none⟩ = some (.bool (!up)) ∧ W.cell? ⟨r, 4, none⟩ = some (.int .i64 dn))) (by kernel_rfl) ?hSaa (fun hHeld => ?restaa)
    case hSaa => exact CC.out _ BWd.out
    case restaa =>
      refine wpAnyH_take (i := 0) (v := .slice (some ⟨go, 0, none⟩) n n) rfl (by kernel_rfl) (by kernel_rfl) (by kernel_rfl) (fun _ _ _ h => h) (Or.inl ⟨by kernel_rfl, ?hy0a⟩) hHeld ?rest0a
      case hy0a => (intro w hSw; (try dsimp only at hSw); go_simp; try with_reducible rfl)
      try simp only [Act.put, List.setIfInBounds_toArray, List.set_cons_zero, List.set_cons_succ, List.getElem_toArray, List.getElem_cons_zero]
      refine wpAnyH_take (i := 1) (v := .int .i64 (n : Int)) rfl (by kernel_rfl) (by kernel_rfl) (by kernel_rfl) (fun _ _ _ h => h) (Or.inl ⟨by kernel_rfl, ?hy1a⟩) hHeld ?rest1a
      case hy1a => (intro w hSw; (try dsimp only at hSw); go_simp; try with_reducible rfl)
      try simp only [Act.put, List.setIfInBounds_toArray, List.set_cons_zero, List.set_cons_succ, List.getElem_toArray, List.getElem_cons_zero, List.getElem_cons_succ]
      refine wpAnyH_take (i := 2) (v := .pointer (some ⟨bp, 0, none⟩)) rfl (by kernel_rfl) (by kernel_rfl) (by kernel_rfl) (fun _ _ _ h => h) (Or.inl ⟨by kernel_rfl, ?hy2a⟩) hHeld ?rest2a
      case hy2a => (intro w hSw; (try dsimp only at hSw); go_simp; try with_reducible rfl)
      try simp only [Act.put, List.setIfInBounds_toArray, List.set_cons_zero, List.set_cons_succ, List.getElem_toArray, List.getElem_cons_zero, List.getElem_cons_succ]
      refine wpAnyH_take (i := 3) (v := .pointer (some ⟨bp, 0, none⟩)) rfl (by kernel_rfl) (by kernel_rfl) (by kernel_rfl) (fun _ _ _ h => h) (Or.inl ⟨by kernel_rfl, ?hy3a⟩) hHeld ?rest3a
      case hy3a => (intro w hSw; (try dsimp only at hSw); go_simp; try with_reducible rfl)
      try simp only [Act.put, List.setIfInBounds_toArray, List.set_cons_zero, List.set_cons_succ, List.getElem_toArray, List.getElem_cons_zero, List.getElem_cons_succ]
      refine wpAnyH_take (i := 4) (v := .pointer (some ⟨bp, 1, none⟩)) rfl (by kernel_rfl) (by kernel_rfl) (by kernel_rfl) (fun _ _ _ h => h) (Or.inl ⟨by kernel_rfl, ?hy4a⟩) hHeld ?rest4a
      case hy4a => (intro w hSw; (try dsimp only at hSw); go_simp; try with_reducible rfl)
      try simp only [Act.put, List.setIfInBounds_toArray, List.set_cons_zero, List.set_cons_succ, List.getElem_toArray, List.getElem_cons_zero, List.getElem_cons_succ]
      refine wpAnyH_take (i := 5) (v := .pointer (some ⟨r, 0, none⟩)) rfl (by kernel_rfl) (by kernel_rfl) (by kernel_rfl) (fun _ _ _ h => h) (Or.inl ⟨by kernel_rfl, ?hy5a⟩) hHeld ?rest5a
      case hy5a => (intro w hSw; (try dsimp only at hSw); go_simp; try with_reducible rfl)
      try simp only [Act.put, List.setIfInBounds_toArray, List.set_cons_zero, List.set_cons_succ, List.getElem_toArray, List.getElem_cons_zero, List.getElem_cons_succ]
      refine wpAnyH_take (i := 6) (v := .pointer (some ⟨r, 0, none⟩)) rfl (by kernel_rfl) (by kernel_rfl) (by kernel_rfl) (fun _ _ _ h => h) (Or.inl ⟨by kernel_rfl, ?hy6a⟩) hHeld ?rest6a
      case hy6a => (intro w hSw; (try dsimp only at hSw); go_simp; try with_reducible rfl)
      try simp only [Act.put, List.setIfInBounds_toArray, List.set_cons_zero, List.set_cons_succ, List.getElem_toArray, List.getElem_cons_zero, List.getElem_cons_succ]
      refine wpAnyH_take (i := 7) (v := .pointer (some ⟨r, 0, none⟩)) rfl (by kernel_rfl) (by kernel_rfl) (by kernel_rfl) (fun _ _ _ h => h) (Or.inl ⟨by kernel_rfl, ?hy7a⟩) hHeld ?rest7a
      case hy7a => (intro w hSw; (try dsimp only at hSw); go_simp; try with_reducible rfl)
      try simp only [Act.put, List.setIfInBounds_toArray, List.set_cons_zero, List.set_cons_succ, List.getElem_toArray, List.getElem_cons_zero, List.getElem_cons_succ]
      refine wpAnyH_take (i := 8) (v := .slice aB n cB) rfl (by kernel_rfl) (by kernel_rfl) (by kernel_rfl) (fun _ _ _ h => h) (Or.inl ⟨by kernel_rfl, ?hy8a⟩) hHeld ?rest8a
      case hy8a => (intro w hSw; (try dsimp only at hSw); go_simp; try with_reducible rfl)
      try simp only [Act.put, List.setIfInBounds_toArray, List.set_cons_zero, List.set_cons_succ, List.getElem_toArray, List.getElem_cons_zero, List.getElem_cons_succ]
      refine wpAnyH_take (i := 9) (v := .int .i64 (n : Int)) rfl (by kernel_rfl) (by kernel_rfl) (by kernel_rfl) (fun _ _ _ h => h) (Or.inl ⟨by kernel_rfl, ?hy9a⟩) hHeld ?rest9a
      case hy9a => (intro w hSw; (try dsimp only at hSw); go_simp; try with_reducible rfl)
      try simp only [Act.put, List.setIfInBounds_toArray, List.set_cons_zero, List.set_cons_succ, List.getElem_toArray, List.getElem_cons_zero, List.getElem_cons_succ]
      refine wpAnyH_take (i := 10) (v := .bool false) rfl (by kernel_rfl) (by kernel_rfl) (by kernel_rfl) (fun _ _ _ h => h) (Or.inl ⟨by kernel_rfl, ?hy10a⟩) hHeld ?rest10a
      case hy10a => (intro w hSw; (try dsimp only at hSw); go_simp; try with_reducible rfl)
      try simp only [Act.put, List.setIfInBounds_toArray, List.set_cons_zero, List.set_cons_succ, List.getElem_toArray, List.getElem_cons_zero, List.getElem_cons_succ]
      refine wpAnyH_take (i := 11) (v := .bool false) rfl (by kernel_rfl) (by kernel_rfl) (by kernel_rfl) (fun _ _ _ h => h) (Or.inl ⟨by kernel_rfl, ?hy11a⟩) hHeld ?rest11a
      case hy11a => (intro w hSw; (try dsimp only at hSw); go_simp; try with_reducible rfl)
      try simp only [Act.put, List.setIfInBounds_toArray, List.set_cons_zero, List.set_cons_succ, List.getElem_toArray, List.getElem_cons_zero, List.getElem_cons_succ]
      refine wpAnyH_take (i := 12) (v := .pointer (some ⟨bp, 0, none⟩)) rfl (by kernel_rfl) (by kernel_rfl) (by kernel_rfl) (fun _ _ _ h => h) (Or.inl ⟨by kernel_rfl, ?hy12a⟩) hHeld ?rest12a
      case hy12a => (intro w hSw; (try dsimp only at hSw); go_simp; try with_reducible rfl)
      try simp only [Act.put, List.setIfInBounds_toArray, List.set_cons_zero, List.set_cons_succ, List.getElem_toArray, List.getElem_cons_zero, List.getElem_cons_succ]
      refine wpAnyH_take (i := 13) (v := .pointer (some ⟨bp, 0, none⟩)) rfl (by kernel_rfl) (by kernel_rfl) (by kernel_rfl) (fun _ _ _ h => h) (Or.inl ⟨by kernel_rfl, ?hy13a⟩) hHeld ?rest13a
      case hy13a => (intro w hSw; (try dsimp only at hSw); go_simp; try with_reducible rfl)
      try simp only [Act.put, List.setIfInBounds_toArray, List.set_cons_zero, List.set_cons_succ, List.getElem_toArray, List.getElem_cons_zero, List.getElem_cons_succ]
      refine wpAnyH_take (i := 14) (v := .pointer (some ⟨bp, 0, none⟩)) rfl (by kernel_rfl) (by kernel_rfl) (by kernel_rfl) (fun _ _ _ h => h) (Or.inl ⟨by kernel_rfl, ?hy14a⟩) hHeld ?rest14a
      case hy14a => (intro w hSw; (try dsimp only at hSw); go_simp; try with_reducible rfl)
      try simp only [Act.put, List.setIfInBounds_toArray, List.set_cons_zero, List.set_cons_succ, List.getElem_toArray, List.getElem_cons_zero, List.getElem_cons_succ]
      refine wpAnyH_take (i := 15) (v := .pointer (some ⟨d, 0, none⟩)) rfl (by kernel_rfl) (by kernel_rfl) (by kernel_rfl) (fun _ _ _ h => h) (Or.inl ⟨by kernel_rfl, ?hy15a⟩) hHeld ?rest15a
      case hy15a => (intro w hSw; (try dsimp only at hSw); go_simp; try with_reducible rfl)
      try simp only [Act.put, List.setIfInBounds_toArray, List.set_cons_zero, List.set_cons_succ, List.getElem_toArray, List.getElem_cons_zero, List.getElem_cons_succ]
      refine wpAnyH_take (i := 17) (v := .pointer (some ⟨bp, 0, none⟩)) rfl (by kernel_rfl) (by kernel_rfl) (by kernel_rfl) (fun _ _ _ h => h) (Or.inl ⟨by kernel_rfl, ?hy17a⟩) hHeld ?rest17a
      case hy17a => (intro w hSw; (try dsimp only at hSw); go_simp; try with_reducible rfl)
      try simp only [Act.put, List.setIfInBounds_toArray, List.set_cons_zero, List.set_cons_succ, List.getElem_toArray, List.getElem_cons_zero, List.getElem_cons_succ]
      refine wpAnyH_take (i := 18) (v := .pointer (some ⟨bp, 0, none⟩)) rfl (by kernel_rfl) (by kernel_rfl) (by kernel_rfl) (fun _ _ _ h => h) (Or.inl ⟨by kernel_rfl, ?hy18a⟩) hHeld ?rest18a
      case hy18a => (intro w hSw; (try dsimp only at hSw); go_simp; try with_reducible rfl)
      try simp only [Act.put, List.setIfInBounds_toArray, List.set_cons_zero, List.set_cons_succ, List.getElem_toArray, List.getElem_cons_zero, List.getElem_cons_succ]
      refine wpAnyH_take (i := 19) (v := .pointer (some ⟨bp, 1, none⟩)) rfl (by kernel_rfl) (by kernel_rfl) (by kernel_rfl) (fun _ _ _ h => h) (Or.inl ⟨by kernel_rfl, ?hy19a⟩) hHeld ?rest19a
      case hy19a => (intro w hSw; (try dsimp only at hSw); go_simp; try with_reducible rfl)
      try simp only [Act.put, List.setIfInBounds_toArray, List.set_cons_zero, List.set_cons_succ, List.getElem_toArray, List.getElem_cons_zero, List.getElem_cons_succ]
      refine wpAnyH_take (i := 20) (v := .pointer (some ⟨r, 0, none⟩)) rfl (by kernel_rfl) (by kernel_rfl) (by kernel_rfl) (fun _ _ _ h => h) (Or.inl ⟨by kernel_rfl, ?hy20a⟩) hHeld ?rest20a
      case hy20a => (intro w hSw; (try dsimp only at hSw); go_simp; try with_reducible rfl)
      try simp only [Act.put, List.setIfInBounds_toArray, List.set_cons_zero, List.set_cons_succ, List.getElem_toArray, List.getElem_cons_zero, List.getElem_cons_succ]
      refine wpAnyH_take (i := 21) (v := .pointer (some ⟨r, 0, none⟩)) rfl (by kernel_rfl) (by kernel_rfl) (by kernel_rfl) (fun _ _ _ h => h) (Or.inl ⟨by kernel_rfl, ?hy21a⟩) hHeld ?rest21a
      case hy21a => (intro w hSw; (try dsimp only at hSw); go_simp; try with_reducible rfl)
      try simp only [Act.put, List.setIfInBounds_toArray, List.set_cons_zero, List.set_cons_succ, List.getElem_toArray, List.getElem_cons_zero, List.getElem_cons_succ]
      refine wpAnyH_take (i := 22) (v := .pointer (some ⟨r, 4, none⟩)) rfl (by kernel_rfl) (by kernel_rfl) (by kernel_rfl) (fun _ _ _ h => h) (Or.inl ⟨by kernel_rfl, ?hy22a⟩) hHeld ?rest22a
      case hy22a => (intro w hSw; (try dsimp only at hSw); go_simp; try with_reducible rfl)
      try simp only [Act.put, List.setIfInBounds_toArray, List.set_cons_zero, List.set_cons_succ, List.getElem_toArray, List.getElem_cons_zero, List.getElem_cons_succ]
      refine wpAnyH_take (i := 23) (v := .int .i64 dn) rfl (by kernel_rfl) (by kernel_rfl) (by kernel_rfl) (fun _ _ _ h => h) (Or.inl ⟨by kernel_rfl, ?hy23a⟩) hHeld ?rest23a
      case hy23a => (intro w hSw; (try dsimp only at hSw); go_simp; try with_reducible rfl)
      try simp only [Act.put, List.setIfInBounds_toArray, List.set_cons_zero, List.set_cons_succ, List.getElem_toArray, List.getElem_cons_zero, List.getElem_cons_succ]
      refine wpAnyH_ready (rs := [16]) (by kernel_rfl) (by simp) ?_
      refine AllReadyH.cons rfl (fun K hK => ?_) AllReadyH.nil
      go_simp; refine (KD.out _ BWd.out).mono ?_; rintro e w' ⟨rfl, hw⟩; obtain rfl := hw.symm; clear hw; go_wp2_with fail
      refine hK.out _ _ ?hS16a (fun hHeld => ?rest16a)
      case hS16a => exact CC.out _ BWd.out
      clear hK K
      try simp only [Act.put, List.setIfInBounds_toArray, List.set_cons_zero, List.set_cons_succ, List.getElem_toArray, List.getElem_cons_zero, List.getElem_cons_succ]
      refine wpAnyH_take (i := 24) (v := .bool false) rfl (by kernel_rfl) (by kernel_rfl) (by kernel_rfl) (fun _ _ _ h => h) (Or.inl ⟨by kernel_rfl, ?hy24a⟩) hHeld ?rest24a
      case hy24a => (intro w hSw; (try dsimp only at hSw); go_simp; try with_reducible rfl)
      try simp only [Act.put, List.setIfInBounds_toArray, List.set_cons_zero, List.set_cons_succ, List.getElem_toArray, List.getElem_cons_zero, List.getElem_cons_succ]
      refine wpAnyH_take (i := 25) (v := .bool false) rfl (by kernel_rfl) (by kernel_rfl) (by kernel_rfl) (fun _ _ _ h => h) (Or.inl ⟨by kernel_rfl, ?hy25a⟩) hHeld ?rest25a
      case hy25a => (intro w hSw; (try dsimp only at hSw); go_simp; try with_reducible rfl)
      try simp only [Act.put, List.setIfInBounds_toArray, List.set_cons_zero, List.set_cons_succ, List.getElem_toArray, List.getElem_cons_zero, List.getElem_cons_succ]
      refine wpAnyH_take (i := 26) (v := .bool false) rfl (by kernel_rfl) (by kernel_rfl) (by kernel_rfl) (fun _ _ _ h => h) (Or.inl ⟨by kernel_rfl, ?hy26a⟩) hHeld ?rest26a
      case hy26a => (intro w hSw; (try dsimp only at hSw); go_simp; try with_reducible rfl)
      try simp only [Act.put, List.setIfInBounds_toArray, List.set_cons_zero, List.set_cons_succ, List.getElem_toArray, List.getElem_cons_zero, List.getElem_cons_succ]
      refine wpAnyH_take (i := 27) (v := .pointer (some ⟨bp, 0, none⟩)) rfl (by kernel_rfl) (by kernel_rfl) (by kernel_rfl) (fun _ _ _ h => h) (Or.inl ⟨by kernel_rfl, ?hy27a⟩) hHeld ?rest27a
      case hy27a => (intro w hSw; (try dsimp only at hSw); go_simp; try with_reducible rfl)
      try simp only [Act.put, List.setIfInBounds_toArray, List.set_cons_zero, List.set_cons_succ, List.getElem_toArray, List.getElem_cons_zero, List.getElem_cons_succ]
      refine wpAnyH_take (i := 28) (v := .pointer (some ⟨bp, 0, none⟩)) rfl (by kernel_rfl) (by kernel_rfl) (by kernel_rfl) (fun _ _ _ h => h) (Or.inl ⟨by kernel_rfl, ?hy28a⟩) hHeld ?rest28a
      case hy28a => (intro w hSw; (try dsimp only at hSw); go_simp; try with_reducible rfl)
      try simp only [Act.put, List.setIfInBounds_toArray, List.set_cons_zero, List.set_cons_succ, List.getElem_toArray, List.getElem_cons_zero, List.getElem_cons_succ]
      refine wpAnyH_take (i := 29) (v := .pointer (some ⟨bp, 0, none⟩)) rfl (by kernel_rfl) (by kernel_rfl) (by kernel_rfl) (fun _ _ _ h => h) (Or.inl ⟨by kernel_rfl, ?hy29a⟩) hHeld ?rest29a
      case hy29a => (intro w hSw; (try dsimp only at hSw); go_simp; try with_reducible rfl)
      try simp only [Act.put, List.setIfInBounds_toArray, List.set_cons_zero, List.set_cons_succ, List.getElem_toArray, List.getElem_cons_zero, List.getElem_cons_succ]
      refine wpAnyH_take (i := 30) (v := .pointer (some ⟨d, 0, none⟩)) rfl (by kernel_rfl) (by kernel_rfl) (by kernel_rfl) (fun _ _ _ h => h) (Or.inl ⟨by kernel_rfl, ?hy30a⟩) hHeld ?rest30a
      case hy30a => (intro w hSw; (try dsimp only at hSw); go_simp; try with_reducible rfl)
      try simp only [Act.put, List.setIfInBounds_toArray, List.set_cons_zero, List.set_cons_succ, List.getElem_toArray, List.getElem_cons_zero, List.getElem_cons_succ]
      refine wpAnyH_take (i := 32) (v := .pointer (some ⟨bp, 0, none⟩)) rfl (by kernel_rfl) (by kernel_rfl) (by kernel_rfl) (fun _ _ _ h => h) (Or.inl ⟨by kernel_rfl, ?hy32a⟩) hHeld ?rest32a
      case hy32a => (intro w hSw; (try dsimp only at hSw); go_simp; try with_reducible rfl)
      try simp only [Act.put, List.setIfInBounds_toArray, List.set_cons_zero, List.set_cons_succ, List.getElem_toArray, List.getElem_cons_zero, List.getElem_cons_succ]
      refine wpAnyH_take (i := 33) (v := .pointer (some ⟨bp, 0, none⟩)) rfl (by kernel_rfl) (by kernel_rfl) (by kernel_rfl) (fun _ _ _ h => h) (Or.inl ⟨by kernel_rfl, ?hy33a⟩) hHeld ?rest33a
      case hy33a => (intro w hSw; (try dsimp only at hSw); go_simp; try with_reducible rfl)
      try simp only [Act.put, List.setIfInBounds_toArray, List.set_cons_zero, List.set_cons_succ, List.getElem_toArray, List.getElem_cons_zero, List.getElem_cons_succ]
      refine wpAnyH_take (i := 34) (v := .pointer (some ⟨bp, 1, none⟩)) rfl (by kernel_rfl) (by kernel_rfl) (by kernel_rfl) (fun _ _ _ h => h) (Or.inl ⟨by kernel_rfl, ?hy34a⟩) hHeld ?rest34a
      case hy34a => (intro w hSw; (try dsimp only at hSw); go_simp; try with_reducible rfl)
      try simp only [Act.put, List.setIfInBounds_toArray, List.set_cons_zero, List.set_cons_succ, List.getElem_toArray, List.getElem_cons_zero, List.getElem_cons_succ]
      refine wpAnyH_take (i := 35) (v := .pointer (some ⟨r, 0, none⟩)) rfl (by kernel_rfl) (by kernel_rfl) (by kernel_rfl) (fun _ _ _ h => h) (Or.inl ⟨by kernel_rfl, ?hy35a⟩) hHeld ?rest35a
      case hy35a => (intro w hSw; (try dsimp only at hSw); go_simp; try with_reducible rfl)
      try simp only [Act.put, List.setIfInBounds_toArray, List.set_cons_zero, List.set_cons_succ, List.getElem_toArray, List.getElem_cons_zero, List.getElem_cons_succ]
      refine wpAnyH_take (i := 36) (v := .pointer (some ⟨r, 0, none⟩)) rfl (by kernel_rfl) (by kernel_rfl) (by kernel_rfl) (fun _ _ _ h => h) (Or.inl ⟨by kernel_rfl, ?hy36a⟩) hHeld ?rest36a
      case hy36a => (intro w hSw; (try dsimp only at hSw); go_simp; try with_reducible rfl)
      try simp only [Act.put, List.setIfInBounds_toArray, List.set_cons_zero, List.set_cons_succ, List.getElem_toArray, List.getElem_cons_zero, List.getElem_cons_succ]
      refine wpAnyH_take (i := 37) (v := .pointer (some ⟨r, 3, none⟩)) rfl (by kernel_rfl) (by kernel_rfl) (by kernel_rfl) (fun _ _ _ h => h) (Or.inl ⟨by kernel_rfl, ?hy37a⟩) hHeld ?rest37a
      case hy37a => (intro w hSw; (try dsimp only at hSw); go_simp; try with_reducible rfl)
      try simp only [Act.put, List.setIfInBounds_toArray, List.set_cons_zero, List.set_cons_succ, List.getElem_toArray, List.getElem_cons_zero, List.getElem_cons_succ]
      refine wpAnyH_take (i := 38) (v := .bool (!up)) rfl (by kernel_rfl) (by kernel_rfl) (by kernel_rfl) (fun _ _ _ h => h) (Or.inl ⟨by kernel_rfl, ?hy38a⟩) hHeld ?rest38a
      case hy38a => (intro w hSw; (try dsimp only at hSw); go_simp; try with_reducible rfl)
      try simp only [Act.put, List.setIfInBounds_toArray, List.set_cons_zero, List.set_cons_succ, List.getElem_toArray, List.getElem_cons_zero, List.getElem_cons_succ]
      refine wpAnyH_ready (rs := [31]) (by kernel_rfl) (by simp) ?_
      refine AllReadyH.cons rfl (fun K hK => ?_) AllReadyH.nil
      go_simp; refine (KU.out _ BWd.out).mono ?_; rintro e w' ⟨rfl, hw⟩; obtain rfl := hw.symm; clear hw; go_wp2_with fail
      refine hK.out _ _ ?hS31a (fun hHeld => ?rest31a)
      case hS31a => exact CC.out _ BWd.out
      clear hK K
      try simp only [Act.put, List.setIfInBounds_toArray, List.set_cons_zero, List.set_cons_succ, List.getElem_toArray, List.getElem_cons_zero, List.getElem_cons_succ]
      refine wpAnyH_take (i := 39) (v := .bool false) rfl (by kernel_rfl) (by kernel_rfl) (by kernel_rfl) (fun _ _ _ h => h) (Or.inl ⟨by kernel_rfl, ?hy39a⟩) hHeld ?rest39a
      case hy39a => (intro w hSw; (try dsimp only at hSw); go_simp; try (first | exact HUp.out | (cases up <;> rfl)))
      try simp only [Act.put, List.setIfInBounds_toArray, List.set_cons_zero, List.set_cons_succ, List.getElem_toArray, List.getElem_cons_zero, List.getElem_cons_succ]
      refine wpAnyH_take (i := 40) (v := .bool false) rfl (by kernel_rfl) (by kernel_rfl) (by kernel_rfl) (fun _ _ _ h => h) (Or.inl ⟨by kernel_rfl, ?hy40a⟩) hHeld ?rest40a
      case hy40a => (intro w hSw; (try dsimp only at hSw); go_simp; try with_reducible rfl)
      try simp only [Act.put, List.setIfInBounds_toArray, List.set_cons_zero, List.set_cons_succ, List.getElem_toArray, List.getElem_cons_zero, List.getElem_cons_succ]
      refine wpAnyH_done (by kernel_rfl) ?_ _
      refine NoPanic.normal ?_

      try go_wp2_with fail
      go_meet
      case rel => exact ⟨rfl, below_drewN (Below.refl _ _) 1⟩
  case rest =>
    obtain ⟨rfl, BX⟩ := hcut
    have IX : Hid (Img wc wz.heap.size go n V s.D) := IM.out.keep BX.out
    have B0 : Hid (Below wz.heap.size wz wc) := BW1.out.trans (BX.out.mono BW1.out.size)
    clear IM BX KU KD KI
    go_wp2_with fail
    go_loopg [56] n (fun gg jv wq => ∃ (j : Nat), j ≤ n ∧ gg = n - j ∧ jv = .int .i64 (j : Int) ∧ Hid (Img wq wz.heap.size go n V s.D) ∧ Hid (Below wz.heap.size wz wq))
    case atStart => exact ⟨0, by omega, rfl, rfl, IX, B0⟩
    case round =>
      obtain ⟨j, hjn, rfl, rfl, IQ, BQ⟩ := hrel
      clear IX B0
      by_cases hj : j < n
      · have f1 : decide ((j : Int) < (n : Int)) = true := by rw [decide_eq_true_eq]; omega
        have hn4 := HN.out.2
        have hDl := HN.out.1
        have hVl := HV.out
        obtain ⟨p1, hp1⟩ : ∃ p, V[j]? = some p := ⟨_, List.getElem?_eq_getElem (by omega)⟩
        obtain ⟨z1, hz1, ho1⟩ := IQ.out.own j p1 hp1
        have s64 : z1.length = 64 := by
          have := ho1.holds.2.1
          simpa [sv] using this
        have k1 : wr.cell? ⟨go, j, none⟩ = some (.slice (some ⟨p1.1, 0, none⟩) 64 p1.2) := (IQ.out.row.cellAt j (by omega)).trans (vlS_at V n j p1 hp1)
        obtain ⟨gB, cB', eB, k3⟩ := (RT.out _ BQ.out).cell j z1 hz1
        injection eB with eB1 eB2 eB3
        subst eB1
        clear eB2 eB3
        obtain ⟨_, k4, k2, _, _⟩ := CC.out _ BQ.out
        have cv1 : ∀ q, (convert 52 9 (.slice (some ⟨p1.1, 0, none⟩) 64 p1.2)).run Tryz.prog (wr.drewN q) = .ok (.string (strOfNums z1)) (wr.drewN q) := fun q => conv_str (w := wr.drewN q) ho1.holds.1 _ _ s64
        have rj : IntKind.i64.wrap ((j : Int) + 1) = (j : Int) + 1 := by rw [IntKind.wrap_i64]; omega
        clear hz1 ho1 s64 hp1 hDl hVl
        generalize strOfNums z1 = st at *
        obtain ⟨pa, pb⟩ := p1
        simp only at k1 cv1
        go_wp2_with fail
        go_quiet (fail)
        go_wp2_with fail
        go_roundg (n - (j + 1))
        case measure => omega
        case rel => exact ⟨j + 1, by omega, rfl, by go_num, IQ.out.keep ⟨rfl, rfl, rfl, Nat.le_refl _, fun _ _ => rfl⟩, BQ.out.trans ⟨rfl, rfl, rfl, Nat.le_refl _, fun _ _ => rfl⟩⟩
      · have f1 : decide ((j : Int) < (n : Int)) = false := by rw [decide_eq_false_iff_not]; omega
        obtain ⟨k2, k3⟩ := CQ.out _ BQ.out
        cases o with
        | none =>
          obtain ⟨e1, e2, _, _⟩ := HP.out.lg
          subst e1 e2
          go_wp2_with fail
          go_ret
          exact ⟨rfl, BQ.out⟩
        | some l =>
          obtain ⟨bl, bq, e1, e2, hlm, hrl, hok⟩ := HP.out.lg
          subst e1 e2
          have HLM : Hid (∀ W, Below wz.heap.size wz W → Lm W G bl d l) := fun W hb => hlm.keep hb
          have HRL : Hid (∀ W, Below wz.heap.size wz W → Rl W G2 bq r l) := fun W hb => hrl.keep hb
          have HRK : Hid (∀ W, Below wz.heap.size wz W → Rk W F2 r N s) := fun W hb => Rk.keep HP.out.rk hb
          have HOK : Hid (l.Ok N) := hok
          obtain ⟨hm1, hm2⟩ := HM.out l rfl
          obtain ⟨vL, vW, rp, _⟩ := hrl
          obtain ⟨d0, d1, d2, d3, d4, d5⟩ := rp.cell.six
          obtain ⟨aL, cL, hvL, _, hiL, _, _⟩ := rp.rows.slice
          obtain ⟨aW, cW, hvW, _, _, _, _⟩ := rp.wait.slice
          subst hvL hvW
          have hbql : bq < wz.heap.size := rp.cell.lt
          obtain ⟨nl, hnl⟩ : ∃ q, l.R.length = q := ⟨_, rfl⟩
          obtain ⟨kw, hkw⟩ : ∃ q, l.W.length = q := ⟨_, rfl⟩
          rw [hnl] at d3
          rw [hkw] at d4
          have HNL : Hid (l.R.length = nl ∧ l.W.length = kw ∧ nl ≤ 16376) := ⟨hnl, hkw, by rw [← hnl]; exact hok.few.1⟩
          have HIL : Hid (∀ W, Below wz.heap.size wz W → InS W aL l.R) := fun W hb => hiL.keep hb
          have CS : Hid (∀ W, Below wz.heap.size wz W → W.cell? ⟨bp, 2, none⟩ = some (.pointer (some ⟨bl, 0, none⟩)) ∧ W.cell? ⟨bp, 3, none⟩ = some (.pointer (some ⟨bq, 0, none⟩)) ∧ W.cell? ⟨bq, 3, none⟩ = some (.slice aL nl cL) ∧ W.cell? ⟨bq, 4, none⟩ = some (.slice aW kw cW)) := fun W hb => ⟨(CQ.out W hb).1, (CQ.out W hb).2, (hb.cell (p := ⟨bq, 3, none⟩) hbql).trans d3, (hb.cell (p := ⟨bq, 4, none⟩) hbql).trans d4⟩
          have HRb : Hid (∀ B ∈ l.R, IsBytes B) := fun B hB => (hok.rb B hB).1
          clear hlm rp d0 d1 d2 d3 d4 d5 hiL hok hnl hkw hbql
          go_wp2_with fail
          refine (wrecords_is wr G bl d N l (HLM.out wr BQ.out) HOK.out).mono ?_
          rintro e w2 ⟨v2, rfl, hr2, hb2⟩
          obtain ⟨a2, c2, hv2, _, hi2, _, _⟩ := hr2.slice
          subst hv2
          have R2 : Hid (RowsS w2 wr.heap.size (.slice a2 nl c2) l.R) := by have h := hr2; rw [HNL.out.1] at h; exact h
          have HI2 : Hid (InS w2 a2 l.R) := hi2
          have B2 : Hid (Below wr.heap.size wr w2) := hb2
          have BZ2 : Hid (Below wz.heap.size wz w2) := BQ.out.trans (hb2.mono BQ.out.size)
          have BZd : Hid (Below wz.heap.size wz w2.drew) := BZ2.out.trans ((below_drewN (Below.refl _ _) 1).mono BZ2.out.size)
          rw [HNL.out.1]
          clear hr2 hi2 hb2
          go_upto_region 13 with fail
          go_cut [6] (fun c wx => c = .bool true ∧ Hid (Below w2.heap.size w2 wx))
          case first =>
            refine wp_region_noPanic ?_
            refine wp_region_held_drew (S := (fun W : World => W.cell? ⟨bp, 2, none⟩ = some (.pointer (some ⟨bl, 0, none⟩)) ∧ W.cell? ⟨bp, 3, none⟩ = some (.pointer (some ⟨bq, 0, none⟩)) ∧ W.cell? ⟨bq, 3, none⟩ = some (.slice aL nl cL) ∧ W.cell? ⟨bq, 4, none⟩ = some (.slice aW kw cW))) (by kernel_rfl) ?hSab (fun hHeld => ?restab)
            case hSab => exact CS.out _ BZd.out
            case restab =>
              refine wpAnyH_take (i := 0) (v := .slice a2 nl c2) rfl (by kernel_rfl) (by kernel_rfl) (by kernel_rfl) (fun _ _ _ h => h) (Or.inl ⟨by kernel_rfl, ?hy0b⟩) hHeld ?rest0b
              case hy0b => (intro w hSw; (try dsimp only at hSw); go_simp; try with_reducible rfl)
              try simp only [Act.put, List.setIfInBounds_toArray, List.set_cons_zero, List.set_cons_succ, List.getElem_toArray, List.getElem_cons_zero]
              refine wpAnyH_take (i := 1) (v := .pointer (some ⟨bp, 0, none⟩)) rfl (by kernel_rfl) (by kernel_rfl) (by kernel_rfl) (fun _ _ _ h => h) (Or.inl ⟨by kernel_rfl, ?hy1b⟩) hHeld ?rest1b
              case hy1b => (intro w hSw; (try dsimp only at hSw); go_simp; try with_reducible rfl)
              try simp only [Act.put, List.setIfInBounds_toArray, List.set_cons_zero, List.set_cons_succ, List.getElem_toArray, List.getElem_cons_zero, List.getElem_cons_succ]
              refine wpAnyH_take (i := 2) (v := .pointer (some ⟨bp, 0, none⟩)) rfl (by kernel_rfl) (by kernel_rfl) (by kernel_rfl) (fun _ _ _ h => h) (Or.inl ⟨by kernel_rfl, ?hy2b⟩) hHeld ?rest2b
              case hy2b => (intro w hSw; (try dsimp only at hSw); go_simp; try with_reducible rfl)
              try simp only [Act.put, List.setIfInBounds_toArray, List.set_cons_zero, List.set_cons_succ, List.getElem_toArray, List.getElem_cons_zero, List.getElem_cons_succ]
              refine wpAnyH_take (i := 3) (v := .pointer (some ⟨bp, 3, none⟩)) rfl (by kernel_rfl) (by kernel_rfl) (by kernel_rfl) (fun _ _ _ h => h) (Or.inl ⟨by kernel_rfl, ?hy3b⟩) hHeld ?rest3b
              case hy3b => (intro w hSw; (try dsimp only at hSw); go_simp; try with_reducible rfl)
              try simp only [Act.put, List.setIfInBounds_toArray, List.set_cons_zero, List.set_cons_succ, List.getElem_toArray, List.getElem_cons_zero, List.getElem_cons_succ]
              refine wpAnyH_take (i := 4) (v := .pointer (some ⟨bq, 0, none⟩)) rfl (by kernel_rfl) (by kernel_rfl) (by kernel_rfl) (fun _ _ _ h => h) (Or.inl ⟨by kernel_rfl, ?hy4b⟩) hHeld ?rest4b
              case hy4b => (intro w hSw; (try dsimp only at hSw); go_simp; try with_reducible rfl)
              try simp only [Act.put, List.setIfInBounds_toArray, List.set_cons_zero, List.set_cons_succ, List.getElem_toArray, List.getElem_cons_zero, List.getElem_cons_succ]
              refine wpAnyH_take (i := 5) (v := .pointer (some ⟨bq, 0, none⟩)) rfl (by kernel_rfl) (by kernel_rfl) (by kernel_rfl) (fun _ _ _ h => h) (Or.inl ⟨by kernel_rfl, ?hy5b⟩) hHeld ?rest5b
              case hy5b => (intro w hSw; (try dsimp only at hSw); go_simp; try with_reducible rfl)
              try simp only [Act.put, List.setIfInBounds_toArray, List.set_cons_zero, List.set_cons_succ, List.getElem_toArray, List.getElem_cons_zero, List.getElem_cons_succ]
              refine wpAnyH_take (i := 6) (v := .pointer (some ⟨bq, 3, none⟩)) rfl (by kernel_rfl) (by kernel_rfl) (by kernel_rfl) (fun _ _ _ h => h) (Or.inl ⟨by kernel_rfl, ?hy6b⟩) hHeld ?rest6b
              case hy6b => (intro w hSw; (try dsimp only at hSw); go_simp; try with_reducible rfl)
              try simp only [Act.put, List.setIfInBounds_toArray, List.set_cons_zero, List.set_cons_succ, List.getElem_toArray, List.getElem_cons_zero, List.getElem_cons_succ]
              refine wpAnyH_take (i := 7) (v := .slice aL nl cL) rfl (by kernel_rfl) (by kernel_rfl) (by kernel_rfl) (fun _ _ _ h => h) (Or.inl ⟨by kernel_rfl, ?hy7b⟩) hHeld ?rest7b
              case hy7b => (intro w hSw; (try dsimp only at hSw); go_simp; try with_reducible rfl)
              try simp only [Act.put, List.setIfInBounds_toArray, List.set_cons_zero, List.set_cons_succ, List.getElem_toArray, List.getElem_cons_zero, List.getElem_cons_succ]

              have KSa : Hid (Calls Tryz.prog 20 #[.slice a2 nl c2, .slice aL nl cL] w2.drew fun e w' => e = .returned (.bool true) ∧ Below w2.drew.heap.size w2.drew w') := by
                have k := wsame_is w2.drew a2 aL nl nl c2 cL l.R l.R HNL.out.1 HNL.out.1 (by have := HNL.out.2.2; omega) (by have := HNL.out.2.2; omega) (HI2.out.keep (below_drewN (Below.refl _ _) 1)) (HIL.out _ BZd.out) HRb.out HRb.out
                rw [decide_eq_true (rfl : l.R = l.R)] at k
                exact k
              refine wpAnyH_ready (rs := [8]) (by kernel_rfl) (by simp) ?_
              refine AllReadyH.cons rfl (fun K hK => ?_) AllReadyH.nil
              go_simp; refine KSa.out.mono ?_; rintro e w3 ⟨rfl, hb3⟩; have BZ3 : Hid (Below wz.heap.size wz w3) := BZd.out.trans (hb3.mono BZd.out.size); have B3 : Hid (Below w2.heap.size w2 w3) := (below_drewN (Below.refl _ _) 1).trans hb3; clear hb3; go_wp2_with fail
              refine hK.out _ _ ?hS8b (fun hHeld => ?rest8b)
              case hS8b => exact CS.out _ BZ3.out
              clear hK K
              try simp only [Act.put, List.setIfInBounds_toArray, List.set_cons_zero, List.set_cons_succ, List.getElem_toArray, List.getElem_cons_zero, List.getElem_cons_succ]
              refine wpAnyH_take (i := 9) (v := .bool true) rfl (by kernel_rfl) (by kernel_rfl) (by kernel_rfl) (fun _ _ _ h => h) (Or.inl ⟨by kernel_rfl, ?hy9b⟩) hHeld ?rest9b
              case hy9b => (intro w hSw; (try dsimp only at hSw); go_simp; try with_reducible rfl)
              try simp only [Act.put, List.setIfInBounds_toArray, List.set_cons_zero, List.set_cons_succ, List.getElem_toArray, List.getElem_cons_zero, List.getElem_cons_succ]
              refine wpAnyH_take (i := 10) (v := .pointer (some ⟨bp, 0, none⟩)) rfl (by kernel_rfl) (by kernel_rfl) (by kernel_rfl) (fun _ _ _ h => h) (Or.inl ⟨by kernel_rfl, ?hy10b⟩) hHeld ?rest10b
              case hy10b => (intro w hSw; (try dsimp only at hSw); go_simp; try with_reducible rfl)
              try simp only [Act.put, List.setIfInBounds_toArray, List.set_cons_zero, List.set_cons_succ, List.getElem_toArray, List.getElem_cons_zero, List.getElem_cons_succ]
              refine wpAnyH_take (i := 11) (v := .pointer (some ⟨bp, 0, none⟩)) rfl (by kernel_rfl) (by kernel_rfl) (by kernel_rfl) (fun _ _ _ h => h) (Or.inl ⟨by kernel_rfl, ?hy11b⟩) hHeld ?rest11b
              case hy11b => (intro w hSw; (try dsimp only at hSw); go_simp; try with_reducible rfl)
              try simp only [Act.put, List.setIfInBounds_toArray, List.set_cons_zero, List.set_cons_succ, List.getElem_toArray, List.getElem_cons_zero, List.getElem_cons_succ]
              refine wpAnyH_take (i := 12) (v := .pointer (some ⟨bp, 2, none⟩)) rfl (by kernel_rfl) (by kernel_rfl) (by kernel_rfl) (fun _ _ _ h => h) (Or.inl ⟨by kernel_rfl, ?hy12b⟩) hHeld ?rest12b
              case hy12b => (intro w hSw; (try dsimp only at hSw); go_simp; try with_reducible rfl)
              try simp only [Act.put, List.setIfInBounds_toArray, List.set_cons_zero, List.set_cons_succ, List.getElem_toArray, List.getElem_cons_zero, List.getElem_cons_succ]
              refine wpAnyH_take (i := 13) (v := .pointer (some ⟨bl, 0, none⟩)) rfl (by kernel_rfl) (by kernel_rfl) (by kernel_rfl) (fun _ _ _ h => h) (Or.inl ⟨by kernel_rfl, ?hy13b⟩) hHeld ?rest13b
              case hy13b => (intro w hSw; (try dsimp only at hSw); go_simp; try with_reducible rfl)
              try simp only [Act.put, List.setIfInBounds_toArray, List.set_cons_zero, List.set_cons_succ, List.getElem_toArray, List.getElem_cons_zero, List.getElem_cons_succ]
              refine wpAnyH_take (i := 15) (v := .pointer (some ⟨bp, 0, none⟩)) rfl (by kernel_rfl) (by kernel_rfl) (by kernel_rfl) (fun _ _ _ h => h) (Or.inl ⟨by kernel_rfl, ?hy15b⟩) hHeld ?rest15b
              case hy15b => (intro w hSw; (try dsimp only at hSw); go_simp; try with_reducible rfl)
              try simp only [Act.put, List.setIfInBounds_toArray, List.set_cons_zero, List.set_cons_succ, List.getElem_toArray, List.getElem_cons_zero, List.getElem_cons_succ]
              refine wpAnyH_take (i := 16) (v := .pointer (some ⟨bp, 0, none⟩)) rfl (by kernel_rfl) (by kernel_rfl) (by kernel_rfl) (fun _ _ _ h => h) (Or.inl ⟨by kernel_rfl, ?hy16b⟩) hHeld ?rest16b
              case hy16b => (intro w hSw; (try dsimp only at hSw); go_simp; try with_reducible rfl)
              try simp only [Act.put, List.setIfInBounds_toArray, List.set_cons_zero, List.set_cons_succ, List.getElem_toArray, List.getElem_cons_zero, List.getElem_cons_succ]
              refine wpAnyH_take (i := 17) (v := .pointer (some ⟨bp, 3, none⟩)) rfl (by kernel_rfl) (by kernel_rfl) (by kernel_rfl) (fun _ _ _ h => h) (Or.inl ⟨by kernel_rfl, ?hy17b⟩) hHeld ?rest17b
              case hy17b => (intro w hSw; (try dsimp only at hSw); go_simp; try with_reducible rfl)
              try simp only [Act.put, List.setIfInBounds_toArray, List.set_cons_zero, List.set_cons_succ, List.getElem_toArray, List.getElem_cons_zero, List.getElem_cons_succ]
              refine wpAnyH_take (i := 18) (v := .pointer (some ⟨bq, 0, none⟩)) rfl (by kernel_rfl) (by kernel_rfl) (by kernel_rfl) (fun _ _ _ h => h) (Or.inl ⟨by kernel_rfl, ?hy18b⟩) hHeld ?rest18b
              case hy18b => (intro w hSw; (try dsimp only at hSw); go_simp; try with_reducible rfl)
              try simp only [Act.put, List.setIfInBounds_toArray, List.set_cons_zero, List.set_cons_succ, List.getElem_toArray, List.getElem_cons_zero, List.getElem_cons_succ]
              refine wpAnyH_take (i := 19) (v := .pointer (some ⟨bq, 0, none⟩)) rfl (by kernel_rfl) (by kernel_rfl) (by kernel_rfl) (fun _ _ _ h => h) (Or.inl ⟨by kernel_rfl, ?hy19b⟩) hHeld ?rest19b
              case hy19b => (intro w hSw; (try dsimp only at hSw); go_simp; try with_reducible rfl)
              try simp only [Act.put, List.setIfInBounds_toArray, List.set_cons_zero, List.set_cons_succ, List.getElem_toArray, List.getElem_cons_zero, List.getElem_cons_succ]
              refine wpAnyH_take (i := 20) (v := .pointer (some ⟨bq, 4, none⟩)) rfl (by kernel_rfl) (by kernel_rfl) (by kernel_rfl) (fun _ _ _ h => h) (Or.inl ⟨by kernel_rfl, ?hy20b⟩) hHeld ?rest20b
              case hy20b => (intro w hSw; (try dsimp only at hSw); go_simp; try with_reducible rfl)
              try simp only [Act.put, List.setIfInBounds_toArray, List.set_cons_zero, List.set_cons_succ, List.getElem_toArray, List.getElem_cons_zero, List.getElem_cons_succ]
              refine wpAnyH_take (i := 21) (v := .slice aW kw cW) rfl (by kernel_rfl) (by kernel_rfl) (by kernel_rfl) (fun _ _ _ h => h) (Or.inl ⟨by kernel_rfl, ?hy21b⟩) hHeld ?rest21b
              case hy21b => (intro w hSw; (try dsimp only at hSw); go_simp; try with_reducible rfl)
              try simp only [Act.put, List.setIfInBounds_toArray, List.set_cons_zero, List.set_cons_succ, List.getElem_toArray, List.getElem_cons_zero, List.getElem_cons_succ]
              refine wpAnyH_take (i := 22) (v := .int .i64 (kw : Int)) rfl (by kernel_rfl) (by kernel_rfl) (by kernel_rfl) (fun _ _ _ h => h) (Or.inl ⟨by kernel_rfl, ?hy22b⟩) hHeld ?rest22b
              case hy22b => (intro w hSw; (try dsimp only at hSw); go_simp; try with_reducible rfl)
              try simp only [Act.put, List.setIfInBounds_toArray, List.set_cons_zero, List.set_cons_succ, List.getElem_toArray, List.getElem_cons_zero, List.getElem_cons_succ]

              have KWt : Hid (Calls Tryz.prog 27 #[.pointer (some ⟨bl, 0, none⟩)] w3 fun e w' => e = .returned (.int .i64 (kw : Int)) ∧ w' = w3) := by
                have k := wwaiting_is w3 G bl d l (HLM.out w3 BZ3.out)
                rw [HNL.out.2.1] at k
                exact k
              obtain ⟨ln, hln⟩ : ∃ q, l.ln = q := ⟨_, rfl⟩
              obtain ⟨rm, hrm⟩ : ∃ q, l.room = q := ⟨_, rfl⟩
              have KUs : Hid (Calls Tryz.prog 22 #[.pointer (some ⟨bl, 0, none⟩)] w3 fun e w' => e = .returned (.int .i64 (ln : Int)) ∧ w' = w3) := by
                have k := wused_is w3 G bl d l (HLM.out w3 BZ3.out)
                rw [hln] at k
                exact k
              have KUr : Hid (Calls Tryz.prog 28 #[.pointer (some ⟨bq, 0, none⟩)] w3 fun e w' => e = .returned (.int .i64 (ln : Int)) ∧ w' = w3) := by
                have k := rused_is w3 G2 bq r N l (HRL.out w3 BZ3.out) HOK.out
                rw [hln] at k
                exact k
              have KRo : Hid (Calls Tryz.prog 16 #[.pointer (some ⟨bl, 0, none⟩)] w3 fun e w' => e = .returned (.int .i64 (rm : Int)) ∧ Below w3.heap.size w3 w') := by
                have k := wroom_is w3 G bl d N l (HLM.out w3 BZ3.out) HOK.out
                rw [hrm] at k
                exact k
              have KRr : Hid (∀ W, Below wz.heap.size wz W → Calls Tryz.prog 29 #[.pointer (some ⟨bq, 0, none⟩)] W fun e w' => e = .returned (.int .i64 (rm : Int)) ∧ Below W.heap.size W w') := fun W hb => by
                have k := rroom_is W F2 G2 bq r N N s l (HRK.out W hb) hm2 hm1 (HRL.out W hb) HOK.out
                rw [hrm] at k
                exact k
              clear hln hrm
              refine wpAnyH_ready (rs := [14]) (by kernel_rfl) (by simp) ?_
              refine AllReadyH.cons rfl (fun K hK => ?_) AllReadyH.nil
              go_simp; refine KWt.out.mono ?_; rintro e w' ⟨rfl, hw⟩; obtain rfl := hw.symm; clear hw; go_wp2_with fail
              refine hK.out _ _ ?hS14b (fun hHeld => ?rest14b)
              case hS14b => exact CS.out _ BZ3.out
              clear hK K
              try simp only [Act.put, List.setIfInBounds_toArray, List.set_cons_zero, List.set_cons_succ, List.getElem_toArray, List.getElem_cons_zero, List.getElem_cons_succ]
              refine wpAnyH_take (i := 23) (v := .bool true) rfl (by kernel_rfl) (by kernel_rfl) (by kernel_rfl) (fun _ _ _ h => h) (Or.inl ⟨by kernel_rfl, ?hy23b⟩) hHeld ?rest23b
              case hy23b => (intro w hSw; (try dsimp only at hSw); go_simp; try with_reducible rfl)
              try simp only [Act.put, List.setIfInBounds_toArray, List.set_cons_zero, List.set_cons_succ, List.getElem_toArray, List.getElem_cons_zero, List.getElem_cons_succ]
              refine wpAnyH_take (i := 24) (v := .bool true) rfl (by kernel_rfl) (by kernel_rfl) (by kernel_rfl) (fun _ _ _ h => h) (Or.inl ⟨by kernel_rfl, ?hy24b⟩) hHeld ?rest24b
              case hy24b => (intro w hSw; (try dsimp only at hSw); go_simp; try with_reducible rfl)
              try simp only [Act.put, List.setIfInBounds_toArray, List.set_cons_zero, List.set_cons_succ, List.getElem_toArray, List.getElem_cons_zero, List.getElem_cons_succ]
              refine wpAnyH_take (i := 25) (v := .bool true) rfl (by kernel_rfl) (by kernel_rfl) (by kernel_rfl) (fun _ _ _ h => h) (Or.inl ⟨by kernel_rfl, ?hy25b⟩) hHeld ?rest25b
              case hy25b => (intro w hSw; (try dsimp only at hSw); go_simp; try with_reducible rfl)
              try simp only [Act.put, List.setIfInBounds_toArray, List.set_cons_zero, List.set_cons_succ, List.getElem_toArray, List.getElem_cons_zero, List.getElem_cons_succ]
              refine wpAnyH_take (i := 26) (v := .pointer (some ⟨bp, 0, none⟩)) rfl (by kernel_rfl) (by kernel_rfl) (by kernel_rfl) (fun _ _ _ h => h) (Or.inl ⟨by kernel_rfl, ?hy26b⟩) hHeld ?rest26b
              case hy26b => (intro w hSw; (try dsimp only at hSw); go_simp; try with_reducible rfl)
              try simp only [Act.put, List.setIfInBounds_toArray, List.set_cons_zero, List.set_cons_succ, List.getElem_toArray, List.getElem_cons_zero, List.getElem_cons_succ]
              refine wpAnyH_take (i := 27) (v := .pointer (some ⟨bp, 0, none⟩)) rfl (by kernel_rfl) (by kernel_rfl) (by kernel_rfl) (fun _ _ _ h => h) (Or.inl ⟨by kernel_rfl, ?hy27b⟩) hHeld ?rest27b
              case hy27b => (intro w hSw; (try dsimp only at hSw); go_simp; try with_reducible rfl)
              try simp only [Act.put, List.setIfInBounds_toArray, List.set_cons_zero, List.set_cons_succ, List.getElem_toArray, List.getElem_cons_zero, List.getElem_cons_succ]
              refine wpAnyH_take (i := 28) (v := .pointer (some ⟨bp, 2, none⟩)) rfl (by kernel_rfl) (by kernel_rfl) (by kernel_rfl) (fun _ _ _ h => h) (Or.inl ⟨by kernel_rfl, ?hy28b⟩) hHeld ?rest28b
              case hy28b => (intro w hSw; (try dsimp only at hSw); go_simp; try with_reducible rfl)
              try simp only [Act.put, List.setIfInBounds_toArray, List.set_cons_zero, List.set_cons_succ, List.getElem_toArray, List.getElem_cons_zero, List.getElem_cons_succ]
              refine wpAnyH_take (i := 29) (v := .pointer (some ⟨bl, 0, none⟩)) rfl (by kernel_rfl) (by kernel_rfl) (by kernel_rfl) (fun _ _ _ h => h) (Or.inl ⟨by kernel_rfl, ?hy29b⟩) hHeld ?rest29b
              case hy29b => (intro w hSw; (try dsimp only at hSw); go_simp; try with_reducible rfl)
              try simp only [Act.put, List.setIfInBounds_toArray, List.set_cons_zero, List.set_cons_succ, List.getElem_toArray, List.getElem_cons_zero, List.getElem_cons_succ]
              refine wpAnyH_take (i := 31) (v := .pointer (some ⟨bp, 0, none⟩)) rfl (by kernel_rfl) (by kernel_rfl) (by kernel_rfl) (fun _ _ _ h => h) (Or.inl ⟨by kernel_rfl, ?hy31b⟩) hHeld ?rest31b
              case hy31b => (intro w hSw; (try dsimp only at hSw); go_simp; try with_reducible rfl)
              try simp only [Act.put, List.setIfInBounds_toArray, List.set_cons_zero, List.set_cons_succ, List.getElem_toArray, List.getElem_cons_zero, List.getElem_cons_succ]
              refine wpAnyH_take (i := 32) (v := .pointer (some ⟨bp, 0, none⟩)) rfl (by kernel_rfl) (by kernel_rfl) (by kernel_rfl) (fun _ _ _ h => h) (Or.inl ⟨by kernel_rfl, ?hy32b⟩) hHeld ?rest32b
              case hy32b => (intro w hSw; (try dsimp only at hSw); go_simp; try with_reducible rfl)
              try simp only [Act.put, List.setIfInBounds_toArray, List.set_cons_zero, List.set_cons_succ, List.getElem_toArray, List.getElem_cons_zero, List.getElem_cons_succ]
              refine wpAnyH_take (i := 33) (v := .pointer (some ⟨bp, 3, none⟩)) rfl (by kernel_rfl) (by kernel_rfl) (by kernel_rfl) (fun _ _ _ h => h) (Or.inl ⟨by kernel_rfl, ?hy33b⟩) hHeld ?rest33b
              case hy33b => (intro w hSw; (try dsimp only at hSw); go_simp; try with_reducible rfl)
              try simp only [Act.put, List.setIfInBounds_toArray, List.set_cons_zero, List.set_cons_succ, List.getElem_toArray, List.getElem_cons_zero, List.getElem_cons_succ]
              refine wpAnyH_take (i := 34) (v := .pointer (some ⟨bq, 0, none⟩)) rfl (by kernel_rfl) (by kernel_rfl) (by kernel_rfl) (fun _ _ _ h => h) (Or.inl ⟨by kernel_rfl, ?hy34b⟩) hHeld ?rest34b
              case hy34b => (intro w hSw; (try dsimp only at hSw); go_simp; try with_reducible rfl)
              try simp only [Act.put, List.setIfInBounds_toArray, List.set_cons_zero, List.set_cons_succ, List.getElem_toArray, List.getElem_cons_zero, List.getElem_cons_succ]
              refine wpAnyH_ready (rs := [30]) (by kernel_rfl) (by simp) ?_
              refine AllReadyH.cons rfl (fun K hK => ?_) AllReadyH.nil
              go_simp; refine KUs.out.mono ?_; rintro e w' ⟨rfl, hw⟩; obtain rfl := hw.symm; clear hw; go_wp2_with fail
              refine hK.out _ _ ?hS30b (fun hHeld => ?rest30b)
              case hS30b => exact CS.out _ BZ3.out
              clear hK K
              try simp only [Act.put, List.setIfInBounds_toArray, List.set_cons_zero, List.set_cons_succ, List.getElem_toArray, List.getElem_cons_zero, List.getElem_cons_succ]
              refine wpAnyH_ready (rs := [35]) (by kernel_rfl) (by simp) ?_
              refine AllReadyH.cons rfl (fun K hK => ?_) AllReadyH.nil
              go_simp; refine KUr.out.mono ?_; rintro e w' ⟨rfl, hw⟩; obtain rfl := hw.symm; clear hw; go_wp2_with fail
              refine hK.out _ _ ?hS35b (fun hHeld => ?rest35b)
              case hS35b => exact CS.out _ BZ3.out
              clear hK K
              try simp only [Act.put, List.setIfInBounds_toArray, List.set_cons_zero, List.set_cons_succ, List.getElem_toArray, List.getElem_cons_zero, List.getElem_cons_succ]
              refine wpAnyH_take (i := 36) (v := .bool true) rfl (by kernel_rfl) (by kernel_rfl) (by kernel_rfl) (fun _ _ _ h => h) (Or.inl ⟨by kernel_rfl, ?hy36b⟩) hHeld ?rest36b
              case hy36b => (intro w hSw; (try dsimp only at hSw); go_simp; try with_reducible rfl)
              try simp only [Act.put, List.setIfInBounds_toArray, List.set_cons_zero, List.set_cons_succ, List.getElem_toArray, List.getElem_cons_zero, List.getElem_cons_succ]
              refine wpAnyH_take (i := 37) (v := .bool true) rfl (by kernel_rfl) (by kernel_rfl) (by kernel_rfl) (fun _ _ _ h => h) (Or.inl ⟨by kernel_rfl, ?hy37b⟩) hHeld ?rest37b
              case hy37b => (intro w hSw; (try dsimp only at hSw); go_simp; try with_reducible rfl)
              try simp only [Act.put, List.setIfInBounds_toArray, List.set_cons_zero, List.set_cons_succ, List.getElem_toArray, List.getElem_cons_zero, List.getElem_cons_succ]
              refine wpAnyH_take (i := 38) (v := .bool true) rfl (by kernel_rfl) (by kernel_rfl) (by kernel_rfl) (fun _ _ _ h => h) (Or.inl ⟨by kernel_rfl, ?hy38b⟩) hHeld ?rest38b
              case hy38b => (intro w hSw; (try dsimp only at hSw); go_simp; try with_reducible rfl)
              try simp only [Act.put, List.setIfInBounds_toArray, List.set_cons_zero, List.set_cons_succ, List.getElem_toArray, List.getElem_cons_zero, List.getElem_cons_succ]
              refine wpAnyH_take (i := 39) (v := .pointer (some ⟨bp, 0, none⟩)) rfl (by kernel_rfl) (by kernel_rfl) (by kernel_rfl) (fun _ _ _ h => h) (Or.inl ⟨by kernel_rfl, ?hy39b⟩) hHeld ?rest39b
              case hy39b => (intro w hSw; (try dsimp only at hSw); go_simp; try with_reducible rfl)
              try simp only [Act.put, List.setIfInBounds_toArray, List.set_cons_zero, List.set_cons_succ, List.getElem_toArray, List.getElem_cons_zero, List.getElem_cons_succ]
              refine wpAnyH_take (i := 40) (v := .pointer (some ⟨bp, 0, none⟩)) rfl (by kernel_rfl) (by kernel_rfl) (by kernel_rfl) (fun _ _ _ h => h) (Or.inl ⟨by kernel_rfl, ?hy40b⟩) hHeld ?rest40b
              case hy40b => (intro w hSw; (try dsimp only at hSw); go_simp; try with_reducible rfl)
              try simp only [Act.put, List.setIfInBounds_toArray, List.set_cons_zero, List.set_cons_succ, List.getElem_toArray, List.getElem_cons_zero, List.getElem_cons_succ]
              refine wpAnyH_take (i := 41) (v := .pointer (some ⟨bp, 2, none⟩)) rfl (by kernel_rfl) (by kernel_rfl) (by kernel_rfl) (fun _ _ _ h => h) (Or.inl ⟨by kernel_rfl, ?hy41b⟩) hHeld ?rest41b
              case hy41b => (intro w hSw; (try dsimp only at hSw); go_simp; try with_reducible rfl)
              try simp only [Act.put, List.setIfInBounds_toArray, List.set_cons_zero, List.set_cons_succ, List.getElem_toArray, List.getElem_cons_zero, List.getElem_cons_succ]
              refine wpAnyH_take (i := 42) (v := .pointer (some ⟨bl, 0, none⟩)) rfl (by kernel_rfl) (by kernel_rfl) (by kernel_rfl) (fun _ _ _ h => h) (Or.inl ⟨by kernel_rfl, ?hy42b⟩) hHeld ?rest42b
              case hy42b => (intro w hSw; (try dsimp only at hSw); go_simp; try with_reducible rfl)
              try simp only [Act.put, List.setIfInBounds_toArray, List.set_cons_zero, List.set_cons_succ, List.getElem_toArray, List.getElem_cons_zero, List.getElem_cons_succ]
              refine wpAnyH_take (i := 44) (v := .pointer (some ⟨bp, 0, none⟩)) rfl (by kernel_rfl) (by kernel_rfl) (by kernel_rfl) (fun _ _ _ h => h) (Or.inl ⟨by kernel_rfl, ?hy44b⟩) hHeld ?rest44b
              case hy44b => (intro w hSw; (try dsimp only at hSw); go_simp; try with_reducible rfl)
              try simp only [Act.put, List.setIfInBounds_toArray, List.set_cons_zero, List.set_cons_succ, List.getElem_toArray, List.getElem_cons_zero, List.getElem_cons_succ]
              refine wpAnyH_take (i := 45) (v := .pointer (some ⟨bp, 0, none⟩)) rfl (by kernel_rfl) (by kernel_rfl) (by kernel_rfl) (fun _ _ _ h => h) (Or.inl ⟨by kernel_rfl, ?hy45b⟩) hHeld ?rest45b
              case hy45b => (intro w hSw; (try dsimp only at hSw); go_simp; try with_reducible rfl)
              try simp only [Act.put, List.setIfInBounds_toArray, List.set_cons_zero, List.set_cons_succ, List.getElem_toArray, List.getElem_cons_zero, List.getElem_cons_succ]
              refine wpAnyH_take (i := 46) (v := .pointer (some ⟨bp, 3, none⟩)) rfl (by kernel_rfl) (by kernel_rfl) (by kernel_rfl) (fun _ _ _ h => h) (Or.inl ⟨by kernel_rfl, ?hy46b⟩) hHeld ?rest46b
              case hy46b => (intro w hSw; (try dsimp only at hSw); go_simp; try with_reducible rfl)
              try simp only [Act.put, List.setIfInBounds_toArray, List.set_cons_zero, List.set_cons_succ, List.getElem_toArray, List.getElem_cons_zero, List.getElem_cons_succ]
              refine wpAnyH_take (i := 47) (v := .pointer (some ⟨bq, 0, none⟩)) rfl (by kernel_rfl) (by kernel_rfl) (by kernel_rfl) (fun _ _ _ h => h) (Or.inl ⟨by kernel_rfl, ?hy47b⟩) hHeld ?rest47b
              case hy47b => (intro w hSw; (try dsimp only at hSw); go_simp; try with_reducible rfl)
              try simp only [Act.put, List.setIfInBounds_toArray, List.set_cons_zero, List.set_cons_succ, List.getElem_toArray, List.getElem_cons_zero, List.getElem_cons_succ]
              refine wpAnyH_ready (rs := [43]) (by kernel_rfl) (by simp) ?_
              refine AllReadyH.cons rfl (fun K hK => ?_) AllReadyH.nil
              go_simp; refine KRo.out.mono ?_; rintro e w4 ⟨rfl, hb4⟩; have BZ4 : Hid (Below wz.heap.size wz w4) := BZ3.out.trans (hb4.mono BZ3.out.size); have B4 : Hid (Below w2.heap.size w2 w4) := B3.out.trans (hb4.mono B3.out.size); clear hb4; go_wp2_with fail
              refine hK.out _ _ ?hS43b (fun hHeld => ?rest43b)
              case hS43b => exact CS.out _ BZ4.out
              clear hK K
              try simp only [Act.put, List.setIfInBounds_toArray, List.set_cons_zero, List.set_cons_succ, List.getElem_toArray, List.getElem_cons_zero, List.getElem_cons_succ]
              refine wpAnyH_ready (rs := [48]) (by kernel_rfl) (by simp) ?_
              refine AllReadyH.cons rfl (fun K hK => ?_) AllReadyH.nil
              go_simp; refine (KRr.out w4 BZ4.out).mono ?_; rintro e w5 ⟨rfl, hb5⟩; have BZ5 : Hid (Below wz.heap.size wz w5) := BZ4.out.trans (hb5.mono BZ4.out.size); have B5 : Hid (Below w2.heap.size w2 w5) := B4.out.trans (hb5.mono B4.out.size); clear hb5; go_wp2_with fail
              refine hK.out _ _ ?hS48b (fun hHeld => ?rest48b)
              case hS48b => exact CS.out _ BZ5.out
              clear hK K
              try simp only [Act.put, List.setIfInBounds_toArray, List.set_cons_zero, List.set_cons_succ, List.getElem_toArray, List.getElem_cons_zero, List.getElem_cons_succ]
              refine wpAnyH_take (i := 49) (v := .bool true) rfl (by kernel_rfl) (by kernel_rfl) (by kernel_rfl) (fun _ _ _ h => h) (Or.inl ⟨by kernel_rfl, ?hy49b⟩) hHeld ?rest49b
              case hy49b => (intro w hSw; (try dsimp only at hSw); go_simp; try with_reducible rfl)
              try simp only [Act.put, List.setIfInBounds_toArray, List.set_cons_zero, List.set_cons_succ, List.getElem_toArray, List.getElem_cons_zero, List.getElem_cons_succ]
              refine wpAnyH_take (i := 50) (v := .bool true) rfl (by kernel_rfl) (by kernel_rfl) (by kernel_rfl) (fun _ _ _ h => h) (Or.inl ⟨by kernel_rfl, ?hy50b⟩) hHeld ?rest50b
              case hy50b => (intro w hSw; (try dsimp only at hSw); go_simp; try with_reducible rfl)
              try simp only [Act.put, List.setIfInBounds_toArray, List.set_cons_zero, List.set_cons_succ, List.getElem_toArray, List.getElem_cons_zero, List.getElem_cons_succ]
              refine wpAnyH_take (i := 51) (v := .bool true) rfl (by kernel_rfl) (by kernel_rfl) (by kernel_rfl) (fun _ _ _ h => h) (Or.inl ⟨by kernel_rfl, ?hy51b⟩) hHeld ?rest51b
              case hy51b => (intro w hSw; (try dsimp only at hSw); go_simp; try with_reducible rfl)
              try simp only [Act.put, List.setIfInBounds_toArray, List.set_cons_zero, List.set_cons_succ, List.getElem_toArray, List.getElem_cons_zero, List.getElem_cons_succ]
              refine wpAnyH_done (by kernel_rfl) ?_ _
              refine NoPanic.normal ?_

              try go_wp2_with fail
              go_meet
              case rel => exact ⟨rfl, B5⟩
          case rest =>
            obtain ⟨rfl, BX⟩ := hcut
            have R3 : Hid (RowsS wc wr.heap.size (.slice a2 nl c2) l.R) := R2.out.keep BX.out
            have B3 : Hid (Below wz.heap.size wz wc) := BZ2.out.trans (BX.out.mono BZ2.out.size)
            obtain ⟨h9, h9e⟩ : ∃ h, h = wr.heap.size := ⟨_, rfl⟩
            have hzr : wz.heap.size ≤ h9 := by rw [h9e]; exact BQ.out.size
            have R3' : Hid (RowsS wc h9 (.slice a2 nl c2) l.R) := by rw [h9e]; exact R3.out
            clear R3 h9e
            have hnl4 := HNL.out.2.2
            have HLn : Hid (l.R.length = nl) := HNL.out.1
            clear BX CS HLM HRL HRK HIL
            go_wp2_with fail
            go_loopg [139] nl (fun gg jv wq => ∃ (j : Nat) (L2 : List (List Int)), j ≤ nl ∧ gg = nl - j ∧ jv = .int .i64 (j : Int) ∧ Hid (RowsS wq h9 (.slice a2 nl c2) L2 ∧ L2.length = nl) ∧ Hid (Below wz.heap.size wz wq))
            case atStart => exact ⟨0, l.R, by omega, rfl, rfl, ⟨R3'.out, HLn.out⟩, B3⟩
            case round =>
              obtain ⟨j, L2, hjn, rfl, rfl, RQ, BQ2⟩ := hrel
              by_cases hj : j < nl
              · have f1 : decide ((j : Int) < (nl : Int)) = true := by rw [decide_eq_true_eq]; omega
                obtain ⟨g, hg⟩ : ∃ g, a2 = some ⟨g, 0, none⟩ := by
                  rcases RQ.out.1.2 with ⟨h, h0⟩ | ⟨g, cap, cur, h, _⟩
                  · have := RQ.out.2; omega
                  · injection h with h1 _ _
                    exact ⟨g, h1⟩
                subst hg
                have hgo : h9 ≤ g := (RQ.out.1.own g rfl).1
                have hc : wr.cell? ⟨g, j, none⟩ = some (.string (strOfNums (L2.getD j []))) := by
                  have h := RQ.out.1.slice
                  obtain ⟨a', c', e', _, hi, _, _⟩ := h
                  rcases hi with h | ⟨g', off, e2, h3⟩
                  · have := RQ.out.2; rw [h] at this; simp at this; omega
                  · injection e' with e1 _ _
                    rw [e2] at e1
                    have e3 := Option.some.inj e1
                    injection e3 with e4 e5 _
                    subst e4 e5
                    have := h3 j (by rw [RQ.out.2]; exact hj)
                    rwa [Nat.zero_add] at this
                have hfz : wr.frozen? ⟨g, j, none⟩ = false := World.ownsRow.frozenAt (n := L2.length) (show wr.ownsRow h9 9 1 (.slice (some ⟨g, 0, none⟩) L2.length c2) L2.length (sV L2) by have h := RQ.out.1; rw [← RQ.out.2] at h; exact h) j
                have RS : Hid (RowsS (wr.setCell ⟨g, j, none⟩ (.string (strOfNums [63]))) h9 (.slice (some ⟨g, 0, none⟩) nl c2) (L2.set j [63]) ∧ (L2.set j [63]).length = nl) := ⟨RQ.out.1.store RQ.out.2 j [63], by rw [List.length_set]; exact RQ.out.2⟩
                have BS : Hid (Below wz.heap.size wz (wr.setCell ⟨g, j, none⟩ (.string (strOfNums [63])))) := BQ2.out.setCell (show wz.heap.size ≤ g from Nat.le_trans hzr hgo) _
                generalize strOfNums (L2.getD j []) = old at *
                go_wp2_with fail
                go_roundg (nl - (j + 1))
                case measure => omega
                case rel => exact ⟨j + 1, _, by omega, rfl, by go_num, RS.out, BS.out⟩
              · have f1 : decide ((j : Int) < (nl : Int)) = false := by rw [decide_eq_false_iff_not]; omega
                go_wp2_with fail
                go_ret
                exact ⟨rfl, BQ2.out⟩

end Go.Proofs.YtkhopmlhinkpcaaGreat
