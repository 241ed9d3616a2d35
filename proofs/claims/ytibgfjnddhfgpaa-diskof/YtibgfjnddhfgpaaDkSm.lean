/- 'same' says true of a disk and the document's that stand alike. -/
import Derived.Test.YtibgfjnddhfgpaaDkPr
import Derived.Deep.DeepCutAuto
namespace Go.Proofs.Ytibgfjnddhfgpaa
open Go.ChangeShapes Go.WideShapes Go.ChangeAt Go.RowKit Go.Deep Go.Maps
set_option linter.unusedVariables false
theorem InW.keep {w w' : World} {a : Option Addr} {l : List Wt} (h : InW w a l) (hb : Below w.heap.size w w') : InW w' a l := by
  rcases h with h | ⟨g, off, rfl, hg, hc⟩
  · exact .inl h
  · refine .inr ⟨g, off, rfl, Nat.lt_of_lt_of_le hg hb.size, fun i x hx => ?_⟩
    have := hc i x hx
    exact ⟨(hb.cell (p := ⟨g, _, none⟩) hg).trans this.1, (hb.cell (p := ⟨g, _, none⟩) hg).trans this.2⟩
theorem Img.set {w : World} {B go n : Nat} {V : List (Nat × Nat)} {L : List (List Int)} (h : Img w B go n V L) (j : Nat) (p : Nat × Nat) (x : List Int) (hp : V[j]? = some p) (hx : L[j]? = some x) (k : Nat) (y : Int) : Img (w.setCell ⟨p.1, k, none⟩ (.int .u8 y)) B go n V (L.set j (x.set k y)) := by
  have hgr := grown_set w p.1 k (.int .u8 y)
  have hmem := List.mem_of_getElem? hp
  have hlt := h.lt
  refine ⟨ownsRow_kept h.row fun q hq => ?_, h.len, fun i p' hp' => ?_, h.nodup, h.off⟩
  · have e : go = q := by simpa [Value.ownBlock] using hq
    subst e
    exact hgr.block _ hlt.2.1 (by have := h.off p hmem; intro e; exact this (Option.some.inj e).symm)
  · obtain ⟨x', hx', ho'⟩ := h.own i p' hp'
    by_cases e : i = j
    · subst e
      obtain rfl : p' = p := Option.some.inj (hp'.symm.trans hp)
      obtain rfl : x' = x := Option.some.inj (hx'.symm.trans hx)
      have h64 : x'.length = 64 := by
        have := ho'.holds.2.1
        simpa [sv] using this
      exact ⟨_, by rw [List.getElem?_set_self (List.getElem?_eq_some_iff.1 hx).1], Owned.set ho' h64 k y⟩
    · refine ⟨x', by rw [List.getElem?_set_ne (fun e' => e e'.symm)]; exact hx', owned_kept ho' fun q hq => ?_⟩
      have e2 : p'.1 = q := by simpa [sv, Value.ownBlock] using hq
      subst e2
      refine hgr.block _ (hlt.2.2 p' (List.mem_of_getElem? hp')).2 fun e3 => ?_
      have e4 : p.1 = p'.1 := (Option.some.inj e3).symm
      have h1 : (V.map (·.1))[i]? = some p'.1 := by rw [List.getElem?_map, hp']; rfl
      have h2 : (V.map (·.1))[j]? = some p'.1 := by rw [List.getElem?_map, hp, ← e4]; rfl
      exact e ((List.getElem?_inj (List.getElem?_eq_some_iff.1 h1).1 h.nodup).1 (h1.trans h2.symm))
set_option maxRecDepth 100000 in
set_option maxHeartbeats 8000000 in
theorem same_is {w wz : World} {P : Nat → Prop} {d r N : Nat} {s : Ds} (T : Pr w wz P d r N s s) (hN : N ≤ 1000000) (h4 : s.D.length ≤ 4096) (hW : (wa s.D.length s.W).length ≤ 1000000000) :
    Calls Try.prog 15 #[.pointer (some ⟨d, 0, none⟩), .pointer (some ⟨r, 0, none⟩)] wz fun e w' => e = .returned (.bool true) ∧ Below wz.heap.size wz w' := by
  have TK : ∀ W, Below wz.heap.size wz W → Pr w W (fun k => P k ∨ (wz.heap.size ≤ k ∧ k < W.heap.size)) d r N s s := fun W hb => T.keep hb
  obtain ⟨aB, cB, e0, e3, e4, eR⟩ := T.cells
  have hlt := T.lt
  obtain ⟨n, hn⟩ : ∃ n, s.D.length = n := ⟨_, rfl⟩
  obtain ⟨nw, hnw⟩ : ∃ m, (wa s.D.length s.W).length = m := ⟨_, rfl⟩
  obtain ⟨wl, hwl⟩ : ∃ l, wa s.D.length s.W = l := ⟨_, rfl⟩
  obtain ⟨up, hup⟩ : ∃ u, s.up = u := ⟨_, rfl⟩
  obtain ⟨dn, hdn⟩ : ∃ u, s.dn = u := ⟨_, rfl⟩
  have KB : Hid (∀ W, Below wz.heap.size wz W → Calls Try.prog 16 #[.pointer (some ⟨d, 0, none⟩)] W fun e w' => e = .returned (.int .i64 (n : Int)) ∧ w' = W) := fun W hb => by rw [← hn]; exact pr_blocks (TK W hb)
  have KU : Hid (∀ W, Below wz.heap.size wz W → Calls Try.prog 24 #[.pointer (some ⟨d, 0, none⟩)] W fun e w' => e = .returned (.bool up) ∧ w' = W) := fun W hb => by rw [← hup]; exact pr_up (TK W hb)
  have KD : Hid (∀ W, Below wz.heap.size wz W → Calls Try.prog 27 #[.pointer (some ⟨d, 0, none⟩)] W fun e w' => e = .returned (.int .i64 dn) ∧ w' = W) := fun W hb => by rw [← hdn]; exact pr_done (TK W hb)
  have KW : Hid (∀ W, Below wz.heap.size wz W → Calls Try.prog 23 #[.pointer (some ⟨d, 0, none⟩)] W fun e w' => ∃ g c, e = .returned (.slice (some ⟨g, 0, none⟩) nw c) ∧ InW w' (some ⟨g, 0, none⟩) wl ∧ Below W.heap.size W w') := fun W hb => by
    refine (pr_waiting (TK W hb) hN).mono ?_
    rintro e w' ⟨g, c, rfl, h1, _, h2⟩
    exact ⟨g, c, by rw [hnw], by rw [← hwl]; exact h1, h2⟩
  have KR : Hid (∀ W, Below wz.heap.size wz W → Calls Try.prog 42 #[.pointer (some ⟨r, 0, none⟩)] W fun e w' => ∃ a c, e = .returned (.slice a nw c) ∧ InW w' a wl ∧ Below W.heap.size W w') := fun W hb => by
    refine (pr_rwaiting (TK W hb) hN).mono ?_
    rintro e w' ⟨a, c, rfl, h1, h2⟩
    exact ⟨a, c, by rw [hnw], by rw [← hwl]; exact h1, h2⟩
  have KI : Hid (Calls Try.prog 21 #[.pointer (some ⟨d, 0, none⟩)] wz fun e w' => ∃ go V, e = .returned (.slice (some ⟨go, 0, none⟩) n n) ∧ V.length = n ∧ Img w' wz.heap.size go n V s.D ∧ Below wz.heap.size wz w') := by
    have := pr_image T
    rw [hn] at this
    exact this
  have WL : Hid (wl.length = nw ∧ nw ≤ 1000000000) := ⟨by rw [← hwl, hnw], by rw [← hnw]; exact hW⟩
  have HU : Hid ((up == !up) = false) := by cases up <;> rfl
  rw [hn] at e0 eR
  rw [hup] at e3
  rw [hdn] at e4
  have CC : Hid (∀ W, Below wz.heap.size wz W → W.cell? ⟨r, 0, none⟩ = some (.slice aB n cB) ∧ W.cell? ⟨r, 3, none⟩ = some (.bool (!up)) ∧ W.cell? ⟨r, 4, none⟩ = some (.int .i64 dn)) := fun W hb => ⟨(hb.cell (p := ⟨r, 0, none⟩) hlt.2).trans e0, (hb.cell (p := ⟨r, 3, none⟩) hlt.2).trans e3, (hb.cell (p := ⟨r, 4, none⟩) hlt.2).trans e4⟩
  have RT : Hid (∀ W, Below wz.heap.size wz W → RowT W 0 (.slice aB n cB) s.D) := fun W hb => eR.keep hb
  have HN : Hid (s.D.length = n ∧ n ≤ 4096) := ⟨hn, by rw [← hn]; exact h4⟩
  generalize s.D = DD at *
  clear TK T e0 e3 e4 eR hn hnw hwl hup hdn h4 hW hlt
  go_enter Try.func15, Try.ntmps15
  go_wp2_with fail
  refine KI.out.mono ?_
  rintro e w1 ⟨go, V, rfl, hV, hI, hb⟩
  have BW1 : Hid (Below wz.heap.size wz w1) := hb
  have HV : Hid (V.length = n) := hV
  have IM : Hid (Img w1 wz.heap.size go n V DD) := hI
  clear hV hI hb
  have UP : ∀ W, Below w1.heap.size w1 W → Below wz.heap.size wz W := fun W hb => BW1.out.trans (hb.mono BW1.out.size)
  have C0 : Hid (∀ W, Below wz.heap.size wz W → W.cell? ⟨r, 0, none⟩ = some (.slice aB n cB) ∧ W.cell? ⟨r, 3, none⟩ = some (.bool (!up)) ∧ W.cell? ⟨r, 4, none⟩ = some (.int .i64 dn)) := CC.out
  replace KB : Hid (∀ W, Below w1.heap.size w1 W → _) := fun W hb => KB.out W (UP W hb)
  replace KU : Hid (∀ W, Below w1.heap.size w1 W → _) := fun W hb => KU.out W (UP W hb)
  replace KD : Hid (∀ W, Below w1.heap.size w1 W → _) := fun W hb => KD.out W (UP W hb)
  replace KW : Hid (∀ W, Below w1.heap.size w1 W → _) := fun W hb => KW.out W (UP W hb)
  replace KR : Hid (∀ W, Below w1.heap.size w1 W → _) := fun W hb => KR.out W (UP W hb)
  replace CC : Hid (∀ W, Below w1.heap.size w1 W → _) := fun W hb => CC.out W (UP W hb)
  clear UP
  go_upto_region 2 with fail
  go_cut [53] (fun c wx => c = .bool false ∧ Hid (Below w1.heap.size w1 wx))
  case first =>
    refine wp_region_noPanic ?_
    refine wp_region_held_drew (S := (fun W : World => Below w1.heap.size w1 W)) (by kernel_rfl) ?hSaz (fun hHeld => ?restaz)
    case hSaz => exact ⟨rfl, rfl, rfl, Nat.le_refl _, fun _ _ => rfl⟩
    case restaz =>
    generalize World.drew w1 = u0 at hHeld ⊢
    refine wpAnyH_take (i := 0) (v := .slice (some ⟨go, 0, none⟩) n n) rfl (by kernel_rfl) (by kernel_rfl) (by kernel_rfl) (fun _ _ _ h => h) (Or.inl ⟨by kernel_rfl, ?hy0⟩) hHeld ?rest0
    case hy0 => (intro u hSu; clear hSu; go_simp; try first | with_reducible rfl | simp [HU.out])
    case rest0 =>
    try simp only [Act.put, List.setIfInBounds_toArray, List.set_cons_zero, List.set_cons_succ, List.getElem_toArray, List.getElem_cons_zero]
    refine wpAnyH_take (i := 1) (v := .int .i64 (n : Int)) rfl (by kernel_rfl) (by kernel_rfl) (by kernel_rfl) (fun _ _ _ h => h) (Or.inl ⟨by kernel_rfl, ?hy1⟩) hHeld ?rest1
    case hy1 => (intro u hSu; clear hSu; go_simp; try first | with_reducible rfl | simp [HU.out])
    case rest1 =>
    try simp only [Act.put, List.setIfInBounds_toArray, List.set_cons_zero, List.set_cons_succ, List.getElem_toArray, List.getElem_cons_zero, List.getElem_cons_succ]
    refine wpAnyH_take (i := 2) (v := .pointer (some ⟨r, 0, none⟩)) rfl (by kernel_rfl) (by kernel_rfl) (by kernel_rfl) (fun _ _ _ h => h) (Or.inl ⟨by kernel_rfl, ?hy2⟩) hHeld ?rest2
    case hy2 => (intro u hSu; clear hSu; go_simp; try first | with_reducible rfl | simp [HU.out])
    case rest2 =>
    try simp only [Act.put, List.setIfInBounds_toArray, List.set_cons_zero, List.set_cons_succ, List.getElem_toArray, List.getElem_cons_zero, List.getElem_cons_succ]
    refine wpAnyH_take (i := 3) (v := .pointer (some ⟨r, 0, none⟩)) rfl (by kernel_rfl) (by kernel_rfl) (by kernel_rfl) (fun _ _ _ h => h) (Or.inl ⟨by kernel_rfl, ?hy3⟩) hHeld ?rest3
    case hy3 => (intro u hSu; clear hSu; go_simp; try first | with_reducible rfl | simp [HU.out])
    case rest3 =>
    try simp only [Act.put, List.setIfInBounds_toArray, List.set_cons_zero, List.set_cons_succ, List.getElem_toArray, List.getElem_cons_zero, List.getElem_cons_succ]
    refine wpAnyH_take (i := 4) (v := .pointer (some ⟨r, 0, none⟩)) rfl (by kernel_rfl) (by kernel_rfl) (by kernel_rfl) (fun _ _ _ h => h) (Or.inl ⟨by kernel_rfl, ?hy4⟩) hHeld ?rest4
    case hy4 => (intro u hSu; clear hSu; go_simp; try first | with_reducible rfl | simp [HU.out])
    case rest4 =>
    try simp only [Act.put, List.setIfInBounds_toArray, List.set_cons_zero, List.set_cons_succ, List.getElem_toArray, List.getElem_cons_zero, List.getElem_cons_succ]
    refine wpAnyH_take (i := 5) (v := .slice aB n cB) rfl (by kernel_rfl) (by kernel_rfl) (by kernel_rfl) (fun _ _ _ h => h) (Or.inl ⟨by kernel_rfl, ?hy5⟩) hHeld ?rest5
    case hy5 => (intro u hSu; have k0 := (CC.out u hSu).1; clear hSu; go_simp; try first | with_reducible rfl | simp [HU.out])
    case rest5 =>
    try simp only [Act.put, List.setIfInBounds_toArray, List.set_cons_zero, List.set_cons_succ, List.getElem_toArray, List.getElem_cons_zero, List.getElem_cons_succ]
    refine wpAnyH_take (i := 6) (v := .int .i64 (n : Int)) rfl (by kernel_rfl) (by kernel_rfl) (by kernel_rfl) (fun _ _ _ h => h) (Or.inl ⟨by kernel_rfl, ?hy6⟩) hHeld ?rest6
    case hy6 => (intro u hSu; clear hSu; go_simp; try first | with_reducible rfl | simp [HU.out])
    case rest6 =>
    try simp only [Act.put, List.setIfInBounds_toArray, List.set_cons_zero, List.set_cons_succ, List.getElem_toArray, List.getElem_cons_zero, List.getElem_cons_succ]
    refine wpAnyH_take (i := 7) (v := .bool false) rfl (by kernel_rfl) (by kernel_rfl) (by kernel_rfl) (fun _ _ _ h => h) (Or.inl ⟨by kernel_rfl, ?hy7⟩) hHeld ?rest7
    case hy7 => (intro u hSu; clear hSu; go_simp; try first | with_reducible rfl | simp [HU.out])
    case rest7 =>
    try simp only [Act.put, List.setIfInBounds_toArray, List.set_cons_zero, List.set_cons_succ, List.getElem_toArray, List.getElem_cons_zero, List.getElem_cons_succ]
    refine wpAnyH_take (i := 8) (v := .bool false) rfl (by kernel_rfl) (by kernel_rfl) (by kernel_rfl) (fun _ _ _ h => h) (Or.inl ⟨by kernel_rfl, ?hy8⟩) hHeld ?rest8
    case hy8 => (intro u hSu; clear hSu; go_simp; try first | with_reducible rfl | simp [HU.out])
    case rest8 =>
    try simp only [Act.put, List.setIfInBounds_toArray, List.set_cons_zero, List.set_cons_succ, List.getElem_toArray, List.getElem_cons_zero, List.getElem_cons_succ]
    refine wpAnyH_take (i := 9) (v := .pointer (some ⟨d, 0, none⟩)) rfl (by kernel_rfl) (by kernel_rfl) (by kernel_rfl) (fun _ _ _ h => h) (Or.inl ⟨by kernel_rfl, ?hy9⟩) hHeld ?rest9
    case hy9 => (intro u hSu; clear hSu; go_simp; try first | with_reducible rfl | simp [HU.out])
    case rest9 =>
    try simp only [Act.put, List.setIfInBounds_toArray, List.set_cons_zero, List.set_cons_succ, List.getElem_toArray, List.getElem_cons_zero, List.getElem_cons_succ]
    refine wpAnyH_take (i := 11) (v := .pointer (some ⟨r, 0, none⟩)) rfl (by kernel_rfl) (by kernel_rfl) (by kernel_rfl) (fun _ _ _ h => h) (Or.inl ⟨by kernel_rfl, ?hy11⟩) hHeld ?rest11
    case hy11 => (intro u hSu; clear hSu; go_simp; try first | with_reducible rfl | simp [HU.out])
    case rest11 =>
    try simp only [Act.put, List.setIfInBounds_toArray, List.set_cons_zero, List.set_cons_succ, List.getElem_toArray, List.getElem_cons_zero, List.getElem_cons_succ]
    refine wpAnyH_take (i := 12) (v := .pointer (some ⟨r, 0, none⟩)) rfl (by kernel_rfl) (by kernel_rfl) (by kernel_rfl) (fun _ _ _ h => h) (Or.inl ⟨by kernel_rfl, ?hy12⟩) hHeld ?rest12
    case hy12 => (intro u hSu; clear hSu; go_simp; try first | with_reducible rfl | simp [HU.out])
    case rest12 =>
    try simp only [Act.put, List.setIfInBounds_toArray, List.set_cons_zero, List.set_cons_succ, List.getElem_toArray, List.getElem_cons_zero, List.getElem_cons_succ]
    refine wpAnyH_take (i := 13) (v := .pointer (some ⟨r, 0, none⟩)) rfl (by kernel_rfl) (by kernel_rfl) (by kernel_rfl) (fun _ _ _ h => h) (Or.inl ⟨by kernel_rfl, ?hy13⟩) hHeld ?rest13
    case hy13 => (intro u hSu; clear hSu; go_simp; try first | with_reducible rfl | simp [HU.out])
    case rest13 =>
    try simp only [Act.put, List.setIfInBounds_toArray, List.set_cons_zero, List.set_cons_succ, List.getElem_toArray, List.getElem_cons_zero, List.getElem_cons_succ]
    refine wpAnyH_take (i := 14) (v := .slice aB n cB) rfl (by kernel_rfl) (by kernel_rfl) (by kernel_rfl) (fun _ _ _ h => h) (Or.inl ⟨by kernel_rfl, ?hy14⟩) hHeld ?rest14
    case hy14 => (intro u hSu; have k0 := (CC.out u hSu).1; clear hSu; go_simp; try first | with_reducible rfl | simp [HU.out])
    case rest14 =>
    try simp only [Act.put, List.setIfInBounds_toArray, List.set_cons_zero, List.set_cons_succ, List.getElem_toArray, List.getElem_cons_zero, List.getElem_cons_succ]
    refine wpAnyH_take (i := 15) (v := .int .i64 (n : Int)) rfl (by kernel_rfl) (by kernel_rfl) (by kernel_rfl) (fun _ _ _ h => h) (Or.inl ⟨by kernel_rfl, ?hy15⟩) hHeld ?rest15
    case hy15 => (intro u hSu; clear hSu; go_simp; try first | with_reducible rfl | simp [HU.out])
    case rest15 =>
    try simp only [Act.put, List.setIfInBounds_toArray, List.set_cons_zero, List.set_cons_succ, List.getElem_toArray, List.getElem_cons_zero, List.getElem_cons_succ]
    refine wpAnyH_ready (rs := [10]) (by kernel_rfl) (by simp) ?_
    refine AllReadyH.cons rfl (fun K hK => ?_) AllReadyH.nil
    go_simp; refine (KB.out _ hHeld).mono ?_; rintro e w' ⟨rfl, hw⟩; obtain rfl := hw.symm; clear hw; go_wp2_with fail
    refine hK.out _ _ ?hS10z (fun hHeld => ?rest10z)
    case hS10z => exact hHeld
    clear hK K
    try simp only [Act.put, List.setIfInBounds_toArray, List.set_cons_zero, List.set_cons_succ, List.getElem_toArray, List.getElem_cons_zero, List.getElem_cons_succ]
    refine wpAnyH_take (i := 16) (v := .bool false) rfl (by kernel_rfl) (by kernel_rfl) (by kernel_rfl) (fun _ _ _ h => h) (Or.inl ⟨by kernel_rfl, ?hy16⟩) hHeld ?rest16
    case hy16 => (intro u hSu; clear hSu; go_simp; try first | with_reducible rfl | simp [HU.out])
    case rest16 =>
    try simp only [Act.put, List.setIfInBounds_toArray, List.set_cons_zero, List.set_cons_succ, List.getElem_toArray, List.getElem_cons_zero, List.getElem_cons_succ]
    refine wpAnyH_take (i := 17) (v := .bool false) rfl (by kernel_rfl) (by kernel_rfl) (by kernel_rfl) (fun _ _ _ h => h) (Or.inl ⟨by kernel_rfl, ?hy17⟩) hHeld ?rest17
    case hy17 => (intro u hSu; clear hSu; go_simp; try first | with_reducible rfl | simp [HU.out])
    case rest17 =>
    try simp only [Act.put, List.setIfInBounds_toArray, List.set_cons_zero, List.set_cons_succ, List.getElem_toArray, List.getElem_cons_zero, List.getElem_cons_succ]
    refine wpAnyH_take (i := 18) (v := .bool false) rfl (by kernel_rfl) (by kernel_rfl) (by kernel_rfl) (fun _ _ _ h => h) (Or.inl ⟨by kernel_rfl, ?hy18⟩) hHeld ?rest18
    case hy18 => (intro u hSu; clear hSu; go_simp; try first | with_reducible rfl | simp [HU.out])
    case rest18 =>
    try simp only [Act.put, List.setIfInBounds_toArray, List.set_cons_zero, List.set_cons_succ, List.getElem_toArray, List.getElem_cons_zero, List.getElem_cons_succ]
    refine wpAnyH_take (i := 19) (v := .pointer (some ⟨d, 0, none⟩)) rfl (by kernel_rfl) (by kernel_rfl) (by kernel_rfl) (fun _ _ _ h => h) (Or.inl ⟨by kernel_rfl, ?hy19⟩) hHeld ?rest19
    case hy19 => (intro u hSu; clear hSu; go_simp; try first | with_reducible rfl | simp [HU.out])
    case rest19 =>
    try simp only [Act.put, List.setIfInBounds_toArray, List.set_cons_zero, List.set_cons_succ, List.getElem_toArray, List.getElem_cons_zero, List.getElem_cons_succ]
    refine wpAnyH_take (i := 21) (v := .pointer (some ⟨r, 0, none⟩)) rfl (by kernel_rfl) (by kernel_rfl) (by kernel_rfl) (fun _ _ _ h => h) (Or.inl ⟨by kernel_rfl, ?hy21⟩) hHeld ?rest21
    case hy21 => (intro u hSu; clear hSu; go_simp; try first | with_reducible rfl | simp [HU.out])
    case rest21 =>
    try simp only [Act.put, List.setIfInBounds_toArray, List.set_cons_zero, List.set_cons_succ, List.getElem_toArray, List.getElem_cons_zero, List.getElem_cons_succ]
    refine wpAnyH_take (i := 22) (v := .pointer (some ⟨r, 0, none⟩)) rfl (by kernel_rfl) (by kernel_rfl) (by kernel_rfl) (fun _ _ _ h => h) (Or.inl ⟨by kernel_rfl, ?hy22⟩) hHeld ?rest22
    case hy22 => (intro u hSu; clear hSu; go_simp; try first | with_reducible rfl | simp [HU.out])
    case rest22 =>
    try simp only [Act.put, List.setIfInBounds_toArray, List.set_cons_zero, List.set_cons_succ, List.getElem_toArray, List.getElem_cons_zero, List.getElem_cons_succ]
    refine wpAnyH_take (i := 23) (v := .pointer (some ⟨r, 3, none⟩)) rfl (by kernel_rfl) (by kernel_rfl) (by kernel_rfl) (fun _ _ _ h => h) (Or.inl ⟨by kernel_rfl, ?hy23⟩) hHeld ?rest23
    case hy23 => (intro u hSu; clear hSu; go_simp; try first | with_reducible rfl | simp [HU.out])
    case rest23 =>
    try simp only [Act.put, List.setIfInBounds_toArray, List.set_cons_zero, List.set_cons_succ, List.getElem_toArray, List.getElem_cons_zero, List.getElem_cons_succ]
    refine wpAnyH_take (i := 24) (v := .bool (!up)) rfl (by kernel_rfl) (by kernel_rfl) (by kernel_rfl) (fun _ _ _ h => h) (Or.inl ⟨by kernel_rfl, ?hy24⟩) hHeld ?rest24
    case hy24 => (intro u hSu; have k0 := (CC.out u hSu).2.1; clear hSu; go_simp; try first | with_reducible rfl | simp [HU.out])
    case rest24 =>
    try simp only [Act.put, List.setIfInBounds_toArray, List.set_cons_zero, List.set_cons_succ, List.getElem_toArray, List.getElem_cons_zero, List.getElem_cons_succ]
    refine wpAnyH_ready (rs := [20]) (by kernel_rfl) (by simp) ?_
    refine AllReadyH.cons rfl (fun K hK => ?_) AllReadyH.nil
    go_simp; refine (KU.out _ hHeld).mono ?_; rintro e w' ⟨rfl, hw⟩; obtain rfl := hw.symm; clear hw; go_wp2_with fail
    refine hK.out _ _ ?hS20z (fun hHeld => ?rest20z)
    case hS20z => exact hHeld
    clear hK K
    try simp only [Act.put, List.setIfInBounds_toArray, List.set_cons_zero, List.set_cons_succ, List.getElem_toArray, List.getElem_cons_zero, List.getElem_cons_succ]
    refine wpAnyH_take (i := 25) (v := .bool false) rfl (by kernel_rfl) (by kernel_rfl) (by kernel_rfl) (fun _ _ _ h => h) (Or.inl ⟨by kernel_rfl, ?hy25⟩) hHeld ?rest25
    case hy25 => (intro u hSu; clear hSu; go_simp; try first | with_reducible rfl | simp [HU.out])
    case rest25 =>
    try simp only [Act.put, List.setIfInBounds_toArray, List.set_cons_zero, List.set_cons_succ, List.getElem_toArray, List.getElem_cons_zero, List.getElem_cons_succ]
    refine wpAnyH_take (i := 26) (v := .bool false) rfl (by kernel_rfl) (by kernel_rfl) (by kernel_rfl) (fun _ _ _ h => h) (Or.inl ⟨by kernel_rfl, ?hy26⟩) hHeld ?rest26
    case hy26 => (intro u hSu; clear hSu; go_simp; try first | with_reducible rfl | simp [HU.out])
    case rest26 =>
    try simp only [Act.put, List.setIfInBounds_toArray, List.set_cons_zero, List.set_cons_succ, List.getElem_toArray, List.getElem_cons_zero, List.getElem_cons_succ]
    refine wpAnyH_take (i := 27) (v := .bool false) rfl (by kernel_rfl) (by kernel_rfl) (by kernel_rfl) (fun _ _ _ h => h) (Or.inl ⟨by kernel_rfl, ?hy27⟩) hHeld ?rest27
    case hy27 => (intro u hSu; clear hSu; go_simp; try first | with_reducible rfl | simp [HU.out])
    case rest27 =>
    try simp only [Act.put, List.setIfInBounds_toArray, List.set_cons_zero, List.set_cons_succ, List.getElem_toArray, List.getElem_cons_zero, List.getElem_cons_succ]
    refine wpAnyH_take (i := 28) (v := .pointer (some ⟨d, 0, none⟩)) rfl (by kernel_rfl) (by kernel_rfl) (by kernel_rfl) (fun _ _ _ h => h) (Or.inl ⟨by kernel_rfl, ?hy28⟩) hHeld ?rest28
    case hy28 => (intro u hSu; clear hSu; go_simp; try first | with_reducible rfl | simp [HU.out])
    case rest28 =>
    try simp only [Act.put, List.setIfInBounds_toArray, List.set_cons_zero, List.set_cons_succ, List.getElem_toArray, List.getElem_cons_zero, List.getElem_cons_succ]
    refine wpAnyH_take (i := 30) (v := .pointer (some ⟨r, 0, none⟩)) rfl (by kernel_rfl) (by kernel_rfl) (by kernel_rfl) (fun _ _ _ h => h) (Or.inl ⟨by kernel_rfl, ?hy30⟩) hHeld ?rest30
    case hy30 => (intro u hSu; clear hSu; go_simp; try first | with_reducible rfl | simp [HU.out])
    case rest30 =>
    try simp only [Act.put, List.setIfInBounds_toArray, List.set_cons_zero, List.set_cons_succ, List.getElem_toArray, List.getElem_cons_zero, List.getElem_cons_succ]
    refine wpAnyH_take (i := 31) (v := .pointer (some ⟨r, 0, none⟩)) rfl (by kernel_rfl) (by kernel_rfl) (by kernel_rfl) (fun _ _ _ h => h) (Or.inl ⟨by kernel_rfl, ?hy31⟩) hHeld ?rest31
    case hy31 => (intro u hSu; clear hSu; go_simp; try first | with_reducible rfl | simp [HU.out])
    case rest31 =>
    try simp only [Act.put, List.setIfInBounds_toArray, List.set_cons_zero, List.set_cons_succ, List.getElem_toArray, List.getElem_cons_zero, List.getElem_cons_succ]
    refine wpAnyH_take (i := 32) (v := .pointer (some ⟨r, 4, none⟩)) rfl (by kernel_rfl) (by kernel_rfl) (by kernel_rfl) (fun _ _ _ h => h) (Or.inl ⟨by kernel_rfl, ?hy32⟩) hHeld ?rest32
    case hy32 => (intro u hSu; clear hSu; go_simp; try first | with_reducible rfl | simp [HU.out])
    case rest32 =>
    try simp only [Act.put, List.setIfInBounds_toArray, List.set_cons_zero, List.set_cons_succ, List.getElem_toArray, List.getElem_cons_zero, List.getElem_cons_succ]
    refine wpAnyH_take (i := 33) (v := .int .i64 dn) rfl (by kernel_rfl) (by kernel_rfl) (by kernel_rfl) (fun _ _ _ h => h) (Or.inl ⟨by kernel_rfl, ?hy33⟩) hHeld ?rest33
    case hy33 => (intro u hSu; have k0 := (CC.out u hSu).2.2; clear hSu; go_simp; try first | with_reducible rfl | simp [HU.out])
    case rest33 =>
    try simp only [Act.put, List.setIfInBounds_toArray, List.set_cons_zero, List.set_cons_succ, List.getElem_toArray, List.getElem_cons_zero, List.getElem_cons_succ]
    refine wpAnyH_ready (rs := [29]) (by kernel_rfl) (by simp) ?_
    refine AllReadyH.cons rfl (fun K hK => ?_) AllReadyH.nil
    go_simp; refine (KD.out _ hHeld).mono ?_; rintro e w' ⟨rfl, hw⟩; obtain rfl := hw.symm; clear hw; go_wp2_with fail
    refine hK.out _ _ ?hS29z (fun hHeld => ?rest29z)
    case hS29z => exact hHeld
    clear hK K
    try simp only [Act.put, List.setIfInBounds_toArray, List.set_cons_zero, List.set_cons_succ, List.getElem_toArray, List.getElem_cons_zero, List.getElem_cons_succ]
    refine wpAnyH_take (i := 34) (v := .bool false) rfl (by kernel_rfl) (by kernel_rfl) (by kernel_rfl) (fun _ _ _ h => h) (Or.inl ⟨by kernel_rfl, ?hy34⟩) hHeld ?rest34
    case hy34 => (intro u hSu; clear hSu; go_simp; try first | with_reducible rfl | simp [HU.out])
    case rest34 =>
    try simp only [Act.put, List.setIfInBounds_toArray, List.set_cons_zero, List.set_cons_succ, List.getElem_toArray, List.getElem_cons_zero, List.getElem_cons_succ]
    refine wpAnyH_take (i := 35) (v := .bool false) rfl (by kernel_rfl) (by kernel_rfl) (by kernel_rfl) (fun _ _ _ h => h) (Or.inl ⟨by kernel_rfl, ?hy35⟩) hHeld ?rest35
    case hy35 => (intro u hSu; clear hSu; go_simp; try first | with_reducible rfl | simp [HU.out])
    case rest35 =>
    try simp only [Act.put, List.setIfInBounds_toArray, List.set_cons_zero, List.set_cons_succ, List.getElem_toArray, List.getElem_cons_zero, List.getElem_cons_succ]
    refine wpAnyH_take (i := 36) (v := .bool false) rfl (by kernel_rfl) (by kernel_rfl) (by kernel_rfl) (fun _ _ _ h => h) (Or.inl ⟨by kernel_rfl, ?hy36⟩) hHeld ?rest36
    case hy36 => (intro u hSu; clear hSu; go_simp; try first | with_reducible rfl | simp [HU.out])
    case rest36 =>
    try simp only [Act.put, List.setIfInBounds_toArray, List.set_cons_zero, List.set_cons_succ, List.getElem_toArray, List.getElem_cons_zero, List.getElem_cons_succ]
    refine wpAnyH_take (i := 37) (v := .pointer (some ⟨d, 0, none⟩)) rfl (by kernel_rfl) (by kernel_rfl) (by kernel_rfl) (fun _ _ _ h => h) (Or.inl ⟨by kernel_rfl, ?hy37⟩) hHeld ?rest37
    case hy37 => (intro u hSu; clear hSu; go_simp; try first | with_reducible rfl | simp [HU.out])
    case rest37 =>
    try simp only [Act.put, List.setIfInBounds_toArray, List.set_cons_zero, List.set_cons_succ, List.getElem_toArray, List.getElem_cons_zero, List.getElem_cons_succ]
    refine wpAnyH_take (i := 39) (v := .pointer (some ⟨r, 0, none⟩)) rfl (by kernel_rfl) (by kernel_rfl) (by kernel_rfl) (fun _ _ _ h => h) (Or.inl ⟨by kernel_rfl, ?hy39⟩) hHeld ?rest39
    case hy39 => (intro u hSu; clear hSu; go_simp; try first | with_reducible rfl | simp [HU.out])
    case rest39 =>
    try simp only [Act.put, List.setIfInBounds_toArray, List.set_cons_zero, List.set_cons_succ, List.getElem_toArray, List.getElem_cons_zero, List.getElem_cons_succ]
    refine wpAnyH_ready (rs := [38]) (by kernel_rfl) (by simp) ?_
    refine AllReadyH.cons rfl (fun K hK => ?_) AllReadyH.nil
    go_simp
    refine (KW.out _ hHeld).mono ?_
    rintro e w5 ⟨g, c, rfl, hi, hb⟩
    have B5 : Below w1.heap.size w1 w5 := Below.trans hHeld (hb.mono (Below.size hHeld))
    have I5 : Hid (InW w5 (some ⟨g, 0, none⟩) wl) := hi
    clear hi hb hHeld
    go_wp2_with fail
    refine hK.out _ _ ?hSa0 (fun hHeld => ?resta0)
    case hSa0 => exact B5
    case resta0 =>
    clear hK K B5
    try simp only [Act.put, List.setIfInBounds_toArray, List.set_cons_zero, List.set_cons_succ, List.getElem_toArray, List.getElem_cons_zero, List.getElem_cons_succ]
    refine wpAnyH_ready (rs := [40]) (by kernel_rfl) (by simp) ?_
    refine AllReadyH.cons rfl (fun K hK => ?_) AllReadyH.nil
    go_simp
    refine (KR.out _ hHeld).mono ?_
    rintro e w6 ⟨a2, c2, rfl, hi, hb⟩
    have B6 : Below w1.heap.size w1 w6 := Below.trans hHeld (hb.mono (Below.size hHeld))
    have I6 : Hid (InW w6 (some ⟨g, 0, none⟩) wl ∧ InW w6 a2 wl) := ⟨I5.out.keep hb, hi⟩
    clear hi hb hHeld
    go_wp2_with fail
    refine hK.out _ _ ?hSb0 (fun hHeld => ?restb0)
    case hSb0 => exact B6
    case restb0 =>
    clear hK K B6
    try simp only [Act.put, List.setIfInBounds_toArray, List.set_cons_zero, List.set_cons_succ, List.getElem_toArray, List.getElem_cons_zero, List.getElem_cons_succ]
    refine wpAnyH_ready (rs := [41]) (by kernel_rfl) (by simp) ?_
    refine AllReadyH.cons rfl (fun K hK => ?_) AllReadyH.nil
    go_simp
    refine (waits_is wl nw c c2 (some ⟨g, 0, none⟩) a2 w6 WL.out.1 WL.out.2 I6.out.1 I6.out.2).mono ?_
    rintro e w7 ⟨rfl, q, rfl⟩
    have B7 : Below w1.heap.size w1 (w6.drewN q) := Below.trans hHeld ⟨rfl, rfl, rfl, Nat.le_refl _, fun _ _ => rfl⟩
    go_wp2_with fail
    refine hK.out _ _ ?hSc0 (fun hHeld => ?restc0)
    case hSc0 => exact B7
    case restc0 =>
    clear hK K
    try simp only [Act.put, List.setIfInBounds_toArray, List.set_cons_zero, List.set_cons_succ, List.getElem_toArray, List.getElem_cons_zero, List.getElem_cons_succ]
    refine wpAnyH_take (i := 42) (v := .bool false) rfl (by kernel_rfl) (by kernel_rfl) (by kernel_rfl) (fun _ _ _ h => h) (Or.inl ⟨by kernel_rfl, ?hy42o0⟩) hHeld ?rest42o0
    case hy42o0 => (intro u hSu; clear hSu; go_simp; try first | with_reducible rfl | simp [HU.out])
    case rest42o0 =>
    try simp only [Act.put, List.setIfInBounds_toArray, List.set_cons_zero, List.set_cons_succ, List.getElem_toArray, List.getElem_cons_zero, List.getElem_cons_succ]
    refine wpAnyH_take (i := 43) (v := .bool false) rfl (by kernel_rfl) (by kernel_rfl) (by kernel_rfl) (fun _ _ _ h => h) (Or.inl ⟨by kernel_rfl, ?hy43o0⟩) hHeld ?rest43o0
    case hy43o0 => (intro u hSu; clear hSu; go_simp; try first | with_reducible rfl | simp [HU.out])
    case rest43o0 =>
    try simp only [Act.put, List.setIfInBounds_toArray, List.set_cons_zero, List.set_cons_succ, List.getElem_toArray, List.getElem_cons_zero, List.getElem_cons_succ]
    refine wpAnyH_done (by kernel_rfl) ?_ _
    refine NoPanic.normal ?_
    go_wp2_with fail
    go_meet
    case rel => exact ⟨rfl, B7⟩
  case rest =>
    obtain ⟨rfl, BX⟩ := hcut
    have IX : Hid (Img wc wz.heap.size go n V DD) := IM.out.keep BX.out
    have B0 : Hid (Below wz.heap.size wz wc) := BW1.out.trans (BX.out.mono BW1.out.size)
    clear IM BX KB KU KD KW KR CC WL KI
    go_wp2_with fail
    go_loopg [56] n (fun gg jv wq => ∃ (j : Nat) (L : List (List Int)), j ≤ n ∧ gg = n - j ∧ jv = .int .i64 (j : Int) ∧ Hid (Img wq wz.heap.size go n V L) ∧ Hid (Below wz.heap.size wz wq) ∧ Hid (∀ k, j ≤ k → L[k]? = DD[k]?))
    case atStart => exact ⟨0, DD, by omega, rfl, rfl, IX, B0, fun _ _ => rfl⟩
    case round =>
      obtain ⟨j, L, hjn, rfl, rfl, IQ, BQ, LQ⟩ := hrel
      clear IX B0
      by_cases hj : j < n
      · have f1 : decide ((j : Int) < (n : Int)) = true := by rw [decide_eq_true_eq]; omega
        have hn4 := HN.out.2
        have hDl := HN.out.1
        have hVl := HV.out
        obtain ⟨p1, hp1⟩ : ∃ p, V[j]? = some p := ⟨_, List.getElem?_eq_getElem (by omega)⟩
        obtain ⟨z1, hz1, ho1⟩ := IQ.out.own j p1 hp1
        have hz2 : DD[j]? = some z1 := (LQ.out j (Nat.le_refl j)).symm.trans hz1
        have s64 : z1.length = 64 := by
          have := ho1.holds.2.1
          simpa [sv] using this
        have k1 : wr.cell? ⟨go, j, none⟩ = some (.slice (some ⟨p1.1, 0, none⟩) 64 p1.2) := (IQ.out.row.cellAt j (by omega)).trans (vlS_at V n j p1 hp1)
        obtain ⟨gB, cB', eB, k3⟩ := (RT.out _ BQ.out).cell j z1 hz2
        injection eB with eB1 eB2 eB3
        subst eB1
        clear eB2 eB3
        have k2 := (C0.out _ BQ.out).1
        have cv1 : ∀ q, (convert 35 9 (.slice (some ⟨p1.1, 0, none⟩) 64 p1.2)).run Try.prog (wr.drewN q) = .ok (.string (strOfNums z1)) (wr.drewN q) := fun q => conv_str (w := wr.drewN q) ho1.holds.1 _ _ s64
        have rj : IntKind.i64.wrap ((j : Int) + 1) = (j : Int) + 1 := by rw [IntKind.wrap_i64]; omega
        have PJ : Hid (V[j]? = some p1) := hp1
        clear hz1 hz2 ho1 s64 hp1 hDl hVl
        generalize strOfNums z1 = st at *
        obtain ⟨pa, pb⟩ := p1
        simp only at k1 cv1
        go_wp2_with fail
        go_quiet (fail)
        go_wp2_with fail
        go_loopg [77] 64 (fun gg kv wq => ∃ (k : Nat) (L : List (List Int)), k ≤ 64 ∧ gg = 64 - k ∧ kv = .int .i64 (k : Int) ∧ Hid (Img wq wz.heap.size go n V L) ∧ Hid (Below wz.heap.size wz wq) ∧ Hid (∀ k, j + 1 ≤ k → L[k]? = DD[k]?))
        case atStart => exact ⟨0, L, by omega, rfl, rfl, IQ.out.keep ⟨rfl, rfl, rfl, Nat.le_refl _, fun _ _ => rfl⟩, BQ.out.trans ⟨rfl, rfl, rfl, Nat.le_refl _, fun _ _ => rfl⟩, fun k hk => LQ.out k (by omega)⟩
        case round =>
          clear k1 k2 k3 cv1
          obtain ⟨k, L2, hk64, rfl, rfl, IR, BR, LR⟩ := hrel
          clear IQ BQ LQ
          have k1 : wr.cell? ⟨go, j, none⟩ = some (.slice (some ⟨pa, 0, none⟩) 64 pb) := (IR.out.row.cellAt j (by omega)).trans (vlS_at V n j (pa, pb) PJ.out)
          by_cases hk : k < 64
          · have f2 : decide ((k : Int) < 64) = true := by rw [decide_eq_true_eq]; omega
            obtain ⟨z2, hz2, ho2⟩ := IR.out.own j (pa, pb) PJ.out
            have s64 : z2.length = 64 := by
              have := ho2.holds.2.1
              simpa [sv] using this
            obtain ⟨x0, hx0⟩ : ∃ x, z2[k]? = some x := ⟨_, List.getElem?_eq_getElem (by omega)⟩
            have kc : wr.cell? ⟨pa, k, none⟩ = some (.int .u8 x0) := by
              have := World.ownsRow.cellAt (show wr.ownsRow wz.heap.size 5 1 (.slice (some ⟨pa, 0, none⟩) 64 pb) 64 (z2.map (Value.int .u8)) by have h := ho2; unfold Owned at h; rw [s64] at h; exact h) k (by omega)
              rw [this, List.getElem?_map, hx0]
              rfl
            have hfz : wr.frozen? ⟨pa, k, none⟩ = false := World.ownsRow.frozenAt (n := 64) (show wr.ownsRow wz.heap.size 5 1 (.slice (some ⟨pa, 0, none⟩) 64 pb) 64 (z2.map (Value.int .u8)) by have h := ho2; unfold Owned at h; rw [s64] at h; exact h) k
            have rk : IntKind.i64.wrap ((k : Int) + 1) = (k : Int) + 1 := by rw [IntKind.wrap_i64]; omega
            have IS : ∀ y, Hid (Img (wr.setCell ⟨pa, k, none⟩ (.int .u8 y)) wz.heap.size go n V (L2.set j (z2.set k y))) := fun y => IR.out.set j (pa, pb) z2 PJ.out hz2 k y
            have BS : ∀ y, Hid (Below wz.heap.size wz (wr.setCell ⟨pa, k, none⟩ (.int .u8 y))) := fun y => BR.out.setCell (IR.out.lt.2.2 (pa, pb) (List.mem_of_getElem? PJ.out)).1 _
            have LS : ∀ y, Hid (∀ q, j + 1 ≤ q → (L2.set j (z2.set k y))[q]? = DD[q]?) := fun y q hq => by
              rw [List.getElem?_set_ne (by omega)]
              exact LR.out q hq
            clear hz2 ho2 s64 hx0
            go_wp2_with fail
            go_roundg (64 - (k + 1))
            case measure => omega
            case rel => exact ⟨k + 1, _, by omega, rfl, by simp, IS _, BS _, LS _⟩
          · have f2 : decide ((k : Int) < 64) = false := by rw [decide_eq_false_iff_not]; omega
            go_wp2_with fail
            go_roundg (n - (j + 1))
            case measure => omega
            case rel => exact ⟨j + 1, L2, by omega, rfl, by simp, IR, BR, LR⟩
      · have f1 : decide ((j : Int) < (n : Int)) = false := by rw [decide_eq_false_iff_not]; omega
        go_wp2_with fail
        go_ret
        exact ⟨rfl, BQ.out⟩
end Go.Proofs.Ytibgfjnddhfgpaa
