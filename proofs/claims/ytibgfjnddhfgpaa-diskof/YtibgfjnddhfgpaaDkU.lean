/- Disks that a call made: burn, Fuse. -/
import Derived.Test.YtibgfjnddhfgpaaDkPa
import Derived.RangeFuncBox
namespace Go.Proofs.Ytibgfjnddhfgpaa
open Go.ChangeShapes Go.WideShapes Go.ChangeAt Go.RowKit Go.Deep Go.Maps
set_option linter.unusedVariables false
theorem set_own (w : World) (b i : Nat) (cs : Array Value) (t : TypeId) (h : w.heap[b]? = some (.cells cs t)) (v : Value) : (w.setCell ⟨b, i, none⟩ v).heap[b]? = some (.cells (cs.setIfInBounds i v) t) := by
  simp [World.setCell, Array.getElem?_modify, h]
theorem grown_set (w : World) (b i : Nat) (v : Value) : w.grownBy (w.setCell ⟨b, i, none⟩ v) (some b) :=
  ⟨rfl, rfl, rfl, (KeepsWalks.setCell w _ v).size, fun k _ hk => Below.heap_setCell _ _ _ k (fun e => hk (by rw [e]))⟩
/-- the disk's own five cells change, nothing else does -/
theorem DkP.fields {w w' : World} {h b N : Nat} {D : List (List Int)} {W : Int → List (List Int)} {up up' : Bool} {done fuse done' fuse' : Int} {gd cd mb : Nat} {T : Int → Option Hd} (hd : DkP w h b N D W up done fuse gd cd mb T) (hg : w.grownBy w' (some b))
    (hb : ∀ s m, w.heap[b]? = some (.cells #[s, m, .bool up, .int .i64 done, .int .i64 fuse] 72) → w'.heap[b]? = some (.cells #[s, m, .bool up', .int .i64 done', .int .i64 fuse'] 72)) :
    DkP w' h b N D W up' done' fuse' gd cd mb T := by
  have hc := hd.cell
  have row : ∀ {v : Value} {B : List (List Int)}, OwnB w h v B → OwnB w' h v B := by
    intro v B hv
    refine hv.block fun k hk => hg.block k (hv.own k hk).2 ?_
    intro e
    have e : k = b := by simpa using e
    subst e
    rcases hv.2 with ⟨rfl, _⟩ | ⟨g, cap, cur, rfl, _, hgb, _⟩
    · simp [Value.ownBlock] at hk
    · have : g = k := by simpa [Value.ownBlock] using hk
      subst this
      rw [hc] at hgb
      simp at hgb
  refine ⟨hd.hb, hd.hm, hb _ _ hc, row hd.dur, hd.is64, hd.mp.kept hg ?_, hd.nil, fun i x hx => ?_, hd.apart⟩
  · intro e
    have e : mb = b := by simpa using e
    exact hd.apart3.1 e.symm
  · obtain ⟨a1, a2, a3, a4⟩ := hd.row i x hx
    exact ⟨a1, a2, row a3, a4⟩
set_option maxHeartbeats 4000000 in
theorem burn_out (w : World) (b g n c mb : Nat) (hz : ∀ k, w.frozen? ⟨b, k, none⟩ = false) (up : Bool) (done : Int) (h : D5 w b g n c mb up done 0) : Calls Try.prog 34 #[.pointer (some ⟨b, 0, none⟩)] w fun e w' => e = .returned (.int .i64 15) ∧ w' = w.setCell ⟨b, 2, none⟩ (.bool false) := by
  obtain ⟨c0, c1, c2, c3, c4⟩ := h
  have z2 := hz 2
  have z3 := hz 3
  have z4 := hz 4
  go_enter Try.func34, Try.ntmps34
  go_wp2_with fail
  go_ret
  exact ⟨rfl, rfl⟩
set_option maxHeartbeats 4000000 in
theorem burn_some (w : World) (b g n c mb : Nat) (hz : ∀ k, w.frozen? ⟨b, k, none⟩ = false) (up : Bool) (done fuse : Int) (hf : 0 < fuse) (hf2 : fuse ≤ 9223372036854775807) (hd : 0 ≤ done ∧ done < 9223372036854775807) (h : D5 w b g n c mb up done fuse) : Calls Try.prog 34 #[.pointer (some ⟨b, 0, none⟩)] w fun e w' => e = .returned (.int .i64 0) ∧ w' = (w.setCell ⟨b, 4, none⟩ (.int .i64 (fuse - 1))).setCell ⟨b, 3, none⟩ (.int .i64 (done + 1)) := by
  obtain ⟨c0, c1, c2, c3, c4⟩ := h
  have e1 : (fuse == 0) = false := by rw [beq_eq_false_iff_ne]; omega
  have e2 : decide (0 < fuse) = true := by simpa using hf
  have r1 : IntKind.i64.wrap (fuse - 1) = fuse - 1 := by rw [IntKind.wrap_i64]; omega
  have r2 : IntKind.i64.wrap (done + 1) = done + 1 := by rw [IntKind.wrap_i64]; omega
  have z2 := hz 2
  have z3 := hz 3
  have z4 := hz 4
  go_enter Try.func34, Try.ntmps34
  go_wp2_with fail
  go_ret
  exact ⟨rfl, rfl⟩
set_option maxHeartbeats 4000000 in
theorem burn_none (w : World) (b g n c mb : Nat) (hz : ∀ k, w.frozen? ⟨b, k, none⟩ = false) (up : Bool) (done fuse : Int) (hf : fuse < 0) (hd : 0 ≤ done ∧ done < 9223372036854775807) (h : D5 w b g n c mb up done fuse) : Calls Try.prog 34 #[.pointer (some ⟨b, 0, none⟩)] w fun e w' => e = .returned (.int .i64 0) ∧ w' = w.setCell ⟨b, 3, none⟩ (.int .i64 (done + 1)) := by
  obtain ⟨c0, c1, c2, c3, c4⟩ := h
  have e1 : (fuse == 0) = false := by rw [beq_eq_false_iff_ne]; omega
  have e2 : decide (0 < fuse) = false := by rw [decide_eq_false_iff_not]; omega
  have r2 : IntKind.i64.wrap (done + 1) = done + 1 := by rw [IntKind.wrap_i64]; omega
  have z2 := hz 2
  have z3 := hz 3
  have z4 := hz 4
  go_enter Try.func34, Try.ntmps34
  go_wp2_with fail
  go_ret
  exact ⟨rfl, rfl⟩
theorem frozen_not {w : World} {b : Nat} {cs : Array Value} {t : TypeId} (h : w.heap[b]? = some (.cells cs t)) (k : Nat) : w.frozen? ⟨b, k, none⟩ = false := by
  simp [World.frozen?, h]
/-- what is left of a fuse behind a write or a flush -/
def lessF (fuse : Int) : Int := if 0 < fuse then fuse - 1 else fuse
/-- what burn makes of a disk, and what it answers -/
def BurnSaid (w w' : World) (h b N : Nat) (D : List (List Int)) (W : Int → List (List Int)) (done fuse : Int) (gd cd mb : Nat) (T : Int → Option Hd) (e : Int) : Prop :=
  w.grownBy w' (some b) ∧ ((fuse = 0 ∧ e = 15 ∧ DkP w' h b N D W false done 0 gd cd mb T) ∨ (fuse ≠ 0 ∧ e = 0 ∧ DkP w' h b N D W true (done + 1) (lessF fuse) gd cd mb T))
set_option maxHeartbeats 4000000 in
theorem burn_is (w : World) (h b N : Nat) (D : List (List Int)) (W : Int → List (List Int)) (done fuse : Int) (gd cd mb : Nat) (T : Int → Option Hd) (hf : fuse ≤ 9223372036854775807) (hd : 0 ≤ done ∧ done < 9223372036854775807) (H : DkP w h b N D W true done fuse gd cd mb T) :
    Calls Try.prog 34 #[.pointer (some ⟨b, 0, none⟩)] w fun e w' => ∃ k, e = .returned (.int .i64 k) ∧ BurnSaid w w' h b N D W done fuse gd cd mb T k := by
  have hc := H.cell
  have h5 := d5_of hc
  have hz := frozen_not hc
  rcases Int.lt_trichotomy fuse 0 with h1 | h1 | h1
  · refine (burn_none w b gd D.length cd mb hz true done fuse h1 hd h5).mono ?_
    rintro e w' ⟨rfl, rfl⟩
    refine ⟨0, rfl, grown_set w b 3 _, .inr ⟨by omega, rfl, ?_⟩⟩
    rw [show lessF fuse = fuse by simp [lessF]; omega]
    refine H.fields (grown_set w b 3 _) fun s m hm => ?_
    exact set_own w b 3 _ _ hm _
  · subst h1
    refine (burn_out w b gd D.length cd mb hz true done h5).mono ?_
    rintro e w' ⟨rfl, rfl⟩
    refine ⟨15, rfl, grown_set w b 2 _, .inl ⟨rfl, rfl, ?_⟩⟩
    refine H.fields (grown_set w b 2 _) fun s m hm => ?_
    exact set_own w b 2 _ _ hm _
  · refine (burn_some w b gd D.length cd mb hz true done fuse h1 hf hd h5).mono ?_
    rintro e w' ⟨rfl, rfl⟩
    have G : w.grownBy ((w.setCell ⟨b, 4, none⟩ (.int .i64 (fuse - 1))).setCell ⟨b, 3, none⟩ (.int .i64 (done + 1))) (some b) :=
      ⟨rfl, rfl, rfl, Nat.le_trans (grown_set w b 4 _).size (grown_set _ b 3 _).size, fun k hk hne => ((grown_set _ b 3 _).block k (Nat.lt_of_lt_of_le hk (grown_set w b 4 _).size) hne).trans ((grown_set w b 4 _).block k hk hne)⟩
    refine ⟨0, rfl, G, .inr ⟨by omega, rfl, ?_⟩⟩
    rw [show lessF fuse = fuse - 1 by simp [lessF]; omega]
    refine H.fields G fun s m hm => ?_
    exact set_own _ b 3 _ _ (set_own w b 4 _ _ hm _) _
set_option maxHeartbeats 4000000 in
theorem fuse_set (w : World) (b g n c mb : Nat) (hz : ∀ k, w.frozen? ⟨b, k, none⟩ = false) (done fuse : Int) (hn : 1 ≤ n) (h : D5 w b g n c mb true done fuse) (k : Int) (hk : 0 ≤ k) : Calls Try.prog 26 #[.pointer (some ⟨b, 0, none⟩), .int .i64 k] w fun e w' => e = .returned (.int .i64 0) ∧ w' = w.setCell ⟨b, 4, none⟩ (.int .i64 k) := by
  have K : Hid (Calls Try.prog 35 #[.pointer (some ⟨b, 0, none⟩)] w fun e w' => e = .returned (.int .i64 0) ∧ w' = w) := ready_is w b g n c mb true done fuse hn h
  obtain ⟨c0, c1, c2, c3, c4⟩ := h
  have e1 : decide (k < 0) = false := by rw [decide_eq_false_iff_not]; omega
  have z4 := hz 4
  go_enter Try.func26, Try.ntmps26
  go_wp2_with fail
  refine K.out.mono ?_
  rintro e w1 ⟨rfl, rfl⟩
  go_wp2_with fail
  go_ret
  exact ⟨rfl, rfl⟩
set_option maxHeartbeats 4000000 in
theorem fuse_neg (w : World) (b g n c mb : Nat) (done fuse : Int) (hn : 1 ≤ n) (h : D5 w b g n c mb true done fuse) (k : Int) (hk : k < 0) : Calls Try.prog 26 #[.pointer (some ⟨b, 0, none⟩), .int .i64 k] w fun e w' => e = .returned (.int .i64 2) ∧ w' = w := by
  have K : Hid (Calls Try.prog 35 #[.pointer (some ⟨b, 0, none⟩)] w fun e w' => e = .returned (.int .i64 0) ∧ w' = w) := ready_is w b g n c mb true done fuse hn h
  obtain ⟨c0, c1, c2, c3, c4⟩ := h
  have e1 : decide (k < 0) = true := by simpa using hk
  go_enter Try.func26, Try.ntmps26
  go_wp2_with fail
  refine K.out.mono ?_
  rintro e w1 ⟨rfl, rfl⟩
  go_wp2_with fail
  go_ret
  exact ⟨rfl, rfl⟩
set_option maxHeartbeats 4000000 in
theorem fuse_down (w : World) (b g n c mb : Nat) (done fuse : Int) (hn : 1 ≤ n) (h : D5 w b g n c mb false done fuse) (k : Int) : Calls Try.prog 26 #[.pointer (some ⟨b, 0, none⟩), .int .i64 k] w fun e w' => e = .returned (.int .i64 15) ∧ w' = w := by
  have K : Hid (Calls Try.prog 35 #[.pointer (some ⟨b, 0, none⟩)] w fun e w' => e = .returned (.int .i64 15) ∧ w' = w) := ready_is w b g n c mb false done fuse hn h
  obtain ⟨c0, c1, c2, c3, c4⟩ := h
  go_enter Try.func26, Try.ntmps26
  go_wp2_with fail
  refine K.out.mono ?_
  rintro e w1 ⟨rfl, rfl⟩
  go_wp2_with fail
  go_ret
  exact ⟨rfl, rfl⟩
/-- what Fuse answers -/
def fuA (up : Bool) (k : Int) : Int := if up then (if 0 ≤ k then 0 else 2) else 15
theorem fuse_is (w : World) (h b N : Nat) (D : List (List Int)) (W : Int → List (List Int)) (up : Bool) (done fuse k : Int) (gd cd mb : Nat) (T : Int → Option Hd) (hn : 1 ≤ D.length) (H : DkP w h b N D W up done fuse gd cd mb T) :
    Calls Try.prog 26 #[.pointer (some ⟨b, 0, none⟩), .int .i64 k] w fun e w' => e = .returned (.int .i64 (fuA up k)) ∧ w.grownBy w' (some b) ∧ DkP w' h b N D W up done (if up = true ∧ 0 ≤ k then k else fuse) gd cd mb T := by
  have hc := H.cell
  have h5 := d5_of hc
  have hz := frozen_not hc
  have same : w.grownBy w (some b) := ⟨rfl, rfl, rfl, Nat.le_refl _, fun _ _ _ => rfl⟩
  cases up
  · refine (fuse_down w b gd D.length cd mb done fuse hn h5 k).mono ?_
    rintro e w' ⟨rfl, rfl⟩
    exact ⟨rfl, same, by simpa using H⟩
  · by_cases hk : 0 ≤ k
    · refine (fuse_set w b gd D.length cd mb hz done fuse hn h5 k hk).mono ?_
      rintro e w' ⟨rfl, rfl⟩
      refine ⟨by simp [fuA, hk], grown_set w b 4 _, ?_⟩
      rw [if_pos ⟨rfl, hk⟩]
      refine H.fields (grown_set w b 4 _) fun s m hm => ?_
      exact set_own w b 4 _ _ hm _
    · refine (fuse_neg w b gd D.length cd mb done fuse hn h5 k (by omega)).mono ?_
      rintro e w' ⟨rfl, rfl⟩
      refine ⟨by simp [fuA, hk], same, ?_⟩
      rw [if_neg (fun x => hk x.2)]
      exact H
end Go.Proofs.Ytibgfjnddhfgpaa
