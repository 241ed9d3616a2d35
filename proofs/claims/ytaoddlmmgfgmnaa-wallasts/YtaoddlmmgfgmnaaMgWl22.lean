/- WalLasts' walk. -/
import Derived.Test.YtaoddlmmgfgmnaaMgWl21
namespace Go.Proofs.Ytaoddlmmgfgmnaa
open Go.ChangeShapes Go.WideShapes Go.ChangeAt Go.RowKit Go.Deep Go.Maps
set_option linter.unusedVariables false
set_option linter.unusedSimpArgs false
theorem mod_in60 (x : Int) : ∃ r : Nat, Int.tmod (Int.tmod x 60 + 60) 60 = (r : Int) ∧ r < 60 ∧ -60 < Int.tmod x 60 ∧ Int.tmod x 60 < 60 := by
  have g : -60 < Int.tmod x 60 ∧ Int.tmod x 60 < 60 := by
    rcases Int.le_total 0 x with g | g
    · rw [Int.tmod_eq_emod_of_nonneg g]
      omega
    · have e : x.tmod 60 = -((-x).tmod 60) := by rw [Int.neg_tmod, Int.neg_neg]
      rw [e, Int.tmod_eq_emod_of_nonneg (by omega)]
      omega
  have e := Int.tmod_eq_emod_of_nonneg (a := Int.tmod x 60 + 60) (b := 60) (by omega)
  refine ⟨((Int.tmod x 60 + 60) % 60).toNat, ?_, ?_, g⟩
  · rw [e, Int.toNat_of_nonneg (by omega)]
  · omega
theorem inK_kept {w w' : World} {a : Option Addr} {K : List Int} (h : InK w a K) (hb : ∀ x, a = some x → K ≠ [] → w'.heap[x.block]? = w.heap[x.block]?) : InK w' a K := by
  rcases h with rfl | ⟨x, rfl, hc⟩
  · exact .inl rfl
  · refine .inr ⟨x, rfl, fun i v hv => ?_⟩
    have hne : K ≠ [] := fun e => by subst e; simp at hv
    have hbk : (x.add i).block = x.block := by unfold Addr.add; split <;> rfl
    exact (World.cell?_of_block (a := x.add i) (by rw [hbk]; exact hb x rfl hne)).trans (hc i v hv)
theorem row_inK {w : World} {a : Option Addr} {len cap : Nat} {zs : List Int} (h : IsRow .i64 w a len cap zs) : InK w a (zs.take len) ∧ (zs.take len).length = len ∧ ∀ x, a = some x → zs.take len ≠ [] → x.block < w.heap.size := by
  rcases h with ⟨rfl, rfl, rfl, rfl⟩ | ⟨x, rfl, h1, h2, h3, h4, _⟩
  · exact ⟨.inl rfl, rfl, fun x hx => by cases hx⟩
  · refine ⟨.inr ⟨x, rfl, fun i v hv => ?_⟩, by rw [List.length_take]; omega, fun y hy hne => ?_⟩
    · rw [List.getElem?_take] at hv
      split at hv
      · obtain ⟨hi, e⟩ := List.getElem?_eq_some_iff.1 hv
        rw [h4 i hi, List.getD_eq_getElem?_getD, List.getElem?_eq_getElem hi, e]
        rfl
      · cases hv
    · obtain rfl := Option.some.inj hy
      have h0 : 0 < zs.length := by
        rcases Nat.eq_zero_or_pos zs.length with e | e
        · rw [List.length_eq_zero_iff.1 e] at hne; simp at hne
        · exact e
      have := World.block_lt_of_cell? _ _ (h4 0 h0)
      simpa [Addr.add] using this
set_option maxRecDepth 100000 in
set_option maxHeartbeats 8000000 in
theorem walLasts_walk (a : Option Addr) (len cap : Nat) (A : Nat → Aw) (n : Int) (ka : Option Addr) (kl kc : Nat) (zs : List Int) (w : World) (hin : InAw w a len A) (hn : (Lit.int .i64 n).wf = true) (hz : IsRow .i64 w ka kl kc zs) :
    Calls Try.prog 4 #[.slice a len cap, .int .i64 n, .slice ka kl kc] w fun e w' => e = .returned (.bool true) ∧ Below w.heap.size w w' := by
  have KWK : Hid (∀ w, Calls Try.prog 16 #[] w fun e w' => e = .returned (.bool true) ∧ Below w.heap.size w w') := works_true
  obtain ⟨keep, hke⟩ : ∃ keep, keep = zs.take kl := ⟨_, rfl⟩
  have HK : Hid (InK w ka keep ∧ keep.length = kl ∧ ∀ x, ka = some x → keep ≠ [] → x.block < w.heap.size) := by rw [hke]; exact row_inK hz
  obtain ⟨r, hr, hr60, hm1, hm2⟩ := mod_in60 n
  have hx1 := wf_i64 hn
  have s1 : IntKind.i64.wrap (Int.tmod n 60) = Int.tmod n 60 := by rw [IntKind.wrap_i64]; omega
  have s2 : IntKind.i64.wrap (Int.tmod n 60 + 60) = Int.tmod n 60 + 60 := by rw [IntKind.wrap_i64]; omega
  have s3 : IntKind.i64.wrap (r : Int) = (r : Int) := by rw [IntKind.wrap_i64]; omega
  have KR : Hid (Calls Try.prog 17 #[.slice a len cap, .int .i64 (r : Int)] w fun e w' => ∃ P bd N s ah qh ch an qn cn, e = .returned (.tuple #[.agg (rC bd ah qh ch an qn cn), .bool true]) ∧ N ≤ 90000 ∧ ∃ H Nx, RunIs w w' P bd N s ah qh ch an qn cn H Nx) := run_is a len cap A (r : Int) (by omega) (by omega) w hin
  clear hke hz hin
  go_enter Try.func4, Try.ntmps4
  go_wp2_with fail
  refine KR.out.mono ?_
  rintro e w1 ⟨P, bd, N, s, ah, qh, ch, an, qn, cn, rfl, hN, H, Nx, hR⟩
  have HR : Hid (RunIs w w1 P bd N s ah qh ch an qn cn H Nx) := hR
  unfold rC
  clear hR KR
  go_wp2_with fail
  obtain ⟨bx, hbx⟩ : ∃ b, b = w1.heap.size := ⟨_, rfl⟩
  obtain ⟨w2, hw2⟩ : ∃ w2, w1.alloc (.cells #[.pointer (some ⟨bd, 0, none⟩), .slice ah qh ch, .slice an qn cn] 49) = w2 := ⟨_, rfl⟩
  rw [show World.alloc _ _ = w2 from hw2, ← hbx]
  obtain ⟨Q, hQ⟩ : ∃ Q : Nat → Prop, Q = fun k => P k ∨ (w1.heap.size ≤ k ∧ k < w2.heap.size) := ⟨_, rfl⟩
  have B2 : Hid (Below w1.heap.size w1 w2) := by rw [← hw2]; exact gB_alloc w1 _
  have HT2 : Hid (Wd w w2 Q bd N s) := by rw [hQ]; exact HR.out.wd.keep B2.out
  have X2 : Hid (w2.heap[bx]? = some (.cells #[.pointer (some ⟨bd, 0, none⟩), .slice ah qh ch, .slice an qn cn] 49)) := by show _ = _; rw [← hw2, hbx]; exact heap_alloc_new w1 _
  have HQ : Hid (Q bx ∧ ∀ k, P k → Q k) := by rw [hQ]; exact ⟨.inr ⟨by omega, by rw [← hw2, hbx]; simp⟩, fun k hk => .inl hk⟩
  have HPl : Hid (∀ k, P k → k < w1.heap.size) := fun k hk => by obtain ⟨F, _, _, pp⟩ := HR.out.wd.ex; exact (pp k hk).1
  have HH2 : Hid (TxP w2 Q ah qh ch H) := HR.out.had.kept (fun k hk => B2.out.block k (HPl.out k hk)) HQ.out.2
  have HN2 : Hid (TxP w2 Q an qn cn Nx) := HR.out.nxt.kept (fun k hk => B2.out.block k (HPl.out k hk)) HQ.out.2
  have HAf : Hid (Aft 16 (s.cr keep) H Nx) := HR.out.aft keep
  obtain ⟨l, hinv, hlr⟩ := HAf.out
  obtain ⟨s3, hop⟩ := inv_open (by omega) (by omega) hinv
  have HLW : Hid (l.W = [] ∧ (l.R = H ∨ l.R = Nx)) := ⟨hinv.2.1, hlr⟩
  have KC : Hid (Calls Try.prog 18 #[.pointer (some ⟨bd, 0, none⟩), .slice ka kl kc] w2 fun e w' => e = .returned (.int .i64 0) ∧ Wd w w' Q bd N (s.cr keep) ∧ (∀ k, Q k → w'.heap[k]? = w2.heap[k]?) ∧ w2.heap.size ≤ w'.heap.size) := wd_crash HT2.out (by omega) ka kl kc keep HK.out.2.1 (inK_kept HK.out.1 fun x hx hne => HT2.out.bel.block _ (HK.out.2.2 x hx hne)) (fun x hx hne => .inr (HK.out.2.2 x hx hne))
  have HOp : Hid ((s.cr keep).opn = (0, some l, s3)) := hop
  clear hw2 hbx hQ hop hinv hlr
  refine KC.out.mono ?_
  rintro e w3 ⟨rfl, hT3, hk3, _⟩
  have HT3 : Hid (Wd w w3 Q bd N (s.cr keep)) := hT3
  have HK3 : Hid (∀ k, Q k → w3.heap[k]? = w2.heap[k]?) := hk3
  have x3 : w3.heap[bx]? = some (.cells #[.pointer (some ⟨bd, 0, none⟩), .slice ah qh ch, .slice an qn cn] 49) := (hk3 bx HQ.out.1).trans X2.out
  have c30 : w3.cell? ⟨bx, 0, none⟩ = some (.pointer (some ⟨bd, 0, none⟩)) := by rw [cell_of_row w3 bx _ _ _ (0, 0) x3]; rfl
  have KO : Hid (Calls Try.prog 15 #[.pointer (some ⟨bd, 0, none⟩)] w3 fun e w' => ∃ bl, e = .returned (.tuple #[.pointer (some ⟨bl, 0, none⟩), .int .i64 0]) ∧ Wl w w' Q bd bl (N + 2) s3 l ∧ ∀ k, Q k → w'.heap[k]? = w3.heap[k]?) := by
    refine (wd_open HT3.out (by omega)).mono ?_
    rintro e w' ⟨hk, _, hor⟩
    rw [HOp.out] at hor
    rcases hor with ⟨_, bl, l', hl, he, hw, _⟩ | ⟨h0, _⟩
    · obtain rfl := Option.some.inj hl
      exact ⟨bl, he, hw, hk⟩
    · exact absurd rfl h0
  clear hT3 hk3 x3 KC HT2 HR
  go_wp2_with fail
  refine KO.out.mono ?_
  rintro e w4 ⟨bl, rfl, hT4, hk4⟩
  have HT4 : Hid (Wl w w4 Q bd bl (N + 2) s3 l) := hT4
  have HK4 : Hid (∀ k, Q k → w4.heap[k]? = w2.heap[k]?) := fun k hk => (hk4 k hk).trans (HK3.out k hk)
  have HSi : Hid (∀ W : World, W.heap[bx]? = w4.heap[bx]? → W.cell? ⟨bx, 1, none⟩ = some (.slice ah qh ch) ∧ W.cell? ⟨bx, 2, none⟩ = some (.slice an qn cn)) := fun W hW => by
    have hx := hW.trans ((HK4.out bx HQ.out.1).trans X2.out)
    refine ⟨?_, ?_⟩ <;> (rw [cell_of_row W bx _ _ _ (0, 0) hx]; rfl)
  have HTd : Hid (Wl w w4.drew Q bd bl (N + 2) s3 l) := HT4.out.keep0 (below_drewN (Below.refl _ _) 1)
  have HLi : Hid (∀ k, Q k → k < w4.drew.heap.size) := fun k hk => by obtain ⟨F, G, _, _, _, _, _, pp⟩ := HTd.out.ex; exact (pp k hk).1
  have HHd : Hid (TxP w4.drew Q ah qh ch H) := HH2.out.kept (fun k hk => HK4.out k hk) (fun _ h => h)
  have HNd : Hid (TxP w4.drew Q an qn cn Nx) := HN2.out.kept (fun k hk => HK4.out k hk) (fun _ h => h)
  have HRb : Hid (∀ B ∈ l.R, IsBytes B) := fun B hB => (HT4.out.ok.rb B hB).1
  have HRl : Hid (l.R.length ≤ 1000000) := by have := HT4.out.ok.few.1; show _ ≤ _; omega
  clear hT4 hk4 KO HK3 HT3 c30
  go_wp2_with fail
  by_cases hE : l.R = H
  · have HEQd : Hid (l.R = H) := hE
    clear hE
    refine wp_region_noPanic ?_
    refine wp_region_held_drew (S := (fun W : World => W.cell? ⟨bx, 1, none⟩ = some (.slice ah qh ch) ∧ W.cell? ⟨bx, 2, none⟩ = some (.slice an qn cn))) (by kernel_rfl) ?hSaa (fun hHeld => ?restaa)
    case hSaa => exact HSi.out _ rfl
    case restaa =>

      refine wpAnyH_take (i := 0) (v := .int .i64 0) rfl (by kernel_rfl) (by kernel_rfl) (by kernel_rfl) (fun _ _ _ h => h) (Or.inl ⟨by kernel_rfl, ?hy0a⟩) hHeld ?rest0a
      case hy0a => (intro w hSw; (try dsimp only at hSw); go_simp; try with_reducible rfl)
      try simp only [Act.put, List.setIfInBounds_toArray, List.set_cons_zero, List.set_cons_succ, List.getElem_toArray, List.getElem_cons_zero]
      refine wpAnyH_take (i := 1) (v := .bool true) rfl (by kernel_rfl) (by kernel_rfl) (by kernel_rfl) (fun _ _ _ h => h) (Or.inl ⟨by kernel_rfl, ?hy1a⟩) hHeld ?rest1a
      case hy1a => (intro w hSw; (try dsimp only at hSw); go_simp; try with_reducible rfl)
      try simp only [Act.put, List.setIfInBounds_toArray, List.set_cons_zero, List.set_cons_succ, List.getElem_toArray, List.getElem_cons_zero, List.getElem_cons_succ]
      refine wpAnyH_take (i := 2) (v := .bool true) rfl (by kernel_rfl) (by kernel_rfl) (by kernel_rfl) (fun _ _ _ h => h) (Or.inl ⟨by kernel_rfl, ?hy2a⟩) hHeld ?rest2a
      case hy2a => (intro w hSw; (try dsimp only at hSw); go_simp; try with_reducible rfl)
      try simp only [Act.put, List.setIfInBounds_toArray, List.set_cons_zero, List.set_cons_succ, List.getElem_toArray, List.getElem_cons_zero, List.getElem_cons_succ]
      refine wpAnyH_take (i := 3) (v := .pointer (some ⟨bl, 0, none⟩)) rfl (by kernel_rfl) (by kernel_rfl) (by kernel_rfl) (fun _ _ _ h => h) (Or.inl ⟨by kernel_rfl, ?hy3a⟩) hHeld ?rest3a
      case hy3a => (intro w hSw; (try dsimp only at hSw); go_simp; try with_reducible rfl)
      try simp only [Act.put, List.setIfInBounds_toArray, List.set_cons_zero, List.set_cons_succ, List.getElem_toArray, List.getElem_cons_zero, List.getElem_cons_succ]
      refine wpAnyH_take (i := 5) (v := .pointer (some ⟨bx, 1, none⟩)) rfl (by kernel_rfl) (by kernel_rfl) (by kernel_rfl) (fun _ _ _ h => h) (Or.inl ⟨by kernel_rfl, ?hy5a⟩) hHeld ?rest5a
      case hy5a => (intro w hSw; (try dsimp only at hSw); go_simp; try with_reducible rfl)
      try simp only [Act.put, List.setIfInBounds_toArray, List.set_cons_zero, List.set_cons_succ, List.getElem_toArray, List.getElem_cons_zero, List.getElem_cons_succ]
      refine wpAnyH_take (i := 6) (v := .slice ah qh ch) rfl (by kernel_rfl) (by kernel_rfl) (by kernel_rfl) (fun _ _ _ h => h) (Or.inl ⟨by kernel_rfl, ?hy6a⟩) hHeld ?rest6a
      case hy6a => (intro w hSw; (try dsimp only at hSw); go_simp; try with_reducible rfl)
      try simp only [Act.put, List.setIfInBounds_toArray, List.set_cons_zero, List.set_cons_succ, List.getElem_toArray, List.getElem_cons_zero, List.getElem_cons_succ]
      refine wpAnyH_ready (rs := [4]) (by kernel_rfl) (by simp) ?_
      refine AllReadyH.cons rfl (fun K hK => ?_) AllReadyH.nil
      go_simp; refine (wl_records HTd.out).mono ?_; rintro e jd ⟨vj, rfl, hrj, hbj⟩; obtain ⟨ajd, cjd, rfl, _, hij, _, _⟩ := RowsS.slice hrj; have HId : Hid (InS jd ajd l.R) := hij; have HBd : Hid (Below w4.drew.heap.size w4.drew jd) := hbj; clear hrj hbj hij; go_wp2_with fail
      refine hK.out _ _ ?hS4a (fun hHeld => ?rest4a)
      case hS4a => exact HSi.out _ ((HBd.out.block bx (HLi.out bx HQ.out.1)).trans (rfl))
      clear hK K
      try simp only [Act.put, List.setIfInBounds_toArray, List.set_cons_zero, List.set_cons_succ, List.getElem_toArray, List.getElem_cons_zero, List.getElem_cons_succ]

      have HTjd : Hid (Wl w jd Q bd bl (N + 2) s3 l) := HTd.out.keep0 HBd.out
      have HLjd : Hid (∀ k, Q k → k < jd.heap.size) := fun k hk => Nat.lt_of_lt_of_le (HLi.out k hk) HBd.out.size
      have HKjd : Hid (∀ k, Q k → jd.heap[k]? = w4.heap[k]?) := fun k hk => (HBd.out.block k (HLi.out k hk)).trans (rfl)
      have HVjd : Hid (TxP jd Q ah qh ch H) := HHd.out.kept (fun k hk => HKjd.out k hk) (fun _ h => h)
      have KSad : Hid (Calls Try.prog 19 #[.slice ajd l.R.length cjd, .slice ah qh ch] jd fun e w' => e = .returned (.bool true) ∧ Below jd.heap.size jd w') := by
        have k := wsame_is jd ajd ah l.R.length qh cjd ch l.R H rfl HVjd.out.2.1 HRl.out (by have h2 := HVjd.out.2.2.1; omega) HId.out HVjd.out.1 HRb.out HVjd.out.2.2.2.2.2
        rw [decide_eq_true (HEQd.out)] at k
        exact k
      refine wpAnyH_ready (rs := [7]) (by kernel_rfl) (by simp) ?_
      refine AllReadyH.cons rfl (fun K hK => ?_) AllReadyH.nil
      go_simp; refine KSad.out.mono ?_; rintro e kd ⟨rfl, hbk⟩; have HBkd : Hid (Below jd.heap.size jd kd) := hbk; clear hbk; go_wp2_with fail
      refine hK.out _ _ ?hS7a (fun hHeld => ?rest7a)
      case hS7a => exact HSi.out _ ((HBkd.out.block bx (HLjd.out bx HQ.out.1)).trans (HKjd.out bx HQ.out.1))
      clear hK K
      try simp only [Act.put, List.setIfInBounds_toArray, List.set_cons_zero, List.set_cons_succ, List.getElem_toArray, List.getElem_cons_zero, List.getElem_cons_succ]

      refine wpAnyH_take (i := 8) (v := .bool true) rfl (by kernel_rfl) (by kernel_rfl) (by kernel_rfl) (fun _ _ _ h => h) (Or.inl ⟨by kernel_rfl, ?hy8a⟩) hHeld ?rest8a
      case hy8a => (intro w hSw; (try dsimp only at hSw); go_simp; try with_reducible rfl)
      try simp only [Act.put, List.setIfInBounds_toArray, List.set_cons_zero, List.set_cons_succ, List.getElem_toArray, List.getElem_cons_zero, List.getElem_cons_succ]
      refine wpAnyH_take (i := 9) (v := undef) rfl (by kernel_rfl) (by kernel_rfl) (by kernel_rfl) (fun _ _ _ h => h) (Or.inr ⟨by kernel_rfl, rfl⟩) hHeld ?rest9a
      case rest9a =>
      try simp only [Act.put, List.setIfInBounds_toArray, List.set_cons_zero, List.set_cons_succ, List.getElem_toArray, List.getElem_cons_zero, List.getElem_cons_succ]
      refine wpAnyH_take (i := 10) (v := undef) rfl (by kernel_rfl) (by kernel_rfl) (by kernel_rfl) (fun _ _ _ h => h) (Or.inr ⟨by kernel_rfl, rfl⟩) hHeld ?rest10a
      case rest10a =>
      try simp only [Act.put, List.setIfInBounds_toArray, List.set_cons_zero, List.set_cons_succ, List.getElem_toArray, List.getElem_cons_zero, List.getElem_cons_succ]
      refine wpAnyH_take (i := 11) (v := undef) rfl (by kernel_rfl) (by kernel_rfl) (by kernel_rfl) (fun _ _ _ h => h) (Or.inr ⟨by kernel_rfl, rfl⟩) hHeld ?rest11a
      case rest11a =>
      try simp only [Act.put, List.setIfInBounds_toArray, List.set_cons_zero, List.set_cons_succ, List.getElem_toArray, List.getElem_cons_zero, List.getElem_cons_succ]
      refine wpAnyH_take (i := 12) (v := undef) rfl (by kernel_rfl) (by kernel_rfl) (by kernel_rfl) (fun _ _ _ h => h) (Or.inr ⟨by kernel_rfl, rfl⟩) hHeld ?rest12a
      case rest12a =>
      try simp only [Act.put, List.setIfInBounds_toArray, List.set_cons_zero, List.set_cons_succ, List.getElem_toArray, List.getElem_cons_zero, List.getElem_cons_succ]
      refine wpAnyH_take (i := 13) (v := undef) rfl (by kernel_rfl) (by kernel_rfl) (by kernel_rfl) (fun _ _ _ h => h) (Or.inr ⟨by kernel_rfl, rfl⟩) hHeld ?rest13a
      case rest13a =>
      try simp only [Act.put, List.setIfInBounds_toArray, List.set_cons_zero, List.set_cons_succ, List.getElem_toArray, List.getElem_cons_zero, List.getElem_cons_succ]
      refine wpAnyH_take (i := 14) (v := .bool true) rfl (by kernel_rfl) (by kernel_rfl) (by kernel_rfl) (fun _ _ _ h => h) (Or.inl ⟨by kernel_rfl, ?hy14a⟩) hHeld ?rest14a
      case hy14a => (intro w hSw; (try dsimp only at hSw); go_simp; try with_reducible rfl)
      try simp only [Act.put, List.setIfInBounds_toArray, List.set_cons_zero, List.set_cons_succ, List.getElem_toArray, List.getElem_cons_zero, List.getElem_cons_succ]

      refine wpAnyH_take (i := 15) (v := .bool true) rfl (by kernel_rfl) (by kernel_rfl) (by kernel_rfl) (fun _ _ _ h => h) (Or.inl ⟨by kernel_rfl, ?hy15a⟩) hHeld ?rest15a
      case hy15a => (intro w hSw; (try dsimp only at hSw); go_simp; try with_reducible rfl)
      try simp only [Act.put, List.setIfInBounds_toArray, List.set_cons_zero, List.set_cons_succ, List.getElem_toArray, List.getElem_cons_zero, List.getElem_cons_succ]
      refine wpAnyH_take (i := 16) (v := .bool true) rfl (by kernel_rfl) (by kernel_rfl) (by kernel_rfl) (fun _ _ _ h => h) (Or.inl ⟨by kernel_rfl, ?hy16a⟩) hHeld ?rest16a
      case hy16a => (intro w hSw; (try dsimp only at hSw); go_simp; try with_reducible rfl)
      try simp only [Act.put, List.setIfInBounds_toArray, List.set_cons_zero, List.set_cons_succ, List.getElem_toArray, List.getElem_cons_zero, List.getElem_cons_succ]
      refine wpAnyH_take (i := 17) (v := .pointer (some ⟨bl, 0, none⟩)) rfl (by kernel_rfl) (by kernel_rfl) (by kernel_rfl) (fun _ _ _ h => h) (Or.inl ⟨by kernel_rfl, ?hy17a⟩) hHeld ?rest17a
      case hy17a => (intro w hSw; (try dsimp only at hSw); go_simp; try with_reducible rfl)
      try simp only [Act.put, List.setIfInBounds_toArray, List.set_cons_zero, List.set_cons_succ, List.getElem_toArray, List.getElem_cons_zero, List.getElem_cons_succ]

      have HTz : Hid (Wl w kd Q bd bl (N + 2) s3 l) := HTjd.out.keep0 HBkd.out
      have HKz : Hid (∀ k, Q k → kd.heap[k]? = w4.heap[k]?) := fun k hk => (HBkd.out.block k (HLjd.out k hk)).trans (HKjd.out k hk)
      have KWt : Hid (Calls Try.prog 12 #[.pointer (some ⟨bl, 0, none⟩)] kd fun e w' => e = .returned (.int .i64 0) ∧ w' = kd) := by
        have k := wl_waiting HTz.out
        rw [HLW.out.1] at k
        exact k
      refine wpAnyH_ready (rs := [18]) (by kernel_rfl) (by simp) ?_
      refine AllReadyH.cons rfl (fun K hK => ?_) AllReadyH.nil
      go_simp; refine KWt.out.mono ?_; rintro e w' ⟨rfl, hw⟩; obtain rfl := hw.symm; clear hw; go_wp2_with fail
      refine hK.out _ _ ?hS18a (fun hHeld => ?rest18a)
      case hS18a => exact HSi.out _ (HKz.out bx HQ.out.1)
      clear hK K
      try simp only [Act.put, List.setIfInBounds_toArray, List.set_cons_zero, List.set_cons_succ, List.getElem_toArray, List.getElem_cons_zero, List.getElem_cons_succ]
      refine wpAnyH_take (i := 19) (v := .bool true) rfl (by kernel_rfl) (by kernel_rfl) (by kernel_rfl) (fun _ _ _ h => h) (Or.inl ⟨by kernel_rfl, ?hy19a⟩) hHeld ?rest19a
      case hy19a => (intro w hSw; (try dsimp only at hSw); go_simp; try with_reducible rfl)
      try simp only [Act.put, List.setIfInBounds_toArray, List.set_cons_zero, List.set_cons_succ, List.getElem_toArray, List.getElem_cons_zero, List.getElem_cons_succ]
      refine wpAnyH_take (i := 20) (v := .bool true) rfl (by kernel_rfl) (by kernel_rfl) (by kernel_rfl) (fun _ _ _ h => h) (Or.inl ⟨by kernel_rfl, ?hy20a⟩) hHeld ?rest20a
      case hy20a => (intro w hSw; (try dsimp only at hSw); go_simp; try with_reducible rfl)
      try simp only [Act.put, List.setIfInBounds_toArray, List.set_cons_zero, List.set_cons_succ, List.getElem_toArray, List.getElem_cons_zero, List.getElem_cons_succ]
      refine wpAnyH_take (i := 21) (v := .bool true) rfl (by kernel_rfl) (by kernel_rfl) (by kernel_rfl) (fun _ _ _ h => h) (Or.inl ⟨by kernel_rfl, ?hy21a⟩) hHeld ?rest21a
      case hy21a => (intro w hSw; (try dsimp only at hSw); go_simp; try with_reducible rfl)
      try simp only [Act.put, List.setIfInBounds_toArray, List.set_cons_zero, List.set_cons_succ, List.getElem_toArray, List.getElem_cons_zero, List.getElem_cons_succ]
      refine wpAnyH_ready (rs := [22]) (by kernel_rfl) (by simp) ?_
      refine AllReadyH.cons rfl (fun K hK => ?_) AllReadyH.nil
      go_simp; refine (KWK.out _).mono ?_; rintro e wz ⟨rfl, hbz⟩; have HBz : Hid (Below kd.heap.size kd wz) := hbz; clear hbz; go_wp2_with fail
      refine hK.out _ _ ?hS22a (fun hHeld => ?rest22a)
      case hS22a => exact HSi.out _ ((HBz.out.block bx (Nat.lt_of_lt_of_le (HLjd.out bx HQ.out.1) HBkd.out.size)).trans (HKz.out bx HQ.out.1))
      clear hK K
      try simp only [Act.put, List.setIfInBounds_toArray, List.set_cons_zero, List.set_cons_succ, List.getElem_toArray, List.getElem_cons_zero, List.getElem_cons_succ]
      refine wpAnyH_take (i := 23) (v := .bool true) rfl (by kernel_rfl) (by kernel_rfl) (by kernel_rfl) (fun _ _ _ h => h) (Or.inl ⟨by kernel_rfl, ?hy23a⟩) hHeld ?rest23a
      case hy23a => (intro w hSw; (try dsimp only at hSw); go_simp; try with_reducible rfl)
      try simp only [Act.put, List.setIfInBounds_toArray, List.set_cons_zero, List.set_cons_succ, List.getElem_toArray, List.getElem_cons_zero, List.getElem_cons_succ]
      refine wpAnyH_take (i := 24) (v := .bool true) rfl (by kernel_rfl) (by kernel_rfl) (by kernel_rfl) (fun _ _ _ h => h) (Or.inl ⟨by kernel_rfl, ?hy24a⟩) hHeld ?rest24a
      case hy24a => (intro w hSw; (try dsimp only at hSw); go_simp; try with_reducible rfl)
      try simp only [Act.put, List.setIfInBounds_toArray, List.set_cons_zero, List.set_cons_succ, List.getElem_toArray, List.getElem_cons_zero, List.getElem_cons_succ]
      refine wpAnyH_done (by kernel_rfl) ?_ _
      refine NoPanic.normal ?_

      go_wp2_with fail
      go_ret
      exact ⟨rfl, (HTz.out.keep0 HBz.out).bel⟩
  · have HEQd : Hid (¬ l.R = H) := hE
    have HEQe : Hid (l.R = Nx) := HLW.out.2.resolve_left hE
    clear hE
    refine wp_region_noPanic ?_
    refine wp_region_held_drew (S := (fun W : World => W.cell? ⟨bx, 1, none⟩ = some (.slice ah qh ch) ∧ W.cell? ⟨bx, 2, none⟩ = some (.slice an qn cn))) (by kernel_rfl) ?hSab (fun hHeld => ?restab)
    case hSab => exact HSi.out _ rfl
    case restab =>

      refine wpAnyH_take (i := 0) (v := .int .i64 0) rfl (by kernel_rfl) (by kernel_rfl) (by kernel_rfl) (fun _ _ _ h => h) (Or.inl ⟨by kernel_rfl, ?hy0b⟩) hHeld ?rest0b
      case hy0b => (intro w hSw; (try dsimp only at hSw); go_simp; try with_reducible rfl)
      try simp only [Act.put, List.setIfInBounds_toArray, List.set_cons_zero, List.set_cons_succ, List.getElem_toArray, List.getElem_cons_zero]
      refine wpAnyH_take (i := 1) (v := .bool true) rfl (by kernel_rfl) (by kernel_rfl) (by kernel_rfl) (fun _ _ _ h => h) (Or.inl ⟨by kernel_rfl, ?hy1b⟩) hHeld ?rest1b
      case hy1b => (intro w hSw; (try dsimp only at hSw); go_simp; try with_reducible rfl)
      try simp only [Act.put, List.setIfInBounds_toArray, List.set_cons_zero, List.set_cons_succ, List.getElem_toArray, List.getElem_cons_zero, List.getElem_cons_succ]
      refine wpAnyH_take (i := 2) (v := .bool true) rfl (by kernel_rfl) (by kernel_rfl) (by kernel_rfl) (fun _ _ _ h => h) (Or.inl ⟨by kernel_rfl, ?hy2b⟩) hHeld ?rest2b
      case hy2b => (intro w hSw; (try dsimp only at hSw); go_simp; try with_reducible rfl)
      try simp only [Act.put, List.setIfInBounds_toArray, List.set_cons_zero, List.set_cons_succ, List.getElem_toArray, List.getElem_cons_zero, List.getElem_cons_succ]
      refine wpAnyH_take (i := 3) (v := .pointer (some ⟨bl, 0, none⟩)) rfl (by kernel_rfl) (by kernel_rfl) (by kernel_rfl) (fun _ _ _ h => h) (Or.inl ⟨by kernel_rfl, ?hy3b⟩) hHeld ?rest3b
      case hy3b => (intro w hSw; (try dsimp only at hSw); go_simp; try with_reducible rfl)
      try simp only [Act.put, List.setIfInBounds_toArray, List.set_cons_zero, List.set_cons_succ, List.getElem_toArray, List.getElem_cons_zero, List.getElem_cons_succ]
      refine wpAnyH_take (i := 5) (v := .pointer (some ⟨bx, 1, none⟩)) rfl (by kernel_rfl) (by kernel_rfl) (by kernel_rfl) (fun _ _ _ h => h) (Or.inl ⟨by kernel_rfl, ?hy5b⟩) hHeld ?rest5b
      case hy5b => (intro w hSw; (try dsimp only at hSw); go_simp; try with_reducible rfl)
      try simp only [Act.put, List.setIfInBounds_toArray, List.set_cons_zero, List.set_cons_succ, List.getElem_toArray, List.getElem_cons_zero, List.getElem_cons_succ]
      refine wpAnyH_take (i := 6) (v := .slice ah qh ch) rfl (by kernel_rfl) (by kernel_rfl) (by kernel_rfl) (fun _ _ _ h => h) (Or.inl ⟨by kernel_rfl, ?hy6b⟩) hHeld ?rest6b
      case hy6b => (intro w hSw; (try dsimp only at hSw); go_simp; try with_reducible rfl)
      try simp only [Act.put, List.setIfInBounds_toArray, List.set_cons_zero, List.set_cons_succ, List.getElem_toArray, List.getElem_cons_zero, List.getElem_cons_succ]
      refine wpAnyH_ready (rs := [4]) (by kernel_rfl) (by simp) ?_
      refine AllReadyH.cons rfl (fun K hK => ?_) AllReadyH.nil
      go_simp; refine (wl_records HTd.out).mono ?_; rintro e jd ⟨vj, rfl, hrj, hbj⟩; obtain ⟨ajd, cjd, rfl, _, hij, _, _⟩ := RowsS.slice hrj; have HId : Hid (InS jd ajd l.R) := hij; have HBd : Hid (Below w4.drew.heap.size w4.drew jd) := hbj; clear hrj hbj hij; go_wp2_with fail
      refine hK.out _ _ ?hS4b (fun hHeld => ?rest4b)
      case hS4b => exact HSi.out _ ((HBd.out.block bx (HLi.out bx HQ.out.1)).trans (rfl))
      clear hK K
      try simp only [Act.put, List.setIfInBounds_toArray, List.set_cons_zero, List.set_cons_succ, List.getElem_toArray, List.getElem_cons_zero, List.getElem_cons_succ]

      have HTjd : Hid (Wl w jd Q bd bl (N + 2) s3 l) := HTd.out.keep0 HBd.out
      have HLjd : Hid (∀ k, Q k → k < jd.heap.size) := fun k hk => Nat.lt_of_lt_of_le (HLi.out k hk) HBd.out.size
      have HKjd : Hid (∀ k, Q k → jd.heap[k]? = w4.heap[k]?) := fun k hk => (HBd.out.block k (HLi.out k hk)).trans (rfl)
      have HVjd : Hid (TxP jd Q ah qh ch H) := HHd.out.kept (fun k hk => HKjd.out k hk) (fun _ h => h)
      have KSad : Hid (Calls Try.prog 19 #[.slice ajd l.R.length cjd, .slice ah qh ch] jd fun e w' => e = .returned (.bool false) ∧ Below jd.heap.size jd w') := by
        have k := wsame_is jd ajd ah l.R.length qh cjd ch l.R H rfl HVjd.out.2.1 HRl.out (by have h2 := HVjd.out.2.2.1; omega) HId.out HVjd.out.1 HRb.out HVjd.out.2.2.2.2.2
        rw [decide_eq_false (HEQd.out)] at k
        exact k
      refine wpAnyH_ready (rs := [7]) (by kernel_rfl) (by simp) ?_
      refine AllReadyH.cons rfl (fun K hK => ?_) AllReadyH.nil
      go_simp; refine KSad.out.mono ?_; rintro e kd ⟨rfl, hbk⟩; have HBkd : Hid (Below jd.heap.size jd kd) := hbk; clear hbk; go_wp2_with fail
      refine hK.out _ _ ?hS7b (fun hHeld => ?rest7b)
      case hS7b => exact HSi.out _ ((HBkd.out.block bx (HLjd.out bx HQ.out.1)).trans (HKjd.out bx HQ.out.1))
      clear hK K
      try simp only [Act.put, List.setIfInBounds_toArray, List.set_cons_zero, List.set_cons_succ, List.getElem_toArray, List.getElem_cons_zero, List.getElem_cons_succ]

      refine wpAnyH_take (i := 8) (v := .bool false) rfl (by kernel_rfl) (by kernel_rfl) (by kernel_rfl) (fun _ _ _ h => h) (Or.inl ⟨by kernel_rfl, ?hy8b⟩) hHeld ?rest8b
      case hy8b => (intro w hSw; (try dsimp only at hSw); go_simp; try with_reducible rfl)
      try simp only [Act.put, List.setIfInBounds_toArray, List.set_cons_zero, List.set_cons_succ, List.getElem_toArray, List.getElem_cons_zero, List.getElem_cons_succ]
      refine wpAnyH_take (i := 9) (v := .pointer (some ⟨bl, 0, none⟩)) rfl (by kernel_rfl) (by kernel_rfl) (by kernel_rfl) (fun _ _ _ h => h) (Or.inl ⟨by kernel_rfl, ?hy9b⟩) hHeld ?rest9b
      case hy9b => (intro w hSw; (try dsimp only at hSw); go_simp; try with_reducible rfl)
      try simp only [Act.put, List.setIfInBounds_toArray, List.set_cons_zero, List.set_cons_succ, List.getElem_toArray, List.getElem_cons_zero, List.getElem_cons_succ]
      refine wpAnyH_take (i := 11) (v := .pointer (some ⟨bx, 2, none⟩)) rfl (by kernel_rfl) (by kernel_rfl) (by kernel_rfl) (fun _ _ _ h => h) (Or.inl ⟨by kernel_rfl, ?hy11b⟩) hHeld ?rest11b
      case hy11b => (intro w hSw; (try dsimp only at hSw); go_simp; try with_reducible rfl)
      try simp only [Act.put, List.setIfInBounds_toArray, List.set_cons_zero, List.set_cons_succ, List.getElem_toArray, List.getElem_cons_zero, List.getElem_cons_succ]
      refine wpAnyH_take (i := 12) (v := .slice an qn cn) rfl (by kernel_rfl) (by kernel_rfl) (by kernel_rfl) (fun _ _ _ h => h) (Or.inl ⟨by kernel_rfl, ?hy12b⟩) hHeld ?rest12b
      case hy12b => (intro w hSw; (try dsimp only at hSw); go_simp; try with_reducible rfl)
      try simp only [Act.put, List.setIfInBounds_toArray, List.set_cons_zero, List.set_cons_succ, List.getElem_toArray, List.getElem_cons_zero, List.getElem_cons_succ]

      have HTe : Hid (Wl w kd Q bd bl (N + 2) s3 l) := HTjd.out.keep0 HBkd.out
      have HKe : Hid (∀ k, Q k → kd.heap[k]? = w4.heap[k]?) := fun k hk => (HBkd.out.block k (HLjd.out k hk)).trans (HKjd.out k hk)
      have HLe : Hid (∀ k, Q k → k < kd.heap.size) := fun k hk => Nat.lt_of_lt_of_le (HLjd.out k hk) HBkd.out.size
      refine wpAnyH_ready (rs := [10]) (by kernel_rfl) (by simp) ?_
      refine AllReadyH.cons rfl (fun K hK => ?_) AllReadyH.nil
      go_simp; refine (wl_records HTe.out).mono ?_; rintro e je ⟨vj, rfl, hrj, hbj⟩; obtain ⟨aje, cje, rfl, _, hij, _, _⟩ := RowsS.slice hrj; have HIe : Hid (InS je aje l.R) := hij; have HBe : Hid (Below kd.heap.size kd je) := hbj; clear hrj hbj hij; go_wp2_with fail
      refine hK.out _ _ ?hS10b (fun hHeld => ?rest10b)
      case hS10b => exact HSi.out _ ((HBe.out.block bx (HLe.out bx HQ.out.1)).trans (HKe.out bx HQ.out.1))
      clear hK K
      try simp only [Act.put, List.setIfInBounds_toArray, List.set_cons_zero, List.set_cons_succ, List.getElem_toArray, List.getElem_cons_zero, List.getElem_cons_succ]

      have HTje : Hid (Wl w je Q bd bl (N + 2) s3 l) := HTe.out.keep0 HBe.out
      have HLje : Hid (∀ k, Q k → k < je.heap.size) := fun k hk => Nat.lt_of_lt_of_le (HLe.out k hk) HBe.out.size
      have HKje : Hid (∀ k, Q k → je.heap[k]? = w4.heap[k]?) := fun k hk => (HBe.out.block k (HLe.out k hk)).trans (HKe.out k hk)
      have HVje : Hid (TxP je Q an qn cn Nx) := HNd.out.kept (fun k hk => HKje.out k hk) (fun _ h => h)
      have KSae : Hid (Calls Try.prog 19 #[.slice aje l.R.length cje, .slice an qn cn] je fun e w' => e = .returned (.bool true) ∧ Below je.heap.size je w') := by
        have k := wsame_is je aje an l.R.length qn cje cn l.R Nx rfl HVje.out.2.1 HRl.out (by have h2 := HVje.out.2.2.1; omega) HIe.out HVje.out.1 HRb.out HVje.out.2.2.2.2.2
        rw [decide_eq_true (HEQe.out)] at k
        exact k
      refine wpAnyH_ready (rs := [13]) (by kernel_rfl) (by simp) ?_
      refine AllReadyH.cons rfl (fun K hK => ?_) AllReadyH.nil
      go_simp; refine KSae.out.mono ?_; rintro e ke ⟨rfl, hbk⟩; have HBke : Hid (Below je.heap.size je ke) := hbk; clear hbk; go_wp2_with fail
      refine hK.out _ _ ?hS13b (fun hHeld => ?rest13b)
      case hS13b => exact HSi.out _ ((HBke.out.block bx (HLje.out bx HQ.out.1)).trans (HKje.out bx HQ.out.1))
      clear hK K
      try simp only [Act.put, List.setIfInBounds_toArray, List.set_cons_zero, List.set_cons_succ, List.getElem_toArray, List.getElem_cons_zero, List.getElem_cons_succ]

      refine wpAnyH_take (i := 14) (v := .bool true) rfl (by kernel_rfl) (by kernel_rfl) (by kernel_rfl) (fun _ _ _ h => h) (Or.inl ⟨by kernel_rfl, ?hy14b⟩) hHeld ?rest14b
      case hy14b => (intro w hSw; (try dsimp only at hSw); go_simp; try with_reducible rfl)
      try simp only [Act.put, List.setIfInBounds_toArray, List.set_cons_zero, List.set_cons_succ, List.getElem_toArray, List.getElem_cons_zero, List.getElem_cons_succ]

      refine wpAnyH_take (i := 15) (v := .bool true) rfl (by kernel_rfl) (by kernel_rfl) (by kernel_rfl) (fun _ _ _ h => h) (Or.inl ⟨by kernel_rfl, ?hy15b⟩) hHeld ?rest15b
      case hy15b => (intro w hSw; (try dsimp only at hSw); go_simp; try with_reducible rfl)
      try simp only [Act.put, List.setIfInBounds_toArray, List.set_cons_zero, List.set_cons_succ, List.getElem_toArray, List.getElem_cons_zero, List.getElem_cons_succ]
      refine wpAnyH_take (i := 16) (v := .bool true) rfl (by kernel_rfl) (by kernel_rfl) (by kernel_rfl) (fun _ _ _ h => h) (Or.inl ⟨by kernel_rfl, ?hy16b⟩) hHeld ?rest16b
      case hy16b => (intro w hSw; (try dsimp only at hSw); go_simp; try with_reducible rfl)
      try simp only [Act.put, List.setIfInBounds_toArray, List.set_cons_zero, List.set_cons_succ, List.getElem_toArray, List.getElem_cons_zero, List.getElem_cons_succ]
      refine wpAnyH_take (i := 17) (v := .pointer (some ⟨bl, 0, none⟩)) rfl (by kernel_rfl) (by kernel_rfl) (by kernel_rfl) (fun _ _ _ h => h) (Or.inl ⟨by kernel_rfl, ?hy17b⟩) hHeld ?rest17b
      case hy17b => (intro w hSw; (try dsimp only at hSw); go_simp; try with_reducible rfl)
      try simp only [Act.put, List.setIfInBounds_toArray, List.set_cons_zero, List.set_cons_succ, List.getElem_toArray, List.getElem_cons_zero, List.getElem_cons_succ]

      have HTz : Hid (Wl w ke Q bd bl (N + 2) s3 l) := HTje.out.keep0 HBke.out
      have HKz : Hid (∀ k, Q k → ke.heap[k]? = w4.heap[k]?) := fun k hk => (HBke.out.block k (HLje.out k hk)).trans (HKje.out k hk)
      have KWt : Hid (Calls Try.prog 12 #[.pointer (some ⟨bl, 0, none⟩)] ke fun e w' => e = .returned (.int .i64 0) ∧ w' = ke) := by
        have k := wl_waiting HTz.out
        rw [HLW.out.1] at k
        exact k
      refine wpAnyH_ready (rs := [18]) (by kernel_rfl) (by simp) ?_
      refine AllReadyH.cons rfl (fun K hK => ?_) AllReadyH.nil
      go_simp; refine KWt.out.mono ?_; rintro e w' ⟨rfl, hw⟩; obtain rfl := hw.symm; clear hw; go_wp2_with fail
      refine hK.out _ _ ?hS18b (fun hHeld => ?rest18b)
      case hS18b => exact HSi.out _ (HKz.out bx HQ.out.1)
      clear hK K
      try simp only [Act.put, List.setIfInBounds_toArray, List.set_cons_zero, List.set_cons_succ, List.getElem_toArray, List.getElem_cons_zero, List.getElem_cons_succ]
      refine wpAnyH_take (i := 19) (v := .bool true) rfl (by kernel_rfl) (by kernel_rfl) (by kernel_rfl) (fun _ _ _ h => h) (Or.inl ⟨by kernel_rfl, ?hy19b⟩) hHeld ?rest19b
      case hy19b => (intro w hSw; (try dsimp only at hSw); go_simp; try with_reducible rfl)
      try simp only [Act.put, List.setIfInBounds_toArray, List.set_cons_zero, List.set_cons_succ, List.getElem_toArray, List.getElem_cons_zero, List.getElem_cons_succ]
      refine wpAnyH_take (i := 20) (v := .bool true) rfl (by kernel_rfl) (by kernel_rfl) (by kernel_rfl) (fun _ _ _ h => h) (Or.inl ⟨by kernel_rfl, ?hy20b⟩) hHeld ?rest20b
      case hy20b => (intro w hSw; (try dsimp only at hSw); go_simp; try with_reducible rfl)
      try simp only [Act.put, List.setIfInBounds_toArray, List.set_cons_zero, List.set_cons_succ, List.getElem_toArray, List.getElem_cons_zero, List.getElem_cons_succ]
      refine wpAnyH_take (i := 21) (v := .bool true) rfl (by kernel_rfl) (by kernel_rfl) (by kernel_rfl) (fun _ _ _ h => h) (Or.inl ⟨by kernel_rfl, ?hy21b⟩) hHeld ?rest21b
      case hy21b => (intro w hSw; (try dsimp only at hSw); go_simp; try with_reducible rfl)
      try simp only [Act.put, List.setIfInBounds_toArray, List.set_cons_zero, List.set_cons_succ, List.getElem_toArray, List.getElem_cons_zero, List.getElem_cons_succ]
      refine wpAnyH_ready (rs := [22]) (by kernel_rfl) (by simp) ?_
      refine AllReadyH.cons rfl (fun K hK => ?_) AllReadyH.nil
      go_simp; refine (KWK.out _).mono ?_; rintro e wz ⟨rfl, hbz⟩; have HBz : Hid (Below ke.heap.size ke wz) := hbz; clear hbz; go_wp2_with fail
      refine hK.out _ _ ?hS22b (fun hHeld => ?rest22b)
      case hS22b => exact HSi.out _ ((HBz.out.block bx (Nat.lt_of_lt_of_le (HLje.out bx HQ.out.1) HBke.out.size)).trans (HKz.out bx HQ.out.1))
      clear hK K
      try simp only [Act.put, List.setIfInBounds_toArray, List.set_cons_zero, List.set_cons_succ, List.getElem_toArray, List.getElem_cons_zero, List.getElem_cons_succ]
      refine wpAnyH_take (i := 23) (v := .bool true) rfl (by kernel_rfl) (by kernel_rfl) (by kernel_rfl) (fun _ _ _ h => h) (Or.inl ⟨by kernel_rfl, ?hy23b⟩) hHeld ?rest23b
      case hy23b => (intro w hSw; (try dsimp only at hSw); go_simp; try with_reducible rfl)
      try simp only [Act.put, List.setIfInBounds_toArray, List.set_cons_zero, List.set_cons_succ, List.getElem_toArray, List.getElem_cons_zero, List.getElem_cons_succ]
      refine wpAnyH_take (i := 24) (v := .bool true) rfl (by kernel_rfl) (by kernel_rfl) (by kernel_rfl) (fun _ _ _ h => h) (Or.inl ⟨by kernel_rfl, ?hy24b⟩) hHeld ?rest24b
      case hy24b => (intro w hSw; (try dsimp only at hSw); go_simp; try with_reducible rfl)
      try simp only [Act.put, List.setIfInBounds_toArray, List.set_cons_zero, List.set_cons_succ, List.getElem_toArray, List.getElem_cons_zero, List.getElem_cons_succ]
      refine wpAnyH_done (by kernel_rfl) ?_ _
      refine NoPanic.normal ?_

      go_wp2_with fail
      go_ret
      exact ⟨rfl, (HTz.out.keep0 HBz.out).bel⟩

end Go.Proofs.Ytaoddlmmgfgmnaa
