/- WalLasts' walk. slices.Clone of blocks; Copy. Written by gen_copy.py. Copy against the plain disk. A disk and its copy; a log that was left, beside other calls. Rows of numbers that came in; two numbers that came in. WalAgain's walk. -/
import Derived.Test.YtaoddlmmgfgmnaaMgWg21
import Derived.Test.YtaoddlmmgfgmnaaMgWg10
import Derived.Lib.BufferMore
import Derived.Deep.RegionHeld3
import Derived.Test.YtaoddlmmgfgmnaaMgWg20
import Derived.Test.YtaoddlmmgfgmnaaMgWg19
import Derived.Test.YtaoddlmmgfgmnaaMgWg9
import Derived.Deep.Matrix
namespace Go.Proofs.Ytaoddlmmgfgmnaa
open Go.ChangeShapes Go.WideShapes Go.ChangeAt Go.RowKit Go.Deep Go.Maps
set_option linter.unusedVariables false
set_option linter.unusedSimpArgs false
theorem mod_in60 (x : Int) : ∃ r : Nat, Int.tmod (Int.tmod x 60 + 60) 60 = (r : Int) ∧ r < 60 ∧ -60 < Int.tmod x 60 ∧ Int.tmod x 60 < 60 := by
  have g : -60 < Int.tmod x 60 ∧ Int.tmod x 60 < 60 := by
    rcases Int.le_total 0 x with g | g
    · rw [Int.tmod_eq_emod_of_nonneg g]
      omega
    · have e : x.tmod 60 = -((-x).tmod 60) := by rw [Int.neg_tmod, Int.neg_neg]
      rw [e, Int.tmod_eq_emod_of_nonneg (by omega)]
      omega
  have e := Int.tmod_eq_emod_of_nonneg (a := Int.tmod x 60 + 60) (b := 60) (by omega)
  refine ⟨((Int.tmod x 60 + 60) % 60).toNat, ?_, ?_, g⟩
  · rw [e, Int.toNat_of_nonneg (by omega)]
  · omega
theorem inK_kept {w w' : World} {a : Option Addr} {K : List Int} (h : InK w a K) (hb : ∀ x, a = some x → K ≠ [] → w'.heap[x.block]? = w.heap[x.block]?) : InK w' a K := by
  rcases h with rfl | ⟨x, rfl, hc⟩
  · exact .inl rfl
  · refine .inr ⟨x, rfl, fun i v hv => ?_⟩
    have hne : K ≠ [] := fun e => by subst e; simp at hv
    have hbk : (x.add i).block = x.block := by unfold Addr.add; split <;> rfl
    exact (World.cell?_of_block (a := x.add i) (by rw [hbk]; exact hb x rfl hne)).trans (hc i v hv)
theorem row_inK {w : World} {a : Option Addr} {len cap : Nat} {zs : List Int} (h : IsRow .i64 w a len cap zs) : InK w a (zs.take len) ∧ (zs.take len).length = len ∧ ∀ x, a = some x → zs.take len ≠ [] → x.block < w.heap.size := by
  rcases h with ⟨rfl, rfl, rfl, rfl⟩ | ⟨x, rfl, h1, h2, h3, h4, _⟩
  · exact ⟨.inl rfl, rfl, fun x hx => by cases hx⟩
  · refine ⟨.inr ⟨x, rfl, fun i v hv => ?_⟩, by rw [List.length_take]; omega, fun y hy hne => ?_⟩
    · rw [List.getElem?_take] at hv
      split at hv
      · obtain ⟨hi, e⟩ := List.getElem?_eq_some_iff.1 hv
        rw [h4 i hi, List.getD_eq_getElem?_getD, List.getElem?_eq_getElem hi, e]
        rfl
      · cases hv
    · obtain rfl := Option.some.inj hy
      have h0 : 0 < zs.length := by
        rcases Nat.eq_zero_or_pos zs.length with e | e
        · rw [List.length_eq_zero_iff.1 e] at hne; simp at hne
        · exact e
      have := World.block_lt_of_cell? _ _ (h4 0 h0)
      simpa [Addr.add] using this
set_option maxRecDepth 100000 in
set_option maxHeartbeats 8000000 in
theorem walLasts_walk (a : Option Addr) (len cap : Nat) (A : Nat → Aw) (n : Int) (ka : Option Addr) (kl kc : Nat) (zs : List Int) (w : World) (hin : InAw w a len A) (hn : (Lit.int .i64 n).wf = true) (hz : IsRow .i64 w ka kl kc zs) :
    Calls Try.prog 4 #[.slice a len cap, .int .i64 n, .slice ka kl kc] w fun e w' => e = .returned (.bool true) ∧ Below w.heap.size w w' := by
  have KWK : Hid (∀ w, Calls Try.prog 16 #[] w fun e w' => e = .returned (.bool true) ∧ Below w.heap.size w w') := works_true
  obtain ⟨keep, hke⟩ : ∃ keep, keep = zs.take kl := ⟨_, rfl⟩
  have HK : Hid (InK w ka keep ∧ keep.length = kl ∧ ∀ x, ka = some x → keep ≠ [] → x.block < w.heap.size) := by rw [hke]; exact row_inK hz
  obtain ⟨r, hr, hr60, hm1, hm2⟩ := mod_in60 n
  have hx1 := wf_i64 hn
  have s1 : IntKind.i64.wrap (Int.tmod n 60) = Int.tmod n 60 := by rw [IntKind.wrap_i64]; omega
  have s2 : IntKind.i64.wrap (Int.tmod n 60 + 60) = Int.tmod n 60 + 60 := by rw [IntKind.wrap_i64]; omega
  have s3 : IntKind.i64.wrap (r : Int) = (r : Int) := by rw [IntKind.wrap_i64]; omega
  have KR : Hid (Calls Try.prog 17 #[.slice a len cap, .int .i64 (r : Int)] w fun e w' => ∃ P bd N s ah qh ch an qn cn, e = .returned (.tuple #[.agg (rC bd ah qh ch an qn cn), .bool true]) ∧ N ≤ 90000 ∧ ∃ H Nx, RunIs w w' P bd N s ah qh ch an qn cn H Nx) := run_is a len cap A (r : Int) (by omega) (by omega) w hin
  clear hke hz hin
  go_enter Try.func4, Try.ntmps4
  go_wp2_with fail
  refine KR.out.mono ?_
  rintro e w1 ⟨P, bd, N, s, ah, qh, ch, an, qn, cn, rfl, hN, H, Nx, hR⟩
  have HR : Hid (RunIs w w1 P bd N s ah qh ch an qn cn H Nx) := hR
  unfold rC
  clear hR KR
  go_wp2_with fail
  obtain ⟨bx, hbx⟩ : ∃ b, b = w1.heap.size := ⟨_, rfl⟩
  obtain ⟨w2, hw2⟩ : ∃ w2, w1.alloc (.cells #[.pointer (some ⟨bd, 0, none⟩), .slice ah qh ch, .slice an qn cn] 49) = w2 := ⟨_, rfl⟩
  rw [show World.alloc _ _ = w2 from hw2, ← hbx]
  obtain ⟨Q, hQ⟩ : ∃ Q : Nat → Prop, Q = fun k => P k ∨ (w1.heap.size ≤ k ∧ k < w2.heap.size) := ⟨_, rfl⟩
  have B2 : Hid (Below w1.heap.size w1 w2) := by rw [← hw2]; exact gB_alloc w1 _
  have HT2 : Hid (Wd w w2 Q bd N s) := by rw [hQ]; exact HR.out.wd.keep B2.out
  have X2 : Hid (w2.heap[bx]? = some (.cells #[.pointer (some ⟨bd, 0, none⟩), .slice ah qh ch, .slice an qn cn] 49)) := by show _ = _; rw [← hw2, hbx]; exact heap_alloc_new w1 _
  have HQ : Hid (Q bx ∧ ∀ k, P k → Q k) := by rw [hQ]; exact ⟨.inr ⟨by omega, by rw [← hw2, hbx]; simp⟩, fun k hk => .inl hk⟩
  have HPl : Hid (∀ k, P k → k < w1.heap.size) := fun k hk => by obtain ⟨F, _, _, pp⟩ := HR.out.wd.ex; exact (pp k hk).1
  have HH2 : Hid (TxP w2 Q ah qh ch H) := HR.out.had.kept (fun k hk => B2.out.block k (HPl.out k hk)) HQ.out.2
  have HN2 : Hid (TxP w2 Q an qn cn Nx) := HR.out.nxt.kept (fun k hk => B2.out.block k (HPl.out k hk)) HQ.out.2
  have HAf : Hid (Aft 16 (s.cr keep) H Nx) := HR.out.aft keep
  obtain ⟨l, hinv, hlr⟩ := HAf.out
  obtain ⟨s3, hop⟩ := inv_open (by omega) (by omega) hinv
  have HLW : Hid (l.W = [] ∧ (l.R = H ∨ l.R = Nx)) := ⟨hinv.2.1, hlr⟩
  have KC : Hid (Calls Try.prog 18 #[.pointer (some ⟨bd, 0, none⟩), .slice ka kl kc] w2 fun e w' => e = .returned (.int .i64 0) ∧ Wd w w' Q bd N (s.cr keep) ∧ (∀ k, Q k → w'.heap[k]? = w2.heap[k]?) ∧ w2.heap.size ≤ w'.heap.size) := wd_crash HT2.out (by omega) ka kl kc keep HK.out.2.1 (inK_kept HK.out.1 fun x hx hne => HT2.out.bel.block _ (HK.out.2.2 x hx hne)) (fun x hx hne => .inr (HK.out.2.2 x hx hne))
  have HOp : Hid ((s.cr keep).opn = (0, some l, s3)) := hop
  clear hw2 hbx hQ hop hinv hlr
  refine KC.out.mono ?_
  rintro e w3 ⟨rfl, hT3, hk3, _⟩
  have HT3 : Hid (Wd w w3 Q bd N (s.cr keep)) := hT3
  have HK3 : Hid (∀ k, Q k → w3.heap[k]? = w2.heap[k]?) := hk3
  have x3 : w3.heap[bx]? = some (.cells #[.pointer (some ⟨bd, 0, none⟩), .slice ah qh ch, .slice an qn cn] 49) := (hk3 bx HQ.out.1).trans X2.out
  have c30 : w3.cell? ⟨bx, 0, none⟩ = some (.pointer (some ⟨bd, 0, none⟩)) := by rw [cell_of_row w3 bx _ _ _ (0, 0) x3]; rfl
  have KO : Hid (Calls Try.prog 15 #[.pointer (some ⟨bd, 0, none⟩)] w3 fun e w' => ∃ bl, e = .returned (.tuple #[.pointer (some ⟨bl, 0, none⟩), .int .i64 0]) ∧ Wl w w' Q bd bl (N + 2) s3 l ∧ ∀ k, Q k → w'.heap[k]? = w3.heap[k]?) := by
    refine (wd_open HT3.out (by omega)).mono ?_
    rintro e w' ⟨hk, _, hor⟩
    rw [HOp.out] at hor
    rcases hor with ⟨_, bl, l', hl, he, hw, _⟩ | ⟨h0, _⟩
    · obtain rfl := Option.some.inj hl
      exact ⟨bl, he, hw, hk⟩
    · exact absurd rfl h0
  clear hT3 hk3 x3 KC HT2 HR
  go_wp2_with fail
  refine KO.out.mono ?_
  rintro e w4 ⟨bl, rfl, hT4, hk4⟩
  have HT4 : Hid (Wl w w4 Q bd bl (N + 2) s3 l) := hT4
  have HK4 : Hid (∀ k, Q k → w4.heap[k]? = w2.heap[k]?) := fun k hk => (hk4 k hk).trans (HK3.out k hk)
  have HSi : Hid (∀ W : World, W.heap[bx]? = w4.heap[bx]? → W.cell? ⟨bx, 1, none⟩ = some (.slice ah qh ch) ∧ W.cell? ⟨bx, 2, none⟩ = some (.slice an qn cn)) := fun W hW => by
    have hx := hW.trans ((HK4.out bx HQ.out.1).trans X2.out)
    refine ⟨?_, ?_⟩ <;> (rw [cell_of_row W bx _ _ _ (0, 0) hx]; rfl)
  have HTd : Hid (Wl w w4.drew Q bd bl (N + 2) s3 l) := HT4.out.keep0 (below_drewN (Below.refl _ _) 1)
  have HLi : Hid (∀ k, Q k → k < w4.drew.heap.size) := fun k hk => by obtain ⟨F, G, _, _, _, _, _, pp⟩ := HTd.out.ex; exact (pp k hk).1
  have HHd : Hid (TxP w4.drew Q ah qh ch H) := HH2.out.kept (fun k hk => HK4.out k hk) (fun _ h => h)
  have HNd : Hid (TxP w4.drew Q an qn cn Nx) := HN2.out.kept (fun k hk => HK4.out k hk) (fun _ h => h)
  have HRb : Hid (∀ B ∈ l.R, IsBytes B) := fun B hB => (HT4.out.ok.rb B hB).1
  have HRl : Hid (l.R.length ≤ 1000000) := by have := HT4.out.ok.few.1; show _ ≤ _; omega
  clear hT4 hk4 KO HK3 HT3 c30
  go_wp2_with fail
  by_cases hE : l.R = H
  · have HEQd : Hid (l.R = H) := hE
    clear hE
    refine wp_region_noPanic ?_
    refine wp_region_held_drew (S := (fun W : World => W.cell? ⟨bx, 1, none⟩ = some (.slice ah qh ch) ∧ W.cell? ⟨bx, 2, none⟩ = some (.slice an qn cn))) (by kernel_rfl) ?hSaa (fun hHeld => ?restaa)
    case hSaa => exact HSi.out _ rfl
    case restaa =>

      refine wpAnyH_take (i := 0) (v := .int .i64 0) rfl (by kernel_rfl) (by kernel_rfl) (by kernel_rfl) (fun _ _ _ h => h) (Or.inl ⟨by kernel_rfl, ?hy0a⟩) hHeld ?rest0a
      case hy0a => (intro w hSw; (try dsimp only at hSw); go_simp; try with_reducible rfl)
      try simp only [Act.put, List.setIfInBounds_toArray, List.set_cons_zero, List.set_cons_succ, List.getElem_toArray, List.getElem_cons_zero]
      refine wpAnyH_take (i := 1) (v := .bool true) rfl (by kernel_rfl) (by kernel_rfl) (by kernel_rfl) (fun _ _ _ h => h) (Or.inl ⟨by kernel_rfl, ?hy1a⟩) hHeld ?rest1a
      case hy1a => (intro w hSw; (try dsimp only at hSw); go_simp; try with_reducible rfl)
      try simp only [Act.put, List.setIfInBounds_toArray, List.set_cons_zero, List.set_cons_succ, List.getElem_toArray, List.getElem_cons_zero, List.getElem_cons_succ]
      refine wpAnyH_take (i := 2) (v := .bool true) rfl (by kernel_rfl) (by kernel_rfl) (by kernel_rfl) (fun _ _ _ h => h) (Or.inl ⟨by kernel_rfl, ?hy2a⟩) hHeld ?rest2a
      case hy2a => (intro w hSw; (try dsimp only at hSw); go_simp; try with_reducible rfl)
      try simp only [Act.put, List.setIfInBounds_toArray, List.set_cons_zero, List.set_cons_succ, List.getElem_toArray, List.getElem_cons_zero, List.getElem_cons_succ]
      refine wpAnyH_take (i := 3) (v := .pointer (some ⟨bl, 0, none⟩)) rfl (by kernel_rfl) (by kernel_rfl) (by kernel_rfl) (fun _ _ _ h => h) (Or.inl ⟨by kernel_rfl, ?hy3a⟩) hHeld ?rest3a
      case hy3a => (intro w hSw; (try dsimp only at hSw); go_simp; try with_reducible rfl)
      try simp only [Act.put, List.setIfInBounds_toArray, List.set_cons_zero, List.set_cons_succ, List.getElem_toArray, List.getElem_cons_zero, List.getElem_cons_succ]
      refine wpAnyH_take (i := 5) (v := .pointer (some ⟨bx, 1, none⟩)) rfl (by kernel_rfl) (by kernel_rfl) (by kernel_rfl) (fun _ _ _ h => h) (Or.inl ⟨by kernel_rfl, ?hy5a⟩) hHeld ?rest5a
      case hy5a => (intro w hSw; (try dsimp only at hSw); go_simp; try with_reducible rfl)
      try simp only [Act.put, List.setIfInBounds_toArray, List.set_cons_zero, List.set_cons_succ, List.getElem_toArray, List.getElem_cons_zero, List.getElem_cons_succ]
      refine wpAnyH_take (i := 6) (v := .slice ah qh ch) rfl (by kernel_rfl) (by kernel_rfl) (by kernel_rfl) (fun _ _ _ h => h) (Or.inl ⟨by kernel_rfl, ?hy6a⟩) hHeld ?rest6a
      case hy6a => (intro w hSw; (try dsimp only at hSw); go_simp; try with_reducible rfl)
      try simp only [Act.put, List.setIfInBounds_toArray, List.set_cons_zero, List.set_cons_succ, List.getElem_toArray, List.getElem_cons_zero, List.getElem_cons_succ]
      refine wpAnyH_ready (rs := [4]) (by kernel_rfl) (by simp) ?_
      refine AllReadyH.cons rfl (fun K hK => ?_) AllReadyH.nil
      go_simp; refine (wl_records HTd.out).mono ?_; rintro e jd ⟨vj, rfl, hrj, hbj⟩; obtain ⟨ajd, cjd, rfl, _, hij, _, _⟩ := RowsS.slice hrj; have HId : Hid (InS jd ajd l.R) := hij; have HBd : Hid (Below w4.drew.heap.size w4.drew jd) := hbj; clear hrj hbj hij; go_wp2_with fail
      refine hK.out _ _ ?hS4a (fun hHeld => ?rest4a)
      case hS4a => exact HSi.out _ ((HBd.out.block bx (HLi.out bx HQ.out.1)).trans (rfl))
      clear hK K
      try simp only [Act.put, List.setIfInBounds_toArray, List.set_cons_zero, List.set_cons_succ, List.getElem_toArray, List.getElem_cons_zero, List.getElem_cons_succ]

      have HTjd : Hid (Wl w jd Q bd bl (N + 2) s3 l) := HTd.out.keep0 HBd.out
      have HLjd : Hid (∀ k, Q k → k < jd.heap.size) := fun k hk => Nat.lt_of_lt_of_le (HLi.out k hk) HBd.out.size
      have HKjd : Hid (∀ k, Q k → jd.heap[k]? = w4.heap[k]?) := fun k hk => (HBd.out.block k (HLi.out k hk)).trans (rfl)
      have HVjd : Hid (TxP jd Q ah qh ch H) := HHd.out.kept (fun k hk => HKjd.out k hk) (fun _ h => h)
      have KSad : Hid (Calls Try.prog 19 #[.slice ajd l.R.length cjd, .slice ah qh ch] jd fun e w' => e = .returned (.bool true) ∧ Below jd.heap.size jd w') := by
        have k := wsame_is jd ajd ah l.R.length qh cjd ch l.R H rfl HVjd.out.2.1 HRl.out (by have h2 := HVjd.out.2.2.1; omega) HId.out HVjd.out.1 HRb.out HVjd.out.2.2.2.2.2
        rw [decide_eq_true (HEQd.out)] at k
        exact k
      refine wpAnyH_ready (rs := [7]) (by kernel_rfl) (by simp) ?_
      refine AllReadyH.cons rfl (fun K hK => ?_) AllReadyH.nil
      go_simp; refine KSad.out.mono ?_; rintro e kd ⟨rfl, hbk⟩; have HBkd : Hid (Below jd.heap.size jd kd) := hbk; clear hbk; go_wp2_with fail
      refine hK.out _ _ ?hS7a (fun hHeld => ?rest7a)
      case hS7a => exact HSi.out _ ((HBkd.out.block bx (HLjd.out bx HQ.out.1)).trans (HKjd.out bx HQ.out.1))
      clear hK K
      try simp only [Act.put, List.setIfInBounds_toArray, List.set_cons_zero, List.set_cons_succ, List.getElem_toArray, List.getElem_cons_zero, List.getElem_cons_succ]

      refine wpAnyH_take (i := 8) (v := .bool true) rfl (by kernel_rfl) (by kernel_rfl) (by kernel_rfl) (fun _ _ _ h => h) (Or.inl ⟨by kernel_rfl, ?hy8a⟩) hHeld ?rest8a
      case hy8a => (intro w hSw; (try dsimp only at hSw); go_simp; try with_reducible rfl)
      try simp only [Act.put, List.setIfInBounds_toArray, List.set_cons_zero, List.set_cons_succ, List.getElem_toArray, List.getElem_cons_zero, List.getElem_cons_succ]
      refine wpAnyH_take (i := 9) (v := undef) rfl (by kernel_rfl) (by kernel_rfl) (by kernel_rfl) (fun _ _ _ h => h) (Or.inr ⟨by kernel_rfl, rfl⟩) hHeld ?rest9a
      case rest9a =>
      try simp only [Act.put, List.setIfInBounds_toArray, List.set_cons_zero, List.set_cons_succ, List.getElem_toArray, List.getElem_cons_zero, List.getElem_cons_succ]
      refine wpAnyH_take (i := 10) (v := undef) rfl (by kernel_rfl) (by kernel_rfl) (by kernel_rfl) (fun _ _ _ h => h) (Or.inr ⟨by kernel_rfl, rfl⟩) hHeld ?rest10a
      case rest10a =>
      try simp only [Act.put, List.setIfInBounds_toArray, List.set_cons_zero, List.set_cons_succ, List.getElem_toArray, List.getElem_cons_zero, List.getElem_cons_succ]
      refine wpAnyH_take (i := 11) (v := undef) rfl (by kernel_rfl) (by kernel_rfl) (by kernel_rfl) (fun _ _ _ h => h) (Or.inr ⟨by kernel_rfl, rfl⟩) hHeld ?rest11a
      case rest11a =>
      try simp only [Act.put, List.setIfInBounds_toArray, List.set_cons_zero, List.set_cons_succ, List.getElem_toArray, List.getElem_cons_zero, List.getElem_cons_succ]
      refine wpAnyH_take (i := 12) (v := undef) rfl (by kernel_rfl) (by kernel_rfl) (by kernel_rfl) (fun _ _ _ h => h) (Or.inr ⟨by kernel_rfl, rfl⟩) hHeld ?rest12a
      case rest12a =>
      try simp only [Act.put, List.setIfInBounds_toArray, List.set_cons_zero, List.set_cons_succ, List.getElem_toArray, List.getElem_cons_zero, List.getElem_cons_succ]
      refine wpAnyH_take (i := 13) (v := undef) rfl (by kernel_rfl) (by kernel_rfl) (by kernel_rfl) (fun _ _ _ h => h) (Or.inr ⟨by kernel_rfl, rfl⟩) hHeld ?rest13a
      case rest13a =>
      try simp only [Act.put, List.setIfInBounds_toArray, List.set_cons_zero, List.set_cons_succ, List.getElem_toArray, List.getElem_cons_zero, List.getElem_cons_succ]
      refine wpAnyH_take (i := 14) (v := .bool true) rfl (by kernel_rfl) (by kernel_rfl) (by kernel_rfl) (fun _ _ _ h => h) (Or.inl ⟨by kernel_rfl, ?hy14a⟩) hHeld ?rest14a
      case hy14a => (intro w hSw; (try dsimp only at hSw); go_simp; try with_reducible rfl)
      try simp only [Act.put, List.setIfInBounds_toArray, List.set_cons_zero, List.set_cons_succ, List.getElem_toArray, List.getElem_cons_zero, List.getElem_cons_succ]

      refine wpAnyH_take (i := 15) (v := .bool true) rfl (by kernel_rfl) (by kernel_rfl) (by kernel_rfl) (fun _ _ _ h => h) (Or.inl ⟨by kernel_rfl, ?hy15a⟩) hHeld ?rest15a
      case hy15a => (intro w hSw; (try dsimp only at hSw); go_simp; try with_reducible rfl)
      try simp only [Act.put, List.setIfInBounds_toArray, List.set_cons_zero, List.set_cons_succ, List.getElem_toArray, List.getElem_cons_zero, List.getElem_cons_succ]
      refine wpAnyH_take (i := 16) (v := .bool true) rfl (by kernel_rfl) (by kernel_rfl) (by kernel_rfl) (fun _ _ _ h => h) (Or.inl ⟨by kernel_rfl, ?hy16a⟩) hHeld ?rest16a
      case hy16a => (intro w hSw; (try dsimp only at hSw); go_simp; try with_reducible rfl)
      try simp only [Act.put, List.setIfInBounds_toArray, List.set_cons_zero, List.set_cons_succ, List.getElem_toArray, List.getElem_cons_zero, List.getElem_cons_succ]
      refine wpAnyH_take (i := 17) (v := .pointer (some ⟨bl, 0, none⟩)) rfl (by kernel_rfl) (by kernel_rfl) (by kernel_rfl) (fun _ _ _ h => h) (Or.inl ⟨by kernel_rfl, ?hy17a⟩) hHeld ?rest17a
      case hy17a => (intro w hSw; (try dsimp only at hSw); go_simp; try with_reducible rfl)
      try simp only [Act.put, List.setIfInBounds_toArray, List.set_cons_zero, List.set_cons_succ, List.getElem_toArray, List.getElem_cons_zero, List.getElem_cons_succ]

      have HTz : Hid (Wl w kd Q bd bl (N + 2) s3 l) := HTjd.out.keep0 HBkd.out
      have HKz : Hid (∀ k, Q k → kd.heap[k]? = w4.heap[k]?) := fun k hk => (HBkd.out.block k (HLjd.out k hk)).trans (HKjd.out k hk)
      have KWt : Hid (Calls Try.prog 12 #[.pointer (some ⟨bl, 0, none⟩)] kd fun e w' => e = .returned (.int .i64 0) ∧ w' = kd) := by
        have k := wl_waiting HTz.out
        rw [HLW.out.1] at k
        exact k
      refine wpAnyH_ready (rs := [18]) (by kernel_rfl) (by simp) ?_
      refine AllReadyH.cons rfl (fun K hK => ?_) AllReadyH.nil
      go_simp; refine KWt.out.mono ?_; rintro e w' ⟨rfl, hw⟩; obtain rfl := hw.symm; clear hw; go_wp2_with fail
      refine hK.out _ _ ?hS18a (fun hHeld => ?rest18a)
      case hS18a => exact HSi.out _ (HKz.out bx HQ.out.1)
      clear hK K
      try simp only [Act.put, List.setIfInBounds_toArray, List.set_cons_zero, List.set_cons_succ, List.getElem_toArray, List.getElem_cons_zero, List.getElem_cons_succ]
      refine wpAnyH_take (i := 19) (v := .bool true) rfl (by kernel_rfl) (by kernel_rfl) (by kernel_rfl) (fun _ _ _ h => h) (Or.inl ⟨by kernel_rfl, ?hy19a⟩) hHeld ?rest19a
      case hy19a => (intro w hSw; (try dsimp only at hSw); go_simp; try with_reducible rfl)
      try simp only [Act.put, List.setIfInBounds_toArray, List.set_cons_zero, List.set_cons_succ, List.getElem_toArray, List.getElem_cons_zero, List.getElem_cons_succ]
      refine wpAnyH_take (i := 20) (v := .bool true) rfl (by kernel_rfl) (by kernel_rfl) (by kernel_rfl) (fun _ _ _ h => h) (Or.inl ⟨by kernel_rfl, ?hy20a⟩) hHeld ?rest20a
      case hy20a => (intro w hSw; (try dsimp only at hSw); go_simp; try with_reducible rfl)
      try simp only [Act.put, List.setIfInBounds_toArray, List.set_cons_zero, List.set_cons_succ, List.getElem_toArray, List.getElem_cons_zero, List.getElem_cons_succ]
      refine wpAnyH_take (i := 21) (v := .bool true) rfl (by kernel_rfl) (by kernel_rfl) (by kernel_rfl) (fun _ _ _ h => h) (Or.inl ⟨by kernel_rfl, ?hy21a⟩) hHeld ?rest21a
      case hy21a => (intro w hSw; (try dsimp only at hSw); go_simp; try with_reducible rfl)
      try simp only [Act.put, List.setIfInBounds_toArray, List.set_cons_zero, List.set_cons_succ, List.getElem_toArray, List.getElem_cons_zero, List.getElem_cons_succ]
      refine wpAnyH_ready (rs := [22]) (by kernel_rfl) (by simp) ?_
      refine AllReadyH.cons rfl (fun K hK => ?_) AllReadyH.nil
      go_simp; refine (KWK.out _).mono ?_; rintro e wz ⟨rfl, hbz⟩; have HBz : Hid (Below kd.heap.size kd wz) := hbz; clear hbz; go_wp2_with fail
      refine hK.out _ _ ?hS22a (fun hHeld => ?rest22a)
      case hS22a => exact HSi.out _ ((HBz.out.block bx (Nat.lt_of_lt_of_le (HLjd.out bx HQ.out.1) HBkd.out.size)).trans (HKz.out bx HQ.out.1))
      clear hK K
      try simp only [Act.put, List.setIfInBounds_toArray, List.set_cons_zero, List.set_cons_succ, List.getElem_toArray, List.getElem_cons_zero, List.getElem_cons_succ]
      refine wpAnyH_take (i := 23) (v := .bool true) rfl (by kernel_rfl) (by kernel_rfl) (by kernel_rfl) (fun _ _ _ h => h) (Or.inl ⟨by kernel_rfl, ?hy23a⟩) hHeld ?rest23a
      case hy23a => (intro w hSw; (try dsimp only at hSw); go_simp; try with_reducible rfl)
      try simp only [Act.put, List.setIfInBounds_toArray, List.set_cons_zero, List.set_cons_succ, List.getElem_toArray, List.getElem_cons_zero, List.getElem_cons_succ]
      refine wpAnyH_take (i := 24) (v := .bool true) rfl (by kernel_rfl) (by kernel_rfl) (by kernel_rfl) (fun _ _ _ h => h) (Or.inl ⟨by kernel_rfl, ?hy24a⟩) hHeld ?rest24a
      case hy24a => (intro w hSw; (try dsimp only at hSw); go_simp; try with_reducible rfl)
      try simp only [Act.put, List.setIfInBounds_toArray, List.set_cons_zero, List.set_cons_succ, List.getElem_toArray, List.getElem_cons_zero, List.getElem_cons_succ]
      refine wpAnyH_done (by kernel_rfl) ?_ _
      refine NoPanic.normal ?_

      go_wp2_with fail
      go_ret
      exact ⟨rfl, (HTz.out.keep0 HBz.out).bel⟩
  · have HEQd : Hid (¬ l.R = H) := hE
    have HEQe : Hid (l.R = Nx) := HLW.out.2.resolve_left hE
    clear hE
    refine wp_region_noPanic ?_
    refine wp_region_held_drew (S := (fun W : World => W.cell? ⟨bx, 1, none⟩ = some (.slice ah qh ch) ∧ W.cell? ⟨bx, 2, none⟩ = some (.slice an qn cn))) (by kernel_rfl) ?hSab (fun hHeld => ?restab)
    case hSab => exact HSi.out _ rfl
    case restab =>

      refine wpAnyH_take (i := 0) (v := .int .i64 0) rfl (by kernel_rfl) (by kernel_rfl) (by kernel_rfl) (fun _ _ _ h => h) (Or.inl ⟨by kernel_rfl, ?hy0b⟩) hHeld ?rest0b
      case hy0b => (intro w hSw; (try dsimp only at hSw); go_simp; try with_reducible rfl)
      try simp only [Act.put, List.setIfInBounds_toArray, List.set_cons_zero, List.set_cons_succ, List.getElem_toArray, List.getElem_cons_zero]
      refine wpAnyH_take (i := 1) (v := .bool true) rfl (by kernel_rfl) (by kernel_rfl) (by kernel_rfl) (fun _ _ _ h => h) (Or.inl ⟨by kernel_rfl, ?hy1b⟩) hHeld ?rest1b
      case hy1b => (intro w hSw; (try dsimp only at hSw); go_simp; try with_reducible rfl)
      try simp only [Act.put, List.setIfInBounds_toArray, List.set_cons_zero, List.set_cons_succ, List.getElem_toArray, List.getElem_cons_zero, List.getElem_cons_succ]
      refine wpAnyH_take (i := 2) (v := .bool true) rfl (by kernel_rfl) (by kernel_rfl) (by kernel_rfl) (fun _ _ _ h => h) (Or.inl ⟨by kernel_rfl, ?hy2b⟩) hHeld ?rest2b
      case hy2b => (intro w hSw; (try dsimp only at hSw); go_simp; try with_reducible rfl)
      try simp only [Act.put, List.setIfInBounds_toArray, List.set_cons_zero, List.set_cons_succ, List.getElem_toArray, List.getElem_cons_zero, List.getElem_cons_succ]
      refine wpAnyH_take (i := 3) (v := .pointer (some ⟨bl, 0, none⟩)) rfl (by kernel_rfl) (by kernel_rfl) (by kernel_rfl) (fun _ _ _ h => h) (Or.inl ⟨by kernel_rfl, ?hy3b⟩) hHeld ?rest3b
      case hy3b => (intro w hSw; (try dsimp only at hSw); go_simp; try with_reducible rfl)
      try simp only [Act.put, List.setIfInBounds_toArray, List.set_cons_zero, List.set_cons_succ, List.getElem_toArray, List.getElem_cons_zero, List.getElem_cons_succ]
      refine wpAnyH_take (i := 5) (v := .pointer (some ⟨bx, 1, none⟩)) rfl (by kernel_rfl) (by kernel_rfl) (by kernel_rfl) (fun _ _ _ h => h) (Or.inl ⟨by kernel_rfl, ?hy5b⟩) hHeld ?rest5b
      case hy5b => (intro w hSw; (try dsimp only at hSw); go_simp; try with_reducible rfl)
      try simp only [Act.put, List.setIfInBounds_toArray, List.set_cons_zero, List.set_cons_succ, List.getElem_toArray, List.getElem_cons_zero, List.getElem_cons_succ]
      refine wpAnyH_take (i := 6) (v := .slice ah qh ch) rfl (by kernel_rfl) (by kernel_rfl) (by kernel_rfl) (fun _ _ _ h => h) (Or.inl ⟨by kernel_rfl, ?hy6b⟩) hHeld ?rest6b
      case hy6b => (intro w hSw; (try dsimp only at hSw); go_simp; try with_reducible rfl)
      try simp only [Act.put, List.setIfInBounds_toArray, List.set_cons_zero, List.set_cons_succ, List.getElem_toArray, List.getElem_cons_zero, List.getElem_cons_succ]
      refine wpAnyH_ready (rs := [4]) (by kernel_rfl) (by simp) ?_
      refine AllReadyH.cons rfl (fun K hK => ?_) AllReadyH.nil
      go_simp; refine (wl_records HTd.out).mono ?_; rintro e jd ⟨vj, rfl, hrj, hbj⟩; obtain ⟨ajd, cjd, rfl, _, hij, _, _⟩ := RowsS.slice hrj; have HId : Hid (InS jd ajd l.R) := hij; have HBd : Hid (Below w4.drew.heap.size w4.drew jd) := hbj; clear hrj hbj hij; go_wp2_with fail
      refine hK.out _ _ ?hS4b (fun hHeld => ?rest4b)
      case hS4b => exact HSi.out _ ((HBd.out.block bx (HLi.out bx HQ.out.1)).trans (rfl))
      clear hK K
      try simp only [Act.put, List.setIfInBounds_toArray, List.set_cons_zero, List.set_cons_succ, List.getElem_toArray, List.getElem_cons_zero, List.getElem_cons_succ]

      have HTjd : Hid (Wl w jd Q bd bl (N + 2) s3 l) := HTd.out.keep0 HBd.out
      have HLjd : Hid (∀ k, Q k → k < jd.heap.size) := fun k hk => Nat.lt_of_lt_of_le (HLi.out k hk) HBd.out.size
      have HKjd : Hid (∀ k, Q k → jd.heap[k]? = w4.heap[k]?) := fun k hk => (HBd.out.block k (HLi.out k hk)).trans (rfl)
      have HVjd : Hid (TxP jd Q ah qh ch H) := HHd.out.kept (fun k hk => HKjd.out k hk) (fun _ h => h)
      have KSad : Hid (Calls Try.prog 19 #[.slice ajd l.R.length cjd, .slice ah qh ch] jd fun e w' => e = .returned (.bool false) ∧ Below jd.heap.size jd w') := by
        have k := wsame_is jd ajd ah l.R.length qh cjd ch l.R H rfl HVjd.out.2.1 HRl.out (by have h2 := HVjd.out.2.2.1; omega) HId.out HVjd.out.1 HRb.out HVjd.out.2.2.2.2.2
        rw [decide_eq_false (HEQd.out)] at k
        exact k
      refine wpAnyH_ready (rs := [7]) (by kernel_rfl) (by simp) ?_
      refine AllReadyH.cons rfl (fun K hK => ?_) AllReadyH.nil
      go_simp; refine KSad.out.mono ?_; rintro e kd ⟨rfl, hbk⟩; have HBkd : Hid (Below jd.heap.size jd kd) := hbk; clear hbk; go_wp2_with fail
      refine hK.out _ _ ?hS7b (fun hHeld => ?rest7b)
      case hS7b => exact HSi.out _ ((HBkd.out.block bx (HLjd.out bx HQ.out.1)).trans (HKjd.out bx HQ.out.1))
      clear hK K
      try simp only [Act.put, List.setIfInBounds_toArray, List.set_cons_zero, List.set_cons_succ, List.getElem_toArray, List.getElem_cons_zero, List.getElem_cons_succ]

      refine wpAnyH_take (i := 8) (v := .bool false) rfl (by kernel_rfl) (by kernel_rfl) (by kernel_rfl) (fun _ _ _ h => h) (Or.inl ⟨by kernel_rfl, ?hy8b⟩) hHeld ?rest8b
      case hy8b => (intro w hSw; (try dsimp only at hSw); go_simp; try with_reducible rfl)
      try simp only [Act.put, List.setIfInBounds_toArray, List.set_cons_zero, List.set_cons_succ, List.getElem_toArray, List.getElem_cons_zero, List.getElem_cons_succ]
      refine wpAnyH_take (i := 9) (v := .pointer (some ⟨bl, 0, none⟩)) rfl (by kernel_rfl) (by kernel_rfl) (by kernel_rfl) (fun _ _ _ h => h) (Or.inl ⟨by kernel_rfl, ?hy9b⟩) hHeld ?rest9b
      case hy9b => (intro w hSw; (try dsimp only at hSw); go_simp; try with_reducible rfl)
      try simp only [Act.put, List.setIfInBounds_toArray, List.set_cons_zero, List.set_cons_succ, List.getElem_toArray, List.getElem_cons_zero, List.getElem_cons_succ]
      refine wpAnyH_take (i := 11) (v := .pointer (some ⟨bx, 2, none⟩)) rfl (by kernel_rfl) (by kernel_rfl) (by kernel_rfl) (fun _ _ _ h => h) (Or.inl ⟨by kernel_rfl, ?hy11b⟩) hHeld ?rest11b
      case hy11b => (intro w hSw; (try dsimp only at hSw); go_simp; try with_reducible rfl)
      try simp only [Act.put, List.setIfInBounds_toArray, List.set_cons_zero, List.set_cons_succ, List.getElem_toArray, List.getElem_cons_zero, List.getElem_cons_succ]
      refine wpAnyH_take (i := 12) (v := .slice an qn cn) rfl (by kernel_rfl) (by kernel_rfl) (by kernel_rfl) (fun _ _ _ h => h) (Or.inl ⟨by kernel_rfl, ?hy12b⟩) hHeld ?rest12b
      case hy12b => (intro w hSw; (try dsimp only at hSw); go_simp; try with_reducible rfl)
      try simp only [Act.put, List.setIfInBounds_toArray, List.set_cons_zero, List.set_cons_succ, List.getElem_toArray, List.getElem_cons_zero, List.getElem_cons_succ]

      have HTe : Hid (Wl w kd Q bd bl (N + 2) s3 l) := HTjd.out.keep0 HBkd.out
      have HKe : Hid (∀ k, Q k → kd.heap[k]? = w4.heap[k]?) := fun k hk => (HBkd.out.block k (HLjd.out k hk)).trans (HKjd.out k hk)
      have HLe : Hid (∀ k, Q k → k < kd.heap.size) := fun k hk => Nat.lt_of_lt_of_le (HLjd.out k hk) HBkd.out.size
      refine wpAnyH_ready (rs := [10]) (by kernel_rfl) (by simp) ?_
      refine AllReadyH.cons rfl (fun K hK => ?_) AllReadyH.nil
      go_simp; refine (wl_records HTe.out).mono ?_; rintro e je ⟨vj, rfl, hrj, hbj⟩; obtain ⟨aje, cje, rfl, _, hij, _, _⟩ := RowsS.slice hrj; have HIe : Hid (InS je aje l.R) := hij; have HBe : Hid (Below kd.heap.size kd je) := hbj; clear hrj hbj hij; go_wp2_with fail
      refine hK.out _ _ ?hS10b (fun hHeld => ?rest10b)
      case hS10b => exact HSi.out _ ((HBe.out.block bx (HLe.out bx HQ.out.1)).trans (HKe.out bx HQ.out.1))
      clear hK K
      try simp only [Act.put, List.setIfInBounds_toArray, List.set_cons_zero, List.set_cons_succ, List.getElem_toArray, List.getElem_cons_zero, List.getElem_cons_succ]

      have HTje : Hid (Wl w je Q bd bl (N + 2) s3 l) := HTe.out.keep0 HBe.out
      have HLje : Hid (∀ k, Q k → k < je.heap.size) := fun k hk => Nat.lt_of_lt_of_le (HLe.out k hk) HBe.out.size
      have HKje : Hid (∀ k, Q k → je.heap[k]? = w4.heap[k]?) := fun k hk => (HBe.out.block k (HLe.out k hk)).trans (HKe.out k hk)
      have HVje : Hid (TxP je Q an qn cn Nx) := HNd.out.kept (fun k hk => HKje.out k hk) (fun _ h => h)
      have KSae : Hid (Calls Try.prog 19 #[.slice aje l.R.length cje, .slice an qn cn] je fun e w' => e = .returned (.bool true) ∧ Below je.heap.size je w') := by
        have k := wsame_is je aje an l.R.length qn cje cn l.R Nx rfl HVje.out.2.1 HRl.out (by have h2 := HVje.out.2.2.1; omega) HIe.out HVje.out.1 HRb.out HVje.out.2.2.2.2.2
        rw [decide_eq_true (HEQe.out)] at k
        exact k
      refine wpAnyH_ready (rs := [13]) (by kernel_rfl) (by simp) ?_
      refine AllReadyH.cons rfl (fun K hK => ?_) AllReadyH.nil
      go_simp; refine KSae.out.mono ?_; rintro e ke ⟨rfl, hbk⟩; have HBke : Hid (Below je.heap.size je ke) := hbk; clear hbk; go_wp2_with fail
      refine hK.out _ _ ?hS13b (fun hHeld => ?rest13b)
      case hS13b => exact HSi.out _ ((HBke.out.block bx (HLje.out bx HQ.out.1)).trans (HKje.out bx HQ.out.1))
      clear hK K
      try simp only [Act.put, List.setIfInBounds_toArray, List.set_cons_zero, List.set_cons_succ, List.getElem_toArray, List.getElem_cons_zero, List.getElem_cons_succ]

      refine wpAnyH_take (i := 14) (v := .bool true) rfl (by kernel_rfl) (by kernel_rfl) (by kernel_rfl) (fun _ _ _ h => h) (Or.inl ⟨by kernel_rfl, ?hy14b⟩) hHeld ?rest14b
      case hy14b => (intro w hSw; (try dsimp only at hSw); go_simp; try with_reducible rfl)
      try simp only [Act.put, List.setIfInBounds_toArray, List.set_cons_zero, List.set_cons_succ, List.getElem_toArray, List.getElem_cons_zero, List.getElem_cons_succ]

      refine wpAnyH_take (i := 15) (v := .bool true) rfl (by kernel_rfl) (by kernel_rfl) (by kernel_rfl) (fun _ _ _ h => h) (Or.inl ⟨by kernel_rfl, ?hy15b⟩) hHeld ?rest15b
      case hy15b => (intro w hSw; (try dsimp only at hSw); go_simp; try with_reducible rfl)
      try simp only [Act.put, List.setIfInBounds_toArray, List.set_cons_zero, List.set_cons_succ, List.getElem_toArray, List.getElem_cons_zero, List.getElem_cons_succ]
      refine wpAnyH_take (i := 16) (v := .bool true) rfl (by kernel_rfl) (by kernel_rfl) (by kernel_rfl) (fun _ _ _ h => h) (Or.inl ⟨by kernel_rfl, ?hy16b⟩) hHeld ?rest16b
      case hy16b => (intro w hSw; (try dsimp only at hSw); go_simp; try with_reducible rfl)
      try simp only [Act.put, List.setIfInBounds_toArray, List.set_cons_zero, List.set_cons_succ, List.getElem_toArray, List.getElem_cons_zero, List.getElem_cons_succ]
      refine wpAnyH_take (i := 17) (v := .pointer (some ⟨bl, 0, none⟩)) rfl (by kernel_rfl) (by kernel_rfl) (by kernel_rfl) (fun _ _ _ h => h) (Or.inl ⟨by kernel_rfl, ?hy17b⟩) hHeld ?rest17b
      case hy17b => (intro w hSw; (try dsimp only at hSw); go_simp; try with_reducible rfl)
      try simp only [Act.put, List.setIfInBounds_toArray, List.set_cons_zero, List.set_cons_succ, List.getElem_toArray, List.getElem_cons_zero, List.getElem_cons_succ]

      have HTz : Hid (Wl w ke Q bd bl (N + 2) s3 l) := HTje.out.keep0 HBke.out
      have HKz : Hid (∀ k, Q k → ke.heap[k]? = w4.heap[k]?) := fun k hk => (HBke.out.block k (HLje.out k hk)).trans (HKje.out k hk)
      have KWt : Hid (Calls Try.prog 12 #[.pointer (some ⟨bl, 0, none⟩)] ke fun e w' => e = .returned (.int .i64 0) ∧ w' = ke) := by
        have k := wl_waiting HTz.out
        rw [HLW.out.1] at k
        exact k
      refine wpAnyH_ready (rs := [18]) (by kernel_rfl) (by simp) ?_
      refine AllReadyH.cons rfl (fun K hK => ?_) AllReadyH.nil
      go_simp; refine KWt.out.mono ?_; rintro e w' ⟨rfl, hw⟩; obtain rfl := hw.symm; clear hw; go_wp2_with fail
      refine hK.out _ _ ?hS18b (fun hHeld => ?rest18b)
      case hS18b => exact HSi.out _ (HKz.out bx HQ.out.1)
      clear hK K
      try simp only [Act.put, List.setIfInBounds_toArray, List.set_cons_zero, List.set_cons_succ, List.getElem_toArray, List.getElem_cons_zero, List.getElem_cons_succ]
      refine wpAnyH_take (i := 19) (v := .bool true) rfl (by kernel_rfl) (by kernel_rfl) (by kernel_rfl) (fun _ _ _ h => h) (Or.inl ⟨by kernel_rfl, ?hy19b⟩) hHeld ?rest19b
      case hy19b => (intro w hSw; (try dsimp only at hSw); go_simp; try with_reducible rfl)
      try simp only [Act.put, List.setIfInBounds_toArray, List.set_cons_zero, List.set_cons_succ, List.getElem_toArray, List.getElem_cons_zero, List.getElem_cons_succ]
      refine wpAnyH_take (i := 20) (v := .bool true) rfl (by kernel_rfl) (by kernel_rfl) (by kernel_rfl) (fun _ _ _ h => h) (Or.inl ⟨by kernel_rfl, ?hy20b⟩) hHeld ?rest20b
      case hy20b => (intro w hSw; (try dsimp only at hSw); go_simp; try with_reducible rfl)
      try simp only [Act.put, List.setIfInBounds_toArray, List.set_cons_zero, List.set_cons_succ, List.getElem_toArray, List.getElem_cons_zero, List.getElem_cons_succ]
      refine wpAnyH_take (i := 21) (v := .bool true) rfl (by kernel_rfl) (by kernel_rfl) (by kernel_rfl) (fun _ _ _ h => h) (Or.inl ⟨by kernel_rfl, ?hy21b⟩) hHeld ?rest21b
      case hy21b => (intro w hSw; (try dsimp only at hSw); go_simp; try with_reducible rfl)
      try simp only [Act.put, List.setIfInBounds_toArray, List.set_cons_zero, List.set_cons_succ, List.getElem_toArray, List.getElem_cons_zero, List.getElem_cons_succ]
      refine wpAnyH_ready (rs := [22]) (by kernel_rfl) (by simp) ?_
      refine AllReadyH.cons rfl (fun K hK => ?_) AllReadyH.nil
      go_simp; refine (KWK.out _).mono ?_; rintro e wz ⟨rfl, hbz⟩; have HBz : Hid (Below ke.heap.size ke wz) := hbz; clear hbz; go_wp2_with fail
      refine hK.out _ _ ?hS22b (fun hHeld => ?rest22b)
      case hS22b => exact HSi.out _ ((HBz.out.block bx (Nat.lt_of_lt_of_le (HLje.out bx HQ.out.1) HBke.out.size)).trans (HKz.out bx HQ.out.1))
      clear hK K
      try simp only [Act.put, List.setIfInBounds_toArray, List.set_cons_zero, List.set_cons_succ, List.getElem_toArray, List.getElem_cons_zero, List.getElem_cons_succ]
      refine wpAnyH_take (i := 23) (v := .bool true) rfl (by kernel_rfl) (by kernel_rfl) (by kernel_rfl) (fun _ _ _ h => h) (Or.inl ⟨by kernel_rfl, ?hy23b⟩) hHeld ?rest23b
      case hy23b => (intro w hSw; (try dsimp only at hSw); go_simp; try with_reducible rfl)
      try simp only [Act.put, List.setIfInBounds_toArray, List.set_cons_zero, List.set_cons_succ, List.getElem_toArray, List.getElem_cons_zero, List.getElem_cons_succ]
      refine wpAnyH_take (i := 24) (v := .bool true) rfl (by kernel_rfl) (by kernel_rfl) (by kernel_rfl) (fun _ _ _ h => h) (Or.inl ⟨by kernel_rfl, ?hy24b⟩) hHeld ?rest24b
      case hy24b => (intro w hSw; (try dsimp only at hSw); go_simp; try with_reducible rfl)
      try simp only [Act.put, List.setIfInBounds_toArray, List.set_cons_zero, List.set_cons_succ, List.getElem_toArray, List.getElem_cons_zero, List.getElem_cons_succ]
      refine wpAnyH_done (by kernel_rfl) ?_ _
      refine NoPanic.normal ?_

      go_wp2_with fail
      go_ret
      exact ⟨rfl, (HTz.out.keep0 HBz.out).bel⟩

end Go.Proofs.Ytaoddlmmgfgmnaa
namespace Go.Proofs.Ytaoddlmmgfgmnaa
open Go.ChangeShapes Go.WideShapes Go.ChangeAt Go.RowKit Go.Deep Go.Maps
set_option linter.unusedVariables false
theorem ownB_empty (w : World) (base : Nat) (hb : base ≤ w.heap.size) : OwnB (w.alloc (.cells #[] 79)) base (.slice (some ⟨w.heap.size, 0, none⟩) 0 0) [] :=
  World.ownsRow_made (e := 79) (size := 64) (base := base) w #[] 0 hb (by simp [maxLen]) rfl
/-- append(blocks, others...) -/
theorem append_blocks {w : World} {ops : Array Oper} {rest : List Oper} {o : Oper} {act : Act} {Q : Exit → Act → World → Prop} (hgd : o.guard = none) (s x : Operand)
    (ho : o.op = .call { callee := .builtin .append, args := #[s, x], argTypes := #[40, 40] })
    (base : Nat) (v : Value) (B : List (List Int)) (hs : act.eval s = v) (hown : OwnB w base v B)
    (g c n : Nat) (B2 : List (List Int)) (h64 : Is64 B2) (hn : B2.length = n) (hx : act.eval x = .slice (some ⟨g, 0, none⟩) n c) (base2 : Nat) (hc : OwnB w base2 (.slice (some ⟨g, 0, none⟩) n c) B2)
    (hN : B.length + n ≤ 1000000000) (hbase : base ≤ w.heap.size)
    (h : ∀ v' w', OwnB w' base v' (B ++ B2) → w.grownBy w' v.ownBlock → wpList Try.prog ops Q rest (act.put o.dst v') w') :
    wpList Try.prog ops Q (o :: rest) act w := by
  obtain ⟨i, hi, hz, h1, h2⟩ := infoB
  refine wpList_append_own w hgd s x 40 ho base 79 i _ 64 64 Try.underlying40 hi hz h1 h2 rfl (by decide) v B.length _ hs hown ⟨g, 0, none⟩ n c (bcs B2) hx (by unfold bcs; rw [List.length_map, flat_len h64, hn]) ?_ (by intro u hu; obtain ⟨z, _, rfl⟩ := List.mem_map.1 hu; rfl) (by simp only [maxLen]; omega) (by omega) hbase ?_
  · intro j u hu
    exact World.ownsRow.cells hc (g := g) rfl j u hu
  · intro v' w' hown' hg _
    refine h v' w' ?_ hg
    unfold OwnB
    rw [List.length_append, hn]
    have : bcs (B ++ B2) = bcs B ++ bcs B2 := by simp [bcs]
    rw [this]
    exact hown'
theorem lt_of_heap' {w : World} {k : Nat} {o : Obj} (h : w.heap[k]? = some o) : k < w.heap.size := (Array.getElem?_eq_some_iff.1 h).1
theorem clone_blocks (w : World) (h g n c : Nat) (B : List (List Int)) (hn : B.length = n) (h0 : 1 ≤ n) (hm : n ≤ 1000000000) (h64 : Is64 B) (ho : OwnB w h (.slice (some ⟨g, 0, none⟩) n c) B) :
    Calls Try.prog 37 #[.slice (some ⟨g, 0, none⟩) n c] w fun e w' => ∃ g' c', e = .returned (.slice (some ⟨g', 0, none⟩) n c') ∧ OwnB w' w.heap.size (.slice (some ⟨g', 0, none⟩) n c') B ∧ Below w.heap.size w w' := by
  have hnil : ∀ W, (binOp .eql 40 (.slice (some ⟨g, 0, none⟩) n c) (.slice none 0 0)).run Try.prog W = .ok (.bool false) W := fun W => Lib.run_eql_slice_some_nil W _ _ _ Try.underlying40
  have HO : Hid (OwnB w h (.slice (some ⟨g, 0, none⟩) n c) B) := ho
  have H6 : Hid (Is64 B) := h64
  have HN : Hid (B.length = n ∧ 1 ≤ n) := ⟨hn, h0⟩
  clear ho h64
  go_enter Try.func37, Try.ntmps37
  go_wp2_with (at_builtin; refine append_blocks rfl (.tmp 5) (.tmp 6) rfl w.heap.size (.slice (some ⟨w.heap.size, 0, none⟩) 0 0) [] rfl (ownB_empty w w.heap.size (Nat.le_refl _)) g c n B H6.out HN.out.1 rfl h (HO.out.keep (below1 _ _)) (by simpa using hm) (by simp) ?_; intro v1 w1 ho1 hg1; have O1 : Hid (OwnB w1 w.heap.size v1 ([] ++ B)) := ho1; have B1 : Hid (Below w.heap.size w w1) := (below1 w _).grown hg1 (by simp) (fun k e => by have : w.heap.size = k := (by simpa [Value.ownBlock] using e); omega); clear ho1 hg1)
  go_ret
  have o := O1.out
  rw [List.nil_append] at o
  rcases o.2 with ⟨e, h1⟩ | ⟨g', cap, cur, e, hb, hg, _⟩
  · exact absurd (HN.out.1.symm.trans h1) (by have := HN.out.2; omega)
  · have e2 : v1 = .slice (some ⟨g', 0, none⟩) n cap := by rw [e, HN.out.1]
    rw [e2] at o
    exact ⟨g', cap, by rw [e2]; rfl, o, B1.out⟩
/-- a block's writes are laid in -/
theorem DkP.laid {w w4 w5 : World} {h b N : Nat} {D : List (List Int)} {W : Int → List (List Int)} {up : Bool} {done fuse : Int} {gd cd mb : Nat} {T : Int → Option Hd} (H : DkP w h b N D W up done fuse gd cd mb T)
    (hb : Below w.heap.size w w4) (i : Int) (hI : InI i) (L : List (List Int)) (hL : L ≠ []) (h64 : Is64 L) (g' c' : Nat) (hh : h ≤ w.heap.size)
    (o4 : OwnB w4 w.heap.size (.slice (some ⟨g', 0, none⟩) L.length c') L)
    (S5 : Sc w5 mb (N + 1) (fun q => if q = i then some (g' + 1, L.length, c') else T q)) (hg5 : w4.grownBy w5 (some mb)) :
    DkP w5 h b (N + 1) D (fun j => if j = i then L else W j) up done fuse gd cd mb (fun q => if q = i then some (g' + 1, L.length, c') else T q) := by
  obtain ⟨n1, n2, l1, l2, l3⟩ := H.apart3
  have z := hb.size
  have hg' := o4.own g' rfl
  have keep : ∀ k, k < w.heap.size → k ≠ mb → w5.heap[k]? = w.heap[k]? := fun k hk hm => (hg5.block k (by omega) (by simpa using hm)).trans (hb.block k hk)
  refine ⟨H.hb, H.hm, (keep b l2 n1).trans H.cell, H.dur.block fun k hk => ?_, H.is64, S5, ?_, ?_, ?_⟩
  · have : gd = k := by simpa [Value.ownBlock] using hk
    subst this
    exact keep gd l1 n2
  · intro j
    by_cases hj : j = i
    · simp [hj, hL]
    · simp only [if_neg hj]; exact H.nil j
  · intro j x hx
    by_cases hj : j = i
    · subst hj
      simp only [if_true] at hx ⊢
      obtain rfl := Option.some.inj hx
      refine ⟨hI, ⟨g', c', rfl, by omega⟩, ?_, h64⟩
      refine (o4.base hh).block fun k hk => ?_
      have e : g' = k := by simpa [hv, Value.ownBlock] using hk
      subst e
      exact hg5.block g' hg'.2 (by simp; omega)
    · simp only [if_neg hj] at hx ⊢
      obtain ⟨a1, a2, a3, a4⟩ := H.row j x hx
      refine ⟨a1, a2, a3.block fun k hk => ?_, a4⟩
      have hof := H.off j k (by rw [hx]; exact hk)
      exact keep k hof.1 hof.2.2.1
  · have old : ∀ j y, j ≠ i → T j = some y → y.1 ≠ g' + 1 := fun j y _ hy => by
      obtain ⟨_, ⟨g, c, rfl, _⟩, ho, _⟩ := H.row j y hy
      have := (ho.own g rfl).2
      show g + 1 ≠ g' + 1
      omega
    intro j k x y hjk hx hy
    by_cases hj : j = i
    · by_cases hk : k = i
      · omega
      · subst hj
        simp only [if_true] at hx
        simp only [if_neg hk] at hy
        obtain rfl := Option.some.inj hx
        exact fun e => old k y hk hy e.symm
    · by_cases hk : k = i
      · subst hk
        simp only [if_true] at hy
        simp only [if_neg hj] at hx
        obtain rfl := Option.some.inj hy
        exact old j x hj hx
      · simp only [if_neg hj] at hx
        simp only [if_neg hk] at hy
        exact H.apart j k x y hjk hx hy

set_option linter.unusedSimpArgs false in
set_option maxRecDepth 100000 in
set_option maxHeartbeats 8000000 in
theorem copy_is (w : World) (h b N : Nat) (D : List (List Int)) (W : Int → List (List Int)) (up : Bool) (done fuse : Int) (gd cd mb : Nat) (T : Int → Option Hd) (hn : 1 ≤ D.length ∧ D.length ≤ 4096) (H : DkP w h b N D W up done fuse gd cd mb T) (hN : N ≤ 1000000000) (hWl : ∀ i, (W i).length ≤ 1000000000) :
    Calls Try.prog 20 #[.pointer (some ⟨b, 0, none⟩)] w fun e w' => ∃ b2 gd2 cd2 mb2 T2, e = .returned (.pointer (some ⟨b2, 0, none⟩)) ∧ DkP w' w.heap.size b2 N D W up done fuse gd2 cd2 mb2 T2 ∧ Below w.heap.size w w' := by
  have h5 := d5_of H.cell
  have K : Hid (Calls Try.prog 34 #[.pointer (some ⟨b, 0, none⟩)] w fun e w' => e = .returned (.bool false) ∧ w' = w) := isNone_not w b gd D.length cd mb up done fuse hn.1 h5
  obtain ⟨q0, q1, q2, q3, q4⟩ := h5
  have HP : Hid (DkP w h b N D W up done fuse gd cd mb T) := H
  have HN : Hid (1 ≤ D.length ∧ D.length ≤ 4096) := hn
  have HWL : Hid (∀ i, (W i).length ≤ 1000000000) := hWl
  have lb := H.apart3.2.2.2.1
  clear H hn hWl
  obtain ⟨W1, hW1⟩ : ∃ W1, w.alloc (.cells #[.slice (some ⟨gd, 0, none⟩) D.length cd, .map (some mb), .bool up, .int .i64 done, .int .i64 fuse] 43) = W1 := ⟨_, rfl⟩
  have HW1 : Hid (w.alloc (.cells #[.slice (some ⟨gd, 0, none⟩) D.length cd, .map (some mb), .bool up, .int .i64 done, .int .i64 fuse] 43) = W1) := hW1
  have X1 : Hid (W1.heap[w.heap.size]? = some (.cells #[.slice (some ⟨gd, 0, none⟩) D.length cd, .map (some mb), .bool up, .int .i64 done, .int .i64 fuse] 43) ∧ Below w.heap.size w W1 ∧ W1.heap.size = w.heap.size + 1) := by
    rw [← hW1]
    exact ⟨heap_alloc_new w _, below1 _ _, by simp⟩
  clear hW1
  have KC : Hid (Calls Try.prog 37 #[.slice (some ⟨gd, 0, none⟩) D.length cd] W1 fun e w' => ∃ g' c', e = .returned (.slice (some ⟨g', 0, none⟩) D.length c') ∧ OwnB w' W1.heap.size (.slice (some ⟨g', 0, none⟩) D.length c') D ∧ Below W1.heap.size W1 w') := clone_blocks W1 h gd D.length cd D rfl HN.out.1 (by have := HN.out.2; omega) HP.out.is64 (HP.out.dur.keep X1.out.2.1)
  go_enter Try.func20, Try.ntmps20
  go_wp2_with fail
  refine K.out.mono ?_
  rintro e w0 ⟨rfl, hw⟩
  obtain rfl := hw.symm
  clear hw K
  go_wp2_with fail
  rw [show World.alloc _ _ = W1 from HW1.out]
  refine KC.out.mono ?_
  rintro e w2 ⟨g2, c2, rfl, o2, b2⟩
  have Z1 := X1.out.2.2
  have z2 := b2.size
  have x2 : w2.heap[w.heap.size]? = _ := (b2.block _ (by omega)).trans X1.out.1
  obtain ⟨p0, p1, p2, p3, p4⟩ := d5_of x2
  have f0 := frozen_not x2 0
  have f1 := frozen_not x2 1
  have B02 : Hid (Below w.heap.size w w2) := X1.out.2.1.trans (b2.mono (by omega))
  have q1' : w2.cell? ⟨b, 1, none⟩ = some (.map (some mb)) := (B02.out.cell (p := ⟨b, 1, none⟩) lb).trans q1
  have hne : b ≠ w.heap.size := by omega
  have O2 : Hid (OwnB w2 w.heap.size (.slice (some ⟨g2, 0, none⟩) D.length c2) D ∧ W1.heap.size ≤ g2 ∧ g2 < w2.heap.size) := ⟨o2.base (by omega), (o2.own g2 rfl).1, (o2.own g2 rfl).2⟩
  have X2 : Hid (w2.heap[w.heap.size]? = some (.cells #[.slice (some ⟨gd, 0, none⟩) D.length cd, .map (some mb), .bool up, .int .i64 done, .int .i64 fuse] 43)) := x2
  have hmk : ∀ (W : World) (n : Nat), (Instr.makeMap 41 (some (.int .i64 (n : Int)))).run Try.prog W = .ok (.map (some W.heap.size)) (W.alloc (.map #[] 0)) := fun W n => by kernel_rfl
  clear o2 b2 x2 KC HW1
  have SC : Hid (∀ Wd, Below w.heap.size w Wd → Sc Wd mb N T) := fun Wd hb => HP.out.mp.keep hb
  have B3 : Hid (Below w.heap.size w (w2.setCell ⟨w.heap.size, 0, none⟩ (.slice (some ⟨g2, 0, none⟩) D.length c2))) := B02.out.setCell (Nat.le_refl _) _
  have z3 : (w2.setCell ⟨w.heap.size, 0, none⟩ (.slice (some ⟨g2, 0, none⟩) D.length c2)).heap.size = w2.heap.size := by simp [World.setCell]
  obtain ⟨w4, hw4⟩ : ∃ w4, (w2.setCell ⟨w.heap.size, 0, none⟩ (.slice (some ⟨g2, 0, none⟩) D.length c2)).alloc (.map #[] 0) = w4 := ⟨_, rfl⟩
  have G24 : Hid (w2.grownBy w4 (some w.heap.size) ∧ w4.heap.size = w2.heap.size + 1) := by
    rw [← hw4]
    exact ⟨grown_andBelow (grown_set w2 w.heap.size 0 _) (below1 _ _), by simp [World.setCell]⟩
  have B4 : Hid (Below w.heap.size w w4) := by rw [← hw4]; exact B3.out.trans ((below1 _ _).mono (by omega))
  have X4 : Hid (w4.heap[w.heap.size]? = some (.cells #[.slice (some ⟨g2, 0, none⟩) D.length c2, .map (some mb), .bool up, .int .i64 done, .int .i64 fuse] 43)) := by
    rw [← hw4, Below.heap_alloc _ _ _ (by rw [z3]; exact lt_of_heap' X2.out)]
    exact set_own w2 w.heap.size 0 _ _ X2.out _
  have S4 : Hid (Sc w4 w2.heap.size 0 (fun _ => none)) := by
    have := Sc.empty (w2.setCell ⟨w.heap.size, 0, none⟩ (.slice (some ⟨g2, 0, none⟩) D.length c2))
    rw [hw4, z3] at this
    exact this
  obtain ⟨e0, e1, e2, e3, e4⟩ := d5_of X4.out
  have k1 := frozen_not X4.out 1
  have q4' : w4.cell? ⟨b, 1, none⟩ = some (.map (some mb)) := (B4.out.cell (p := ⟨b, 1, none⟩) lb).trans q1
  have hmk2 : ∀ n : Nat, (Instr.makeMap 41 (some (.int .i64 (n : Int)))).run Try.prog (w2.setCell ⟨w.heap.size, 0, none⟩ (.slice (some ⟨g2, 0, none⟩) D.length c2)) = .ok (.map (some w2.heap.size)) w4 := fun n => by rw [hmk (w2.setCell ⟨w.heap.size, 0, none⟩ (.slice (some ⟨g2, 0, none⟩) D.length c2)) n, hw4, z3]
  clear hmk hw4 z3
  have B5 : Hid (Below w.heap.size w (w4.setCell ⟨w.heap.size, 1, none⟩ (.map (some w2.heap.size)))) := B4.out.setCell (Nat.le_refl _) _
  go_wp2_with (first | (at_len; refine wpList_len_sc rfl (.tmp 20) rfl mb N T rfl (SC.out _ B3.out) ?_; intro N1 hN1) | (at_range; refine wpList_range_sc rfl (.tmp 27) rfl mb N T rfl (SC.out _ B5.out) ?_; intro w6 cnt0 hrg0 hg0 hs0; have R0 : Hid (Rg w6 mb (w4.setCell ⟨w.heap.size, 1, none⟩ (.map (some w2.heap.size))).heap.size N T (fun p => (T p).isSome) cnt0 ∧ (w4.setCell ⟨w.heap.size, 1, none⟩ (.map (some w2.heap.size))).grownBy w6 none) := ⟨hrg0, hg0⟩; clear hrg0 hg0 hs0))
  have z5 : (w4.setCell ⟨w.heap.size, 1, none⟩ (.map (some w2.heap.size))).heap.size = w4.heap.size := by simp [World.setCell]
  rw [z5] at R0 ⊢
  have P0 : Hid (DkP w6 w.heap.size w.heap.size 0 D (fun _ => []) up done fuse g2 c2 w2.heap.size (fun _ => none)) := by
    have hm : w2.heap.size ≠ w.heap.size := by have := lt_of_heap' X2.out; omega
    have g45 := grown_set w4 w.heap.size 1 (.map (some w2.heap.size))
    have hg2 : g2 ≠ w.heap.size := by have := O2.out.2.1; omega
    refine ⟨Nat.le_refl _, by have := B02.out.size; omega, ?_, ?_, HP.out.is64, ?_, fun i => by simp, fun i x hx => (by cases hx), fun i j x y _ hx => (by cases hx)⟩
    · exact (R0.out.2.block _ (by have := lt_of_heap' X4.out; omega) (by simp)).trans (set_own w4 w.heap.size 1 _ _ X4.out _)
    · refine O2.out.1.block fun k hk => ?_
      have e : g2 = k := by simpa [Value.ownBlock] using hk
      subst e
      have l4 : g2 < w4.heap.size := by have := G24.out.2; have := O2.out.2.2; omega
      exact (R0.out.2.block _ (by omega) (by simp)).trans ((g45.block _ l4 (by simpa using hg2)).trans (G24.out.1.block _ O2.out.2.2 (by simpa using hg2)))
    · exact (S4.out.kept g45 (by simpa using hm)).kept R0.out.2 (by simp)
  have B6 : Hid (Below w.heap.size w w6) := B5.out.grown R0.out.2 (by have := B4.out.size; omega) (fun k e => by cases e)
  have FR : Hid (∀ k, Fp w.heap.size g2 w2.heap.size (fun _ => none) k → k ≠ w4.heap.size) := fun k hk => by
    have := G24.out.2
    have := O2.out.2.2
    have := B02.out.size
    rcases hk with e | e | e | ⟨_, _, e, _⟩
    · omega
    · omega
    · omega
    · cases e
  have MR : Hid (mb ≠ w2.heap.size ∧ w4.heap.size ≠ w2.heap.size ∧ w.heap.size ≤ w4.heap.size) := by
    have := HP.out.apart3.2.2.2.2
    have := B02.out.size
    have := G24.out.2
    exact ⟨by omega, by omega, by omega⟩
  have RG0 : Hid (Rg w6 mb w4.heap.size N T (fun p => (T p).isSome) cnt0) := R0.out.1
  have hge2 : w.heap.size ≤ w2.heap.size := B02.out.size
  clear R0 z5 B5 B4 B3 X4 S4 G24 O2 X2 B02 hmk2 e0 e1 e2 e3 e4 k1 q4' p0 p1 p2 p3 p4 f0 f1 q1' X1 z2 Z1
  generalize w4.heap.size = r at *
  generalize w2.heap.size = mb2 at *
  go_frame
  go_loopw [] (fun wr => ∃ (left : Int → Bool) (cnt : Nat) (ks : List Int) (T2 : Int → Option Hd), Hid (Rg wr mb r N T left cnt) ∧ Hid (DkP wr w.heap.size w.heap.size ks.length D (fun q => if q ∈ ks then W q else []) up done fuse g2 c2 mb2 T2) ∧ Hid (Got T left ks) ∧ Hid (Below w.heap.size w wr) ∧ Hid (∀ k, Fp w.heap.size g2 mb2 T2 k → k ≠ r) ∧ ks.length + cnt ≤ N)
      (fun wr => wr.rangeLeft mb r)
  case atStart => exact ⟨_, cnt0, [], _, RG0, (by show DkP _ _ _ _ _ _ _ _ _ _ _ _ _; simpa using P0.out), Got.nil T, B6, FR, (by have := RG0.out.cnt_le; simpa using this)⟩
  case round =>
    obtain ⟨left, cnt, ks, T2, RG, P2, GT, BW, FW, hlc⟩ := hrel
    go_wp2_with (first | (at_next; refine wpList_next_sc rfl (.tmp 28) rfl mb r N T left cnt rfl RG.out ?_ ?_))
    · intro _ hl0
      have HL0 : Hid (∀ q, left q = false) := hl0
      clear hl0
      go_wp2_with fail
      go_ret
      have eW : (fun q => if q ∈ ks then W q else []) = W := by
        funext q
        by_cases hq : q ∈ ks
        · rw [if_pos hq]
        · rw [if_neg hq]
          have hT : T q = none := by
            cases hTq : T q with
            | none => rfl
            | some x => exact absurd ((GT.out.mem HL0.out q).2 (by rw [hTq]; rfl)) hq
          exact ((HP.out.nil q).1 hT).symm
      have p := P2.out
      rw [eW] at p
      refine ⟨w.heap.size, g2, c2, mb2, T2, rfl, ⟨p.hb, p.hm, p.cell, p.dur, p.is64, p.mp.mono (by omega), p.nil, p.row, p.apart⟩, BW.out⟩
    · intro q xg xn xc w3 cnt1 hql hlq hTq hrg1 hlt hg1 hs1 hen
      obtain ⟨_, ⟨g, c, ex, hgd⟩, hown, h64⟩ := HP.out.row q (xg, xn, xc) hTq
      simp only [Prod.mk.injEq] at ex
      obtain ⟨rfl, rfl, rfl⟩ := ex
      have hne : W q ≠ [] := fun e => by have := (HP.out.nil q).2 e; rw [this] at hTq; cases hTq
      have R1 : Hid (Rg w3 mb r N T (fun z => left z && !decide (z = q)) cnt1) := hrg1
      have T1 : Hid (Got T (fun z => left z && !decide (z = q)) (ks ++ [q])) := GT.out.more hlq hTq
      have QN : Hid (q ∉ ks) := fun hm => by have := GT.out.rest q; rw [hlq] at this; simp [hm] at this
      have BW3 : Hid (Below w.heap.size w w3) := BW.out.grown hg1 BW.out.size (fun k e => by have := Option.some.inj e; have := MR.out.2.2; omega)
      have P3 : Hid (DkP w3 w.heap.size w.heap.size ks.length D (fun q => if q ∈ ks then W q else []) up done fuse g2 c2 mb2 T2) := P2.out.kept hg1.size (fun k hk => hg1.block k (P2.out.fp_lt k hk).1 (by have := FW.out k hk; simpa using this)) hg1.os hg1.tape hg1.output
      have KC : Hid (∀ Wd, Below w3.heap.size w3 Wd → Calls Try.prog 37 #[.slice (some ⟨g, 0, none⟩) (W q).length xc] Wd fun e w' => ∃ g' c', e = .returned (.slice (some ⟨g', 0, none⟩) (W q).length c') ∧ OwnB w' Wd.heap.size (.slice (some ⟨g', 0, none⟩) (W q).length c') (W q) ∧ Below Wd.heap.size Wd w') := fun Wd hbd => clone_blocks Wd h g (W q).length xc (W q) rfl (by cases hw : W q with | nil => exact absurd hw hne | cons a l => simp) (HWL.out q) h64 ((hown.keep BW3.out).keep hbd)
      have HQ : Hid (InI q ∧ W q ≠ [] ∧ Is64 (W q)) := ⟨hql, hne, h64⟩
      have LT : Hid (cnt1 < cnt) := hlt
      have ZW : Hid (r < w3.heap.size) := R1.out.lt
      obtain ⟨d0, d1, d2, d3, d4⟩ := d5_of P3.out.cell
      simp only [hv] at hen ⊢
      have RGL : Hid (wr.rangeLeft mb r = cnt) := RG.out.left_eq
      clear hrg1 hTq hlq hg1 hs1 hgd h64 hlt hql hne hown RG P2 BW
      go_wp2_with fail
      refine wp_region_noPanic ?_
      refine wp_region_held_drew (S := (fun Wd : World => Wd.cell? ⟨w.heap.size, 1, none⟩ = some (.map (some mb2)))) (by kernel_rfl) ?hSa (fun hHeld => ?resta)
      case hSa => exact d1
      case resta =>
        refine wpAnyH_take (i := 0) (v := .pointer (some ⟨w.heap.size, 1, none⟩)) rfl (by kernel_rfl) (by kernel_rfl) (by kernel_rfl) (fun _ _ _ h => h) (Or.inl ⟨by rfl, ?hy0⟩) hHeld ?rest0
        case hy0 => (intro w hSw; (try dsimp only at hSw); clear hSw; go_simp; try with_reducible rfl)
        try simp only [Act.put, List.setIfInBounds_toArray, List.set_cons_zero, List.set_cons_succ, List.getElem_toArray, List.getElem_cons_zero]
        refine wpAnyH_take (i := 1) (v := .map (some mb2)) rfl (by kernel_rfl) (by kernel_rfl) (by kernel_rfl) (fun _ _ _ h => h) (Or.inl ⟨by rfl, ?hy1⟩) hHeld ?rest1
        case hy1 => (intro w hSw; have hS1 := hSw; clear hSw; go_simp; try with_reducible rfl)
        try simp only [Act.put, List.setIfInBounds_toArray, List.set_cons_zero, List.set_cons_succ, List.getElem_toArray, List.getElem_cons_zero, List.getElem_cons_succ]
        refine wpAnyH_take (i := 2) (v := .int .i64 q) rfl (by kernel_rfl) (by kernel_rfl) (by kernel_rfl) (fun _ _ _ h => h) (Or.inl ⟨by rfl, ?hy2⟩) hHeld ?rest2
        case hy2 => (intro w hSw; (try dsimp only at hSw); clear hSw; go_simp; try with_reducible rfl)
        try simp only [Act.put, List.setIfInBounds_toArray, List.set_cons_zero, List.set_cons_succ, List.getElem_toArray, List.getElem_cons_zero, List.getElem_cons_succ]
        refine wpAnyH_take (i := 3) (v := .slice (some ⟨g, 0, none⟩) (W q).length xc) rfl (by kernel_rfl) (by kernel_rfl) (by kernel_rfl) (fun _ _ _ h => h) (Or.inl ⟨by rfl, ?hy3⟩) hHeld ?rest3
        case hy3 => (intro w hSw; (try dsimp only at hSw); clear hSw; go_simp; try with_reducible rfl)
        try simp only [Act.put, List.setIfInBounds_toArray, List.set_cons_zero, List.set_cons_succ, List.getElem_toArray, List.getElem_cons_zero, List.getElem_cons_succ]
        refine wpAnyH_ready (rs := [4]) (by kernel_rfl) (by simp) ?_
        refine AllReadyH.cons rfl (fun K hK => ?_) AllReadyH.nil
        go_simp
        refine (KC.out _ (by exact ⟨rfl, rfl, rfl, Nat.le_refl _, fun _ _ => rfl⟩)).mono ?_
        rintro e w5 ⟨g', c', rfl, o5, b5⟩
        have B35 : Hid (Below w3.heap.size w3 w5) := ⟨b5.os, b5.tape, b5.output, b5.size, b5.block⟩
        have O5 : Hid (OwnB w5 w3.heap.size (.slice (some ⟨g', 0, none⟩) (W q).length c') (W q)) := o5
        have S5 : Hid (Sc w5 mb2 ks.length T2) := P3.out.mp.keep B35.out
        have D5' : Hid (w5.cell? ⟨w.heap.size, 1, none⟩ = some (.map (some mb2))) := (B35.out.cell (p := ⟨w.heap.size, 1, none⟩) (World.block_lt_of_cell? _ _ d1)).trans d1
        clear o5 b5
        refine hK.out _ _ ?hS4 (fun hHeld => ?rest4)
        case hS4 => exact D5'.out
        clear hK K
        try simp only [Act.put, List.setIfInBounds_toArray, List.set_cons_zero, List.set_cons_succ, List.getElem_toArray, List.getElem_cons_zero, List.getElem_cons_succ]
        refine wpAnyH_ready (rs := [5]) (by kernel_rfl) (by simp) ?_
        refine AllReadyH.cons rfl (fun K hK => ?_) AllReadyH.nil
        refine wp_put_sc (.tmp 35) (.tmp 36) (.tmp 38) rfl mb2 ks.length T2 rfl S5.out (by omega) q HQ.out.1 (g' + 1, (W q).length, c') rfl rfl ?_
        intro w6 s6 hg6
        have E6 : Hid (DkP w6 w.heap.size w.heap.size (ks.length + 1) D (fun j => if j = q then W q else (if j ∈ ks then W j else [])) up done fuse g2 c2 mb2 (fun z => if z = q then some (g' + 1, (W q).length, c') else T2 z)) := P3.out.laid B35.out q HQ.out.1 (W q) HQ.out.2.1 HQ.out.2.2 g' c' BW3.out.size O5.out s6 hg6
        have R6 : Hid (Rg w6 mb r N T (fun z => left z && !decide (z = q)) cnt1) := (R1.out.keep B35.out).kept hg6 (by have := MR.out.1; simpa using this) (by have := MR.out.2.1; simpa using this)
        have F6 : Hid (Below w.heap.size w w6) := (BW3.out.trans (B35.out.mono BW3.out.size)).grown hg6 (Nat.le_trans BW3.out.size B35.out.size) (fun k e => by have := Option.some.inj e; omega)
        have C6 : Hid (w6.cell? ⟨w.heap.size, 1, none⟩ = some (.map (some mb2))) := (World.cell?_of_block (a := ⟨w.heap.size, 1, none⟩) (hg6.block _ (World.block_lt_of_cell? _ _ D5'.out) (by have := P3.out.apart3.1; simpa using this))).trans D5'.out
        have FR6 : Hid (∀ k, Fp w.heap.size g2 mb2 (fun z => if z = q then some (g' + 1, (W q).length, c') else T2 z) k → k ≠ r) := fun k hk => by
          rcases hk with e | e | e | ⟨z, y, hy, e⟩
          · exact FW.out k (.inl e)
          · exact FW.out k (.inr (.inl e))
          · exact FW.out k (.inr (.inr (.inl e)))
          · by_cases hz : z = q
            · simp only [if_pos hz] at hy
              obtain rfl := Option.some.inj hy
              have e2 : g' = k := by simpa using e
              have := (O5.out.own g' rfl).1
              have := ZW.out
              omega
            · simp only [if_neg hz] at hy
              exact FW.out k (.inr (.inr (.inr ⟨z, y, hy, e⟩)))
        clear s6 hg6
        refine hK.out _ _ ?hS5 (fun hHeld => ?rest5)
        case hS5 => exact C6.out
        clear hK K
        try simp only [Act.put, List.setIfInBounds_toArray, List.set_cons_zero, List.set_cons_succ, List.getElem_toArray, List.getElem_cons_zero, List.getElem_cons_succ]
        refine wpAnyH_done (by kernel_rfl) ?_ _
        refine NoPanic.normal ?_
        have eW : (fun j => if j = q then W q else (if j ∈ ks then W j else [])) = (fun z => if z ∈ ks ++ [q] then W z else []) := by
          funext z
          by_cases hz : z = q
          · simp [hz]
          · by_cases hk : z ∈ ks <;> simp [hz, hk]
        have E7 : Hid (DkP w6 w.heap.size w.heap.size (ks ++ [q]).length D (fun z => if z ∈ ks ++ [q] then W z else []) up done fuse g2 c2 mb2 (fun z => if z = q then some (g' + 1, (W q).length, c') else T2 z)) := by
          have := E6.out
          rw [eW] at this
          rw [List.length_append]
          exact this
        clear E6 eW D5' O5 S5 B35
        go_wp2_with fail
        go_roundw
        case rel => exact ⟨_, cnt1, ks ++ [q], _, R6, E7, T1, F6, FR6, (by have := LT.out; simp; omega)⟩
        case measure => rw [R6.out.left_eq, RGL.out]; exact LT.out
end Go.Proofs.Ytaoddlmmgfgmnaa
namespace Go.Proofs.Ytaoddlmmgfgmnaa
open Go.ChangeShapes Go.WideShapes Go.ChangeAt Go.RowKit Go.Deep Go.Maps
set_option linter.unusedVariables false
theorem dk_twin (w : World) (F : Nat → Prop) (b N : Nat) (s : Ds) (H : Dk w F b N s) (hN : N ≤ 1000000) : Calls Try.prog 20 #[.pointer (some ⟨b, 0, none⟩)] w fun e w' => ∃ b2 F2, e = .returned (.pointer (some ⟨b2, 0, none⟩)) ∧ Dk w' F2 b2 N s ∧ Below w.heap.size w w' ∧ ∀ k, F2 k → w.heap.size ≤ k := by
  obtain ⟨gd, cd, mb, T, p, hF, h1, h2, h3, h4, h5⟩ := H
  refine (copy_is w 0 b N s.D s.W s.up s.dn s.fu gd cd mb T h1 p (by omega) (fun i => by have := h2 i; omega)).mono ?_
  rintro e w' ⟨b2, gd2, cd2, mb2, T2, rfl, p2, hb⟩
  refine ⟨b2, Fp b2 gd2 mb2 T2, rfl, ⟨gd2, cd2, mb2, T2, ⟨Nat.zero_le _, Nat.zero_le _, p2.cell, p2.dur.base (Nat.zero_le _), p2.is64, p2.mp, p2.nil, fun i x hx => ?_, p2.apart⟩, fun _ => Iff.rfl, h1, h2, h3, h4, h5⟩, hb, fun k hk => (p2.fp_lt k hk).2⟩
  obtain ⟨a1, a2, a3, a4⟩ := p2.row i x hx
  exact ⟨a1, a2, a3.base (Nat.zero_le _), a4⟩
end Go.Proofs.Ytaoddlmmgfgmnaa
namespace Go.Proofs.Ytaoddlmmgfgmnaa
open Go.ChangeShapes Go.WideShapes Go.ChangeAt Go.RowKit Go.Deep Go.Maps
set_option linter.unusedVariables false
theorem wd_copy {w wr : World} {P : Nat → Prop} {bd N : Nat} {s : Ds} (T : Wd w wr P bd N s) (hN : N ≤ 1000000) : Calls Try.prog 20 #[.pointer (some ⟨bd, 0, none⟩)] wr fun e w' => ∃ b2, e = .returned (.pointer (some ⟨b2, 0, none⟩)) ∧ Wd w w' (fun k => k < wr.heap.size) b2 N s ∧ Below wr.heap.size wr w' := by
  obtain ⟨F, a1, a2, a3⟩ := T.ex
  refine (dk_twin wr F bd N s a1 hN).mono ?_
  rintro e w' ⟨b2, F2, rfl, hd, hb, hF2⟩
  exact ⟨b2, rfl, ⟨⟨F2, hd, fun k hk => Nat.le_trans T.bel.size (hF2 k hk), fun k hk => ⟨Nat.lt_of_lt_of_le hk hb.size, fun e => by have := hF2 k e; omega⟩⟩, T.bel.trans (hb.mono T.bel.size)⟩, hb⟩
/-- a disk whose blocks have stayed -/
theorem Wd.by {w wr w' : World} {P : Nat → Prop} {bd N : Nat} {s : Ds} (h : Wd w wr P bd N s) (hz : wr.heap.size ≤ w'.heap.size) (hk : ∀ k, k < wr.heap.size → w'.heap[k]? = wr.heap[k]?) (hb : Below w.heap.size w w') : Wd w w' (fun k => P k ∨ (wr.heap.size ≤ k ∧ k < w'.heap.size)) bd N s := by
  obtain ⟨F, a1, a2, a3⟩ := h.ex
  refine ⟨⟨F, a1.kept hz (fun k h => hk k (a1.lt k h)) (hb.os.trans h.bel.os.symm) (hb.tape.trans h.bel.tape.symm) (hb.output.trans h.bel.output.symm), a2, fun k hk => ?_⟩, hb⟩
  rcases hk with hk | ⟨k1, k2⟩
  · exact ⟨Nat.lt_of_lt_of_le (a3 k hk).1 hz, (a3 k hk).2⟩
  · exact ⟨k2, fun e => by have := a1.lt k e; omega⟩
/-- the log alone, in the blocks G -/
def Lone (w : World) (G : Nat → Prop) (bl N : Nat) (l : Lg) : Prop := ∃ bd, Lm w G bl bd l ∧ l.Ok N
theorem Lone.kept {w w' : World} {G : Nat → Prop} {bl N : Nat} {l : Lg} (h : Lone w G bl N l) (hb : ∀ k, G k → w'.heap[k]? = w.heap[k]?) : Lone w' G bl N l := by
  obtain ⟨bd, h1, h2⟩ := h
  exact ⟨bd, h1.kept hb, h2⟩
theorem Lone.lt {w : World} {G : Nat → Prop} {bl N : Nat} {l : Lg} (h : Lone w G bl N l) : ∀ k, G k → k < w.heap.size := by
  obtain ⟨bd, h1, h2⟩ := h
  exact h1.lt
theorem Wl.lone {w wr : World} {h0 bd bl N : Nat} {s : Ds} {l : Lg} (h : Wl w wr (fun k => k < h0) bd bl N s l) : ∃ G, Lone wr G bl N l ∧ ∀ k, G k → h0 ≤ k := by
  obtain ⟨F, G, a1, a2, a3, a4, a5, a6⟩ := h.ex
  exact ⟨G, ⟨bd, a2, h.ok⟩, fun k hk => Nat.le_of_not_lt fun e => (a6 k e).2.2 hk⟩
theorem lone_used {wr : World} {G : Nat → Prop} {bl N : Nat} {l : Lg} (h : Lone wr G bl N l) : Calls Try.prog 13 #[.pointer (some ⟨bl, 0, none⟩)] wr fun e w' => e = .returned (.int .i64 (l.ln : Nat)) ∧ w' = wr := by
  obtain ⟨bd, h1, h2⟩ := h
  exact wused_is wr G bl bd l h1
theorem lone_records {wr : World} {G : Nat → Prop} {bl N : Nat} {l : Lg} (h : Lone wr G bl N l) : Calls Try.prog 11 #[.pointer (some ⟨bl, 0, none⟩)] wr fun e w' => ∃ v, e = .returned v ∧ RowsS w' wr.heap.size v l.R ∧ Below wr.heap.size wr w' := by
  obtain ⟨bd, h1, h2⟩ := h
  exact wrecords_is wr G bl bd N l h1 h2
/-- Open of a disk, whatever comes of it -/
theorem wd_open_any {w wr : World} {P : Nat → Prop} {bd N : Nat} {s : Ds} (T : Wd w wr P bd N s) (hN : N < 999998) : Calls Try.prog 15 #[.pointer (some ⟨bd, 0, none⟩)] wr fun e w' => (∃ v c, e = .returned (.tuple #[v, .int .i64 c])) ∧ Wd w w' P bd (N + 2) s.opn.2.2 ∧ (∀ k, P k → w'.heap[k]? = wr.heap[k]?) ∧ wr.heap.size ≤ w'.heap.size := by
  refine (wd_open T hN).mono ?_
  rintro e w' ⟨hk, hz, hor⟩
  rcases hor with ⟨_, bl, l, hl, rfl, hw, _⟩ | ⟨h0, rfl, hw⟩
  · exact ⟨⟨_, _, rfl⟩, hw.disk, hk, hz⟩
  · exact ⟨⟨_, _, rfl⟩, hw, hk, hz⟩
end Go.Proofs.Ytaoddlmmgfgmnaa
namespace Go.Proofs.Ytaoddlmmgfgmnaa
open Go.ChangeShapes Go.WideShapes Go.ChangeAt Go.RowKit Go.Deep
set_option linter.unusedVariables false
/-- rows of numbers that may be read -/
def InKs (w : World) (a : Option Addr) (len : Nat) (V : Nat → Option Addr × Nat × Nat) (M : Nat → List Int) : Prop :=
  (0 < len → ∃ b off, a = some ⟨b, off, none⟩ ∧ b < w.heap.size ∧ ∀ i, i < len → w.cell? ⟨b, off + i, none⟩ = some (.slice (V i).1 (V i).2.1 (V i).2.2)) ∧ ∀ i, i < len → InK w (V i).1 (M i) ∧ (M i).length = (V i).2.1 ∧ ∀ x, (V i).1 = some x → M i ≠ [] → x.block < w.heap.size
theorem open_keeps {H : Type} {enc : TypeId × Value → H} {W : World} {fuel : Nat} {a : Option Addr} {len cap : Nat} {x : DataW H × List MemPlace} (h : DataW.trod enc Try.prog W 0 (fun _ => true) true fuel 56 [.slice a len cap] = some x) : ∃ V M, InKs W a len V M := by
  rcases Go.Deep.open_int_rows Try.underlying56 Try.underlying47 Try.underlying3 (by kernel_rfl) (by kernel_rfl) h with ⟨hcs, _⟩ | ⟨y, l, c, A, Ln, Cp, Z, hcs, _, hl, hm, hx, hrow⟩
  · simp only [List.cons.injEq, and_true, Value.slice.injEq] at hcs
    obtain ⟨rfl, rfl, rfl⟩ := hcs
    exact ⟨fun _ => (none, 0, 0), fun _ => [], fun h => by omega, fun i hi => by omega⟩
  · simp only [List.cons.injEq, and_true, Value.slice.injEq] at hcs
    obtain ⟨rfl, rfl, rfl⟩ := hcs
    refine ⟨fun i => (A i, Ln i, Cp i), fun i => (Z i).take (Ln i), fun h0 => ?_, fun i hi => ?_⟩
    · obtain ⟨b, off, spot⟩ := y
      have hc := (hrow 0 (by omega)).1
      have hspot : spot = none := by simpa [Addr.add] using World.cell?_spot hc
      subst hspot
      refine ⟨b, off, rfl, ?_, fun i hi => ?_⟩
      · rw [add_plain] at hc
        exact World.block_lt_of_cell? _ _ hc
      · have := (hrow i (by omega)).1
        rwa [add_plain] at this
    · obtain ⟨_, h1, h2, h3, h4, h5, h6⟩ := hrow i (by omega)
      have hL : ((Z i).take (Ln i)).length = Ln i := by rw [List.length_take]; omega
      cases hA : A i with
      | none =>
        have h7 := h5 hA
        have e : (Z i).take (Ln i) = [] := List.length_eq_zero_iff.1 (by rw [hL]; omega)
        refine ⟨?_, ?_, fun x hx => ?_⟩
        · show InK W (A i) ((Z i).take (Ln i))
          rw [e]
          exact .inl rfl
        · exact hL
        · have hx' : A i = some x := hx
          rw [hA] at hx'
          cases hx'
      | some ad =>
        obtain ⟨_, h8⟩ := h6 ad hA
        refine ⟨?_, hL, fun x hx hne => ?_⟩
        · show InK W (A i) ((Z i).take (Ln i))
          rw [hA]
          refine .inr ⟨ad, rfl, fun j v hv => ?_⟩
          rw [List.getElem?_take] at hv
          split at hv
          · obtain ⟨hj, e⟩ := List.getElem?_eq_some_iff.1 hv
            rw [h8 j (by omega), List.getD_eq_getElem?_getD, List.getElem?_eq_getElem hj, e]
            rfl
          · cases hv
        · have hx' : A i = some x := hx
          rw [hA] at hx'
          obtain rfl := Option.some.inj hx'
          have hz : 0 < (Z i).length := by
            rcases Nat.eq_zero_or_pos (Z i).length with e | e
            · have hne' : (Z i).take (Ln i) ≠ [] := hne
              rw [List.length_eq_zero_iff.1 e] at hne'; simp at hne'
            · exact e
          have := World.block_lt_of_cell? _ _ (h8 0 (by omega))
          simpa [Addr.add] using this
theorem list2 {A : Type} (l : List A) (h : l.length = 2) : ∃ a b, l = [a, b] := by
  match l, h with
  | [a, b], _ => exact ⟨a, b, rfl⟩
theorem trod_array2 {H : Type} {enc : TypeId × Value → H} {P : Program} {w : World} {base : Nat} {spare : Nat → Bool} {held : Bool} {t e : TypeId} {fuel : Nat} {c0 c1 : Value} {x : DataW H × List MemPlace} (ht : P.underlying t = some (.array 2 e)) (hce : P.cellsOf e = 1)
    (h : DataW.trod enc P w base spare held fuel t [c0, c1] = some x) :
    ∃ y0 y1 n, x = (.agg [y0.1, y1.1], y0.2 ++ y1.2) ∧ DataW.trod enc P w base spare held n e [c0] = some y0 ∧ DataW.trod enc P w base spare held n e [c1] = some y1 := by
  cases fuel with
  | zero => simp [DataW.trod] at h
  | succ n =>
    unfold DataW.trod at h
    rw [ht] at h
    have r2 : List.range 2 = [0, 1] := rfl
    simp [r2, hce] at h
    obtain ⟨_, h⟩ := h
    cases h0 : DataW.trod enc P w base spare held n e [c0] with
    | none => simp [h0] at h
    | some y0 =>
      cases h1 : DataW.trod enc P w base spare held n e [c1] with
      | none => simp [h0, h1] at h
      | some y1 =>
        simp [h0, h1] at h
        exact ⟨y0, y1, n, h.symm, h0, h1⟩
end Go.Proofs.Ytaoddlmmgfgmnaa
namespace Go.Proofs.Ytaoddlmmgfgmnaa
open Go.ChangeShapes Go.WideShapes Go.ChangeAt Go.RowKit Go.Deep Go.Maps
set_option linter.unusedVariables false
set_option linter.unusedSimpArgs false
theorem inAw_keep {w w' : World} {a : Option Addr} {len : Nat} {A : Nat → Aw} (h : InAw w a len A) (hb : Below w.heap.size w w') : InAw w' a len A := by
  refine ⟨fun h0 => ?_, fun i hi => ?_⟩
  · obtain ⟨b, off, e, hbw, hc⟩ := h.1 h0
    refine ⟨b, off, e, Nat.lt_of_lt_of_le hbw hb.size, fun i hi => ?_⟩
    obtain ⟨c0, c1, c2, c3, c4⟩ := hc i hi
    exact ⟨(hb.cell (p := ⟨b, off + i * 5, none⟩) hbw).trans c0, (hb.cell (p := ⟨b, off + i * 5 + 1, none⟩) hbw).trans c1, (hb.cell (p := ⟨b, off + i * 5 + 2, none⟩) hbw).trans c2, (hb.cell (p := ⟨b, off + i * 5 + 3, none⟩) hbw).trans c3, (hb.cell (p := ⟨b, off + i * 5 + 4, none⟩) hbw).trans c4⟩
  · obtain ⟨h1, h2, h3, h4, h5, h6, h7⟩ := h.2 i hi
    exact ⟨h1, h2, h3, h4, h5, h6.keep hb, h7⟩
theorem inKs_keep {w w' : World} {a : Option Addr} {len : Nat} {V : Nat → Option Addr × Nat × Nat} {M : Nat → List Int} (h : InKs w a len V M) (hb : Below w.heap.size w w') : InKs w' a len V M := by
  refine ⟨fun h0 => ?_, fun i hi => ?_⟩
  · obtain ⟨b, off, e, hbw, hc⟩ := h.1 h0
    exact ⟨b, off, e, Nat.lt_of_lt_of_le hbw hb.size, fun i hi => (hb.cell (p := ⟨b, off + i, none⟩) hbw).trans (hc i hi)⟩
  · obtain ⟨h1, h2, h3⟩ := h.2 i hi
    exact ⟨inK_kept h1 fun x hx hne => hb.block _ (h3 x hx hne), h2, fun x hx hne => Nat.lt_of_lt_of_le (h3 x hx hne) hb.size⟩
theorem mod_in4 (x : Int) : ∃ r : Nat, Int.tmod (Int.tmod x 4 + 4) 4 = (r : Int) ∧ r < 4 ∧ -4 < Int.tmod x 4 ∧ Int.tmod x 4 < 4 := by
  have g : -4 < Int.tmod x 4 ∧ Int.tmod x 4 < 4 := by
    rcases Int.le_total 0 x with g | g
    · rw [Int.tmod_eq_emod_of_nonneg g]
      omega
    · have e : x.tmod 4 = -((-x).tmod 4) := by rw [Int.neg_tmod, Int.neg_neg]
      rw [e, Int.tmod_eq_emod_of_nonneg (by omega)]
      omega
  have e := Int.tmod_eq_emod_of_nonneg (a := Int.tmod x 4 + 4) (b := 4) (by omega)
  refine ⟨((Int.tmod x 4 + 4) % 4).toNat, ?_, ?_, g⟩
  · rw [e, Int.toNat_of_nonneg (by omega)]
  · omega
set_option maxRecDepth 100000 in
set_option maxHeartbeats 8000000 in
theorem walAgain_walk (a : Option Addr) (len cap : Nat) (A : Nat → Aw) (n m : Int) (ka : Option Addr) (kl kc : Nat) (V : Nat → Option Addr × Nat × Nat) (M : Nat → List Int) (w : World) (hin : InAw w a len A) (hn : (Lit.int .i64 n).wf = true) (hm : (Lit.int .i64 m).wf = true) (hks : InKs w ka kl V M) :
    Calls Try.prog 5 #[.slice a len cap, .agg #[.int .i64 n, .int .i64 m], .slice ka kl kc] w fun e w' => e = .returned (.bool true) ∧ Below w.heap.size w w' := by
  have KWK : Hid (∀ w, Calls Try.prog 16 #[] w fun e w' => e = .returned (.bool true) ∧ Below w.heap.size w w') := works_true
  have HKS : Hid (InKs w ka kl V M) := hks
  have HIN : Hid (InAw w a len A) := hin
  obtain ⟨r, hr, hr60, hm1, hm2⟩ := mod_in60 n
  obtain ⟨f, hf, hf4, hm3, hm4⟩ := mod_in4 m
  have hx1 := wf_i64 hn
  have hx2 := wf_i64 hm
  have s1 : IntKind.i64.wrap (Int.tmod n 60) = Int.tmod n 60 := by rw [IntKind.wrap_i64]; omega
  have s2 : IntKind.i64.wrap (Int.tmod n 60 + 60) = Int.tmod n 60 + 60 := by rw [IntKind.wrap_i64]; omega
  have s3 : IntKind.i64.wrap (r : Int) = (r : Int) := by rw [IntKind.wrap_i64]; omega
  have s4 : IntKind.i64.wrap (Int.tmod m 4) = Int.tmod m 4 := by rw [IntKind.wrap_i64]; omega
  have s5 : IntKind.i64.wrap (Int.tmod m 4 + 4) = Int.tmod m 4 + 4 := by rw [IntKind.wrap_i64]; omega
  have s6 : IntKind.i64.wrap (f : Int) = (f : Int) := by rw [IntKind.wrap_i64]; omega
  clear hks hin
  go_enter Try.func5, Try.ntmps5
  go_wp2_with fail
  go_quiet (fail)
  go_wp2_with fail
  obtain ⟨w0, hw0⟩ : ∃ w0, (w.alloc (.cells #[.int .i64 n, .int .i64 m] 55)).drewN nq = w0 := ⟨_, rfl⟩
  rw [show World.drewN _ nq = w0 from hw0]
  have B0 : Hid (Below w.heap.size w w0) := by rw [← hw0]; exact below_drewN (gB_alloc w _) nq
  have KR : Hid (Calls Try.prog 17 #[.slice a len cap, .int .i64 (r : Int)] w0 fun e w' => ∃ P bd N s ah qh ch an qn cn, e = .returned (.tuple #[.agg (rC bd ah qh ch an qn cn), .bool true]) ∧ N ≤ 90000 ∧ ∃ H Nx, RunIs w0 w' P bd N s ah qh ch an qn cn H Nx) := run_is a len cap A (r : Int) (by omega) (by omega) w0 (inAw_keep HIN.out B0.out)
  have HK0 : Hid (InKs w0 ka kl V M) := inKs_keep HKS.out B0.out
  clear hw0 hr hf s1 s2 s3 s4 s5 s6 hm1 hm2 hm3 hm4 hn hm hx1 hx2
  refine KR.out.mono ?_
  rintro e w1 ⟨P, bd, N, s, ah, qh, ch, an, qn, cn, rfl, hN, H, Nx, hR⟩
  have HR : Hid (RunIs w0 w1 P bd N s ah qh ch an qn cn H Nx) := hR
  unfold rC
  clear hR KR
  go_wp2_with fail
  obtain ⟨bx, hbx⟩ : ∃ b, b = w1.heap.size := ⟨_, rfl⟩
  obtain ⟨w2, hw2⟩ : ∃ w2, w1.alloc (.cells #[.pointer (some ⟨bd, 0, none⟩), .slice ah qh ch, .slice an qn cn] 49) = w2 := ⟨_, rfl⟩
  rw [show World.alloc _ _ = w2 from hw2, ← hbx]
  obtain ⟨Q, hQ⟩ : ∃ Q : Nat → Prop, Q = fun k => P k ∨ (w1.heap.size ≤ k ∧ k < w2.heap.size) := ⟨_, rfl⟩
  have B2 : Hid (Below w1.heap.size w1 w2) := by rw [← hw2]; exact gB_alloc w1 _
  have HT2 : Hid (Wd w0 w2 Q bd N s) := by rw [hQ]; exact HR.out.wd.keep B2.out
  have X2 : Hid (w2.heap[bx]? = some (.cells #[.pointer (some ⟨bd, 0, none⟩), .slice ah qh ch, .slice an qn cn] 49)) := by show _ = _; rw [← hw2, hbx]; exact heap_alloc_new w1 _
  have HQ : Hid (Q bx) := by rw [hQ]; exact .inr ⟨by omega, by rw [← hw2, hbx]; simp⟩
  obtain ⟨t0, ht0⟩ : ∃ t, t = s.cr [] := ⟨_, rfl⟩
  have HAf : Hid (Aft 16 t0 H Nx) := by rw [ht0]; exact HR.out.aft []
  obtain ⟨l, hinv, _⟩ := HAf.out
  obtain ⟨s5, hop⟩ := inv_open (by omega) (by omega) hinv
  have HIV : Hid (Inv 16 t0 l) := hinv
  have KC : Hid (Calls Try.prog 18 #[.pointer (some ⟨bd, 0, none⟩), .slice none 0 0] w2 fun e w' => e = .returned (.int .i64 0) ∧ Wd w0 w' Q bd N t0 ∧ (∀ k, Q k → w'.heap[k]? = w2.heap[k]?) ∧ w2.heap.size ≤ w'.heap.size) := by rw [ht0]; exact wd_crash HT2.out (by omega) none 0 0 [] rfl (.inl rfl) (fun x hx => by cases hx)
  have HOp : Hid (t0.opn = (0, some l, s5)) := hop
  clear hw2 hbx hQ hop hinv ht0 HAf
  refine KC.out.mono ?_
  rintro e w3 ⟨rfl, hT3, hk3, _⟩
  have HT3 : Hid (Wd w0 w3 Q bd N t0) := hT3
  have X3 : Hid (w3.heap[bx]? = some (.cells #[.pointer (some ⟨bd, 0, none⟩), .slice ah qh ch, .slice an qn cn] 49)) := (hk3 bx HQ.out).trans X2.out
  have c30 : w3.cell? ⟨bx, 0, none⟩ = some (.pointer (some ⟨bd, 0, none⟩)) := by rw [cell_of_row w3 bx _ _ _ (0, 0) X3.out]; rfl
  have HB3 : Hid (bx < w3.heap.size) := (Array.getElem?_eq_some_iff.1 X3.out).1
  clear hT3 hk3 X2 KC HT2 HR
  go_wp2_with fail
  refine (wd_copy HT3.out (by omega)).mono ?_
  rintro e w4 ⟨b2, rfl, hT4, hb4⟩
  have HT4 : Hid (Wd w0 w4 (fun k => k < w3.heap.size) b2 N t0) := hT4
  have B4 : Hid (Below w3.heap.size w3 w4) := hb4
  clear hT4 hb4 c30
  have KO : Hid (Calls Try.prog 15 #[.pointer (some ⟨b2, 0, none⟩)] w4 fun e w' => ∃ bl, e = .returned (.tuple #[.pointer (some ⟨bl, 0, none⟩), .int .i64 0]) ∧ Wl w0 w' (fun k => k < w3.heap.size) b2 bl (N + 2) s5 l ∧ (∀ k, k < w3.heap.size → w'.heap[k]? = w4.heap[k]?) ∧ w4.heap.size ≤ w'.heap.size) := by
    refine (wd_open HT4.out (by omega)).mono ?_
    rintro e w' ⟨hk, hz, hor⟩
    rw [HOp.out] at hor
    rcases hor with ⟨_, bl, l', hl, he, hw, _⟩ | ⟨h0, _⟩
    · obtain rfl := Option.some.inj hl
      exact ⟨bl, he, hw, hk, hz⟩
    · exact absurd rfl h0
  go_wp2_with fail
  refine KO.out.mono ?_
  rintro e w5 ⟨bl, rfl, hT5, hk5, hz5⟩
  obtain ⟨G, hL5, hG5⟩ := hT5.lone
  have HL5 : Hid (Lone w5 G bl (N + 2) l) := hL5
  have HZ5 : Hid (w3.heap.size ≤ w5.heap.size) := Nat.le_trans B4.out.size hz5
  have HK5 : Hid (∀ k, k < w3.heap.size → w5.heap[k]? = w3.heap[k]?) := fun k hk => (hk5 k hk).trans (B4.out.block k hk)
  have HT5 : Hid (Wd w0 w5 (fun k => Q k ∨ (w3.heap.size ≤ k ∧ k < w5.heap.size)) bd N t0) := HT3.out.by HZ5.out HK5.out hT5.bel
  have X5 : Hid (w5.heap[bx]? = some (.cells #[.pointer (some ⟨bd, 0, none⟩), .slice ah qh ch, .slice an qn cn] 49)) := (HK5.out bx HB3.out).trans X3.out
  have HG5 : Hid (∀ k, G k → w3.heap.size ≤ k ∧ k < w5.heap.size) := fun k hk => ⟨hG5 k hk, hL5.lt k hk⟩
  clear hT5 hk5 hz5 hL5 hG5 KO
  go_wp2_with fail
  refine (lone_records HL5.out).mono ?_
  rintro e w6 ⟨v6, rfl, hr6, hb6⟩
  have R6 : Hid (RowsS w6 w5.heap.size v6 l.R) := hr6
  have B6 : Hid (Below w5.heap.size w5 w6) := hb6
  obtain ⟨a6, c6, rfl, hn6, hi6, _, _⟩ := hr6.slice
  have HI6 : Hid (InS w6 a6 l.R ∧ (a6 = none → c6 = 0 ∧ l.R = [])) := ⟨hi6, hn6⟩
  obtain ⟨Q6, hQ6⟩ : ∃ Q6 : Nat → Prop, Q6 = fun k => (Q k ∨ (w3.heap.size ≤ k ∧ k < w5.heap.size)) ∨ (w5.heap.size ≤ k ∧ k < w6.heap.size) := ⟨_, rfl⟩
  have HT6 : Hid (Wd w0 w6 Q6 bd N t0) := by rw [hQ6]; exact HT5.out.keep B6.out
  have HL6 : Hid (Lone w6 G bl (N + 2) l) := HL5.out.kept fun k hk => B6.out.block k (HG5.out k hk).2
  have HG6 : Hid (∀ k, G k → Q6 k) := fun k hk => by rw [hQ6]; exact .inl (.inr (HG5.out k hk))
  have HX6 : Hid (Q6 bx ∧ w6.heap[bx]? = some (.cells #[.pointer (some ⟨bd, 0, none⟩), .slice ah qh ch, .slice an qn cn] 49)) := ⟨by rw [hQ6]; exact .inl (.inl HQ.out), (B6.out.block bx (Nat.lt_of_lt_of_le HB3.out HZ5.out)).trans X5.out⟩
  have HV6 : Hid (∀ x, a6 = some x → l.R ≠ [] → Q6 x.block) := fun x hx hne => by
    subst hx
    rw [hQ6]
    exact .inr (R6.out.own x.block rfl)
  have HRb : Hid (∀ B ∈ l.R, IsBytes B) := by obtain ⟨_, _, h⟩ := HL6.out; exact fun B hB => (h.rb B hB).1
  have HRl : Hid (l.R.length ≤ 1000000) := by obtain ⟨_, _, h⟩ := HL6.out; have := h.few.1; show _ ≤ _; omega
  obtain ⟨q6, hq6⟩ : ∃ q, l.R.length = q := ⟨_, rfl⟩
  have HQ6 : Hid (l.R.length = q6) := hq6
  rw [hq6]
  clear hr6 hb6 hi6 hn6 hQ6 hq6 HT5 HL5 X5 X3 HT3 HT4 B4
  go_wp2_with fail
  go_loopg [15] 5 (fun g i wr => ∃ (j : Nat) (t : Ds), j ≤ 5 ∧ g = 5 - j ∧ i = .int .i64 (j : Int) ∧ Hid (Wd w0 wr Q6 bd (N + 2 * j) t) ∧ Hid (Inv 16 t l) ∧ Hid (∀ k, Q6 k → wr.heap[k]? = w6.heap[k]?))
  case atStart => exact ⟨0, t0, Nat.zero_le _, rfl, rfl, HT6.out, HIV.out, fun _ _ => rfl⟩
  case round =>
    obtain ⟨j, t, hj, rfl, rfl, HT, HV, HKr⟩ := hrel
    have XW : Hid (∀ W : World, W.heap[bx]? = wr.heap[bx]? → W.cell? ⟨bx, 0, none⟩ = some (.pointer (some ⟨bd, 0, none⟩))) := fun W hW => by rw [cell_of_row W bx _ _ _ (0, 0) (hW.trans ((HKr.out bx HX6.out.1).trans HX6.out.2))]; rfl
    have d0 := XW.out wr rfl
    by_cases hlt : j < kl
    · by_cases hlt2 : j < 5
      · have i1 : (j : Int) < (kl : Int) := by omega
        have i2 : (j : Int) < 5 := by omega
        have j0 : (0 : Int) ≤ (j : Int) := by omega
        obtain ⟨b, off, hae, hbw, hcells⟩ := HK0.out.1 (by omega)
        have hrow := HK0.out.2 j hlt
        have hcj := hcells j hlt
        obtain ⟨⟨va, vl, vc⟩, hve⟩ : ∃ v, v = V j := ⟨_, rfl⟩
        rw [← hve] at hrow hcj
        simp only at hrow hcj
        obtain ⟨keep, hke⟩ : ∃ K, K = M j := ⟨_, rfl⟩
        rw [← hke] at hrow
        have HKp : Hid (InK w0 va keep ∧ keep.length = vl ∧ ∀ x, va = some x → keep ≠ [] → x.block < w0.heap.size) := hrow
        have HCj : Hid (b < w0.heap.size ∧ w0.cell? ⟨b, off + j, none⟩ = some (.slice va vl vc)) := ⟨hbw, hcj⟩
        subst hae
        have KF : Hid (Calls Try.prog 21 #[.pointer (some ⟨bd, 0, none⟩), .int .i64 (f : Int)] wr fun e w' => e = .returned (.int .i64 0) ∧ Wd w0 w' Q6 bd (N + 2 * j) (t.fs (f : Int)).2 ∧ (∀ k, Q6 k → w'.heap[k]? = wr.heap[k]?) ∧ wr.heap.size ≤ w'.heap.size) := by
          have k := wd_fuse HT.out (f : Int) (by omega)
          rw [show (t.fs (f : Int)).1 = 0 by unfold Ds.fs fuA; rw [HV.out.1.up]; simp] at k
          exact k
        clear hcells hve hrow hcj hke hbw
        go_wp2_with fail
        refine KF.out.mono ?_
        rintro e wa ⟨rfl, hTa, hka, _⟩
        have HTa : Hid (Wd w0 wa Q6 bd (N + 2 * j) (t.fs (f : Int)).2) := hTa
        have HKa : Hid (∀ k, Q6 k → wa.heap[k]? = w6.heap[k]?) := fun k hk => (hka k hk).trans (HKr.out k hk)
        have da := XW.out wa ((hka bx HX6.out.1))
        clear hTa hka KF d0
        go_wp2_with fail
        refine (wd_open_any HTa.out (by omega)).mono ?_
        rintro e wb ⟨⟨vo, co, rfl⟩, hTb, hkb, _⟩
        have HTb : Hid (Wd w0 wb Q6 bd (N + 2 * j + 2) (t.fs (f : Int)).2.opn.2.2) := hTb
        have HKb : Hid (∀ k, Q6 k → wb.heap[k]? = w6.heap[k]?) := fun k hk => (hkb k hk).trans (HKa.out k hk)
        clear hTb hkb da
        go_wp2_with fail

        have HSb : Hid (∀ W : World, W.heap[bx]? = wb.heap[bx]? → Below w0.heap.size w0 W → W.cell? ⟨bx, 0, none⟩ = some (.pointer (some ⟨bd, 0, none⟩)) ∧ W.cell? ⟨b, off + j, none⟩ = some (.slice va vl vc)) := fun W hW hB => ⟨XW.out W (hW.trans ((HKb.out bx HX6.out.1).trans (HKr.out bx HX6.out.1).symm)), (hB.cell (p := ⟨b, off + j, none⟩) HCj.out.1).trans HCj.out.2⟩
        have HTd : Hid (Wd w0 wb.drew Q6 bd (N + 2 * j + 2) (t.fs (f : Int)).2.opn.2.2) := HTb.out.keep0 (below_drewN (Below.refl _ _) 1)
        have KC : Hid (Calls Try.prog 18 #[.pointer (some ⟨bd, 0, none⟩), .slice va vl vc] wb.drew fun e w' => e = .returned (.int .i64 0) ∧ Wd w0 w' Q6 bd (N + 2 * j + 2) ((t.fs (f : Int)).2.opn.2.2.cr keep) ∧ (∀ k, Q6 k → w'.heap[k]? = wb.drew.heap[k]?) ∧ wb.drew.heap.size ≤ w'.heap.size) := wd_crash HTd.out (by omega) va vl vc keep HKp.out.2.1 (inK_kept HKp.out.1 fun x hx hne => HTd.out.bel.block _ (HKp.out.2.2 x hx hne)) (fun x hx hne => .inr (HKp.out.2.2 x hx hne))
        have HV2 : Hid (Inv 16 ((t.fs (f : Int)).2.opn.2.2.cr keep) l) := inv_again (by omega) (by omega) HV.out (f : Int) keep
        refine wp_region_noPanic ?_
        refine wp_region_held_drew (S := (fun W : World => W.cell? ⟨bx, 0, none⟩ = some (.pointer (some ⟨bd, 0, none⟩)) ∧ W.cell? ⟨b, off + j, none⟩ = some (.slice va vl vc))) (by kernel_rfl) ?hSaa (fun hHeld => ?restaa)
        case hSaa => exact HSb.out _ rfl HTd.out.bel
        case restaa =>
          refine wpAnyH_take (i := 0) (v := .pointer (some ⟨bx, 0, none⟩)) rfl (by kernel_rfl) (by kernel_rfl) (by kernel_rfl) (fun _ _ _ h => h) (Or.inl ⟨by kernel_rfl, ?hy0a⟩) hHeld ?rest0a
          case hy0a => (intro w hSw; (try dsimp only at hSw); go_simp; try with_reducible rfl)
          try simp only [Act.put, List.setIfInBounds_toArray, List.set_cons_zero, List.set_cons_succ, List.getElem_toArray, List.getElem_cons_zero]
          refine wpAnyH_take (i := 1) (v := .pointer (some ⟨bd, 0, none⟩)) rfl (by kernel_rfl) (by kernel_rfl) (by kernel_rfl) (fun _ _ _ h => h) (Or.inl ⟨by kernel_rfl, ?hy1a⟩) hHeld ?rest1a
          case hy1a => (intro w hSw; (try dsimp only at hSw); go_simp; try with_reducible rfl)
          try simp only [Act.put, List.setIfInBounds_toArray, List.set_cons_zero, List.set_cons_succ, List.getElem_toArray, List.getElem_cons_zero, List.getElem_cons_succ]
          refine wpAnyH_take (i := 2) (v := .slice (some ⟨b, off, none⟩) kl kc) rfl (by kernel_rfl) (by kernel_rfl) (by kernel_rfl) (fun _ _ _ h => h) (Or.inl ⟨by kernel_rfl, ?hy2a⟩) hHeld ?rest2a
          case hy2a => (intro w hSw; (try dsimp only at hSw); go_simp; try with_reducible rfl)
          try simp only [Act.put, List.setIfInBounds_toArray, List.set_cons_zero, List.set_cons_succ, List.getElem_toArray, List.getElem_cons_zero, List.getElem_cons_succ]
          refine wpAnyH_take (i := 3) (v := .int .i64 (j : Int)) rfl (by kernel_rfl) (by kernel_rfl) (by kernel_rfl) (fun _ _ _ h => h) (Or.inl ⟨by kernel_rfl, ?hy3a⟩) hHeld ?rest3a
          case hy3a => (intro w hSw; (try dsimp only at hSw); go_simp; try with_reducible rfl)
          try simp only [Act.put, List.setIfInBounds_toArray, List.set_cons_zero, List.set_cons_succ, List.getElem_toArray, List.getElem_cons_zero, List.getElem_cons_succ]
          refine wpAnyH_take (i := 4) (v := .pointer (some ⟨b, off + j, none⟩)) rfl (by kernel_rfl) (by kernel_rfl) (by kernel_rfl) (fun _ _ _ h => h) (Or.inl ⟨by kernel_rfl, ?hy4a⟩) hHeld ?rest4a
          case hy4a => (intro w hSw; (try dsimp only at hSw); go_simp; try with_reducible rfl)
          try simp only [Act.put, List.setIfInBounds_toArray, List.set_cons_zero, List.set_cons_succ, List.getElem_toArray, List.getElem_cons_zero, List.getElem_cons_succ]
          refine wpAnyH_take (i := 5) (v := .slice va vl vc) rfl (by kernel_rfl) (by kernel_rfl) (by kernel_rfl) (fun _ _ _ h => h) (Or.inl ⟨by kernel_rfl, ?hy5a⟩) hHeld ?rest5a
          case hy5a => (intro w hSw; (try dsimp only at hSw); go_simp; try with_reducible rfl)
          try simp only [Act.put, List.setIfInBounds_toArray, List.set_cons_zero, List.set_cons_succ, List.getElem_toArray, List.getElem_cons_zero, List.getElem_cons_succ]
          refine wpAnyH_ready (rs := [6]) (by kernel_rfl) (by simp) ?_
          refine AllReadyH.cons rfl (fun K hK => ?_) AllReadyH.nil
          go_simp; refine KC.out.mono ?_; rintro e wc ⟨rfl, hTc, hkc, _⟩; have HTc : Hid (Wd w0 wc Q6 bd (N + 2 * j + 2) ((t.fs (f : Int)).2.opn.2.2.cr keep)) := hTc; have HKc : Hid (∀ k, Q6 k → wc.heap[k]? = wb.heap[k]?) := fun k hk => hkc k hk; clear hTc hkc; go_wp2_with fail
          refine hK.out _ _ ?hS6a (fun hHeld => ?rest6a)
          case hS6a => exact HSb.out _ (HKc.out bx HX6.out.1) HTc.out.bel
          clear hK K
          try simp only [Act.put, List.setIfInBounds_toArray, List.set_cons_zero, List.set_cons_succ, List.getElem_toArray, List.getElem_cons_zero, List.getElem_cons_succ]
          refine wpAnyH_take (i := 7) (v := .bool false) rfl (by kernel_rfl) (by kernel_rfl) (by kernel_rfl) (fun _ _ _ h => h) (Or.inl ⟨by kernel_rfl, ?hy7a⟩) hHeld ?rest7a
          case hy7a => (intro w hSw; (try dsimp only at hSw); go_simp; try with_reducible rfl)
          try simp only [Act.put, List.setIfInBounds_toArray, List.set_cons_zero, List.set_cons_succ, List.getElem_toArray, List.getElem_cons_zero, List.getElem_cons_succ]
          refine wpAnyH_done (by kernel_rfl) ?_ _
          refine NoPanic.normal ?_

          go_wp2_with fail
          go_roundg (5 - (j + 1))
          case measure => omega
          case rel => exact ⟨j + 1, _, by omega, rfl, by go_num, HTc.out.more (by omega), HV2.out, fun k hk => (HKc.out k hk).trans (HKb.out k hk)⟩
      · have i1 : (j : Int) < (kl : Int) := by omega
        have i2 : ¬ (j : Int) < 5 := by omega
        obtain ⟨s7, hop7⟩ := inv_open (by omega) (by omega) HV.out
        have HOp7 : Hid (t.opn = (0, some l, s7)) := hop7
        clear hop7
        have KO7 : Hid (Calls Try.prog 15 #[.pointer (some ⟨bd, 0, none⟩)] wr fun e w' => ∃ bm, e = .returned (.tuple #[.pointer (some ⟨bm, 0, none⟩), .int .i64 0]) ∧ Wl w0 w' Q6 bd bm (N + 2 * j + 2) s7 l ∧ ∀ k, Q6 k → w'.heap[k]? = wr.heap[k]?) := by
          refine (wd_open HT.out (by omega)).mono ?_
          rintro e w' ⟨hk, _, hor⟩
          rw [HOp7.out] at hor
          rcases hor with ⟨_, bm, l', hl, he, hw, _⟩ | ⟨h0, _⟩
          · obtain rfl := Option.some.inj hl
            exact ⟨bm, he, hw, hk⟩
          · exact absurd rfl h0
        go_wp2_with fail
        refine KO7.out.mono ?_
        rintro e wa ⟨bm, rfl, hTa, hka⟩
        have HTa : Hid (Wl w0 wa Q6 bd bm (N + 2 * j + 2) s7 l) := hTa
        have HKa : Hid (∀ k, Q6 k → wa.heap[k]? = w6.heap[k]?) := fun k hk => (hka k hk).trans (HKr.out k hk)
        clear hTa hka KO7 d0
        go_wp2_with fail
        refine (wl_records HTa.out).mono ?_
        rintro e wb ⟨vb, rfl, hrb, hbb⟩
        obtain ⟨ab, cb, rfl, _, hib, _, _⟩ := hrb.slice
        have HIb : Hid (InS wb ab l.R) := hib
        have HTb : Hid (Wl w0 wb Q6 bd bm (N + 2 * j + 2) s7 l) := HTa.out.keep0 hbb
        have HKb : Hid (∀ k, Q6 k → wb.heap[k]? = w6.heap[k]?) := fun k hk => (hbb.block k (by obtain ⟨F, G, _, _, _, _, _, pp⟩ := HTa.out.ex; exact (pp k hk).1)).trans (HKa.out k hk)
        have KSa : Hid (Calls Try.prog 19 #[.slice ab q6 cb, .slice a6 q6 c6] wb fun e w' => e = .returned (.bool true) ∧ Below wb.heap.size wb w') := by
          have k := wsame_is wb ab a6 q6 q6 cb c6 l.R l.R HQ6.out HQ6.out (by rw [← HQ6.out]; exact HRl.out) (by rw [← HQ6.out]; exact HRl.out) HIb.out (HI6.out.1.kept fun x hx hne => HKb.out _ (HV6.out x hx hne)) HRb.out HRb.out
          rw [decide_eq_true (rfl : l.R = l.R)] at k
          exact k
        clear hrb hbb hib
        rw [HQ6.out]
        go_wp2_with fail
        refine KSa.out.mono ?_
        rintro e wc ⟨rfl, hbc⟩
        have HTc : Hid (Wl w0 wc Q6 bd bm (N + 2 * j + 2) s7 l) := HTb.out.keep0 hbc
        have HKc : Hid (∀ k, Q6 k → wc.heap[k]? = w6.heap[k]?) := fun k hk => (hbc.block k (by obtain ⟨F, G, _, _, _, _, _, pp⟩ := HTb.out.ex; exact (pp k hk).1)).trans (HKb.out k hk)
        have HLc : Hid (Lone wc G bl (N + 2) l) := HL6.out.kept fun k hk => HKc.out k (HG6.out k hk)
        clear hbc
        go_wp2_with fail
        refine (wl_used HTc.out).mono ?_
        rintro e wd ⟨rfl, hwd⟩
        obtain rfl := hwd.symm
        clear hwd
        go_wp2_with fail
        refine (lone_used HLc.out).mono ?_
        rintro e we ⟨rfl, hwe⟩
        obtain rfl := hwe.symm
        clear hwe
        go_wp2_with fail
        refine (KWK.out _).mono ?_
        rintro e wf ⟨rfl, hbf⟩
        have HTf : Hid (Below w0.heap.size w0 wf) := (HTc.out.keep0 hbf).bel
        clear hbf
        go_wp2_with fail
        go_ret
        exact ⟨rfl, B0.out.trans (HTf.out.mono B0.out.size)⟩
    · have i1 : ¬ (j : Int) < (kl : Int) := by omega
      obtain ⟨s7, hop7⟩ := inv_open (by omega) (by omega) HV.out
      have HOp7 : Hid (t.opn = (0, some l, s7)) := hop7
      clear hop7
      have KO7 : Hid (Calls Try.prog 15 #[.pointer (some ⟨bd, 0, none⟩)] wr fun e w' => ∃ bm, e = .returned (.tuple #[.pointer (some ⟨bm, 0, none⟩), .int .i64 0]) ∧ Wl w0 w' Q6 bd bm (N + 2 * j + 2) s7 l ∧ ∀ k, Q6 k → w'.heap[k]? = wr.heap[k]?) := by
        refine (wd_open HT.out (by omega)).mono ?_
        rintro e w' ⟨hk, _, hor⟩
        rw [HOp7.out] at hor
        rcases hor with ⟨_, bm, l', hl, he, hw, _⟩ | ⟨h0, _⟩
        · obtain rfl := Option.some.inj hl
          exact ⟨bm, he, hw, hk⟩
        · exact absurd rfl h0
      go_wp2_with fail
      refine KO7.out.mono ?_
      rintro e wa ⟨bm, rfl, hTa, hka⟩
      have HTa : Hid (Wl w0 wa Q6 bd bm (N + 2 * j + 2) s7 l) := hTa
      have HKa : Hid (∀ k, Q6 k → wa.heap[k]? = w6.heap[k]?) := fun k hk => (hka k hk).trans (HKr.out k hk)
      clear hTa hka KO7 d0
      go_wp2_with fail
      refine (wl_records HTa.out).mono ?_
      rintro e wb ⟨vb, rfl, hrb, hbb⟩
      obtain ⟨ab, cb, rfl, _, hib, _, _⟩ := hrb.slice
      have HIb : Hid (InS wb ab l.R) := hib
      have HTb : Hid (Wl w0 wb Q6 bd bm (N + 2 * j + 2) s7 l) := HTa.out.keep0 hbb
      have HKb : Hid (∀ k, Q6 k → wb.heap[k]? = w6.heap[k]?) := fun k hk => (hbb.block k (by obtain ⟨F, G, _, _, _, _, _, pp⟩ := HTa.out.ex; exact (pp k hk).1)).trans (HKa.out k hk)
      have KSa : Hid (Calls Try.prog 19 #[.slice ab q6 cb, .slice a6 q6 c6] wb fun e w' => e = .returned (.bool true) ∧ Below wb.heap.size wb w') := by
        have k := wsame_is wb ab a6 q6 q6 cb c6 l.R l.R HQ6.out HQ6.out (by rw [← HQ6.out]; exact HRl.out) (by rw [← HQ6.out]; exact HRl.out) HIb.out (HI6.out.1.kept fun x hx hne => HKb.out _ (HV6.out x hx hne)) HRb.out HRb.out
        rw [decide_eq_true (rfl : l.R = l.R)] at k
        exact k
      clear hrb hbb hib
      rw [HQ6.out]
      go_wp2_with fail
      refine KSa.out.mono ?_
      rintro e wc ⟨rfl, hbc⟩
      have HTc : Hid (Wl w0 wc Q6 bd bm (N + 2 * j + 2) s7 l) := HTb.out.keep0 hbc
      have HKc : Hid (∀ k, Q6 k → wc.heap[k]? = w6.heap[k]?) := fun k hk => (hbc.block k (by obtain ⟨F, G, _, _, _, _, _, pp⟩ := HTb.out.ex; exact (pp k hk).1)).trans (HKb.out k hk)
      have HLc : Hid (Lone wc G bl (N + 2) l) := HL6.out.kept fun k hk => HKc.out k (HG6.out k hk)
      clear hbc
      go_wp2_with fail
      refine (wl_used HTc.out).mono ?_
      rintro e wd ⟨rfl, hwd⟩
      obtain rfl := hwd.symm
      clear hwd
      go_wp2_with fail
      refine (lone_used HLc.out).mono ?_
      rintro e we ⟨rfl, hwe⟩
      obtain rfl := hwe.symm
      clear hwe
      go_wp2_with fail
      refine (KWK.out _).mono ?_
      rintro e wf ⟨rfl, hbf⟩
      have HTf : Hid (Below w0.heap.size w0 wf) := (HTc.out.keep0 hbf).bel
      clear hbf
      go_wp2_with fail
      go_ret
      exact ⟨rfl, B0.out.trans (HTf.out.mono B0.out.size)⟩

end Go.Proofs.Ytaoddlmmgfgmnaa
