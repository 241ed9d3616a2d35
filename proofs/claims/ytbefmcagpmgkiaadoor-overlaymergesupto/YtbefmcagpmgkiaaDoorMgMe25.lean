/- The document's Merge. -/
import Derived.Test.YtbefmcagpmgkiaaDoorMgMe22
import Derived.Test.YtbefmcagpmgkiaaDoorMgMe23
import Derived.Test.YtbefmcagpmgkiaaDoorMgMe24
namespace Go.Proofs.YtbefmcagpmgkiaaDoor
open Go.ChangeShapes Go.WideShapes Go.ChangeAt Go.RowKit Go.Deep Go.Maps
set_option linter.unusedVariables false
/-- the paths on the way to an entry, but the root -/
def wp1 (x : En) : List Tx := (wk x.p).drop 1
theorem jn_ne {l : List Tx} (h : ∀ p ∈ l, isPart p = true) (hl : l ≠ []) : jn l ≠ [] := by
  cases l with
  | nil => exact absurd rfl hl
  | cons a r =>
    have ha := part_ne (h a (by simp))
    cases r with
    | nil => rw [jn_one]; exact ha
    | cons b r => rw [jn_cons]; simp
theorem wk_head {q : Tx} (h : isP q = true) : wk q = [] :: (wk q).drop 1 := by
  unfold wk
  rw [if_pos h]
  have h0 := wkL_get (prt q) 0 (Nat.zero_le _)
  have hl := wkL_len (prt q)
  cases hw : wkL (prt q) with
  | nil => rw [hw] at hl; simp at hl
  | cons a r =>
    rw [hw] at h0
    simp at h0
    rw [h0]
    rfl
theorem wp1_ne {x : En} (hx : isP x.p = true) {q : Tx} (hq : q ∈ wp1 x) : q ≠ [] := by
  unfold wp1 wk at hq
  rw [if_pos hx] at hq
  obtain ⟨i, hi⟩ := List.getElem?_of_mem hq
  rw [List.getElem?_drop] at hi
  have hlt := (List.getElem?_eq_some_iff.1 hi).1
  rw [wkL_len] at hlt
  rw [wkL_get _ _ (by omega)] at hi
  have hf := prt_facts x.p
  cases hi
  refine jn_ne (fun p hp => hf.1 p (List.mem_of_mem_take hp)) ?_
  intro e
  have := congrArg List.length e
  rw [List.length_take, List.length_nil] at this
  omega
theorem wp1_mem {x : En} (hx : isP x.p = true) (h0 : x.p ≠ []) {q : Tx} (hq : q ≠ []) : q ∈ wp1 x ↔ inn q x.p = true := by
  rw [← wk_iff hx h0 hq]
  unfold wp1
  rw [wk_head hx]
  simp [hq]
theorem wp1_len (x : En) : (wp1 x).length ≤ 8 := by
  unfold wp1 wk
  split
  · rw [List.length_drop, wkL_len]
    have := (prt_facts x.p).2
    omega
  · simp
theorem pts_app (l a b : List Tx) : pts l (a ++ b) = pts (pts l a) b := by simp [pts]
/-- what is seen lies on the way to something -/
theorem mg_in {st : List (List En)} (hc : ∀ l ∈ st, (chk l).2 = 0) : ∀ (k : Nat) (q : Tx) (x : En), q ≠ [] → mg (st.take k) q = some x → ∃ l ∈ st, ∃ y ∈ l, inn q y.p = true
  | 0, q, x, _, h => by cases h
  | k + 1, q, x, hq, h => by
    cases hl : st[k]? with
    | none =>
      have : st.take (k + 1) = st.take k := by rw [List.take_add_one, hl]; simp
      rw [this] at h
      exact mg_in hc k q x hq h
    | some l =>
      have hlm := List.mem_of_getElem? hl
      have TT : TreeT (mg (st.take k)) := mg_tree (fun m hm => hc m (List.mem_of_mem_take hm))
      rw [mg_take st k l hl, mgT_seen TT (hc l hlm) q hq] at h
      unfold seenL at h
      cases he : ent l q with
      | some y =>
        obtain ⟨h1, h2⟩ := ent_some he
        exact ⟨l, hlm, y, h1, by rw [h2]; exact inn_refl q⟩
      | none =>
        rw [he] at h
        have h' : lay l q (mg (st.take k) q) = some x := h
        cases hw : way l q with
        | true =>
          obtain ⟨y, hy, h2⟩ := List.any_eq_true.1 hw
          simp at h2
          exact ⟨l, hlm, y, hy, h2.1⟩
        | false =>
          unfold lay at h'
          rw [hw, dr_false] at h'
          unfold bs at h'
          split at h'
          · cases h'
          · exact mg_in hc k q x hq h'
/-- the document's list is the tree's -/
theorem rm_lst {st : List (List En)} (hc : ∀ l ∈ st, (chk l).2 = 0) : Lst (mg st) ((pts [] (st.flatMap (fun l => l.flatMap wp1))).filterMap (mg st)) := by
  have TT : TreeT (mg st) := mg_tree hc
  refine lst_fm TT.own (pts_rise _ _ List.Pairwise.nil) (fun q x hq => ?_)
  have hq0 : q ≠ [] := fun e => by rw [e, TT.root] at hq; cases hq
  have hq' : mg (st.take st.length) q = some x := by rw [List.take_length]; exact hq
  obtain ⟨l, hl, y, hy, hin⟩ := mg_in hc _ q x hq0 hq'
  obtain ⟨h0, hP⟩ := fo_path (((chk_iff l).1 (hc l hl)).2.1 y hy)
  rw [pts_mem]
  left
  rw [List.mem_flatMap]
  refine ⟨l, hl, ?_⟩
  rw [List.mem_flatMap]
  exact ⟨y, hy, (wp1_mem hP h0 hq0).2 hin⟩
/-- all are short, and none is the root's -/
def Shorts (l : List Tx) : Prop := ∀ q ∈ l, q.length ≤ 1000000 ∧ q ≠ []
theorem Shorts.pt {l : List Tx} (h : Shorts l) {p : Tx} (hp : p.length ≤ 1000000 ∧ p ≠ []) : Shorts (pt l p) := fun q hq => by
  rcases (pt_mem l p q).1 hq with rfl | hq
  · exact hp
  · exact h q hq
theorem rseen_is (a : Option Addr) (n c : Nat) (st : List (List En)) (hn : st.length = n) (hn16 : n ≤ 16) (hck : ∀ l ∈ st, (chk l).2 = 0) (hsh : ∀ l ∈ st, ∀ x ∈ l, x.p.length ≤ 1000000) : ∀ k, k ≤ n → SeenIs a n c st k
  | 0, _ => rseen_zero a n c st
  | k + 1, hk => rseen_step a n c st k hn hn16 (by omega) hck hsh (rseen_is a n c st hn hn16 hck hsh k (by omega))
theorem chk_shorts {l : List En} (h : (chk l).2 = 0) : ∀ x ∈ l, x.p.length ≤ 1000000 := fun x hx => by
  have := isP_short (fo_path (((chk_iff l).1 h).2.1 x hx)).2
  omega
set_option maxRecDepth 100000 in
set_option maxHeartbeats 16000000 in
theorem rmerge_is (st : List (List En)) (n : Nat) (hn : st.length = n) (a : Option Addr) (c : Nat) (hn62 : n ≤ 1000000) (h2 : ∀ l ∈ st, l.length ≤ 200) (hb : ∀ l ∈ st, Brief l) (w : World) (hs : InS w a st) :
    Calls Tryd.prog 13 #[.slice a n c] w fun e w' => ∃ a' c' l, e = .returned (.tuple #[.slice a' l.length c', .int .i64 (mE st)]) ∧ InE w' a' l ∧ (mE st = 0 → Lst (mg st) l) ∧ (mE st ≠ 0 → l = []) ∧ l.length ≤ 1000000 ∧ Below w.heap.size w w' := by
  have HS : Hid (InS w a st) := hs
  have HN : Hid (st.length = n) := hn
  have H2 : Hid (∀ l ∈ st, l.length ≤ 200) := h2
  have HB : Hid (∀ l ∈ st, Brief l) := hb
  clear hs hn h2 hb
  by_cases h16 : 16 < n
  · have e1 : (16 : Int) < (n : Int) := by omega
    have HE : Hid (mE st = 3) := mE_big (by rw [HN.out]; exact h16)
    go_enter Tryd.func13, Tryd.ntmps13
    go_wp2_with fail
    go_ret2
    exact ⟨none, 0, [], by rw [HE.out]; rfl, .inl rfl, fun h => absurd (HE.out.symm.trans h) (by decide), fun _ => rfl, by simp, Below.refl _ _⟩
  · have e1 : ¬ (16 : Int) < (n : Int) := by omega
    have H16 : Hid (¬ 16 < st.length) := by show ¬ _; rw [HN.out]; exact h16
    go_enter Tryd.func13, Tryd.ntmps13
    go_wp2_with fail
    go_loopg [5, 4] n (fun g i v wr => ∃ j : Nat, j ≤ n ∧ g = n - j ∧ i = .int .i64 j ∧ Hid (RdN wr v (pts [] ((st.take j).flatMap (fun l => l.flatMap wp1)))) ∧ Hid (Shorts (pts [] ((st.take j).flatMap (fun l => l.flatMap wp1)))) ∧ (pts [] ((st.take j).flatMap (fun l => l.flatMap wp1))).length ≤ 600 * j ∧ Hid (Below w.heap.size w wr) ∧ Hid (∀ (i : Nat) (l : List En), i < j → st[i]? = some l → (chk l).2 = 0))
    case atStart => exact ⟨0, Nat.zero_le _, rfl, rfl, (show RdN _ _ [] from ⟨Rd.nil _, fun _ => rfl⟩), (show Shorts [] from fun q hq => by cases hq), Nat.le_refl _, Below.refl _ _, fun i l hi => absurd hi (Nat.not_lt_zero _)⟩
    case round =>
      obtain ⟨j, hj, rfl, rfl, RV, SV, hlen, BW, CK⟩ := hrel
      have hszw := BW.out.size
      by_cases hlt : j < n
      · have j1 : (j : Int) < (n : Int) := by omega
        obtain ⟨l, hl⟩ : ∃ l, st[j]? = some l := ⟨st[j]'(by rw [HN.out]; exact hlt), by simp [HN.out, hlt]⟩
        have hlm := List.mem_of_getElem? hl
        obtain ⟨b, off, rfl, hbw, a', c', hcell, hinE, _, _⟩ : ∃ b off, a = some ⟨b, off, none⟩ ∧ b < w.heap.size ∧ ∃ a' c', w.cell? ⟨b, off + j, none⟩ = some (.slice a' l.length c') ∧ InE w a' l ∧ Fit l ∧ (l.length ≤ 4611686018427387904 ∧ (a' = none → c' = 0)) := by
          rcases HS.out with e | ⟨b, off, h1, h2, h3⟩
          · have := HN.out; rw [e] at this; simp at this; omega
          · exact ⟨b, off, h1, h2, h3 j l hl⟩
        have IL : Hid (InE w a' l) := hinE
        have HCE : Hid (w.cell? ⟨b, off + j, none⟩ = some (.slice a' l.length c')) := hcell
        have hc := (BW.out.cell (p := ⟨b, off + j, none⟩) hbw).trans hcell
        have KC : Hid (Calls Tryd.prog 29 #[.slice a' l.length c'] wr fun e w' => e = .returned (.tuple #[.int .i64 ((chk l).1 : Nat), .int .i64 (chk l).2]) ∧ Below wr.heap.size wr w') := rcheck_is l l.length rfl (H2.out l hlm) (HB.out l hlm) a' c' wr (hinE.keep BW.out)
        have HLJ : Hid (st[j]? = some l) := hl
        have PJ : Hid (pts [] ((st.take (j + 1)).flatMap (fun l => l.flatMap wp1)) = pts (pts [] ((st.take j).flatMap (fun l => l.flatMap wp1))) (l.flatMap wp1)) := by
          show _ = _
          rw [← pts_app, List.take_add_one, hl]
          simp [List.flatMap_append, Option.toList]
        generalize pts [] ((st.take j).flatMap (fun l => l.flatMap wp1)) = P0 at *
        clear hl hlm hinE hcell
        by_cases hok : (chk l).2 = 0
        · have hok' := hok
          have CK2 : Hid (∀ (i : Nat) (l : List En), i < j + 1 → st[i]? = some l → (chk l).2 = 0) := fun i l2 hi h2 => by
            by_cases hij : i = j
            · subst hij
              rw [HLJ.out] at h2
              cases h2
              exact hok'
            · exact CK.out i l2 (by omega) h2
          have h64 := ((chk_iff l).1 hok).1
          have CS : Hid (∀ x ∈ l, (x.p.length ≤ 1000000 ∧ isP x.p = true)) := fun x hx => ⟨chk_shorts hok' x hx, (fo_path (((chk_iff l).1 hok').2.1 x hx)).2⟩
          rw [hok] at KC
          generalize (chk l).1 = ck at *
          obtain ⟨L, hL⟩ : ∃ L, l.length = L := ⟨_, rfl⟩
          have HLL : Hid (l.length = L) := hL
          rw [hL] at h64 hc HCE KC
          clear hok hok' CK hL
          go_wp2_with fail
          refine KC.out.mono ?_
          rintro e w1 ⟨rfl, hb1⟩
          have B1 : Hid (Below w.heap.size w w1) := BW.out.trans (hb1.mono hszw)
          have R1 : Hid (RdN w1 u4 P0) := RV.out.keep hb1
          clear hb1 KC hc RV BW hszw
          go_wp2_with fail
          go_loopg [8, 4] L (fun g i v wr => ∃ k : Nat, k ≤ L ∧ g = L - k ∧ i = .int .i64 k ∧ Hid (RdN wr v (pts P0 ((l.take k).flatMap wp1))) ∧ Hid (Shorts (pts P0 ((l.take k).flatMap wp1))) ∧ (pts P0 ((l.take k).flatMap wp1)).length ≤ 600 * j + 9 * k ∧ Hid (Below w.heap.size w wr))
          case atStart => exact ⟨0, Nat.zero_le _, rfl, rfl, R1, SV, hlen, B1⟩
          case round =>
            clear R1 SV hlen B1
            obtain ⟨k, hk, rfl, rfl, RV, SV, hlen, BW⟩ := hrel
            have hszw := BW.out.size
            have hc := (BW.out.cell (p := ⟨b, off + j, none⟩) hbw).trans HCE.out
            by_cases hlt2 : k < L
            · have k1 : (k : Int) < (L : Int) := by omega
              obtain ⟨x, hx⟩ : ∃ x, l[k]? = some x := ⟨l[k]'(by rw [HLL.out]; exact hlt2), by simp [HLL.out, hlt2]⟩
              obtain ⟨hx6, hxP⟩ := CS.out x (List.mem_of_getElem? hx)
              obtain ⟨bl, offl, rfl, hbl, hr⟩ := IL.out.at hx
              obtain ⟨c0, c1, c2, c3⟩ := hr.below BW.out hbl
              have PK : Hid (pts P0 ((l.take (k + 1)).flatMap wp1) = pts (pts P0 ((l.take k).flatMap wp1)) (wp1 x)) := by
                show _ = _
                rw [← pts_app, List.take_add_one, hx]
                simp [List.flatMap_append, Option.toList]
              have KWk : Hid (Calls Tryd.prog 30 #[.string (tx x.p)] wr fun e w' => ∃ v, e = .returned v ∧ Rd w' v (wk x.p) ∧ Below wr.heap.size wr w') := rwalk_is x.p (by omega) wr
              have WH : Hid (wk x.p = [] :: wp1 x) := wk_head hxP
              have WN : Hid (∀ q ∈ wp1 x, q.length ≤ 1000000 ∧ q ≠ []) := fun q hq => ⟨Nat.le_trans (wk_le x.p q (List.mem_of_mem_drop hq)) hx6, wp1_ne hxP hq⟩
              have hw8 := wp1_len x
              rw [WH.out] at KWk
              generalize wp1 x = W1 at *
              generalize pts P0 ((l.take k).flatMap wp1) = P1 at *
              clear hx hr
              go_wp2_with fail
              refine KWk.out.mono ?_
              rintro e w2 ⟨v2, rfl, hr2, hb2⟩
              obtain ⟨o2, c2', rfl, hlc2, hm2, hc2⟩ := hr2
              have B2 : Hid (Below w.heap.size w w2) := BW.out.trans (hb2.mono hszw)
              have R2 : Hid (RdN w2 u4 P1) := RV.out.keep hb2
              have C2 : Hid (∀ i x, ([] :: W1)[i]? = some x → ∃ g, o2 = some ⟨g, 0, none⟩ ∧ g < w2.heap.size ∧ w2.cell? ⟨g, i, none⟩ = some (.string (tx x))) := fun i x hx => by
                obtain ⟨g, e, h⟩ := hc2 i x hx
                exact ⟨g, e, World.block_lt_of_cell? _ _ h, h⟩
              obtain ⟨M, hM⟩ : ∃ M, W1.length = M := ⟨_, rfl⟩
              have HM : Hid (W1.length = M) := hM
              have hM1 : ([] :: W1).length = M + 1 := by simp [hM]
              rw [hM1] at hlc2 ⊢
              rw [hM] at hw8
              obtain ⟨h2', hh2⟩ : ∃ h, h = w2.heap.size := ⟨_, rfl⟩
              rw [← hh2] at C2
              have hl2 : h2' ≤ w2.heap.size := by omega
              clear hb2 hc2 KWk RV BW hszw hM hM1 hh2
              go_wp2_with fail
              go_loopg [10, 4] (M + 1) (fun g ii v wr => ∃ i : Nat, i ≤ M ∧ g = M + 1 - i ∧ ii = .int .i64 ((i : Int) + 1) ∧ Hid (RdN wr v (pts P1 (W1.take i))) ∧ Hid (Shorts (pts P1 (W1.take i))) ∧ (pts P1 (W1.take i)).length ≤ 600 * j + 9 * k + i ∧ Hid (Below w.heap.size w wr) ∧ Hid (∀ i x, ([] :: W1)[i]? = some x → ∃ g, o2 = some ⟨g, 0, none⟩ ∧ g < h2' ∧ wr.cell? ⟨g, i, none⟩ = some (.string (tx x))) ∧ h2' ≤ wr.heap.size)
              case atStart => exact ⟨0, Nat.zero_le _, rfl, rfl, R2, SV, hlen, B2, C2, hl2⟩
              case round =>
                clear R2 SV hlen B2 C2 hl2
                obtain ⟨i, hi, rfl, rfl, RV, SV, hlen, BW, CC, hl2⟩ := hrel
                have hszw := BW.out.size
                by_cases hlt3 : i < M
                · have i1 : (i : Int) + 1 < ((M + 1 : Nat) : Int) := by omega
                  obtain ⟨q, hq⟩ : ∃ q, W1[i]? = some q := ⟨W1[i]'(by rw [HM.out]; exact hlt3), by simp [HM.out, hlt3]⟩
                  obtain ⟨g, rfl, hg2, hcq⟩ := CC.out (i + 1) q (by simpa using hq)
                  have hqs := WN.out q (List.mem_of_getElem? hq)
                  have PI : Hid (pts P1 (W1.take (i + 1)) = pt (pts P1 (W1.take i)) q) := by
                    show _ = _
                    rw [List.take_add_one, hq, pts_app]
                    rfl
                  have S2 : Hid (Shorts (pt (pts P1 (W1.take i)) q)) := SV.out.pt hqs
                  have hl3 := pt_len (pts P1 (W1.take i)) q
                  have KP : Hid (Calls Tryd.prog 31 #[u4, .string (tx q)] wr fun e w' => ∃ v', e = .returned v' ∧ RdN w' v' (pt (pts P1 (W1.take i)) q) ∧ Below wr.heap.size wr w') := rput_is u4 _ q (by omega) hqs.1 (fun y hy => (SV.out y hy).1) wr RV.out
                  clear hq
                  go_wp2_with fail
                  refine KP.out.mono ?_
                  rintro e w3 ⟨v3, rfl, hr3, hb3⟩
                  have B3 : Hid (Below w.heap.size w w3) := BW.out.trans (hb3.mono hszw)
                  have R3 : Hid (RdN w3 v3 (pts P1 (W1.take (i + 1)))) := by rw [PI.out]; exact hr3
                  have C3 : Hid (∀ i x, ([] :: W1)[i]? = some x → ∃ g_, some (⟨g, 0, none⟩ : Addr) = some ⟨g_, 0, none⟩ ∧ g_ < h2' ∧ w3.cell? ⟨g_, i, none⟩ = some (.string (tx x))) := fun i x hx => by
                    obtain ⟨g', e1, e2, e3⟩ := CC.out i x hx
                    exact ⟨g', e1, e2, (hb3.cell (p := ⟨g', i, none⟩) (Nat.lt_of_lt_of_le e2 hl2)).trans e3⟩
                  have hl4 : h2' ≤ w3.heap.size := Nat.le_trans hl2 hb3.size
                  clear hr3 hb3 KP
                  go_wp2_with fail
                  go_roundg (M + 1 - (i + 1))
                  case measure => omega
                  case rel => exact ⟨i + 1, by omega, rfl, by go_num, R3, by rw [PI.out]; exact S2, by rw [PI.out]; omega, B3, C3, hl4⟩
                · have ei : M = i := by omega
                  subst ei
                  have i1 : ¬ (M : Int) + 1 < ((M + 1 : Nat) : Int) := by omega
                  have HT : Hid (W1.take M = W1) := by show _ = _; rw [← HM.out, List.take_length]
                  rw [HT.out] at hlen
                  have R4 : Hid (RdN wr u4 (pts P0 ((l.take (k + 1)).flatMap wp1))) := by rw [PK.out]; have := RV.out; rw [HT.out] at this; exact this
                  have S4 : Hid (Shorts (pts P0 ((l.take (k + 1)).flatMap wp1))) := by rw [PK.out]; have := SV.out; rw [HT.out] at this; exact this
                  have hlen4 : (pts P0 ((l.take (k + 1)).flatMap wp1)).length ≤ 600 * j + 9 * (k + 1) := by rw [PK.out]; omega
                  clear RV SV hlen
                  go_wp2_with fail
                  go_roundg (L - (k + 1))
                  case measure => omega
                  case rel => exact ⟨k + 1, by omega, rfl, by go_num, R4, S4, hlen4, BW⟩
            · have ek : L = k := by omega
              subst ek
              have k1 : ¬ (L : Int) < (L : Int) := by omega
              have HT : Hid (l.take L = l) := by show _ = _; rw [← HLL.out, List.take_length]
              rw [HT.out] at hlen
              have R4 : Hid (RdN wr u4 (pts [] ((st.take (j + 1)).flatMap (fun l => l.flatMap wp1)))) := by rw [PJ.out]; have := RV.out; rw [HT.out] at this; exact this
              have S4 : Hid (Shorts (pts [] ((st.take (j + 1)).flatMap (fun l => l.flatMap wp1)))) := by rw [PJ.out]; have := SV.out; rw [HT.out] at this; exact this
              have hlen4 : (pts [] ((st.take (j + 1)).flatMap (fun l => l.flatMap wp1))).length ≤ 600 * (j + 1) := by rw [PJ.out]; omega
              clear RV SV hlen
              go_wp2_with fail
              go_roundg (n - (j + 1))
              case measure => omega
              case rel => exact ⟨j + 1, by omega, rfl, by go_num, R4, S4, hlen4, BW, CK2⟩
        · have HE : Hid (mE st = 5) := mE_bad H16.out HLJ.out hok
          have hok2 : ((chk l).2 != 0) = true := by simpa using hok
          generalize (chk l).1 = c1 at *
          generalize (chk l).2 = c2 at *
          clear CK PJ
          go_wp2_with fail
          refine KC.out.mono ?_
          rintro e w1 ⟨rfl, hb1⟩
          have BW1 : Hid (Below w.heap.size w w1) := BW.out.trans (hb1.mono hszw)
          clear hb1
          go_wp2_with fail
          go_ret2
          exact ⟨none, 0, [], by rw [HE.out]; rfl, .inl rfl, fun h => absurd (HE.out.symm.trans h) (by decide), fun _ => rfl, by simp, BW1.out⟩
      · have ej : n = j := by omega
        subst ej
        have j1 : ¬ (n : Int) < (n : Int) := by omega
        have HT : Hid (st.take n = st) := by show _ = _; rw [← HN.out, List.take_length]
        have CKA : Hid (∀ l ∈ st, (chk l).2 = 0) := fun l hl => by
          obtain ⟨i, hi⟩ := List.getElem?_of_mem hl
          exact CK.out i l (by have := (List.getElem?_eq_some_iff.1 hi).1; rw [HN.out] at this; exact this) hi
        have HE : Hid (mE st = 0) := mE_ok H16.out (fun i l h => CKA.out l (List.mem_of_getElem? h))
        have LD : Hid (Lst (mg st) ((pts [] (st.flatMap (fun l => l.flatMap wp1))).filterMap (mg st))) := rm_lst CKA.out
        rw [HT.out] at hlen
        have RB0 : RdN wr u4 (pts [] (st.flatMap (fun l => l.flatMap wp1))) := by have := RV.out; rw [HT.out] at this; exact this
        have SB : Hid (Shorts (pts [] (st.flatMap (fun l => l.flatMap wp1)))) := by have := SV.out; rw [HT.out] at this; exact this
        have KSN : Hid (SeenIs a n c st n) := rseen_is a n c st HN.out (by omega) CKA.out (fun l hl => chk_shorts (CKA.out l hl)) n (Nat.le_refl _)
        unfold SeenIs at KSN
        rw [HT.out] at KSN
        generalize pts [] (st.flatMap (fun l => l.flatMap wp1)) = ps at *
        have RB : Hid (RdN wr u4 ps) := RB0
        have BB : Hid (Below w.heap.size w wr) := BW
        obtain ⟨N, hN⟩ : ∃ N, ps.length = N := ⟨_, rfl⟩
        have HPN : Hid (ps.length = N) := hN
        rw [hN] at hlen
        clear RV SV BW RB0 hN CK
        obtain ⟨ov, cv, rfl, hov⟩ := rdn_at RB.out
        rw [HPN.out]
        obtain ⟨h7, hh7⟩ : ∃ h, h = wr.heap.size := ⟨_, rfl⟩
        have CP0 : Hid (∀ k x, ps[k]? = some x → ∃ g, ov = some ⟨g, 0, none⟩ ∧ g < h7 ∧ wr.cell? ⟨g, k, none⟩ = some (.string (tx x))) := fun k x hk => by
          obtain ⟨g, e, hc⟩ := hov k x hk
          exact ⟨g, e, by rw [hh7]; exact World.block_lt_of_cell? _ _ hc, hc⟩
        have hw7 : w.heap.size ≤ h7 := by rw [hh7]; exact hszw
        have hh0 : h7 ≤ wr.heap.size := by rw [hh7]; exact Nat.le_refl _
        have FL : Hid (∀ j, ((ps.take j).filterMap (mg st)).length ≤ 10000) := fun j => by
          have q1 := fm_len (T := mg st) (ps.take j)
          rw [List.length_take] at q1
          have := HPN.out
          omega
        clear hov hh7 hszw RB
        go_wp2_with fail
        go_loopg [12, 11] N (fun g i v wr => ∃ j : Nat, j ≤ N ∧ g = N - j ∧ i = .int .i64 j ∧ Hid (OwnE wr h7 v ((ps.take j).filterMap (mg st))) ∧ Hid (Below w.heap.size w wr) ∧ Hid (∀ k x, ps[k]? = some x → ∃ g, ov = some ⟨g, 0, none⟩ ∧ g < h7 ∧ wr.cell? ⟨g, k, none⟩ = some (.string (tx x))) ∧ h7 ≤ wr.heap.size)
        case atStart => exact ⟨0, Nat.zero_le _, rfl, rfl, (show OwnE _ _ _ [] from OwnE.nil _ _), BB, CP0, hh0⟩
        case round =>
          clear CP0 BB hh0
          obtain ⟨j, hj, rfl, rfl, OW, BW, CP, hh7w⟩ := hrel
          have hszw := BW.out.size
          by_cases hlt3 : j < N
          · have j2 : (j : Int) < (N : Int) := by omega
            obtain ⟨p, hp⟩ : ∃ p, ps[j]? = some p := ⟨ps[j]'(by rw [HPN.out]; exact hlt3), by simp [HPN.out, hlt3]⟩
            obtain ⟨g, rfl, hg7, hcp⟩ := CP.out j p hp
            obtain ⟨hp6, hp0⟩ := SB.out p (List.mem_of_getElem? hp)
            have FT : Hid ((ps.take (j + 1)).filterMap (mg st) = (ps.take j).filterMap (mg st) ++ (mg st p).toList) := fm_take ps j p hp
            have hpo := FL.out j
            have KS : Hid (Calls Tryd.prog 32 #[.slice a n c, .int .i64 (n : Int), .string (tx p)] wr fun e w' => e = .returned (.tuple #[ag ((mg st p).getD noE), .bool (mg st p).isSome]) ∧ Below wr.heap.size wr w') := KSN.out p hp0 hp6 wr (HS.out.keep BW.out)
            generalize (ps.take j).filterMap (mg st) = Po at *
            generalize mg st p = M at *
            clear hp
            go_wp2_with fail
            refine KS.out.mono ?_
            rintro e w5 ⟨rfl, hb5⟩
            have B5 : Hid (Below w.heap.size w w5) := BW.out.trans (hb5.mono hszw)
            have O5 : Hid (OwnE w5 h7 u11 Po) := OW.out.keep hb5
            have C5 : Hid (∀ k x, ps[k]? = some x → ∃ g_, some (⟨g, 0, none⟩ : Addr) = some ⟨g_, 0, none⟩ ∧ g_ < h7 ∧ w5.cell? ⟨g_, k, none⟩ = some (.string (tx x))) := fun k x hk => by
              obtain ⟨g', e1, e2, e3⟩ := CP.out k x hk
              exact ⟨g', e1, e2, (hb5.cell (p := ⟨g', k, none⟩) (Nat.lt_of_lt_of_le e2 hh7w)).trans e3⟩
            have HW8 : h7 ≤ w5.heap.size := Nat.le_trans hh7w hb5.size
            have hown : Hid (∀ k, u11.ownBlock = some k → h7 ≤ k) := fun k hk => (OW.out.own k hk).1
            clear hb5 KS CP OW BW hcp
            cases M with
            | none =>
              have FT2 : Hid ((ps.take (j + 1)).filterMap (mg st) = Po) := by show _ = _; rw [FT.out]; simp
              simp only [Option.getD_none, Option.isSome_none, noE, ag, En.p, En.k, En.m, En.b]
              have b6 : Below w5.heap.size w5 (w5.alloc (.cells #[.string (tx []), .int .i64 0, .int .i64 0, .string (tx [])] 34)) := (Below.refl _ _).alloc (Nat.le_refl _) _
              have B6 : Hid (Below w5.heap.size w5 (w5.alloc (.cells #[.string (tx []), .int .i64 0, .int .i64 0, .string (tx [])] 34))) := b6
              clear b6
              go_wp2_with fail
              go_roundg (N - (j + 1))
              case measure => omega
              case rel => exact ⟨j + 1, by omega, rfl, by go_num, by rw [FT2.out]; exact O5.out.keep B6.out, B5.out.trans (B6.out.mono B5.out.size), (fun k x hk => by obtain ⟨g', e1, e2, e3⟩ := C5.out k x hk; exact ⟨g', e1, e2, (B6.out.cell (p := ⟨g', k, none⟩) (Nat.lt_of_lt_of_le e2 HW8)).trans e3⟩), Nat.le_trans HW8 B6.out.size⟩
            | some y =>
              obtain ⟨yp, yk, ym, yb⟩ := y
              have FT2 : Hid ((ps.take (j + 1)).filterMap (mg st) = Po ++ [(yp, yk, ym, yb)]) := by show _ = _; rw [FT.out]; rfl
              simp only [Option.getD_some, Option.isSome_some, ag, En.p, En.k, En.m, En.b]
              go_wp2_with (at_builtin; (refine append_entry rfl (.tmp 82) (.tmp 84) rfl h7 _ Po rfl (OwnE.keep O5.out (below2 _ _ _)) (w5.heap.size + 1) 1 (yp, yk, ym, yb) rfl (heap2 _ _ _) (by omega) (by simp; omega) ?_; intro v8 w8 ho8 hg8; have O8 : Hid (OwnE w8 h7 v8 (Po ++ [(yp, yk, ym, yb)])) := ho8; have G8 : Hid (((w5.alloc (.cells (ec (tx yp) yk ym (tx yb)) 34)).alloc (.cells (ec (tx yp) yk ym (tx yb)) 34)).grownBy w8 u11.ownBlock) := hg8; clear ho8 hg8))
              go_roundg (N - (j + 1))
              case measure => omega
              case rel =>
                have q1 : Below h7 w5 w8 := (((below2 w5 _ _).mono HW8)).grown G8.out (by simp; omega) hown.out
                exact ⟨j + 1, by omega, rfl, by go_num, by rw [FT2.out]; exact O8, B5.out.trans (q1.mono hw7), (fun k x hk => by obtain ⟨g', e1, e2, e3⟩ := C5.out k x hk; exact ⟨g', e1, e2, (q1.cell (p := ⟨g', k, none⟩) e2).trans e3⟩), Nat.le_trans HW8 q1.size⟩
          · have ej3 : N = j := by omega
            subst ej3
            have j2 : ¬ (N : Int) < (N : Int) := by omega
            have HTK : Hid (ps.take N = ps) := by show _ = _; rw [← HPN.out, List.take_length]
            have O9 : OwnE wr h7 u11 (ps.filterMap (mg st)) := by have := OW.out; rw [HTK.out] at this; exact this
            obtain ⟨ra, rc, rfl, hri, _⟩ := O9.slice
            have RI : Hid (InE wr ra (ps.filterMap (mg st))) := hri
            have hl4 := fm_len (T := mg st) ps
            rw [HPN.out] at hl4
            generalize ps.filterMap (mg st) = lf at *
            clear O9 hri OW
            go_wp2_with fail
            go_ret2
            exact ⟨ra, rc, lf, by rw [HE.out]; rfl, RI.out, fun _ => LD.out, fun h => absurd HE.out h, by omega, BW.out⟩
end Go.Proofs.YtbefmcagpmgkiaaDoor
