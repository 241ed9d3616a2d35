/- The document's Diff. -/
import Derived.Test.YtbefmcagpmgkiaaDoorMgMe15
import Derived.Test.YtbefmcagpmgkiaaDoorMgMe19
import Derived.Test.YtbefmcagpmgkiaaDoorMgMe21
import Derived.Test.YtbefmcagpmgkiaaDoorMgMe12
import Derived.BigQuiet
namespace Go.Proofs.YtbefmcagpmgkiaaDoor
open Go.ChangeShapes Go.WideShapes Go.ChangeAt Go.RowKit Go.Deep Go.Maps
set_option linter.unusedVariables false
theorem trF_rise : ∀ (l : List En) (T : Tx → Option En) (a : Tx), trF T a l = true → (∀ x ∈ l, les a x.p = true) ∧ l.Pairwise (fun x y => les x.p y.p = true)
  | [], _, _, _ => ⟨(fun x hx => by cases hx), List.Pairwise.nil⟩
  | y :: r, T, a, h => by
    unfold trF at h
    simp only [Bool.and_eq_true] at h
    obtain ⟨h1, h2⟩ := trF_rise r _ _ h.2
    refine ⟨fun x hx => ?_, List.pairwise_cons.2 ⟨h1, h2⟩⟩
    rcases List.mem_cons.1 hx with rfl | hx
    · exact h.1.1.2
    · exact les_trans _ _ _ h.1.1.2 (h1 x hx)
theorem isTr_rise {l : List En} (h : isTr l = true) : l.Pairwise (fun x y => les x.p y.p = true) := (trF_rise l _ _ h).2
theorem isTr_fo {l : List En} (h : isTr l = true) {x : En} (hx : x ∈ l) : fo x = 0 := by
  have := trF_mS l _ _ h x hx
  unfold mS at this
  simp only [Bool.and_eq_true, decide_eq_true_eq] at this
  exact this.2
theorem isTr_scT {l : List En} (h : isTr l = true) : scT l = ent l := by
  funext q
  exact scT_at _ l rfl (isTr_rise h) q
/-- texts put in, one by one -/
def pts (l : List Tx) (ps : List Tx) : List Tx := ps.foldl pt l
theorem pts_take (l : List Tx) (m : List En) (j : Nat) (x : En) (h : m[j]? = some x) : pts l ((m.take (j + 1)).map (·.p)) = pt (pts l ((m.take j).map (·.p))) x.p := by
  rw [List.take_add_one, h]
  simp [pts]
theorem pts_mem : ∀ (ps l : List Tx) (q : Tx), q ∈ pts l ps ↔ q ∈ ps ∨ q ∈ l
  | [], l, q => by simp [pts]
  | p :: ps, l, q => by
    show q ∈ pts (pt l p) ps ↔ _
    rw [pts_mem ps, pt_mem]
    simp only [List.mem_cons]
    constructor
    · rintro (h | h | h)
      · exact .inl (.inr h)
      · exact .inl (.inl h)
      · exact .inr h
    · rintro ((h | h) | h)
      · exact .inr (.inl h)
      · exact .inl h
      · exact .inr (.inr h)
theorem pts_rise : ∀ (ps l : List Tx), l.Pairwise (fun x y => les x y = true) → (pts l ps).Pairwise (fun x y => les x y = true)
  | [], l, h => h
  | p :: ps, l, h => pts_rise ps _ (pt_rise l p h)
theorem pts_len : ∀ (ps l : List Tx), (pts l ps).length ≤ l.length + ps.length
  | [], l => by simp [pts]
  | p :: ps, l => by
    have h1 := pts_len ps (pt l p)
    have h2 := pt_len l p
    show (pts (pt l p) ps).length ≤ _
    simp only [List.length_cons]
    omega
/-- the layer, path by path in their order -/
theorem lst_fm {T : Tx → Option En} (hT : AtOwn T) {ps : List Tx} (hr : ps.Pairwise (fun x y => les x y = true)) (hall : ∀ q x, T q = some x → q ∈ ps) : Lst T (ps.filterMap T) := by
  refine ⟨fun x => ?_, ?_⟩
  · rw [List.mem_filterMap]
    constructor
    · rintro ⟨q, _, hq⟩
      rw [hT q x hq]
      exact hq
    · exact fun h => ⟨x.p, hall _ _ h, h⟩
  · rw [List.pairwise_filterMap]
    refine pw_mono (fun a b _ _ h x hx y hy => ?_) hr
    rw [hT _ _ hx, hT _ _ hy]
    exact h
theorem fm_take {T : Tx → Option En} (ps : List Tx) (j : Nat) (p : Tx) (h : ps[j]? = some p) : (ps.take (j + 1)).filterMap T = (ps.take j).filterMap T ++ (T p).toList := by
  rw [List.take_add_one, h, List.filterMap_append]
  cases hT : T p <;> simp [Option.toList, hT]
theorem fm_len {T : Tx → Option En} (ps : List Tx) : (ps.filterMap T).length ≤ ps.length := List.length_filterMap_le _ _
theorem rdn_at {w : World} {v : Value} {l : List Tx} (h : RdN w v l) : ∃ o c, v = .slice o l.length c ∧ ∀ j x, l[j]? = some x → ∃ g, o = some ⟨g, 0, none⟩ ∧ w.cell? ⟨g, j, none⟩ = some (.string (tx x)) := by
  obtain ⟨⟨o, c, h1, _, _, h4⟩, _⟩ := h
  exact ⟨o, c, h1, h4⟩
theorem RdN.keep {w w' : World} {v : Value} {l : List Tx} (h : RdN w v l) (hb : Below w.heap.size w w') : RdN w' v l := ⟨h.1.keep hb, h.2⟩
set_option maxRecDepth 100000 in
set_option maxHeartbeats 16000000 in
theorem rdiff_is (la lb : List En) (na nb : Nat) (hna : la.length = na) (hnb : lb.length = nb) (ha2 : na ≤ 200) (hb2 : nb ≤ 200) (ba : Brief la) (bb : Brief lb) (aa ab : Option Addr) (ca cb : Nat) (hca : na ≤ ca) (hcb : nb ≤ cb) (w : World) (ia : InE w aa la) (ib : InE w ab lb) :
    Calls Tryd.prog 23 #[.slice aa na ca, .slice ab nb cb] w fun e w' => Below w.heap.size w w' ∧ ((isTr la && isTr lb) = false ∧ e = .returned (.tuple #[.slice none 0 0, .int .i64 5]) ∨ (isTr la && isTr lb) = true ∧ ∃ l, Lst (dfT (scT la) (scT lb)) l ∧ (64 < l.length ∧ e = .returned (.tuple #[.slice none 0 0, .int .i64 3]) ∨ l.length ≤ 64 ∧ ∃ a c, e = .returned (.tuple #[.slice a l.length c, .int .i64 0]) ∧ InE w' a l)) := by
  have KA : Hid (Calls Tryd.prog 21 #[.slice aa na ca] w fun e w' => e = .returned (.bool (isTr la)) ∧ Below w.heap.size w w') := rtree_is la na hna (by omega) ba aa ca hca w ia
  have KB : Hid (∀ W, Below w.heap.size w W → Calls Tryd.prog 21 #[.slice ab nb cb] W fun e w' => e = .returned (.bool (isTr lb)) ∧ Below W.heap.size W w') := fun W hb => rtree_is lb nb hnb (by omega) bb ab cb hcb W (ib.keep hb)
  have IA : Hid (InE w aa la) := ia
  have IB : Hid (InE w ab lb) := ib
  have HNA : Hid (la.length = na) := hna
  have HNB : Hid (lb.length = nb) := hnb
  clear ia ib hna hnb ba bb
  cases hta : isTr la with
  | false =>
    rw [hta] at KA
    go_enter Tryd.func23, Tryd.ntmps23
    go_wp2_with fail
    refine KA.out.mono ?_
    rintro e w1 ⟨rfl, hb1⟩
    have B1 : Hid (Below w.heap.size w w1) := hb1
    clear hb1
    go_wp2_with fail
    go_ret2
    exact ⟨B1.out, .inl ⟨rfl, rfl⟩⟩
  | true =>
    rw [hta] at KA
    cases htb : isTr lb with
    | false =>
      rw [htb] at KB
      go_enter Tryd.func23, Tryd.ntmps23
      go_wp2_with fail
      refine KA.out.mono ?_
      rintro e w1 ⟨rfl, hb1⟩
      have B1 : Hid (Below w.heap.size w w1) := hb1
      clear hb1
      go_wp2_with fail
      refine (KB.out w1 B1.out).mono ?_
      rintro e w2 ⟨rfl, hb2⟩
      have B2 : Hid (Below w.heap.size w w2) := B1.out.trans (hb2.mono B1.out.size)
      clear hb2
      go_wp2_with fail
      go_ret2
      exact ⟨B2.out, .inl ⟨rfl, rfl⟩⟩
    | true =>
      rw [htb] at KB
      have SAs : Hid (∀ x ∈ la, x.p.length ≤ 1000000) := fun x hx => by have := isP_short (fo_path (isTr_fo hta hx)).2; omega
      have SBs : Hid (∀ x ∈ lb, x.p.length ≤ 1000000) := fun x hx => by have := isP_short (fo_path (isTr_fo htb hx)).2; omega
      have EA : Hid (scT la = ent la) := isTr_scT hta
      have EB : Hid (scT lb = ent lb) := isTr_scT htb
      have DO : Hid (AtOwn (dfT (scT la) (scT lb))) := df_own la lb
      rw [EA.out, EB.out] at *
      clear hta htb EA EB
      go_enter Tryd.func23, Tryd.ntmps23
      go_wp2_with fail
      refine KA.out.mono ?_
      rintro e w1 ⟨rfl, hb1⟩
      have B1 : Hid (Below w.heap.size w w1) := hb1
      clear hb1 KA
      go_wp2_with fail
      refine (KB.out w1 B1.out).mono ?_
      rintro e w2 ⟨rfl, hb2⟩
      have B2 : Hid (Below w.heap.size w w2) := B1.out.trans (hb2.mono B1.out.size)
      clear hb2 KB B1
      go_wp2_with fail
      go_loopg [7, 6] na (fun g i v wr => ∃ j : Nat, j ≤ na ∧ g = na - j ∧ i = .int .i64 j ∧ Hid (RdN wr v (pts [] ((la.take j).map (·.p)))) ∧ Hid (Below w.heap.size w wr))
      case atStart => exact ⟨0, Nat.zero_le _, rfl, rfl, (show RdN _ _ [] from ⟨Rd.nil _, fun _ => rfl⟩), B2⟩
      case round =>
        obtain ⟨j, hj, rfl, rfl, RV, BW⟩ := hrel
        clear B2
        have hszw := BW.out.size
        by_cases hlt : j < na
        · have j1 : (j : Int) < (na : Int) := by omega
          obtain ⟨x, hx⟩ : ∃ x, la[j]? = some x := ⟨la[j]'(by rw [HNA.out]; exact hlt), by simp [HNA.out, hlt]⟩
          obtain ⟨b, off, rfl, hbw, hr⟩ := IA.out.at hx
          obtain ⟨c0, c1, c2, c3⟩ := hr.below BW.out hbw
          have PX : Hid (pts [] ((la.take (j + 1)).map (·.p)) = pt (pts [] ((la.take j).map (·.p))) x.p) := pts_take [] la j x hx
          have KP : Hid (Calls Tryd.prog 31 #[u6, .string (tx x.p)] wr fun e w' => ∃ v', e = .returned v' ∧ RdN w' v' (pt (pts [] ((la.take j).map (·.p))) x.p) ∧ Below wr.heap.size wr w') := by
            refine rput_is u6 _ x.p ?_ (SAs.out x (List.mem_of_getElem? hx)) (fun y hy => ?_) wr RV.out
            · have := pts_len ((la.take j).map (·.p)) []
              rw [List.length_map, List.length_take] at this
              simp only [List.length_nil] at this
              omega
            · rcases (pts_mem _ _ _).1 hy with h | h
              · obtain ⟨z, hz, rfl⟩ := List.mem_map.1 h
                exact SAs.out z (List.mem_of_mem_take hz)
              · cases h
          clear hx hr
          go_wp2_with fail
          refine KP.out.mono ?_
          rintro e w3 ⟨v3, rfl, hr3, hb3⟩
          have R3 : Hid (RdN w3 v3 (pts [] ((la.take (j + 1)).map (·.p)))) := by rw [PX.out]; exact hr3
          have B3 : Hid (Below w.heap.size w w3) := BW.out.trans (hb3.mono hszw)
          clear hr3 hb3 KP RV BW
          go_wp2_with fail
          go_roundg (na - (j + 1))
          case measure => omega
          case rel => exact ⟨j + 1, by omega, rfl, by go_num, R3, B3⟩
        · have ej : na = j := by omega
          subst ej
          have j1 : ¬ (na : Int) < (na : Int) := by omega
          have RA : Hid (RdN wr u6 (pts [] (la.map (·.p)))) := by
            have := RV.out
            rw [← HNA.out, List.take_length] at this
            exact this
          have BA : Hid (Below w.heap.size w wr) := BW
          clear RV BW
          go_wp2_with fail
          go_loopg [8, 6] nb (fun g i v wr => ∃ j : Nat, j ≤ nb ∧ g = nb - j ∧ i = .int .i64 j ∧ Hid (RdN wr v (pts (pts [] (la.map (·.p))) ((lb.take j).map (·.p)))) ∧ Hid (Below w.heap.size w wr))
          case atStart => exact ⟨0, Nat.zero_le _, rfl, rfl, RA, BA⟩
          case round =>
            clear RA BA hszw
            obtain ⟨i, hi, rfl, rfl, RV, BW⟩ := hrel
            have hszw := BW.out.size
            by_cases hlt2 : i < nb
            · have i1 : (i : Int) < (nb : Int) := by omega
              obtain ⟨x, hx⟩ : ∃ x, lb[i]? = some x := ⟨lb[i]'(by rw [HNB.out]; exact hlt2), by simp [HNB.out, hlt2]⟩
              obtain ⟨b, off, rfl, hbw, hr⟩ := IB.out.at hx
              obtain ⟨c0, c1, c2, c3⟩ := hr.below BW.out hbw
              have PX : Hid (pts (pts [] (la.map (·.p))) ((lb.take (i + 1)).map (·.p)) = pt (pts (pts [] (la.map (·.p))) ((lb.take i).map (·.p))) x.p) := pts_take _ lb i x hx
              have KP : Hid (Calls Tryd.prog 31 #[u6, .string (tx x.p)] wr fun e w' => ∃ v', e = .returned v' ∧ RdN w' v' (pt (pts (pts [] (la.map (·.p))) ((lb.take i).map (·.p))) x.p) ∧ Below wr.heap.size wr w') := by
                refine rput_is u6 _ x.p ?_ (SBs.out x (List.mem_of_getElem? hx)) (fun y hy => ?_) wr RV.out
                · have q1 := pts_len ((lb.take i).map (·.p)) (pts [] (la.map (·.p)))
                  have q2 := pts_len (la.map (·.p)) []
                  rw [List.length_map, List.length_take] at q1
                  rw [List.length_map, HNA.out] at q2
                  simp only [List.length_nil] at q2
                  omega
                · rcases (pts_mem _ _ _).1 hy with h | h
                  · obtain ⟨z, hz, rfl⟩ := List.mem_map.1 h
                    exact SBs.out z (List.mem_of_mem_take hz)
                  · rcases (pts_mem _ _ _).1 h with h | h
                    · obtain ⟨z, hz, rfl⟩ := List.mem_map.1 h
                      exact SAs.out z hz
                    · cases h
              clear hx hr
              go_wp2_with fail
              refine KP.out.mono ?_
              rintro e w3 ⟨v3, rfl, hr3, hb3⟩
              have R3 : Hid (RdN w3 v3 (pts (pts [] (la.map (·.p))) ((lb.take (i + 1)).map (·.p)))) := by rw [PX.out]; exact hr3
              have B3 : Hid (Below w.heap.size w w3) := BW.out.trans (hb3.mono hszw)
              clear hr3 hb3 KP RV BW
              go_wp2_with fail
              go_roundg (nb - (i + 1))
              case measure => omega
              case rel => exact ⟨i + 1, by omega, rfl, by go_num, R3, B3⟩
            · have ei : nb = i := by omega
              subst ei
              have i1 : ¬ (nb : Int) < (nb : Int) := by omega
              have RB0 : RdN wr u6 (pts (pts [] (la.map (·.p))) (lb.map (·.p))) := by
                have := RV.out
                rw [← HNB.out, List.take_length] at this
                exact this
              have PR : Hid ((pts (pts [] (la.map (·.p))) (lb.map (·.p))).Pairwise (fun x y => les x y = true)) := pts_rise _ _ (pts_rise _ _ List.Pairwise.nil)
              have PM : Hid (∀ q, q ∈ pts (pts [] (la.map (·.p))) (lb.map (·.p)) ↔ (∃ y ∈ lb, y.p = q) ∨ (∃ y ∈ la, y.p = q)) := fun q => by
                rw [pts_mem, pts_mem]
                simp [List.mem_map]
              have PL : (pts (pts [] (la.map (·.p))) (lb.map (·.p))).length ≤ 400 := by
                have q1 := pts_len (lb.map (·.p)) (pts [] (la.map (·.p)))
                have q2 := pts_len (la.map (·.p)) []
                rw [List.length_map, HNB.out] at q1
                rw [List.length_map, HNA.out] at q2
                simp only [List.length_nil] at q2
                omega
              generalize pts (pts [] (la.map (·.p))) (lb.map (·.p)) = ps at *
              have PSh : Hid (∀ q ∈ ps, q.length ≤ 1000000) := fun q hq => by
                rcases (PM.out q).1 hq with ⟨y, hy, rfl⟩ | ⟨y, hy, rfl⟩
                · exact SBs.out y hy
                · exact SAs.out y hy
              have LD : Hid (Lst (dfT (ent la) (ent lb)) (ps.filterMap (dfT (ent la) (ent lb)))) := lst_fm DO.out PR.out (fun q x hq => by
                rcases dfT_in hq with ⟨h1, _⟩ | ⟨_, _, ⟨z, hz⟩, _⟩
                · exact (PM.out q).2 (.inl ⟨x, (ent_some h1).1, (ent_some h1).2⟩)
                · exact (PM.out q).2 (.inr ⟨z, (ent_some hz).1, (ent_some hz).2⟩))
              have RB : Hid (RdN wr u6 ps) := RB0
              have BB : Hid (Below w.heap.size w wr) := BW
              obtain ⟨N, hN⟩ : ∃ N, ps.length = N := ⟨_, rfl⟩
              have HPN : Hid (ps.length = N) := hN
              rw [hN] at PL
              clear RV BW RB0 hN
              obtain ⟨ov, cv, rfl, hov⟩ := rdn_at RB.out
              rw [HPN.out]
              go_wp2_with fail
              obtain ⟨h7, hh7⟩ : ∃ h, h = wr.heap.size := ⟨_, rfl⟩
              have CP0 : Hid (∀ k x, ps[k]? = some x → ∃ g, ov = some ⟨g, 0, none⟩ ∧ g < h7 ∧ wr.cell? ⟨g, k, none⟩ = some (.string (tx x))) := fun k x hk => by
                obtain ⟨g, e, hc⟩ := hov k x hk
                exact ⟨g, e, by rw [hh7]; exact World.block_lt_of_cell? _ _ hc, hc⟩
              have hw7 : w.heap.size ≤ h7 := by rw [hh7]; exact hszw
              have hh0 : h7 ≤ wr.heap.size := by rw [hh7]; exact Nat.le_refl _
              have FL : Hid (∀ j, ((ps.take j).filterMap (dfT (ent la) (ent lb))).length ≤ 400) := fun j => by
                have q1 := fm_len (T := dfT (ent la) (ent lb)) (ps.take j)
                rw [List.length_take] at q1
                have := HPN.out
                omega
              have hnm1 : ¬ ((-1 : Int)) ≥ 0 := by omega
              clear hov hh7 hszw RB
              go_loopg [10, 9] N (fun g i v wr => ∃ j : Nat, j ≤ N ∧ g = N - j ∧ i = .int .i64 j ∧ Hid (OwnE wr h7 v ((ps.take j).filterMap (dfT (ent la) (ent lb)))) ∧ Hid (Below w.heap.size w wr) ∧ Hid (∀ k x, ps[k]? = some x → ∃ g, ov = some ⟨g, 0, none⟩ ∧ g < h7 ∧ wr.cell? ⟨g, k, none⟩ = some (.string (tx x))) ∧ h7 ≤ wr.heap.size)
              case atStart => exact ⟨0, Nat.zero_le _, rfl, rfl, (show OwnE _ _ _ [] from OwnE.nil _ _), BB, CP0, hh0⟩
              case round =>
                clear CP0 BB hh0
                obtain ⟨j, hj, rfl, rfl, OW, BW, CP, hh7w⟩ := hrel
                have hszw := BW.out.size
                by_cases hlt3 : j < N
                · have j1 : (j : Int) < (N : Int) := by omega
                  obtain ⟨p, hp⟩ : ∃ p, ps[j]? = some p := ⟨ps[j]'(by rw [HPN.out]; exact hlt3), by simp [HPN.out, hlt3]⟩
                  obtain ⟨g, rfl, hg7, hcp⟩ := CP.out j p hp
                  have hpm := (PM.out p).1 (List.mem_of_getElem? hp)
                  have HPM : Hid ((∃ y ∈ lb, y.p = p) ∨ (∃ y ∈ la, y.p = p)) := hpm
                  have hp6 := PSh.out p (List.mem_of_getElem? hp)
                  have FT : Hid ((ps.take (j + 1)).filterMap (dfT (ent la) (ent lb)) = (ps.take j).filterMap (dfT (ent la) (ent lb)) ++ (dfT (ent la) (ent lb) p).toList) := fm_take ps j p hp
                  have hpo := FL.out j
                  generalize (ps.take j).filterMap (dfT (ent la) (ent lb)) = Po at *
                  have KH1 : Hid (Calls Tryd.prog 35 #[.slice aa na ca, .string (tx p)] wr fun e w' => ∃ r, e = .returned (.int .i64 r) ∧ w' = wr ∧ HasR la p r) := rhas_is la na HNA.out (by omega) aa ca p wr (IA.out.keep BW.out)
                  have KH2 : Hid (∀ q W, Below w.heap.size w W → Calls Tryd.prog 35 #[.slice ab nb cb, .string (tx q)] W fun e w' => ∃ r, e = .returned (.int .i64 r) ∧ w' = W ∧ HasR lb q r) := fun q W hb => rhas_is lb nb HNB.out (by omega) ab cb q W (IB.out.keep hb)
                  clear hp hpm
                  go_wp2_with fail
                  refine KH1.out.mono ?_
                  rintro e wq ⟨r1, rfl, hq1, hr1⟩
                  obtain rfl := hq1.symm
                  clear hq1 KH1
                  go_wp2_with fail
                  refine (KH2.out p wr BW.out).mono ?_
                  rintro e wq ⟨r2, rfl, hq2, hr2⟩
                  obtain rfl := hq2.symm
                  clear hq2
                  rcases hr2 with ⟨rfl, he2⟩ | ⟨i2, y, rfl, hi2, hyp, he2⟩
                  · obtain ⟨z, hz⟩ : ∃ z, ent la p = some z := by
                      rcases HPM.out with ⟨y, hy, hyp⟩ | ⟨y, hy, hyp⟩
                      · have := List.find?_eq_none.1 he2 y hy
                        simp [hyp] at this
                      · cases hh : ent la p with
                        | some z => exact ⟨z, rfl⟩
                        | none =>
                          have := List.find?_eq_none.1 hh y hy
                          simp [hyp] at this
                    have HA : Hid (ent la p = some z) := hz
                    have KU : Hid (Calls Tryd.prog 36 #[.string (tx p)] wr fun e w' => e = .returned (.tuple #[.string (tx (upP p)), .bool (!(prt p).isEmpty)]) ∧ Below wr.heap.size wr w') := rup_is p (by omega) wr
                    have OB : Hid (oA (ent lb) p = (decide (upP p = []) || decide (((ent lb (upP p)).getD noE).k = 2))) := rfl
                    have DFW : Hid (oA (ent lb) p = true → dfT (ent la) (ent lb) p = some (p, 3, 0, [])) := fun h => by unfold dfT; rw [he2, HA.out]; simp [h]
                    have DFN : Hid (oA (ent lb) p = false → dfT (ent la) (ent lb) p = none) := fun h => by unfold dfT; rw [he2, HA.out]; simp [h]
                    have hul := upP_len p
                    clear hz hr1 he2 HPM
                    generalize upP p = up at *
                    go_wp2_with fail
                    refine KU.out.mono ?_
                    rintro e w5 ⟨rfl, hb5⟩
                    have B5 : Hid (Below w.heap.size w w5) := BW.out.trans (hb5.mono hszw)
                    have O5 : Hid (OwnE w5 h7 u9 Po) := OW.out.keep hb5
                    have C5 : Hid (∀ k x, ps[k]? = some x → ∃ g_, some (⟨g, 0, none⟩ : Addr) = some ⟨g_, 0, none⟩ ∧ g_ < h7 ∧ w5.cell? ⟨g_, k, none⟩ = some (.string (tx x))) := fun k x hk => by
                      obtain ⟨g', e1, e2, e3⟩ := CP.out k x hk
                      exact ⟨g', e1, e2, (hb5.cell (p := ⟨g', k, none⟩) (Nat.lt_of_lt_of_le e2 hh7w)).trans e3⟩
                    have HW8 : h7 ≤ w5.heap.size := Nat.le_trans hh7w hb5.size
                    clear hb5 KU
                    go_wp2_with fail
                    refine (KH2.out up w5 B5.out).mono ?_
                    rintro e wq ⟨r3, rfl, hq3, hr3⟩
                    obtain rfl := hq3.symm
                    clear hq3 KH2
                    by_cases hu : up = []
                    · have DF : Hid (dfT (ent la) (ent lb) p = some (p, 3, 0, [])) := DFW.out (by rw [OB.out, decide_eq_true hu]; rfl)
                      subst hu
                      have e0 : (tx []).toList = [] := tx_toList []
                      clear hr3
                      have FT2 : Hid ((ps.take (j + 1)).filterMap (dfT (ent la) (ent lb)) = Po ++ [((p, 3, 0, []) : En)]) := by show _ = _; rw [FT.out, DF.out]; rfl
                      go_wp2_with (at_builtin; (refine append_entry rfl (.tmp 142) (.tmp 145) rfl h7 _ Po rfl (OwnE.keep O5.out ((Below.refl _ _).alloc (Nat.le_refl _) _)) (w5).heap.size 1 ((p, 3, 0, []) : En) rfl (heap_alloc_new (w5) _) (by omega) (by simp; omega) ?_; intro v8 w8 ho8 hg8; have O8 : Hid (OwnE w8 h7 v8 (Po ++ [((p, 3, 0, []) : En)])) := ho8; have G8 : Hid (((w5).alloc (.cells (ec (tx p) 3 0 (tx [])) 34)).grownBy w8 u9.ownBlock) := hg8; clear ho8 hg8))
                      go_roundg (N - (j + 1))
                      case measure => omega
                      case rel =>
                        have hown : ∀ k, u9.ownBlock = some k → h7 ≤ k := fun k hk => (OW.out.own k hk).1
                        have q1 : Below h7 (w5) w8 := ((Below.refl h7 (w5)).alloc HW8 _).grown G8.out (by simp; exact Nat.le_succ_of_le HW8) hown
                        exact ⟨j + 1, by omega, rfl, by go_num, by rw [FT2.out]; exact O8, B5.out.trans (q1.mono hw7), (fun k x hk => by obtain ⟨g', e1, e2, e3⟩ := C5.out k x hk; exact ⟨g', e1, e2, (q1.cell (p := ⟨g', k, none⟩) e2).trans e3⟩), Nat.le_trans HW8 q1.size⟩
                    · have hte := tx_toList up
                      have hue : up.isEmpty = false := by simpa using hu
                      rcases hr3 with ⟨rfl, he3⟩ | ⟨i3, y3, rfl, hi3, hyp3, he3⟩
                      · have DF : Hid (dfT (ent la) (ent lb) p = none) := DFN.out (by rw [OB.out, decide_eq_false hu, he3]; simp [noE, En.k])
                        have hge : decide ((0 : Int) ≤ -1) = false := by simp
                        clear he3
                        have FT2 : Hid ((ps.take (j + 1)).filterMap (dfT (ent la) (ent lb)) = Po) := by show _ = _; rw [FT.out, DF.out]; simp
                        go_wp2_with fail
                        go_roundg (N - (j + 1))
                        case measure => omega
                        case rel => exact ⟨j + 1, by omega, rfl, by go_num, by rw [FT2.out]; exact O5, B5, C5, HW8⟩
                      · have i3l : i3 < nb := by have := (List.getElem?_eq_some_iff.1 hi3).1; rw [HNB.out] at this; exact this
                        have k1 : (i3 : Int) < (nb : Int) := by omega
                        have k2 : (0 : Int) ≤ (i3 : Int) := by omega
                        obtain ⟨bb, offb, rfl, hbb, hrb⟩ := IB.out.at hi3
                        obtain ⟨y0, y1, y2, y3'⟩ := hrb.below B5.out hbb
                        by_cases hy2 : y3.k = 2
                        · have DF : Hid (dfT (ent la) (ent lb) p = some (p, 3, 0, [])) := DFW.out (by rw [OB.out, he3]; simp [hy2])
                          rw [hy2] at y1
                          clear he3 hi3 hrb
                          have FT2 : Hid ((ps.take (j + 1)).filterMap (dfT (ent la) (ent lb)) = Po ++ [((p, 3, 0, []) : En)]) := by show _ = _; rw [FT.out, DF.out]; rfl
                          go_wp2_with (at_builtin; (refine append_entry rfl (.tmp 142) (.tmp 145) rfl h7 _ Po rfl (OwnE.keep O5.out ((Below.refl _ _).alloc (Nat.le_refl _) _)) (w5).heap.size 1 ((p, 3, 0, []) : En) rfl (heap_alloc_new (w5) _) (by omega) (by simp; omega) ?_; intro v8 w8 ho8 hg8; have O8 : Hid (OwnE w8 h7 v8 (Po ++ [((p, 3, 0, []) : En)])) := ho8; have G8 : Hid (((w5).alloc (.cells (ec (tx p) 3 0 (tx [])) 34)).grownBy w8 u9.ownBlock) := hg8; clear ho8 hg8))
                          go_roundg (N - (j + 1))
                          case measure => omega
                          case rel =>
                            have hown : ∀ k, u9.ownBlock = some k → h7 ≤ k := fun k hk => (OW.out.own k hk).1
                            have q1 : Below h7 (w5) w8 := ((Below.refl h7 (w5)).alloc HW8 _).grown G8.out (by simp; exact Nat.le_succ_of_le HW8) hown
                            exact ⟨j + 1, by omega, rfl, by go_num, by rw [FT2.out]; exact O8, B5.out.trans (q1.mono hw7), (fun k x hk => by obtain ⟨g', e1, e2, e3⟩ := C5.out k x hk; exact ⟨g', e1, e2, (q1.cell (p := ⟨g', k, none⟩) e2).trans e3⟩), Nat.le_trans HW8 q1.size⟩
                        · have DF : Hid (dfT (ent la) (ent lb) p = none) := DFN.out (by rw [OB.out, decide_eq_false hu, he3]; simp [hy2])
                          have hy4 : (y3.k == 2) = false := by simpa using hy2
                          clear he3 hi3 hrb
                          have FT2 : Hid ((ps.take (j + 1)).filterMap (dfT (ent la) (ent lb)) = Po) := by show _ = _; rw [FT.out, DF.out]; simp
                          go_wp2_with fail
                          go_roundg (N - (j + 1))
                          case measure => omega
                          case rel => exact ⟨j + 1, by omega, rfl, by go_num, by rw [FT2.out]; exact O5, B5, C5, HW8⟩
                  · have i2l : i2 < nb := by have := (List.getElem?_eq_some_iff.1 hi2).1; rw [HNB.out] at this; exact this
                    have k1 : (i2 : Int) < (nb : Int) := by omega
                    have k2 : (0 : Int) ≤ (i2 : Int) := by omega
                    have k3 : decide ((0 : Int) ≤ (i2 : Int)) = true := by simp
                    have HW8 : h7 ≤ wr.heap.size := hh7w
                    obtain ⟨bb, offb, rfl, hbb, hrb⟩ := IB.out.at hi2
                    obtain ⟨y0, y1, y2, y3⟩ := hrb.below BW.out hbb
                    obtain ⟨yp, yk, ym, yb⟩ := y
                    rcases hr1 with ⟨rfl, he1⟩ | ⟨i1, x, rfl, hi1, hxp, he1⟩
                    · have DF : Hid (dfT (ent la) (ent lb) p = some (yp, yk, ym, yb)) := by show _ = _; unfold dfT; rw [he2, he1]; simp
                      simp only [En.p, En.k, En.m, En.b] at *
                      subst hyp
                      clear he1 he2 hi2 hrb KH2 HPM
                      go_wp2_with fail
                      go_quiet (fail)
                      have FT2 : Hid ((ps.take (j + 1)).filterMap (dfT (ent la) (ent lb)) = Po ++ [(yp, yk, ym, yb)]) := by show _ = _; rw [FT.out, DF.out]; rfl
                      go_wp2_with (at_builtin; (refine append_entry rfl (.tmp 113) (.tmp 118) rfl h7 _ Po rfl (OwnE.keep (OwnE.keep OW.out (below_drewN (Below.refl _ _) _) : OwnE (wr.drewN nq) h7 u9 Po) ((Below.refl _ _).alloc (Nat.le_refl _) _)) (wr.drewN nq).heap.size 1 (yp, yk, ym, yb) rfl (heap_alloc_new (wr.drewN nq) _) (by omega) (by simp; omega) ?_; intro v8 w8 ho8 hg8; have O8 : Hid (OwnE w8 h7 v8 (Po ++ [(yp, yk, ym, yb)])) := ho8; have G8 : Hid (((wr.drewN nq).alloc (.cells (ec (tx yp) yk ym (tx yb)) 34)).grownBy w8 u9.ownBlock) := hg8; clear ho8 hg8))
                      go_roundg (N - (j + 1))
                      case measure => omega
                      case rel =>
                        have hown : ∀ k, u9.ownBlock = some k → h7 ≤ k := fun k hk => (OW.out.own k hk).1
                        have q1 : Below h7 (wr.drewN nq) w8 := ((Below.refl h7 (wr.drewN nq)).alloc HW8 _).grown G8.out (by simp; exact Nat.le_succ_of_le HW8) hown
                        exact ⟨j + 1, by omega, rfl, by go_num, by rw [FT2.out]; exact O8, (below_drewN BW.out nq).trans (q1.mono hw7), (fun k x hk => by obtain ⟨g', e1, e2, e3⟩ := (show ∀ k x, ps[k]? = some x → ∃ g_, some (⟨g, 0, none⟩ : Addr) = some ⟨g_, 0, none⟩ ∧ g_ < h7 ∧ (wr.drewN nq).cell? ⟨g_, k, none⟩ = some (.string (tx x)) from CP.out) k x hk; exact ⟨g', e1, e2, (q1.cell (p := ⟨g', k, none⟩) e2).trans e3⟩), Nat.le_trans HW8 q1.size⟩
                    · have i1l : i1 < na := by have := (List.getElem?_eq_some_iff.1 hi1).1; rw [HNA.out] at this; exact this
                      have m1 : (i1 : Int) < (na : Int) := by omega
                      have m2 : (0 : Int) ≤ (i1 : Int) := by omega
                      have m3 : decide ((0 : Int) ≤ (i1 : Int)) = true := by simp
                      obtain ⟨ba, offa, rfl, hba, hra⟩ := IA.out.at hi1
                      obtain ⟨x0, x1, x2, x3⟩ := hra.below BW.out hba
                      clear hi1 hi2 hra hrb KH2 HPM
                      obtain ⟨xp, xk, xm, xb⟩ := x
                      simp only [En.p, En.k, En.m, En.b] at *
                      subst hyp
                      subst hxp
                      have HE1 : Hid (ent la xp = some (xp, xk, xm, xb)) := he1
                      have HE2 : Hid (ent lb xp = some (xp, yk, ym, yb)) := he2
                      have DFD : Hid ((xp, xk, xm, xb) ≠ (xp, yk, ym, yb) → dfT (ent la) (ent lb) xp = some (xp, yk, ym, yb)) := fun h => by unfold dfT; rw [HE2.out, HE1.out]; simp only; rw [if_neg (fun e => h (Option.some.inj e))]
                      clear he1 he2
                      have hb1 := tx_toList xb
                      have hb2 := tx_toList yb
                      by_cases q1 : xk = yk
                      · subst q1
                        by_cases q2 : xm = ym
                        · subst q2
                          by_cases q3 : xb = yb
                          · subst q3
                            have DF : Hid (dfT (ent la) (ent lb) xp = none) := by show _ = _; unfold dfT; rw [HE2.out, HE1.out]; simp
                            go_wp2_with fail
                            go_quiet (fail)
                            have FT2 : Hid ((ps.take (j + 1)).filterMap (dfT (ent la) (ent lb)) = Po) := by show _ = _; rw [FT.out, DF.out]; simp
                            go_wp2_with fail
                            go_roundg (N - (j + 1))
                            case measure => omega
                            case rel => exact ⟨j + 1, by omega, rfl, by go_num, by rw [FT2.out]; exact (OwnE.keep OW.out (below_drewN (Below.refl _ _) _) : OwnE (wr.drewN nq) h7 u9 Po), (below_drewN BW.out nq), (show ∀ k x, ps[k]? = some x → ∃ g_, some (⟨g, 0, none⟩ : Addr) = some ⟨g_, 0, none⟩ ∧ g_ < h7 ∧ (wr.drewN nq).cell? ⟨g_, k, none⟩ = some (.string (tx x)) from CP.out), HW8⟩
                          · have DF : Hid (dfT (ent la) (ent lb) xp = some (xp, xk, xm, yb)) := DFD.out (by simp; exact q3)
                            have q4 : (xb == yb) = false := by simpa using q3
                            go_wp2_with fail
                            go_quiet (fail)
                            have FT2 : Hid ((ps.take (j + 1)).filterMap (dfT (ent la) (ent lb)) = Po ++ [(xp, xk, xm, yb)]) := by show _ = _; rw [FT.out, DF.out]; rfl
                            go_wp2_with (at_builtin; (refine append_entry rfl (.tmp 113) (.tmp 118) rfl h7 _ Po rfl (OwnE.keep (OwnE.keep OW.out (below_drewN (Below.refl _ _) _) : OwnE (wr.drewN nq) h7 u9 Po) ((Below.refl _ _).alloc (Nat.le_refl _) _)) (wr.drewN nq).heap.size 1 (xp, xk, xm, yb) rfl (heap_alloc_new (wr.drewN nq) _) (by omega) (by simp; omega) ?_; intro v8 w8 ho8 hg8; have O8 : Hid (OwnE w8 h7 v8 (Po ++ [(xp, xk, xm, yb)])) := ho8; have G8 : Hid (((wr.drewN nq).alloc (.cells (ec (tx xp) xk xm (tx yb)) 34)).grownBy w8 u9.ownBlock) := hg8; clear ho8 hg8))
                            go_roundg (N - (j + 1))
                            case measure => omega
                            case rel =>
                              have hown : ∀ k, u9.ownBlock = some k → h7 ≤ k := fun k hk => (OW.out.own k hk).1
                              have q1 : Below h7 (wr.drewN nq) w8 := ((Below.refl h7 (wr.drewN nq)).alloc HW8 _).grown G8.out (by simp; exact Nat.le_succ_of_le HW8) hown
                              exact ⟨j + 1, by omega, rfl, by go_num, by rw [FT2.out]; exact O8, (below_drewN BW.out nq).trans (q1.mono hw7), (fun k x hk => by obtain ⟨g', e1, e2, e3⟩ := (show ∀ k x, ps[k]? = some x → ∃ g_, some (⟨g, 0, none⟩ : Addr) = some ⟨g_, 0, none⟩ ∧ g_ < h7 ∧ (wr.drewN nq).cell? ⟨g_, k, none⟩ = some (.string (tx x)) from CP.out) k x hk; exact ⟨g', e1, e2, (q1.cell (p := ⟨g', k, none⟩) e2).trans e3⟩), Nat.le_trans HW8 q1.size⟩
                        · have DF : Hid (dfT (ent la) (ent lb) xp = some (xp, xk, ym, yb)) := DFD.out (by simp; exact fun h => absurd h q2)
                          have q4 : (xm == ym) = false := by simpa using q2
                          have q5 : decide (xm = ym) = false := by simpa using q2
                          go_wp2_with fail
                          go_quiet (fail)
                          have FT2 : Hid ((ps.take (j + 1)).filterMap (dfT (ent la) (ent lb)) = Po ++ [(xp, xk, ym, yb)]) := by show _ = _; rw [FT.out, DF.out]; rfl
                          go_wp2_with (at_builtin; (refine append_entry rfl (.tmp 113) (.tmp 118) rfl h7 _ Po rfl (OwnE.keep (OwnE.keep OW.out (below_drewN (Below.refl _ _) _) : OwnE (wr.drewN nq) h7 u9 Po) ((Below.refl _ _).alloc (Nat.le_refl _) _)) (wr.drewN nq).heap.size 1 (xp, xk, ym, yb) rfl (heap_alloc_new (wr.drewN nq) _) (by omega) (by simp; omega) ?_; intro v8 w8 ho8 hg8; have O8 : Hid (OwnE w8 h7 v8 (Po ++ [(xp, xk, ym, yb)])) := ho8; have G8 : Hid (((wr.drewN nq).alloc (.cells (ec (tx xp) xk ym (tx yb)) 34)).grownBy w8 u9.ownBlock) := hg8; clear ho8 hg8))
                          go_roundg (N - (j + 1))
                          case measure => omega
                          case rel =>
                            have hown : ∀ k, u9.ownBlock = some k → h7 ≤ k := fun k hk => (OW.out.own k hk).1
                            have q1 : Below h7 (wr.drewN nq) w8 := ((Below.refl h7 (wr.drewN nq)).alloc HW8 _).grown G8.out (by simp; exact Nat.le_succ_of_le HW8) hown
                            exact ⟨j + 1, by omega, rfl, by go_num, by rw [FT2.out]; exact O8, (below_drewN BW.out nq).trans (q1.mono hw7), (fun k x hk => by obtain ⟨g', e1, e2, e3⟩ := (show ∀ k x, ps[k]? = some x → ∃ g_, some (⟨g, 0, none⟩ : Addr) = some ⟨g_, 0, none⟩ ∧ g_ < h7 ∧ (wr.drewN nq).cell? ⟨g_, k, none⟩ = some (.string (tx x)) from CP.out) k x hk; exact ⟨g', e1, e2, (q1.cell (p := ⟨g', k, none⟩) e2).trans e3⟩), Nat.le_trans HW8 q1.size⟩
                      · have DF : Hid (dfT (ent la) (ent lb) xp = some (xp, yk, ym, yb)) := DFD.out (by simp; exact fun h => absurd h q1)
                        have q4 : (xk == yk) = false := by simpa using q1
                        have q5 : decide (xk = yk) = false := by simpa using q1
                        go_wp2_with fail
                        go_quiet (fail)
                        have FT2 : Hid ((ps.take (j + 1)).filterMap (dfT (ent la) (ent lb)) = Po ++ [(xp, yk, ym, yb)]) := by show _ = _; rw [FT.out, DF.out]; rfl
                        go_wp2_with (at_builtin; (refine append_entry rfl (.tmp 113) (.tmp 118) rfl h7 _ Po rfl (OwnE.keep (OwnE.keep OW.out (below_drewN (Below.refl _ _) _) : OwnE (wr.drewN nq) h7 u9 Po) ((Below.refl _ _).alloc (Nat.le_refl _) _)) (wr.drewN nq).heap.size 1 (xp, yk, ym, yb) rfl (heap_alloc_new (wr.drewN nq) _) (by omega) (by simp; omega) ?_; intro v8 w8 ho8 hg8; have O8 : Hid (OwnE w8 h7 v8 (Po ++ [(xp, yk, ym, yb)])) := ho8; have G8 : Hid (((wr.drewN nq).alloc (.cells (ec (tx xp) yk ym (tx yb)) 34)).grownBy w8 u9.ownBlock) := hg8; clear ho8 hg8))
                        go_roundg (N - (j + 1))
                        case measure => omega
                        case rel =>
                          have hown : ∀ k, u9.ownBlock = some k → h7 ≤ k := fun k hk => (OW.out.own k hk).1
                          have q1 : Below h7 (wr.drewN nq) w8 := ((Below.refl h7 (wr.drewN nq)).alloc HW8 _).grown G8.out (by simp; exact Nat.le_succ_of_le HW8) hown
                          exact ⟨j + 1, by omega, rfl, by go_num, by rw [FT2.out]; exact O8, (below_drewN BW.out nq).trans (q1.mono hw7), (fun k x hk => by obtain ⟨g', e1, e2, e3⟩ := (show ∀ k x, ps[k]? = some x → ∃ g_, some (⟨g, 0, none⟩ : Addr) = some ⟨g_, 0, none⟩ ∧ g_ < h7 ∧ (wr.drewN nq).cell? ⟨g_, k, none⟩ = some (.string (tx x)) from CP.out) k x hk; exact ⟨g', e1, e2, (q1.cell (p := ⟨g', k, none⟩) e2).trans e3⟩), Nat.le_trans HW8 q1.size⟩
                · have ej3 : j = N := by omega
                  subst ej3
                  have j1 : ¬ (j : Int) < (j : Int) := by omega
                  have HTK : Hid (ps.take j = ps) := by show _ = _; rw [← HPN.out, List.take_length]
                  have O9 : OwnE wr h7 u9 (ps.filterMap (dfT (ent la) (ent lb))) := by have := OW.out; rw [HTK.out] at this; exact this
                  obtain ⟨ra, rc, rfl, hri, _⟩ := O9.slice
                  have RI : Hid (InE wr ra (ps.filterMap (dfT (ent la) (ent lb)))) := hri
                  have hl4 := fm_len (T := dfT (ent la) (ent lb)) ps
                  generalize ps.filterMap (dfT (ent la) (ent lb)) = lf at *
                  clear O9 hri OW
                  by_cases h64 : 64 < lf.length
                  · have e64 : (64 : Int) < (lf.length : Int) := by omega
                    go_wp2_with fail
                    go_ret2
                    exact ⟨BW.out, lf, LD.out, .inl ⟨h64, rfl⟩⟩
                  · have e64 : ¬ (64 : Int) < (lf.length : Int) := by omega
                    go_wp2_with fail
                    go_ret2
                    exact ⟨BW.out, lf, LD.out, .inr ⟨by omega, ra, ⟨rc, rfl⟩, RI.out⟩⟩
end Go.Proofs.YtbefmcagpmgkiaaDoor
