/- OverlayDiffs' walk. A slice of entries that came in, opened; how great its texts may be. -/
import Derived.Test.YtbefmcagpmgkiaaDoorMgDi14
import Derived.Test.YtbefmcagpmgkiaaDoorMgDi24
import Derived.Test.YtbefmcagpmgkiaaDoorMgDi6
import Derived.Deep.Slices
import Derived.Lib.SmallJoins
import Derived.ChangeSame
import Derived.SizedLaws
namespace Go.Proofs.YtbefmcagpmgkiaaDoor
open Go.ChangeShapes Go.WideShapes Go.ChangeAt Go.RowKit Go.Deep Go.Maps
set_option linter.unusedVariables false
set_option maxRecDepth 100000 in
set_option maxHeartbeats 8000000 in
theorem overlayDiffs_walk (a : Option Addr) (n c : Nat) (la : List En) (b : Option Addr) (m d : Nat) (lb : List En) (w : World) (hn : la.length = n) (hc : n ≤ c) (hl : InE w a la) (hf : Fit la) (hN : n ≤ 140737488355328) (hnc : a = none → c = 0) (hm : lb.length = m) (hd : m ≤ d) (hl2 : InE w b lb) (hf2 : Fit lb) (hM : m ≤ 140737488355328) (hmd : b = none → d = 0) (hB1 : (∀ x ∈ la, x.p.length ≤ 1048576 ∧ x.b.length ≤ 1048576) ∧ la.length ≤ 1048576) (hB2 : (∀ x ∈ lb, x.p.length ≤ 1048576 ∧ x.b.length ≤ 1048576) ∧ lb.length ≤ 1048576) :
    Calls Tryd.prog 5 #[.slice a n c, .slice b m d] w fun e w' => e = .returned (.bool true) ∧ Below w.heap.size w w' := by
  have KW : Hid (∀ w, Calls Tryd.prog 10 #[] w fun e w' => e = .returned (.bool true) ∧ Below w.heap.size w w') := works_is
  have B0 : Hid (Below w.heap.size w w) := Below.refl _ _
  by_cases h2 : 200 < n
  · have e1 : (200 : Int) < (n : Int) := by omega
    go_enter Tryd.func5, Tryd.ntmps5
    go_wp2_with fail
    refine (KW.out _).mono ?_
    rintro e wz ⟨rfl, hbz⟩
    have Bz : Hid (Below w.heap.size w wz) := B0.out.trans (hbz.mono B0.out.size)
    clear hbz
    go_wp2_with fail
    go_ret
    exact ⟨rfl, Bz.out⟩
  · have e1 : ¬ (200 : Int) < (n : Int) := by omega
    by_cases h3 : 200 < m
    · have e2 : (200 : Int) < (m : Int) := by omega
      go_enter Tryd.func5, Tryd.ntmps5
      go_wp2_with fail
      refine (KW.out _).mono ?_
      rintro e wz ⟨rfl, hbz⟩
      have Bz : Hid (Below w.heap.size w wz) := B0.out.trans (hbz.mono B0.out.size)
      clear hbz
      go_wp2_with fail
      go_ret
      exact ⟨rfl, Bz.out⟩
    · have e2 : ¬ (200 : Int) < (m : Int) := by omega
      have HN : Hid (la.length = n) := hn
      have HM : Hid (lb.length = m) := hm
      have KD : Hid (∀ (W : World) (x y : Option Addr) (cx cy : Nat), InE W x la → InE W y lb → Calls Tryd.prog 22 #[.slice x n cx, .slice y m cy] W fun e w' => Below W.heap.size W w' ∧ ((isTr la && isTr lb) = false ∧ e = .returned (.tuple #[.slice none 0 0, .int .i64 5]) ∨ (isTr la && isTr lb) = true ∧ ∃ l, Lst (dfT (scT la) (scT lb)) l ∧ (64 < l.length ∧ e = .returned (.tuple #[.slice none 0 0, .int .i64 3]) ∨ l.length ≤ 64 ∧ ∃ g c, e = .returned (.tuple #[.slice (some ⟨g, 0, none⟩) l.length c, .int .i64 0]) ∧ InE w' (some ⟨g, 0, none⟩) l))) := fun W x y cx cy hx hy => diff_is la lb n m hn hm (by omega) (by omega) hf hf2 x y cx cy W hx hy
      have KR : Hid (∀ W, Below w.heap.size w W → Calls Tryd.prog 23 #[.slice a n c, .slice b m d] W fun e w' => Below W.heap.size W w' ∧ ((isTr la && isTr lb) = false ∧ e = .returned (.tuple #[.slice none 0 0, .int .i64 5]) ∨ (isTr la && isTr lb) = true ∧ ∃ l, Lst (dfT (scT la) (scT lb)) l ∧ (64 < l.length ∧ e = .returned (.tuple #[.slice none 0 0, .int .i64 3]) ∨ l.length ≤ 64 ∧ ∃ a c, e = .returned (.tuple #[.slice a l.length c, .int .i64 0]) ∧ InE w' a l))) := fun W hb => rdiff_is la lb n m hn hm (by omega) (by omega) hB1.1 hB2.1 a b c d hc hd W (hl.keep hb) (hl2.keep hb)
      have IA : Hid (InE w a la) := hl
      have IB : Hid (InE w b lb) := hl2
      have NA : Hid (a = none → c = 0) := hnc
      have NB : Hid (b = none → d = 0) := hmd
      have b1 : Below w.heap.size w (w.alloc (.cells #[] 34)) := (Below.refl _ _).alloc (Nat.le_refl _) _
      have O1 : Hid (OwnE (w.alloc (.cells #[] 34)) w.heap.size (.slice (some ⟨w.heap.size, 0, none⟩) 0 0) []) := ownE_empty w _ (Nat.le_refl _)
      have I1 : Hid (InE (w.alloc (.cells #[] 34)) a la) := hl.keep b1
      have B1 : Hid (Below w.heap.size w (w.alloc (.cells #[] 34))) := b1
      have s1 : w.heap.size ≤ (w.alloc (.cells #[] 34)).heap.size := b1.size
      generalize (isTr la && isTr lb) = T at *
      generalize dfT (scT la) (scT lb) = D at *
      clear hn hm hl hl2 hf hf2 hB1 hB2 hnc hmd b1
      go_enter Tryd.func5, Tryd.ntmps5
      go_wp2_with (first
        | (at_builtin; (refine append_entries rfl (.tmp 19) (.tmp 20) rfl w.heap.size _ [] rfl O1.out a n c la rfl HN.out I1.out NA.out (by simp; omega) s1 ?_; intro v2 w2 ho2 hb2; obtain ⟨a2, c2, hv2, hi2, _⟩ := (show OwnE w2 w.heap.size v2 la from ho2).slice; rw [HN.out] at hv2; subst hv2; have I2 : Hid (InE w2 a2 la) := hi2; have B2 : Hid (Below w.heap.size w w2) := B1.out.trans hb2; have b2' : Below w2.heap.size w2 (w2.alloc (.cells #[] 34)) := (Below.refl _ _).alloc (Nat.le_refl _) _; have B2a : Hid (Below w.heap.size w (w2.alloc (.cells #[] 34))) := B2.out.trans (b2'.mono B2.out.size); have I2a : Hid (InE (w2.alloc (.cells #[] 34)) a2 la) := hi2.keep b2'; have O2 : Hid (OwnE (w2.alloc (.cells #[] 34)) w2.heap.size (.slice (some ⟨w2.heap.size, 0, none⟩) 0 0) []) := ownE_empty w2 _ (Nat.le_refl _); have I2b : Hid (InE (w2.alloc (.cells #[] 34)) b lb) := IB.out.keep B2a.out; have s2 : w2.heap.size ≤ (w2.alloc (.cells #[] 34)).heap.size := b2'.size; have D2 : Hid (Below w2.heap.size w2 (w2.alloc (.cells #[] 34))) := b2'; clear ho2 hb2 hi2 b2' O1 I1 B1))
        | (at_builtin; (refine append_entries rfl (.tmp 22) (.tmp 23) rfl w2.heap.size _ [] rfl O2.out b m d lb rfl HM.out I2b.out NB.out (by simp; omega) s2 ?_; intro v3 w3 ho3 hb3; obtain ⟨a3, c3, hv3, hi3, _⟩ := (show OwnE w3 w2.heap.size v3 lb from ho3).slice; rw [HM.out] at hv3; subst hv3; have I3 : Hid (InE w3 a3 lb) := hi3; have D3 : Hid (Below w2.heap.size w2 w3) := D2.out.trans hb3; have I3a : Hid (InE w3 a2 la) := I2.out.keep D3.out; have B3 : Hid (Below w.heap.size w w3) := B2.out.trans (D3.out.mono B2.out.size); clear ho3 hb3 hi3 O2 I2a I2b B2a)))
      refine (KD.out w3 a2 a3 c2 c3 I3a.out I3.out).mono ?_
      rintro e w4 ⟨hb4, h4⟩
      have B4 : Hid (Below w.heap.size w w4) := B3.out.trans (hb4.mono B3.out.size)
      clear hb4 KD I3 I3a B3 D3 D2
      rcases h4 with ⟨hT, rfl⟩ | ⟨hT, lx, hlx, ⟨h64, rfl⟩ | ⟨h64, gx, cx, rfl, hix⟩⟩
      · go_wp2_with fail
        refine (KR.out w4 B4.out).mono ?_
        rintro e w5 ⟨hb5, h5⟩
        have B5 : Hid (Below w.heap.size w w5) := B4.out.trans (hb5.mono B4.out.size)
        rcases h5 with ⟨_, rfl⟩ | ⟨hT2, _⟩
        · have LE : ([] : List En) = [] := rfl
          clear hb5
          have KS : Hid (Calls Tryd.prog 14 #[.slice none 0 0, .slice none 0 0] w5 fun e w' => e = .returned (.bool true) ∧ Below w5.heap.size w5 w') := by
            have := sameE_is ([] : List En) ([] : List En) 0 0 0 0 none none w5 rfl rfl (by first | omega | simp) (by first | omega | simp) (.inl rfl) (.inl rfl)
            rw [decide_eq_true LE] at this
            exact this
          clear LE
          go_wp2_with fail
          refine KS.out.mono ?_
          rintro e wa ⟨rfl, hba⟩
          have Ba : Hid (Below w.heap.size w wa) := B5.out.trans (hba.mono B5.out.size)
          clear hba KS
          go_wp2_with fail
          refine (KW.out _).mono ?_
          rintro e wz ⟨rfl, hbz⟩
          have Bz : Hid (Below w.heap.size w wz) := Ba.out.trans (hbz.mono Ba.out.size)
          clear hbz
          go_wp2_with fail
          go_ret
          exact ⟨rfl, Bz.out⟩
        · rw [hT] at hT2; cases hT2
      · go_wp2_with fail
        refine (KR.out w4 B4.out).mono ?_
        rintro e w5 ⟨hb5, h5⟩
        have B5 : Hid (Below w.heap.size w w5) := B4.out.trans (hb5.mono B4.out.size)
        rcases h5 with ⟨hT2, _⟩ | ⟨_, ly, hly, ⟨h65, rfl⟩ | ⟨h65, ay, cy, rfl, hiy⟩⟩
        · rw [hT] at hT2; cases hT2
        · have LE : ([] : List En) = [] := rfl
          clear hb5
          have KS : Hid (Calls Tryd.prog 14 #[.slice none 0 0, .slice none 0 0] w5 fun e w' => e = .returned (.bool true) ∧ Below w5.heap.size w5 w') := by
            have := sameE_is ([] : List En) ([] : List En) 0 0 0 0 none none w5 rfl rfl (by first | omega | simp) (by first | omega | simp) (.inl rfl) (.inl rfl)
            rw [decide_eq_true LE] at this
            exact this
          clear LE
          go_wp2_with fail
          refine KS.out.mono ?_
          rintro e wa ⟨rfl, hba⟩
          have Ba : Hid (Below w.heap.size w wa) := B5.out.trans (hba.mono B5.out.size)
          clear hba KS
          go_wp2_with fail
          refine (KW.out _).mono ?_
          rintro e wz ⟨rfl, hbz⟩
          have Bz : Hid (Below w.heap.size w wz) := Ba.out.trans (hbz.mono Ba.out.size)
          clear hbz
          go_wp2_with fail
          go_ret
          exact ⟨rfl, Bz.out⟩
        · have := lst_eq hlx hly; subst this; omega
      · go_wp2_with fail
        refine (KR.out w4 B4.out).mono ?_
        rintro e w5 ⟨hb5, h5⟩
        have B5 : Hid (Below w.heap.size w w5) := B4.out.trans (hb5.mono B4.out.size)
        rcases h5 with ⟨hT2, _⟩ | ⟨_, ly, hly, ⟨h65, rfl⟩ | ⟨h65, ay, cy, rfl, hiy⟩⟩
        · rw [hT] at hT2; cases hT2
        · have := lst_eq hlx hly; subst this; omega
        · have LE : lx = ly := lst_eq hlx hly
          have IX : Hid (InE w5 (some ⟨gx, 0, none⟩) lx) := hix.keep hb5
          have IY : Hid (InE w5 ay ly) := hiy
          clear hb5 hix hiy hlx hly
          have KS : Hid (Calls Tryd.prog 14 #[.slice (some ⟨gx, 0, none⟩) lx.length cx, .slice ay ly.length cy] w5 fun e w' => e = .returned (.bool true) ∧ Below w5.heap.size w5 w') := by
            have := sameE_is lx ly lx.length ly.length cx cy (some ⟨gx, 0, none⟩) ay w5 rfl rfl (by first | omega | simp) (by first | omega | simp) IX.out IY.out
            rw [decide_eq_true LE] at this
            exact this
          clear LE
          go_wp2_with fail
          refine KS.out.mono ?_
          rintro e wa ⟨rfl, hba⟩
          have Ba : Hid (Below w.heap.size w wa) := B5.out.trans (hba.mono B5.out.size)
          clear hba KS
          go_wp2_with fail
          refine (KW.out _).mono ?_
          rintro e wz ⟨rfl, hbz⟩
          have Bz : Hid (Below w.heap.size w wz) := Ba.out.trans (hbz.mono Ba.out.size)
          clear hbz
          go_wp2_with fail
          go_ret
          exact ⟨rfl, Bz.out⟩
end Go.Proofs.YtbefmcagpmgkiaaDoor
namespace Go.Proofs.YtbefmcagpmgkiaaDoor
open Go.ChangeShapes Go.WideShapes Go.ChangeAt Go.RowKit Go.Deep
set_option linter.unusedVariables false
/-- an entry as data -/
def ed {H : Type} (q : En) : DataW H := .agg [.lit (.string q.p), .lit (.int .i64 q.k), .lit (.int .i64 q.m), .lit (.string q.b)]
theorem cellsE : Tryd.prog.cellsOf 34 = 4 := by kernel_rfl
theorem cellsT : Tryd.prog.cellsOf 9 = 1 := by kernel_rfl
theorem cellsI : Tryd.prog.cellsOf 3 = 1 := by kernel_rfl
theorem bytesE : Tryd.prog.bytesOf 34 = 48 := by kernel_rfl
theorem list4 {α : Type} {l : List α} (h : l.length = 4) : ∃ v0 v1 v2 v3, l = [v0, v1, v2, v3] := by
  match l, h with
  | [v0, v1, v2, v3], _ => exact ⟨v0, v1, v2, v3, rfl⟩
theorem open_entry {H : Type} {enc : TypeId × Value → H} {W : World} {fuel : Nat} {cs : List Value} {x : DataW H × List MemPlace} (h : DataW.trod enc Tryd.prog W 0 (fun _ => true) true fuel 34 cs = some x) :
    ∃ q : En, cs = [.string (tx q.p), .int .i64 q.k, .int .i64 q.m, .string (tx q.b)] ∧ x.1 = ed q := by
  obtain ⟨y0, y1, y2, y3, n, hxy, hlen, g0, g1, g2, g3⟩ := Go.Joins.trod_struct4 Tryd.underlying34 h
  rw [cellsE] at hlen
  obtain ⟨v0, v1, v2, v3, rfl⟩ := list4 hlen
  simp [cellsT, cellsI] at g0 g1 g2 g3
  obtain ⟨s0, e0, rfl, _⟩ := DataW.trod_string Tryd.underlying9 g0
  obtain ⟨n1, e1, rfl, _⟩ := DataW.trod_int Tryd.underlying3 g1
  obtain ⟨n2, e2, rfl, _⟩ := DataW.trod_int Tryd.underlying3 g2
  obtain ⟨s3, e3, rfl, _⟩ := DataW.trod_string Tryd.underlying9 g3
  simp only [List.cons.injEq, and_true] at e0 e1 e2 e3
  subst e0 e1 e2 e3 hxy
  refine ⟨(s0.data.toList, n1, n2, s3.data.toList), ?_, ?_⟩
  · simp only [En.p, En.k, En.m, En.b, ← tx_mk]
  · simp [ed, En.p, En.k, En.m, En.b]
theorem open_entries {H : Type} {enc : TypeId × Value → H} {W : World} {fuel : Nat} {a : Option Addr} {len cap : Nat} {x : DataW H × List MemPlace} (h : DataW.trod enc Tryd.prog W 0 (fun _ => true) true fuel 26 [.slice a len cap] = some x) :
    ∃ l : List En, l.length = len ∧ len ≤ cap ∧ (a = none → cap = 0) ∧ cap ≤ 9223372036854775807 ∧ InE W a l ∧ (l = [] ∨ ∃ sp, x.1 = .slice (l.map ed) sp) := by
  rcases open_slice Tryd.underlying26 h with ⟨hcs, hx⟩ | ⟨a', len', cap', m, n, D, Pl, hcs, _, hl, hm, hmm, hx, hel⟩
  · simp only [List.cons.injEq, and_true, Value.slice.injEq] at hcs
    obtain ⟨rfl, rfl, rfl⟩ := hcs
    exact ⟨[], rfl, Nat.le_refl _, fun _ => rfl, by omega, .inl rfl, .inl rfl⟩
  · simp only [List.cons.injEq, and_true, Value.slice.injEq] at hcs
    obtain ⟨rfl, rfl, rfl⟩ := hcs
    have hmc : m = cap := by simpa using hmm
    subst hmc hx
    have each : ∀ i, i < len → ∃ q : En, ∃ cs', W.cells? 0 (a'.add (i * 4)) 4 = some cs' ∧ cs' = [.string (tx q.p), .int .i64 q.k, .int .i64 q.m, .string (tx q.b)] ∧ D i = ed q := by
      intro i hi
      obtain ⟨cs', h1, h2⟩ := hel i (by omega)
      rw [cellsE] at h1
      obtain ⟨q, hq, hd⟩ := open_entry h2
      exact ⟨q, cs', h1, hq, hd⟩
    obtain ⟨q, hq⟩ := choose_lt each
    simp only [maxLen] at hm
    refine ⟨(List.range len).map q, by simp, hl, (fun h => by simp at h), by omega, ?_, ?_⟩
    · by_cases h0 : len = 0
      · left; subst h0; rfl
      · right
        have hsp : ∀ i, i < len → W.cell? (a'.add (i * 4)) = some (.string (tx (q i).p)) ∧ W.cell? (a'.add (i * 4 + 1)) = some (.int .i64 (q i).k) ∧ W.cell? (a'.add (i * 4 + 2)) = some (.int .i64 (q i).m) ∧ W.cell? (a'.add (i * 4 + 3)) = some (.string (tx (q i).b)) := by
          intro i hi
          obtain ⟨cs', h1, h2, _⟩ := hq i hi
          obtain ⟨_, hlen, hcell⟩ := World.cells?_some h1
          subst h2
          have e0 := hcell 0 (by omega)
          have e1 := hcell 1 (by omega)
          have e2 := hcell 2 (by omega)
          have e3 := hcell 3 (by omega)
          rw [add_add] at e0 e1 e2 e3
          exact ⟨by simpa using e0, by simpa using e1, by simpa using e2, by simpa using e3⟩
        obtain ⟨b, off, spot⟩ := a'
        have hc := (hsp 0 (by omega)).1
        have hspot : spot = none := by simpa [Addr.add] using World.cell?_spot hc
        subst hspot
        rw [add_plain] at hc
        refine ⟨b, off, rfl, World.block_lt_of_cell? _ _ hc, fun i x hx => ?_⟩
        have hi : i < len := by
          have := (List.getElem?_eq_some_iff.1 hx).1
          simpa using this
        have hxq : x = q i := by simpa [hi] using hx.symm
        subst hxq
        have := hsp i hi
        rw [add_plain, add_plain, add_plain, add_plain] at this
        exact this
    · right
      refine ⟨(List.range (m - len)).map fun j => D (len + j), ?_⟩
      show DataW.slice _ _ = DataW.slice _ _
      congr 1
      apply List.ext_getElem
      · simp
      · intro i h1 h2
        have hi : i < len := by simpa using h1
        obtain ⟨_, _, _, h3⟩ := hq i hi
        simp [h3]
theorem weightsAll_in {H : Type} {P : Program} {e : TypeId} : ∀ {l : List (DataW H)} {d : DataW H}, d ∈ l → ∀ n ∈ d.weights P e, n ∈ DataW.weightsAll P e l
  | d' :: r, d, hd, n, hn => by
    simp only [DataW.weightsAll, List.mem_append]
    rcases List.mem_cons.1 hd with rfl | h
    · exact Or.inl hn
    · exact Or.inr (weightsAll_in h n hn)
theorem weights_ed {H : Type} (q : En) : q.p.length ∈ (ed (H := H) q).weights Tryd.prog 34 ∧ q.b.length ∈ (ed (H := H) q).weights Tryd.prog 34 := by
  have hu := Tryd.underlying34
  constructor <;> simp [ed, DataW.weights, DataW.weightsEach, hu]
theorem fit_of {H : Type} {ts : List TypeId} {ds : List (DataW H)} (h : (DataW.weightsEach Tryd.prog ts ds).all (· ≤ reachBytes) = true) {j : Nat} {l : List En} {sp : List (DataW H)} {d : DataW H}
    (ht : ts[j]? = some 26) (hd : ds[j]? = some d) (hl : l = [] ∨ ∃ sp, d = .slice (l.map ed) sp) : Fit l ∧ l.length ≤ 140737488355328 := by
  have hr := reachBytes_lt
  rcases hl with rfl | ⟨sp, rfl⟩
  · exact ⟨fun x hx => by simp at hx, by simp⟩
  · have hu := Tryd.underlying26
    have key : ∀ x ∈ l, ∀ n ∈ (ed (H := H) x).weights Tryd.prog 34, n ≤ reachBytes := by
      intro x hx n hn
      refine of_decide_eq_true (List.all_eq_true.1 h _ (DataW.weights_mem_each ht hd _ ?_))
      simp only [DataW.weights, hu, List.mem_cons, List.mem_append]
      exact Or.inr (Or.inl (weightsAll_in (List.mem_map.2 ⟨x, hx, rfl⟩) _ hn))
    refine ⟨fun x hx => ?_, ?_⟩
    · obtain ⟨w1, w2⟩ := weights_ed (H := H) x
      have h1 := key x hx _ w1
      have h2 := key x hx _ w2
      omega
    · have := sized_slice h ht hd hu
      rw [bytesE, List.length_map] at this
      omega
theorem bulk_in {H : Type} : ∀ {l : List (DataW H)} {d : DataW H}, d ∈ l → Rows.uptoBulk d ≤ Rows.uptoBulkAll l
  | d' :: r, d, hd => by
    simp only [Rows.uptoBulkAll]
    rcases List.mem_cons.1 hd with rfl | h
    · omega
    · have := bulk_in h; omega
theorem bulk_len {H : Type} : ∀ (l : List En), l.length ≤ Rows.uptoBulkAll (l.map (ed (H := H)))
  | [] => by simp
  | x :: r => by
    have := bulk_len (H := H) r
    simp only [List.map_cons, Rows.uptoBulkAll, List.length_cons, ed, Rows.uptoBulk] at this ⊢
    omega
/-- each text, and their number, is within the bulk -/
theorem bulk_of {H : Type} {l : List En} {d : DataW H} (hl : l = [] ∨ ∃ sp, d = .slice (l.map ed) sp) (B : Nat) (hB : Rows.uptoBulk d ≤ B) : (∀ x ∈ l, x.p.length ≤ B ∧ x.b.length ≤ B) ∧ l.length ≤ B := by
  rcases hl with rfl | ⟨sp, rfl⟩
  · exact ⟨fun x hx => by simp at hx, by simp⟩
  · simp only [Rows.uptoBulk] at hB
    refine ⟨fun x hx => ?_, ?_⟩
    · have := bulk_in (List.mem_map.2 ⟨x, hx, rfl⟩ : ed (H := H) x ∈ l.map ed)
      simp only [ed, Rows.uptoBulk, Rows.uptoBulkAll] at this
      omega
    · have := bulk_len (H := H) l
      omega
end Go.Proofs.YtbefmcagpmgkiaaDoor
