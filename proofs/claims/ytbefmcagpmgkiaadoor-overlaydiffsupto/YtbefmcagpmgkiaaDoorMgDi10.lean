/- overlay.Merge. -/
import Derived.Test.YtbefmcagpmgkiaaDoorMgDi9
namespace Go.Proofs.YtbefmcagpmgkiaaDoor
open Go.ChangeShapes Go.WideShapes Go.ChangeAt Go.RowKit Go.Deep Go.Maps
set_option linter.unusedVariables false
/-- every entry lies at its own path, and that is short -/
def GoodT (T : Tx → Option En) : Prop := ∀ q x, T q = some x → x.p = q ∧ q.length ≤ 100000000
theorem GoodT.none : GoodT (fun _ => none) := fun q x h => by cases h
theorem GoodT.sub {T T' : Tx → Option En} (h : GoodT T) (hs : ∀ q x, T' q = some x → T q = some x) : GoodT T' := fun q x e => h q x (hs q x e)
theorem dropT_sub (T : Tx → Option En) (p q : Tx) (x : En) (h : dropT T p q = some x) : T q = some x := by
  unfold dropT at h
  split at h
  · split at h
    · cases h
    · exact h
  · split at h
    · cases h
    · exact h
theorem GoodT.set {T : Tx → Option En} (h : GoodT T) (p : Tx) (x : En) (hp : x.p = p) (hl : p.length ≤ 100000000) : GoodT (fun q => if q = p then some x else T q) := by
  intro q y e
  dsimp only at e
  split at e
  · rename_i hq
    cases e
    subst hq
    exact ⟨hp, hl⟩
  · exact h q y e
theorem wk_le (P p : Tx) (h : p ∈ wk P) : p.length ≤ P.length := by
  unfold wk at h
  split at h
  · rename_i hp
    unfold wkL at h
    obtain ⟨i, _, rfl⟩ := List.mem_map.1 h
    have h1 := jn_pre (prt P) i
    rw [jn_prt hp] at h1
    rw [← h1, List.length_take]
    omega
  · cases h
theorem GoodT.openL {P : Tx} (hP : P.length ≤ 100000000) : ∀ (l : List Tx) (T : Tx → Option En), GoodT T → (∀ p ∈ l, p.length ≤ P.length) → GoodT (openT P T l)
  | [], T, h, _ => h
  | p :: r, T, h, hl => by
    show GoodT (openT P (opn1 P T p) r)
    refine GoodT.openL hP r _ ?_ (fun q hq => hl q (by simp [hq]))
    unfold opn1
    split
    · exact h.set p (p, 2, 0, []) rfl (Nat.le_trans (hl p (by simp)) hP)
    · exact h
theorem GoodT.put {T : Tx → Option En} (h : GoodT T) (x : En) (hx : x.p.length ≤ 100000000) : GoodT (putT T x) := by
  have ho : GoodT (openT x.p T (wk x.p)) := GoodT.openL hx _ _ h (fun p hp => wk_le _ _ hp)
  unfold putT
  split
  · exact h.sub (fun q y => dropT_sub T x.p q y)
  · split
    · exact (ho.sub (fun q y => dropT_sub _ x.p q y)).set x.p x rfl hx
    · split
      · exact (ho.sub (fun q y => dropT_sub _ x.p q y)).set x.p (x.p, 2, x.m, x.b) rfl hx
      · exact ho.set x.p x rfl hx
/-- a layer over what is there -/
def mgT (T : Tx → Option En) (l : List En) : Tx → Option En := l.foldl putT T
/-- what a stack of layers comes to -/
def mg (st : List (List En)) : Tx → Option En := st.foldl mgT (fun _ => none)
theorem mgT_take (T : Tx → Option En) (l : List En) (i : Nat) (x : En) (h : l[i]? = some x) : mgT T (l.take (i + 1)) = putT (mgT T (l.take i)) x := by
  rw [List.take_add_one, h]
  simp [mgT]
theorem mg_take (st : List (List En)) (i : Nat) (l : List En) (h : st[i]? = some l) : mg (st.take (i + 1)) = mgT (mg (st.take i)) l := by
  rw [List.take_add_one, h]
  simp [mg]
/-- Merge's error -/
def mE (st : List (List En)) : Int := if 16 < st.length then 3 else if st.all (fun l => decide ((chk l).2 = 0)) = true then 0 else 5
/-- a slice of layers that may be read -/
def InS (w : World) (a : Option Addr) (st : List (List En)) : Prop :=
  st = [] ∨ ∃ b off, a = some ⟨b, off, none⟩ ∧ b < w.heap.size ∧ ∀ i l, st[i]? = some l → ∃ a' c', w.cell? ⟨b, off + i, none⟩ = some (.slice a' l.length c') ∧ InE w a' l ∧ Fit l ∧ (l.length ≤ 4611686018427387904 ∧ (a' = none → c' = 0))
theorem InE.keepB {w w' : World} {a : Option Addr} {l : List En} (h : InE w a l) (hb : Below w.heap.size w w') : InE w' a l := by
  rcases h with rfl | ⟨b, off, h1, h2, h3⟩
  · exact .inl rfl
  · exact .inr ⟨b, off, h1, Nat.lt_of_lt_of_le h2 hb.size, fun i x hx => (h3 i x hx).below hb h2⟩
theorem InS.keep {w w' : World} {a : Option Addr} {st : List (List En)} (h : InS w a st) (hb : Below w.heap.size w w') : InS w' a st := by
  rcases h with rfl | ⟨b, off, h1, h2, h3⟩
  · exact .inl rfl
  · refine .inr ⟨b, off, h1, Nat.lt_of_lt_of_le h2 hb.size, fun i l hl => ?_⟩
    obtain ⟨a', c', e1, e2, e3, e4⟩ := h3 i l hl
    exact ⟨a', c', (hb.cell (p := ⟨b, off + i, none⟩) h2).trans e1, e2.keepB hb, e3, e4⟩
/-- what Merge answers -/
def MSaid (st : List (List En)) (w : World) (e : Ending) (w' : World) : Prop :=
  Below w.heap.size w w' ∧ ((mE st ≠ 0 ∧ e = .returned (.tuple #[.slice none 0 0, .int .i64 (mE st)])) ∨ (mE st = 0 ∧ ∃ g c l, e = .returned (.tuple #[.slice (some ⟨g, 0, none⟩) l.length c, .int .i64 0]) ∧ InE w' (some ⟨g, 0, none⟩) l ∧ Lst (mg st) l ∧ w.heap.size ≤ g ∧ l.length ≤ 10240))
theorem mE_big {st : List (List En)} (h : 16 < st.length) : mE st = 3 := by rw [mE, if_pos h]
theorem mE_bad {st : List (List En)} (h : ¬ 16 < st.length) {i : Nat} {l : List En} (hi : st[i]? = some l) (hl : (chk l).2 ≠ 0) : mE st = 5 := by
  rw [mE, if_neg h, if_neg]
  intro ha
  have := List.all_eq_true.1 ha l (List.mem_of_getElem? hi)
  exact hl (by simpa using this)
theorem mE_ok {st : List (List En)} (h : ¬ 16 < st.length) (ha : ∀ (i : Nat) (l : List En), st[i]? = some l → (chk l).2 = 0) : mE st = 0 := by
  rw [mE, if_neg h, if_pos]
  refine List.all_eq_true.2 (fun l hl => ?_)
  obtain ⟨i, hi⟩ := List.getElem?_of_mem hl
  simpa using ha i l hi
theorem mE_zero {st : List (List En)} (h : mE st = 0) : st.length ≤ 16 ∧ ∀ l ∈ st, (chk l).2 = 0 := by
  unfold mE at h
  split at h
  · simp at h
  · rename_i h16
    split at h
    · rename_i ha
      exact ⟨by omega, fun l hl => by simpa using List.all_eq_true.1 ha l hl⟩
    · simp at h
set_option maxRecDepth 100000 in
set_option maxHeartbeats 8000000 in
theorem merge_is (st : List (List En)) (n : Nat) (hn : st.length = n) (a : Option Addr) (c : Nat) (hn62 : n ≤ 4611686018427387904) (w : World) (hs : InS w a st) :
    Calls Tryd.prog 12 #[.slice a n c] w fun e w' => MSaid st w e w' := by
  have HS : Hid (InS w a st) := hs
  have HN : Hid (st.length = n) := hn
  clear hs hn
  by_cases h16 : 16 < n
  · have e1 : (16 : Int) < (n : Int) := by omega
    have HE : Hid (mE st = 3) := mE_big (by rw [HN.out]; exact h16)
    go_enter Tryd.func12, Tryd.ntmps12
    go_wp2_with fail
    go_ret2
    refine ⟨Below.refl _ _, .inl ⟨by rw [HE.out]; decide, by rw [HE.out]; rfl⟩⟩
  · have e1 : ¬ (16 : Int) < (n : Int) := by omega
    have H16 : Hid (¬ 16 < st.length) := by show ¬ _; rw [HN.out]; exact h16
    have hmk : (Instr.makeMap 57 none).run Tryd.prog w = .ok (.map (some w.heap.size)) (w.alloc (.map #[] 0)) := rfl
    go_enter Tryd.func12, Tryd.ntmps12
    go_wp2_with fail
    go_loopg [17] n (fun g i wr => ∃ (j n' : Nat), j ≤ n ∧ g = n - j ∧ i = .int .i64 j ∧ Hid (Sc wr w.heap.size n' (mg (st.take j))) ∧ n' ≤ 640 * j ∧ Hid (GoodT (mg (st.take j))) ∧ Hid (Below w.heap.size w wr) ∧ Hid (∀ (i : Nat) (l : List En), i < j → st[i]? = some l → (chk l).2 = 0))
    case atStart => exact ⟨0, 0, Nat.zero_le _, rfl, rfl, Sc.empty w, Nat.le_refl _, GoodT.none, (Below.refl _ _).alloc (Nat.le_refl _) _, fun i l hi => absurd hi (Nat.not_lt_zero _)⟩
    case round =>
      obtain ⟨j, n', hj, rfl, rfl, SC, hn', GT, BW, CK⟩ := hrel
      by_cases hlt : j < n
      · have j1 : (j : Int) < (n : Int) := by omega
        obtain ⟨l, hl⟩ : ∃ l, st[j]? = some l := ⟨st[j]'(by rw [HN.out]; exact hlt), by simp [HN.out, hlt]⟩
        obtain ⟨b, off, rfl, hbw, a', c', hcell, hinE, hfit, hl62⟩ : ∃ b off, a = some ⟨b, off, none⟩ ∧ b < w.heap.size ∧ ∃ a' c', w.cell? ⟨b, off + j, none⟩ = some (.slice a' l.length c') ∧ InE w a' l ∧ Fit l ∧ (l.length ≤ 4611686018427387904 ∧ (a' = none → c' = 0)) := by
          rcases HS.out with e | ⟨b, off, h1, h2, h3⟩
          · have := HN.out; rw [e] at this; simp at this; omega
          · exact ⟨b, off, h1, h2, h3 j l hl⟩
        have hc : wr.cell? ⟨b, off + j, none⟩ = some (.slice a' l.length c') := (BW.out.cell (p := ⟨b, off + j, none⟩) hbw).trans hcell
        have KC : Hid (Calls Tryd.prog 26 #[.slice a' l.length c'] wr fun e w' => e = .returned (.tuple #[.int .i64 ((chk l).1 : Nat), .int .i64 (chk l).2]) ∧ Below wr.heap.size wr w') := check_is l l.length rfl hl62.1 hfit a' c' wr (hinE.keepB BW.out)
        have HL : Hid (st[j]? = some l) := hl
        have HI : Hid (InE w a' l) := hinE
        have MT : Hid (mg (st.take (j + 1)) = mgT (mg (st.take j)) l) := mg_take st j l hl
        have CI := chk_iff l
        have HCI : Hid ((chk l).2 = 0 ↔ l.length ≤ 64 ∧ (∀ x ∈ l, fo x = 0) ∧ l.Pairwise (fun y x => fb y x = 0)) := CI
        clear CI hl hinE hfit hcell hl62
        have HCk : Hid (∀ z : Int, (chk l).2 = z → z = 0 → (chk l).2 = 0) := fun z h1 h2 => h1.trans h2
        have hszw := BW.out.size
        by_cases hok : (chk l).2 = 0
        · rw [hok] at KC
          generalize (chk l).1 = c1 at *
          obtain ⟨h64, hfo, _⟩ := HCI.out.1 hok
          have HFO : Hid (∀ x ∈ l, fo x = 0) := hfo
          have CK2 : Hid (∀ (i : Nat) (l : List En), i < j + 1 → st[i]? = some l → (chk l).2 = 0) := fun i l2 hi h2 => by
            by_cases hij : i = j
            · subst hij
              rw [HL.out] at h2
              cases h2
              exact hok
            · exact CK.out i l2 (by omega) h2
          clear hok hfo CK HCI HCk
          go_wp2_with fail
          refine KC.out.mono ?_
          rintro e w1 ⟨rfl, hb1⟩
          have BW1 : Hid (Below w.heap.size w w1) := BW.out.trans (hb1.mono hszw)
          have SC1 : Hid (Sc w1 w.heap.size n' (mg (st.take j))) := SC.out.keep hb1
          clear hb1 KC SC BW hc hszw
          generalize mg (st.take j) = T1 at *
          go_wp2_with fail
          obtain ⟨N, hN⟩ : ∃ N, l.length = N := ⟨_, rfl⟩
          rw [hN] at h64 ⊢
          have HLN : Hid (l.length = N) := hN
          clear hN
          go_loopg [30] N (fun g i wr2 => ∃ (i2 n2 : Nat), i2 ≤ N ∧ g = N - i2 ∧ i = .int .i64 i2 ∧ Hid (Sc wr2 w.heap.size n2 (mgT T1 (l.take i2))) ∧ n2 ≤ n' + 10 * i2 ∧ Hid (GoodT (mgT T1 (l.take i2))) ∧ Hid (Below w.heap.size w wr2))
          case atStart => exact ⟨0, n', Nat.zero_le _, rfl, rfl, SC1, Nat.le_refl _, GT, BW1⟩
          case round =>
            clear SC1 GT BW1
            obtain ⟨i2, n2, hi2, rfl, rfl, SC2, hn2, GT2, BW2⟩ := hrel
            have hw2 := BW2.out.size
            by_cases hlt2 : i2 < N
            · have j2 : (i2 : Int) < (N : Int) := by omega
              obtain ⟨x, hx⟩ : ∃ x, l[i2]? = some x := ⟨l[i2]'(by rw [HLN.out]; exact hlt2), by simp [HLN.out, hlt2]⟩
              obtain ⟨b2, off2, rfl, hbw2, hr⟩ : ∃ b off, a' = some ⟨b, off, none⟩ ∧ b < w.heap.size ∧ Ec w b (off + i2 * 4) x := by
                rcases HI.out with e | ⟨b, off, h1, h2, h3⟩
                · have := HLN.out; rw [e] at this; simp at this; omega
                · exact ⟨b, off, h1, h2, h3 i2 x hx⟩
              have hxl : x.p.length ≤ 100000000 := by
                have := isP_short (fo_path (HFO.out x (List.mem_of_getElem? hx))).2
                omega
              have MX : Hid (mgT T1 (l.take (i2 + 1)) = putT (mgT T1 (l.take i2)) x) := mgT_take T1 l i2 x hx
              have GT3 : Hid (GoodT (putT (mgT T1 (l.take i2)) x)) := GT2.out.put x hxl
              obtain ⟨c0, c1, c2, c3⟩ := hr.below BW2.out hbw2
              obtain ⟨w3, hw3⟩ : ∃ w3, w3 = wr.alloc (.cells #[.string (tx x.p), .int .i64 x.k, .int .i64 x.m, .string (tx x.b)] 34) := ⟨_, rfl⟩
              have B3 : Below wr.heap.size wr w3 := by rw [hw3]; exact (Below.refl _ _).alloc (Nat.le_refl _) _
              have W3 : Hid (w3 = wr.alloc (.cells #[.string (tx x.p), .int .i64 x.k, .int .i64 x.m, .string (tx x.b)] 34)) := hw3
              have KP : Hid (Calls Tryd.prog 27 #[.map (some w.heap.size), .agg #[.string (tx x.p), .int .i64 x.k, .int .i64 x.m, .string (tx x.b)]] w3 fun e w' => e = .returned (.tuple #[]) ∧ Sc w' w.heap.size (n2 + 10) (putT (mgT T1 (l.take i2)) x) ∧ w3.grownBy w' (some w.heap.size)) := put_is w3 w.heap.size n2 _ x hxl (SC2.out.keep B3) (by omega)
              have BW3 : Hid (Below w.heap.size w w3) := BW2.out.trans (B3.mono hw2)
              clear hx hr hw3 B3 SC2 GT2
              go_wp2_with fail
              rw [show wr.alloc _ = w3 from W3.out.symm]
              refine KP.out.mono ?_
              rintro e w4 ⟨rfl, hs4, hg4⟩
              have SC4 : Hid (Sc w4 w.heap.size (n2 + 10) (mgT T1 (l.take (i2 + 1)))) := by rw [MX.out]; exact hs4
              have GT4 : Hid (GoodT (mgT T1 (l.take (i2 + 1)))) := by rw [MX.out]; exact GT3.out
              have BW4 : Hid (Below w.heap.size w w4) := BW3.out.grown hg4 BW3.out.size (fun k hk => by cases hk; exact Nat.le_refl _)
              clear hs4 hg4 KP W3 MX GT3
              go_wp2_with fail
              go_roundg (N - (i2 + 1))
              case measure => omega
              case rel => exact ⟨i2 + 1, n2 + 10, by omega, rfl, by go_num, SC4, by omega, GT4, BW4⟩
            · have ei : i2 = N := by omega
              subst ei
              have j2 : ¬ (i2 : Int) < (i2 : Int) := by omega
              have HT : Hid (l.take i2 = l) := by show _ = _; rw [← HLN.out, List.take_length]
              have SC3 : Hid (Sc wr w.heap.size n2 (mg (st.take (j + 1)))) := by rw [MT.out]; have := SC2.out; rw [HT.out] at this; exact this
              have GT3 : Hid (GoodT (mg (st.take (j + 1)))) := by rw [MT.out]; have := GT2.out; rw [HT.out] at this; exact this
              clear SC2 GT2 HT MT
              go_wp2_with fail
              go_roundg (n - (j + 1))
              case measure => omega
              case rel => exact ⟨j + 1, n2, by omega, rfl, by go_num, SC3, by omega, GT3, BW2, CK2⟩
        · have HE : Hid (mE st = 5) := mE_bad H16.out HL.out hok
          have hok2 : ((chk l).2 != 0) = true := by simpa using hok
          generalize (chk l).1 = c1 at *
          generalize (chk l).2 = c2 at *
          have hok3 : (c2 == 0) = false := by simpa using hok
          clear HCI CK
          go_wp2_with fail
          refine KC.out.mono ?_
          rintro e w1 ⟨rfl, hb1⟩
          have BW1 : Hid (Below w.heap.size w w1) := BW.out.trans (hb1.mono hszw)
          clear hb1
          go_wp2_with fail
          go_ret2
          refine ⟨BW1.out, .inl ⟨by rw [HE.out]; decide, by rw [HE.out]; rfl⟩⟩
      · have ej : j = n := by omega
        subst ej
        have j1 : ¬ (j : Int) < (j : Int) := by omega
        have HT : Hid (st.take j = st) := by show _ = _; rw [← HN.out, List.take_length]
        have HE : Hid (mE st = 0) := mE_ok H16.out (fun i l h => CK.out i l (by have := (List.getElem?_eq_some_iff.1 h).1; rw [HN.out] at this; exact this) h)
        have SC3 : Sc wr w.heap.size n' (mg st) := by have := SC.out; rw [HT.out] at this; exact this
        have GT3 : GoodT (mg st) := by have := GT.out; rw [HT.out] at this; exact this
        have KS : Hid (Calls Tryd.prog 28 #[.map (some w.heap.size)] wr fun e w' => ∃ g c l, e = .returned (.slice (some ⟨g, 0, none⟩) l.length c) ∧ InE w' (some ⟨g, 0, none⟩) l ∧ Lst (mg st) l ∧ wr.heap.size ≤ g ∧ l.length ≤ n' ∧ wr.grownBy w' none) := sorted_is wr w.heap.size n' (mg st) SC3 (by omega) (fun q x h => (GT3 q x h).1) (fun q x h => Nat.le_trans (GT3 q x h).2 (by omega))
        clear SC3 GT3 SC GT CK
        have hszw := BW.out.size
        go_wp2_with fail
        refine KS.out.mono ?_
        rintro e w4 ⟨g, c4, l4, rfl, hi4, hl4, hg4, hn4, hgr4⟩
        have P4 : Hid (InE w4 (some ⟨g, 0, none⟩) l4 ∧ Lst (mg st) l4 ∧ Below w.heap.size w w4) := ⟨hi4, hl4, BW.out.trans ((grown_below' hgr4).mono hszw)⟩
        clear hi4 hl4 hgr4 KS
        go_wp2_with fail
        go_ret2
        exact ⟨P4.out.2.2, .inr ⟨HE.out, g, c4, l4, rfl, P4.out.1, P4.out.2.1, by omega, by omega⟩⟩
end Go.Proofs.YtbefmcagpmgkiaaDoor
