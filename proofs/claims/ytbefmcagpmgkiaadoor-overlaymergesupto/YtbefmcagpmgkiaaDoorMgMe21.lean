/- overlay.Diff. -/
import Derived.Test.YtbefmcagpmgkiaaDoorMgMe20
namespace Go.Proofs.YtbefmcagpmgkiaaDoor
open Go.ChangeShapes Go.WideShapes Go.ChangeAt Go.RowKit Go.Deep Go.Maps
set_option linter.unusedVariables false
theorem scT_mem : ∀ (n : Nat) (l : List En), l.length = n → ∀ q x, scT l q = some x → x ∈ l ∧ x.p = q
  | 0, l, hn, q, x, h => by
    have : l = [] := List.length_eq_zero_iff.1 hn
    subst this
    cases h
  | n + 1, l, hn, q, x, h => by
    have hne : l ≠ [] := fun e => by rw [e] at hn; simp at hn
    obtain ⟨m, y, rfl⟩ : ∃ m x, l = m ++ [x] := ⟨l.dropLast, l.getLast hne, (List.dropLast_concat_getLast hne).symm⟩
    rw [scT_snoc] at h
    unfold setE at h
    split at h
    · rename_i e
      cases h
      exact ⟨by simp, e.symm⟩
    · obtain ⟨h1, h2⟩ := scT_mem n m (by simpa using hn) q x h
      exact ⟨by simp [h1], h2⟩
theorem trF_mS : ∀ (l : List En) (T : Tx → Option En) (a : Tx), trF T a l = true → ∀ x ∈ l, mS x = true
  | [], _, _, _, x, hx => by cases hx
  | y :: r, T, a, h, x, hx => by
    unfold trF at h
    simp only [Bool.and_eq_true] at h
    rcases List.mem_cons.1 hx with rfl | h'
    · exact h.1.1.1
    · exact trF_mS r _ _ h.2 x h'
theorem isTr_kind {l : List En} (h : isTr l = true) {q : Tx} {x : En} (hx : scT l q = some x) : x ≠ noE := by
  have := trF_mS l _ _ h x (scT_mem _ l rfl q x hx).1
  rintro rfl
  simp [mS, noE, En.k] at this
/-- what of the second tree is over, those 'left' not met yet -/
def o1 (A B : Tx → Option En) (left : Tx → Bool) (q : Tx) : Option En := if left q = true then none else match B q with
  | some x => if A q = some x then none else some x
  | none => none
/-- .. and what of the first one is gone -/
def o2 (A B : Tx → Option En) (left : Tx → Bool) (q : Tx) : Option En := match B q with
  | some x => if A q = some x then none else some x
  | none => if left q = true then none else if (A q).isSome = true ∧ oA B q = true then some (q, 3, 0, []) else none
theorem o1_start (A B : Tx → Option En) : o1 A B (fun q => (B q).isSome) = fun _ => none := by
  funext q
  unfold o1
  cases h : B q <;> simp [h]
theorem o1_skip {A B : Tx → Option En} {left : Tx → Bool} {p : Tx} {x : En} (hB : B p = some x) (hA : A p = some x) : o1 A B (fun z => left z && !decide (z = p)) = o1 A B left := by
  funext q
  unfold o1
  by_cases e : q = p
  · subst e
    simp [hB, hA]
  · simp [e]
theorem o1_put {A B : Tx → Option En} {left : Tx → Bool} {p : Tx} {x : En} (hB : B p = some x) (hA : A p ≠ some x) : o1 A B (fun z => left z && !decide (z = p)) = fun q => if q = p then some x else o1 A B left q := by
  funext q
  unfold o1
  by_cases e : q = p
  · subst e
    simp [hB, hA]
  · simp [e]
theorem o12 {A B : Tx → Option En} {left : Tx → Bool} (h : ∀ q, left q = false) : o1 A B left = o2 A B (fun q => (A q).isSome) := by
  funext q
  unfold o1 o2
  rw [h q]
  cases hB : B q with
  | some x => simp
  | none => cases hA : A q <;> simp [hA]
theorem o2_end {A B : Tx → Option En} {left : Tx → Bool} (h : ∀ q, left q = false) : o2 A B left = dfT A B := by
  funext q
  unfold o2 dfT
  rw [h q]
  cases hB : B q <;> simp
theorem o2_skip {A B : Tx → Option En} {left : Tx → Bool} {p : Tx} (h : (B p).isSome = true ∨ oA B p = false) : o2 A B (fun z => left z && !decide (z = p)) = o2 A B left := by
  funext q
  unfold o2
  by_cases e : q = p
  · subst e
    cases hB : B q with
    | some x => rfl
    | none =>
      rw [hB] at h
      simp at h
      simp [h]
  · simp [e]
theorem o2_put {A B : Tx → Option En} {left : Tx → Bool} {p : Tx} {z : En} (hB : B p = none) (hA : A p = some z) (ho : oA B p = true) : o2 A B (fun z => left z && !decide (z = p)) = fun q => if q = p then some (p, 3, 0, []) else o2 A B left q := by
  funext q
  unfold o2
  by_cases e : q = p
  · subst e
    simp [hB, hA, ho]
  · simp [e]
theorem df_own (la lb : List En) : AtOwn (dfT (scT la) (scT lb)) := fun q x h => by
  rcases dfT_in h with ⟨h1, _⟩ | ⟨_, rfl, _⟩
  · exact (scT_mem _ lb rfl q x h1).2
  · rfl
theorem df_short {la lb : List En} (ha : Fit la) (hb : Fit lb) (q : Tx) (x : En) (h : dfT (scT la) (scT lb) q = some x) : q.length ≤ 140737488355328 := by
  rcases dfT_in h with ⟨h1, _⟩ | ⟨_, rfl, ⟨z, hz⟩, _⟩
  · obtain ⟨h2, h3⟩ := scT_mem _ lb rfl q x h1
    rw [← h3]
    exact (hb x h2).1
  · obtain ⟨h2, h3⟩ := scT_mem _ la rfl q z hz
    rw [← h3]
    exact (ha z h2).1
set_option maxRecDepth 100000 in
set_option maxHeartbeats 8000000 in
theorem diff_is (la lb : List En) (na nb : Nat) (hna : la.length = na) (hnb : lb.length = nb) (ha9 : na ≤ 1000000) (hb9 : nb ≤ 1000000) (fa : Fit la) (fb : Fit lb) (aa ab : Option Addr) (ca cb : Nat) (w : World) (ia : InE w aa la) (ib : InE w ab lb) :
    Calls Tryd.prog 22 #[.slice aa na ca, .slice ab nb cb] w fun e w' => Below w.heap.size w w' ∧ ((isTr la && isTr lb) = false ∧ e = .returned (.tuple #[.slice none 0 0, .int .i64 5]) ∨ (isTr la && isTr lb) = true ∧ ∃ l, Lst (dfT (scT la) (scT lb)) l ∧ (64 < l.length ∧ e = .returned (.tuple #[.slice none 0 0, .int .i64 3]) ∨ l.length ≤ 64 ∧ ∃ g c, e = .returned (.tuple #[.slice (some ⟨g, 0, none⟩) l.length c, .int .i64 0]) ∧ InE w' (some ⟨g, 0, none⟩) l)) := by
  have KA : Hid (Calls Tryd.prog 38 #[.slice aa na ca] w fun e w' => Below w.heap.size w w' ∧ ((isTr la = true ∧ ∃ b, e = .returned (.tuple #[.map (some b), .bool true]) ∧ Sc w' b na (scT la) ∧ w.heap.size ≤ b) ∨ (isTr la = false ∧ e = .returned (.tuple #[.map none, .bool false])))) := sceneOf_is la na hna (by omega) fa aa ca w ia
  have KB : Hid (∀ W, Below w.heap.size w W → Calls Tryd.prog 38 #[.slice ab nb cb] W fun e w' => Below W.heap.size W w' ∧ ((isTr lb = true ∧ ∃ b, e = .returned (.tuple #[.map (some b), .bool true]) ∧ Sc w' b nb (scT lb) ∧ W.heap.size ≤ b) ∨ (isTr lb = false ∧ e = .returned (.tuple #[.map none, .bool false])))) := fun W hb => sceneOf_is lb nb hnb (by omega) fb ab cb W (ib.keep hb)
  have HKB : Hid (isTr lb = true → ∀ q x, scT lb q = some x → x ≠ noE) := fun h q x hx => isTr_kind h hx
  have SA : Hid (∀ q x, scT la q = some x → q.length ≤ 140737488355328) := fun q x hx => by
    obtain ⟨h2, h3⟩ := scT_mem _ la rfl q x hx
    rw [← h3]
    exact (fa x h2).1
  have SB : Hid (∀ q x, scT lb q = some x → q.length ≤ 140737488355328) := fun q x hx => by
    obtain ⟨h2, h3⟩ := scT_mem _ lb rfl q x hx
    rw [← h3]
    exact (fb x h2).1
  have DO : Hid (AtOwn (dfT (scT la) (scT lb))) := df_own la lb
  have DS : Hid (∀ q x, dfT (scT la) (scT lb) q = some x → q.length ≤ 140737488355328) := df_short fa fb
  generalize scT la = A at *
  generalize scT lb = B at *
  generalize isTr la = ta at *
  generalize isTr lb = tb at *
  clear ia ib fa fb hna hnb
  go_enter Tryd.func22, Tryd.ntmps22
  go_wp2_with fail
  refine KA.out.mono ?_
  rintro e w1 ⟨hb1, hA⟩
  have B1 : Hid (Below w.heap.size w w1) := hb1
  rcases hA with ⟨rfl, bA, rfl, hsA, hgA⟩ | ⟨rfl, rfl⟩
  · have S1 : Hid (Sc w1 bA na A) := hsA
    clear hb1 KA hsA
    go_wp2_with fail
    refine (KB.out w1 B1.out).mono ?_
    rintro e w2 ⟨hb2, hB⟩
    have B2 : Hid (Below w.heap.size w w2) := B1.out.trans (hb2.mono B1.out.size)
    rcases hB with ⟨rfl, bB, rfl, hsB, hgB⟩ | ⟨rfl, rfl⟩
    · have S2 : Hid (Sc w2 bB nb B) := hsB
      have S2A : Hid (Sc w2 bA na A) := S1.out.keep hb2
      have hAB : bA < bB := Nat.lt_of_lt_of_le S1.out.lt hgB
      have hB2 : bB < w2.heap.size := hsB.lt
      have KN : Hid (∀ q x, B q = some x → x ≠ noE) := HKB.out rfl
      have hmk : (Instr.makeMap 57 none).run Tryd.prog w2 = .ok (.map (some w2.heap.size)) (w2.alloc (.map #[] 0)) := rfl
      obtain ⟨w3, hw3⟩ : ∃ w3, w3 = w2.alloc (.map #[] 0) := ⟨_, rfl⟩
      rw [← hw3] at hmk
      obtain ⟨bO, hbO⟩ : ∃ bO, bO = w2.heap.size := ⟨_, rfl⟩
      rw [← hbO] at hmk
      have b3 : Below w2.heap.size w2 w3 := by rw [hw3]; exact (Below.refl _ _).alloc (Nat.le_refl _) _
      have S3 : Hid (Sc w3 bB nb B) := S2.out.keep b3
      have S3A : Hid (Sc w3 bA na A) := S2A.out.keep b3
      have S3O : Hid (Sc w3 bO 0 (fun _ => none)) := by rw [hbO, hw3]; exact Sc.empty w2
      have B3 : Hid (Below w.heap.size w w3) := B2.out.trans (b3.mono B2.out.size)
      have hB3 : bB < bO := by rw [hbO]; exact hB2
      have hwA : w.heap.size ≤ bA := hgA
      clear hb2 hsB b3 hw3 hbO S1 S2 S2A KB HKB B1 B2 hB2 hgB hgA
      go_wp2_with (first | (at_range; refine wpList_range_sc rfl (.tmp 33) rfl bB nb B rfl S3.out ?_; intro w4 cnt0 hrg0 hg0 hs0; have R4 : Hid (Rg w4 bB w3.heap.size nb B (fun p => (B p).isSome) cnt0) := hrg0; have G4 : Hid (w3.grownBy w4 none) := hg0; clear hrg0 hg0))
      have hr3 : bO < w3.heap.size := S3O.out.lt
      obtain ⟨r, hr⟩ : ∃ r, r = w3.heap.size := ⟨_, rfl⟩
      rw [← hr] at R4 hr3 ⊢
      have S4A : Hid (Sc w4 bA na A) := S3A.out.kept G4.out (by simp)
      have S4O : Hid (Sc w4 bO 0 (o1 A B (fun q => (B q).isSome))) := by rw [o1_start]; exact S3O.out.kept G4.out (by simp)
      have B4 : Hid (Below w.heap.size w w4) := B3.out.grown G4.out B3.out.size (fun k hk => by cases hk)
      have hc0 : cnt0 ≤ nb := R4.out.cnt_le
      clear S3 S3A S3O G4 B3 hr hmk
      go_frame
      go_loopw [11] (fun _ wr => ∃ (left : Tx → Bool) (cnt k : Nat), Hid (Rg wr bB r nb B left cnt) ∧ Hid (Sc wr bO k (o1 A B left)) ∧ k + cnt ≤ nb ∧ Hid (Sc wr bA na A) ∧ Hid (Below w.heap.size w wr))
        (fun _ wr => wr.rangeLeft bB r)
      case atStart => exact ⟨_, cnt0, 0, R4, S4O, by omega, S4A, B4⟩
      case round =>
        clear R4 S4O S4A B4
        obtain ⟨left, cnt, k, RG, SO, hkc, SAA, BW⟩ := hrel
        have hszw := BW.out.size
        have hrB : r ≠ bB := RG.out.ne
        have hbr : bO ≠ r := by omega
        go_wp2_with (first | (at_next; refine wpList_next_sc rfl (.tmp 34) rfl bB r nb B left cnt rfl RG.out ?_ ?_))
        · intro _ hl0
          have SO2 : Hid (Sc wr bO k (o2 A B (fun q => (A q).isSome))) := by rw [← o12 hl0]; exact SO.out
          have SBB : Hid (Sc wr bB nb B) := RG.out.sc
          clear hl0 SO RG
          go_wp2_with (first | (at_range; refine wpList_range_sc rfl (.tmp 48) rfl bA na A rfl SAA.out ?_; intro w5 cnt5 hrg5 hg5 hs5; have R5 : Hid (Rg w5 bA wr.heap.size na A (fun p => (A p).isSome) cnt5) := hrg5; have G5 : Hid (wr.grownBy w5 none) := hg5; clear hrg5 hg5))
          obtain ⟨r2, hr2⟩ : ∃ r2, r2 = wr.heap.size := ⟨_, rfl⟩
          rw [← hr2] at R5 ⊢
          have hO2 : bO < r2 := by rw [hr2]; exact SO2.out.lt
          have S5B : Hid (Sc w5 bB nb B) := SBB.out.kept G5.out (by simp)
          have S5O : Hid (Sc w5 bO k (o2 A B (fun q => (A q).isSome))) := SO2.out.kept G5.out (by simp)
          have B5 : Hid (Below w.heap.size w w5) := BW.out.grown G5.out hszw (fun k hk => by cases hk)
          have hc5 : cnt5 ≤ na := R5.out.cnt_le
          have hw2 : w.heap.size ≤ r2 := by rw [hr2]; exact hszw
          clear SO2 SBB G5 BW SAA hr2 hszw
          go_frame
          go_loopw [13] (fun _ wr => ∃ (left : Tx → Bool) (cnt k2 : Nat), Hid (Rg wr bA r2 na A left cnt) ∧ Hid (Sc wr bO k2 (o2 A B left)) ∧ k2 + cnt ≤ na + nb ∧ Hid (Sc wr bB nb B) ∧ Hid (Below w.heap.size w wr))
            (fun _ wr => wr.rangeLeft bA r2)
          case atStart => exact ⟨_, cnt5, k, R5, S5O, by omega, S5B, B5⟩
          case round =>
            clear R5 S5O S5B B5
            obtain ⟨left, cnt, k2, RG, SO, hkc2, SBB, BW⟩ := hrel
            have hszw := BW.out.size
            go_wp2_with (first | (at_next; refine wpList_next_sc rfl (.tmp 49) rfl bA r2 na A left cnt rfl RG.out ?_ ?_))
            · intro _ hl0
              have SO2 : Hid (Sc wr bO k2 (dfT A B)) := by rw [← o2_end hl0]; exact SO.out
              clear hl0 SO RG
              obtain ⟨D, lx, hD1, hD2, hlx, hsz⟩ := sc_exact SO2.out DO.out
              have HD : Hid (wr.ownsMap Tryd.prog 9 eR bO lx.length D) := hD1
              have LX : Hid (Lst (dfT A B) lx) := hlx
              have SX : Hid (Sc wr bO lx.length (dfT A B)) := ⟨D, hD1, hD2⟩
              have HZ : Hid (Maps.size D = lx.length) := hsz
              clear hD1 hD2 hlx hsz
              by_cases h64 : 64 < lx.length
              · have e64 : (64 : Int) < (lx.length : Int) := by omega
                go_wp2_with (first | (at_len; (refine wpList_len_own wr rfl (.tmp 71) 57 rfl 9 34 Tryd.underlying57 eR bO _ D rfl HD.out ?_; rw [HZ.out])))
                go_ret2
                exact ⟨BW.out, .inr ⟨rfl, lx, LX.out, .inl ⟨h64, rfl⟩⟩⟩
              · have e64 : ¬ (64 : Int) < (lx.length : Int) := by omega
                have KS : Hid (Calls Tryd.prog 28 #[.map (some bO)] wr fun e w' => ∃ g c l, e = .returned (.slice (some ⟨g, 0, none⟩) l.length c) ∧ InE w' (some ⟨g, 0, none⟩) l ∧ Lst (dfT A B) l ∧ wr.heap.size ≤ g ∧ l.length ≤ lx.length ∧ wr.grownBy w' none) := sorted_is wr bO lx.length (dfT A B) SX.out (by omega) DO.out DS.out
                go_wp2_with (first | (at_len; (refine wpList_len_own wr rfl (.tmp 71) 57 rfl 9 34 Tryd.underlying57 eR bO _ D rfl HD.out ?_; rw [HZ.out])))
                refine KS.out.mono ?_
                rintro e w9 ⟨g9, c9, l9, rfl, hi9, hl9, hg9, hn9, hgr9⟩
                have B9 : Hid (Below w.heap.size w w9) := BW.out.trans ((grown_below' hgr9).mono hszw)
                have I9 : Hid (InE w9 (some ⟨g9, 0, none⟩) l9) := hi9
                have L9 : Hid (Lst (dfT A B) l9) := hl9
                clear hi9 hl9 hgr9 KS
                go_wp2_with fail
                go_ret2
                exact ⟨B9.out, .inr ⟨rfl, l9, L9.out, .inr ⟨by omega, g9, c9, rfl, I9.out⟩⟩⟩
            · intro q yp yk ym yb w6 cnt1 hql hlq hTq hrg1 hlt hg1 hs1 hen
              unfold ag at hen
              simp only [En.p, En.k, En.m, En.b] at hen
              have R6 : Hid (Rg w6 bA r2 na A (fun z => left z && !decide (z = q)) cnt1) := hrg1
              have B6 : Hid (Below w.heap.size w w6) := BW.out.grown hg1 hszw (fun k hk => by cases hk; omega)
              have SO6 : Hid (Sc w6 bO k2 (o2 A B left)) := SO.out.kept hg1 (by simp; omega)
              have SB6 : Hid (Sc w6 bB nb B) := SBB.out.kept hg1 (by simp; omega)
              have hql2 : q.length ≤ 140737488355328 := SA.out q _ hTq
              have HA : Hid (A q = some (yp, yk, ym, yb)) := hTq
              have hlook := SB6.out.look2 q hql2
              clear hrg1 hg1 hs1 hTq SO SBB
              cases hBq : B q with
              | some x =>
                have HE : Hid (o2 A B (fun z => left z && !decide (z = q)) = o2 A B left) := o2_skip (.inl (by rw [hBq]; rfl))
                rw [hBq] at hlook
                obtain ⟨xp, xk, xm, xb⟩ := x
                simp only [Option.getD_some, ag, En.p, En.k, En.m, En.b, Option.isSome_some] at hlook
                have b7 : Below w6.heap.size w6 (w6.alloc (.cells #[.string (tx xp), .int .i64 xk, .int .i64 xm, .string (tx xb)] 34)) := (Below.refl _ _).alloc (Nat.le_refl _) _
                have R7 : Hid (Rg (w6.alloc (.cells #[.string (tx xp), .int .i64 xk, .int .i64 xm, .string (tx xb)] 34)) bA r2 na A (fun z => left z && !decide (z = q)) cnt1) := R6.out.keep b7
                have SO7 : Hid (Sc (w6.alloc (.cells #[.string (tx xp), .int .i64 xk, .int .i64 xm, .string (tx xb)] 34)) bO k2 (o2 A B left)) := SO6.out.keep b7
                have SB7 : Hid (Sc (w6.alloc (.cells #[.string (tx xp), .int .i64 xk, .int .i64 xm, .string (tx xb)] 34)) bB nb B) := SB6.out.keep b7
                have B7 : Hid (Below w.heap.size w (w6.alloc (.cells #[.string (tx xp), .int .i64 xk, .int .i64 xm, .string (tx xb)] 34))) := B6.out.trans (b7.mono B6.out.size)
                clear b7 R6 SO6 SB6 B6
                go_wp2_with fail
                go_roundw
                case rel => exact ⟨_, cnt1, k2, R7, by rw [HE.out]; exact SO7, by omega, SB7, B7⟩
                case measure => rw [R7.out.left_eq, RG.out.left_eq]; exact hlt
              | none =>
                rw [hBq] at hlook
                simp only [Option.getD_none, noE, ag, En.p, En.k, En.m, En.b, Option.isSome_none] at hlook
                obtain ⟨w7, hw7⟩ : ∃ w7, w7 = w6.alloc (.cells #[.string (tx []), .int .i64 0, .int .i64 0, .string (tx [])] 34) := ⟨_, rfl⟩
                have W7 : Hid (w7 = w6.alloc (.cells #[.string (tx []), .int .i64 0, .int .i64 0, .string (tx [])] 34)) := hw7
                have b7 : Below w6.heap.size w6 w7 := by rw [hw7]; exact (Below.refl _ _).alloc (Nat.le_refl _) _
                have R7 : Hid (Rg w7 bA r2 na A (fun z => left z && !decide (z = q)) cnt1) := R6.out.keep b7
                have SO7 : Hid (Sc w7 bO k2 (o2 A B left)) := SO6.out.keep b7
                have SB7 : Hid (Sc w7 bB nb B) := SB6.out.keep b7
                have B7 : Hid (Below w.heap.size w w7) := B6.out.trans (b7.mono B6.out.size)
                have KO : Hid (Calls Tryd.prog 40 #[.map (some bB), .string (tx q)] w7 fun e w' => e = .returned (.bool (oA B q)) ∧ Below w7.heap.size w7 w') := isOpenAbove_is w7 bB nb B q (by omega) SB7.out
                clear b7 R6 SO6 SB6 B6 hw7
                go_wp2_with fail
                rw [show w6.alloc _ = w7 from W7.out.symm]
                refine KO.out.mono ?_
                rintro e w8 ⟨rfl, hb8⟩
                have R8 : Hid (Rg w8 bA r2 na A (fun z => left z && !decide (z = q)) cnt1) := R7.out.keep hb8
                have SO8 : Hid (Sc w8 bO k2 (o2 A B left)) := SO7.out.keep hb8
                have SB8 : Hid (Sc w8 bB nb B) := SB7.out.keep hb8
                have B8 : Hid (Below w.heap.size w w8) := B7.out.trans (hb8.mono B7.out.size)
                clear hb8 KO R7 SO7 SB7 B7 W7
                cases hoa : oA B q with
                | false =>
                  have HE : Hid (o2 A B (fun z => left z && !decide (z = q)) = o2 A B left) := o2_skip (.inr hoa)
                  go_wp2_with fail
                  go_roundw
                  case rel => exact ⟨_, cnt1, k2, R8, by rw [HE.out]; exact SO8, by omega, SB8, B8⟩
                  case measure => rw [R8.out.left_eq, RG.out.left_eq]; exact hlt
                | true =>
                  have HE : Hid (o2 A B (fun z => left z && !decide (z = q)) = fun z => if z = q then some (q, 3, 0, []) else o2 A B left z) := o2_put hBq HA.out hoa
                  go_wp2_with (first | (at_mapUpdate; (refine wpList_put_sc rfl (.tmp 67) (.tmp 68) (.tmp 70) rfl bO k2 _ rfl SO8.out (by omega) q hql2 (q, 3, 0, []) rfl rfl ?_; intro w9 hs9 hg9; have S9 : Hid (Sc w9 bO (k2 + 1) (fun z => if z = q then some (q, 3, 0, []) else o2 A B left z)) := hs9; have G9 : Hid (w8.grownBy w9 (some bO)) := hg9; clear hs9 hg9)))
                  have R9 : Rg w9 bA r2 na A (fun z => left z && !decide (z = q)) cnt1 := R8.out.kept G9.out (by simp; omega) (by simp; omega)
                  have SB9 : Sc w9 bB nb B := SB8.out.kept G9.out (by simp; omega)
                  have B9 : Below w.heap.size w w9 := B8.out.grown G9.out B8.out.size (fun k hk => by cases hk; omega)
                  go_frame
                  go_roundw
                  case rel => exact ⟨_, cnt1, k2 + 1, R9, by rw [HE.out]; exact S9, by omega, SB9, B9⟩
                  case measure => rw [R9.left_eq, RG.out.left_eq]; exact hlt
        · intro q yp yk ym yb w5 cnt1 hql hlq hTq hrg1 hlt hg1 hs1 hen
          unfold ag at hen
          simp only [En.p, En.k, En.m, En.b] at hen
          have R5 : Hid (Rg w5 bB r nb B (fun z => left z && !decide (z = q)) cnt1) := hrg1
          have B5 : Hid (Below w.heap.size w w5) := BW.out.grown hg1 hszw (fun k hk => by cases hk; omega)
          have SO5 : Hid (Sc w5 bO k (o1 A B left)) := SO.out.kept hg1 (by simp; omega)
          have SA5 : Hid (Sc w5 bA na A) := SAA.out.kept hg1 (by simp; omega)
          have hql2 : q.length ≤ 140737488355328 := SB.out q _ hTq
          have hnn := KN.out q _ hTq
          have HB : Hid (B q = some (yp, yk, ym, yb)) := hTq
          obtain ⟨w6, hw6⟩ : ∃ w6, w6 = w5.alloc (.cells #[.string (tx yp), .int .i64 yk, .int .i64 ym, .string (tx yb)] 34) := ⟨_, rfl⟩
          have b6 : Below w5.heap.size w5 w6 := by rw [hw6]; exact (Below.refl _ _).alloc (Nat.le_refl _) _
          have W6 : Hid (w6 = w5.alloc (.cells #[.string (tx yp), .int .i64 yk, .int .i64 ym, .string (tx yb)] 34)) := hw6
          have R6 : Hid (Rg w6 bB r nb B (fun z => left z && !decide (z = q)) cnt1) := R5.out.keep b6
          have SO6 : Hid (Sc w6 bO k (o1 A B left)) := SO5.out.keep b6
          have SA6 : Hid (Sc w6 bA na A) := SA5.out.keep b6
          have B6 : Hid (Below w.heap.size w w6) := B5.out.trans (b6.mono B5.out.size)
          have hlook := SA6.out.look q hql2
          rw [hw6] at hlook
          by_cases hAq : A q = some (yp, yk, ym, yb)
          · have HE : Hid (o1 A B (fun z => left z && !decide (z = q)) = o1 A B left) := o1_skip HB.out hAq
            rw [hAq] at hlook
            simp only [Option.getD_some, ag, En.p, En.k, En.m, En.b] at hlook
            have hneq : ∀ W : World, (binOp .neq 34 (.agg #[.string (tx yp), .int .i64 yk, .int .i64 ym, .string (tx yb)]) (.agg #[.string (tx yp), .int .i64 yk, .int .i64 ym, .string (tx yb)])).run Tryd.prog W = .ok (.bool false) W := fun W => by
              have := neq_entry (yp, yk, ym, yb) (yp, yk, ym, yb) W
              rw [decide_eq_true rfl] at this
              exact this
            clear hrg1 hg1 hs1 hw6 b6 R5 SO5 SA5 B5 hTq hnn
            go_wp2_with fail
            rw [show w5.alloc _ = w6 from W6.out.symm]
            go_roundw
            case rel => exact ⟨_, cnt1, k, R6, by rw [HE.out]; exact SO6, by omega, SA6, B6⟩
            case measure => rw [R6.out.left_eq, RG.out.left_eq]; exact hlt
          · have HE : Hid (o1 A B (fun z => left z && !decide (z = q)) = fun z => if z = q then some (yp, yk, ym, yb) else o1 A B left z) := o1_put HB.out hAq
            have hne2 : ¬ (A q).getD noE = (yp, yk, ym, yb) := by
              cases hh : A q with
              | none => simp; exact fun e => hnn e.symm
              | some z => simp; exact fun e => hAq (by rw [hh, e])
            generalize (A q).getD noE = z at *
            obtain ⟨zp, zk, zm, zb⟩ := z
            simp only [ag, En.p, En.k, En.m, En.b] at hlook
            have hneq : ∀ W : World, (binOp .neq 34 (.agg #[.string (tx zp), .int .i64 zk, .int .i64 zm, .string (tx zb)]) (.agg #[.string (tx yp), .int .i64 yk, .int .i64 ym, .string (tx yb)])).run Tryd.prog W = .ok (.bool true) W := fun W => by
              have := neq_entry (zp, zk, zm, zb) (yp, yk, ym, yb) W
              rw [decide_eq_false hne2] at this
              exact this
            clear hrg1 hg1 hs1 hw6 b6 R5 SO5 SA5 B5 hTq hnn hne2
            go_wp2_with (first | (at_mapUpdate; (rw [show w5.alloc _ = w6 from W6.out.symm]; refine wpList_put_sc rfl (.tmp 45) (.tmp 46) (.tmp 47) rfl bO k _ rfl SO6.out (by omega) q hql2 (yp, yk, ym, yb) rfl rfl ?_; intro w7 hs7 hg7; have S7 : Hid (Sc w7 bO (k + 1) (fun z => if z = q then some (yp, yk, ym, yb) else o1 A B left z)) := hs7; have G7 : Hid (w6.grownBy w7 (some bO)) := hg7; clear hs7 hg7)))
            have R7 : Rg w7 bB r nb B (fun z => left z && !decide (z = q)) cnt1 := R6.out.kept G7.out (by simp; omega) (by simp; omega)
            have SA7 : Sc w7 bA na A := SA6.out.kept G7.out (by simp; omega)
            have B7 : Below w.heap.size w w7 := B6.out.grown G7.out B6.out.size (fun k hk => by cases hk; omega)
            go_frame
            go_roundw
            case rel => exact ⟨_, cnt1, k + 1, R7, by rw [HE.out]; exact S7, by omega, SA7, B7⟩
            case measure => rw [R7.left_eq, RG.out.left_eq]; exact hlt
    · clear hb2 KB S1
      go_wp2_with fail
      go_ret2
      exact ⟨B2.out, .inl ⟨by simp, rfl⟩⟩
  · clear hb1 KA
    go_wp2_with fail
    refine (KB.out w1 B1.out).mono ?_
    rintro e w2 ⟨hb2, hB⟩
    have B2 : Hid (Below w.heap.size w w2) := B1.out.trans (hb2.mono B1.out.size)
    rcases hB with ⟨rfl, bB, rfl, hsB, hgB⟩ | ⟨rfl, rfl⟩
    · clear hb2 KB hsB
      go_wp2_with fail
      go_ret2
      exact ⟨B2.out, .inl ⟨by simp, rfl⟩⟩
    · clear hb2 KB
      go_wp2_with fail
      go_ret2
      exact ⟨B2.out, .inl ⟨by simp, rfl⟩⟩
end Go.Proofs.YtbefmcagpmgkiaaDoor
