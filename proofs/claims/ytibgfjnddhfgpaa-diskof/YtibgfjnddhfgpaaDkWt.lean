/- Waiting. -/
import Derived.Test.YtibgfjnddhfgpaaDkF
import Derived.Test.YtibgfjnddhfgpaaDkSt
namespace Go.Proofs.Ytibgfjnddhfgpaa
open Go.ChangeShapes Go.WideShapes Go.ChangeAt Go.RowKit Go.Deep Go.Maps
set_option linter.unusedVariables false
theorem Rg.cnt_le {w : World} {b r n cnt : Nat} {T : Int → Option Hd} {left : Int → Bool} (h : Rg w b r n T left cnt) : cnt ≤ n := by
  obtain ⟨D, l, ⟨es, clock, since, seen, c0, hb, F, hs, hD, hr, hborn, hcnt, _⟩, h2, h3⟩ := h
  have : (leftOf es seen).size ≤ es.size := by
    unfold leftOf
    exact Array.size_filter_le
  omega
theorem Rg.apart {w : World} {b r n cnt base : Nat} {T : Int → Option Hd} {left : Int → Bool} {v : Value} {l : List Wt} (h : Rg w b r n T left cnt) (ho : OwnW w base v l) : some b ≠ v.ownBlock ∧ some r ≠ v.ownBlock := by
  obtain ⟨D, lf, ⟨es, clock, since, seen, c0, hb, F, hs, hD, hr, _⟩, h2, h3⟩ := h
  rcases ho.2 with ⟨rfl, _⟩ | ⟨g, cap, cur, rfl, hbg, hg, rest⟩
  · exact ⟨by simp [Value.ownBlock], by simp [Value.ownBlock]⟩
  · refine ⟨fun e => ?_, fun e => ?_⟩
    · have : b = g := by simpa [Value.ownBlock] using e
      subst this
      rw [hb] at hg
      simp at hg
    · have : r = g := by simpa [Value.ownBlock] using e
      subst this
      rw [hr] at hg
      simp at hg
section
variable {ops : Array Oper} {rest : List Oper} {o : Oper} {a : Act} {Q : Exit → Act → World → Prop}
/-- 'len(m)' -/
theorem wpList_len_sc {w : World} (hg : o.guard = none) (m : Operand) (hop : o.op = Op.call { callee := Callee.builtin Builtin.len, args := #[m], argTypes := #[70] }) (b n : Nat) (T : Int → Option Hd) (hm : a.eval m = .map (some b)) (hs : Sc w b n T)
    (hK : ∀ N : Nat, N ≤ n → wpList Try.prog ops Q rest (a.put o.dst (.int .i64 (N : Int))) w) : wpList Try.prog ops Q (o :: rest) a w := by
  obtain ⟨D, h1, h2⟩ := hs
  have hle : Maps.size D ≤ n := by
    obtain ⟨es, clock, hb, F, hn, rfl⟩ := h1
    simpa [Maps.size, length_sorted] using hn
  exact wpList_len_own w hg m 70 hop 3 66 Try.underlying70 hR b n D hm h1 (hK _ hle)
end
/-- the keys so far -/
structure Got (T : Int → Option Hd) (left : Int → Bool) (ks : List Int) : Prop where
  nodup : ks.Nodup
  there : ∀ q ∈ ks, (T q).isSome = true
  rest : ∀ q, left q = ((T q).isSome && !decide (q ∈ ks))
theorem Got.nil (T : Int → Option Hd) : Got T (fun q => (T q).isSome) [] := ⟨List.nodup_nil, by simp, fun q => by simp⟩
theorem Got.more {T : Int → Option Hd} {left : Int → Bool} {ks : List Int} (h : Got T left ks) {q : Int} {x : Hd} (hl : left q = true) (hT : T q = some x) : Got T (fun z => left z && !decide (z = q)) (ks ++ [q]) := by
  refine ⟨?_, ?_, fun z => ?_⟩
  · rw [List.nodup_append]
    refine ⟨h.nodup, by simp, ?_⟩
    intro a ha b hb
    simp at hb
    subst hb
    rintro rfl
    have := h.rest a
    rw [hl] at this
    simp [ha] at this
  · intro z hz
    rcases List.mem_append.1 hz with h1 | h1
    · exact h.there z h1
    · rw [List.mem_singleton.1 h1, hT]; rfl
  · rw [h.rest z]
    cases (T z).isSome <;> by_cases h1 : z ∈ ks <;> by_cases h2 : z = q <;> simp [h1, h2]
theorem Got.mem {T : Int → Option Hd} {left : Int → Bool} {ks : List Int} (h : Got T left ks) (hl : ∀ q, left q = false) (q : Int) : q ∈ ks ↔ (T q).isSome = true := by
  refine ⟨h.there q, fun hq => ?_⟩
  have := h.rest q
  rw [hl q, hq] at this
  simpa using this
theorem pw_mono {α : Type} {R S : α → α → Prop} : ∀ {l : List α}, (∀ a b, R a b → S a b) → l.Pairwise R → l.Pairwise S
  | [], _, _ => List.Pairwise.nil
  | x :: r, h, hp => by
    rw [List.pairwise_cons] at hp ⊢
    exact ⟨fun y hy => h x y (hp.1 y hy), pw_mono h hp.2⟩
def wtOf (W : Int → List (List Int)) (q : Int) : Wt := (q, ((W q).length : Int))
theorem wa_of {W : Int → List (List Int)} {T : Int → Option Hd} {left : Int → Bool} {ks : List Int} {l' : List Wt} (n : Nat) (h : Got T left ks) (hl : ∀ q, left q = false) (hT : ∀ q, T q = none ↔ W q = []) (hW : ∀ q, W q ≠ [] → 0 ≤ q ∧ q < n) (hp : l'.Perm (ks.map (wtOf W))) (hs : l'.Pairwise (fun x y => x.1 ≤ y.1)) : l' = wa n W := by
  have hk : (l'.map (·.1)).Perm ks := by
    have := hp.map (·.1)
    rw [List.map_map] at this
    have e : ((fun x : Wt => x.1) ∘ wtOf W) = id := rfl
    rw [e, List.map_id] at this
    exact this
  have hnd : (l'.map (·.1)).Nodup := hk.nodup_iff.2 h.nodup
  have hrise : (l'.map (·.1)).Pairwise (· < ·) := by
    rw [List.pairwise_map]
    rw [List.Nodup, List.pairwise_map] at hnd
    exact pw_mono (fun a b (h : a.1 ≤ b.1 ∧ a.1 ≠ b.1) => by have h1 := h.1; have h2 := h.2; omega) (hs.and hnd)
  have hm : ∀ x, x ∈ l'.map (·.1) ↔ x ∈ (wb n W).map (fun (i : Nat) => (i : Int)) := by
    intro x
    rw [hk.mem_iff, h.mem hl, List.mem_map]
    constructor
    · intro hx
      have hne : W x ≠ [] := fun e => by rw [(hT x).2 e] at hx; cases hx
      obtain ⟨h0, h1⟩ := hW x hne
      obtain ⟨i, rfl⟩ := Int.eq_ofNat_of_zero_le h0
      exact ⟨i, mem_wb.2 ⟨by omega, hne⟩, rfl⟩
    · rintro ⟨i, hi, rfl⟩
      have := (mem_wb.1 hi).2
      cases hTi : T (i : Int) with
      | none => exact absurd ((hT _).1 hTi) this
      | some x => rfl
  have e1 : l'.map (·.1) = (wb n W).map (fun (i : Nat) => (i : Int)) := rise_uniq hrise (by
    rw [List.pairwise_map]
    exact pw_mono (fun (a b : Nat) (h : a < b) => by omega) (wb_rise n W)) hm
  have e2 : ∀ x ∈ l', x = wtOf W x.1 := by
    intro x hx
    obtain ⟨q, _, rfl⟩ := List.mem_map.1 (hp.mem_iff.1 hx)
    rfl
  have e3 : l' = (l'.map (·.1)).map (wtOf W) := by
    rw [List.map_map]
    conv => lhs; rw [← List.map_id l']
    exact List.map_congr_left fun x hx => e2 x hx
  rw [e3, e1, List.map_map]
  rfl
theorem below1 (w : World) (c : Obj) : Below w.heap.size w (w.alloc c) := (Below.refl _ _).alloc (Nat.le_refl _) _
theorem grown_andBelow {w w1 w2 : World} {row : Option Nat} (h : w.grownBy w1 row) (hb : Below w1.heap.size w1 w2) : w.grownBy w2 row :=
  ⟨hb.os.trans h.os, hb.tape.trans h.tape, hb.output.trans h.output, Nat.le_trans h.size hb.size, fun k hk hne => (hb.block k (Nat.lt_of_lt_of_le hk h.size)).trans (h.block k hk hne)⟩
set_option maxRecDepth 100000 in
set_option maxHeartbeats 4000000 in
theorem waiting_is (w : World) (h b N : Nat) (D : List (List Int)) (W : Int → List (List Int)) (up : Bool) (done fuse : Int) (gd cd mb : Nat) (T : Int → Option Hd) (hn : 1 ≤ D.length) (H : DkP w h b N D W up done fuse gd cd mb T) (hN : N ≤ 1000000000) (hWd : ∀ i, W i ≠ [] → 0 ≤ i ∧ i < D.length) :
    Calls Try.prog 23 #[.pointer (some ⟨b, 0, none⟩)] w fun e w' => ∃ g c, e = .returned (.slice (some ⟨g, 0, none⟩) (wa D.length W).length c) ∧ InW w' (some ⟨g, 0, none⟩) (wa D.length W) ∧ w.heap.size ≤ g ∧ w.grownBy w' none := by
  obtain ⟨q0, q1, q2, q3, q4⟩ := d5_of H.cell
  have K : Hid (Calls Try.prog 31 #[.pointer (some ⟨b, 0, none⟩)] w fun e w' => e = .returned (.bool false) ∧ w' = w) := isNone_not w b gd D.length cd mb up done fuse hn (d5_of H.cell)
  have HP : Hid (DkP w h b N D W up done fuse gd cd mb T) := H
  have HWD : Hid (∀ i, W i ≠ [] → 0 ≤ i ∧ i < D.length) := hWd
  clear H hWd
  go_enter Try.func23, Try.ntmps23
  go_wp2_with fail
  refine K.out.mono ?_
  rintro e w0 ⟨rfl, hw⟩
  obtain rfl := hw.symm
  clear hw K
  go_wp2_with (first | (at_len; refine wpList_len_sc rfl (.tmp 11) rfl mb N T rfl HP.out.mp ?_; intro N1 hN1; obtain ⟨w1, hmk, ho1, hg1⟩ := make0W N1 (by omega) w; have O1 : Hid (OwnW w1 w.heap.size (.slice (some ⟨w.heap.size, 0, none⟩) 0 N1) []) := ho1; have G1 : Hid (w.grownBy w1 none) := hg1; have q1' : w1.cell? ⟨b, 1, none⟩ = some (.map (some mb)) := hg1.cell q1 (by simp); clear ho1 hg1) | (at_range; refine wpList_range_sc rfl (.tmp 17) rfl mb N T rfl (HP.out.mp.kept G1.out (by simp)) ?_; intro w2 cnt0 hrg0 hg0 hs0; have R0 : Hid (Rg w2 mb w1.heap.size N T (fun p => (T p).isSome) cnt0) := hrg0; have G0 : Hid (w1.grownBy w2 none) := hg0; clear hrg0 hg0 hs0))
  have hwr : w.heap.size ≤ w1.heap.size := G1.out.size
  generalize hr : w1.heap.size = r at *
  go_frame
  go_loopw [3] (fun v wr => ∃ (left : Int → Bool) (cnt : Nat) (ks : List Int) (g c : Nat), v = .slice (some ⟨g, 0, none⟩) ks.length c ∧ Hid (Rg wr mb r N T left cnt) ∧ Hid (w.grownBy wr none) ∧ Hid (Got T left ks) ∧ Hid (OwnW wr w.heap.size (.slice (some ⟨g, 0, none⟩) ks.length c) (ks.map (wtOf W))) ∧ ks.length + cnt ≤ N ∧ w.heap.size ≤ g)
      (fun _ wr => wr.rangeLeft mb r)
  case atStart => exact ⟨fun p => (T p).isSome, cnt0, [], w.heap.size, N1, rfl, R0, G1.out.andThen G0.out (by simp), Got.nil T, O1.out.keep (grown_none_below G0.out), (by have := R0.out.cnt_le; simpa using this), Nat.le_refl _⟩
  case round =>
    obtain ⟨left, cnt, ks, g, c, rfl, RG, GW, GT, OW, hlc, hge⟩ := hrel
    go_wp2_with (first | (at_next; refine wpList_next_sc rfl (.tmp 18) rfl mb r N T left cnt rfl RG.out ?_ ?_))
    · intro _ hl0
      have HL0 : Hid (∀ q, left q = false) := hl0
      clear hl0
      obtain ⟨⟨cur, hcur⟩, _, hin⟩ := OW.out.cur
      have K : Hid (∃ cur, wr.heap[g]? = some (.cells cur 83) ∧ ∀ i x, (ks.map (wtOf W))[i]? = some x → Wc wr g (i * 2) x) := ⟨cur, hcur, hin⟩
      clear hcur hin
      go_wp2_with fail
      obtain ⟨cur, hcur, hin⟩ := K.out
      refine (sortW_is wr g ks.length c (ks.map (wtOf W)) (by simp) cur hcur hin (by omega)).mono ?_
      rintro e w5 ⟨rfl, l', hperm, hpw, hin5, hg5⟩
      have P5 : Hid (l'.Perm (ks.map (wtOf W)) ∧ l'.Pairwise (fun x y => x.1 ≤ y.1) ∧ InW w5 (some ⟨g, 0, none⟩) l' ∧ wr.grownBy w5 (some g)) := ⟨hperm, hpw, hin5, hg5⟩
      clear hperm hpw hin5 hg5 hcur hin
      go_wp2
      go_ret
      obtain ⟨hperm, hpw, hin5, hg5⟩ := P5.out
      have el : l' = wa D.length W := wa_of D.length GT.out HL0.out HP.out.nil HWD.out hperm hpw
      have en : (wa D.length W).length = ks.length := by rw [← el, hperm.length_eq]; simp
      refine ⟨g, c, ?_, el ▸ hin5, hge, GW.out.andThen hg5 (fun j hj => by cases hj; exact Or.inl hge)⟩
      rw [en]; rfl
    · intro q xg xn xc w3 cnt1 hql hlq hTq hrg1 hlt hg1 hs1 hen
      obtain ⟨_, ⟨g0, c0, ex, hgd⟩, _, h64⟩ := HP.out.row q (xg, xn, xc) hTq
      simp only [Prod.mk.injEq] at ex
      obtain ⟨rfl, rfl, rfl⟩ := ex
      have R1 : Hid (Rg w3 mb r N T (fun z => left z && !decide (z = q)) cnt1) := hrg1
      have T1 : Hid (Got T (fun z => left z && !decide (z = q)) (ks ++ [q])) := GT.out.more hlq hTq
      have W1 : Hid (wr.grownBy w3 (some r)) := hg1
      have S3 : Hid (w3.heap.size = wr.heap.size) := hs1
      have O3 : Hid (OwnW w3 w.heap.size (.slice (some ⟨g, 0, none⟩) ks.length c) (ks.map (wtOf W))) := OW.out.block fun k hk => hg1.block k (OW.out.own k hk).2 (fun e => (RG.out.apart OW.out).2 (e.symm.trans hk.symm))
      have LT : Hid (cnt1 < cnt) := hlt
      simp only [hv] at hen ⊢
      clear hrg1 hTq hlq hg1 hs1 hgd h64 hlt hql
      have hw3 : w.heap.size ≤ w3.heap.size := by rw [S3.out]; exact GW.out.size
      go_wp2_with (at_builtin; refine append_wait rfl (.tmp 24) (.tmp 29) rfl w.heap.size _ (ks.map (wtOf W)) rfl (O3.out.keep (below1 _ _)) w3.heap.size 1 (wtOf W q) rfl (heap_alloc_new _ _) (by simp; omega) (Nat.le_trans hw3 (below1 _ _).size) ?_; intro v4 w4 ho4 hg4; have O4 : Hid (OwnW w4 w.heap.size v4 (ks.map (wtOf W) ++ [wtOf W q])) := ho4; have G4 : Hid ((w3.alloc (.cells #[.int .i64 q, .int .i64 ((W q).length : Int)] 83)).grownBy w4 (some g)) := hg4; clear ho4 hg4)
      obtain ⟨g4, c4, e4, hge4⟩ := ownW_some O4.out (by simp)
      have ap := R1.out.apart O3.out
      have R4 : Rg w4 mb r N T (fun z => left z && !decide (z = q)) cnt1 := (R1.out.keep (below1 _ _)).kept G4.out ap.1 ap.2
      have W4 : w.grownBy w4 none := (grown_andBelow (GW.out.andThen W1.out (fun j hj => by cases hj; exact Or.inl hwr)) (below1 _ _)).andThen G4.out (fun j hj => by cases hj; exact Or.inl hge)
      have O5 : Hid (OwnW w4 w.heap.size (.slice (some ⟨g4, 0, none⟩) (ks ++ [q]).length c4) ((ks ++ [q]).map (wtOf W))) := by
        have := O4.out
        rw [e4] at this
        show OwnW _ _ _ _
        simpa using this
      subst e4
      go_roundw
      case rel => exact ⟨_, cnt1, ks ++ [q], g4, c4, by simp, R4, W4, T1, O5, (by have := LT.out; simp; omega), hge4⟩
      case measure => rw [R4.left_eq, RG.out.left_eq]; exact LT.out
end Go.Proofs.Ytibgfjnddhfgpaa
