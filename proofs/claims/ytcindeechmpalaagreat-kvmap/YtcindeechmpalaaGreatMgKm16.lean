/- The statements' own 'does': changes done to a map of texts. A frame read is the frame that stands there, plainly. -/
import Derived.Test.YtcindeechmpalaaGreatMgKm14
import Derived.Test.YtcindeechmpalaaGreatMgKm15
import Derived.Test.YtcindeechmpalaaGreatMgKm2
namespace Go.Proofs.YtcindeechmpalaaGreat
open Go.ChangeShapes Go.WideShapes Go.ChangeAt Go.RowKit Go.Deep Go.Maps
set_option linter.unusedVariables false
set_option linter.unusedSimpArgs false
/-- a change done -/
def mh1 (M : ByteArray → Option ByteArray) (x : Pt) : ByteArray → Option ByteArray := fun q => if q = x.k then (if x.g = true then none else some x.v) else M q
def mhT (M : ByteArray → Option ByteArray) (l : List Pt) : ByteArray → Option ByteArray := l.foldl mh1 M
theorem mhT_snoc (M : ByteArray → Option ByteArray) (l : List Pt) (x : Pt) : mhT M (l ++ [x]) = mh1 (mhT M l) x := by unfold mhT; rw [List.foldl_append]; rfl
/-- what a range has copied -/
structure GotS (M : ByteArray → Option ByteArray) (left : ByteArray → Bool) (M' : ByteArray → Option ByteArray) : Prop where
  at_ : ∀ q, M' q = if left q = true then none else M q
  lft : ∀ q, left q = true → (M q).isSome = true
theorem GotS.nil (M : ByteArray → Option ByteArray) : GotS M (fun q => (M q).isSome) (fun _ => none) := ⟨fun q => by cases h : M q <;> simp [h], fun q h => h⟩
theorem GotS.more {M M' : ByteArray → Option ByteArray} {left : ByteArray → Bool} (h : GotS M left M') {p x : ByteArray} (hp : M p = some x) (hl : left p = true) : GotS M (fun q => left q && !decide (q = p)) (fun q => if q = p then some x else M' q) := by
  refine ⟨fun q => ?_, fun q hq => h.lft q (by simp at hq; exact hq.1)⟩
  by_cases e : q = p
  · subst e
    simp [hp]
  · simp only [if_neg e, h.at_ q]
    simp [e]
theorem GotS.done {M M' : ByteArray → Option ByteArray} {left : ByteArray → Bool} (h : GotS M left M') (hl : ∀ q, left q = false) : M' = M := by
  funext q
  rw [h.at_, hl]
  simp
theorem wp_put_sm {w : World} {o : Oper} {a : Act} {K : Act → World → Prop} {Q : Exit → Act → World → Prop} (m x v : Operand) (hop : o.op = Op.mapUpdate 76 m x v) (b n : Nat) (T : ByteArray → Option ByteArray) (hm : a.eval m = .map (some b)) (hs : Sm w b n T) (hn : n < 4611686018427387904) (p : ByteArray) (hp : p.size ≤ 140737488355328) (y : ByteArray) (hx : a.eval x = .string p) (hv : a.eval v = sA y)
    (hK : ∀ w', Sm w' b (n + 1) (fun q => if q = p then some y else T q) → w.grownBy w' (some b) → K (a.put o.dst undef) w') : o.wp Tryz.prog a w K Q := by
  obtain ⟨D, h1, h2⟩ := hs
  obtain ⟨w', hrun, r1, r2⟩ := h1.update lawK Tryz.underlying76 (by unfold maxLen; omega) (keyK p hp) (sR_ag y)
  unfold Oper.wp
  simp [execOp, hop, hm, hx, hv, hrun, Result.andThen]
  exact hK w' ⟨_, r1, h2.put h1.isMap p y⟩ r2
set_option maxRecDepth 100000 in
set_option maxHeartbeats 8000000 in
theorem kdoes_is (w : World) (b N : Nat) (M : ByteArray → Option ByteArray) (hs : Sm w b N M) (hN : N ≤ 1000000) (l : List Pt) (n : Nat) (hn : l.length = n) (hn2 : n ≤ 1000000) (hk : ∀ x ∈ l, x.k.size ≤ 140737488355328) (hM : ∀ q, (M q).isSome = true → q.size ≤ 140737488355328) (a : Option Addr) (c : Nat) (hl : InP w a l) :
    Calls Tryz.prog 32 #[.map (some b), .slice a n c] w fun e w' => ∃ b', e = .returned (.map (some b')) ∧ Sm w' b' (N + n) (mhT M l) ∧ w.heap.size ≤ b' ∧ Below w.heap.size w w' := by
  have HS : Hid (Sm w b N M) := hs
  have HL : Hid (InP w a l) := hl
  have HN : Hid (l.length = n) := hn
  have HK : Hid (∀ x ∈ l, x.k.size ≤ 140737488355328) := hk
  have HM : Hid (∀ q, (M q).isSome = true → q.size ≤ 140737488355328) := hM
  have HB : Hid (b < w.heap.size) := hs.lt
  obtain ⟨o, ho⟩ : ∃ o, w.heap.size = o := ⟨_, rfl⟩
  obtain ⟨w1, hw1⟩ : ∃ w1, w.alloc (.map #[] 0) = w1 := ⟨_, rfl⟩
  have M1 : Hid (Sm w1 o 0 (fun _ => none) ∧ Sm w1 b N M ∧ Below o w w1 ∧ w1.heap.size = o + 1) := by
    rw [← hw1, ← ho]
    exact ⟨Sm.empty w, hs.keep (below1 _ _), below1 _ _, by simp⟩
  have W1E : Hid (w.alloc (.map #[] 0) = w1 ∧ w.heap.size = o) := ⟨hw1, ho⟩
  have hmk : (Instr.makeMap 76 none).run Tryz.prog w = .ok (.map (some o)) w1 := by rw [← hw1, ← ho]; rfl
  clear hs hl hn hk hM hw1 ho
  go_enter Tryz.func32, Tryz.ntmps32
  go_wp2_with (first | (at_range; refine wpList_range_sm rfl (.tmp 10) rfl b N M rfl M1.out.2.1 ?_; intro w2 cnt2 hrg2 hg2 hsz2; have R2 : Hid (Sn w2 b w1.heap.size N M (fun p => (M p).isSome) cnt2) := hrg2; have G2 : Hid (Sm w2 o 0 (fun _ => none) ∧ Below o w w2 ∧ w2.heap.size = w1.heap.size + 1) := ⟨M1.out.1.kept hg2 (by simp), M1.out.2.2.1.trans ⟨hg2.os, hg2.tape, hg2.output, hg2.size, fun k hk => hg2.block k (by have := M1.out.2.2.2; omega) (by simp)⟩, hsz2⟩; clear hrg2 hg2 hsz2))
  obtain ⟨r, hr⟩ : ∃ r, w1.heap.size = r := ⟨_, rfl⟩
  have HR : Hid (r = o + 1) := by show _ = _; rw [← hr]; exact M1.out.2.2.2
  rw [hr] at R2 G2 ⊢
  clear hr
  have HBO : Hid (b < o) := by show b < o; rw [← W1E.out.2]; exact HB.out
  go_frame
  go_loopw [6] (fun V wr => ∃ (left : ByteArray → Bool) (cnt : Nat) (M' : ByteArray → Option ByteArray), Hid (Sn wr b r N M left cnt) ∧ Hid (∃ C, C + cnt ≤ N ∧ Sm wr o C M') ∧ Hid (GotS M left M') ∧ Hid (Below o w wr ∧ r < wr.heap.size))
      (fun _ wr => wr.rangeLeft b r)
  case atStart => exact ⟨_, cnt2, _, R2, ⟨0, by have := R2.out.cnt_le; omega, G2.out.1⟩, GotS.nil M, G2.out.2.1, R2.out.lt⟩
  case round =>
    obtain ⟨left, cnt, M', RG, SO, GT, BW⟩ := hrel
    have HLE : Hid (wr.rangeLeft b r = cnt) := RG.out.left_eq
    clear R2 G2
    go_wp2_with (first | (at_next; refine wpList_next_sm rfl (.tmp 11) rfl b r N M left cnt rfl RG.out ?_ ?_))
    · intro _ hl0
      have S3 : Hid (Sm wr o N M) := by
        obtain ⟨C, h1, h2⟩ := SO.out
        rw [GT.out.done hl0] at h2
        exact h2.mono (by omega)
      clear hl0 SO GT RG
      go_wp2_with fail
      go_loopg [22] n (fun g i wq => ∃ j : Nat, j ≤ n ∧ g = n - j ∧ i = .int .i64 (j : Int) ∧ Hid (Sm wq o (N + j) (mhT M (l.take j)) ∧ Below o w wq))
      case atStart => exact ⟨0, Nat.zero_le _, rfl, rfl, S3.out, BW.out.1⟩
      case round =>
        obtain ⟨j, hj, rfl, rfl, RW⟩ := hrel
        clear S3 BW
        by_cases hlt : j < n
        · have j1 : decide ((j : Int) < (n : Int)) = true := by rw [decide_eq_true_eq]; omega
          have ri : IntKind.i64.wrap ((j : Int) + 1) = (j : Int) + 1 := by rw [IntKind.wrap_i64]; omega
          obtain ⟨x, hx⟩ : ∃ x, l[j]? = some x := ⟨l[j]'(by rw [HN.out]; exact hlt), by simp [HN.out, hlt]⟩
          obtain ⟨g, off, rfl, hgw, hpc⟩ := HL.out.at hx
          have HCL : Hid (Pc wr g (off + j * 3) x ∧ g < o) := ⟨hpc.kept (RW.out.2.block g (by rw [← W1E.out.2]; exact hgw)), by rw [← W1E.out.2]; exact hgw⟩
          obtain ⟨c0, c1, c2⟩ := HCL.out.1
          have HTK : Hid (mhT M (l.take (j + 1)) = mh1 (mhT M (l.take j)) x) := by
            show _ = _
            obtain ⟨h1, h2⟩ := List.getElem?_eq_some_iff.1 hx
            rw [List.take_succ_eq_append_getElem h1, h2, mhT_snoc]
          have hxs := HK.out x (List.mem_of_getElem? hx)
          clear hx hpc
          obtain ⟨xk, xv, xg⟩ := x
          simp only at c0 c1 c2 hxs
          have HOL : Hid (o ≤ wr.heap.size) := by show o ≤ _; have := RW.out.2.size; rw [W1E.out.2] at this; exact this
          cases xg
          · go_wp2_with fail
            refine wp_region_noPanic ?_
            refine wp_region_held_drew (S := (fun W : World => Pc W g (off + j * 3) ⟨xk, xv, false⟩)) (by kernel_rfl) ?hSat (fun hHeld => ?restat)
            case hSat => exact HCL.out.1
            case restat =>
            have SD : Hid (Sm (World.drew wr) o (N + j) (mhT M (l.take j)) ∧ Below o w (World.drew wr) ∧ o ≤ (World.drew wr).heap.size) := ⟨RW.out.1.kept (row := none) ⟨rfl, rfl, rfl, Nat.le_refl _, fun _ _ _ => rfl⟩ (by simp), RW.out.2.grown (row := none) ⟨rfl, rfl, rfl, Nat.le_refl _, fun _ _ _ => rfl⟩ HOL.out (fun k hk => by cases hk), HOL.out⟩
            clear c0 c1 c2
            generalize World.drew wr = u0 at hHeld SD ⊢
            refine wpAnyH_take (i := 0) (v := .map (some o)) rfl (by kernel_rfl) (by kernel_rfl) (by kernel_rfl) (fun _ _ _ h => h) (Or.inl ⟨by kernel_rfl, ?hy0A⟩) hHeld ?rest0A
            case hy0A => (intro u hSu; clear hSu; go_simp; try with_reducible rfl)
            try simp only [Act.put, List.setIfInBounds_toArray, List.set_cons_zero, List.set_cons_succ, List.getElem_toArray, List.getElem_cons_zero, List.getElem_cons_succ]
            refine wpAnyH_take (i := 1) (v := .slice (some ⟨g, off, none⟩) n c) rfl (by kernel_rfl) (by kernel_rfl) (by kernel_rfl) (fun _ _ _ h => h) (Or.inl ⟨by kernel_rfl, ?hy1A⟩) hHeld ?rest1A
            case hy1A => (intro u hSu; clear hSu; go_simp; try with_reducible rfl)
            try simp only [Act.put, List.setIfInBounds_toArray, List.set_cons_zero, List.set_cons_succ, List.getElem_toArray, List.getElem_cons_zero, List.getElem_cons_succ]
            refine wpAnyH_take (i := 2) (v := .int .i64 (j : Int)) rfl (by kernel_rfl) (by kernel_rfl) (by kernel_rfl) (fun _ _ _ h => h) (Or.inl ⟨by kernel_rfl, ?hy2A⟩) hHeld ?rest2A
            case hy2A => (intro u hSu; clear hSu; go_simp; try with_reducible rfl)
            try simp only [Act.put, List.setIfInBounds_toArray, List.set_cons_zero, List.set_cons_succ, List.getElem_toArray, List.getElem_cons_zero, List.getElem_cons_succ]
            refine wpAnyH_take (i := 3) (v := .pointer (some ⟨g, off + j * 3, none⟩)) rfl (by kernel_rfl) (by kernel_rfl) (by kernel_rfl) (fun _ _ _ h => h) (Or.inl ⟨by kernel_rfl, ?hy3A⟩) hHeld ?rest3A
            case hy3A => (intro u hSu; clear hSu; go_simp; try with_reducible rfl)
            try simp only [Act.put, List.setIfInBounds_toArray, List.set_cons_zero, List.set_cons_succ, List.getElem_toArray, List.getElem_cons_zero, List.getElem_cons_succ]
            refine wpAnyH_take (i := 4) (v := .pointer (some ⟨g, off + j * 3, none⟩)) rfl (by kernel_rfl) (by kernel_rfl) (by kernel_rfl) (fun _ _ _ h => h) (Or.inl ⟨by kernel_rfl, ?hy4A⟩) hHeld ?rest4A
            case hy4A => (intro u hSu; clear hSu; go_simp; try with_reducible rfl)
            try simp only [Act.put, List.setIfInBounds_toArray, List.set_cons_zero, List.set_cons_succ, List.getElem_toArray, List.getElem_cons_zero, List.getElem_cons_succ]
            refine wpAnyH_take (i := 5) (v := .string xk) rfl (by kernel_rfl) (by kernel_rfl) (by kernel_rfl) (fun _ _ _ h => h) (Or.inl ⟨by kernel_rfl, ?hy5A⟩) hHeld ?rest5A
            case hy5A => (intro u hSu; obtain ⟨d0, d1, d2⟩ := hSu; simp only at d0 d1 d2; go_simp; try with_reducible rfl)
            try simp only [Act.put, List.setIfInBounds_toArray, List.set_cons_zero, List.set_cons_succ, List.getElem_toArray, List.getElem_cons_zero, List.getElem_cons_succ]
            refine wpAnyH_take (i := 6) (v := .slice (some ⟨g, off, none⟩) n c) rfl (by kernel_rfl) (by kernel_rfl) (by kernel_rfl) (fun _ _ _ h => h) (Or.inl ⟨by kernel_rfl, ?hy6A⟩) hHeld ?rest6A
            case hy6A => (intro u hSu; clear hSu; go_simp; try with_reducible rfl)
            try simp only [Act.put, List.setIfInBounds_toArray, List.set_cons_zero, List.set_cons_succ, List.getElem_toArray, List.getElem_cons_zero, List.getElem_cons_succ]
            refine wpAnyH_take (i := 7) (v := .int .i64 (j : Int)) rfl (by kernel_rfl) (by kernel_rfl) (by kernel_rfl) (fun _ _ _ h => h) (Or.inl ⟨by kernel_rfl, ?hy7A⟩) hHeld ?rest7A
            case hy7A => (intro u hSu; clear hSu; go_simp; try with_reducible rfl)
            try simp only [Act.put, List.setIfInBounds_toArray, List.set_cons_zero, List.set_cons_succ, List.getElem_toArray, List.getElem_cons_zero, List.getElem_cons_succ]
            refine wpAnyH_take (i := 8) (v := .pointer (some ⟨g, off + j * 3, none⟩)) rfl (by kernel_rfl) (by kernel_rfl) (by kernel_rfl) (fun _ _ _ h => h) (Or.inl ⟨by kernel_rfl, ?hy8A⟩) hHeld ?rest8A
            case hy8A => (intro u hSu; clear hSu; go_simp; try with_reducible rfl)
            try simp only [Act.put, List.setIfInBounds_toArray, List.set_cons_zero, List.set_cons_succ, List.getElem_toArray, List.getElem_cons_zero, List.getElem_cons_succ]
            refine wpAnyH_take (i := 9) (v := .pointer (some ⟨g, off + j * 3 + 1, none⟩)) rfl (by kernel_rfl) (by kernel_rfl) (by kernel_rfl) (fun _ _ _ h => h) (Or.inl ⟨by kernel_rfl, ?hy9A⟩) hHeld ?rest9A
            case hy9A => (intro u hSu; clear hSu; go_simp; try with_reducible rfl)
            try simp only [Act.put, List.setIfInBounds_toArray, List.set_cons_zero, List.set_cons_succ, List.getElem_toArray, List.getElem_cons_zero, List.getElem_cons_succ]
            refine wpAnyH_take (i := 10) (v := .string xv) rfl (by kernel_rfl) (by kernel_rfl) (by kernel_rfl) (fun _ _ _ h => h) (Or.inl ⟨by kernel_rfl, ?hy10A⟩) hHeld ?rest10A
            case hy10A => (intro u hSu; obtain ⟨d0, d1, d2⟩ := hSu; simp only at d0 d1 d2; go_simp; try with_reducible rfl)
            try simp only [Act.put, List.setIfInBounds_toArray, List.set_cons_zero, List.set_cons_succ, List.getElem_toArray, List.getElem_cons_zero, List.getElem_cons_succ]
            refine wpAnyH_ready (rs := [11]) (by kernel_rfl) (by simp) ?_
            refine AllReadyH.cons rfl (fun K hK => ?_) AllReadyH.nil
            refine wp_put_sm (.tmp 36) (.tmp 41) (.tmp 46) rfl o (N + j) _ rfl SD.out.1 (by omega) xk hxs xv rfl rfl ?_
            intro w7 hs7 hg7
            have S7 : Hid (Sm w7 o (N + j + 1) (fun q => if q = xk then some xv else mhT M (l.take j) q) ∧ Below o w w7) := ⟨hs7, SD.out.2.1.grown hg7 SD.out.2.2 (fun k hk => by cases hk; exact Nat.le_refl _)⟩
            have P7 : Hid (Pc w7 g (off + j * 3) ⟨xk, xv, false⟩) := by
              have hHe : Pc u0 g (off + j * 3) ⟨xk, xv, false⟩ := hHeld
              exact hHe.kept (hg7.block g (by have := HCL.out.2; have := SD.out.2.2; omega) (fun e => by have := HCL.out.2; have := Option.some.inj e; omega))
            clear hs7 hg7
            refine hK.out _ _ ?hS11A (fun hHeld => ?rest11A)
            case hS11A => exact P7.out
            clear hK K
            try simp only [Act.put, List.setIfInBounds_toArray, List.set_cons_zero, List.set_cons_succ, List.getElem_toArray, List.getElem_cons_zero, List.getElem_cons_succ]
            refine wpAnyH_done (by kernel_rfl) ?_ _
            refine NoPanic.normal ?_
            have RW9 : Hid (Sm w7 o (N + (j + 1)) (mhT M (l.take (j + 1))) ∧ Below o w w7) := by
              refine ⟨?_, S7.out.2⟩
              rw [HTK.out]
              exact S7.out.1
            go_wp2_with fail
            go_roundg (n - (j + 1))
            case measure => omega
            case rel => exact ⟨j + 1, by omega, rfl, by simp, RW9⟩
          · go_wp2_with (first | (at_delete; refine wpList_del_sm rfl (.tmp 30) (.tmp 35) rfl o (N + j) _ rfl RW.out.1 xk hxs rfl ?_; intro w7 hs7 hg7; have S7 : Hid (Sm w7 o (N + j) (fun q => if q = xk then none else mhT M (l.take j) q) ∧ Below o w w7) := ⟨hs7, RW.out.2.grown hg7 HOL.out (fun k hk => by cases hk; exact Nat.le_refl _)⟩; clear hs7 hg7))
            have RW9 : Hid (Sm w7 o (N + (j + 1)) (mhT M (l.take (j + 1))) ∧ Below o w w7) := by
              refine ⟨?_, S7.out.2⟩
              rw [HTK.out]
              exact S7.out.1.mono (by omega)
            go_roundg (n - (j + 1))
            case measure => omega
            case rel => exact ⟨j + 1, by omega, rfl, by simp, RW9⟩
        · have j1 : decide ((j : Int) < (n : Int)) = false := by rw [decide_eq_false_iff_not]; omega
          have HF : Hid (Sm wr o (N + n) (mhT M l) ∧ w.heap.size ≤ o ∧ Below w.heap.size w wr) := by
            have q := RW.out.1
            rw [List.take_of_length_le (by have := HN.out; omega)] at q
            rw [W1E.out.2]
            exact ⟨q.mono (by omega), Nat.le_refl _, RW.out.2⟩
          go_wp2_with fail
          go_ret
          exact ⟨o, rfl, HF.out⟩
    · intro q x w3 cnt1 hql hlq hTq hrg1 hlt hg1 hs1 hen
      unfold sA at hen ⊢
      have R1 : Hid (Sn w3 b r N M (fun z => left z && !decide (z = q)) cnt1) := hrg1
      have GT1 : Hid (GotS M (fun z => left z && !decide (z = q)) (fun z => if z = q then some x else M' z)) := GT.out.more hTq hlq
      have hqs := HM.out q (by rw [hTq]; rfl)
      obtain ⟨C, hC1, hC2⟩ := SO.out
      have HRO : Hid (o < r) := by have := HR.out; show o < r; omega
      have S3 : Hid (Sm w3 o C M') := hC2.kept hg1 (fun e => by have := HRO.out; have := Option.some.inj e; omega)
      have B3 : Hid (Below o w w3 ∧ r < w3.heap.size) := ⟨BW.out.1.grown hg1 (by have := BW.out.1.size; rw [W1E.out.2] at this; exact this) (fun k hk => by have := HRO.out; have := Option.some.inj hk; omega), by rw [hs1]; exact BW.out.2⟩
      have HC : Hid (C + 1 + cnt1 ≤ N ∧ C ≤ 1000000) := ⟨by omega, by omega⟩
      clear hrg1 hTq hlq hg1 hs1 RG SO GT BW hC1 hC2
      go_wp2_with (first | (at_mapUpdate; refine wpList_put_sm rfl (.tmp 17) (.tmp 18) (.tmp 19) rfl o C M' rfl S3.out (by have := HC.out; omega) q hqs x rfl rfl ?_; intro w7 hs7 hg7; have S7 : Hid (Sm w7 o (C + 1) (fun z => if z = q then some x else M' z) ∧ Sn w7 b r N M (fun z => left z && !decide (z = q)) cnt1 ∧ Below o w w7 ∧ r < w7.heap.size) := ⟨hs7, R1.out.kept hg7 (fun e => by have := HBO.out; have := Option.some.inj e; omega) (fun e => by have := HRO.out; have := Option.some.inj e; omega), B3.out.1.grown hg7 (by have := B3.out.1.size; rw [W1E.out.2] at this; exact this) (fun k hk => by cases hk; exact Nat.le_refl _), Nat.lt_of_lt_of_le B3.out.2 hg7.size⟩; clear hs7 hg7))
      go_roundw
      case measure => rw [S7.out.2.1.left_eq, HLE.out]; exact hlt
      case rel => exact ⟨_, _, _, _, _, _, _, _, _, _, ⟨_, cnt1, _, S7.out.2.1, ⟨C + 1, by have := HC.out; omega, S7.out.1⟩, GT1, S7.out.2.2⟩, rfl⟩
end Go.Proofs.YtcindeechmpalaaGreat
namespace Go.Proofs.YtcindeechmpalaaGreat
open Go.ChangeShapes Go.WideShapes Go.ChangeAt Go.RowKit Go.Deep
set_option linter.unusedVariables false
theorem getD_drop (L : List Int) (k i : Nat) : (L.drop k).getD i 0 = L.getD (k + i) 0 := by simp [List.getD]
theorem le4_at (L : List Int) (hb : IsBytes L) (k : Nat) (h : k + 4 ≤ L.length) : le4 (ge4 L k) = (L.drop k).take 4 := by
  have hT : ((L.drop k).take 4).length = 4 := by rw [List.length_take, List.length_drop]; omega
  have hTb : IsBytes ((L.drop k).take 4) := bytes_of_mem fun x hx => bytes_mem hb x (List.mem_of_mem_drop (List.mem_of_mem_take hx))
  have hA : (L.take k).length = k := by rw [List.length_take]; omega
  have := le4_ge4 (L.take k) ((L.drop k).take 4) hT hTb
  rw [hA] at this
  rw [← this]
  congr 1
  have g : ∀ i, i < 4 → (L.take k ++ (L.drop k).take 4).getD (k + i) 0 = L.getD (k + i) 0 := by
    intro i hi
    have e : (L.take k ++ (L.drop k).take 4).getD (k + i) 0 = ((L.drop k).take 4).getD i 0 := by
      simp [List.getD, List.getElem?_append_right, hA]
    rw [e, ← getD_take4 _ i hi, getD_drop]
  have g0 := g 0 (by decide)
  rw [Nat.add_zero] at g0
  unfold ge4
  rw [g0, g 1 (by decide), g 2 (by decide), g 3 (by decide)]
theorem le4_inj (a b : Nat) (ha : a < 4294967296) (hb : b < 4294967296) (h : le4 a = le4 b) : a = b := by
  have e1 := ge4_le4 [] [] a ha
  have e2 := ge4_le4 [] [] b hb
  rw [h] at e1
  rw [e1] at e2
  exact Int.ofNat.inj e2
/-- the frame of the body is what stands there just where the sum is the one that stands there -/
theorem whole_iff (L : List Int) (hb : IsBytes L) (K : Nat) (hK : ge4 L 0 = (K : Int)) (h : 8 + K ≤ L.length) : frameL ((L.drop 4).take K) = L.take (8 + K) ↔ (ge4 L (4 + K)).toNat = cmore 0 (L.take (4 + K)) := by
  have hbl : ((L.drop 4).take K).length = K := by rw [List.length_take, List.length_drop]; omega
  have h4 : le4 (K : Int) = L.take 4 := by
    have := le4_at L hb 0 (by omega)
    rwa [hK, List.drop_zero] at this
  have hh : headL ((L.drop 4).take K) = L.take (4 + K) := by
    rw [headL, hbl, h4, List.take_add]
  have ht : L.take (8 + K) = L.take (4 + K) ++ (L.drop (4 + K)).take 4 := by
    rw [show 8 + K = 4 + K + 4 by omega, List.take_add]
  have g := ge4_range L hb (4 + K) (by omega)
  have hc := cmore_lt 0 (L.take (4 + K))
  have ha := le4_at L hb (4 + K) (by omega)
  rw [frameL, hh, ht, List.append_cancel_left_eq, ← ha]
  obtain ⟨T, hT⟩ : ∃ T : Nat, ge4 L (4 + K) = T := ⟨_, (Int.toNat_of_nonneg g.1).symm⟩
  rw [hT, Int.toNat_natCast]
  constructor
  · intro e
    exact (le4_inj _ _ hc (by omega) e).symm
  · intro e
    rw [e]
end Go.Proofs.YtcindeechmpalaaGreat
