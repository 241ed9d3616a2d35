/- The document's Put (gen_pox.py). -/
import Derived.Test.YthghoekkdpchnaaDoorMgPq24
namespace Go.Proofs.YthghoekkdpchnaaDoor
open Go.ChangeShapes Go.WideShapes Go.ChangeAt Go.RowKit Go.Deep Go.Maps
set_option linter.unusedVariables false
set_option linter.unusedSimpArgs false
def pvSk (p : Pv) : Sk := ⟨p.a, p.n, p.c, p.M⟩
def pkR (S : List Sk) (P : List Pv) (r : Int) : Sk := P.foldl (fun l p => if p.r = r then pvSk p else l) (stk S r)
def sixR (S : List Sk) (P : List Pv) (j : Nat) : List Sk := (List.range j).map fun (i : Nat) => pkR S P ((i : Int) + 1)
theorem pkR_more (S : List Sk) (P : List Pv) (r : Int) (j : Nat) (x : Pv) (h : P[j]? = some x) : pkR S (P.take (j + 1)) r = if x.r = r then pvSk x else pkR S (P.take j) r := by
  unfold pkR
  rw [List.take_add_one, h]
  simp
theorem pkR_ok {w : World} {S : List Sk} {P : List Pv} (hS : ∀ x ∈ S, SkOk w x) (hP : ∀ x ∈ P, PvOk w x) (r : Int) : SkOk w (pkR S P r) := by
  have hg : ∀ (Q : List Pv) (l : Sk), (∀ x ∈ Q, PvOk w x) → SkOk w l → SkOk w (Q.foldl (fun l p => if p.r = r then pvSk p else l) l) := by
    intro Q
    induction Q with
    | nil => intro l _ h; exact h
    | cons x Q ih =>
      intro l hq h
      rw [List.foldl_cons]
      refine ih _ (fun y hy => hq y (List.mem_cons_of_mem _ hy)) ?_
      split
      · exact hq x (List.mem_cons_self ..)
      · exact h
  exact hg P _ hP (stk_ok hS r)
theorem put1_len (T : List (List Pc)) (p : Int × List Pc) : (put1 T p).length = T.length := by
  unfold put1
  split
  · rw [List.length_set]
  · rfl
theorem put_at (P : List (Int × List Pc)) (T : List (List Pc)) (i : Nat) (hi : i < 6) (x : List Pc) (hx : T[i]? = some x) : (P.foldl put1 T)[i]? = some (P.foldl (fun l p => if p.1 = (i : Int) + 1 then p.2 else l) x) := by
  induction P generalizing T x with
  | nil => exact hx
  | cons p P ih =>
    rw [List.foldl_cons, List.foldl_cons]
    refine ih _ _ ?_
    unfold put1
    have hl : i < T.length := (List.getElem?_eq_some_iff.1 hx).1
    by_cases h : p.1 = (i : Int) + 1
    · rw [if_pos (by omega), if_pos h, List.getElem?_set, if_pos (by omega), if_pos (by omega)]
    · rw [if_neg h]
      split
      · rw [List.getElem?_set, if_neg (by omega)]; exact hx
      · exact hx
theorem putC_len (st : Int → List Pc) (P : List (Int × List Pc)) : (putC st P).length = 6 := by
  have h : ∀ (Q : List (Int × List Pc)) (T : List (List Pc)), (Q.foldl put1 T).length = T.length := by
    intro Q
    induction Q with
    | nil => intro T; rfl
    | cons p Q ih => intro T; rw [List.foldl_cons, ih, put1_len]
  unfold putC
  rw [h]
  rfl
theorem pkR_co (S : List Sk) (P : List Pv) (r : Int) : (pkR S P r).co = (P.map fun x => (x.r, x.co)).foldl (fun l p => if p.1 = r then p.2 else l) (stk S r).co := by
  unfold pkR
  generalize stk S r = l
  induction P generalizing l with
  | nil => rfl
  | cons x P ih =>
    rw [List.foldl_cons, ih, List.map_cons, List.foldl_cons]
    congr 1
    split <;> rfl
theorem sixR_co (S : List Sk) (P : List Pv) : (sixR S P 6).map Sk.co = putC (fun r => (stk S r).co) (P.map fun x => (x.r, x.co)) := by
  apply List.ext_getElem?
  intro i
  by_cases hi : i < 6
  · have h1 := put_at (P.map fun x => (x.r, x.co)) (six fun r => (stk S r).co) i hi _ (six_at _ i hi)
    unfold putC
    rw [h1, ← pkR_co]
    simp [sixR, hi]
  · rw [List.getElem?_eq_none (by simp [sixR]; omega), List.getElem?_eq_none (by rw [putC_len]; omega)]
set_option maxRecDepth 100000 in
set_option maxHeartbeats 8000000 in
theorem rput_is (w : World) (a : Option Addr) (n c : Nat) (S : List Sk) (hS : InSk w a S) (hn : S.length = n) (hok : ∀ x ∈ S, SkOk w x) (hN : n ≤ 1000) (pa : Option Addr) (pn pc : Nat) (P : List Pv) (hP : InPv w pa P) (hPo : ∀ x ∈ P, PvOk w x) (hPn : P.length = pn) (hpN : pn ≤ 1000) :
    Calls Tryd.prog 17 #[.slice a n c, .slice pa pn pc] w fun e w' => ∃ a' c', e = .returned (.slice a' 6 c') ∧ 6 ≤ c' ∧ OwnSk w' w.heap.size (.slice a' 6 c') (sixR S P 6) ∧ InSk w' a' (sixR S P 6) ∧ Below w.heap.size w w' := by
  obtain ⟨z, hzz⟩ : ∃ z, z = w.heap.size := ⟨_, rfl⟩
  have HZ : Hid (z = w.heap.size) := hzz
  have KA : Hid (∀ W, Below z w W → ∀ r : Int, 1 ≤ r ∧ r ≤ 6 → Calls Tryd.prog 28 #[.slice a n c, .int .i64 r] W fun e w' => e = .returned (.slice (stk S r).a (stk S r).n (stk S r).c) ∧ w' = W) := fun W hW r hr => rat_is W a n c S (hS.keep (by rw [← hzz]; exact hW)) hn (by omega) r hr
  have KP : Hid (∀ W, Below z w W → InPv W pa P) := fun W hW => hP.keep (by rw [← hzz]; exact hW)
  have KO : Hid (∀ W, Below z w W → ∀ x ∈ sixR S P 6, SkOk W x) := fun W hW x hx => by
    obtain ⟨i, _, rfl⟩ := List.mem_map.1 hx
    exact (pkR_ok hok hPo _).keep (by rw [← hzz]; exact hW)
  have HPN : Hid (P.length = pn ∧ pn ≤ 1000) := ⟨hPn, hpN⟩
  rw [← hzz]
  clear hzz hS hn hok hP hPo hPn hpN
  go_enter Tryd.func17, Tryd.ntmps17
  go_wp2_with fail
  go_loopg [5, 6] 6 (fun g V i wr => ∃ j : Nat, j ≤ 6 ∧ g = 6 - j ∧ i = .int .i64 ((j : Int) + 1) ∧ Hid (OwnSk wr z V (sixR S P j) ∧ Below z w wr))
  case atStart => exact ⟨0, by omega, rfl, rfl, OwnSk.nil _ _, by rw [HZ.out]; exact Below.refl _ _⟩
  case round =>
    obtain ⟨wo, rfl⟩ : ∃ wo, wo = wr := ⟨_, rfl⟩
    obtain ⟨j, hj, rfl, rfl, RW⟩ := hrel
    by_cases hlt : j < 6
    · have j1 : decide ((j : Int) + 1 ≤ 6) = true := by rw [decide_eq_true_eq]; omega
      have ri : IntKind.i64.wrap ((j : Int) + 1 + 1) = (j : Int) + 1 + 1 := by rw [IntKind.wrap_i64]; omega
      have HA : Hid (Calls Tryd.prog 28 #[.slice a n c, .int .i64 ((j : Int) + 1)] wo fun e w' => e = .returned (.slice (stk S ((j : Int) + 1)).a (stk S ((j : Int) + 1)).n (stk S ((j : Int) + 1)).c) ∧ w' = wo) := KA.out wo RW.out.2 _ ⟨by omega, by omega⟩
      go_wp2_with fail
      refine HA.out.mono ?_
      rintro e w2 ⟨rfl, hw2⟩
      rw [hw2]
      clear hw2 w2 HA
      go_wp2_with fail
      go_loopg [7, 8] pn (fun g V i w4 => ∃ k : Nat, k ≤ pn ∧ g = pn - k ∧ i = .int .i64 (k : Int) ∧ V = .slice (pkR S (P.take k) ((j : Int) + 1)).a (pkR S (P.take k) ((j : Int) + 1)).n (pkR S (P.take k) ((j : Int) + 1)).c ∧ w4 = wo)
      case atStart => exact ⟨0, by omega, rfl, rfl, rfl, rfl⟩
      case round =>
        obtain ⟨k, hk, rfl, rfl, rfl, hw4⟩ := hrel
        rw [hw4]
        clear hw4
        by_cases hkl : k < pn
        · have k1 : decide ((k : Int) < (pn : Int)) = true := by rw [decide_eq_true_eq]; omega
          have k5 : k < pn := hkl
          have rk : IntKind.i64.wrap ((k : Int) + 1) = (k : Int) + 1 := by rw [IntKind.wrap_i64]; have := HPN.out.2; omega
          obtain ⟨x, hx⟩ : ∃ x, P[k]? = some x := ⟨P[k]'(by rw [HPN.out.1]; exact hkl), List.getElem?_eq_getElem _⟩
          obtain ⟨b', off, rfl, hbw, hpc, hok⟩ := (KP.out _ RW.out.2).at hx
          have c0 : wo.cell? ⟨b', off + k * 2, none⟩ = some (.int .i64 x.r) := by have := hpc wo (Below.refl _ _) 0 _ rfl; simpa using this
          have c1 : wo.cell? ⟨b', off + k * 2 + 1, none⟩ = some (.slice x.a x.n x.c) := hpc wo (Below.refl _ _) 1 _ rfl
          have HX : Hid (pkR S (P.take (k + 1)) ((j : Int) + 1) = if x.r = (j : Int) + 1 then pvSk x else pkR S (P.take k) ((j : Int) + 1)) := pkR_more S P _ k x hx
          clear hx hok hpc
          by_cases he : x.r = (j : Int) + 1
          · have e1 : (x.r == (j : Int) + 1) = true := by rw [he]; simp
            have e2 : decide (x.r = (j : Int) + 1) = true := decide_eq_true he
            go_wp2_with fail
            go_roundg (pn - (k + 1))
            case measure => omega
            case rel =>
              refine ⟨k + 1, by omega, rfl, by push_cast; rfl, ?_, rfl⟩
              rw [HX.out, if_pos he]
              rfl
          · have e1 : (x.r == (j : Int) + 1) = false := by simp [he]
            have e2 : decide (x.r = (j : Int) + 1) = false := decide_eq_false he
            go_wp2_with fail
            go_roundg (pn - (k + 1))
            case measure => omega
            case rel =>
              refine ⟨k + 1, by omega, rfl, by push_cast; rfl, ?_, rfl⟩
              rw [HX.out, if_neg he]
        · obtain rfl : k = pn := by omega
          have k1 : decide ((k : Int) < (k : Int)) = false := by rw [decide_eq_false_iff_not]; omega
          have hPT : P.take k = P := List.take_of_length_le (by rw [HPN.out.1]; exact Nat.le_refl _)
          rw [hPT]
          clear hPT
          obtain ⟨y, hy⟩ : ∃ y, y = pkR S P ((j : Int) + 1) := ⟨_, rfl⟩
          have HY : Hid (sixR S P (j + 1) = sixR S P j ++ [y]) := by
            unfold sixR
            rw [List.range_succ, List.map_append, hy]
            rfl
          rw [← hy]
          clear hy
          have O3 : Hid (OwnSk (wo.alloc (.cells #[.slice y.a y.n y.c] 34)) z u5 (sixR S P j)) := RW.out.1.keep (below1 wo _)
          have LN : Hid ((sixR S P j).length ≤ 100000000 ∧ z ≤ (wo.alloc (.cells #[.slice y.a y.n y.c] 34)).heap.size) := ⟨by simp [sixR]; omega, by have := RW.out.2.size; have := HZ.out; simp; omega⟩
          go_wp2_with (at_builtin; refine append_sk rfl (.tmp 34) (.tmp 36) rfl z _ _ rfl O3.out wo.heap.size 1 y rfl (heap_alloc_new wo _) LN.out.1 LN.out.2 ?_; intro v8 u8 o8 g8; have F8 : Hid (OwnSk u8 z v8 (sixR S P j ++ [y]) ∧ (wo.alloc (.cells #[.slice y.a y.n y.c] 34)).grownBy u8 u5.ownBlock) := ⟨o8, g8⟩; clear o8 g8)
          go_roundg (6 - (j + 1))
          case measure => omega
          case rel => exact ⟨j + 1, by omega, rfl, by push_cast; rfl, by rw [HY.out]; exact F8.out.1, (RW.out.2.alloc (by have := RW.out.2.size; have := HZ.out; omega) _).grown F8.out.2 LN.out.2 (fun q hq => (O3.out.own q hq).1)⟩
    · obtain rfl : j = 6 := by omega
      have j1 : decide (((6 : Nat) : Int) + 1 ≤ 6) = false := by decide
      have HF : Hid (∃ a' c', u5 = .slice a' 6 c' ∧ 6 ≤ c' ∧ InSk wo a' (sixR S P 6)) := by
        obtain ⟨a', c', hv, h1, h2, _⟩ := RW.out.1.slice (fun x hx => KO.out wo RW.out.2 x hx)
        have h6 : (sixR S P 6).length = 6 := by simp [sixR]
        rw [h6] at hv h2
        exact ⟨a', c', hv, h2, h1⟩
      go_wp2_with fail
      go_ret
      obtain ⟨a', c', hv, h1, h2⟩ := HF.out
      exact ⟨a', c', congrArg Ending.returned hv, h1, by rw [← hv]; exact RW.out.1, h2, RW.out.2⟩
/-- at of six stacks, for any root -/
theorem rat6_is (w : World) (a : Option Addr) (c : Nat) (l : List Sk) (hl : InSk w a l) (hn : l.length = 6) (r : Int) :
    Calls Tryd.prog 28 #[.slice a 6 c, .int .i64 r] w fun e w' => e = .returned (.slice (stk l r).a (stk l r).n (stk l r).c) ∧ w' = w := by
  by_cases hr : 1 ≤ r ∧ r ≤ 6
  · exact rat_is w a 6 c l hl hn (by omega) r hr
  · have e : stk l r = noS := by unfold stk; rw [if_neg hr]
    rw [e]
    clear hl e
    by_cases h1 : r < 1
    · have d0 : decide (r < (1 : Int)) = true := by rw [decide_eq_true_eq]; exact h1
      go_enter Tryd.func28, Tryd.ntmps28
      go_wp2_with fail
      go_ret
      exact ⟨rfl, rfl⟩
    · have d0 : decide (r < (1 : Int)) = false := by rw [decide_eq_false_iff_not]; exact h1
      have d1 : decide ((6 : Int) < r) = true := by rw [decide_eq_true_eq]; omega
      have d2 : decide (((6 : Nat) : Int) < r) = true := by rw [decide_eq_true_eq]; omega
      go_enter Tryd.func28, Tryd.ntmps28
      go_wp2_with fail
      go_ret
      exact ⟨rfl, rfl⟩
end Go.Proofs.YthghoekkdpchnaaDoor
