/- What packages are charged for (gen_psz.py). -/
import Derived.Test.YthghoekkdpchnaaDoorMgPqxPmV
import Derived.Test.YthghoekkdpchnaaDoorMgPqxPoX
namespace Go.Proofs.YthghoekkdpchnaaDoor
open Go.ChangeShapes Go.WideShapes Go.ChangeAt Go.RowKit Go.Deep Go.Maps
set_option linter.unusedVariables false
set_option linter.unusedSimpArgs false
def szL (ow : Int) : List Pk → Int
  | [] => 0
  | x :: l => (if x.o = ow then msz x.mf else 0) + szL ow l
theorem szL_take {ow : Int} : ∀ {L : List Pk} {j : Nat} {x : Pk}, L[j]? = some x → szL ow (L.take (j + 1)) = szL ow (L.take j) + if x.o = ow then msz x.mf else 0
  | [], j, x, h => by simp at h
  | y :: L, 0, x, h => by simp at h; subst h; simp [szL]
  | y :: L, j + 1, x, h => by
    simp only [List.getElem?_cons_succ] at h
    have := szL_take (ow := ow) h
    simp only [List.take_succ_cons, szL] at this ⊢
    rw [this]
    omega
theorem msz_bd (m : Mf) : 0 ≤ msz m ∧ msz m ≤ 17179869176 := by
  by_cases h : mchk m = 0
  · have hok := mchk_ok h
    rw [show msz m = ssz m.2.2 from if_pos h]
    have := ssz_bd (l := m.2.2) hok.2.2.2 m.2.2.length (Nat.le_refl _)
    rw [List.take_of_length_le (Nat.le_refl _)] at this
    have := hok.2.2.1
    omega
  · rw [show msz m = 0 from if_neg h]
    omega
theorem szL_bd (ow : Int) : ∀ (L : List Pk) (j : Nat), 0 ≤ szL ow (L.take j) ∧ szL ow (L.take j) ≤ 17179869176 * (j : Int)
  | [], j => by simp [szL]; omega
  | y :: L, 0 => by simp [szL]
  | y :: L, j + 1 => by
    have h1 := szL_bd ow L j
    have h2 := msz_bd y.mf
    simp only [List.take_succ_cons, szL]
    split <;> omega
theorem szL_bnd {ow : Int} {L : List Pk} (h : L.length ≤ 20) : 0 ≤ szL ow L ∧ szL ow L ≤ 343597383520 := by
  have := szL_bd ow L L.length
  rw [List.take_of_length_le (Nat.le_refl _)] at this
  omega
set_option maxRecDepth 100000 in
set_option maxHeartbeats 4000000 in
theorem dbsize_is (w : World) (a : Option Addr) (n c : Nat) (M : List Pk) (hs : StAt w a n c M) (ow : Int) :
    Calls Tryd.prog 33 #[.slice a n c, .int .i64 ow] w fun e w' => e = .returned (.int .i64 (szL ow M)) ∧ Below w.heap.size w w' := by
  have HS : Hid (StAt w a n c M) := hs
  clear hs
  obtain ⟨T, hT⟩ : ∃ T, T = szL ow M := ⟨_, rfl⟩
  rw [← hT]
  have HT : Hid (T = szL ow M) := hT
  clear hT
  go_enter Tryd.func33, Tryd.ntmps33
  go_wp2_with fail
  go_loopg [5, 10] n (fun g y i wr => ∃ (j : Nat), j ≤ n ∧ g = n - j ∧ i = .int .i64 (j : Int) ∧ y = .int .i64 (szL ow (M.take j)) ∧ Hid (Below w.heap.size w wr))
  case atStart => exact ⟨0, Nat.zero_le _, rfl, rfl, rfl, Below.refl _ _⟩
  case round =>
    obtain ⟨j, hj, rfl, rfl, rfl, RW⟩ := hrel
    by_cases hlt : j < n
    · have j1 : decide ((j : Int) < (n : Int)) = true := by rw [decide_eq_true_eq]; omega
      have j3 : decide (j < n) = true := by rw [decide_eq_true_eq]; omega
      have j4 : (j : Int) < (n : Int) := by omega
      obtain ⟨x, hx⟩ : ∃ x, M[j]? = some x := ⟨M[j]'(by rw [HS.out.len]; exact hlt), by simp [HS.out.len, hlt]⟩
      obtain ⟨b, off, rfl, hbw, hpc, hok⟩ := HS.out.inp.at hx
      obtain ⟨c0, c1, c2, c3⟩ := hpc.kept (RW.out.block b hbw)
      have ri : IntKind.i64.wrap ((j : Int) + 1) = (j : Int) + 1 := by rw [IntKind.wrap_i64]; have := HS.out.big; omega
      have HST : Hid (szL ow (M.take (j + 1)) = szL ow (M.take j) + if x.o = ow then msz x.mf else 0) := szL_take hx
      have hb1 := szL_bd ow M j
      have hb2 := msz_bd x.mf
      have hj20 := HS.out.big
      have KM : Hid (∀ W, Below w.heap.size w W → Calls Tryd.prog 52 #[.agg #[.string (tx x.n), .string (tx x.v), .slice x.la x.ln x.lc]] W fun e w' => e = .returned (.int .i64 (msz x.mf)) ∧ Below W.heap.size W w') := fun W hW => msize_is x.mf x.ln hok.len (by have := hok.big; omega) ⟨hok.sn, hok.sv, hok.dg⟩ x.la x.lc W (hok.inr.keep hW)
      obtain ⟨po, pN, pV, pl, pa, pn, pc⟩ := x
      simp only [Pk.mf] at c0 c1 c2 c3 KM HST hb2
      obtain ⟨SN, hSN⟩ : ∃ S, S = tx pN := ⟨_, rfl⟩
      obtain ⟨SV, hSV⟩ : ∃ S, S = tx pV := ⟨_, rfl⟩
      rw [← hSN] at c1 KM
      rw [← hSV] at c2 KM
      obtain ⟨z, hz⟩ : ∃ z, z = msz (pN, pV, pl) := ⟨_, rfl⟩
      rw [← hz] at KM HST hb2
      obtain ⟨T1, hT1⟩ : ∃ t, t = szL ow (M.take j) := ⟨_, rfl⟩
      rw [← hT1] at hb1 HST ⊢
      have HB : Hid (0 ≤ T1 + z ∧ T1 + z ≤ 1000000000000) := by show _ ∧ _; omega
      have rz : IntKind.i64.wrap (T1 + z) = T1 + z := by rw [IntKind.wrap_i64]; have := HB.out; omega
      have B1 : Hid (Below w.heap.size w (wr.alloc (.cells #[.int .i64 po, .string SN, .string SV, .slice pa pn pc] 64))) := RW.out.alloc RW.out.size _
      clear hSN hSV hz hT1 hx hpc hok hb1 hb2 hj20
      by_cases ho : po = ow
      · have d1 : (po == ow) = true := by simp [ho]
        have d2 : decide (po = ow) = true := decide_eq_true ho
        have HST2 : Hid (szL ow (M.take (j + 1)) = T1 + z) := by have := HST.out; rwa [if_pos ho] at this
        clear ho
        go_wp2_with fail
        refine (KM.out _ B1.out).mono ?_
        rintro e w2 ⟨rfl, hb2⟩
        have B2 : Hid (Below w.heap.size w w2) := B1.out.trans (hb2.mono B1.out.size)
        clear hb2
        go_wp2_with fail
        go_roundg (n - (j + 1))
        case measure => omega
        case rel => exact ⟨j + 1, by omega, rfl, by push_cast; rfl, by rw [HST2.out], B2⟩
      · have d1 : (po == ow) = false := by simp [ho]
        have d2 : decide (po = ow) = false := decide_eq_false ho
        have HST2 : Hid (szL ow (M.take (j + 1)) = T1) := by have := HST.out; rw [if_neg ho, Int.add_zero] at this; exact this
        clear ho
        go_wp2_with fail
        go_roundg (n - (j + 1))
        case measure => omega
        case rel => exact ⟨j + 1, by omega, rfl, by push_cast; rfl, by rw [HST2.out], B1⟩
    · obtain rfl : j = n := by omega
      have j1 : decide ((j : Int) < (j : Int)) = false := by rw [decide_eq_false_iff_not]; omega
      have j3 : decide (j < j) = false := by rw [decide_eq_false_iff_not]; omega
      have HF : Hid (T = szL ow (M.take j)) := by show _ = _; rw [HT.out, List.take_of_length_le (by rw [HS.out.len]; exact Nat.le_refl _)]
      go_wp2_with fail
      go_ret
      exact ⟨congrArg (fun z => Ending.returned (.int .i64 z)) HF.out.symm, RW.out⟩
set_option maxRecDepth 100000 in
set_option maxHeartbeats 4000000 in
theorem rdbsize_is (w : World) (a : Option Addr) (n c : Nat) (M : List Pk) (hs : StAt w a n c M) (ow : Int) :
    Calls Tryd.prog 34 #[.slice a n c, .int .i64 ow] w fun e w' => e = .returned (.int .i64 (szL ow M)) ∧ Below w.heap.size w w' := by
  have HS : Hid (StAt w a n c M) := hs
  clear hs
  obtain ⟨T, hT⟩ : ∃ T, T = szL ow M := ⟨_, rfl⟩
  rw [← hT]
  have HT : Hid (T = szL ow M) := hT
  clear hT
  go_enter Tryd.func34, Tryd.ntmps34
  go_wp2_with fail
  go_loopg [5, 6] n (fun g y i wr => ∃ (j : Nat), j ≤ n ∧ g = n - j ∧ i = .int .i64 (j : Int) ∧ y = .int .i64 (szL ow (M.take j)) ∧ Hid (Below w.heap.size w wr))
  case atStart => exact ⟨0, Nat.zero_le _, rfl, rfl, rfl, Below.refl _ _⟩
  case round =>
    obtain ⟨j, hj, rfl, rfl, rfl, RW⟩ := hrel
    by_cases hlt : j < n
    · have j1 : decide ((j : Int) < (n : Int)) = true := by rw [decide_eq_true_eq]; omega
      have j3 : decide (j < n) = true := by rw [decide_eq_true_eq]; omega
      have j4 : (j : Int) < (n : Int) := by omega
      obtain ⟨x, hx⟩ : ∃ x, M[j]? = some x := ⟨M[j]'(by rw [HS.out.len]; exact hlt), by simp [HS.out.len, hlt]⟩
      obtain ⟨b, off, rfl, hbw, hpc, hok⟩ := HS.out.inp.at hx
      obtain ⟨c0, c1, c2, c3⟩ := hpc.kept (RW.out.block b hbw)
      have ri : IntKind.i64.wrap ((j : Int) + 1) = (j : Int) + 1 := by rw [IntKind.wrap_i64]; have := HS.out.big; omega
      have HST : Hid (szL ow (M.take (j + 1)) = szL ow (M.take j) + if x.o = ow then msz x.mf else 0) := szL_take hx
      have hb1 := szL_bd ow M j
      have hb2 := msz_bd x.mf
      have hj20 := HS.out.big
      have KM : Hid (∀ W, Below w.heap.size w W → Calls Tryd.prog 53 #[.agg #[.string (tx x.n), .string (tx x.v), .slice x.la x.ln x.lc]] W fun e w' => e = .returned (.int .i64 (msz x.mf)) ∧ Below W.heap.size W w') := fun W hW => rmsize_is x.mf x.ln hok.len (by have := hok.big; omega) ⟨hok.sn, hok.sv, hok.dg⟩ x.la x.lc W (hok.inr.keep hW)
      obtain ⟨po, pN, pV, pl, pa, pn, pc⟩ := x
      simp only [Pk.mf] at c0 c1 c2 c3 KM HST hb2
      obtain ⟨SN, hSN⟩ : ∃ S, S = tx pN := ⟨_, rfl⟩
      obtain ⟨SV, hSV⟩ : ∃ S, S = tx pV := ⟨_, rfl⟩
      rw [← hSN] at c1 KM
      rw [← hSV] at c2 KM
      obtain ⟨z, hz⟩ : ∃ z, z = msz (pN, pV, pl) := ⟨_, rfl⟩
      rw [← hz] at KM HST hb2
      obtain ⟨T1, hT1⟩ : ∃ t, t = szL ow (M.take j) := ⟨_, rfl⟩
      rw [← hT1] at hb1 HST ⊢
      have HB : Hid (0 ≤ T1 + z ∧ T1 + z ≤ 1000000000000) := by show _ ∧ _; omega
      have rz : IntKind.i64.wrap (T1 + z) = T1 + z := by rw [IntKind.wrap_i64]; have := HB.out; omega
      clear hSN hSV hz hT1 hx hpc hok hb1 hb2 hj20
      by_cases ho : po = ow
      · have d1 : (po == ow) = true := by simp [ho]
        have d2 : decide (po = ow) = true := decide_eq_true ho
        have HST2 : Hid (szL ow (M.take (j + 1)) = T1 + z) := by have := HST.out; rwa [if_pos ho] at this
        clear ho
        go_wp2_with fail
        refine (KM.out _ RW.out).mono ?_
        rintro e w2 ⟨rfl, hb2⟩
        have B2 : Hid (Below w.heap.size w w2) := RW.out.trans (hb2.mono RW.out.size)
        clear hb2
        go_wp2_with fail
        go_roundg (n - (j + 1))
        case measure => omega
        case rel => exact ⟨j + 1, by omega, rfl, by push_cast; rfl, by rw [HST2.out], B2⟩
      · have d1 : (po == ow) = false := by simp [ho]
        have d2 : decide (po = ow) = false := decide_eq_false ho
        have HST2 : Hid (szL ow (M.take (j + 1)) = T1) := by have := HST.out; rw [if_neg ho, Int.add_zero] at this; exact this
        clear ho
        go_wp2_with fail
        go_roundg (n - (j + 1))
        case measure => omega
        case rel => exact ⟨j + 1, by omega, rfl, by push_cast; rfl, by rw [HST2.out], RW⟩
    · obtain rfl : j = n := by omega
      have j1 : decide ((j : Int) < (j : Int)) = false := by rw [decide_eq_false_iff_not]; omega
      have j3 : decide (j < j) = false := by rw [decide_eq_false_iff_not]; omega
      have HF : Hid (T = szL ow (M.take j)) := by show _ = _; rw [HT.out, List.take_of_length_le (by rw [HS.out.len]; exact Nat.le_refl _)]
      go_wp2_with fail
      go_ret
      exact ⟨congrArg (fun z => Ending.returned (.int .i64 z)) HF.out.symm, RW.out⟩
/-- what is charged for more -/
def moreE (ow : Int) (A B : List Pk) : Int := if szL ow B < szL ow A then 0 else szL ow B - szL ow A
set_option maxRecDepth 100000 in
set_option maxHeartbeats 4000000 in
theorem more_is (w : World) (a1 : Option Addr) (n1 c1 : Nat) (A : List Pk) (h1 : StAt w a1 n1 c1 A) (a2 : Option Addr) (n2 c2 : Nat) (B : List Pk) (h2 : StAt w a2 n2 c2 B) (ow : Int) :
    Calls Tryd.prog 18 #[.slice a1 n1 c1, .slice a2 n2 c2, .int .i64 ow] w fun e w' => e = .returned (.int .i64 (moreE ow A B)) ∧ Below w.heap.size w w' := by
  have K1 : Hid (∀ W, Below w.heap.size w W → Calls Tryd.prog 33 #[.slice a1 n1 c1, .int .i64 ow] W fun e w' => e = .returned (.int .i64 (szL ow A)) ∧ Below W.heap.size W w') := fun W hW => dbsize_is W a1 n1 c1 A (h1.keep hW) ow
  have K2 : Hid (∀ W, Below w.heap.size w W → Calls Tryd.prog 33 #[.slice a2 n2 c2, .int .i64 ow] W fun e w' => e = .returned (.int .i64 (szL ow B)) ∧ Below W.heap.size W w') := fun W hW => dbsize_is W a2 n2 c2 B (h2.keep hW) ow
  have b1 := szL_bnd (ow := ow) (L := A) (by rw [h1.len]; exact h1.big)
  have b2 := szL_bnd (ow := ow) (L := B) (by rw [h2.len]; exact h2.big)
  unfold moreE
  generalize szL ow A = x at *
  generalize szL ow B = y at *
  obtain ⟨R, hR⟩ : ∃ R, R = if y < x then (0 : Int) else y - x := ⟨_, rfl⟩
  rw [← hR]
  have HR : Hid (R = if y < x then (0 : Int) else y - x) := hR
  clear hR
  have rs : IntKind.i64.wrap (y - x) = y - x := by rw [IntKind.wrap_i64]; omega
  clear h1 h2
  go_enter Tryd.func18, Tryd.ntmps18
  go_wp2_with fail
  refine (K2.out _ (Below.refl _ _)).mono ?_
  rintro e w1 ⟨rfl, hb1⟩
  have B1 : Hid (Below w.heap.size w w1) := hb1
  clear hb1
  go_wp2_with fail
  refine (K1.out _ B1.out).mono ?_
  rintro e w2 ⟨rfl, hb2⟩
  have B2 : Hid (Below w.heap.size w w2) := B1.out.trans (hb2.mono B1.out.size)
  clear hb2
  go_wp2_with fail
  go_ret
  refine ⟨congrArg (fun z => Ending.returned (.int .i64 z)) (?_ : _ = R), B2.out⟩
  rw [HR.out]
  repeat' split
  all_goals omega
set_option maxRecDepth 100000 in
set_option maxHeartbeats 4000000 in
theorem rmore_is (w : World) (a1 : Option Addr) (n1 c1 : Nat) (A : List Pk) (h1 : StAt w a1 n1 c1 A) (a2 : Option Addr) (n2 c2 : Nat) (B : List Pk) (h2 : StAt w a2 n2 c2 B) (ow : Int) :
    Calls Tryd.prog 19 #[.slice a1 n1 c1, .slice a2 n2 c2, .int .i64 ow] w fun e w' => e = .returned (.int .i64 (moreE ow A B)) ∧ Below w.heap.size w w' := by
  have K1 : Hid (∀ W, Below w.heap.size w W → Calls Tryd.prog 34 #[.slice a1 n1 c1, .int .i64 ow] W fun e w' => e = .returned (.int .i64 (szL ow A)) ∧ Below W.heap.size W w') := fun W hW => rdbsize_is W a1 n1 c1 A (h1.keep hW) ow
  have K2 : Hid (∀ W, Below w.heap.size w W → Calls Tryd.prog 34 #[.slice a2 n2 c2, .int .i64 ow] W fun e w' => e = .returned (.int .i64 (szL ow B)) ∧ Below W.heap.size W w') := fun W hW => rdbsize_is W a2 n2 c2 B (h2.keep hW) ow
  have b1 := szL_bnd (ow := ow) (L := A) (by rw [h1.len]; exact h1.big)
  have b2 := szL_bnd (ow := ow) (L := B) (by rw [h2.len]; exact h2.big)
  unfold moreE
  generalize szL ow A = x at *
  generalize szL ow B = y at *
  obtain ⟨R, hR⟩ : ∃ R, R = if y < x then (0 : Int) else y - x := ⟨_, rfl⟩
  rw [← hR]
  have HR : Hid (R = if y < x then (0 : Int) else y - x) := hR
  clear hR
  have rs : IntKind.i64.wrap (y - x) = y - x := by rw [IntKind.wrap_i64]; omega
  clear h1 h2
  go_enter Tryd.func19, Tryd.ntmps19
  go_wp2_with fail
  refine (K1.out _ (Below.refl _ _)).mono ?_
  rintro e w1 ⟨rfl, hb1⟩
  have B1 : Hid (Below w.heap.size w w1) := hb1
  clear hb1
  go_wp2_with fail
  refine (K2.out _ B1.out).mono ?_
  rintro e w2 ⟨rfl, hb2⟩
  have B2 : Hid (Below w.heap.size w w2) := B1.out.trans (hb2.mono B1.out.size)
  clear hb2
  by_cases hxy : y < x
  · have d1 : decide (y < x) = true := decide_eq_true hxy
    have HR2 : Hid (R = 0) := by have := HR.out; rwa [if_pos hxy] at this
    clear hxy
    go_wp2_with fail
    go_ret
    exact ⟨congrArg (fun z => Ending.returned (.int .i64 z)) HR2.out.symm, B2.out⟩
  · have d1 : decide (y < x) = false := decide_eq_false hxy
    have HR2 : Hid (R = y - x) := by have := HR.out; rwa [if_neg hxy] at this
    clear hxy
    go_wp2_with fail
    go_ret
    exact ⟨congrArg (fun z => Ending.returned (.int .i64 z)) HR2.out.symm, B2.out⟩
end Go.Proofs.YthghoekkdpchnaaDoor
