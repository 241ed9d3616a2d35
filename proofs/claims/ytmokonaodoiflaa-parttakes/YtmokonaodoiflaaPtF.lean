/- settle, last, send, slices.Contains (gen_ptf.py). -/
import Derived.Test.YtmokonaodoiflaaPtE
namespace Go.Proofs.Ytmokonaodoiflaa
open Go.ChangeShapes Go.WideShapes Go.ChangeAt Go.RowKit Go.Deep Go.Maps
set_option linter.unusedVariables false
set_option linter.unusedSimpArgs false
theorem size9D : (Try.prog.info? 37).map (·.size) = some 9 := by kernel_rfl
theorem results_d {fn : Func} {p : Tmp} (h : fn.results = #[.cell p 37]) (tmps : Array Value) (w : World) (g : Nat) (D : Array Value) (hD : D.size = 9)
    (hp : tmps.getD p undef = .pointer (some ⟨g, 0, none⟩)) (hg : w.heap[g]? = some (.cells D 37)) :
    (results fn tmps).run Try.prog w = .ok (.agg D) w := by
  have hp' : tmps[p]?.getD undef = .pointer (some ⟨g, 0, none⟩) := by simpa using hp
  simp [results, h, hp', asAddr, run_loadVar_row w g 37 37 D (0, 0) _ hg Try.underlying37 rfl (by rw [hD]; exact size9D)]
theorem heap_new3 (w : World) (o1 o2 o3 : Obj) : (((w.alloc o1).alloc o2).alloc o3).heap[w.heap.size + 1 + 1]? = some o3 := by
  have := heap_alloc_new ((w.alloc o1).alloc o2) o3
  rw [show ((w.alloc o1).alloc o2).heap.size = w.heap.size + 1 + 1 by simp] at this
  exact this
/-- a deed without packages -/
def dP (k t : Int) (m : Mv) : Dd := ⟨k, t, none, 0, 0, m⟩
/-- to settle somebody, or nobody -/
def dSe (t : Int) : Dd := if t = 0 then dP 0 0 noM else dP 1 t noM
set_option maxRecDepth 100000 in
theorem settle_is (w : World) (t : Int) : Calls Try.prog 26 #[.int .i64 t] w fun e w' => e = .returned (.agg (dC (dSe t))) ∧ Below w.heap.size w w' := by
  have HB : Hid (∀ o, Below w.heap.size w (w.alloc o)) := fun o => below1 _ _
  by_cases h : t = 0
  · have d1 : (t == 0) = true := by simp [h]
    have HD : Hid (dSe t = dP 0 0 noM) := if_pos h
    have e1 : decide (t = 0) = true := by simp [h]
    clear h
    go_enter Try.func26, Try.ntmps26
    go_wp2_with fail
    refine bodyPost_ret (results_d rfl _ _ w.heap.size _ rfl rfl (heap_alloc_new w _)) rfl ?_
    rw [HD.out]
    exact ⟨rfl, HB.out _⟩
  · have d1 : (t == 0) = false := by simp [h]
    have HD : Hid (dSe t = dP 1 t noM) := if_neg h
    have e1 : decide (t = 0) = false := by simp [h]
    clear h
    go_enter Try.func26, Try.ntmps26
    go_wp2_with fail
    refine bodyPost_ret (results_d rfl _ _ w.heap.size _ rfl rfl (heap_alloc_new w _)) rfl ?_
    rw [HD.out]
    exact ⟨rfl, HB.out _⟩
/-- who was committed last -/
def lastP (D : List Int) : Int := D.getLast?.getD 0
theorem lastP_at {D : List Int} {x : Int} (h : D[D.length - 1]? = some x) : lastP D = x := by unfold lastP; rw [List.getLast?_eq_getElem?, h]; rfl
set_option maxRecDepth 100000 in
theorem last_is (w : World) (r s : Int) (a : Option Addr) (n c : Nat) (D : List Int) (hn : D.length = n) (hD : InZ w a D) (hN : n ≤ 1000000) :
    Calls Try.prog 27 #[.agg #[.int .i64 r, .int .i64 s, .slice a n c]] w fun e w' => e = .returned (.int .i64 (lastP D)) ∧ Below w.heap.size w w' := by
  have HB : Hid (∀ o, Below w.heap.size w (w.alloc o)) := fun o => below1 _ _
  by_cases h : n = 0
  · have HL : Hid (lastP D = 0) := by show _ = _; rw [List.length_eq_zero_iff.1 (hn.trans h)]; rfl
    have d1 : ((n : Int) == 0) = true := by simp [h]
    have d2 : decide ((n : Int) = 0) = true := by simp [h]
    have d3 : decide (n = 0) = true := by simp [h]
    clear h hn hD hN
    go_enter Try.func27, Try.ntmps27
    go_wp2_with fail
    go_ret
    rw [HL.out]
    exact ⟨rfl, HB.out _⟩
  · obtain ⟨i, hi⟩ : ∃ i, n = i + 1 := ⟨n - 1, by omega⟩
    obtain ⟨x, hx⟩ : ∃ x, D[i]? = some x := ⟨D[i]'(by omega), List.getElem?_eq_getElem _⟩
    have HL : Hid (lastP D = x) := lastP_at (by rw [hn, hi]; exact hx)
    have d1 : ((n : Int) == 0) = false := by simp [h]
    have d2 : decide ((n : Int) = 0) = false := by simp [h]
    have d3 : decide (n = 0) = false := by simp [h]
    have ri : IntKind.i64.wrap ((n : Int) - 1) = (i : Int) := by rw [IntKind.wrap_i64]; omega
    have hil : (i : Int) < (n : Int) := by omega
    have hil2 : i < n := by omega
    obtain ⟨b, off, rfl, hbw, cx⟩ := (hD.keep (below1 w (.cells #[.int .i64 r, .int .i64 s, .slice a n c] 24))).at hx
    clear h hn hD hN hx hi hbw
    go_enter Try.func27, Try.ntmps27
    go_wp2_with fail
    go_ret
    rw [HL.out]
    exact ⟨rfl, HB.out _⟩
set_option maxRecDepth 100000 in
theorem send_is (w : World) (r s : Int) (a : Option Addr) (n c : Nat) (m : Mv) :
    Calls Try.prog 29 #[.agg #[.int .i64 r, .int .i64 s, .slice a n c], .agg (mC m)] w fun e w' => e = .returned (.agg (dC (dP 5 0 ⟨m.k, r, 0, m.x, m.y, m.pa, m.pn, m.pc⟩))) ∧ Below w.heap.size w w' := by
  have HB : Hid (∀ o p q, Below w.heap.size w (((w.alloc o).alloc p).alloc q)) := fun o p q => (((Below.refl _ _).alloc (Nat.le_refl _) _).alloc (by simp) _).alloc (by simp; omega) _
  obtain ⟨k, f, t, x, y, pa, pn, pc⟩ := m
  unfold mC
  simp only
  go_enter Try.func29, Try.ntmps29
  go_wp2_with fail
  refine bodyPost_ret (results_d rfl _ _ (w.heap.size + 1 + 1) _ rfl rfl (heap_new3 w _ _ _)) rfl ?_
  exact ⟨rfl, HB.out _ _ _⟩
set_option maxRecDepth 100000 in
theorem index_is (w : World) (a : Option Addr) (n c : Nat) (D : List Int) (hn : D.length = n) (hD : InZ w a D) (hN : n ≤ 1000000) (x : Int) :
    Calls Try.prog 40 #[.slice a n c, .int .i64 x] w fun e w' => (∃ i : Int, e = .returned (.int .i64 i) ∧ ((0 ≤ i ∧ x ∈ D) ∨ (i = -1 ∧ ¬ x ∈ D))) ∧ w' = w := by
  have HL : Hid (InZ w a D ∧ D.length = n) := ⟨hD, hn⟩
  clear hn hD
  go_enter Try.func40, Try.ntmps40
  go_wp2_with fail
  go_loopg [8] n (fun g i wr => ∃ j : Nat, j ≤ n ∧ g = n - j ∧ i = .int .i64 (j : Int) ∧ Hid ((∀ q, q < j → D[q]? ≠ some x) ∧ wr = w))
  case atStart => exact ⟨0, Nat.zero_le _, rfl, rfl, (fun q hq => by omega), rfl⟩
  obtain ⟨j, hj, rfl, rfl, RW⟩ := hrel
  by_cases hlt : j < n
  · have j1 : decide ((j : Int) < (n : Int)) = true := by rw [decide_eq_true_eq]; omega
    obtain ⟨y, hy⟩ : ∃ y, D[j]? = some y := ⟨D[j]'(by rw [HL.out.2]; exact hlt), by simp [HL.out.2, hlt]⟩
    obtain ⟨b, off, rfl, hbw, cy⟩ := HL.out.1.at hy
    rw [← RW.out.2] at cy
    have ri : IntKind.i64.wrap ((j : Int) + 1) = (j : Int) + 1 := by rw [IntKind.wrap_i64]; omega
    have HY : Hid (D[j]? = some y) := hy
    clear hy hbw
    by_cases he : x = y
    · have HM : Hid (x ∈ D) := by show x ∈ D; rw [he]; exact List.mem_of_getElem? HY.out
      subst he
      have t1 : (x == x) = true := by simp
      go_wp2_with fail
      go_ret
      exact ⟨⟨_, rfl, .inl ⟨by omega, HM.out⟩⟩, RW.out.2⟩
    · have t1 : (x == y) = false := by simp [he]
      have t2 : decide (x = y) = false := by simp [he]
      have HN : Hid (∀ q, q < j + 1 → D[q]? ≠ some x) := fun q hq => (by
        by_cases hq2 : q < j
        · exact RW.out.1 q hq2
        · have hqj : q = j := by omega
          rw [hqj, HY.out]
          intro e
          exact he (Option.some.inj e).symm)
      clear he
      go_wp2_with fail
      go_roundg (n - (j + 1))
      case measure => omega
      case rel => exact ⟨j + 1, by omega, rfl, rfl, HN.out, RW.out.2⟩
  · have j1 : decide ((j : Int) < (n : Int)) = false := by rw [decide_eq_false_iff_not]; omega
    have HM : Hid (¬ x ∈ D) := fun hm => (by
      obtain ⟨q, hq, e⟩ := List.mem_iff_getElem.1 hm
      exact RW.out.1 q (by rw [HL.out.2] at hq; omega) (by rw [List.getElem?_eq_getElem hq, e]))
    go_wp2_with fail
    go_ret
    exact ⟨⟨_, rfl, .inr ⟨rfl, HM.out⟩⟩, RW.out.2⟩
set_option maxRecDepth 100000 in
theorem contains_is (w : World) (a : Option Addr) (n c : Nat) (D : List Int) (hn : D.length = n) (hD : InZ w a D) (hN : n ≤ 1000000) (x : Int) :
    Calls Try.prog 24 #[.slice a n c, .int .i64 x] w fun e w' => e = .returned (.bool (decide (x ∈ D))) ∧ w' = w := by
  have K : Hid (Calls Try.prog 40 #[.slice a n c, .int .i64 x] w fun e w' => (∃ i : Int, e = .returned (.int .i64 i) ∧ ((0 ≤ i ∧ x ∈ D) ∨ (i = -1 ∧ ¬ x ∈ D))) ∧ w' = w) := index_is w a n c D hn hD hN x
  clear hn hD hN
  go_enter Try.func24, Try.ntmps24
  go_wp2_with fail
  refine K.out.mono ?_
  rintro e w1 ⟨⟨i, rfl, h⟩, rfl⟩
  rcases h with ⟨h0, hm⟩ | ⟨rfl, hm⟩
  · have t1 : decide (0 ≤ i) = true := decide_eq_true h0
    have HM : Hid (decide (x ∈ D) = true) := decide_eq_true hm
    clear hm h0
    go_wp2_with fail
    go_ret
    rw [HM.out]
    exact ⟨rfl, rfl⟩
  · have HM : Hid (decide (x ∈ D) = false) := decide_eq_false hm
    clear hm
    go_wp2_with fail
    go_ret
    rw [HM.out]
    exact ⟨rfl, rfl⟩
end Go.Proofs.Ytmokonaodoiflaa
