/- Messages without packages: copied, allCopied, Link, Box. -/
import Derived.Test.YtokakhlkanakcaaWrS
namespace Go.Proofs.Ytokakhlkanakcaa
open Go.ChangeShapes Go.WideShapes Go.ChangeAt Go.RowKit Go.Deep Go.Maps
set_option linter.unusedVariables false
set_option linter.unusedSimpArgs false
/-- a message without packages -/
def Bare (m : Mv) : Prop := m.pa = none ∧ m.pn = 0 ∧ m.pc = 0
theorem heap_two (w : World) (o o2 : Obj) : ((w.alloc o).alloc o2).heap[w.heap.size + 1]? = some o2 := by
  have h := heap_alloc_new (w.alloc o) o2
  rwa [show (w.alloc o).heap.size = w.heap.size + 1 by simp] at h
set_option maxRecDepth 100000 in
set_option maxHeartbeats 4000000 in
theorem copied_bare (w : World) (m : Mv) (hm : Bare m) : Calls Try.prog 41 #[.agg (mC m)] w fun e w' => e = .returned (.agg (mC m)) ∧ Below w.heap.size w w' := by
  obtain ⟨mk, mf, mt, mx, my, mpa, mpn, mpc⟩ := m
  obtain ⟨rfl, rfl, rfl⟩ := hm
  unfold mC
  simp only
  have B0 : Hid (∀ o o2, Below w.heap.size w ((w.alloc o).alloc o2)) := fun o o2 => (below1 w o).trans ((below1 _ o2).mono (below1 w o).size)
  go_enter Try.func41, Try.ntmps41
  go_wp2_with fail
  go_loopg [3, 9] 0 (fun g p i wr => g = 0 ∧ p = .slice none 0 0 ∧ i = .int .i64 0 ∧ wr = (w.alloc (.cells #[.int .i64 mk, .int .i64 mf, .int .i64 mt, .int .i64 mx, .bool my, .slice none 0 0] 31)).alloc (.cells #[.int .i64 0, .int .i64 0, .int .i64 0, .int .i64 0, .bool false, .slice none 0 0] 31))
  case atStart => exact ⟨rfl, rfl, rfl, rfl⟩
  case round =>
    obtain ⟨rfl, rfl, rfl, rfl⟩ := hrel
    go_wp2_with fail
    have hH : ((w.alloc (.cells #[.int .i64 mk, .int .i64 mf, .int .i64 mt, .int .i64 mx, .bool my, .slice none 0 0] 31)).alloc (.cells #[.int .i64 mk, .int .i64 mf, .int .i64 mt, .int .i64 mx, .bool my, .slice none 0 0] 31)).heap[w.heap.size + 1]? = some (.cells #[.int .i64 mk, .int .i64 mf, .int .i64 mt, .int .i64 mx, .bool my, .slice none 0 0] 31) := heap_two w _ _
    exact bodyPost_ret (results_m rfl _ _ (w.heap.size + 1) _ rfl rfl hH) rfl ⟨rfl, B0.out _ _⟩
set_option maxRecDepth 100000 in
set_option maxHeartbeats 4000000 in
theorem all_bare (w : World) (a : Option Addr) (n c : Nat) (l : List Mv) (hl : InM w a l) (hn : l.length = n) (hc : n ≤ c) (hc9 : c ≤ 9223372036854775807) (hN : n ≤ 1000) (hb : ∀ m ∈ l, Bare m) :
    Calls Try.prog 30 #[.slice a n c] w fun e w' => ∃ v, e = .returned v ∧ OwnM w' w.heap.size v l ∧ Below w.heap.size w w' := by
  have HL : Hid (InM w a l) := hl
  have HLN : Hid (l.length = n) := hn
  have HB : Hid (∀ m ∈ l, Bare m) := hb
  obtain ⟨h, hh⟩ : ∃ h, w.heap.size = h := ⟨_, rfl⟩
  have HH : Hid (w.heap.size = h) := hh
  rw [hh]
  clear hl hn hb hh
  go_enter Try.func30, Try.ntmps30
  go_wp2_with fail
  go_loopg [3, 8] n (fun g V i wr => ∃ j : Nat, j ≤ n ∧ g = n - j ∧ i = .int .i64 (j : Int) ∧ Hid (OwnM wr h V (l.take j) ∧ Below h w wr ∧ h ≤ wr.heap.size))
  case atStart => exact ⟨0, Nat.zero_le _, rfl, rfl, by rw [List.take_zero]; exact OwnM.nil _ _, by rw [← HH.out]; exact Below.refl _ _, by rw [HH.out]; exact Nat.le_refl _⟩
  case round =>
    obtain ⟨j, hj, rfl, rfl, RW⟩ := hrel
    by_cases hlt : j < n
    · have j1 : decide ((j : Int) < (n : Int)) = true := by rw [decide_eq_true_eq]; omega
      obtain ⟨x, hx⟩ : ∃ x, l[j]? = some x := ⟨l[j]'(by rw [HLN.out]; exact hlt), by simp [HLN.out, hlt]⟩
      obtain ⟨b, off, rfl, hbw, hmc⟩ := HL.out.at hx
      have hsw := RW.out.2.1.size
      obtain ⟨c0, c1, c2, c3, c4, c5⟩ := hmc.kept (RW.out.2.1.block b (by rw [← HH.out]; exact hbw))
      have HX : Hid (l.take (j + 1) = l.take j ++ [x]) := by show _ = _; rw [List.take_add_one, hx]; rfl
      obtain ⟨mk, mf, mt, mx, my, mpa, mpn, mpc⟩ := x
      obtain ⟨e1, e2, e3⟩ : Bare _ := HB.out _ (List.mem_of_getElem? hx)
      simp only at e1 e2 e3
      subst e1 e2 e3
      simp only at c0 c1 c2 c3 c4 c5
      have ri : IntKind.i64.wrap ((j : Int) + 1) = (j : Int) + 1 := by rw [IntKind.wrap_i64]; omega
      have KC : Hid (∀ W : World, Calls Try.prog 41 #[.agg #[.int .i64 mk, .int .i64 mf, .int .i64 mt, .int .i64 mx, .bool my, .slice none 0 0]] W fun e w' => e = .returned (.agg #[.int .i64 mk, .int .i64 mf, .int .i64 mt, .int .i64 mx, .bool my, .slice none 0 0]) ∧ Below W.heap.size W w') := fun W => copied_bare W ⟨mk, mf, mt, mx, my, none, 0, 0⟩ ⟨rfl, rfl, rfl⟩
      generalize u3 = V at *
      clear hx hmc
      go_wp2_with fail
      refine (KC.out _).mono ?_
      rintro e w2 ⟨rfl, hb2⟩
      have B2 : Hid (Below wr.heap.size wr w2) := (below1 _ _).trans (hb2.mono (below1 _ _).size)
      have HOV : Hid (∀ k, V.ownBlock = some k → h ≤ k ∧ k < wr.heap.size) := fun k hk => RW.out.1.own k hk
      have O2 : Hid (OwnM (w2.alloc (.cells #[.int .i64 mk, .int .i64 mf, .int .i64 mt, .int .i64 mx, .bool my, .slice none 0 0] 31)) h V (l.take j)) := (RW.out.1.keep B2.out).keep (below1 _ _)
      have W2 : Hid (Below h w (w2.alloc (.cells #[.int .i64 mk, .int .i64 mf, .int .i64 mt, .int .i64 mx, .bool my, .slice none 0 0] 31)) ∧ h ≤ (w2.alloc (.cells #[.int .i64 mk, .int .i64 mf, .int .i64 mt, .int .i64 mx, .bool my, .slice none 0 0] 31)).heap.size) := by
        have b2 := RW.out.2.1.trans (B2.out.mono RW.out.2.2)
        have b3 := B2.out.size
        exact ⟨b2.alloc (Nat.le_trans RW.out.2.2 b3) _, Nat.le_trans RW.out.2.2 (Nat.le_trans b3 (below1 _ _).size)⟩
      have HLJ : Hid ((l.take j).length ≤ 1000000000) := by show _ ≤ _; rw [List.length_take]; omega
      clear hb2 KC
      go_wp2_with (at_builtin; refine append_msg rfl (.tmp 12) (.tmp 15) rfl h _ (l.take j) rfl O2.out w2.heap.size 1 ⟨mk, mf, mt, mx, my, none, 0, 0⟩ rfl (heap_alloc_new w2 _) HLJ.out W2.out.2 ?_; intro v5 u5 r5 g5; have F5 : Hid (OwnM u5 h v5 (l.take (j + 1)) ∧ Below h w u5 ∧ h ≤ u5.heap.size) := ⟨by rw [HX.out]; exact r5, W2.out.1.grown g5 W2.out.2 (fun k hk => (HOV.out k hk).1), Nat.le_trans W2.out.2 g5.size⟩; clear r5 g5)
      go_roundg (n - (j + 1))
      case measure => omega
      case rel => exact ⟨j + 1, by omega, rfl, rfl, F5.out⟩
    · have j1 : decide ((j : Int) < (n : Int)) = false := by rw [decide_eq_false_iff_not]; omega
      go_wp2_with fail
      go_ret
      refine ⟨_, rfl, ?_, RW.out.2.1⟩
      have := RW.out.1
      rwa [List.take_of_length_le (by rw [HLN.out]; omega)] at this
end Go.Proofs.Ytokakhlkanakcaa
