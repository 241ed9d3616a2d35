/- same (gen_cplays.py). -/
import Derived.Test.YtgfjhghhonaiiaaCpY
namespace Go.Proofs.Ytgfjhghhonaiiaa
open Go.ChangeShapes Go.WideShapes Go.ChangeAt Go.RowKit Go.Deep Go.Maps
set_option linter.unusedVariables false
set_option linter.unusedSimpArgs false
set_option maxRecDepth 100000 in
set_option maxHeartbeats 16000000 in
theorem same_is (w0 w : World) (F1 F2 : Nat → Prop) (b1 b2 N : Nat) (Q : Qm) (G : Gm) (h : Tr w0 w F1 F2 b1 b2 N Q G Q G) (hN : N ≤ 100000) (ak ai ar aq au am : Int) (hok : Ca.ok ⟨ak, ai, ar, aq, au, am⟩) : Calls Try.prog 13 #[.pointer (some ⟨b1, 0, none⟩), .pointer (some ⟨b2, 0, none⟩), .agg #[.int .i64 ak, .int .i64 ai, .int .i64 ar, .int .i64 aq, .int .i64 au, .int .i64 am]] w fun e w' => e = .returned (.bool true) ∧ Below w.heap.size w w' := by
  have e0 : (w.alloc (.cells #[.int .i64 ak, .int .i64 ai, .int .i64 ar, .int .i64 aq, .int .i64 au, .int .i64 am] 30)).heap[w.heap.size]? = some (.cells #[.int .i64 ak, .int .i64 ai, .int .i64 ar, .int .i64 aq, .int .i64 au, .int .i64 am] 30) := heap_alloc_new w _
  have E0 : Hid ((w.alloc (.cells #[.int .i64 ak, .int .i64 ai, .int .i64 ar, .int .i64 aq, .int .i64 au, .int .i64 am] 30)).heap[w.heap.size]? = some (.cells #[.int .i64 ak, .int .i64 ai, .int .i64 ar, .int .i64 aq, .int .i64 au, .int .i64 am] 30)) := e0
  have B0 : Hid (Below w.heap.size w (w.alloc (.cells #[.int .i64 ak, .int .i64 ai, .int .i64 ar, .int .i64 aq, .int .i64 au, .int .i64 am] 30))) := below1 _ _
  have TT : Hid (∀ W, Below w.heap.size w W → Tr w0 W F1 F2 b1 b2 N Q G Q G) := fun W hW => h.keep hW
  obtain ⟨x, hx⟩ : ∃ x, x = (Q ai).isSome := ⟨_, rfl⟩
  obtain ⟨y, hy⟩ : ∃ y, y = (Q ai).getD 0 := ⟨_, rfl⟩
  obtain ⟨mb, hmb⟩ : ∃ mb, mb = (G (ai, ar)).isSome := ⟨_, rfl⟩
  obtain ⟨E, hE⟩ : ∃ E, E = ftE Q ai au am := ⟨_, rfl⟩
  obtain ⟨L, hL⟩ : ∃ L, L = sel (fun k => (Q k).isSome) 8 := ⟨_, rfl⟩
  obtain ⟨n, hn⟩ : ∃ n, n = L.length := ⟨_, rfl⟩
  have hn8 : n ≤ 8 := by rw [hn, hL]; exact sel_len _ _
  have KQ : Hid (∀ W, Below w.heap.size w W → Calls Try.prog 15 #[.pointer (some ⟨b1, 0, none⟩), .int .i64 ai] W fun e w' => e = .returned (.tuple #[.int .i64 y, .bool x]) ∧ w' = W) := fun W hW => by rw [hx, hy]; exact quota_is W F1 b1 N Q G (h.keep hW).l ai hok.2.1
  have KR : Hid (∀ W, Below w.heap.size w W → Calls Try.prog 28 #[.pointer (some ⟨b2, 0, none⟩), .int .i64 ai] W fun e w' => e = .returned (.tuple #[.int .i64 y, .bool x]) ∧ w' = W) := fun W hW => by rw [hx, hy]; exact rquota_is W F2 b2 N Q G (h.keep hW).r (by omega) ai
  have KM : Hid (∀ W, Below w.heap.size w W → Calls Try.prog 17 #[.pointer (some ⟨b1, 0, none⟩), .int .i64 ai, .int .i64 ar] W fun e w' => e = .returned (.bool mb) ∧ Below W.heap.size W w') := fun W hW => by rw [hmb]; exact may_is W F1 b1 N Q G (h.keep hW).l ai ar hok.2.1 hok.2.2.1
  have KN : Hid (∀ W, Below w.heap.size w W → Calls Try.prog 29 #[.pointer (some ⟨b2, 0, none⟩), .int .i64 ai, .int .i64 ar] W fun e w' => e = .returned (.bool mb) ∧ w' = W) := fun W hW => by rw [hmb]; exact rmay_is W F2 b2 N Q G (h.keep hW).r (by omega) ai ar
  have KF : Hid (∀ W, Below w.heap.size w W → Calls Try.prog 18 #[.pointer (some ⟨b1, 0, none⟩), .int .i64 ai, .int .i64 au, .int .i64 am] W fun e w' => e = .returned (.int .i64 E) ∧ w' = W) := fun W hW => by rw [hE]; exact fits_is W F1 b1 N Q G (h.keep hW).l ai au am hok.2.1 hok.2.2.2.2.1 hok.2.2.2.2.2
  have KG : Hid (∀ W, Below w.heap.size w W → Calls Try.prog 30 #[.pointer (some ⟨b2, 0, none⟩), .int .i64 ai, .int .i64 au, .int .i64 am] W fun e w' => e = .returned (.int .i64 E) ∧ w' = W) := fun W hW => by rw [hE]; exact rfits_is W F2 b2 N Q G (h.keep hW).r (by omega) ai au am hok.2.2.2.2.1 hok.2.2.2.2.2
  have KT : Hid (∀ W, Below w.heap.size w W → Calls Try.prog 19 #[.pointer (some ⟨b1, 0, none⟩)] W fun e w' => ∃ a c, e = .returned (.slice a n c) ∧ OwnZ w' W.heap.size (.slice a n c) L ∧ InZ w' a L ∧ Below W.heap.size W w') := fun W hW => by
    refine (tenants_is W F1 b1 N Q G (h.keep hW).l).mono ?_
    rintro e w' ⟨v, rfl, hz, hb⟩
    rw [← hL] at hz
    obtain ⟨a, c, rfl, hi, _⟩ := hz.slice
    rw [← hn] at hz ⊢
    exact ⟨a, c, rfl, hz, hi, hb⟩
  have KU : Hid (∀ W, Below w.heap.size w W → Calls Try.prog 31 #[.pointer (some ⟨b2, 0, none⟩)] W fun e w' => ∃ a c, e = .returned (.slice a n c) ∧ InZ w' a L ∧ Below W.heap.size W w') := fun W hW => by
    refine (rtenants_is W F2 b2 N Q G (h.keep hW).r (by omega)).mono ?_
    rintro e w' ⟨v, rfl, hz, hb⟩
    rw [← hL] at hz
    obtain ⟨a, c, rfl, hi, _⟩ := hz.slice
    rw [← hn]
    exact ⟨a, c, rfl, hi, hb⟩
  have KA : Hid (∀ W (k : Int), Below w.heap.size w W → InI k → Calls Try.prog 20 #[.pointer (some ⟨b1, 0, none⟩), .int .i64 k] W fun e w' => ∃ a c, e = .returned (.slice a (sel (fun r => (G (k, r)).isSome) 6).length c) ∧ InZ w' a (sel (fun r => (G (k, r)).isSome) 6) ∧ Below W.heap.size W w') := fun W k hW hk => by
    refine (roots_is W F1 b1 N Q G (h.keep hW).l k hk).mono ?_
    rintro e w' ⟨v, rfl, hz, hb⟩
    obtain ⟨a, c, rfl, hi, _⟩ := hz.slice
    exact ⟨a, c, rfl, hi, hb⟩
  have KB : Hid (∀ W (k : Int), Below w.heap.size w W → Calls Try.prog 32 #[.pointer (some ⟨b2, 0, none⟩), .int .i64 k] W fun e w' => ∃ a c, e = .returned (.slice a (sel (fun r => (G (k, r)).isSome) 6).length c) ∧ InZ w' a (sel (fun r => (G (k, r)).isSome) 6) ∧ Below W.heap.size W w') := fun W k hW => by
    refine (rroots_is W F2 b2 N Q G (h.keep hW).r (by omega) k).mono ?_
    rintro e w' ⟨v, rfl, hz, hb⟩
    obtain ⟨a, c, rfl, hi, _⟩ := hz.slice
    exact ⟨a, c, rfl, hi, hb⟩
  have HN : Hid (L.length = n ∧ n ≤ 8) := ⟨hn.symm, hn8⟩
  obtain ⟨c0, c1, c2, c3, c4, c5⟩ := act_cells e0
  have xx : (x == x) = true := by simp
  have yy : (y == y) = true := by simp
  have mm : (mb == mb) = true := by simp
  have ee : (E == E) = true := by simp
  clear h hN hok e0 hx hy hmb hE hL hn hn8 TT
  go_enter Try.func13, Try.ntmps13
  go_wp2_with fail
  refine (KQ.out _ B0.out).mono ?_
  rintro e w1 ⟨rfl, hw⟩
  obtain rfl := hw.symm
  clear hw
  go_wp2_with fail
  refine (KR.out _ B0.out).mono ?_
  rintro e w1 ⟨rfl, hw⟩
  obtain rfl := hw.symm
  clear hw
  go_wp2_with fail
  refine (KT.out _ B0.out).mono ?_
  rintro e w3 ⟨a1, k1, rfl, o3, i3, b3⟩
  have H3 : Hid (OwnZ w3 (w.alloc (.cells #[.int .i64 ak, .int .i64 ai, .int .i64 ar, .int .i64 aq, .int .i64 au, .int .i64 am] 30)).heap.size (.slice a1 n k1) L ∧ InZ w3 a1 L ∧ Below w.heap.size w w3 ∧ w3.heap[w.heap.size]? = some (.cells #[.int .i64 ak, .int .i64 ai, .int .i64 ar, .int .i64 aq, .int .i64 au, .int .i64 am] 30) ∧ w.heap.size < w3.heap.size) := ⟨o3, i3, B0.out.trans (b3.mono B0.out.size), (b3.block _ (by simp)).trans E0.out, by have := b3.size; simp at this; omega⟩
  clear o3 i3 b3 c0 c1 c2 c3 c4 c5 KQ KR KT
  go_wp2_with fail
  have KC : Hid (∀ u, Below w3.heap.size w3 u → Below w.heap.size w u ∧ u.heap[w.heap.size]? = some (.cells #[.int .i64 ak, .int .i64 ai, .int .i64 ar, .int .i64 aq, .int .i64 au, .int .i64 am] 30) ∧ InZ u a1 L) := fun u hu => ⟨H3.out.2.2.1.trans (hu.mono H3.out.2.2.1.size), (hu.block _ H3.out.2.2.2.2).trans H3.out.2.2.2.1, H3.out.2.1.keep hu⟩
  refine wp_region_noPanic ?_
  refine wp_region_held_drew (S := (fun u : World => Below w3.heap.size w3 u)) (by kernel_rfl) ?hSaz (fun hHeld => ?restaz)
  case hSaz => exact (Below.refl _ _).drew
  case restaz =>
  refine wpAnyH_take (i := 0) (v := .int .i64 y) rfl (by kernel_rfl) (by kernel_rfl) (by kernel_rfl) (fun _ _ _ h => h) (Or.inl ⟨by kernel_rfl, ?hy0z⟩) hHeld ?rest0z
  case hy0z => (intro w' hSw; obtain ⟨s0, s1, s2, s3, s4, s5⟩ := act_cells (KC.out _ hSw).2.1; go_simp; try with_reducible rfl)
  try simp only [Act.put, List.setIfInBounds_toArray, List.set_cons_zero, List.set_cons_succ, List.getElem_toArray, List.getElem_cons_zero, List.getElem_cons_succ]
  refine wpAnyH_take (i := 1) (v := .int .i64 y) rfl (by kernel_rfl) (by kernel_rfl) (by kernel_rfl) (fun _ _ _ h => h) (Or.inl ⟨by kernel_rfl, ?hy1z⟩) hHeld ?rest1z
  case hy1z => (intro w' hSw; obtain ⟨s0, s1, s2, s3, s4, s5⟩ := act_cells (KC.out _ hSw).2.1; go_simp; try with_reducible rfl)
  try simp only [Act.put, List.setIfInBounds_toArray, List.set_cons_zero, List.set_cons_succ, List.getElem_toArray, List.getElem_cons_zero, List.getElem_cons_succ]
  refine wpAnyH_take (i := 2) (v := .bool true) rfl (by kernel_rfl) (by kernel_rfl) (by kernel_rfl) (fun _ _ _ h => h) (Or.inl ⟨by kernel_rfl, ?hy2z⟩) hHeld ?rest2z
  case hy2z => (intro w' hSw; obtain ⟨s0, s1, s2, s3, s4, s5⟩ := act_cells (KC.out _ hSw).2.1; go_simp; try with_reducible rfl)
  try simp only [Act.put, List.setIfInBounds_toArray, List.set_cons_zero, List.set_cons_succ, List.getElem_toArray, List.getElem_cons_zero, List.getElem_cons_succ]
  refine wpAnyH_take (i := 3) (v := .bool true) rfl (by kernel_rfl) (by kernel_rfl) (by kernel_rfl) (fun _ _ _ h => h) (Or.inl ⟨by kernel_rfl, ?hy3z⟩) hHeld ?rest3z
  case hy3z => (intro w' hSw; obtain ⟨s0, s1, s2, s3, s4, s5⟩ := act_cells (KC.out _ hSw).2.1; go_simp; try with_reducible rfl)
  try simp only [Act.put, List.setIfInBounds_toArray, List.set_cons_zero, List.set_cons_succ, List.getElem_toArray, List.getElem_cons_zero, List.getElem_cons_succ]
  refine wpAnyH_take (i := 4) (v := .bool x) rfl (by kernel_rfl) (by kernel_rfl) (by kernel_rfl) (fun _ _ _ h => h) (Or.inl ⟨by kernel_rfl, ?hy4z⟩) hHeld ?rest4z
  case hy4z => (intro w' hSw; obtain ⟨s0, s1, s2, s3, s4, s5⟩ := act_cells (KC.out _ hSw).2.1; go_simp; try with_reducible rfl)
  try simp only [Act.put, List.setIfInBounds_toArray, List.set_cons_zero, List.set_cons_succ, List.getElem_toArray, List.getElem_cons_zero, List.getElem_cons_succ]
  refine wpAnyH_take (i := 5) (v := .bool x) rfl (by kernel_rfl) (by kernel_rfl) (by kernel_rfl) (fun _ _ _ h => h) (Or.inl ⟨by kernel_rfl, ?hy5z⟩) hHeld ?rest5z
  case hy5z => (intro w' hSw; obtain ⟨s0, s1, s2, s3, s4, s5⟩ := act_cells (KC.out _ hSw).2.1; go_simp; try with_reducible rfl)
  try simp only [Act.put, List.setIfInBounds_toArray, List.set_cons_zero, List.set_cons_succ, List.getElem_toArray, List.getElem_cons_zero, List.getElem_cons_succ]
  refine wpAnyH_take (i := 6) (v := .bool true) rfl (by kernel_rfl) (by kernel_rfl) (by kernel_rfl) (fun _ _ _ h => h) (Or.inl ⟨by kernel_rfl, ?hy6z⟩) hHeld ?rest6z
  case hy6z => (intro w' hSw; obtain ⟨s0, s1, s2, s3, s4, s5⟩ := act_cells (KC.out _ hSw).2.1; go_simp; try with_reducible rfl)
  try simp only [Act.put, List.setIfInBounds_toArray, List.set_cons_zero, List.set_cons_succ, List.getElem_toArray, List.getElem_cons_zero, List.getElem_cons_succ]
  refine wpAnyH_take (i := 7) (v := .bool true) rfl (by kernel_rfl) (by kernel_rfl) (by kernel_rfl) (fun _ _ _ h => h) (Or.inl ⟨by kernel_rfl, ?hy7z⟩) hHeld ?rest7z
  case hy7z => (intro w' hSw; obtain ⟨s0, s1, s2, s3, s4, s5⟩ := act_cells (KC.out _ hSw).2.1; go_simp; try with_reducible rfl)
  try simp only [Act.put, List.setIfInBounds_toArray, List.set_cons_zero, List.set_cons_succ, List.getElem_toArray, List.getElem_cons_zero, List.getElem_cons_succ]
  refine wpAnyH_take (i := 8) (v := .bool true) rfl (by kernel_rfl) (by kernel_rfl) (by kernel_rfl) (fun _ _ _ h => h) (Or.inl ⟨by kernel_rfl, ?hy8z⟩) hHeld ?rest8z
  case hy8z => (intro w' hSw; obtain ⟨s0, s1, s2, s3, s4, s5⟩ := act_cells (KC.out _ hSw).2.1; go_simp; try with_reducible rfl)
  try simp only [Act.put, List.setIfInBounds_toArray, List.set_cons_zero, List.set_cons_succ, List.getElem_toArray, List.getElem_cons_zero, List.getElem_cons_succ]
  refine wpAnyH_take (i := 9) (v := .pointer (some ⟨b1, 0, none⟩)) rfl (by kernel_rfl) (by kernel_rfl) (by kernel_rfl) (fun _ _ _ h => h) (Or.inl ⟨by kernel_rfl, ?hy9z⟩) hHeld ?rest9z
  case hy9z => (intro w' hSw; obtain ⟨s0, s1, s2, s3, s4, s5⟩ := act_cells (KC.out _ hSw).2.1; go_simp; try with_reducible rfl)
  try simp only [Act.put, List.setIfInBounds_toArray, List.set_cons_zero, List.set_cons_succ, List.getElem_toArray, List.getElem_cons_zero, List.getElem_cons_succ]
  refine wpAnyH_take (i := 10) (v := .pointer (some ⟨w.heap.size, 1, none⟩)) rfl (by kernel_rfl) (by kernel_rfl) (by kernel_rfl) (fun _ _ _ h => h) (Or.inl ⟨by kernel_rfl, ?hy10z⟩) hHeld ?rest10z
  case hy10z => (intro w' hSw; obtain ⟨s0, s1, s2, s3, s4, s5⟩ := act_cells (KC.out _ hSw).2.1; go_simp; try with_reducible rfl)
  try simp only [Act.put, List.setIfInBounds_toArray, List.set_cons_zero, List.set_cons_succ, List.getElem_toArray, List.getElem_cons_zero, List.getElem_cons_succ]
  refine wpAnyH_take (i := 11) (v := .int .i64 ai) rfl (by kernel_rfl) (by kernel_rfl) (by kernel_rfl) (fun _ _ _ h => h) (Or.inl ⟨by kernel_rfl, ?hy11z⟩) hHeld ?rest11z
  case hy11z => (intro w' hSw; obtain ⟨s0, s1, s2, s3, s4, s5⟩ := act_cells (KC.out _ hSw).2.1; go_simp; try with_reducible rfl)
  try simp only [Act.put, List.setIfInBounds_toArray, List.set_cons_zero, List.set_cons_succ, List.getElem_toArray, List.getElem_cons_zero, List.getElem_cons_succ]
  refine wpAnyH_take (i := 12) (v := .pointer (some ⟨w.heap.size, 2, none⟩)) rfl (by kernel_rfl) (by kernel_rfl) (by kernel_rfl) (fun _ _ _ h => h) (Or.inl ⟨by kernel_rfl, ?hy12z⟩) hHeld ?rest12z
  case hy12z => (intro w' hSw; obtain ⟨s0, s1, s2, s3, s4, s5⟩ := act_cells (KC.out _ hSw).2.1; go_simp; try with_reducible rfl)
  try simp only [Act.put, List.setIfInBounds_toArray, List.set_cons_zero, List.set_cons_succ, List.getElem_toArray, List.getElem_cons_zero, List.getElem_cons_succ]
  refine wpAnyH_take (i := 13) (v := .int .i64 ar) rfl (by kernel_rfl) (by kernel_rfl) (by kernel_rfl) (fun _ _ _ h => h) (Or.inl ⟨by kernel_rfl, ?hy13z⟩) hHeld ?rest13z
  case hy13z => (intro w' hSw; obtain ⟨s0, s1, s2, s3, s4, s5⟩ := act_cells (KC.out _ hSw).2.1; go_simp; try with_reducible rfl)
  try simp only [Act.put, List.setIfInBounds_toArray, List.set_cons_zero, List.set_cons_succ, List.getElem_toArray, List.getElem_cons_zero, List.getElem_cons_succ]
  refine wpAnyH_take (i := 15) (v := .pointer (some ⟨b2, 0, none⟩)) rfl (by kernel_rfl) (by kernel_rfl) (by kernel_rfl) (fun _ _ _ h => h) (Or.inl ⟨by kernel_rfl, ?hy15z⟩) hHeld ?rest15z
  case hy15z => (intro w' hSw; obtain ⟨s0, s1, s2, s3, s4, s5⟩ := act_cells (KC.out _ hSw).2.1; go_simp; try with_reducible rfl)
  try simp only [Act.put, List.setIfInBounds_toArray, List.set_cons_zero, List.set_cons_succ, List.getElem_toArray, List.getElem_cons_zero, List.getElem_cons_succ]
  refine wpAnyH_take (i := 16) (v := .pointer (some ⟨w.heap.size, 1, none⟩)) rfl (by kernel_rfl) (by kernel_rfl) (by kernel_rfl) (fun _ _ _ h => h) (Or.inl ⟨by kernel_rfl, ?hy16z⟩) hHeld ?rest16z
  case hy16z => (intro w' hSw; obtain ⟨s0, s1, s2, s3, s4, s5⟩ := act_cells (KC.out _ hSw).2.1; go_simp; try with_reducible rfl)
  try simp only [Act.put, List.setIfInBounds_toArray, List.set_cons_zero, List.set_cons_succ, List.getElem_toArray, List.getElem_cons_zero, List.getElem_cons_succ]
  refine wpAnyH_take (i := 17) (v := .int .i64 ai) rfl (by kernel_rfl) (by kernel_rfl) (by kernel_rfl) (fun _ _ _ h => h) (Or.inl ⟨by kernel_rfl, ?hy17z⟩) hHeld ?rest17z
  case hy17z => (intro w' hSw; obtain ⟨s0, s1, s2, s3, s4, s5⟩ := act_cells (KC.out _ hSw).2.1; go_simp; try with_reducible rfl)
  try simp only [Act.put, List.setIfInBounds_toArray, List.set_cons_zero, List.set_cons_succ, List.getElem_toArray, List.getElem_cons_zero, List.getElem_cons_succ]
  refine wpAnyH_take (i := 18) (v := .pointer (some ⟨w.heap.size, 2, none⟩)) rfl (by kernel_rfl) (by kernel_rfl) (by kernel_rfl) (fun _ _ _ h => h) (Or.inl ⟨by kernel_rfl, ?hy18z⟩) hHeld ?rest18z
  case hy18z => (intro w' hSw; obtain ⟨s0, s1, s2, s3, s4, s5⟩ := act_cells (KC.out _ hSw).2.1; go_simp; try with_reducible rfl)
  try simp only [Act.put, List.setIfInBounds_toArray, List.set_cons_zero, List.set_cons_succ, List.getElem_toArray, List.getElem_cons_zero, List.getElem_cons_succ]
  refine wpAnyH_take (i := 19) (v := .int .i64 ar) rfl (by kernel_rfl) (by kernel_rfl) (by kernel_rfl) (fun _ _ _ h => h) (Or.inl ⟨by kernel_rfl, ?hy19z⟩) hHeld ?rest19z
  case hy19z => (intro w' hSw; obtain ⟨s0, s1, s2, s3, s4, s5⟩ := act_cells (KC.out _ hSw).2.1; go_simp; try with_reducible rfl)
  try simp only [Act.put, List.setIfInBounds_toArray, List.set_cons_zero, List.set_cons_succ, List.getElem_toArray, List.getElem_cons_zero, List.getElem_cons_succ]
  refine wpAnyH_ready (rs := [14]) (by kernel_rfl) (by simp) ?_
  refine AllReadyH.cons rfl (fun K hK => ?_) AllReadyH.nil
  go_simp; refine (KM.out _ (KC.out _ hHeld).1).mono ?_; rintro e wa ⟨rfl, hb⟩; have Bwa : Hid (Below w3.heap.size w3 wa) := (hHeld : Below _ _ _).trans (hb.mono (hHeld : Below _ _ _).size); clear hb; go_wp2_with fail
  refine hK.out _ _ ?hS14z (fun hHeld => ?rest14z)
  case hS14z => exact Bwa.out
  clear hK K
  try simp only [Act.put, List.setIfInBounds_toArray, List.set_cons_zero, List.set_cons_succ, List.getElem_toArray, List.getElem_cons_zero, List.getElem_cons_succ]
  refine wpAnyH_ready (rs := [20]) (by kernel_rfl) (by simp) ?_
  refine AllReadyH.cons rfl (fun K hK => ?_) AllReadyH.nil
  go_simp; refine (KN.out _ (KC.out _ hHeld).1).mono ?_; rintro e wb ⟨rfl, hw⟩; obtain rfl := hw.symm; clear hw; go_wp2_with fail
  refine hK.out _ _ ?hS20z (fun hHeld => ?rest20z)
  case hS20z => exact hHeld
  clear hK K
  try simp only [Act.put, List.setIfInBounds_toArray, List.set_cons_zero, List.set_cons_succ, List.getElem_toArray, List.getElem_cons_zero, List.getElem_cons_succ]
  refine wpAnyH_take (i := 21) (v := .bool true) rfl (by kernel_rfl) (by kernel_rfl) (by kernel_rfl) (fun _ _ _ h => h) (Or.inl ⟨by kernel_rfl, ?hy21z⟩) hHeld ?rest21z
  case hy21z => (intro w' hSw; obtain ⟨s0, s1, s2, s3, s4, s5⟩ := act_cells (KC.out _ hSw).2.1; go_simp; try with_reducible rfl)
  try simp only [Act.put, List.setIfInBounds_toArray, List.set_cons_zero, List.set_cons_succ, List.getElem_toArray, List.getElem_cons_zero, List.getElem_cons_succ]
  refine wpAnyH_take (i := 22) (v := .bool true) rfl (by kernel_rfl) (by kernel_rfl) (by kernel_rfl) (fun _ _ _ h => h) (Or.inl ⟨by kernel_rfl, ?hy22z⟩) hHeld ?rest22z
  case hy22z => (intro w' hSw; obtain ⟨s0, s1, s2, s3, s4, s5⟩ := act_cells (KC.out _ hSw).2.1; go_simp; try with_reducible rfl)
  try simp only [Act.put, List.setIfInBounds_toArray, List.set_cons_zero, List.set_cons_succ, List.getElem_toArray, List.getElem_cons_zero, List.getElem_cons_succ]
  refine wpAnyH_take (i := 23) (v := .bool true) rfl (by kernel_rfl) (by kernel_rfl) (by kernel_rfl) (fun _ _ _ h => h) (Or.inl ⟨by kernel_rfl, ?hy23z⟩) hHeld ?rest23z
  case hy23z => (intro w' hSw; obtain ⟨s0, s1, s2, s3, s4, s5⟩ := act_cells (KC.out _ hSw).2.1; go_simp; try with_reducible rfl)
  try simp only [Act.put, List.setIfInBounds_toArray, List.set_cons_zero, List.set_cons_succ, List.getElem_toArray, List.getElem_cons_zero, List.getElem_cons_succ]
  refine wpAnyH_take (i := 24) (v := .pointer (some ⟨b1, 0, none⟩)) rfl (by kernel_rfl) (by kernel_rfl) (by kernel_rfl) (fun _ _ _ h => h) (Or.inl ⟨by kernel_rfl, ?hy24z⟩) hHeld ?rest24z
  case hy24z => (intro w' hSw; obtain ⟨s0, s1, s2, s3, s4, s5⟩ := act_cells (KC.out _ hSw).2.1; go_simp; try with_reducible rfl)
  try simp only [Act.put, List.setIfInBounds_toArray, List.set_cons_zero, List.set_cons_succ, List.getElem_toArray, List.getElem_cons_zero, List.getElem_cons_succ]
  refine wpAnyH_take (i := 25) (v := .pointer (some ⟨w.heap.size, 1, none⟩)) rfl (by kernel_rfl) (by kernel_rfl) (by kernel_rfl) (fun _ _ _ h => h) (Or.inl ⟨by kernel_rfl, ?hy25z⟩) hHeld ?rest25z
  case hy25z => (intro w' hSw; obtain ⟨s0, s1, s2, s3, s4, s5⟩ := act_cells (KC.out _ hSw).2.1; go_simp; try with_reducible rfl)
  try simp only [Act.put, List.setIfInBounds_toArray, List.set_cons_zero, List.set_cons_succ, List.getElem_toArray, List.getElem_cons_zero, List.getElem_cons_succ]
  refine wpAnyH_take (i := 26) (v := .int .i64 ai) rfl (by kernel_rfl) (by kernel_rfl) (by kernel_rfl) (fun _ _ _ h => h) (Or.inl ⟨by kernel_rfl, ?hy26z⟩) hHeld ?rest26z
  case hy26z => (intro w' hSw; obtain ⟨s0, s1, s2, s3, s4, s5⟩ := act_cells (KC.out _ hSw).2.1; go_simp; try with_reducible rfl)
  try simp only [Act.put, List.setIfInBounds_toArray, List.set_cons_zero, List.set_cons_succ, List.getElem_toArray, List.getElem_cons_zero, List.getElem_cons_succ]
  refine wpAnyH_take (i := 27) (v := .pointer (some ⟨w.heap.size, 4, none⟩)) rfl (by kernel_rfl) (by kernel_rfl) (by kernel_rfl) (fun _ _ _ h => h) (Or.inl ⟨by kernel_rfl, ?hy27z⟩) hHeld ?rest27z
  case hy27z => (intro w' hSw; obtain ⟨s0, s1, s2, s3, s4, s5⟩ := act_cells (KC.out _ hSw).2.1; go_simp; try with_reducible rfl)
  try simp only [Act.put, List.setIfInBounds_toArray, List.set_cons_zero, List.set_cons_succ, List.getElem_toArray, List.getElem_cons_zero, List.getElem_cons_succ]
  refine wpAnyH_take (i := 28) (v := .int .i64 au) rfl (by kernel_rfl) (by kernel_rfl) (by kernel_rfl) (fun _ _ _ h => h) (Or.inl ⟨by kernel_rfl, ?hy28z⟩) hHeld ?rest28z
  case hy28z => (intro w' hSw; obtain ⟨s0, s1, s2, s3, s4, s5⟩ := act_cells (KC.out _ hSw).2.1; go_simp; try with_reducible rfl)
  try simp only [Act.put, List.setIfInBounds_toArray, List.set_cons_zero, List.set_cons_succ, List.getElem_toArray, List.getElem_cons_zero, List.getElem_cons_succ]
  refine wpAnyH_take (i := 29) (v := .pointer (some ⟨w.heap.size, 5, none⟩)) rfl (by kernel_rfl) (by kernel_rfl) (by kernel_rfl) (fun _ _ _ h => h) (Or.inl ⟨by kernel_rfl, ?hy29z⟩) hHeld ?rest29z
  case hy29z => (intro w' hSw; obtain ⟨s0, s1, s2, s3, s4, s5⟩ := act_cells (KC.out _ hSw).2.1; go_simp; try with_reducible rfl)
  try simp only [Act.put, List.setIfInBounds_toArray, List.set_cons_zero, List.set_cons_succ, List.getElem_toArray, List.getElem_cons_zero, List.getElem_cons_succ]
  refine wpAnyH_take (i := 30) (v := .int .i64 am) rfl (by kernel_rfl) (by kernel_rfl) (by kernel_rfl) (fun _ _ _ h => h) (Or.inl ⟨by kernel_rfl, ?hy30z⟩) hHeld ?rest30z
  case hy30z => (intro w' hSw; obtain ⟨s0, s1, s2, s3, s4, s5⟩ := act_cells (KC.out _ hSw).2.1; go_simp; try with_reducible rfl)
  try simp only [Act.put, List.setIfInBounds_toArray, List.set_cons_zero, List.set_cons_succ, List.getElem_toArray, List.getElem_cons_zero, List.getElem_cons_succ]
  refine wpAnyH_take (i := 32) (v := .pointer (some ⟨b2, 0, none⟩)) rfl (by kernel_rfl) (by kernel_rfl) (by kernel_rfl) (fun _ _ _ h => h) (Or.inl ⟨by kernel_rfl, ?hy32z⟩) hHeld ?rest32z
  case hy32z => (intro w' hSw; obtain ⟨s0, s1, s2, s3, s4, s5⟩ := act_cells (KC.out _ hSw).2.1; go_simp; try with_reducible rfl)
  try simp only [Act.put, List.setIfInBounds_toArray, List.set_cons_zero, List.set_cons_succ, List.getElem_toArray, List.getElem_cons_zero, List.getElem_cons_succ]
  refine wpAnyH_take (i := 33) (v := .pointer (some ⟨w.heap.size, 1, none⟩)) rfl (by kernel_rfl) (by kernel_rfl) (by kernel_rfl) (fun _ _ _ h => h) (Or.inl ⟨by kernel_rfl, ?hy33z⟩) hHeld ?rest33z
  case hy33z => (intro w' hSw; obtain ⟨s0, s1, s2, s3, s4, s5⟩ := act_cells (KC.out _ hSw).2.1; go_simp; try with_reducible rfl)
  try simp only [Act.put, List.setIfInBounds_toArray, List.set_cons_zero, List.set_cons_succ, List.getElem_toArray, List.getElem_cons_zero, List.getElem_cons_succ]
  refine wpAnyH_take (i := 34) (v := .int .i64 ai) rfl (by kernel_rfl) (by kernel_rfl) (by kernel_rfl) (fun _ _ _ h => h) (Or.inl ⟨by kernel_rfl, ?hy34z⟩) hHeld ?rest34z
  case hy34z => (intro w' hSw; obtain ⟨s0, s1, s2, s3, s4, s5⟩ := act_cells (KC.out _ hSw).2.1; go_simp; try with_reducible rfl)
  try simp only [Act.put, List.setIfInBounds_toArray, List.set_cons_zero, List.set_cons_succ, List.getElem_toArray, List.getElem_cons_zero, List.getElem_cons_succ]
  refine wpAnyH_take (i := 35) (v := .pointer (some ⟨w.heap.size, 4, none⟩)) rfl (by kernel_rfl) (by kernel_rfl) (by kernel_rfl) (fun _ _ _ h => h) (Or.inl ⟨by kernel_rfl, ?hy35z⟩) hHeld ?rest35z
  case hy35z => (intro w' hSw; obtain ⟨s0, s1, s2, s3, s4, s5⟩ := act_cells (KC.out _ hSw).2.1; go_simp; try with_reducible rfl)
  try simp only [Act.put, List.setIfInBounds_toArray, List.set_cons_zero, List.set_cons_succ, List.getElem_toArray, List.getElem_cons_zero, List.getElem_cons_succ]
  refine wpAnyH_take (i := 36) (v := .int .i64 au) rfl (by kernel_rfl) (by kernel_rfl) (by kernel_rfl) (fun _ _ _ h => h) (Or.inl ⟨by kernel_rfl, ?hy36z⟩) hHeld ?rest36z
  case hy36z => (intro w' hSw; obtain ⟨s0, s1, s2, s3, s4, s5⟩ := act_cells (KC.out _ hSw).2.1; go_simp; try with_reducible rfl)
  try simp only [Act.put, List.setIfInBounds_toArray, List.set_cons_zero, List.set_cons_succ, List.getElem_toArray, List.getElem_cons_zero, List.getElem_cons_succ]
  refine wpAnyH_take (i := 37) (v := .pointer (some ⟨w.heap.size, 5, none⟩)) rfl (by kernel_rfl) (by kernel_rfl) (by kernel_rfl) (fun _ _ _ h => h) (Or.inl ⟨by kernel_rfl, ?hy37z⟩) hHeld ?rest37z
  case hy37z => (intro w' hSw; obtain ⟨s0, s1, s2, s3, s4, s5⟩ := act_cells (KC.out _ hSw).2.1; go_simp; try with_reducible rfl)
  try simp only [Act.put, List.setIfInBounds_toArray, List.set_cons_zero, List.set_cons_succ, List.getElem_toArray, List.getElem_cons_zero, List.getElem_cons_succ]
  refine wpAnyH_take (i := 38) (v := .int .i64 am) rfl (by kernel_rfl) (by kernel_rfl) (by kernel_rfl) (fun _ _ _ h => h) (Or.inl ⟨by kernel_rfl, ?hy38z⟩) hHeld ?rest38z
  case hy38z => (intro w' hSw; obtain ⟨s0, s1, s2, s3, s4, s5⟩ := act_cells (KC.out _ hSw).2.1; go_simp; try with_reducible rfl)
  try simp only [Act.put, List.setIfInBounds_toArray, List.set_cons_zero, List.set_cons_succ, List.getElem_toArray, List.getElem_cons_zero, List.getElem_cons_succ]
  refine wpAnyH_ready (rs := [31]) (by kernel_rfl) (by simp) ?_
  refine AllReadyH.cons rfl (fun K hK => ?_) AllReadyH.nil
  go_simp; refine (KF.out _ (KC.out _ hHeld).1).mono ?_; rintro e wc ⟨rfl, hw⟩; obtain rfl := hw.symm; clear hw; go_wp2_with fail
  refine hK.out _ _ ?hS31z (fun hHeld => ?rest31z)
  case hS31z => exact hHeld
  clear hK K
  try simp only [Act.put, List.setIfInBounds_toArray, List.set_cons_zero, List.set_cons_succ, List.getElem_toArray, List.getElem_cons_zero, List.getElem_cons_succ]
  refine wpAnyH_ready (rs := [39]) (by kernel_rfl) (by simp) ?_
  refine AllReadyH.cons rfl (fun K hK => ?_) AllReadyH.nil
  go_simp; refine (KG.out _ (KC.out _ hHeld).1).mono ?_; rintro e wd ⟨rfl, hw⟩; obtain rfl := hw.symm; clear hw; go_wp2_with fail
  refine hK.out _ _ ?hS39z (fun hHeld => ?rest39z)
  case hS39z => exact hHeld
  clear hK K
  try simp only [Act.put, List.setIfInBounds_toArray, List.set_cons_zero, List.set_cons_succ, List.getElem_toArray, List.getElem_cons_zero, List.getElem_cons_succ]
  refine wpAnyH_take (i := 40) (v := .bool true) rfl (by kernel_rfl) (by kernel_rfl) (by kernel_rfl) (fun _ _ _ h => h) (Or.inl ⟨by kernel_rfl, ?hy40z⟩) hHeld ?rest40z
  case hy40z => (intro w' hSw; obtain ⟨s0, s1, s2, s3, s4, s5⟩ := act_cells (KC.out _ hSw).2.1; go_simp; try with_reducible rfl)
  try simp only [Act.put, List.setIfInBounds_toArray, List.set_cons_zero, List.set_cons_succ, List.getElem_toArray, List.getElem_cons_zero, List.getElem_cons_succ]
  refine wpAnyH_take (i := 41) (v := .bool true) rfl (by kernel_rfl) (by kernel_rfl) (by kernel_rfl) (fun _ _ _ h => h) (Or.inl ⟨by kernel_rfl, ?hy41z⟩) hHeld ?rest41z
  case hy41z => (intro w' hSw; obtain ⟨s0, s1, s2, s3, s4, s5⟩ := act_cells (KC.out _ hSw).2.1; go_simp; try with_reducible rfl)
  try simp only [Act.put, List.setIfInBounds_toArray, List.set_cons_zero, List.set_cons_succ, List.getElem_toArray, List.getElem_cons_zero, List.getElem_cons_succ]
  refine wpAnyH_take (i := 42) (v := .bool true) rfl (by kernel_rfl) (by kernel_rfl) (by kernel_rfl) (fun _ _ _ h => h) (Or.inl ⟨by kernel_rfl, ?hy42z⟩) hHeld ?rest42z
  case hy42z => (intro w' hSw; obtain ⟨s0, s1, s2, s3, s4, s5⟩ := act_cells (KC.out _ hSw).2.1; go_simp; try with_reducible rfl)
  try simp only [Act.put, List.setIfInBounds_toArray, List.set_cons_zero, List.set_cons_succ, List.getElem_toArray, List.getElem_cons_zero, List.getElem_cons_succ]
  refine wpAnyH_take (i := 43) (v := .slice a1 n k1) rfl (by kernel_rfl) (by kernel_rfl) (by kernel_rfl) (fun _ _ _ h => h) (Or.inl ⟨by kernel_rfl, ?hy43z⟩) hHeld ?rest43z
  case hy43z => (intro w' hSw; obtain ⟨s0, s1, s2, s3, s4, s5⟩ := act_cells (KC.out _ hSw).2.1; go_simp; try with_reducible rfl)
  try simp only [Act.put, List.setIfInBounds_toArray, List.set_cons_zero, List.set_cons_succ, List.getElem_toArray, List.getElem_cons_zero, List.getElem_cons_succ]
  refine wpAnyH_take (i := 44) (v := .pointer (some ⟨b2, 0, none⟩)) rfl (by kernel_rfl) (by kernel_rfl) (by kernel_rfl) (fun _ _ _ h => h) (Or.inl ⟨by kernel_rfl, ?hy44z⟩) hHeld ?rest44z
  case hy44z => (intro w' hSw; obtain ⟨s0, s1, s2, s3, s4, s5⟩ := act_cells (KC.out _ hSw).2.1; go_simp; try with_reducible rfl)
  try simp only [Act.put, List.setIfInBounds_toArray, List.set_cons_zero, List.set_cons_succ, List.getElem_toArray, List.getElem_cons_zero, List.getElem_cons_succ]
  refine wpAnyH_ready (rs := [45]) (by kernel_rfl) (by simp) ?_
  refine AllReadyH.cons rfl (fun K hK => ?_) AllReadyH.nil
  go_simp; refine (KU.out _ (KC.out _ hHeld).1).mono ?_; rintro e we ⟨a2, k2, rfl, i2, hb⟩; have Bwe : Hid (Below w3.heap.size w3 we ∧ InZ we a2 L) := ⟨(hHeld : Below _ _ _).trans (hb.mono (hHeld : Below _ _ _).size), i2⟩; clear hb i2; go_wp2_with fail
  refine hK.out _ _ ?hS45z (fun hHeld => ?rest45z)
  case hS45z => exact Bwe.out.1
  clear hK K
  try simp only [Act.put, List.setIfInBounds_toArray, List.set_cons_zero, List.set_cons_succ, List.getElem_toArray, List.getElem_cons_zero, List.getElem_cons_succ]
  refine wpAnyH_ready (rs := [46]) (by kernel_rfl) (by simp) ?_
  refine AllReadyH.cons rfl (fun K hK => ?_) AllReadyH.nil
  go_simp; refine (samen_true _ a1 a2 n k1 k2 L HN.out.1 (KC.out _ Bwe.out.1).2.2 Bwe.out.2 (by have := HN.out.2; omega)).mono ?_; rintro e wf ⟨rfl, hb⟩; have Bwf : Hid (Below w3.heap.size w3 wf) := Bwe.out.1.trans (hb.mono Bwe.out.1.size); clear hb; go_wp2_with fail
  refine hK.out _ _ ?hS46z (fun hHeld => ?rest46z)
  case hS46z => exact Bwf.out
  clear hK K
  try simp only [Act.put, List.setIfInBounds_toArray, List.set_cons_zero, List.set_cons_succ, List.getElem_toArray, List.getElem_cons_zero, List.getElem_cons_succ]
  refine wpAnyH_take (i := 47) (v := .bool true) rfl (by kernel_rfl) (by kernel_rfl) (by kernel_rfl) (fun _ _ _ h => h) (Or.inl ⟨by kernel_rfl, ?hy47z⟩) hHeld ?rest47z
  case hy47z => (intro w' hSw; obtain ⟨s0, s1, s2, s3, s4, s5⟩ := act_cells (KC.out _ hSw).2.1; go_simp; try with_reducible rfl)
  try simp only [Act.put, List.setIfInBounds_toArray, List.set_cons_zero, List.set_cons_succ, List.getElem_toArray, List.getElem_cons_zero, List.getElem_cons_succ]
  refine wpAnyH_take (i := 48) (v := .bool true) rfl (by kernel_rfl) (by kernel_rfl) (by kernel_rfl) (fun _ _ _ h => h) (Or.inl ⟨by kernel_rfl, ?hy48z⟩) hHeld ?rest48z
  case hy48z => (intro w' hSw; obtain ⟨s0, s1, s2, s3, s4, s5⟩ := act_cells (KC.out _ hSw).2.1; go_simp; try with_reducible rfl)
  try simp only [Act.put, List.setIfInBounds_toArray, List.set_cons_zero, List.set_cons_succ, List.getElem_toArray, List.getElem_cons_zero, List.getElem_cons_succ]
  refine wpAnyH_done (by kernel_rfl) ?_ _
  refine NoPanic.normal ?_
  have OO : Hid (OwnZ wf (w.alloc (.cells #[.int .i64 ak, .int .i64 ai, .int .i64 ar, .int .i64 aq, .int .i64 au, .int .i64 am] 30)).heap.size (.slice a1 n k1) L ∧ L.length = n ∧ Below w.heap.size w wf) := ⟨H3.out.1.keep Bwf.out, HN.out.1, (KC.out _ Bwf.out).1⟩
  have HN8 : Hid (n ≤ 8) := HN.out.2
  clear KM KN KF KG KU KC H3 hHeld xx yy mm ee
  go_wp2_with fail
  go_loopg [81] n (fun g i wi => ∃ (j : Nat) (M : List Int), j ≤ n ∧ g = n - j ∧ i = .int .i64 (j : Int) ∧ Hid (OwnZ wi (w.alloc (.cells #[.int .i64 ak, .int .i64 ai, .int .i64 ar, .int .i64 aq, .int .i64 au, .int .i64 am] 30)).heap.size (.slice a1 n k1) M ∧ M.length = n ∧ Below w.heap.size w wi))
  case atStart => exact ⟨0, L, Nat.zero_le _, rfl, rfl, OO.out⟩
  case round =>
    obtain ⟨j, M, hj, rfl, rfl, RW⟩ := hrel
    clear OO
    by_cases hlt : j < n
    · have j1 : decide ((j : Int) < (n : Int)) = true := by rw [decide_eq_true_eq]; omega
      have j3 : (j : Int) < (n : Int) := by omega
      have j4 : j < n := hlt
      have ri : IntKind.i64.wrap ((j : Int) + 1) = (j : Int) + 1 := by have := HN8.out; rw [IntKind.wrap_i64]; omega
      rename World => wi
      obtain ⟨g, rfl⟩ : ∃ g, a1 = some ⟨g, 0, none⟩ := by
        rcases RW.out.1.2 with ⟨e, hn⟩ | ⟨g, cap, cur, e, _⟩
        · have := RW.out.2.1; omega
        · injection e with e1
          exact ⟨g, e1⟩
      have ho : wi.ownsRow (w.alloc (.cells #[.int .i64 ak, .int .i64 ai, .int .i64 ar, .int .i64 aq, .int .i64 au, .int .i64 am] 30)).heap.size 3 1 (.slice (some ⟨g, 0, none⟩) n k1) n (M.map zi) := by
        have := RW.out.1
        unfold OwnZ at this
        rwa [RW.out.2.1] at this
      obtain ⟨z, hz⟩ : ∃ z, M[j]? = some z := ⟨M[j]'(by rw [RW.out.2.1]; exact hlt), by simp [RW.out.2.1, hlt]⟩
      have d1 := World.ownsRow.cellAt (h := ho) j (by omega)
      rw [List.getElem?_map, hz] at d1
      simp only [Option.map_some, zi] at d1
      have d2 := World.ownsRow.frozenAt (h := ho) j
      have hst := World.ownsRow.stored (h := ho) j (.int .i64 (IntKind.i64.wrap (z + 1)))
      have hg : w.heap.size ≤ g := by
        have := (World.ownsRow.lt ho g rfl).1
        simp at this
        omega
      have NX : Hid (OwnZ (wi.setCell ⟨g, j, none⟩ (.int .i64 (IntKind.i64.wrap (z + 1)))) (w.alloc (.cells #[.int .i64 ak, .int .i64 ai, .int .i64 ar, .int .i64 aq, .int .i64 au, .int .i64 am] 30)).heap.size (.slice (some ⟨g, 0, none⟩) n k1) (M.set j (IntKind.i64.wrap (z + 1))) ∧ (M.set j (IntKind.i64.wrap (z + 1))).length = n ∧ Below w.heap.size w (wi.setCell ⟨g, j, none⟩ (.int .i64 (IntKind.i64.wrap (z + 1))))) := by
        refine ⟨?_, by rw [List.length_set]; exact RW.out.2.1, RW.out.2.2.grown hst.2 RW.out.2.2.size (fun k hk => by cases hk; exact hg)⟩
        unfold OwnZ
        rw [List.length_set, RW.out.2.1, List.map_set]
        exact hst.1
      obtain ⟨zz, hzz⟩ : ∃ zz, zz = IntKind.i64.wrap (z + 1) := ⟨_, rfl⟩
      rw [← hzz] at NX
      have hz2 : IntKind.i64.wrap (z + 1) = zz := hzz.symm
      clear hst ho hz hg hzz hlt
      go_wp2_with fail
      go_roundg (n - (j + 1))
      case measure => omega
      case rel => exact ⟨j + 1, _, by omega, rfl, by push_cast; rfl, NX.out⟩
    · have j1 : decide ((j : Int) < (n : Int)) = false := by rw [decide_eq_false_iff_not]; omega
      have HB : Hid (Below w.heap.size w wr) := RW.out.2.2
      clear RW
      go_wp2_with fail
      go_loopg [12, 14] 10 (fun g v i wi => ∃ q : Nat, q ≤ 10 ∧ g = 10 - q ∧ v = .bool true ∧ i = .int .i64 (q : Int) ∧ Hid (Below w.heap.size w wi))
      case atStart => exact ⟨0, Nat.zero_le _, rfl, rfl, rfl, HB.out⟩
      case round =>
        obtain ⟨q, hq, rfl, rfl, rfl, RJ⟩ := hrel
        clear HB
        rename World => wj
        by_cases hq9 : q < 10
        · have l1 : decide ((q : Int) ≤ 9) = true := by rw [decide_eq_true_eq]; omega
          have rq : IntKind.i64.wrap ((q : Int) + 1) = (q : Int) + 1 := by rw [IntKind.wrap_i64]; omega
          have hqI : InI (q : Int) := by unfold InI; omega
          go_wp2_with fail
          refine (KA.out _ _ RJ.out hqI).mono ?_
          rintro e w5 ⟨a5, k5, rfl, i5, b5⟩
          have H5 : Hid (InZ w5 a5 (sel (fun r => (G ((q : Int), r)).isSome) 6) ∧ Below w.heap.size w w5) := ⟨i5, RJ.out.trans (b5.mono RJ.out.size)⟩
          clear i5 b5 hqI
          go_wp2_with fail
          refine (KB.out _ _ H5.out.2).mono ?_
          rintro e w6 ⟨a6, k6, rfl, i6, b6⟩
          have H6 : Hid (InZ w6 a5 (sel (fun r => (G ((q : Int), r)).isSome) 6) ∧ InZ w6 a6 (sel (fun r => (G ((q : Int), r)).isSome) 6) ∧ Below w.heap.size w w6) := ⟨H5.out.1.keep b6, i6, H5.out.2.trans (b6.mono H5.out.2.size)⟩
          clear i6 b6
          go_wp2_with fail
          refine (samen_true _ a5 a6 _ k5 k6 _ rfl H6.out.1 H6.out.2.1 (by have := sel_len (fun r => (G ((q : Int), r)).isSome) 6; omega)).mono ?_
          rintro e w7 ⟨rfl, b7⟩
          have H7 : Hid (Below w.heap.size w w7) := H6.out.2.2.trans (b7.mono H6.out.2.2.size)
          clear b7
          go_wp2_with fail
          go_roundg (10 - (q + 1))
          case measure => omega
          case rel => exact ⟨q + 1, by omega, rfl, rfl, by push_cast; rfl, H7.out⟩
        · have l1 : decide ((q : Int) ≤ 9) = false := by rw [decide_eq_false_iff_not]; omega
          go_wp2_with fail
          go_ret
          exact ⟨rfl, RJ.out⟩
end Go.Proofs.Ytgfjhghhonaiiaa
