/- CapsNobody: the walk. -/
import Derived.Test.YtgfjhghhonaiiaaCpF
namespace Go.Proofs.Ytgfjhghhonaiiaa
open Go.ChangeShapes Go.WideShapes Go.ChangeAt Go.RowKit Go.Deep Go.Maps
set_option linter.unusedVariables false
set_option linter.unusedSimpArgs false
theorem heap_two (w : World) (o1 o2 : Obj) : ((w.alloc o1).alloc o2).heap[w.heap.size + 1]? = some o2 := by
  have := heap_alloc_new (w.alloc o1) o2
  rwa [show (w.alloc o1).heap.size = w.heap.size + 1 by simp] at this
theorem heap_three (w : World) (o1 o2 o3 : Obj) : (((w.alloc o1).alloc o2).alloc o3).heap[w.heap.size]? = some o1 ∧ (((w.alloc o1).alloc o2).alloc o3).heap[w.heap.size + 1]? = some o2 ∧ (((w.alloc o1).alloc o2).alloc o3).heap[w.heap.size + 1 + 1]? = some o3 ∧ (((w.alloc o1).alloc o2).alloc o3).heap.size = w.heap.size + 1 + 1 + 1 := by
  have s1 : (w.alloc o1).heap.size = w.heap.size + 1 := by simp
  have s2 : ((w.alloc o1).alloc o2).heap.size = w.heap.size + 1 + 1 := by simp
  have s3 : (((w.alloc o1).alloc o2).alloc o3).heap.size = w.heap.size + 1 + 1 + 1 := by simp
  have e3 := heap_alloc_new ((w.alloc o1).alloc o2) o3
  rw [s2] at e3
  refine ⟨?_, ?_, e3, s3⟩
  · exact (Below.heap_alloc _ _ _ (by omega)).trans ((Below.heap_alloc _ _ _ (by omega)).trans (heap_alloc_new w o1))
  · exact (Below.heap_alloc _ _ _ (by omega)).trans (heap_two w o1 o2)
set_option maxRecDepth 100000 in
set_option maxHeartbeats 4000000 in
theorem capsNobody_walk (x0 x1 x2 x3 x4 x5 : Int) (w : World) : Calls Try.prog 4 #[.agg #[.int .i64 x0, .int .i64 x1, .int .i64 x2, .int .i64 x3, .int .i64 x4, .int .i64 x5]] w fun e w' => e = .returned (.bool true) ∧ Below w.heap.size w w' := by
  obtain ⟨W0, hW0⟩ : ∃ W0, W0 = ((w.alloc (.cells #[.int .i64 x0, .int .i64 x1, .int .i64 x2, .int .i64 x3, .int .i64 x4, .int .i64 x5] 30)).alloc (.cells #[.map none, .map none] 41)).alloc (.cells #[.pointer none, .pointer (some ⟨w.heap.size + 1, 0, none⟩)] 23) := ⟨_, rfl⟩
  obtain ⟨q1, q2, q3, q4⟩ := heap_three w (.cells #[.int .i64 x0, .int .i64 x1, .int .i64 x2, .int .i64 x3, .int .i64 x4, .int .i64 x5] 30) (.cells #[.map none, .map none] 41) (.cells #[.pointer none, .pointer (some ⟨w.heap.size + 1, 0, none⟩)] 23)
  rw [← hW0] at q1 q2 q3 q4
  have HW0 : Hid (Below w.heap.size w W0) := by
    show Below _ _ _
    rw [hW0]
    exact (((Below.refl _ _).alloc (Nat.le_refl _) _).alloc (by simp) _).alloc (by simp; omega) _
  have HE : Hid (W0 = ((w.alloc (.cells #[.int .i64 x0, .int .i64 x1, .int .i64 x2, .int .i64 x3, .int .i64 x4, .int .i64 x5] 30)).alloc (.cells #[.map none, .map none] 41)).alloc (.cells #[.pointer none, .pointer (some ⟨w.heap.size + 1, 0, none⟩)] 23)) := hW0
  have c0 : W0.cell? ⟨w.heap.size, 1, none⟩ = some (.int .i64 x1) := by simp [World.cell?, q1]
  have c1 : W0.cell? ⟨w.heap.size, 2, none⟩ = some (.int .i64 x2) := by simp [World.cell?, q1]
  have c2 : W0.cell? ⟨w.heap.size, 3, none⟩ = some (.int .i64 x3) := by simp [World.cell?, q1]
  have c3 : W0.cell? ⟨w.heap.size, 4, none⟩ = some (.int .i64 x4) := by simp [World.cell?, q1]
  have c4 : W0.cell? ⟨w.heap.size, 5, none⟩ = some (.int .i64 x5) := by simp [World.cell?, q1]
  have c5 : W0.cell? ⟨w.heap.size + 1 + 1, 0, none⟩ = some (.pointer none) := by simp [World.cell?, q3]
  have c6 : W0.cell? ⟨w.heap.size + 1 + 1, 1, none⟩ = some (.pointer (some ⟨w.heap.size + 1, 0, none⟩)) := by simp [World.cell?, q3]
  have HN : Hid (∀ v, v = .pointer none ∨ v = .pointer (some ⟨w.heap.size + 1, 0, none⟩) → NoT W0 v) := fun v hv => by
    rcases hv with rfl | rfl
    · exact .inl rfl
    · exact .inr ⟨_, rfl, q2⟩
  have KQ : Hid (∀ W v, W = W0 → (v = .pointer none ∨ v = .pointer (some ⟨w.heap.size + 1, 0, none⟩)) → Calls Try.prog 15 #[v, .int .i64 x1] W fun e w' => e = .returned (.tuple #[.int .i64 0, .bool false]) ∧ w' = W) := fun W v hW hv => by rw [hW]; exact quota_none W0 v (HN.out v hv) x1
  have KT : Hid (∀ W v, W = W0 → (v = .pointer none ∨ v = .pointer (some ⟨w.heap.size + 1, 0, none⟩)) → Calls Try.prog 10 #[v, .int .i64 x1, .int .i64 x3] W fun e w' => e = .returned (.int .i64 1) ∧ w' = W) := fun W v hW hv => by rw [hW]; exact tenant_none W0 v (HN.out v hv) x1 x3
  have KG : Hid (∀ W v, W = W0 → (v = .pointer none ∨ v = .pointer (some ⟨w.heap.size + 1, 0, none⟩)) → Calls Try.prog 11 #[v, .int .i64 x1, .int .i64 x2] W fun e w' => e = .returned (.int .i64 1) ∧ w' = W) := fun W v hW hv => by rw [hW]; exact grant_none W0 v (HN.out v hv) x1 x2
  have KR : Hid (∀ W v, W = W0 → (v = .pointer none ∨ v = .pointer (some ⟨w.heap.size + 1, 0, none⟩)) → Calls Try.prog 16 #[v, .int .i64 x1, .int .i64 x2] W fun e w' => e = .returned (.int .i64 1) ∧ w' = W) := fun W v hW hv => by rw [hW]; exact revoke_none W0 v (HN.out v hv) x1 x2
  have KM : Hid (∀ W v, W = W0 → (v = .pointer none ∨ v = .pointer (some ⟨w.heap.size + 1, 0, none⟩)) → Calls Try.prog 17 #[v, .int .i64 x1, .int .i64 x2] W fun e w' => e = .returned (.bool false) ∧ w' = W) := fun W v hW hv => by rw [hW]; exact may_none W0 v (HN.out v hv) x1 x2
  have KF : Hid (∀ W v, W = W0 → (v = .pointer none ∨ v = .pointer (some ⟨w.heap.size + 1, 0, none⟩)) → Calls Try.prog 18 #[v, .int .i64 x1, .int .i64 x4, .int .i64 x5] W fun e w' => e = .returned (.int .i64 1) ∧ w' = W) := fun W v hW hv => by rw [hW]; exact fits_none W0 v (HN.out v hv) x1 x4 x5
  have KA : Hid (∀ W v, W = W0 → (v = .pointer none ∨ v = .pointer (some ⟨w.heap.size + 1, 0, none⟩)) → Calls Try.prog 19 #[v] W fun e w' => e = .returned (.slice none 0 0) ∧ w' = W) := fun W v hW hv => by rw [hW]; exact tenants_none W0 v (HN.out v hv) 
  have KB : Hid (∀ W v, W = W0 → (v = .pointer none ∨ v = .pointer (some ⟨w.heap.size + 1, 0, none⟩)) → Calls Try.prog 20 #[v, .int .i64 x1] W fun e w' => e = .returned (.slice none 0 0) ∧ w' = W) := fun W v hW hv => by rw [hW]; exact roots_none W0 v (HN.out v hv) x1
  have KC : Hid (∀ W v, W = W0 → (v = .pointer none ∨ v = .pointer (some ⟨w.heap.size + 1, 0, none⟩)) → Calls Try.prog 9 #[v] W fun e w' => e = .returned (.pointer none) ∧ w' = W) := fun W v hW hv => by rw [hW]; exact copy_none W0 v (HN.out v hv) 
  have KW : Hid (∀ u, Calls Try.prog 14 #[] u fun e w' => e = .returned (.bool true) ∧ Below u.heap.size u w') := cworks_true
  clear hW0 q1 q2 q3 q4
  go_enter Try.func4, Try.ntmps4
  go_wp2_with fail
  go_loopg [11] 2 (fun g i wr => ∃ j : Nat, j ≤ 2 ∧ g = 2 - j ∧ i = .int .i64 (j : Int) ∧ Hid (wr = W0))
  case atStart => exact ⟨0, Nat.zero_le _, rfl, rfl, HE.out.symm⟩
  case round =>
    obtain ⟨j, hj, rfl, rfl, R0⟩ := hrel
    clear HE
    obtain rfl := R0.out
    rcases (by omega : j = 0 ∨ j = 1 ∨ j = 2) with rfl | rfl | rfl
    · go_wp2_with fail
      refine (KQ.out _ _ rfl (.inl rfl)).mono ?_
      rintro e w1 ⟨rfl, hw⟩
      obtain rfl := hw.symm
      clear hw
      go_wp2_with fail
      refine (KT.out _ _ rfl (.inl rfl)).mono ?_
      rintro e w1 ⟨rfl, hw⟩
      obtain rfl := hw.symm
      clear hw
      go_wp2_with fail
      refine (KG.out _ _ rfl (.inl rfl)).mono ?_
      rintro e w1 ⟨rfl, hw⟩
      obtain rfl := hw.symm
      clear hw
      go_wp2_with fail
      refine (KR.out _ _ rfl (.inl rfl)).mono ?_
      rintro e w1 ⟨rfl, hw⟩
      obtain rfl := hw.symm
      clear hw
      go_wp2_with fail
      refine (KM.out _ _ rfl (.inl rfl)).mono ?_
      rintro e w1 ⟨rfl, hw⟩
      obtain rfl := hw.symm
      clear hw
      go_wp2_with fail
      refine (KF.out _ _ rfl (.inl rfl)).mono ?_
      rintro e w1 ⟨rfl, hw⟩
      obtain rfl := hw.symm
      clear hw
      go_wp2_with fail
      refine (KA.out _ _ rfl (.inl rfl)).mono ?_
      rintro e w1 ⟨rfl, hw⟩
      obtain rfl := hw.symm
      clear hw
      go_wp2_with fail
      refine (KB.out _ _ rfl (.inl rfl)).mono ?_
      rintro e w1 ⟨rfl, hw⟩
      obtain rfl := hw.symm
      clear hw
      go_wp2_with fail
      refine (KC.out _ _ rfl (.inl rfl)).mono ?_
      rintro e w1 ⟨rfl, hw⟩
      obtain rfl := hw.symm
      clear hw
      go_wp2_with fail
      go_roundg 1
      case measure => omega
      case rel => exact ⟨1, by omega, rfl, by go_num, rfl⟩
    · go_wp2_with fail
      refine (KQ.out _ _ rfl (.inr rfl)).mono ?_
      rintro e w1 ⟨rfl, hw⟩
      obtain rfl := hw.symm
      clear hw
      go_wp2_with fail
      refine (KT.out _ _ rfl (.inr rfl)).mono ?_
      rintro e w1 ⟨rfl, hw⟩
      obtain rfl := hw.symm
      clear hw
      go_wp2_with fail
      refine (KG.out _ _ rfl (.inr rfl)).mono ?_
      rintro e w1 ⟨rfl, hw⟩
      obtain rfl := hw.symm
      clear hw
      go_wp2_with fail
      refine (KR.out _ _ rfl (.inr rfl)).mono ?_
      rintro e w1 ⟨rfl, hw⟩
      obtain rfl := hw.symm
      clear hw
      go_wp2_with fail
      refine (KM.out _ _ rfl (.inr rfl)).mono ?_
      rintro e w1 ⟨rfl, hw⟩
      obtain rfl := hw.symm
      clear hw
      go_wp2_with fail
      refine (KF.out _ _ rfl (.inr rfl)).mono ?_
      rintro e w1 ⟨rfl, hw⟩
      obtain rfl := hw.symm
      clear hw
      go_wp2_with fail
      refine (KA.out _ _ rfl (.inr rfl)).mono ?_
      rintro e w1 ⟨rfl, hw⟩
      obtain rfl := hw.symm
      clear hw
      go_wp2_with fail
      refine (KB.out _ _ rfl (.inr rfl)).mono ?_
      rintro e w1 ⟨rfl, hw⟩
      obtain rfl := hw.symm
      clear hw
      go_wp2_with fail
      refine (KC.out _ _ rfl (.inr rfl)).mono ?_
      rintro e w1 ⟨rfl, hw⟩
      obtain rfl := hw.symm
      clear hw
      go_wp2_with fail
      go_roundg 0
      case measure => omega
      case rel => exact ⟨2, by omega, rfl, by go_num, rfl⟩
    · go_wp2_with fail
      refine (KW.out _).mono ?_
      rintro e w3 ⟨rfl, hb3⟩
      have HB3 : Hid (Below w.heap.size w w3) := HW0.out.trans (hb3.mono HW0.out.size)
      clear hb3
      go_wp2_with fail
      go_ret
      exact ⟨rfl, HB3.out⟩
end Go.Proofs.Ytgfjhghhonaiiaa
