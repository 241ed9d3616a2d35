/- coord: New, State, Lacks, toThoseWhoLack (gen_cot.py). A drawn region whose last operations write what its reads read: the condition S is asked behind every operation but those of a list E, each of which waits for whatever is taken first. -/
import Derived.Test.YthaeidbnbgghkaaMgCz7
import Derived.Test.YthaeidbnbgghkaaRows
import Derived.Deep.RegionHeld3
namespace Go.Proofs.Ythaeidbnbgghkaa
open Go.ChangeShapes Go.WideShapes Go.ChangeAt Go.RowKit Go.Deep Go.Maps
set_option linter.unusedVariables false
set_option linter.unusedSimpArgs false
/-- what turns F may, and what is new -/
structure Stp (F G : Nat → Prop) (w w' : World) : Prop where
  off : Off F w w'
  sub : ∀ k, G k → F k ∨ w.heap.size ≤ k
theorem Stp.refl (F : Nat → Prop) (w : World) : Stp F F w w := ⟨Off.refl F w, fun _ h => .inl h⟩
theorem Stp.trans {F G K : Nat → Prop} {a w w' : World} (h : Stp F G a w) (g : Stp G K w w') : Stp F K a w' :=
  ⟨h.off.trans g.off h.sub, fun k hk => by
    rcases g.sub k hk with e | e
    · exact h.sub k e
    · exact .inr (Nat.le_trans h.off.size e)⟩
theorem Stp.below {F : Nat → Prop} {w w' : World} (h : Below w.heap.size w w') : Stp F F w w' := ⟨Off.ofBelow F h, fun _ h => .inl h⟩
theorem Stp.bel {F G : Nat → Prop} {w w' : World} {z : Nat} (h : Stp F G w w') (hF : ∀ k, F k → z ≤ k) (hz : z ≤ w.heap.size) : Below z w w' ∧ ∀ k, G k → z ≤ k := ⟨h.off.below hF hz, fun k hk => by
  rcases h.sub k hk with e | e
  · exact hF k e
  · omega⟩
/-- a transaction's cells -/
theorem tr_cells {w : World} {g : Nat} {a b c d e : Value} {t : TypeId} (h : w.heap[g]? = some (.cells #[a, b, c, d, e] t)) : w.cell? ⟨g, 0, none⟩ = some a ∧ w.cell? ⟨g, 1, none⟩ = some b ∧ w.cell? ⟨g, 2, none⟩ = some c ∧ w.cell? ⟨g, 3, none⟩ = some d ∧ w.cell? ⟨g, 4, none⟩ = some e := by
  refine ⟨?_, ?_, ?_, ?_, ?_⟩ <;> simp [World.cell?, h]
theorem TrAt.open {w : World} {F : Nat → Prop} {y : Nat × Option Nat} {q : Int} {x : Tr} (h : TrAt w F y q x) : ∃ ra rc la lc P, w.heap[y.1]? = some (.cells #[.int .i64 q, .int .i64 x.st, .int .i64 x.age, .slice ra x.rts.length rc, .slice la x.lk.length lc] 75) ∧ InZ w ra x.rts ∧ InPv w la P ∧ P.length = x.lk.length ∧ (∀ p ∈ P, NewSt w 0 p.a p.n p.c p.M) ∧ P.map (fun p => (p.r, p.co)) = x.lk ∧ (Value.slice la x.lk.length lc).ownBlock = y.2 ∧ OwnPv w 0 (.slice la x.lk.length lc) P := by
  obtain ⟨vr, vl, P, h1, h2, h3, h4, h5, h6, _⟩ := h
  obtain ⟨ra, rc, hv, z1, _⟩ := h3.slice
  obtain ⟨la, lc, hl, p1, _⟩ := h4.slice (fun p hp => (h5 p hp).st)
  have hlen : P.length = x.lk.length := by rw [← h6, List.length_map]
  rw [hlen] at hl
  subst hv hl
  exact ⟨ra, rc, la, lc, P, h1, z1, p1, hlen, h5, h6, h2, h4⟩
set_option maxRecDepth 100000 in
set_option maxHeartbeats 4000000 in
theorem new_bad (w : World) (l : Int) (hl : l < 1 ∨ 1000 < l) : Calls Try.prog 8 #[.int .i64 l] w fun e w' => e = .returned (.pointer none) ∧ w' = w := by
  by_cases h1 : l < 1
  · have d1 : decide (l < (1 : Int)) = true := decide_eq_true h1
    clear hl h1
    go_enter Try.func8, Try.ntmps8
    go_wp2_with fail
    go_ret
    exact ⟨rfl, rfl⟩
  · have d1 : decide (l < (1 : Int)) = false := decide_eq_false h1
    have d2 : decide ((1000 : Int) < l) = true := decide_eq_true (by omega)
    clear hl h1
    go_enter Try.func8, Try.ntmps8
    go_wp2_with fail
    go_ret
    exact ⟨rfl, rfl⟩
theorem cd_new (w : World) (l : Int) : Cd ((w.alloc (.map #[] 0)).alloc (.cells #[.int .i64 l, .map (some w.heap.size)] 31)) (fun k => k = w.heap.size ∨ k = w.heap.size + 1) (w.heap.size + 1) l 0 w.heap.size (fun _ => none) (fun _ => none) ∧ Below w.heap.size w ((w.alloc (.map #[] 0)).alloc (.cells #[.int .i64 l, .map (some w.heap.size)] 31)) := by
  have b1 := below1 w (.map #[] 0)
  have b2 := below1 (w.alloc (.map #[] 0)) (.cells #[.int .i64 l, .map (some w.heap.size)] 31)
  have hs : (w.alloc (.map #[] 0)).heap.size = w.heap.size + 1 := by simp
  have hs2 : ((w.alloc (.map #[] 0)).alloc (.cells #[.int .i64 l, .map (some w.heap.size)] 31)).heap.size = w.heap.size + 2 := by simp
  refine ⟨⟨?_, ?_, .inr rfl, .inl rfl, fun k hk => (by rw [hs2]; rcases hk with rfl | rfl <;> omega), fun q x hx => (by cases hx), fun _ _ => rfl, fun q q' y y' hy => (by cases hy), fun q q' y y' k hy => (by cases hy)⟩, b1.trans (b2.mono b1.size)⟩
  · have := heap_alloc_new (w.alloc (.map #[] 0)) (.cells #[.int .i64 l, .map (some w.heap.size)] 31)
    rw [hs] at this
    exact this
  · exact (ScP.empty w).keep b2
set_option maxRecDepth 100000 in
set_option maxHeartbeats 4000000 in
theorem new_ok (w : World) (l : Int) (hl : 1 ≤ l ∧ l ≤ 1000) : Calls Try.prog 8 #[.int .i64 l] w fun e w' => ∃ b m F, e = .returned (.pointer (some ⟨b, 0, none⟩)) ∧ Cd w' F b l 0 m (fun _ => none) (fun _ => none) ∧ Below w.heap.size w w' ∧ ∀ k, F k → w.heap.size ≤ k := by
  have d1 : decide (l < (1 : Int)) = false := decide_eq_false (by omega)
  have d2 : decide ((1000 : Int) < l) = false := decide_eq_false (by omega)
  have HC := cd_new w l
  have HC : Hid _ := HC
  have hm1 : ∀ W : World, (Instr.makeMap 29 none).run Try.prog W = .ok (.map (some W.heap.size)) (W.alloc (.map #[] 0)) := fun W => rfl
  clear hl
  go_enter Try.func8, Try.ntmps8
  go_wp2_with fail
  go_ret
  exact ⟨_, _, _, rfl, HC.out.1, HC.out.2, fun k hk => by rcases hk with rfl | rfl <;> omega⟩
theorem Cd.look {w : World} {F : Nat → Prop} {b : Nat} {lim : Int} {n m : Nat} {B : Int → Option (Nat × Option Nat)} {X : Int → Option Tr} (h : Cd w F b lim n m B X) {q : Int} (hq : InI q) (e : X q = none) : (Instr.lookup 29 (.map (some m)) (Value.int .i64 q) false).run Try.prog w = .ok (.pointer none) w := by
  have hlk := h.map.look q hq
  rw [h.no q e] at hlk
  exact hlk
theorem Cd.find {w : World} {F : Nat → Prop} {b : Nat} {lim : Int} {n m : Nat} {B : Int → Option (Nat × Option Nat)} {X : Int → Option Tr} (h : Cd w F b lim n m B X) {q : Int} {x : Tr} (e : X q = some x) : ∃ y, B q = some y ∧ TrAt w F y q x ∧ (Instr.lookup 29 (.map (some m)) (Value.int .i64 q) false).run Try.prog w = .ok (.pointer (some ⟨y.1, 0, none⟩)) w := by
  obtain ⟨hq, y, h1, h2⟩ := h.each q x e
  have hlk := h.map.look q hq
  simp only [h1] at hlk
  exact ⟨y, h1, h2, hlk⟩
set_option maxRecDepth 100000 in
set_option maxHeartbeats 4000000 in
theorem state_is (w : World) (F : Nat → Prop) (b : Nat) (lim : Int) (n m : Nat) (B : Int → Option (Nat × Option Nat)) (X : Int → Option Tr) (h : Cd w F b lim n m B X) (q : Int) (hq : InI q) :
    Calls Try.prog 18 #[.pointer (some ⟨b, 0, none⟩), .int .i64 q] w fun e w' => e = .returned (.int .i64 ((X q).elim 0 Tr.st)) ∧ w' = w := by
  have K : Hid (Calls Try.prog 30 #[.pointer (some ⟨b, 0, none⟩)] w fun e w' => e = .returned (.bool false) ∧ w' = w) := isNone_co w b lim m h.box
  obtain ⟨c0, c1⟩ := h.box.cells
  cases e : X q with
  | none =>
    have hlk := h.look hq e
    clear h e hq
    go_enter Try.func18, Try.ntmps18
    go_wp2_with fail
    refine K.out.mono ?_
    rintro e w1 ⟨rfl, hw⟩
    obtain rfl := hw.symm
    clear hw K
    go_wp2_with fail
    go_ret
    exact ⟨rfl, rfl⟩
  | some x =>
    obtain ⟨⟨y1, y2⟩, hy, ht, hlk⟩ := h.find e
    obtain ⟨ra, rc, la, lc, P, hb, hz, hp, hpl, hnew, hco, hob, hown⟩ := ht.open
    obtain ⟨t0, t1, t2, t3, t4⟩ := tr_cells hb
    simp only at t0 t1 t2 t3 t4 hlk
    simp only [Option.elim]
    generalize x.rts.length = nr at *
    generalize x.lk.length = nl at *
    clear h e hq hy ht hb hz hp hpl hnew hco hob hown
    go_enter Try.func18, Try.ntmps18
    go_wp2_with fail
    refine K.out.mono ?_
    rintro e w1 ⟨rfl, hw⟩
    obtain rfl := hw.symm
    clear hw K
    go_wp2_with fail
    go_ret
    exact ⟨rfl, rfl⟩
set_option maxRecDepth 100000 in
set_option maxHeartbeats 4000000 in
theorem lacks_is (w : World) (F : Nat → Prop) (b : Nat) (lim : Int) (n m : Nat) (B : Int → Option (Nat × Option Nat)) (X : Int → Option Tr) (h : Cd w F b lim n m B X) (q : Int) (hq : InI q) (hN : ∀ x, X q = some x → x.lk.length ≤ 1000) :
    Calls Try.prog 19 #[.pointer (some ⟨b, 0, none⟩), .int .i64 q] w fun e w' => ∃ V, e = .returned V ∧ OwnZ w' w.heap.size V ((X q).elim [] fun x => x.lk.map Prod.fst) ∧ Below w.heap.size w w' := by
  have K : Hid (Calls Try.prog 30 #[.pointer (some ⟨b, 0, none⟩)] w fun e w' => e = .returned (.bool false) ∧ w' = w) := isNone_co w b lim m h.box
  obtain ⟨c0, c1⟩ := h.box.cells
  cases e : X q with
  | none =>
    have hlk := h.look hq e
    clear h e hq
    go_enter Try.func19, Try.ntmps19
    go_wp2_with fail
    refine K.out.mono ?_
    rintro e w1 ⟨rfl, hw⟩
    obtain rfl := hw.symm
    clear hw K
    go_wp2_with fail
    go_ret
    exact ⟨_, rfl, OwnZ.nil _ _, Below.refl _ _⟩
  | some x =>
    obtain ⟨⟨y1, y2⟩, hy, ht, hlk⟩ := h.find e
    obtain ⟨ra, rc, la, lc, P, hb, hz, hp, hpl, hnew, hco, hob, hown⟩ := ht.open
    obtain ⟨t0, t1, t2, t3, t4⟩ := tr_cells hb
    simp only at t0 t1 t2 t3 t4 hlk
    have KR : Hid (Calls Try.prog 26 #[.slice la x.lk.length lc] w fun e w' => ∃ V, e = .returned V ∧ OwnZ w' w.heap.size V (x.lk.map Prod.fst) ∧ Below w.heap.size w w') := by
      have h := rootsOf_is w la x.lk.length lc _ hp.rl (by rw [List.length_map]; exact hpl) (by have := hN x e; omega)
      rw [List.map_map, show P.map (Rl.r ∘ fun x => ⟨x.r, x.a, x.n, x.c⟩) = x.lk.map Prod.fst by rw [← hco, List.map_map]; rfl] at h
      exact h
    simp only [Option.elim]
    generalize x.rts.length = nr at *
    generalize x.lk.length = nl at *
    clear h e hq hy ht hb hz hp hpl hnew hco hob hown hN
    go_enter Try.func19, Try.ntmps19
    go_wp2_with fail
    refine K.out.mono ?_
    rintro e w1 ⟨rfl, hw⟩
    obtain rfl := hw.symm
    clear hw K
    go_wp2_with fail
    refine KR.out.mono ?_
    rintro e w2 ⟨V, rfl, o2, b2⟩
    have O2 : Hid (OwnZ w2 w.heap.size V (x.lk.map Prod.fst) ∧ Below w.heap.size w w2) := ⟨o2, b2⟩
    clear o2 b2 KR
    go_wp2_with fail
    go_ret
    exact ⟨_, rfl, O2.out⟩
theorem one_cellK {w : World} {g : Nat} {x : Value} {t : TypeId} (h : w.heap[g]? = some (.cells #[x] t)) : w.cell? ⟨g, 0, none⟩ = some x := by simp [World.cell?, h]
set_option maxRecDepth 100000 in
set_option maxHeartbeats 4000000 in
theorem tlack_is (w : World) (F : Nat → Prop) (y : Nat × Option Nat) (q : Int) (x : Tr) (h : TrAt w F y q x) (hN : x.lk.length ≤ 1000) :
    Calls Try.prog 31 #[.pointer (some ⟨y.1, 0, none⟩)] w fun e w' => ∃ V Q, e = .returned V ∧ Ltr w.heap.size w' V (if x.st = 3 then 3 else 1) q Q ∧ Q.map (fun p => (p.r, p.co)) = x.lk ∧ Below w.heap.size w w' := by
  obtain ⟨y1, y2⟩ := y
  obtain ⟨ra, rc, la, lc, P, hb, hz, hp, hpl, hnew, hco, hob, hown⟩ := h.open
  obtain ⟨t0, t1, t2, t3, t4⟩ := tr_cells hb
  simp only at t0 t1 t2 t3 t4
  obtain ⟨kd, hkd⟩ : ∃ kd, kd = if x.st = 3 then (3 : Int) else 1 := ⟨_, rfl⟩
  rw [← hkd]
  have KL : Hid (Calls Try.prog 38 #[.int .i64 kd, .int .i64 q] w.drew fun e w' => e = .returned (.func (.func 52) #[] #[.pointer (some ⟨w.heap.size, 0, none⟩), .pointer (some ⟨w.heap.size + 1, 0, none⟩)]) ∧ w' = (w.drew.alloc (.cells #[.int .i64 kd] 3)).alloc (.cells #[.int .i64 q] 3)) := letters_is w.drew kd q
  have hwb : Below w.heap.size w ((w.drew.alloc (.cells #[.int .i64 kd] 3)).alloc (.cells #[.int .i64 q] 3)) := by
    have b1 := below1 w.drew (.cells #[.int .i64 kd] 3)
    have b2 := below1 (w.drew.alloc (.cells #[.int .i64 kd] 3)) (.cells #[.int .i64 q] 3)
    exact ((Below.refl _ w).drew.trans b1).trans (b2.mono b1.size)
  have HWB : Hid (Below w.heap.size w ((w.drew.alloc (.cells #[.int .i64 kd] 3)).alloc (.cells #[.int .i64 q] 3))) := hwb
  have K1 : Hid (Calls Try.prog 52 #[.slice la x.lk.length lc, .pointer (some ⟨w.heap.size, 0, none⟩), .pointer (some ⟨w.heap.size + 1, 0, none⟩)] ((w.drew.alloc (.cells #[.int .i64 kd] 3)).alloc (.cells #[.int .i64 q] 3)) fun e w' => ∃ V Q, e = .returned V ∧ Ltr w.heap.size w' V kd q Q ∧ Q.map (fun p => (p.r, p.co)) = x.lk ∧ Below w.heap.size w w') := by
    have b2 := below1 (w.drew.alloc (.cells #[.int .i64 kd] 3)) (.cells #[.int .i64 q] 3)
    have g1 := (b2.block w.heap.size (by simp)).trans (heap_alloc_new w.drew (.cells #[.int .i64 kd] 3))
    have g2 := heap_alloc_new (w.drew.alloc (.cells #[.int .i64 kd] 3)) (.cells #[.int .i64 q] 3)
    rw [show (w.drew.alloc (.cells #[.int .i64 kd] 3)).heap.size = w.heap.size + 1 by simp] at g2
    refine (letters1_is _ la x.lk.length lc P (hp.keep hwb) hpl (by omega) (fun p hp => (hnew p hp).st.keep hwb) w.heap.size (w.heap.size + 1) kd q (one_cellK g1) (one_cellK g2) (lt_of_heapK g1) (lt_of_heapK g2)).mono ?_
    rintro e w' ⟨V, Q, rfl, h1, h2, h3⟩
    exact ⟨V, Q, rfl, h1.base hwb.size, by rw [h2, hco], hwb.trans (h3.mono hwb.size)⟩
  generalize x.lk.length = nl at *
  generalize x.rts.length = nr at *
  have HC : Hid (w.cell? ⟨y1, 0, none⟩ = some (.int .i64 q) ∧ w.cell? ⟨y1, 4, none⟩ = some (.slice la nl lc) ∧ y1 < w.heap.size) := ⟨t0, t4, lt_of_heapK hb⟩
  clear h hb hz hp hpl hnew hco hob hown hwb
  by_cases h3 : x.st = 3
  · have e3 : (x.st == 3) = true := by simp [h3]
    obtain rfl : kd = 3 := hkd.trans (if_pos h3)
    clear h3 hkd t2 t3
    go_enter Try.func31, Try.ntmps31
    go_wp2_with fail
    refine wp_region_noPanic ?_
    refine wp_region_held_drew (S := (fun W : World => Below w.heap.size w W)) (by kernel_rfl) ?hSat3 (fun hHeld => ?restat3)
    case hSat3 => exact (Below.refl _ w).drew
    case restat3 =>
      refine wpAnyH_take (i := 0) (v := .int .i64 3) rfl (by kernel_rfl) (by kernel_rfl) (by kernel_rfl) (fun _ _ _ h => h) (Or.inl ⟨by kernel_rfl, ?hy0t3⟩) hHeld ?rest0t3
      case hy0t3 => (intro w' hSw; (try dsimp only at hSw); go_simp; try with_reducible rfl)
      try simp only [Act.put, List.setIfInBounds_toArray, List.set_cons_zero, List.set_cons_succ, List.getElem_toArray, List.getElem_cons_zero, List.getElem_cons_succ]
      refine wpAnyH_take (i := 1) (v := .pointer (some ⟨y1, 0, none⟩)) rfl (by kernel_rfl) (by kernel_rfl) (by kernel_rfl) (fun _ _ _ h => h) (Or.inl ⟨by kernel_rfl, ?hy1t3⟩) hHeld ?rest1t3
      case hy1t3 => (intro w' hSw; (try dsimp only at hSw); go_simp; try with_reducible rfl)
      try simp only [Act.put, List.setIfInBounds_toArray, List.set_cons_zero, List.set_cons_succ, List.getElem_toArray, List.getElem_cons_zero, List.getElem_cons_succ]
      refine wpAnyH_take (i := 2) (v := .pointer (some ⟨y1, 0, none⟩)) rfl (by kernel_rfl) (by kernel_rfl) (by kernel_rfl) (fun _ _ _ h => h) (Or.inl ⟨by kernel_rfl, ?hy2t3⟩) hHeld ?rest2t3
      case hy2t3 => (intro w' hSw; (try dsimp only at hSw); go_simp; try with_reducible rfl)
      try simp only [Act.put, List.setIfInBounds_toArray, List.set_cons_zero, List.set_cons_succ, List.getElem_toArray, List.getElem_cons_zero, List.getElem_cons_succ]
      refine wpAnyH_take (i := 3) (v := .pointer (some ⟨y1, 0, none⟩)) rfl (by kernel_rfl) (by kernel_rfl) (by kernel_rfl) (fun _ _ _ h => h) (Or.inl ⟨by kernel_rfl, ?hy3t3⟩) hHeld ?rest3t3
      case hy3t3 => (intro w' hSw; (try dsimp only at hSw); go_simp; try with_reducible rfl)
      try simp only [Act.put, List.setIfInBounds_toArray, List.set_cons_zero, List.set_cons_succ, List.getElem_toArray, List.getElem_cons_zero, List.getElem_cons_succ]
      refine wpAnyH_take (i := 4) (v := .int .i64 q) rfl (by kernel_rfl) (by kernel_rfl) (by kernel_rfl) (fun _ _ _ h => h) (Or.inl ⟨by kernel_rfl, ?hy4t3⟩) hHeld ?rest4t3
      case hy4t3 => (intro w' hSw; (try dsimp only at hSw); have p0 := (hSw.cell (p := ⟨y1, 0, none⟩) HC.out.2.2).trans HC.out.1; have p4 := (hSw.cell (p := ⟨y1, 4, none⟩) HC.out.2.2).trans HC.out.2.1; go_simp; try with_reducible rfl)
      try simp only [Act.put, List.setIfInBounds_toArray, List.set_cons_zero, List.set_cons_succ, List.getElem_toArray, List.getElem_cons_zero, List.getElem_cons_succ]
      refine wpAnyH_take (i := 6) (v := .pointer (some ⟨y1, 0, none⟩)) rfl (by kernel_rfl) (by kernel_rfl) (by kernel_rfl) (fun _ _ _ h => h) (Or.inl ⟨by kernel_rfl, ?hy6t3⟩) hHeld ?rest6t3
      case hy6t3 => (intro w' hSw; (try dsimp only at hSw); go_simp; try with_reducible rfl)
      try simp only [Act.put, List.setIfInBounds_toArray, List.set_cons_zero, List.set_cons_succ, List.getElem_toArray, List.getElem_cons_zero, List.getElem_cons_succ]
      refine wpAnyH_take (i := 7) (v := .pointer (some ⟨y1, 0, none⟩)) rfl (by kernel_rfl) (by kernel_rfl) (by kernel_rfl) (fun _ _ _ h => h) (Or.inl ⟨by kernel_rfl, ?hy7t3⟩) hHeld ?rest7t3
      case hy7t3 => (intro w' hSw; (try dsimp only at hSw); go_simp; try with_reducible rfl)
      try simp only [Act.put, List.setIfInBounds_toArray, List.set_cons_zero, List.set_cons_succ, List.getElem_toArray, List.getElem_cons_zero, List.getElem_cons_succ]
      refine wpAnyH_take (i := 8) (v := .pointer (some ⟨y1, 4, none⟩)) rfl (by kernel_rfl) (by kernel_rfl) (by kernel_rfl) (fun _ _ _ h => h) (Or.inl ⟨by kernel_rfl, ?hy8t3⟩) hHeld ?rest8t3
      case hy8t3 => (intro w' hSw; (try dsimp only at hSw); go_simp; try with_reducible rfl)
      try simp only [Act.put, List.setIfInBounds_toArray, List.set_cons_zero, List.set_cons_succ, List.getElem_toArray, List.getElem_cons_zero, List.getElem_cons_succ]
      refine wpAnyH_take (i := 9) (v := .slice la nl lc) rfl (by kernel_rfl) (by kernel_rfl) (by kernel_rfl) (fun _ _ _ h => h) (Or.inl ⟨by kernel_rfl, ?hy9t3⟩) hHeld ?rest9t3
      case hy9t3 => (intro w' hSw; (try dsimp only at hSw); have p0 := (hSw.cell (p := ⟨y1, 0, none⟩) HC.out.2.2).trans HC.out.1; have p4 := (hSw.cell (p := ⟨y1, 4, none⟩) HC.out.2.2).trans HC.out.2.1; go_simp; try with_reducible rfl)
      try simp only [Act.put, List.setIfInBounds_toArray, List.set_cons_zero, List.set_cons_succ, List.getElem_toArray, List.getElem_cons_zero, List.getElem_cons_succ]
      refine wpAnyH_ready (rs := [5]) (by kernel_rfl) (by simp) ?_
      refine AllReadyH.cons rfl (fun K hK => ?_) AllReadyH.nil
      go_simp
      refine KL.out.mono ?_
      rintro e5 w5 ⟨rfl, h5⟩
      have B5 : Hid (Below w.heap.size w w5) := by rw [h5]; exact HWB.out
      rw [← h5] at K1
      clear h5
      go_wp2_with fail
      refine hK.out _ _ ?hS5t3 (fun hHeld => ?rest5t3)
      case hS5t3 => exact B5.out
      clear hK K
      try simp only [Act.put, List.setIfInBounds_toArray, List.set_cons_zero, List.set_cons_succ, List.getElem_toArray, List.getElem_cons_zero, List.getElem_cons_succ]
      refine wpAnyH_ready (rs := [10]) (by kernel_rfl) (by simp) ?_
      refine AllReadyH.cons rfl (fun K hK => ?_) AllReadyH.nil
      go_simp
      refine K1.out.mono ?_
      rintro e6 w6 ⟨V, Q, rfl, l6, q6, b6⟩
      have X6 : Hid (Ltr w.heap.size w6 V 3 q Q ∧ Q.map (fun p => (p.r, p.co)) = x.lk ∧ Below w.heap.size w w6) := ⟨l6, q6, b6⟩
      clear l6 q6 b6
      go_wp2_with fail
      refine hK.out _ _ ?hS10t3 (fun hHeld => ?rest10t3)
      case hS10t3 => exact X6.out.2.2
      clear hK K
      try simp only [Act.put, List.setIfInBounds_toArray, List.set_cons_zero, List.set_cons_succ, List.getElem_toArray, List.getElem_cons_zero, List.getElem_cons_succ]
      refine wpAnyH_take (i := 11) (v := V) rfl (by kernel_rfl) (by kernel_rfl) (by kernel_rfl) (fun _ _ _ h => h) (Or.inl ⟨by kernel_rfl, ?hy11t3⟩) hHeld ?rest11t3
      case hy11t3 => (intro w' hSw; (try dsimp only at hSw); go_simp; try with_reducible rfl)
      try simp only [Act.put, List.setIfInBounds_toArray, List.set_cons_zero, List.set_cons_succ, List.getElem_toArray, List.getElem_cons_zero, List.getElem_cons_succ]
      refine wpAnyH_done (by kernel_rfl) ?_ _
      refine NoPanic.normal ?_
      try go_wp2_with fail
      go_ret
      exact ⟨_, Q, rfl, X6.out⟩
  · have e3 : (x.st == 3) = false := by simp [h3]
    obtain rfl : kd = 1 := hkd.trans (if_neg h3)
    clear h3 hkd t2 t3
    go_enter Try.func31, Try.ntmps31
    go_wp2_with fail
    refine wp_region_noPanic ?_
    refine wp_region_held_drew (S := (fun W : World => Below w.heap.size w W)) (by kernel_rfl) ?hSat1 (fun hHeld => ?restat1)
    case hSat1 => exact (Below.refl _ w).drew
    case restat1 =>
      refine wpAnyH_take (i := 0) (v := .int .i64 1) rfl (by kernel_rfl) (by kernel_rfl) (by kernel_rfl) (fun _ _ _ h => h) (Or.inl ⟨by kernel_rfl, ?hy0t1⟩) hHeld ?rest0t1
      case hy0t1 => (intro w' hSw; (try dsimp only at hSw); go_simp; try with_reducible rfl)
      try simp only [Act.put, List.setIfInBounds_toArray, List.set_cons_zero, List.set_cons_succ, List.getElem_toArray, List.getElem_cons_zero, List.getElem_cons_succ]
      refine wpAnyH_take (i := 1) (v := .pointer (some ⟨y1, 0, none⟩)) rfl (by kernel_rfl) (by kernel_rfl) (by kernel_rfl) (fun _ _ _ h => h) (Or.inl ⟨by kernel_rfl, ?hy1t1⟩) hHeld ?rest1t1
      case hy1t1 => (intro w' hSw; (try dsimp only at hSw); go_simp; try with_reducible rfl)
      try simp only [Act.put, List.setIfInBounds_toArray, List.set_cons_zero, List.set_cons_succ, List.getElem_toArray, List.getElem_cons_zero, List.getElem_cons_succ]
      refine wpAnyH_take (i := 2) (v := .pointer (some ⟨y1, 0, none⟩)) rfl (by kernel_rfl) (by kernel_rfl) (by kernel_rfl) (fun _ _ _ h => h) (Or.inl ⟨by kernel_rfl, ?hy2t1⟩) hHeld ?rest2t1
      case hy2t1 => (intro w' hSw; (try dsimp only at hSw); go_simp; try with_reducible rfl)
      try simp only [Act.put, List.setIfInBounds_toArray, List.set_cons_zero, List.set_cons_succ, List.getElem_toArray, List.getElem_cons_zero, List.getElem_cons_succ]
      refine wpAnyH_take (i := 3) (v := .pointer (some ⟨y1, 0, none⟩)) rfl (by kernel_rfl) (by kernel_rfl) (by kernel_rfl) (fun _ _ _ h => h) (Or.inl ⟨by kernel_rfl, ?hy3t1⟩) hHeld ?rest3t1
      case hy3t1 => (intro w' hSw; (try dsimp only at hSw); go_simp; try with_reducible rfl)
      try simp only [Act.put, List.setIfInBounds_toArray, List.set_cons_zero, List.set_cons_succ, List.getElem_toArray, List.getElem_cons_zero, List.getElem_cons_succ]
      refine wpAnyH_take (i := 4) (v := .int .i64 q) rfl (by kernel_rfl) (by kernel_rfl) (by kernel_rfl) (fun _ _ _ h => h) (Or.inl ⟨by kernel_rfl, ?hy4t1⟩) hHeld ?rest4t1
      case hy4t1 => (intro w' hSw; (try dsimp only at hSw); have p0 := (hSw.cell (p := ⟨y1, 0, none⟩) HC.out.2.2).trans HC.out.1; have p4 := (hSw.cell (p := ⟨y1, 4, none⟩) HC.out.2.2).trans HC.out.2.1; go_simp; try with_reducible rfl)
      try simp only [Act.put, List.setIfInBounds_toArray, List.set_cons_zero, List.set_cons_succ, List.getElem_toArray, List.getElem_cons_zero, List.getElem_cons_succ]
      refine wpAnyH_take (i := 6) (v := .pointer (some ⟨y1, 0, none⟩)) rfl (by kernel_rfl) (by kernel_rfl) (by kernel_rfl) (fun _ _ _ h => h) (Or.inl ⟨by kernel_rfl, ?hy6t1⟩) hHeld ?rest6t1
      case hy6t1 => (intro w' hSw; (try dsimp only at hSw); go_simp; try with_reducible rfl)
      try simp only [Act.put, List.setIfInBounds_toArray, List.set_cons_zero, List.set_cons_succ, List.getElem_toArray, List.getElem_cons_zero, List.getElem_cons_succ]
      refine wpAnyH_take (i := 7) (v := .pointer (some ⟨y1, 0, none⟩)) rfl (by kernel_rfl) (by kernel_rfl) (by kernel_rfl) (fun _ _ _ h => h) (Or.inl ⟨by kernel_rfl, ?hy7t1⟩) hHeld ?rest7t1
      case hy7t1 => (intro w' hSw; (try dsimp only at hSw); go_simp; try with_reducible rfl)
      try simp only [Act.put, List.setIfInBounds_toArray, List.set_cons_zero, List.set_cons_succ, List.getElem_toArray, List.getElem_cons_zero, List.getElem_cons_succ]
      refine wpAnyH_take (i := 8) (v := .pointer (some ⟨y1, 4, none⟩)) rfl (by kernel_rfl) (by kernel_rfl) (by kernel_rfl) (fun _ _ _ h => h) (Or.inl ⟨by kernel_rfl, ?hy8t1⟩) hHeld ?rest8t1
      case hy8t1 => (intro w' hSw; (try dsimp only at hSw); go_simp; try with_reducible rfl)
      try simp only [Act.put, List.setIfInBounds_toArray, List.set_cons_zero, List.set_cons_succ, List.getElem_toArray, List.getElem_cons_zero, List.getElem_cons_succ]
      refine wpAnyH_take (i := 9) (v := .slice la nl lc) rfl (by kernel_rfl) (by kernel_rfl) (by kernel_rfl) (fun _ _ _ h => h) (Or.inl ⟨by kernel_rfl, ?hy9t1⟩) hHeld ?rest9t1
      case hy9t1 => (intro w' hSw; (try dsimp only at hSw); have p0 := (hSw.cell (p := ⟨y1, 0, none⟩) HC.out.2.2).trans HC.out.1; have p4 := (hSw.cell (p := ⟨y1, 4, none⟩) HC.out.2.2).trans HC.out.2.1; go_simp; try with_reducible rfl)
      try simp only [Act.put, List.setIfInBounds_toArray, List.set_cons_zero, List.set_cons_succ, List.getElem_toArray, List.getElem_cons_zero, List.getElem_cons_succ]
      refine wpAnyH_ready (rs := [5]) (by kernel_rfl) (by simp) ?_
      refine AllReadyH.cons rfl (fun K hK => ?_) AllReadyH.nil
      go_simp
      refine KL.out.mono ?_
      rintro e5 w5 ⟨rfl, h5⟩
      have B5 : Hid (Below w.heap.size w w5) := by rw [h5]; exact HWB.out
      rw [← h5] at K1
      clear h5
      go_wp2_with fail
      refine hK.out _ _ ?hS5t1 (fun hHeld => ?rest5t1)
      case hS5t1 => exact B5.out
      clear hK K
      try simp only [Act.put, List.setIfInBounds_toArray, List.set_cons_zero, List.set_cons_succ, List.getElem_toArray, List.getElem_cons_zero, List.getElem_cons_succ]
      refine wpAnyH_ready (rs := [10]) (by kernel_rfl) (by simp) ?_
      refine AllReadyH.cons rfl (fun K hK => ?_) AllReadyH.nil
      go_simp
      refine K1.out.mono ?_
      rintro e6 w6 ⟨V, Q, rfl, l6, q6, b6⟩
      have X6 : Hid (Ltr w.heap.size w6 V 1 q Q ∧ Q.map (fun p => (p.r, p.co)) = x.lk ∧ Below w.heap.size w w6) := ⟨l6, q6, b6⟩
      clear l6 q6 b6
      go_wp2_with fail
      refine hK.out _ _ ?hS10t1 (fun hHeld => ?rest10t1)
      case hS10t1 => exact X6.out.2.2
      clear hK K
      try simp only [Act.put, List.setIfInBounds_toArray, List.set_cons_zero, List.set_cons_succ, List.getElem_toArray, List.getElem_cons_zero, List.getElem_cons_succ]
      refine wpAnyH_take (i := 11) (v := V) rfl (by kernel_rfl) (by kernel_rfl) (by kernel_rfl) (fun _ _ _ h => h) (Or.inl ⟨by kernel_rfl, ?hy11t1⟩) hHeld ?rest11t1
      case hy11t1 => (intro w' hSw; (try dsimp only at hSw); go_simp; try with_reducible rfl)
      try simp only [Act.put, List.setIfInBounds_toArray, List.set_cons_zero, List.set_cons_succ, List.getElem_toArray, List.getElem_cons_zero, List.getElem_cons_succ]
      refine wpAnyH_done (by kernel_rfl) ?_ _
      refine NoPanic.normal ?_
      try go_wp2_with fail
      go_ret
      exact ⟨_, Q, rfl, X6.out⟩
end Go.Proofs.Ythaeidbnbgghkaa
namespace Go.Proofs.Ythaeidbnbgghkaa
open Go
set_option linter.unusedVariables false
section
variable {P : Program} {ops : Array Oper} {Q : Exit → Act → World → Prop} {md : Region.Mode} {S : World → Prop} {E : List Nat}
/-- whatever comes next; S behind all but the late ones -/
def AnyE (P : Program) (md : Region.Mode) (ops : Array Oper) (Q : Exit → Act → World → Prop) (S : World → Prop) (E : List Nat) : Nat → Array Bool → Act → World → Prop
  | 0, l, a, w => Region.ready md ops l = [] ∧ Q .normal a w
  | f + 1, l, a, w => (Region.ready md ops l = [] → Q .normal a w) ∧ ∀ i ∈ Region.ready md ops l, wpOp P ops Q i (fun a' w' => (i ∉ E → S w') ∧ AnyE P md ops Q S E f (l.setIfInBounds i true) a' w') a w
theorem AnyE.any : ∀ (f : Nat) (l : Array Bool) (a : Act) (w : World), AnyE P md ops Q S E f l a w → wpAny P md ops Q f l a w
  | 0, _, _, _, h => h
  | f + 1, _, _, _, h => ⟨h.1, fun i hi => wpOp_mono (fun a' w' k => AnyE.any f _ a' w' k.2) (h.2 i hi)⟩
theorem AnyE.first {i : Nat} {o : Oper} {v : Value} (hi : ops[i]? = some o) (hsel : ∀ (j : Nat) (o : Oper) cs b, ops[j]? = some o → o.op ≠ .select cs b)
    (hQ : ∀ c a w, Q (.panic c) (a.put o.dst v) w → Q (.panic c) a w) (hE : ∀ j ∈ E, ∀ oj, ops[j]? = some oj → ∃ e ∈ oj.after, Region.binds md e = true ∧ e.on = i) (f : Nat) :
    ∀ (l : Array Bool) (a : Act) (w : World), (∀ j oj, ops[j]? = some oj → j ≠ i → l.getD j true = false → (∀ e ∈ oj.after, Region.binds md e = true → e.on ≠ i) → o.apart ops oj = true) →
      i ∈ Region.ready md ops l → YieldsIf P ops S o v a → S w → AnyE P md ops Q S E f (l.setIfInBounds i true) (a.put o.dst v) w → AnyE P md ops Q S E (f + 1) l a w := by
  induction f with
  | zero =>
    intro l a w _ hr hy hS H
    refine ⟨fun h => absurd hr (by rw [h]; exact List.not_mem_nil), fun j hj => ?_⟩
    by_cases e : j = i
    · subst e
      exact hy.wpOp hi hS ⟨fun _ => hS, H⟩
    · exact absurd (ready_mono hj e) (by rw [H.1]; exact List.not_mem_nil)
  | succ f ih =>
    intro l a w hfr hr hy hS H
    refine ⟨fun h => absurd hr (by rw [h]; exact List.not_mem_nil), fun j hj => ?_⟩
    by_cases e : j = i
    · subst e
      exact hy.wpOp hi hS ⟨fun _ => hS, H⟩
    · obtain ⟨hun, oj, hoj, hw8⟩ := mem_ready.1 hj
      have hno : ∀ x ∈ oj.after, Region.binds md x = true → x.on ≠ i := by
        intro x hx hb hon
        have k1 := hw8 x hx hb
        have k0 := (mem_ready.1 hr).1
        rw [hon] at k1
        rcases Nat.lt_or_ge i l.size with h' | h'
        · simp [h'] at k0 k1
          rw [k0] at k1
          cases k1
        · simp [Array.getElem?_eq_none h'] at k1
      have hjE : j ∉ E := fun h => by
        obtain ⟨x, hx, hb, hon⟩ := hE j h oj hoj
        exact hno x hx hb hon
      refine wpOp_mono (fun a' w' k => ?_) (wpOp_putIf hoj (hfr j oj hoj e hun hno) (fun cs b => hsel i o cs b hi) (fun cs b => hsel j oj cs b hoj) hQ hy (H.2 j (ready_mono hj e)))
      refine ⟨k.2.1, ih (l.setIfInBounds j true) a' w' (fun q oq hq hqi hqu hqn => hfr q oq hq hqi ?_ hqn) (ready_mono hr (Ne.symm e)) k.1 (k.2.1 hjE) ?_⟩
      · by_cases hjq : j = q
        · subst hjq; exact hun
        · rw [getD_set_ne true hjq] at hqu; exact hqu
      · rw [Array.setIfInBounds_comm _ _ e]
        exact k.2.2
/-- does every late one wait for i? -/
def late (md : Region.Mode) (ops : Array Oper) (E : List Nat) (i : Nat) : Bool := E.all fun j => match ops[j]? with | some o => o.after.toList.any fun e => Region.binds md e && e.on == i | none => true
theorem late_spec {i : Nat} (h : late md ops E i = true) : ∀ j ∈ E, ∀ oj, ops[j]? = some oj → ∃ e ∈ oj.after, Region.binds md e = true ∧ e.on = i := by
  intro j hj oj hoj
  have := List.all_eq_true.1 h j hj
  simp only [hoj, List.any_eq_true, Bool.and_eq_true, beq_iff_eq] at this
  obtain ⟨e, he, h1, h2⟩ := this
  exact ⟨e, by simpa using he, h1, h2⟩
theorem AnyE.take {i : Nat} {oi : Oper} {v : Value} {f : Nat} {l : Array Bool} {a : Act} {w : World} (hi : ops[i]? = some oi)
    (hs : Region.noSelect ops = true) (hf : Region.free md ops l i = true) (hr : (Region.ready md ops l).contains i = true) (hl : late md ops E i = true)
    (hQ : ∀ c a w, Q (.panic c) (a.put oi.dst v) w → Q (.panic c) a w) (hy : YieldsIf P ops S oi v a) (hS : S w)
    (h : AnyE P md ops Q S E f (l.setIfInBounds i true) (a.put oi.dst v) w) : AnyE P md ops Q S E (f + 1) l a w :=
  AnyE.first hi (Region.noSelect_spec hs) hQ (late_spec hl) f l a w (Region.free_spec hi hf) (by simpa using hr) hy hS h
/-- each of these comes up next -/
def ReadyE (P : Program) (md : Region.Mode) (ops : Array Oper) (Q : Exit → Act → World → Prop) (S : World → Prop) (E : List Nat) (f : Nat) (l : Array Bool) (a : Act) (w : World) (rs : List Nat) : Prop :=
  ∀ i ∈ rs, wpOp P ops Q i (fun a' w' => (i ∉ E → S w') ∧ AnyE P md ops Q S E f (l.setIfInBounds i true) a' w') a w
theorem ReadyE.nil {f : Nat} {l : Array Bool} {a : Act} {w : World} : ReadyE P md ops Q S E f l a w [] := fun _ h => by cases h
theorem ReadyE.cons {f : Nat} {l : Array Bool} {a : Act} {w : World} {i : Nat} {o : Oper} {rs : List Nat} (ho : ops[i]? = some o)
    (h : ∀ K' : Act → World → Prop, Shut (∀ a w, S w → (S w → AnyE P md ops Q S E f (l.setIfInBounds i true) a w) → K' a w) → if Region.wanted o (yielded ops a.tmps) = true then Oper.wp P o a w K' Q else K' (a.put o.dst undef) w)
    (hs : ReadyE P md ops Q S E f l a w rs) : ReadyE P md ops Q S E f l a w (i :: rs) := fun j hj => by
  rcases List.mem_cons.1 hj with rfl | hj
  · exact wpOp_step ho (fun K' hK => h K' (fun a w hS hW => hK a w ⟨fun _ => hS, hW hS⟩))
  · exact hs j hj
/-- a late one: S is not asked behind it -/
theorem ReadyE.last {f : Nat} {l : Array Bool} {a : Act} {w : World} {i : Nat} {o : Oper} {rs : List Nat} (ho : ops[i]? = some o) (hE : i ∈ E)
    (h : ∀ K' : Act → World → Prop, Shut (∀ a w, AnyE P md ops Q S E f (l.setIfInBounds i true) a w → K' a w) → if Region.wanted o (yielded ops a.tmps) = true then Oper.wp P o a w K' Q else K' (a.put o.dst undef) w)
    (hs : ReadyE P md ops Q S E f l a w rs) : ReadyE P md ops Q S E f l a w (i :: rs) := fun j hj => by
  rcases List.mem_cons.1 hj with rfl | hj
  · exact wpOp_step ho (fun K' hK => h K' (fun a w hW => hK a w ⟨fun hn => absurd hE hn, hW⟩))
  · exact hs j hj
theorem AnyE.ready {rs : List Nat} {f : Nat} {l : Array Bool} {a : Act} {w : World} (hr : Region.ready md ops l = rs) (hne : rs ≠ []) (h : ReadyE P md ops Q S E f l a w rs) : AnyE P md ops Q S E (f + 1) l a w :=
  ⟨fun h0 => absurd (hr.symm.trans h0) hne, by rw [hr]; exact h⟩
theorem AnyE.done {l : Array Bool} {a : Act} {w : World} (hr : Region.ready md ops l = []) (h : Q .normal a w) : ∀ f, AnyE P md ops Q S E f l a w
  | 0 => ⟨hr, h⟩
  | _ + 1 => ⟨fun _ => h, by rw [hr]; intro i hi; cases hi⟩
theorem AnyE.start {id : Nat} {a : Act} {w : World} (hm : P.follows .mixedOrders = true) (hS : S w.drew)
    (h : S w.drew → AnyE P .any ops Q S E ops.size (Array.replicate ops.size false) a w.drew) : (Code.region id ops true).wp P Q a w :=
  wp_region_any hm (AnyE.any _ _ _ _ (h hS))
end
end Go.Proofs.Ythaeidbnbgghkaa
