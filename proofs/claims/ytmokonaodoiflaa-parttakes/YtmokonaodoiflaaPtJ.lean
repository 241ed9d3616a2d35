/- Take (gen_ptj.py). -/
import Derived.Test.YtmokonaodoiflaaPtI
import Derived.Test.YtmokonaodoiflaaWsI
import Derived.Test.YtmokonaodoiflaaWsC
import Derived.ScopeJumps
import Derived.WalkMore
namespace Go.Proofs.Ytmokonaodoiflaa
open Go.ChangeShapes Go.WideShapes Go.ChangeAt Go.RowKit Go.Deep Go.Maps
set_option linter.unusedVariables false
set_option linter.unusedSimpArgs false
/-- to send a message -/
def dSn (k r x : Int) (y : Bool) : Dd := dP 5 0 ⟨k, r, 0, x, y, none, 0, 0⟩
/-- to stage -/
def dSt (x : Int) (P : Option Addr × Nat × Nat) : Dd := ⟨2, x, P.1, P.2.1, P.2.2, noM⟩
/-- what is done when a message comes -/
def tkD (r s : Int) (D : List Int) (k x : Int) (P : Option Addr × Nat × Nat) : List Dd :=
  if k = 1 then (if x ∈ D then [] else if s = 0 then some9 [dSe (lastP D), dSt x P] ++ [dSn 2 r x true] else if s = x then [dSn 2 r x true] else [dSn 2 r x false])
  else if k = 3 then (if s = x then some9 [dP 3 x noM, dSe x] ++ [dSn 5 r x false] else if x ∈ D then (if x = lastP D then some9 [dSe x] else []) ++ [dSn 5 r x false] else [])
  else if k = 4 then (if s = x then [dP 4 x noM] else [])
  else []
def tkOk (r s : Int) (D : List Int) (k f t x : Int) (y : Bool) (L : List Pk) : Prop := gdP r s D = true ∧ wchk k f t x y L = 0 ∧ t = r
/-- what Take tells -/
def TkSaid (w w' : World) (r s : Int) (D : List Int) (k f t x : Int) (y : Bool) (L : List Pk) (V : Value) : Prop :=
  ∃ P : Option Addr × Nat × Nat, (tkOk r s D k f t x y L → OwnD w' w.heap.size V (tkD r s D k x P)) ∧ (¬ tkOk r s D k f t x y L → V = .slice none 0 0) ∧ (tkOk r s D k f t x y L → k = 1 → ¬ x ∈ D → s = 0 → ∃ M, Cpd w' w.heap.size (.slice P.1 P.2.1 P.2.2) L M) ∧ Below w.heap.size w w'
theorem jump_ret {l : Nat} {J : Act → World → Prop} {Q : Exit → Act → World → Prop} {a : Act} {w : World} : Exit.jump l J Q .ret a w = Q .ret a w := rfl
theorem wchk_pos {k f t x : Int} {y : Bool} {L : List Pk} (h : wchk k f t x y L = 0) : x ≠ 0 := by
  intro hx
  unfold wchk at h
  by_cases h1 : k < 1 ∨ 6 < k
  · rw [if_pos h1] at h; exact absurd h (by decide)
  · rw [if_neg h1, if_neg (fun h => by have := h.2.1; omega)] at h; exact absurd h (by decide)
theorem some9_sn (k r x : Int) (y : Bool) : some9 [dSn k r x y] = [dSn k r x y] := rfl
set_option maxRecDepth 100000 in
set_option maxHeartbeats 8000000 in
theorem take_is (w : World) (r s : Int) (a : Option Addr) (n c : Nat) (D : List Int) (hn : D.length = n) (hD : InZ w a D) (ha : a = none → n = 0 ∧ c = 0) (hN : n ≤ 100000)
    (k f t x : Int) (y : Bool) (pa : Option Addr) (pn pc : Nat) (L : List Pk) (hpn : L.length = pn) (hL : InPk w pa L) (hpa : pa = none → pn = 0 ∧ pc = 0) (hP : ∀ x ∈ L, PkOk w x ∧ NilOk x ∧ x.ln ≤ 3518437208883) (hpN : pn ≤ 1000) (hpc : pn ≤ pc) (hpc9 : pc ≤ 9223372036854775807) :
    Calls Try.prog 10 #[.agg #[.int .i64 r, .int .i64 s, .slice a n c], .agg #[.int .i64 k, .int .i64 f, .int .i64 t, .int .i64 x, .bool y, .slice pa pn pc]] w fun e w' => ∃ V, e = .returned V ∧ TkSaid w w' r s D k f t x y L V := by
  obtain ⟨W0, hW0⟩ : ∃ W0, W0 = (w.alloc (.cells #[.int .i64 r, .int .i64 s, .slice a n c] 24)).alloc (.cells #[.int .i64 k, .int .i64 f, .int .i64 t, .int .i64 x, .bool y, .slice pa pn pc] 27) := ⟨_, rfl⟩
  have HE : Hid (W0 = (w.alloc (.cells #[.int .i64 r, .int .i64 s, .slice a n c] 24)).alloc (.cells #[.int .i64 k, .int .i64 f, .int .i64 t, .int .i64 x, .bool y, .slice pa pn pc] 27)) := hW0
  have hb0 : Below w.heap.size w W0 := by rw [hW0]; exact ((Below.refl _ _).alloc (Nat.le_refl _) _).alloc (by simp) _
  have hq0 : W0.heap[w.heap.size]? = some (.cells #[.int .i64 r, .int .i64 s, .slice a n c] 24) := by rw [hW0]; exact (Below.heap_alloc _ _ _ (by simp)).trans (heap_alloc_new w _)
  have hq1 : W0.heap[w.heap.size + 1]? = some (.cells #[.int .i64 k, .int .i64 f, .int .i64 t, .int .i64 x, .bool y, .slice pa pn pc] 27) := by
    rw [hW0]
    have := heap_alloc_new (w.alloc (.cells #[.int .i64 r, .int .i64 s, .slice a n c] 24)) (.cells #[.int .i64 k, .int .i64 f, .int .i64 t, .int .i64 x, .bool y, .slice pa pn pc] 27)
    rw [show (w.alloc (.cells #[.int .i64 r, .int .i64 s, .slice a n c] 24)).heap.size = w.heap.size + 1 by simp] at this
    exact this
  have hz : W0.heap.size = w.heap.size + 2 := by rw [hW0]; simp
  obtain ⟨z, hzz⟩ : ∃ z, z = W0.heap.size := ⟨_, rfl⟩
  have HZ : Hid (z = W0.heap.size ∧ z = w.heap.size + 2 ∧ Below w.heap.size w W0) := ⟨hzz, by omega, hb0⟩
  have KC : Hid (∀ W, Below z W0 W → W.cell? ⟨w.heap.size, 0, none⟩ = some (.int .i64 r) ∧ W.cell? ⟨w.heap.size, 1, none⟩ = some (.int .i64 s) ∧ W.cell? ⟨w.heap.size, 2, none⟩ = some (.slice a n c)) := fun W hW => by
    have p1 := (hW.block w.heap.size (by omega)).trans hq0
    refine ⟨?_, ?_, ?_⟩
    · rw [cell_of_row _ w.heap.size 0 _ _ (0, 0) p1]; rfl
    · rw [cell_of_row _ w.heap.size 1 _ _ (0, 0) p1]; rfl
    · rw [cell_of_row _ w.heap.size 2 _ _ (0, 0) p1]; rfl
  have KM : Hid (∀ W, Below z W0 W → W.cell? ⟨w.heap.size + 1, 0, none⟩ = some (.int .i64 k) ∧ W.cell? ⟨w.heap.size + 1, 1, none⟩ = some (.int .i64 f) ∧ W.cell? ⟨w.heap.size + 1, 2, none⟩ = some (.int .i64 t) ∧ W.cell? ⟨w.heap.size + 1, 3, none⟩ = some (.int .i64 x) ∧ W.cell? ⟨w.heap.size + 1, 4, none⟩ = some (.bool y) ∧ W.cell? ⟨w.heap.size + 1, 5, none⟩ = some (.slice pa pn pc)) := fun W hW => by
    have p1 := (hW.block (w.heap.size + 1) (by omega)).trans hq1
    refine ⟨?_, ?_, ?_, ?_, ?_, ?_⟩
    · rw [cell_of_row _ (w.heap.size + 1) 0 _ _ (0, 0) p1]; rfl
    · rw [cell_of_row _ (w.heap.size + 1) 1 _ _ (0, 0) p1]; rfl
    · rw [cell_of_row _ (w.heap.size + 1) 2 _ _ (0, 0) p1]; rfl
    · rw [cell_of_row _ (w.heap.size + 1) 3 _ _ (0, 0) p1]; rfl
    · rw [cell_of_row _ (w.heap.size + 1) 4 _ _ (0, 0) p1]; rfl
    · rw [cell_of_row _ (w.heap.size + 1) 5 _ _ (0, 0) p1]; rfl
  have up : ∀ W, Below z W0 W → Below w.heap.size w W := fun W hW => hb0.trans (hW.mono (by omega))
  obtain ⟨G, hG⟩ : ∃ G, gdP r s D = G := ⟨_, rfl⟩
  obtain ⟨C, hC⟩ : ∃ C, wchk k f t x y L = C := ⟨_, rfl⟩
  have KG : Hid (∀ W, Below z W0 W → Calls Try.prog 13 #[.agg #[.int .i64 r, .int .i64 s, .slice a n c]] W fun e w' => e = .returned (.bool G) ∧ Below W.heap.size W w') := fun W hW => by rw [← hG]; exact pgood_is W r s a n c D hn (hD.keep (up W hW)) ha (by omega)
  have KK : Hid (∀ W, Below z W0 W → Calls Try.prog 23 #[.agg #[.int .i64 k, .int .i64 f, .int .i64 t, .int .i64 x, .bool y, .slice pa pn pc]] W fun e w' => e = .returned (.int .i64 C) ∧ Below W.heap.size W w') := fun W hW => by rw [← hC]; exact wcheck_is W k f t x y pa pn pc L hpn (hL.keep (up W hW)) hpc hpc9 (by omega)
  have KI : Hid (∀ W, Below z W0 W → Calls Try.prog 24 #[.slice a n c, .int .i64 x] W fun e w' => e = .returned (.bool (decide (x ∈ D))) ∧ w' = W) := fun W hW => contains_is W a n c D hn (hD.keep (up W hW)) (by omega) x
  have KL : Hid (∀ W, Below z W0 W → Calls Try.prog 27 #[.agg #[.int .i64 r, .int .i64 s, .slice a n c]] W fun e w' => e = .returned (.int .i64 (lastP D)) ∧ Below W.heap.size W w') := fun W hW => last_is W r s a n c D hn (hD.keep (up W hW)) (by omega)
  have KT : Hid (∀ W, Below z W0 W → Calls Try.prog 28 #[.int .i64 x, .slice pa pn pc] W fun e w' => ∃ pa' pn' pc' M, e = .returned (.agg (dC ⟨2, x, pa', pn', pc', noM⟩)) ∧ Cpd w' W.heap.size (.slice pa' pn' pc') L M ∧ Below W.heap.size W w') := fun W hW => stage_is W x pa pn pc L hpn (hL.keep (up W hW)) hpa (fun x hx => ⟨(hP x hx).1.keep (up W hW), (hP x hx).2⟩) (by omega)
  have HQ : Hid (gdP r s D = G ∧ wchk k f t x y L = C) := ⟨hG, hC⟩
  have BR : Hid (Below z W0 W0) := Below.refl _ _
  clear hW0 hb0 hq0 hq1 hz hzz up hG hC hn hD ha hN hpn hL hpa hP hpN hpc hpc9
  have NIL : Hid (∀ w', Below z W0 w' → ¬ tkOk r s D k f t x y L → ∃ V, Ending.returned (.slice none 0 0) = .returned V ∧ TkSaid w w' r s D k f t x y L V) := fun w' hw' hno => ⟨_, rfl, (none, 0, 0), fun h => absurd h hno, fun _ => rfl, fun h => absurd h hno, HZ.out.2.2.trans (hw'.mono (by have := HZ.out.2.1; omega))⟩
  obtain ⟨c0, c1, c2⟩ := KC.out _ BR.out
  go_enter Try.func10, Try.ntmps10
  go_wp2_with fail
  refine wp_scope_jumps 0 (fun a' w' => a'.defers = [] ∧ a'.tmps.size = 119 ∧ ∃ V, Ending.returned (a'.tmps.getD 5 undef) = .returned V ∧ TkSaid w w' r s D k f t x y L V) (fun _ _ => 0) rfl ?first ?pass
  case pass =>
    rintro ⟨tm, df⟩ w9 ⟨h1, h2, h3⟩
    dsimp only at h1 h2
    subst h1
    go_wp2_with fail
    rw [jump_ret]
    refine bodyPost_ret (results_tmp rfl _ _ _) rfl ?_
    have e : ((tm.setIfInBounds 118 tm[5]).setIfInBounds 4 tm[5]).getD 4 undef = tm.getD 5 undef := by simp [h2]
    rw [e]
    exact h3
  go_wp2_with fail
  rw [← HE.out]
  clear HE
  refine (KG.out _ BR.out).mono ?_
  rintro e w1 ⟨rfl, b1⟩
  have B1 : Hid (Below z W0 w1) := b1.mono (by have := HZ.out.1; omega)
  clear b1 c0 c1 c2
  obtain ⟨c0, c1, c2⟩ := KC.out _ B1.out
  obtain ⟨m0, m1, m2, m3, m4, m5⟩ := KM.out _ B1.out
  cases G with
  | false =>
    have HF : Hid (¬ tkOk r s D k f t x y L) := fun h => by have := HQ.out.1.symm.trans h.1; cases this
    go_wp2_with fail
    rw [jump_ret]
    go_ret
    exact NIL.out _ B1.out HF.out
  | true =>
  go_wp2_with fail
  refine (KK.out _ B1.out).mono ?_
  rintro e w2 ⟨rfl, b2⟩
  have B2 : Hid (Below z W0 w2) := B1.out.trans (b2.mono (by have := HZ.out.1; have := B1.out.size; omega))
  clear b2 c0 c1 c2 m0 m1 m2 m3 m4 m5
  obtain ⟨c0, c1, c2⟩ := KC.out _ B2.out
  obtain ⟨m0, m1, m2, m3, m4, m5⟩ := KM.out _ B2.out
  by_cases hC0 : C = 0
  case neg =>
    have e0 : (C != 0) = true := by simp [hC0]
    have HF : Hid (¬ tkOk r s D k f t x y L) := fun h => hC0 (HQ.out.2.symm.trans h.2.1)
    clear hC0
    go_wp2_with fail
    rw [jump_ret]
    go_ret
    exact NIL.out _ B2.out HF.out
  have e0 : (C != 0) = false := by simp [hC0]
  by_cases hto : t = r
  case neg =>
    have e1 : (t != r) = true := by simp [hto]
    have HF : Hid (¬ tkOk r s D k f t x y L) := fun h => hto h.2.2
    clear hC0 hto
    go_wp2_with fail
    rw [jump_ret]
    go_ret
    exact NIL.out _ B2.out HF.out
  have e1 : (t != r) = false := by simp [hto]
  have HOK : Hid (tkOk r s D k f t x y L) := ⟨HQ.out.1, HQ.out.2.trans hC0, hto⟩
  have HX0 : Hid (x ≠ 0) := wchk_pos (HQ.out.2.trans hC0)
  have FIN : Hid (∀ V w' (P : Option Addr × Nat × Nat), OwnD w' z V (tkD r s D k x P) → Below z W0 w' → (k = 1 → ¬ x ∈ D → s = 0 → ∃ M, Cpd w' z (.slice P.1 P.2.1 P.2.2) L M) → ∃ V', Ending.returned V = .returned V' ∧ TkSaid w w' r s D k f t x y L V') := fun V w' P h1 h2 h3 => ⟨V, rfl, P, fun _ => h1.base (by have := HZ.out.2.1; omega), fun h => absurd HOK.out h, fun _ k1 k2 k3 => by obtain ⟨M, hM⟩ := h3 k1 k2 k3; exact ⟨M, hM.base (by have := HZ.out.2.1; omega)⟩, HZ.out.2.2.trans (h2.mono (by have := HZ.out.2.1; omega))⟩
  clear hC0 hto NIL KG KK HQ HOK
  obtain ⟨S, hS⟩ : ∃ S, decide (s = x) = S := ⟨_, rfl⟩
  obtain ⟨I, hI⟩ : ∃ I, decide (x ∈ D) = I := ⟨_, rfl⟩
  have HSI : Hid (decide (s = x) = S ∧ decide (x ∈ D) = I) := ⟨hS, hI⟩
  have hS2 : (s == x) = S := by rw [← hS, Bool.eq_iff_iff]; simp
  have QI : Hid (∀ q, Calls Try.prog 24 #[.slice a n c, .int .i64 x] (w2.drewN q) fun e w' => e = .returned (.bool I) ∧ w' = w2.drewN q) := fun q => by rw [← hI]; exact KI.out _ (below_drewN B2.out q)
  clear hS hI KI
  go_wp2_with fail
  go_quiet ((go_at_call 24; refine (QI.out _).mono ?_; exact fun _ _ h => ⟨h.1, _, h.2⟩))
  have B3' : Hid (Below z W0 (w2.drewN nq)) := below_drewN B2.out nq
  generalize w2.drewN nq = w3 at *
  clear QI B2 B1 c0 c1 c2 m0 m1 m2 m3 m4 m5 e0 e1
  have B3 : Hid (Below z W0 w3) := B3'
  clear B3' hS2
  obtain ⟨c0, c1, c2⟩ := KC.out _ B3.out
  obtain ⟨m0, m1, m2, m3, m4, m5⟩ := KM.out _ B3.out
  have hZ3 : Hid (z ≤ w3.heap.size) := by show _ ≤ _; have := B3.out.size; have := HZ.out.1; omega
  have ON : Hid (∀ W, OwnD W z (.slice none 0 0) []) := fun W => OwnD.nil _ _
  by_cases hk1 : k = 1
  · skip
    have k1a : (k == 1) = true := by simp [hk1]
    have k1b : decide (k = 1) = true := by simp [hk1]
    have hk3 : ¬ k = 3 := by omega
    have hk4 : ¬ k = 4 := by omega
    cases I with
    | true =>
      have HT : Hid (tkD r s D k x (none, 0, 0) = [] ∧ x ∈ D) := by
        have hx := of_decide_eq_true HSI.out.2
        refine ⟨?_, hx⟩
        unfold tkD
        rw [if_pos hk1, if_pos hx]
      clear hk1 hk3 hk4
      go_wp2_with fail
      go_step3
      refine ⟨rfl, rfl, rfl, ?_⟩
      exact FIN.out _ _ (none, 0, 0) (by rw [HT.out.1]; exact OwnD.nil _ _) B3.out (fun _ h => absurd HT.out.2 h)
    | false =>
      by_cases hs0 : s = 0
      · have s1 : (s == 0) = true := by simp [hs0]
        have s2 : decide (s = 0) = true := by simp [hs0]
        have HT : Hid (∀ P, tkD r s D k x P = some9 [dSe (lastP D), dSt x P] ++ [dSn 2 r x true]) := fun P => by
          have hx := of_decide_eq_false HSI.out.2
          unfold tkD
          rw [if_pos hk1, if_neg hx, if_pos hs0]
        clear hk1 hk3 hk4 hs0
        by_cases hl0 : lastP D = 0
        · skip
          have HY : Hid (dSe (lastP D) = dP 0 0 noM) := if_pos hl0
          obtain ⟨l9, hl9⟩ : ∃ l9, l9 = lastP D := ⟨_, rfl⟩
          rw [← hl9] at HY
          have HL9 : Hid (l9 = lastP D) := hl9
          have KL9 : Hid (∀ W, Below z W0 W → Calls Try.prog 27 #[.agg #[.int .i64 r, .int .i64 s, .slice a n c]] W fun e w' => e = .returned (.int .i64 l9) ∧ Below W.heap.size W w') := fun W hW => by rw [hl9]; exact KL.out W hW
          have KE9 : Hid (∀ W, Calls Try.prog 26 #[.int .i64 l9] W fun e w' => e = .returned (.agg #[.int .i64 0, .int .i64 0, .slice none 0 0, .int .i64 0, .int .i64 0, .int .i64 0, .int .i64 0, .bool false, .slice none 0 0]) ∧ Below W.heap.size W w') := fun W => by
            have := settle_is W l9
            rw [HY.out] at this
            exact this
          clear hl9 hl0
          go_wp2_with fail
          clear c0 c1 c2 m0 m1 m2 m3 m4 m5
          refine wp_region_noPanic ?_
          refine wp_region_held_drew (S := (fun W : World => Below z W0 W)) (by kernel_rfl) ?hSaa (fun hHeld => ?restaa)
          case hSaa => exact below_drewM B3.out
          case restaa =>
            refine wpAnyH_take (i := 0) (v := .slice none 0 0) rfl (by kernel_rfl) (by kernel_rfl) (by kernel_rfl) (fun _ _ _ h => h) (Or.inl ⟨by kernel_rfl, ?hy0a⟩) hHeld ?rest0a
            case hy0a => (intro w' hSw; (try dsimp only at hSw); go_simp; try with_reducible rfl)
            try simp only [Act.put, List.getElem_toArray]
            refine wpAnyH_take (i := 1) (v := .agg #[.int .i64 r, .int .i64 s, .slice a n c]) rfl (by kernel_rfl) (by kernel_rfl) (by kernel_rfl) (fun _ _ _ h => h) (Or.inl ⟨by kernel_rfl, ?hy1a⟩) hHeld ?rest1a
            case hy1a => (intro w' hSw; (try dsimp only at hSw); obtain ⟨q0, q1, q2⟩ := KC.out _ hSw; go_simp; try with_reducible rfl)
            try simp only [Act.put, List.getElem_toArray]
            refine wpAnyH_take (i := 4) (v := .pointer (some ⟨w.heap.size + 1, 3, none⟩)) rfl (by kernel_rfl) (by kernel_rfl) (by kernel_rfl) (fun _ _ _ h => h) (Or.inl ⟨by kernel_rfl, ?hy4a⟩) hHeld ?rest4a
            case hy4a => (intro w' hSw; (try dsimp only at hSw); go_simp; try with_reducible rfl)
            try simp only [Act.put, List.getElem_toArray]
            refine wpAnyH_take (i := 5) (v := .int .i64 x) rfl (by kernel_rfl) (by kernel_rfl) (by kernel_rfl) (fun _ _ _ h => h) (Or.inl ⟨by kernel_rfl, ?hy5a⟩) hHeld ?rest5a
            case hy5a => (intro w' hSw; (try dsimp only at hSw); obtain ⟨q0, q1, q2, q3, q4, q5⟩ := KM.out _ hSw; go_simp; try with_reducible rfl)
            try simp only [Act.put, List.getElem_toArray]
            refine wpAnyH_take (i := 6) (v := .pointer (some ⟨w.heap.size + 1, 5, none⟩)) rfl (by kernel_rfl) (by kernel_rfl) (by kernel_rfl) (fun _ _ _ h => h) (Or.inl ⟨by kernel_rfl, ?hy6a⟩) hHeld ?rest6a
            case hy6a => (intro w' hSw; (try dsimp only at hSw); go_simp; try with_reducible rfl)
            try simp only [Act.put, List.getElem_toArray]
            refine wpAnyH_take (i := 7) (v := .slice pa pn pc) rfl (by kernel_rfl) (by kernel_rfl) (by kernel_rfl) (fun _ _ _ h => h) (Or.inl ⟨by kernel_rfl, ?hy7a⟩) hHeld ?rest7a
            case hy7a => (intro w' hSw; (try dsimp only at hSw); obtain ⟨q0, q1, q2, q3, q4, q5⟩ := KM.out _ hSw; go_simp; try with_reducible rfl)
            try simp only [Act.put, List.getElem_toArray]
            refine wpAnyH_ready (rs := [2]) (by kernel_rfl) (by simp) ?_
            refine AllReadyH.cons rfl (fun K hK => ?_) AllReadyH.nil
            go_simp; refine (KL9.out _ hHeld).mono ?_; rintro e u1 ⟨rfl, hbu1⟩; have Hu1 : Hid (Below z W0 u1) := (hHeld : Below _ _ _).trans (hbu1.mono (by have := (hHeld : Below _ _ _).size; have := HZ.out.1; omega));  clear hbu1; go_wp2_with fail
            refine hK.out _ _ ?hS2a (fun hHeld => ?rest2a)
            case hS2a => exact Hu1.out
            clear hK K
            try simp only [Act.put, List.setIfInBounds_toArray, List.set_cons_zero, List.set_cons_succ, List.getElem_toArray, List.getElem_cons_zero, List.getElem_cons_succ]
            refine wpAnyH_ready (rs := [3]) (by kernel_rfl) (by simp) ?_
            refine AllReadyH.cons rfl (fun K hK => ?_) AllReadyH.nil
            go_simp; refine (KE9.out _).mono ?_; rintro e u2 ⟨rfl, hbu2⟩; have Hu2 : Hid (Below z W0 u2) := (hHeld : Below _ _ _).trans (hbu2.mono (by have := (hHeld : Below _ _ _).size; have := HZ.out.1; omega));  clear hbu2; go_wp2_with fail
            refine hK.out _ _ ?hS3a (fun hHeld => ?rest3a)
            case hS3a => exact Hu2.out
            clear hK K
            try simp only [Act.put, List.setIfInBounds_toArray, List.set_cons_zero, List.set_cons_succ, List.getElem_toArray, List.getElem_cons_zero, List.getElem_cons_succ]
            refine wpAnyH_ready (rs := [8]) (by kernel_rfl) (by simp) ?_
            refine AllReadyH.cons rfl (fun K hK => ?_) AllReadyH.nil
            go_simp; refine (KT.out _ hHeld).mono ?_; rintro e u3 ⟨pa2, pn2, pc2, M, rfl, hM, hbu3⟩; have Hu3 : Hid (Below z W0 u3) := (hHeld : Below _ _ _).trans (hbu3.mono (by have := (hHeld : Below _ _ _).size; have := HZ.out.1; omega)); have HM : Hid (Cpd u3 z (.slice pa2 pn2 pc2) L M) := hM.base (by have := Hu2.out.size; have := HZ.out.1; omega); unfold dC noM; simp only; clear hbu3; go_wp2_with fail
            refine hK.out _ _ ?hS8a (fun hHeld => ?rest8a)
            case hS8a => exact Hu3.out
            clear hK K
            try simp only [Act.put, List.setIfInBounds_toArray, List.set_cons_zero, List.set_cons_succ, List.getElem_toArray, List.getElem_cons_zero, List.getElem_cons_succ]
            have HU4 : Hid (∀ o, Below z W0 (u3.alloc o)) := fun o => Hu3.out.alloc (by have := Hu3.out.size; have := HZ.out.1; omega) _
            have Z3' : Hid (z ≤ u3.heap.size) := by show _ ≤ _; have := Hu3.out.size; have := HZ.out.1; omega
            have KT2 : Hid (Calls Try.prog 25 #[.slice none 0 0, .slice (some ⟨u3.heap.size, 0, none⟩) 2 2] (u3.alloc (.cells #[.int .i64 0, .int .i64 0, .slice none 0 0, .int .i64 0, .int .i64 0, .int .i64 0, .int .i64 0, .bool false, .slice none 0 0, .int .i64 2, .int .i64 x, .slice pa2 pn2 pc2, .int .i64 0, .int .i64 0, .int .i64 0, .int .i64 0, .bool false, .slice none 0 0] 37)) fun e w' => ∃ V', e = .returned V' ∧ OwnD w' z V' (some9 [dP 0 0 noM, dSt x (pa2, pn2, pc2)]) ∧ u3.grownBy w' none) := then2 u3 z (.slice none 0 0) [] (dP 0 0 noM) (dSt x (pa2, pn2, pc2)) (ON.out u3) Z3'.out (by simp)
            refine wpAnyH_ready (rs := [9]) (by kernel_rfl) (by simp) ?_
            refine AllReadyH.cons rfl (fun K hK => ?_) AllReadyH.nil
            go_wp2_with fail
            refine hK.out _ _ ?hS9a (fun hHeld => ?rest9a)
            case hS9a => exact HU4.out _
            clear hK K
            try simp only [Act.put, List.setIfInBounds_toArray, List.set_cons_zero, List.set_cons_succ, List.getElem_toArray, List.getElem_cons_zero, List.getElem_cons_succ]
            refine wpAnyH_ready (rs := [10]) (by kernel_rfl) (by simp) ?_
            refine AllReadyH.cons rfl (fun K hK => ?_) AllReadyH.nil
            go_simp; refine KT2.out.mono ?_; rintro e u5 ⟨V5, rfl, o5, g5⟩; have O5 : Hid (OwnD u5 z V5 (some9 [dP 0 0 noM, dSt x (pa2, pn2, pc2)])) := o5; have B5 : Hid (Below z W0 u5) := Hu3.out.grown g5 Z3'.out (fun k hk => by cases hk); have M5 : Hid (Cpd u5 z (.slice pa2 pn2 pc2) L M) := HM.out.step g5 (fun k hk => by cases hk); have Z5 : Hid (z ≤ u5.heap.size) := Nat.le_trans Z3'.out g5.size; clear o5 g5; go_wp2_with fail
            refine hK.out _ _ ?hS10a (fun hHeld => ?rest10a)
            case hS10a => exact B5.out
            clear hK K
            try simp only [Act.put, List.setIfInBounds_toArray, List.set_cons_zero, List.set_cons_succ, List.getElem_toArray, List.getElem_cons_zero, List.getElem_cons_succ]
            refine wpAnyH_take (i := 11) (v := ?v11a) rfl (by kernel_rfl) (by kernel_rfl) (by kernel_rfl) (fun _ _ _ h => h) (Or.inl ⟨by rfl, ?hy11a⟩) hHeld ?rest11a
            case hy11a => (intro w hSw; (try dsimp only at hSw); go_simp; try with_reducible rfl)
            try simp only [Act.put, List.setIfInBounds_toArray, List.set_cons_zero, List.set_cons_succ, List.getElem_toArray, List.getElem_cons_zero, List.getElem_cons_succ]
            refine wpAnyH_done (by kernel_rfl) ?_ _
            refine NoPanic.normal ?_
            have KS : Hid (∀ W, Calls Try.prog 29 #[.agg #[.int .i64 r, .int .i64 s, .slice a n c], .agg #[.int .i64 2, .int .i64 0, .int .i64 0, .int .i64 x, .bool true, .slice none 0 0]] W fun e w' => e = .returned (.agg #[.int .i64 5, .int .i64 0, .slice none 0 0, .int .i64 2, .int .i64 r, .int .i64 0, .int .i64 x, .bool true, .slice none 0 0]) ∧ Below W.heap.size W w') := fun W => send_is W r s a n c ⟨2, 0, 0, x, true, none, 0, 0⟩
            have KT1 : Hid (∀ W V l, OwnD W z V l → z ≤ W.heap.size → l.length ≤ 1000 → Calls Try.prog 25 #[V, .slice (some ⟨W.heap.size, 0, none⟩) 1 1] (W.alloc (.cells #[.int .i64 5, .int .i64 0, .slice none 0 0, .int .i64 2, .int .i64 r, .int .i64 0, .int .i64 x, .bool true, .slice none 0 0] 37)) fun e w' => ∃ V', e = .returned V' ∧ OwnD w' z V' (l ++ [dSn 2 r x true]) ∧ W.grownBy w' V.ownBlock) := fun W V l h1 h2 h3 => then1 W z V l (dSn 2 r x true) h1 h2 h3
            obtain ⟨c0, c1, c2⟩ := KC.out _ B5.out
            obtain ⟨m0, m1, m2, m3, m4, m5⟩ := KM.out _ B5.out
            go_wp2_with (first | (go_at_call 29; refine (KS.out _).mono ?_; rintro e7 w7 ⟨rfl, b7⟩; have B7 : Hid (Below z W0 w7) := B5.out.trans (b7.mono Z5.out); have O7 : Hid (OwnD w7 z _ _) := O5.out.keep b7; have Z7 : Hid (z ≤ w7.heap.size) := Nat.le_trans Z5.out b7.size; have M7 : Hid (Cpd w7 z (.slice pa2 pn2 pc2) L M) := M5.out.keep b7; clear b7) | (go_at_call 25; refine (KT1.out _ _ _ O7.out Z7.out (Nat.le_trans (List.length_filter_le _ _) (by simp))).mono ?_; rintro e8 w8 ⟨V8, rfl, o8, g8⟩; have O8 : Hid (OwnD w8 z V8 _) := o8; have B8 : Hid (Below z W0 w8) := B7.out.grown g8 Z7.out (fun k hk => (O7.out.own k hk).1); have M8 : Hid (Cpd w8 z (.slice pa2 pn2 pc2) L M) := M7.out.step g8 (fun k hk => O7.out.blk hk); clear o8 g8))
            go_step3
            go_wp2_with fail
            rw [jump_ret]
            go_ret
            exact FIN.out _ _ (pa2, pn2, pc2) (by rw [HT.out, ← HL9.out, HY.out]; exact O8.out) B8.out (fun _ _ _ => ⟨M, M8.out⟩)
        · skip
          have HY : Hid (dSe (lastP D) = dP 1 (lastP D) noM) := if_neg hl0
          obtain ⟨l9, hl9⟩ : ∃ l9, l9 = lastP D := ⟨_, rfl⟩
          rw [← hl9] at HY
          have HL9 : Hid (l9 = lastP D) := hl9
          have KL9 : Hid (∀ W, Below z W0 W → Calls Try.prog 27 #[.agg #[.int .i64 r, .int .i64 s, .slice a n c]] W fun e w' => e = .returned (.int .i64 l9) ∧ Below W.heap.size W w') := fun W hW => by rw [hl9]; exact KL.out W hW
          have KE9 : Hid (∀ W, Calls Try.prog 26 #[.int .i64 l9] W fun e w' => e = .returned (.agg #[.int .i64 1, .int .i64 l9, .slice none 0 0, .int .i64 0, .int .i64 0, .int .i64 0, .int .i64 0, .bool false, .slice none 0 0]) ∧ Below W.heap.size W w') := fun W => by
            have := settle_is W l9
            rw [HY.out] at this
            exact this
          clear hl9 hl0
          go_wp2_with fail
          clear c0 c1 c2 m0 m1 m2 m3 m4 m5
          refine wp_region_noPanic ?_
          refine wp_region_held_drew (S := (fun W : World => Below z W0 W)) (by kernel_rfl) ?hSab (fun hHeld => ?restab)
          case hSab => exact below_drewM B3.out
          case restab =>
            refine wpAnyH_take (i := 0) (v := .slice none 0 0) rfl (by kernel_rfl) (by kernel_rfl) (by kernel_rfl) (fun _ _ _ h => h) (Or.inl ⟨by kernel_rfl, ?hy0b⟩) hHeld ?rest0b
            case hy0b => (intro w' hSw; (try dsimp only at hSw); go_simp; try with_reducible rfl)
            try simp only [Act.put, List.getElem_toArray]
            refine wpAnyH_take (i := 1) (v := .agg #[.int .i64 r, .int .i64 s, .slice a n c]) rfl (by kernel_rfl) (by kernel_rfl) (by kernel_rfl) (fun _ _ _ h => h) (Or.inl ⟨by kernel_rfl, ?hy1b⟩) hHeld ?rest1b
            case hy1b => (intro w' hSw; (try dsimp only at hSw); obtain ⟨q0, q1, q2⟩ := KC.out _ hSw; go_simp; try with_reducible rfl)
            try simp only [Act.put, List.getElem_toArray]
            refine wpAnyH_take (i := 4) (v := .pointer (some ⟨w.heap.size + 1, 3, none⟩)) rfl (by kernel_rfl) (by kernel_rfl) (by kernel_rfl) (fun _ _ _ h => h) (Or.inl ⟨by kernel_rfl, ?hy4b⟩) hHeld ?rest4b
            case hy4b => (intro w' hSw; (try dsimp only at hSw); go_simp; try with_reducible rfl)
            try simp only [Act.put, List.getElem_toArray]
            refine wpAnyH_take (i := 5) (v := .int .i64 x) rfl (by kernel_rfl) (by kernel_rfl) (by kernel_rfl) (fun _ _ _ h => h) (Or.inl ⟨by kernel_rfl, ?hy5b⟩) hHeld ?rest5b
            case hy5b => (intro w' hSw; (try dsimp only at hSw); obtain ⟨q0, q1, q2, q3, q4, q5⟩ := KM.out _ hSw; go_simp; try with_reducible rfl)
            try simp only [Act.put, List.getElem_toArray]
            refine wpAnyH_take (i := 6) (v := .pointer (some ⟨w.heap.size + 1, 5, none⟩)) rfl (by kernel_rfl) (by kernel_rfl) (by kernel_rfl) (fun _ _ _ h => h) (Or.inl ⟨by kernel_rfl, ?hy6b⟩) hHeld ?rest6b
            case hy6b => (intro w' hSw; (try dsimp only at hSw); go_simp; try with_reducible rfl)
            try simp only [Act.put, List.getElem_toArray]
            refine wpAnyH_take (i := 7) (v := .slice pa pn pc) rfl (by kernel_rfl) (by kernel_rfl) (by kernel_rfl) (fun _ _ _ h => h) (Or.inl ⟨by kernel_rfl, ?hy7b⟩) hHeld ?rest7b
            case hy7b => (intro w' hSw; (try dsimp only at hSw); obtain ⟨q0, q1, q2, q3, q4, q5⟩ := KM.out _ hSw; go_simp; try with_reducible rfl)
            try simp only [Act.put, List.getElem_toArray]
            refine wpAnyH_ready (rs := [2]) (by kernel_rfl) (by simp) ?_
            refine AllReadyH.cons rfl (fun K hK => ?_) AllReadyH.nil
            go_simp; refine (KL9.out _ hHeld).mono ?_; rintro e u1 ⟨rfl, hbu1⟩; have Hu1 : Hid (Below z W0 u1) := (hHeld : Below _ _ _).trans (hbu1.mono (by have := (hHeld : Below _ _ _).size; have := HZ.out.1; omega));  clear hbu1; go_wp2_with fail
            refine hK.out _ _ ?hS2b (fun hHeld => ?rest2b)
            case hS2b => exact Hu1.out
            clear hK K
            try simp only [Act.put, List.setIfInBounds_toArray, List.set_cons_zero, List.set_cons_succ, List.getElem_toArray, List.getElem_cons_zero, List.getElem_cons_succ]
            refine wpAnyH_ready (rs := [3]) (by kernel_rfl) (by simp) ?_
            refine AllReadyH.cons rfl (fun K hK => ?_) AllReadyH.nil
            go_simp; refine (KE9.out _).mono ?_; rintro e u2 ⟨rfl, hbu2⟩; have Hu2 : Hid (Below z W0 u2) := (hHeld : Below _ _ _).trans (hbu2.mono (by have := (hHeld : Below _ _ _).size; have := HZ.out.1; omega));  clear hbu2; go_wp2_with fail
            refine hK.out _ _ ?hS3b (fun hHeld => ?rest3b)
            case hS3b => exact Hu2.out
            clear hK K
            try simp only [Act.put, List.setIfInBounds_toArray, List.set_cons_zero, List.set_cons_succ, List.getElem_toArray, List.getElem_cons_zero, List.getElem_cons_succ]
            refine wpAnyH_ready (rs := [8]) (by kernel_rfl) (by simp) ?_
            refine AllReadyH.cons rfl (fun K hK => ?_) AllReadyH.nil
            go_simp; refine (KT.out _ hHeld).mono ?_; rintro e u3 ⟨pa2, pn2, pc2, M, rfl, hM, hbu3⟩; have Hu3 : Hid (Below z W0 u3) := (hHeld : Below _ _ _).trans (hbu3.mono (by have := (hHeld : Below _ _ _).size; have := HZ.out.1; omega)); have HM : Hid (Cpd u3 z (.slice pa2 pn2 pc2) L M) := hM.base (by have := Hu2.out.size; have := HZ.out.1; omega); unfold dC noM; simp only; clear hbu3; go_wp2_with fail
            refine hK.out _ _ ?hS8b (fun hHeld => ?rest8b)
            case hS8b => exact Hu3.out
            clear hK K
            try simp only [Act.put, List.setIfInBounds_toArray, List.set_cons_zero, List.set_cons_succ, List.getElem_toArray, List.getElem_cons_zero, List.getElem_cons_succ]
            have HU4 : Hid (∀ o, Below z W0 (u3.alloc o)) := fun o => Hu3.out.alloc (by have := Hu3.out.size; have := HZ.out.1; omega) _
            have Z3' : Hid (z ≤ u3.heap.size) := by show _ ≤ _; have := Hu3.out.size; have := HZ.out.1; omega
            have KT2 : Hid (Calls Try.prog 25 #[.slice none 0 0, .slice (some ⟨u3.heap.size, 0, none⟩) 2 2] (u3.alloc (.cells #[.int .i64 1, .int .i64 l9, .slice none 0 0, .int .i64 0, .int .i64 0, .int .i64 0, .int .i64 0, .bool false, .slice none 0 0, .int .i64 2, .int .i64 x, .slice pa2 pn2 pc2, .int .i64 0, .int .i64 0, .int .i64 0, .int .i64 0, .bool false, .slice none 0 0] 37)) fun e w' => ∃ V', e = .returned V' ∧ OwnD w' z V' (some9 [dP 1 l9 noM, dSt x (pa2, pn2, pc2)]) ∧ u3.grownBy w' none) := then2 u3 z (.slice none 0 0) [] (dP 1 l9 noM) (dSt x (pa2, pn2, pc2)) (ON.out u3) Z3'.out (by simp)
            refine wpAnyH_ready (rs := [9]) (by kernel_rfl) (by simp) ?_
            refine AllReadyH.cons rfl (fun K hK => ?_) AllReadyH.nil
            go_wp2_with fail
            refine hK.out _ _ ?hS9b (fun hHeld => ?rest9b)
            case hS9b => exact HU4.out _
            clear hK K
            try simp only [Act.put, List.setIfInBounds_toArray, List.set_cons_zero, List.set_cons_succ, List.getElem_toArray, List.getElem_cons_zero, List.getElem_cons_succ]
            refine wpAnyH_ready (rs := [10]) (by kernel_rfl) (by simp) ?_
            refine AllReadyH.cons rfl (fun K hK => ?_) AllReadyH.nil
            go_simp; refine KT2.out.mono ?_; rintro e u5 ⟨V5, rfl, o5, g5⟩; have O5 : Hid (OwnD u5 z V5 (some9 [dP 1 l9 noM, dSt x (pa2, pn2, pc2)])) := o5; have B5 : Hid (Below z W0 u5) := Hu3.out.grown g5 Z3'.out (fun k hk => by cases hk); have M5 : Hid (Cpd u5 z (.slice pa2 pn2 pc2) L M) := HM.out.step g5 (fun k hk => by cases hk); have Z5 : Hid (z ≤ u5.heap.size) := Nat.le_trans Z3'.out g5.size; clear o5 g5; go_wp2_with fail
            refine hK.out _ _ ?hS10b (fun hHeld => ?rest10b)
            case hS10b => exact B5.out
            clear hK K
            try simp only [Act.put, List.setIfInBounds_toArray, List.set_cons_zero, List.set_cons_succ, List.getElem_toArray, List.getElem_cons_zero, List.getElem_cons_succ]
            refine wpAnyH_take (i := 11) (v := ?v11b) rfl (by kernel_rfl) (by kernel_rfl) (by kernel_rfl) (fun _ _ _ h => h) (Or.inl ⟨by rfl, ?hy11b⟩) hHeld ?rest11b
            case hy11b => (intro w hSw; (try dsimp only at hSw); go_simp; try with_reducible rfl)
            try simp only [Act.put, List.setIfInBounds_toArray, List.set_cons_zero, List.set_cons_succ, List.getElem_toArray, List.getElem_cons_zero, List.getElem_cons_succ]
            refine wpAnyH_done (by kernel_rfl) ?_ _
            refine NoPanic.normal ?_
            have KS : Hid (∀ W, Calls Try.prog 29 #[.agg #[.int .i64 r, .int .i64 s, .slice a n c], .agg #[.int .i64 2, .int .i64 0, .int .i64 0, .int .i64 x, .bool true, .slice none 0 0]] W fun e w' => e = .returned (.agg #[.int .i64 5, .int .i64 0, .slice none 0 0, .int .i64 2, .int .i64 r, .int .i64 0, .int .i64 x, .bool true, .slice none 0 0]) ∧ Below W.heap.size W w') := fun W => send_is W r s a n c ⟨2, 0, 0, x, true, none, 0, 0⟩
            have KT1 : Hid (∀ W V l, OwnD W z V l → z ≤ W.heap.size → l.length ≤ 1000 → Calls Try.prog 25 #[V, .slice (some ⟨W.heap.size, 0, none⟩) 1 1] (W.alloc (.cells #[.int .i64 5, .int .i64 0, .slice none 0 0, .int .i64 2, .int .i64 r, .int .i64 0, .int .i64 x, .bool true, .slice none 0 0] 37)) fun e w' => ∃ V', e = .returned V' ∧ OwnD w' z V' (l ++ [dSn 2 r x true]) ∧ W.grownBy w' V.ownBlock) := fun W V l h1 h2 h3 => then1 W z V l (dSn 2 r x true) h1 h2 h3
            obtain ⟨c0, c1, c2⟩ := KC.out _ B5.out
            obtain ⟨m0, m1, m2, m3, m4, m5⟩ := KM.out _ B5.out
            go_wp2_with (first | (go_at_call 29; refine (KS.out _).mono ?_; rintro e7 w7 ⟨rfl, b7⟩; have B7 : Hid (Below z W0 w7) := B5.out.trans (b7.mono Z5.out); have O7 : Hid (OwnD w7 z _ _) := O5.out.keep b7; have Z7 : Hid (z ≤ w7.heap.size) := Nat.le_trans Z5.out b7.size; have M7 : Hid (Cpd w7 z (.slice pa2 pn2 pc2) L M) := M5.out.keep b7; clear b7) | (go_at_call 25; refine (KT1.out _ _ _ O7.out Z7.out (Nat.le_trans (List.length_filter_le _ _) (by simp))).mono ?_; rintro e8 w8 ⟨V8, rfl, o8, g8⟩; have O8 : Hid (OwnD w8 z V8 _) := o8; have B8 : Hid (Below z W0 w8) := B7.out.grown g8 Z7.out (fun k hk => (O7.out.own k hk).1); have M8 : Hid (Cpd w8 z (.slice pa2 pn2 pc2) L M) := M7.out.step g8 (fun k hk => O7.out.blk hk); clear o8 g8))
            go_step3
            go_wp2_with fail
            rw [jump_ret]
            go_ret
            exact FIN.out _ _ (pa2, pn2, pc2) (by rw [HT.out, ← HL9.out, HY.out]; exact O8.out) B8.out (fun _ _ _ => ⟨M, M8.out⟩)
      · have s1 : (s == 0) = false := by simp [hs0]
        have s2 : decide (s = 0) = false := by simp [hs0]
        cases S with
        | true =>
          have HT : Hid (tkD r s D k x (none, 0, 0) = [] ++ [dSn 2 r x true] ∧ ¬ s = 0) := by
            have hx := of_decide_eq_false HSI.out.2
            have hsx := of_decide_eq_true HSI.out.1
            refine ⟨?_, hs0⟩
            unfold tkD
            rw [if_pos hk1, if_neg hx, if_neg hs0, if_pos hsx]
            rfl
          have ON3 : Hid (OwnD w3 z (.slice none 0 0) []) := ON.out w3
          clear hk1 hk3 hk4 hs0
          have KS : Hid (∀ W, Calls Try.prog 29 #[.agg #[.int .i64 r, .int .i64 s, .slice a n c], .agg #[.int .i64 2, .int .i64 0, .int .i64 0, .int .i64 x, .bool true, .slice none 0 0]] W fun e w' => e = .returned (.agg #[.int .i64 5, .int .i64 0, .slice none 0 0, .int .i64 2, .int .i64 r, .int .i64 0, .int .i64 x, .bool true, .slice none 0 0]) ∧ Below W.heap.size W w') := fun W => send_is W r s a n c ⟨2, 0, 0, x, true, none, 0, 0⟩
          have KT1 : Hid (∀ W V l, OwnD W z V l → z ≤ W.heap.size → l.length ≤ 1000 → Calls Try.prog 25 #[V, .slice (some ⟨W.heap.size, 0, none⟩) 1 1] (W.alloc (.cells #[.int .i64 5, .int .i64 0, .slice none 0 0, .int .i64 2, .int .i64 r, .int .i64 0, .int .i64 x, .bool true, .slice none 0 0] 37)) fun e w' => ∃ V', e = .returned V' ∧ OwnD w' z V' (l ++ [dSn 2 r x true]) ∧ W.grownBy w' V.ownBlock) := fun W V l h1 h2 h3 => then1 W z V l (dSn 2 r x true) h1 h2 h3
          go_wp2_with (first | (go_at_call 29; refine (KS.out _).mono ?_; rintro e7 w7 ⟨rfl, b7⟩; have B7 : Hid (Below z W0 w7) := B3.out.trans (b7.mono hZ3.out); have O7 : Hid (OwnD w7 z _ _) := ON3.out.keep b7; have Z7 : Hid (z ≤ w7.heap.size) := Nat.le_trans hZ3.out b7.size;  clear b7) | (go_at_call 25; refine (KT1.out _ _ _ O7.out Z7.out (by simp)).mono ?_; rintro e8 w8 ⟨V8, rfl, o8, g8⟩; have O8 : Hid (OwnD w8 z V8 _) := o8; have B8 : Hid (Below z W0 w8) := B7.out.grown g8 Z7.out (fun k hk => (O7.out.own k hk).1);  clear o8 g8))
          go_step3
          go_wp2_with fail
          rw [jump_ret]
          go_ret
          exact FIN.out _ _ (none, 0, 0) (by rw [HT.out.1]; exact O8.out) B8.out (fun _ _ h => absurd h HT.out.2)
        | false =>
          have HT : Hid (tkD r s D k x (none, 0, 0) = [] ++ [dSn 2 r x false] ∧ ¬ s = 0) := by
            have hx := of_decide_eq_false HSI.out.2
            have hsx := of_decide_eq_false HSI.out.1
            refine ⟨?_, hs0⟩
            unfold tkD
            rw [if_pos hk1, if_neg hx, if_neg hs0, if_neg hsx]
            rfl
          have ON3 : Hid (OwnD w3 z (.slice none 0 0) []) := ON.out w3
          clear hk1 hk3 hk4 hs0
          have KS : Hid (∀ W, Calls Try.prog 29 #[.agg #[.int .i64 r, .int .i64 s, .slice a n c], .agg #[.int .i64 2, .int .i64 0, .int .i64 0, .int .i64 x, .bool false, .slice none 0 0]] W fun e w' => e = .returned (.agg #[.int .i64 5, .int .i64 0, .slice none 0 0, .int .i64 2, .int .i64 r, .int .i64 0, .int .i64 x, .bool false, .slice none 0 0]) ∧ Below W.heap.size W w') := fun W => send_is W r s a n c ⟨2, 0, 0, x, false, none, 0, 0⟩
          have KT1 : Hid (∀ W V l, OwnD W z V l → z ≤ W.heap.size → l.length ≤ 1000 → Calls Try.prog 25 #[V, .slice (some ⟨W.heap.size, 0, none⟩) 1 1] (W.alloc (.cells #[.int .i64 5, .int .i64 0, .slice none 0 0, .int .i64 2, .int .i64 r, .int .i64 0, .int .i64 x, .bool false, .slice none 0 0] 37)) fun e w' => ∃ V', e = .returned V' ∧ OwnD w' z V' (l ++ [dSn 2 r x false]) ∧ W.grownBy w' V.ownBlock) := fun W V l h1 h2 h3 => then1 W z V l (dSn 2 r x false) h1 h2 h3
          go_wp2_with (first | (go_at_call 29; refine (KS.out _).mono ?_; rintro e7 w7 ⟨rfl, b7⟩; have B7 : Hid (Below z W0 w7) := B3.out.trans (b7.mono hZ3.out); have O7 : Hid (OwnD w7 z _ _) := ON3.out.keep b7; have Z7 : Hid (z ≤ w7.heap.size) := Nat.le_trans hZ3.out b7.size;  clear b7) | (go_at_call 25; refine (KT1.out _ _ _ O7.out Z7.out (by simp)).mono ?_; rintro e8 w8 ⟨V8, rfl, o8, g8⟩; have O8 : Hid (OwnD w8 z V8 _) := o8; have B8 : Hid (Below z W0 w8) := B7.out.grown g8 Z7.out (fun k hk => (O7.out.own k hk).1);  clear o8 g8))
          go_step3
          refine ⟨rfl, rfl, rfl, ?_⟩
          exact FIN.out _ _ (none, 0, 0) (by rw [HT.out.1]; exact O8.out) B8.out (fun _ _ h => absurd h HT.out.2)
  by_cases hk3 : k = 3
  · skip
    have k1a : (k == 1) = false := by simp [hk1]
    have k1b : decide (k = 1) = false := by simp [hk1]
    have k3a : (k == 3) = true := by simp [hk3]
    have k3b : decide (k = 3) = true := by simp [hk3]
    have KE : Hid (∀ W, Calls Try.prog 26 #[.int .i64 x] W fun e w' => e = .returned (.agg #[.int .i64 1, .int .i64 x, .slice none 0 0, .int .i64 0, .int .i64 0, .int .i64 0, .int .i64 0, .bool false, .slice none 0 0]) ∧ Below W.heap.size W w') := fun W => by
      have := settle_is W x
      rw [show dSe x = dP 1 x noM from if_neg HX0.out] at this
      exact this
    have HSE : Hid (dSe x = dP 1 x noM) := if_neg HX0.out
    cases S with
    | true =>
      have HT : Hid (tkD r s D k x (none, 0, 0) = some9 [dP 3 x noM, dP 1 x noM] ++ [dSn 5 r x false] ∧ ¬ k = 1) := by
        have hsx := of_decide_eq_true HSI.out.1
        refine ⟨?_, hk1⟩
        unfold tkD
        rw [if_neg hk1, if_pos hk3, if_pos hsx, HSE.out]
      clear hk1 hk3
      go_wp2_with fail
      clear c0 c1 c2 m0 m1 m2 m3 m4 m5
      refine wp_region_noPanic ?_
      refine wp_region_held_drew (S := (fun W : World => Below z W0 W)) (by kernel_rfl) ?hSac (fun hHeld => ?restac)
      case hSac => exact below_drewM B3.out
      case restac =>
        refine wpAnyH_take (i := 0) (v := .slice none 0 0) rfl (by kernel_rfl) (by kernel_rfl) (by kernel_rfl) (fun _ _ _ h => h) (Or.inl ⟨by kernel_rfl, ?hy0c⟩) hHeld ?rest0c
        case hy0c => (intro w' hSw; (try dsimp only at hSw); go_simp; try with_reducible rfl)
        try simp only [Act.put, List.getElem_toArray]
        refine wpAnyH_take (i := 1) (v := .pointer (some ⟨w.heap.size + 1, 3, none⟩)) rfl (by kernel_rfl) (by kernel_rfl) (by kernel_rfl) (fun _ _ _ h => h) (Or.inl ⟨by kernel_rfl, ?hy1c⟩) hHeld ?rest1c
        case hy1c => (intro w' hSw; (try dsimp only at hSw); go_simp; try with_reducible rfl)
        try simp only [Act.put, List.getElem_toArray]
        refine wpAnyH_take (i := 2) (v := .int .i64 x) rfl (by kernel_rfl) (by kernel_rfl) (by kernel_rfl) (fun _ _ _ h => h) (Or.inl ⟨by kernel_rfl, ?hy2c⟩) hHeld ?rest2c
        case hy2c => (intro w' hSw; (try dsimp only at hSw); obtain ⟨q0, q1, q2, q3, q4, q5⟩ := KM.out _ hSw; go_simp; try with_reducible rfl)
        try simp only [Act.put, List.getElem_toArray]
        refine wpAnyH_take (i := 3) (v := .agg #[.int .i64 3, .int .i64 x, .slice none 0 0, .int .i64 0, .int .i64 0, .int .i64 0, .int .i64 0, .bool false, .slice none 0 0]) rfl (by kernel_rfl) (by kernel_rfl) (by kernel_rfl) (fun _ _ _ h => h) (Or.inl ⟨by kernel_rfl, ?hy3c⟩) hHeld ?rest3c
        case hy3c => (intro w' hSw; (try dsimp only at hSw); go_simp; try with_reducible rfl)
        try simp only [Act.put, List.getElem_toArray]
        refine wpAnyH_take (i := 4) (v := .pointer (some ⟨w.heap.size + 1, 3, none⟩)) rfl (by kernel_rfl) (by kernel_rfl) (by kernel_rfl) (fun _ _ _ h => h) (Or.inl ⟨by kernel_rfl, ?hy4c⟩) hHeld ?rest4c
        case hy4c => (intro w' hSw; (try dsimp only at hSw); go_simp; try with_reducible rfl)
        try simp only [Act.put, List.getElem_toArray]
        refine wpAnyH_take (i := 5) (v := .int .i64 x) rfl (by kernel_rfl) (by kernel_rfl) (by kernel_rfl) (fun _ _ _ h => h) (Or.inl ⟨by kernel_rfl, ?hy5c⟩) hHeld ?rest5c
        case hy5c => (intro w' hSw; (try dsimp only at hSw); obtain ⟨q0, q1, q2, q3, q4, q5⟩ := KM.out _ hSw; go_simp; try with_reducible rfl)
        try simp only [Act.put, List.getElem_toArray]
        refine wpAnyH_ready (rs := [6]) (by kernel_rfl) (by simp) ?_
        refine AllReadyH.cons rfl (fun K hK => ?_) AllReadyH.nil
        go_simp; refine (KE.out _).mono ?_; rintro e u3 ⟨rfl, hbu3⟩; have Hu3 : Hid (Below z W0 u3) := (hHeld : Below _ _ _).trans (hbu3.mono (by have := (hHeld : Below _ _ _).size; have := HZ.out.1; omega)); clear hbu3; go_wp2_with fail
        refine hK.out _ _ ?hS6c (fun hHeld => ?rest6c)
        case hS6c => exact Hu3.out
        clear hK K
        try simp only [Act.put, List.setIfInBounds_toArray, List.set_cons_zero, List.set_cons_succ, List.getElem_toArray, List.getElem_cons_zero, List.getElem_cons_succ]
        have HU4 : Hid (∀ o, Below z W0 (u3.alloc o)) := fun o => Hu3.out.alloc (by have := Hu3.out.size; have := HZ.out.1; omega) _
        have Z3' : Hid (z ≤ u3.heap.size) := by show _ ≤ _; have := Hu3.out.size; have := HZ.out.1; omega
        have KT2 : Hid (Calls Try.prog 25 #[.slice none 0 0, .slice (some ⟨u3.heap.size, 0, none⟩) 2 2] (u3.alloc (.cells #[.int .i64 3, .int .i64 x, .slice none 0 0, .int .i64 0, .int .i64 0, .int .i64 0, .int .i64 0, .bool false, .slice none 0 0, .int .i64 1, .int .i64 x, .slice none 0 0, .int .i64 0, .int .i64 0, .int .i64 0, .int .i64 0, .bool false, .slice none 0 0] 37)) fun e w' => ∃ V', e = .returned V' ∧ OwnD w' z V' (some9 [dP 3 x noM, dP 1 x noM]) ∧ u3.grownBy w' none) := then2 u3 z (.slice none 0 0) [] (dP 3 x noM) (dP 1 x noM) (ON.out u3) Z3'.out (by simp)
        refine wpAnyH_ready (rs := [7]) (by kernel_rfl) (by simp) ?_
        refine AllReadyH.cons rfl (fun K hK => ?_) AllReadyH.nil
        go_wp2_with fail
        refine hK.out _ _ ?hS7c (fun hHeld => ?rest7c)
        case hS7c => exact HU4.out _
        clear hK K
        try simp only [Act.put, List.setIfInBounds_toArray, List.set_cons_zero, List.set_cons_succ, List.getElem_toArray, List.getElem_cons_zero, List.getElem_cons_succ]
        refine wpAnyH_ready (rs := [8]) (by kernel_rfl) (by simp) ?_
        refine AllReadyH.cons rfl (fun K hK => ?_) AllReadyH.nil
        go_simp; refine KT2.out.mono ?_; rintro e u5 ⟨V5, rfl, o5, g5⟩; have O5 : Hid (OwnD u5 z V5 (some9 [dP 3 x noM, dP 1 x noM])) := o5; have B5 : Hid (Below z W0 u5) := Hu3.out.grown g5 Z3'.out (fun k hk => by cases hk); have Z5 : Hid (z ≤ u5.heap.size) := Nat.le_trans Z3'.out g5.size; clear o5 g5; go_wp2_with fail
        refine hK.out _ _ ?hS8c (fun hHeld => ?rest8c)
        case hS8c => exact B5.out
        clear hK K
        try simp only [Act.put, List.setIfInBounds_toArray, List.set_cons_zero, List.set_cons_succ, List.getElem_toArray, List.getElem_cons_zero, List.getElem_cons_succ]
        refine wpAnyH_take (i := 9) (v := ?v9c) rfl (by kernel_rfl) (by kernel_rfl) (by kernel_rfl) (fun _ _ _ h => h) (Or.inl ⟨by rfl, ?hy9c⟩) hHeld ?rest9c
        case hy9c => (intro w hSw; (try dsimp only at hSw); go_simp; try with_reducible rfl)
        try simp only [Act.put, List.setIfInBounds_toArray, List.set_cons_zero, List.set_cons_succ, List.getElem_toArray, List.getElem_cons_zero, List.getElem_cons_succ]
        refine wpAnyH_done (by kernel_rfl) ?_ _
        refine NoPanic.normal ?_
        have KS : Hid (∀ W, Calls Try.prog 29 #[.agg #[.int .i64 r, .int .i64 s, .slice a n c], .agg #[.int .i64 5, .int .i64 0, .int .i64 0, .int .i64 x, .bool false, .slice none 0 0]] W fun e w' => e = .returned (.agg #[.int .i64 5, .int .i64 0, .slice none 0 0, .int .i64 5, .int .i64 r, .int .i64 0, .int .i64 x, .bool false, .slice none 0 0]) ∧ Below W.heap.size W w') := fun W => send_is W r s a n c ⟨5, 0, 0, x, false, none, 0, 0⟩
        have KT1 : Hid (∀ W V l, OwnD W z V l → z ≤ W.heap.size → l.length ≤ 1000 → Calls Try.prog 25 #[V, .slice (some ⟨W.heap.size, 0, none⟩) 1 1] (W.alloc (.cells #[.int .i64 5, .int .i64 0, .slice none 0 0, .int .i64 5, .int .i64 r, .int .i64 0, .int .i64 x, .bool false, .slice none 0 0] 37)) fun e w' => ∃ V', e = .returned V' ∧ OwnD w' z V' (l ++ [dSn 5 r x false]) ∧ W.grownBy w' V.ownBlock) := fun W V l h1 h2 h3 => then1 W z V l (dSn 5 r x false) h1 h2 h3
        obtain ⟨c0, c1, c2⟩ := KC.out _ B5.out
        obtain ⟨m0, m1, m2, m3, m4, m5⟩ := KM.out _ B5.out
        go_wp2_with (first | (go_at_call 29; refine (KS.out _).mono ?_; rintro e7 w7 ⟨rfl, b7⟩; have B7 : Hid (Below z W0 w7) := B5.out.trans (b7.mono Z5.out); have O7 : Hid (OwnD w7 z _ _) := O5.out.keep b7; have Z7 : Hid (z ≤ w7.heap.size) := Nat.le_trans Z5.out b7.size;  clear b7) | (go_at_call 25; refine (KT1.out _ _ _ O7.out Z7.out (Nat.le_trans (List.length_filter_le _ _) (by simp))).mono ?_; rintro e8 w8 ⟨V8, rfl, o8, g8⟩; have O8 : Hid (OwnD w8 z V8 _) := o8; have B8 : Hid (Below z W0 w8) := B7.out.grown g8 Z7.out (fun k hk => (O7.out.own k hk).1);  clear o8 g8))
        go_step3
        go_wp2_with fail
        rw [jump_ret]
        go_ret
        exact FIN.out _ _ (none, 0, 0) (by rw [HT.out.1]; exact O8.out) B8.out (fun h => absurd h HT.out.2)
    | false =>
      cases I with
      | false =>
        have HT : Hid (tkD r s D k x (none, 0, 0) = [] ∧ ¬ k = 1) := by
          have hsx := of_decide_eq_false HSI.out.1
          have hx := of_decide_eq_false HSI.out.2
          refine ⟨?_, hk1⟩
          unfold tkD
          rw [if_neg hk1, if_pos hk3, if_neg hsx, if_neg hx]
        clear hk1 hk3
        go_wp2_with fail
        go_step3
        refine ⟨rfl, rfl, rfl, ?_⟩
        exact FIN.out _ _ (none, 0, 0) (by rw [HT.out.1]; exact OwnD.nil _ _) B3.out (fun h => absurd h HT.out.2)
      | true =>
        obtain ⟨l9, hl9⟩ : ∃ l9, l9 = lastP D := ⟨_, rfl⟩
        have KL9 : Hid (∀ W, Below z W0 W → Calls Try.prog 27 #[.agg #[.int .i64 r, .int .i64 s, .slice a n c]] W fun e w' => e = .returned (.int .i64 l9) ∧ Below W.heap.size W w') := fun W hW => by rw [hl9]; exact KL.out W hW
        have HT : Hid ((x = l9 → tkD r s D k x (none, 0, 0) = some9 [dP 1 x noM] ++ [dSn 5 r x false]) ∧ (¬ x = l9 → tkD r s D k x (none, 0, 0) = [] ++ [dSn 5 r x false]) ∧ ¬ k = 1) := by
          have hsx := of_decide_eq_false HSI.out.1
          have hx := of_decide_eq_true HSI.out.2
          refine ⟨fun e => ?_, fun e => ?_, hk1⟩
          · unfold tkD
            rw [if_neg hk1, if_pos hk3, if_neg hsx, if_pos hx, if_pos (e.trans hl9), HSE.out]
          · unfold tkD
            rw [if_neg hk1, if_pos hk3, if_neg hsx, if_pos hx, if_neg (fun h => e (h.trans hl9.symm))]
        clear hk1 hk3 hl9
        by_cases hxl : x = l9
        · have x1 : (x == l9) = true := by simp [hxl]
          have HXL : Hid (x = l9) := hxl
          clear hxl
          go_wp2_with fail
          clear c0 c1 c2 m0 m1 m2 m3 m4 m5
          refine wp_region_noPanic ?_
          refine wp_region_held_drew (S := (fun W : World => Below z W0 W)) (by kernel_rfl) ?hSad (fun hHeld => ?restad)
          case hSad => exact below_drewM B3.out
          case restad =>
            refine wpAnyH_take (i := 0) (v := .pointer (some ⟨w.heap.size + 1, 3, none⟩)) rfl (by kernel_rfl) (by kernel_rfl) (by kernel_rfl) (fun _ _ _ h => h) (Or.inl ⟨by kernel_rfl, ?hy0d⟩) hHeld ?rest0d
            case hy0d => (intro w' hSw; (try dsimp only at hSw); go_simp; try with_reducible rfl)
            try simp only [Act.put, List.getElem_toArray]
            refine wpAnyH_take (i := 1) (v := .int .i64 x) rfl (by kernel_rfl) (by kernel_rfl) (by kernel_rfl) (fun _ _ _ h => h) (Or.inl ⟨by kernel_rfl, ?hy1d⟩) hHeld ?rest1d
            case hy1d => (intro w' hSw; (try dsimp only at hSw); obtain ⟨q0, q1, q2, q3, q4, q5⟩ := KM.out _ hSw; go_simp; try with_reducible rfl)
            try simp only [Act.put, List.getElem_toArray]
            refine wpAnyH_take (i := 2) (v := .agg #[.int .i64 r, .int .i64 s, .slice a n c]) rfl (by kernel_rfl) (by kernel_rfl) (by kernel_rfl) (fun _ _ _ h => h) (Or.inl ⟨by kernel_rfl, ?hy2d⟩) hHeld ?rest2d
            case hy2d => (intro w' hSw; (try dsimp only at hSw); obtain ⟨q0, q1, q2⟩ := KC.out _ hSw; go_simp; try with_reducible rfl)
            try simp only [Act.put, List.getElem_toArray]
            refine wpAnyH_ready (rs := [3]) (by kernel_rfl) (by simp) ?_
            refine AllReadyH.cons rfl (fun K hK => ?_) AllReadyH.nil
            go_simp; refine (KL9.out _ hHeld).mono ?_; rintro e u3 ⟨rfl, hbu3⟩; have Hu3 : Hid (Below z W0 u3) := (hHeld : Below _ _ _).trans (hbu3.mono (by have := (hHeld : Below _ _ _).size; have := HZ.out.1; omega)); clear hbu3; go_wp2_with fail
            refine hK.out _ _ ?hS3d (fun hHeld => ?rest3d)
            case hS3d => exact Hu3.out
            clear hK K
            try simp only [Act.put, List.setIfInBounds_toArray, List.set_cons_zero, List.set_cons_succ, List.getElem_toArray, List.getElem_cons_zero, List.getElem_cons_succ]
            refine wpAnyH_take (i := 4) (v := ?v4d) rfl (by kernel_rfl) (by kernel_rfl) (by kernel_rfl) (fun _ _ _ h => h) (Or.inl ⟨by rfl, ?hy4d⟩) hHeld ?rest4d
            case hy4d => (intro w hSw; (try dsimp only at hSw); go_simp; try with_reducible rfl)
            try simp only [Act.put, List.setIfInBounds_toArray, List.set_cons_zero, List.set_cons_succ, List.getElem_toArray, List.getElem_cons_zero, List.getElem_cons_succ]
            refine wpAnyH_take (i := 5) (v := ?v5d) rfl (by kernel_rfl) (by kernel_rfl) (by kernel_rfl) (fun _ _ _ h => h) (Or.inl ⟨by rfl, ?hy5d⟩) hHeld ?rest5d
            case hy5d => (intro w hSw; (try dsimp only at hSw); go_simp; try with_reducible rfl)
            try simp only [Act.put, List.setIfInBounds_toArray, List.set_cons_zero, List.set_cons_succ, List.getElem_toArray, List.getElem_cons_zero, List.getElem_cons_succ]
            refine wpAnyH_done (by kernel_rfl) ?_ _
            refine NoPanic.normal ?_
            have Z3' : Hid (z ≤ u3.heap.size) := by show _ ≤ _; have := Hu3.out.size; have := HZ.out.1; omega
            obtain ⟨c0, c1, c2⟩ := KC.out _ Hu3.out
            obtain ⟨m0, m1, m2, m3, m4, m5⟩ := KM.out _ Hu3.out
            have KT2 : Hid (∀ W V l, OwnD W z V l → z ≤ W.heap.size → l.length ≤ 1000 → Calls Try.prog 25 #[V, .slice (some ⟨W.heap.size, 0, none⟩) 1 1] (W.alloc (.cells #[.int .i64 1, .int .i64 x, .slice none 0 0, .int .i64 0, .int .i64 0, .int .i64 0, .int .i64 0, .bool false, .slice none 0 0] 37)) fun e w' => ∃ V', e = .returned V' ∧ OwnD w' z V' (l ++ some9 [dP 1 x noM]) ∧ W.grownBy w' V.ownBlock) := fun W V l h1 h2 h3 => then1 W z V l (dP 1 x noM) h1 h2 h3
            go_upto_region 19 with (first | (go_at_call 26; refine (KE.out _).mono ?_; rintro e4 u4 ⟨rfl, b4⟩; have B4 : Hid (Below z W0 u4) := Hu3.out.trans (b4.mono Z3'.out); have Z4 : Hid (z ≤ u4.heap.size) := Nat.le_trans Z3'.out b4.size; clear b4) | (go_at_call 25; refine (KT2.out _ _ _ (ON.out u4) Z4.out (by simp)).mono ?_; rintro e5 u5 ⟨V5, rfl, o5, g5⟩; have O5 : Hid (OwnD u5 z V5 (some9 [dP 1 x noM])) := o5; have B5 : Hid (Below z W0 u5) := B4.out.grown g5 Z4.out (fun k hk => by cases hk); have Z5 : Hid (z ≤ u5.heap.size) := Nat.le_trans Z4.out g5.size; clear o5 g5))
            clear c0 c1 c2 m0 m1 m2 m3 m4 m5
            obtain ⟨c0, c1, c2⟩ := KC.out _ B5.out
            obtain ⟨m0, m1, m2, m3, m4, m5⟩ := KM.out _ B5.out
            have KS : Hid (∀ W, Calls Try.prog 29 #[.agg #[.int .i64 r, .int .i64 s, .slice a n c], .agg #[.int .i64 5, .int .i64 0, .int .i64 0, .int .i64 x, .bool false, .slice none 0 0]] W fun e w' => e = .returned (.agg #[.int .i64 5, .int .i64 0, .slice none 0 0, .int .i64 5, .int .i64 r, .int .i64 0, .int .i64 x, .bool false, .slice none 0 0]) ∧ Below W.heap.size W w') := fun W => send_is W r s a n c ⟨5, 0, 0, x, false, none, 0, 0⟩
            have KT1 : Hid (∀ W V l, OwnD W z V l → z ≤ W.heap.size → l.length ≤ 1000 → Calls Try.prog 25 #[V, .slice (some ⟨W.heap.size, 0, none⟩) 1 1] (W.alloc (.cells #[.int .i64 5, .int .i64 0, .slice none 0 0, .int .i64 5, .int .i64 r, .int .i64 0, .int .i64 x, .bool false, .slice none 0 0] 37)) fun e w' => ∃ V', e = .returned V' ∧ OwnD w' z V' (l ++ [dSn 5 r x false]) ∧ W.grownBy w' V.ownBlock) := fun W V l h1 h2 h3 => then1 W z V l (dSn 5 r x false) h1 h2 h3
            go_wp2_with (first | (go_at_call 29; refine (KS.out _).mono ?_; rintro e7 w7 ⟨rfl, b7⟩; have B7 : Hid (Below z W0 w7) := B5.out.trans (b7.mono Z5.out); have O7 : Hid (OwnD w7 z _ _) := O5.out.keep b7; have Z7 : Hid (z ≤ w7.heap.size) := Nat.le_trans Z5.out b7.size;  clear b7) | (go_at_call 25; refine (KT1.out _ _ _ O7.out Z7.out (Nat.le_trans (List.length_filter_le _ _) (by simp))).mono ?_; rintro e8 w8 ⟨V8, rfl, o8, g8⟩; have O8 : Hid (OwnD w8 z V8 _) := o8; have B8 : Hid (Below z W0 w8) := B7.out.grown g8 Z7.out (fun k hk => (O7.out.own k hk).1);  clear o8 g8))
            go_step3
            go_wp2_with fail
            rw [jump_ret]
            go_ret
            exact FIN.out _ _ (none, 0, 0) (by rw [HT.out.1 HXL.out]; exact O8.out) B8.out (fun h => absurd h HT.out.2.2)
        · have x1 : (x == l9) = false := by simp [hxl]
          have HXL : Hid (¬ x = l9) := hxl
          clear hxl
          go_wp2_with fail
          clear c0 c1 c2 m0 m1 m2 m3 m4 m5
          refine wp_region_noPanic ?_
          refine wp_region_held_drew (S := (fun W : World => Below z W0 W)) (by kernel_rfl) ?hSae (fun hHeld => ?restae)
          case hSae => exact below_drewM B3.out
          case restae =>
            refine wpAnyH_take (i := 0) (v := .pointer (some ⟨w.heap.size + 1, 3, none⟩)) rfl (by kernel_rfl) (by kernel_rfl) (by kernel_rfl) (fun _ _ _ h => h) (Or.inl ⟨by kernel_rfl, ?hy0e⟩) hHeld ?rest0e
            case hy0e => (intro w' hSw; (try dsimp only at hSw); go_simp; try with_reducible rfl)
            try simp only [Act.put, List.getElem_toArray]
            refine wpAnyH_take (i := 1) (v := .int .i64 x) rfl (by kernel_rfl) (by kernel_rfl) (by kernel_rfl) (fun _ _ _ h => h) (Or.inl ⟨by kernel_rfl, ?hy1e⟩) hHeld ?rest1e
            case hy1e => (intro w' hSw; (try dsimp only at hSw); obtain ⟨q0, q1, q2, q3, q4, q5⟩ := KM.out _ hSw; go_simp; try with_reducible rfl)
            try simp only [Act.put, List.getElem_toArray]
            refine wpAnyH_take (i := 2) (v := .agg #[.int .i64 r, .int .i64 s, .slice a n c]) rfl (by kernel_rfl) (by kernel_rfl) (by kernel_rfl) (fun _ _ _ h => h) (Or.inl ⟨by kernel_rfl, ?hy2e⟩) hHeld ?rest2e
            case hy2e => (intro w' hSw; (try dsimp only at hSw); obtain ⟨q0, q1, q2⟩ := KC.out _ hSw; go_simp; try with_reducible rfl)
            try simp only [Act.put, List.getElem_toArray]
            refine wpAnyH_ready (rs := [3]) (by kernel_rfl) (by simp) ?_
            refine AllReadyH.cons rfl (fun K hK => ?_) AllReadyH.nil
            go_simp; refine (KL9.out _ hHeld).mono ?_; rintro e u3 ⟨rfl, hbu3⟩; have Hu3 : Hid (Below z W0 u3) := (hHeld : Below _ _ _).trans (hbu3.mono (by have := (hHeld : Below _ _ _).size; have := HZ.out.1; omega)); clear hbu3; go_wp2_with fail
            refine hK.out _ _ ?hS3e (fun hHeld => ?rest3e)
            case hS3e => exact Hu3.out
            clear hK K
            try simp only [Act.put, List.setIfInBounds_toArray, List.set_cons_zero, List.set_cons_succ, List.getElem_toArray, List.getElem_cons_zero, List.getElem_cons_succ]
            refine wpAnyH_take (i := 4) (v := ?v4e) rfl (by kernel_rfl) (by kernel_rfl) (by kernel_rfl) (fun _ _ _ h => h) (Or.inl ⟨by rfl, ?hy4e⟩) hHeld ?rest4e
            case hy4e => (intro w hSw; (try dsimp only at hSw); go_simp; try with_reducible rfl)
            try simp only [Act.put, List.setIfInBounds_toArray, List.set_cons_zero, List.set_cons_succ, List.getElem_toArray, List.getElem_cons_zero, List.getElem_cons_succ]
            refine wpAnyH_take (i := 5) (v := ?v5e) rfl (by kernel_rfl) (by kernel_rfl) (by kernel_rfl) (fun _ _ _ h => h) (Or.inl ⟨by rfl, ?hy5e⟩) hHeld ?rest5e
            case hy5e => (intro w hSw; (try dsimp only at hSw); go_simp; try with_reducible rfl)
            try simp only [Act.put, List.setIfInBounds_toArray, List.set_cons_zero, List.set_cons_succ, List.getElem_toArray, List.getElem_cons_zero, List.getElem_cons_succ]
            refine wpAnyH_done (by kernel_rfl) ?_ _
            refine NoPanic.normal ?_
            have Z3' : Hid (z ≤ u3.heap.size) := by show _ ≤ _; have := Hu3.out.size; have := HZ.out.1; omega
            obtain ⟨c0, c1, c2⟩ := KC.out _ Hu3.out
            obtain ⟨m0, m1, m2, m3, m4, m5⟩ := KM.out _ Hu3.out
            have ON3 : Hid (OwnD u3 z (.slice none 0 0) []) := ON.out u3
            have KS : Hid (∀ W, Calls Try.prog 29 #[.agg #[.int .i64 r, .int .i64 s, .slice a n c], .agg #[.int .i64 5, .int .i64 0, .int .i64 0, .int .i64 x, .bool false, .slice none 0 0]] W fun e w' => e = .returned (.agg #[.int .i64 5, .int .i64 0, .slice none 0 0, .int .i64 5, .int .i64 r, .int .i64 0, .int .i64 x, .bool false, .slice none 0 0]) ∧ Below W.heap.size W w') := fun W => send_is W r s a n c ⟨5, 0, 0, x, false, none, 0, 0⟩
            have KT1 : Hid (∀ W V l, OwnD W z V l → z ≤ W.heap.size → l.length ≤ 1000 → Calls Try.prog 25 #[V, .slice (some ⟨W.heap.size, 0, none⟩) 1 1] (W.alloc (.cells #[.int .i64 5, .int .i64 0, .slice none 0 0, .int .i64 5, .int .i64 r, .int .i64 0, .int .i64 x, .bool false, .slice none 0 0] 37)) fun e w' => ∃ V', e = .returned V' ∧ OwnD w' z V' (l ++ [dSn 5 r x false]) ∧ W.grownBy w' V.ownBlock) := fun W V l h1 h2 h3 => then1 W z V l (dSn 5 r x false) h1 h2 h3
            go_wp2_with (first | (go_at_call 29; refine (KS.out _).mono ?_; rintro e7 w7 ⟨rfl, b7⟩; have B7 : Hid (Below z W0 w7) := Hu3.out.trans (b7.mono Z3'.out); have O7 : Hid (OwnD w7 z _ _) := ON3.out.keep b7; have Z7 : Hid (z ≤ w7.heap.size) := Nat.le_trans Z3'.out b7.size;  clear b7) | (go_at_call 25; refine (KT1.out _ _ _ O7.out Z7.out (by simp)).mono ?_; rintro e8 w8 ⟨V8, rfl, o8, g8⟩; have O8 : Hid (OwnD w8 z V8 _) := o8; have B8 : Hid (Below z W0 w8) := B7.out.grown g8 Z7.out (fun k hk => (O7.out.own k hk).1);  clear o8 g8))
            go_step3
            go_wp2_with fail
            rw [jump_ret]
            go_ret
            exact FIN.out _ _ (none, 0, 0) (by rw [HT.out.2.1 HXL.out]; exact O8.out) B8.out (fun h => absurd h HT.out.2.2)
  by_cases hk4 : k = 4
  · skip
    have k1a : (k == 1) = false := by simp [hk1]
    have k1b : decide (k = 1) = false := by simp [hk1]
    have k3a : (k == 3) = false := by simp [hk3]
    have k3b : decide (k = 3) = false := by simp [hk3]
    have k4a : (k == 4) = true := by simp [hk4]
    have k4b : decide (k = 4) = true := by simp [hk4]
    cases S with
    | true =>
      have HT : Hid (tkD r s D k x (none, 0, 0) = [] ++ some9 [dP 4 x noM] ∧ ¬ k = 1) := by
        have hsx := of_decide_eq_true HSI.out.1
        refine ⟨?_, hk1⟩
        unfold tkD
        rw [if_neg hk1, if_neg hk3, if_pos hk4, if_pos hsx]
        rfl
      have KT2 : Hid (∀ W V l, OwnD W z V l → z ≤ W.heap.size → l.length ≤ 1000 → Calls Try.prog 25 #[V, .slice (some ⟨W.heap.size, 0, none⟩) 1 1] (W.alloc (.cells #[.int .i64 4, .int .i64 x, .slice none 0 0, .int .i64 0, .int .i64 0, .int .i64 0, .int .i64 0, .bool false, .slice none 0 0] 37)) fun e w' => ∃ V', e = .returned V' ∧ OwnD w' z V' (l ++ some9 [dP 4 x noM]) ∧ W.grownBy w' V.ownBlock) := fun W V l h1 h2 h3 => then1 W z V l (dP 4 x noM) h1 h2 h3
      clear hk1 hk3 hk4
      go_wp2_with (go_at_call 25; refine (KT2.out _ _ _ (ON.out w3) hZ3.out (by simp)).mono ?_; rintro e5 u5 ⟨V5, rfl, o5, g5⟩; have O8 : Hid (OwnD u5 z V5 ([] ++ some9 [dP 4 x noM])) := o5; have B8 : Hid (Below z W0 u5) := B3.out.grown g5 hZ3.out (fun k hk => by cases hk); clear o5 g5)
      go_step3
      go_wp2_with fail
      rw [jump_ret]
      go_ret
      exact FIN.out _ _ (none, 0, 0) (by rw [HT.out.1]; exact O8.out) B8.out (fun h => absurd h HT.out.2)
    | false =>
      have HT : Hid (tkD r s D k x (none, 0, 0) = [] ∧ ¬ k = 1) := by
        have hsx := of_decide_eq_false HSI.out.1
        refine ⟨?_, hk1⟩
        unfold tkD
        rw [if_neg hk1, if_neg hk3, if_pos hk4, if_neg hsx]
      clear hk1 hk3 hk4
      go_wp2_with fail
      go_step3
      go_wp2_with fail
      rw [jump_ret]
      go_ret
      exact FIN.out _ _ (none, 0, 0) (by rw [HT.out.1]; exact OwnD.nil _ _) B3.out (fun h => absurd h HT.out.2)
  have k1a : (k == 1) = false := by simp [hk1]
  have k1b : decide (k = 1) = false := by simp [hk1]
  have k3a : (k == 3) = false := by simp [hk3]
  have k3b : decide (k = 3) = false := by simp [hk3]
  have k4a : (k == 4) = false := by simp [hk4]
  have k4b : decide (k = 4) = false := by simp [hk4]
  have HT : Hid (tkD r s D k x (none, 0, 0) = [] ∧ ¬ k = 1) := ⟨by unfold tkD; rw [if_neg hk1, if_neg hk3, if_neg hk4], hk1⟩
  clear hk1 hk3 hk4
  go_wp2_with fail
  go_step3
  go_wp2_with fail
  rw [jump_ret]
  go_ret
  exact FIN.out _ _ (none, 0, 0) (by rw [HT.out.1]; exact OwnD.nil _ _) B3.out (fun h => absurd h HT.out.2)
end Go.Proofs.Ytmokonaodoiflaa
