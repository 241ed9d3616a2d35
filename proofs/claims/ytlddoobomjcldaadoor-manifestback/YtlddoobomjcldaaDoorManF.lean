/- manifest.Order. -/
import Derived.Test.YtlddoobomjcldaaDoorManE
namespace Go.Proofs.YtlddoobomjcldaaDoor
open Go.RowKit Go.Shelf Go.Deep
set_option linter.unusedVariables false
attribute [local go_sem] Oper.semAt_some
theorem zip_pre : ∀ (xs ys : List Tx), (∀ p ∈ xs.zip ys, p.1 = p.2) → xs <+: ys ∨ ys <+: xs
  | [], ys, _ => .inl (List.nil_prefix)
  | x :: xs, [], _ => .inr (List.nil_prefix)
  | x :: xs, y :: ys, h => by
    have e : x = y := h (x, y) (by simp)
    subst e
    rcases zip_pre xs ys (fun p hp => h p (by simp [hp])) with ⟨t, ht⟩ | ⟨t, ht⟩
    · left; exact ⟨t, by simp [ht]⟩
    · right; exact ⟨t, by simp [ht]⟩
theorem ord_same (A B : Tx) (h : ∀ p ∈ zp A B, p.1 = p.2) : cI (A.length : Nat) (B.length : Nat) = ord A B := by
  rcases zip_pre (pcd A) (pcd B) h with ⟨t, ht⟩ | ⟨t, ht⟩
  · exact cI_lens A B t ht.symm
  · have := cI_lens B A t ht.symm
    rw [cI_anti, this]
    unfold ord
    rw [cL_anti (pcd A) (pcd B)]
    omega
theorem cL_first : ∀ (xs ys : List Tx) (pre : List (Tx × Tx)) (x y : Tx), pre ++ [(x, y)] <+: xs.zip ys → (∀ p ∈ pre, p.1 = p.2) → x ≠ y → cL xs ys = cP x y
  | [], ys, pre, x, y, ⟨t, ht⟩, _, _ => by simp at ht
  | a :: xs, [], pre, x, y, ⟨t, ht⟩, _, _ => by simp at ht
  | a :: xs, b :: ys, [], x, y, ⟨t, ht⟩, _, hne => by
    simp at ht
    obtain ⟨⟨rfl, rfl⟩, _⟩ := ht
    unfold cL
    rw [if_neg hne]
  | a :: xs, b :: ys, p :: pre, x, y, ⟨t, ht⟩, h, hne => by
    simp at ht
    obtain ⟨rfl, ht⟩ := ht
    have e : a = b := h (a, b) (by simp)
    unfold cL
    rw [if_pos e]
    exact cL_first xs ys pre x y ⟨t, by simpa using ht⟩ (fun q hq => h q (by simp [hq])) hne
/-- what the first unlike pieces tell -/
def vf (pre : List (Tx × Tx)) : Int := match pre.getLast? with | some p => cP p.1 p.2 | none => 0
def Pq (pre : List (Tx × Tx)) : Prop := ∃ pre0 x y, pre = pre0 ++ [(x, y)] ∧ (∀ p ∈ pre0, p.1 = p.2) ∧ x ≠ y
theorem ord_stop {A B : Tx} {pre : List (Tx × Tx)} (h : pre <+: zp A B) (hp : Pq pre) : vf pre = ord A B := by
  obtain ⟨pre0, x, y, rfl, h1, h2⟩ := hp
  unfold vf ord
  simp
  exact (cL_first (pcd A) (pcd B) pre0 x y h h1 h2).symm
theorem results_int {fn : Func} {p : Tmp} (h : fn.results = #[.cell p 3]) (tmps : Array Value) (w : World) (g : Nat) (v : Value) (hp : tmps.getD p undef = .pointer (some ⟨g, 0, none⟩)) (hc : w.cell? ⟨g, 0, none⟩ = some v) :
    (results fn tmps).run Tryd.prog w = .ok v w := by
  have hp' : tmps[p]?.getD undef = .pointer (some ⟨g, 0, none⟩) := by simpa using hp
  simp [results, h, hp', asAddr, go_sem, hc]
set_option maxRecDepth 100000 in
set_option maxHeartbeats 4000000 in
theorem order_is (A B : Tx) (hA : A.length ≤ 140737488355328) (hB : B.length ≤ 140737488355328) (w : World) :
    Calls Tryd.prog 45 #[.string (tx A), .string (tx B)] w fun e w' => e = .returned (.int .i64 (ord A B)) ∧ Below w.heap.size w w' := by
  have KM : Hid (∀ w, Calls Tryd.prog 64 #[.string (tx A), .string (tx B)] w fun e w' => e = .returned (.func (.func 82) #[] #[.pointer (some ⟨w.heap.size, 0, none⟩), .pointer (some ⟨w.heap.size + 1, 0, none⟩)]) ∧ w' = (w.alloc (.cells #[.string (tx A)] 9)).alloc (.cells #[.string (tx B)] 9)) := pieces_is A B
  have KC : Hid (∀ w, Calls Tryd.prog 66 #[.int .i64 (A.length : Nat), .int .i64 (B.length : Nat)] w fun e w' => e = .returned (.int .i64 (cI (A.length : Nat) (B.length : Nat))) ∧ w' = w) := cmpInt_is _ _
  have s1 := tx_size A
  have s2 := tx_size B
  refine (callsIn_wide (n := 3)).1 ?_
  refine callsIn_of_wp_marks Tryd.func45 rfl trivial ?_ rfl
  simp only [Tryd.ntmps45, List.size_toArray, List.length_cons, List.length_nil, Nat.reduceAdd, Nat.reduceSub, Array.replicate_succ, Array.replicate_zero, List.push_toArray, List.append_toArray, List.nil_append, List.cons_append]
  gi_wp2_with fail
  refine ⟨trivial, (callsIn_wide.2 (KM.out _)).mono ?_⟩
  rintro e w3 ⟨rfl, hw3⟩
  gi_wp2_with fail
  clear hw3
  obtain ⟨W0, hW0⟩ : ∃ W0, W0 = (((w.alloc (.cells #[.int .i64 0] 3)).alloc (.cells #[.string (tx A)] 9)).alloc (.cells #[.string (tx B)] 9)) := ⟨_, rfl⟩
  have hsz : W0.heap.size = w.heap.size + 3 := by rw [hW0]; simp
  have bR : Boxed W0 w.heap.size 3 (.int .i64 0) := by
    rw [hW0]
    exact ((Boxed.new w 3 (.int .i64 0)).alloc _).alloc _
  have cA : W0.cell? ⟨w.heap.size + 1, 0, none⟩ = some (.string (tx A)) := by
    have := (Boxed.new (w.alloc (.cells #[.int .i64 0] 3)) 9 (.string (tx A))).alloc (.cells #[.string (tx B)] 9)
    rw [World.size_alloc] at this
    rw [hW0]
    exact this.cell
  have cB' : W0.cell? ⟨w.heap.size + 1 + 1, 0, none⟩ = some (.string (tx B)) := by
    have := Boxed.new ((w.alloc (.cells #[.int .i64 0] 3)).alloc (.cells #[.string (tx A)] 9)) 9 (.string (tx B))
    rw [World.size_alloc, World.size_alloc] at this
    rw [hW0]
    exact this.cell
  have bel0 : Below w.heap.size w W0 := by
    rw [hW0]
    exact (((Below.refl _ w).alloc (Nat.le_refl _) _).alloc (by simp) _).alloc (by simp; try omega) _
  rw [← hW0]
  clear hW0
  refine wpIn_rangeFunc_ownG rfl (by omega) (gf := 82) (lb := #[.pointer (some ⟨w.heap.size + 1, 0, none⟩), .pointer (some ⟨w.heap.size + 1 + 1, 0, none⟩)]) rfl trivial (enters_of Tryd.func82 (by kernel_rfl) rfl)
    (pieces1_stops A B hA hB (3 - 1) (by omega) (w.heap.size + 1) (w.heap.size + 1 + 1) W0 cA cB') (fun _ _ => trivial) (fun _ _ _ _ _ _ _ _ => trivial) (Below.refl _ _) (fun _ => rfl)
    (fun pre W => Boxed W w.heap.size 3 (.int .i64 0) ∧ ((∀ p ∈ bps pre, p.1 = p.2) ∧ Below w.heap.size w W))
    (fun c pre W => Boxed W w.heap.size 3 (.int .i64 (vf (bps pre))) ∧ ((c = .ret ∧ Pq (bps pre)) ∧ Below w.heap.size w W))
    (OwnFrom.and (Own.from (boxed_own _ _ (fun _ : List BP => .int .i64 0)) _) (OwnFrom.and (ownFrom_pure _ (fun pre : List BP => ∀ p ∈ bps pre, p.1 = p.2)) (ownFrom_below (Nat.le_refl _) (by rw [hsz]; omega))))
    (fun c => OwnFrom.and (Own.from (boxed_own _ _ (fun pre : List BP => .int .i64 (vf (bps pre)))) _) (OwnFrom.and (ownFrom_pure _ (fun pre : List BP => c = .ret ∧ Pq (bps pre))) (ownFrom_below (Nat.le_refl _) (by rw [hsz]; omega))))
    ⟨bR, by simp [bps], bel0⟩
    (fun x => { tmps := #[.string (tx A), .string (tx B), undef, undef, .pointer (some ⟨w.heap.size, 0, none⟩), .string (tx x.x), .string (tx x.y), .string (tx A), .string (tx B), .func (.func 82) #[] #[.pointer (some ⟨w.heap.size + 1, 0, none⟩), .pointer (some ⟨w.heap.size + 1 + 1, 0, none⟩)], .string (tx x.x), .string (tx x.y), undef, undef, undef, undef, undef, undef, undef, undef, undef, undef, undef], defers := [] }) ?assign ?body ?done ?stop
  case assign =>
    intro l x W K hK
    gi_wp2
    exact hK
  case body =>
    rintro l pre x W ⟨hbx, hpre, hbel⟩ hlt
    obtain ⟨⟨X, Y⟩, hX, hY⟩ := x
    have HB : Hid (Below w.heap.size w W) := hbel
    have HX : Hid (Boxed W w.heap.size 3 (.int .i64 0)) := hbx
    have HP : Hid (∀ p ∈ bps pre, p.1 = p.2) := hpre
    have KO : Hid (∀ w, Calls Tryd.prog 65 #[.string (tx X), .string (tx Y)] w fun e w' => e = .returned (.int .i64 (cP X Y)) ∧ w' = w) := ordPieces_is X Y hX hY
    have te := tx_eq X Y
    have hcl := hbx.cell
    have hfz := hbx.frozen
    have HSN : Hid (bps (pre ++ [bp X Y ⟨hX, hY⟩]) = bps pre ++ [(X, Y)]) := bps_snoc _ _
    clear hbx hpre hbel
    change Code.wpIn _ _ _ _ (ownPostG _ _ _ _ (pre ++ [bp X Y ⟨hX, hY⟩]) _) { tmps := #[.string (tx A), .string (tx B), undef, undef, .pointer (some ⟨w.heap.size, 0, none⟩), .string (tx X), .string (tx Y), .string (tx A), .string (tx B), .func (.func 82) #[] #[.pointer (some ⟨w.heap.size + 1, 0, none⟩), .pointer (some ⟨w.heap.size + 1 + 1, 0, none⟩)], .string (tx X), .string (tx Y), undef, undef, undef, undef, undef, undef, undef, undef, undef, undef, undef], defers := [] } _
    generalize pre ++ [bp X Y ⟨hX, hY⟩] = pre2 at *
    by_cases hxy : X = Y
    · have HXY : Hid (X = Y) := hxy
      rw [decide_eq_true hxy] at te
      clear hxy
      gi_wp2_with fail
      have hall : ∀ p ∈ bps pre2, p.1 = p.2 := by
        intro p hp
        rw [HSN.out] at hp
        rcases List.mem_append.1 hp with hp | hp
        · exact HP.out p hp
        · simp at hp; rw [hp]; exact HXY.out
      exact ⟨KeepsFrom.refl _ _, trivial, HX.out, (by first | exact hall | exact fun a b h => hall (a, b) h), HB.out⟩
    · have HXY : Hid (Pq (bps pre ++ [(X, Y)])) := ⟨bps pre, X, Y, rfl, HP.out, hxy⟩
      rw [decide_eq_false hxy] at te
      clear hxy
      gi_wp2_with fail
      refine ⟨trivial, CallsIn.inRound l ((callsIn_wide.2 (KO.out _)).mono ?_)⟩
      rintro e w' ⟨rfl, hw⟩
      obtain rfl := hw.symm
      clear hw
      gi_wp2_with fail
      refine ⟨(KeepsOthers.setCell _ _ _).from _, ?_, ⟨rfl, by rw [HSN.out]; exact HXY.out⟩, HB.out.setCell (p := ⟨w.heap.size, 0, none⟩) (Nat.le_refl _) _⟩
      rw [HSN.out]
      have : vf (bps pre ++ [(X, Y)]) = cP X Y := by simp [vf]
      rw [this]
      exact HX.out.set _
  case done =>
    rintro D ys W hD hys ⟨hbx, hpre, hbel⟩ hK
    rw [hys] at hpre
    have HO : Hid (cI (A.length : Nat) (B.length : Nat) = ord A B) := ord_same A B hpre
    have HB : Hid (Below w.heap.size w W) := hbel
    have HX : Hid (Boxed W w.heap.size 3 (.int .i64 0)) := hbx
    have hcl := hbx.cell
    have hfz := hbx.frozen
    have HK : Hid (W.heap[D]? = some (.deferred (some []))) := hK
    have hDw : w.heap.size < D := by rw [hsz] at hD; omega
    rw [HO.out] at KC
    clear hbx hpre hbel hK
    gi_wp2_with fail
    refine ⟨trivial, (callsIn_wide.2 (KC.out _)).mono ?_⟩
    rintro e w' ⟨rfl, hw⟩
    obtain rfl := hw.symm
    clear hw
    gi_wp2_with fail
    have K2 : (W.setCell ⟨w.heap.size, 0, none⟩ (.int .i64 (ord A B))).heap[D]? = some (.deferred (some [])) := (Below.heap_setCell W ⟨w.heap.size, 0, none⟩ _ D (by show D ≠ w.heap.size; omega)).trans HK.out
    have C2 := (HX.out.set (.int .i64 (ord A B)))
    have C3 : ((W.setCell ⟨w.heap.size, 0, none⟩ (.int .i64 (ord A B))).putObj D (.deferred none)).cell? ⟨w.heap.size, 0, none⟩ = some (.int .i64 (ord A B)) := by
      have : ((W.setCell ⟨w.heap.size, 0, none⟩ (.int .i64 (ord A B))).putObj D (.deferred none)).heap[w.heap.size]? = _ := (World.putObj_heap_other (by omega)).trans C2
      exact Boxed.cell this
    refine ⟨by simp, .inl ⟨_, _, rfl, run_takeDeferred K2, ?_⟩⟩
    exact ⟨_, results_int rfl _ _ w.heap.size _ rfl C3, rfl, (HB.out.setCell (p := ⟨w.heap.size, 0, none⟩) (Nat.le_refl _) _).trans (belowK_b (w := w) (Nat.le_refl _) _ D _ _ (by omega) K2 rfl rfl)⟩
  case stop =>
    rintro D c pre W hD hpp ⟨hbx, ⟨rfl, hpq⟩, hbel⟩ hK
    have HO : Hid (vf (bps pre) = ord A B) := ord_stop hpp hpq
    rw [HO.out] at hbx
    have HK : Hid (W.heap[D]? = some (.deferred (some []))) := hK
    have hDw : w.heap.size < D := by rw [hsz] at hD; omega
    have hcl := hbx.cell
    gi_wp2_with fail
    have C3 : (W.putObj D (.deferred none)).cell? ⟨w.heap.size, 0, none⟩ = some (.int .i64 (ord A B)) := by
      have : (W.putObj D (.deferred none)).heap[w.heap.size]? = _ := (World.putObj_heap_other (by omega)).trans hbx
      exact Boxed.cell this
    refine ⟨by simp, .inl ⟨_, _, rfl, run_takeDeferred HK.out, ?_⟩⟩
    exact ⟨_, results_int rfl _ _ w.heap.size _ rfl C3, rfl, hbel.trans (belowK_b (w := w) (Nat.le_refl _) _ D _ _ (by omega) HK.out rfl rfl)⟩
end Go.Proofs.YtlddoobomjcldaaDoor
