/- TrailWalks' walk. -/
import Derived.Test.YtegdblacmghghaaDoorTrlD
import Derived.Test.YtegdblacmghghaaDoorTrlN
namespace Go.Proofs.YtegdblacmghghaaDoor
open Go.RowKit Go.Shelf Go.Deep
set_option linter.unusedVariables false
attribute [local go_sem] Oper.semAt_some
/-- behind a round: got has one text more, n is one more, all else is as it was -/
theorem body_after {W w1 : World} {n₀ : Nat} {v v' k : Value} {pre : List Tx} {x : Tx} {tmp : Obj} (u : Value) (hn₀ : n₀ ≤ W.heap.size) (hv : Boxed W n₀ 25 v) (hn : Boxed W (n₀ + 1) 3 k) (hrow : RowsS W n₀ v pre) (hown' : RowsS w1 n₀ v' (pre ++ [x]))
    (hgrow : (W.alloc tmp).grownBy w1 v.ownBlock) (hob : v'.ownBlock = v.ownBlock ∨ v'.ownBlock = some (W.alloc tmp).heap.size) :
    KeepsOthers W ((w1.setCell ⟨n₀, 0, none⟩ v').setCell ⟨n₀ + 1, 0, none⟩ u) ∧ Kp n₀ W ((w1.setCell ⟨n₀, 0, none⟩ v').setCell ⟨n₀ + 1, 0, none⟩ u) ∧ Boxed ((w1.setCell ⟨n₀, 0, none⟩ v').setCell ⟨n₀ + 1, 0, none⟩ u) n₀ 25 v' ∧
      RowsS ((w1.setCell ⟨n₀, 0, none⟩ v').setCell ⟨n₀ + 1, 0, none⟩ u) n₀ v' (pre ++ [x]) ∧ Boxed ((w1.setCell ⟨n₀, 0, none⟩ v').setCell ⟨n₀ + 1, 0, none⟩ u) (n₀ + 1) 3 u ∧ Below n₀ W ((w1.setCell ⟨n₀, 0, none⟩ v').setCell ⟨n₀ + 1, 0, none⟩ u) := by
  obtain ⟨hv1, hv2, hr2, hk2, hb2⟩ := hv.appended (by decide) hrow hn₀ (Nat.le_refl _) hown' hgrow
  have hn1 : Boxed w1 (n₀ + 1) 3 k := (hn.alloc tmp).kept hgrow (hn.not_row (by decide) hrow)
  have hn2 : Boxed (w1.setCell ⟨n₀, 0, none⟩ v') (n₀ + 1) 3 k := hn1.other (by omega) _
  have hv3 : Boxed ((w1.setCell ⟨n₀, 0, none⟩ v').setCell ⟨n₀ + 1, 0, none⟩ u) n₀ 25 v' := hv2.other (by omega) _
  have hb3 : Below n₀ W ((w1.setCell ⟨n₀, 0, none⟩ v').setCell ⟨n₀ + 1, 0, none⟩ u) := hb2.setCell (p := ⟨n₀ + 1, 0, none⟩) (by show n₀ ≤ n₀ + 1; omega) _
  refine ⟨hk2.trans (KeepsOthers.setCell _ _ _), ⟨hb3, fun g o hg ho hge hno => ?_, fun g hg => ?_⟩, hv3, ?_, hn2.set u, hb3⟩
  · have hlt := (Array.getElem?_eq_some_iff.1 hg).1
    rw [Below.heap_setCell _ _ _ g (by show g ≠ n₀ + 1; omega), Below.heap_setCell _ _ _ g (by show g ≠ n₀; omega), hgrow.block g (by simp; omega) (fun e => hno ⟨v, hv.cell, e.symm⟩), Below.heap_alloc W tmp g hlt]
    exact hg
  · obtain ⟨z, h1, h2⟩ := hg
    rw [hv3.cell] at h1
    cases h1
    rcases hob with h3 | h3
    · exact .inl ⟨v, hv.cell, by rw [← h3]; exact h2⟩
    · right
      have h4 := hown'.lt g h2
      rw [h3] at h2
      simp at h2
      have h5 : ((w1.setCell ⟨n₀, 0, none⟩ v').setCell ⟨n₀ + 1, 0, none⟩ u).heap.size = w1.heap.size := by simp [World.setCell]
      rw [h5]
      omega
  · exact World.ownsRow.kept hr2 (grownBy_setCell' _ (n₀ + 1) u) (.inr (hn2.not_row (by decide) hr2).symm)
theorem RowsS.cons {w : World} {base : Nat} {v : Value} {l : List Tx} {x : Tx} (h : RowsS w base v (l ++ [x])) : ∃ g cap, v = .slice (some ⟨g, 0, none⟩) (l.length + 1) cap := by
  have h2 : w.ownsRow base 9 1 v (l.length + 1) ((l ++ [x]).map fun x => .string (tx x)) := by
    have := h
    unfold RowsS at this
    rwa [List.length_append, List.length_singleton] at this
  exact ownsRow_succ h2
/-- what the stores of a round find -/
theorem arm_facts {W w1 : World} {n₀ : Nat} {v v' k : Value} {pre : List Tx} {x : Tx} {tmp : Obj} {b : Nat} {s : Value} (hn₀ : n₀ ≤ W.heap.size) (hv : Boxed W n₀ 25 v) (hn : Boxed W (n₀ + 1) 3 k) (hrow : RowsS W n₀ v pre) (hown' : RowsS w1 n₀ v' (pre ++ [x]))
    (hgrow : (W.alloc tmp).grownBy w1 v.ownBlock) (hs : W.cell? ⟨b, 0, none⟩ = some s) (hb : b < n₀) :
    w1.cell? ⟨n₀, 0, none⟩ = some v ∧ w1.frozen? ⟨n₀, 0, none⟩ = false ∧ w1.cell? ⟨n₀ + 1, 0, none⟩ = some k ∧ w1.frozen? ⟨n₀ + 1, 0, none⟩ = false ∧ w1.cell? ⟨b, 0, none⟩ = some s := by
  obtain ⟨hv1, hv2, hr2, hk2, hb2⟩ := hv.appended (by decide) hrow hn₀ (Nat.le_refl _) hown' hgrow
  have hn1 : Boxed w1 (n₀ + 1) 3 k := (hn.alloc tmp).kept hgrow (hn.not_row (by decide) hrow)
  refine ⟨hv1.cell, hv1.frozen, hn1.cell, hn1.frozen, ?_⟩
  have hbl : Below n₀ W w1 := ((Below.refl n₀ W).alloc hn₀ tmp).grown hgrow (by simp; omega) hrow.from
  exact (hbl.cell (p := ⟨b, 0, none⟩) hb).trans hs
set_option maxRecDepth 100000 in
set_option maxHeartbeats 8000000 in
theorem trailWalks_walk (a : ByteArray) (st : Int) (w : World) (ha : a.size ≤ 140737488355328) (hst : -9223372036854775808 ≤ st ∧ st ≤ 9223372036854775807) (hab : a.size ≤ 1048576) :
    Calls Tryd.prog 4 #[.string a, .int .i64 st] w fun e w' => e = .returned (.bool true) ∧ Below w.heap.size w w' := by
  obtain ⟨P, rfl⟩ : ∃ A, a = tx A := ⟨_, tx_mk a⟩
  rw [tx_size] at ha hab
  have KR : Hid (∀ w, Calls Tryd.prog 12 #[.string (tx P)] w fun e w' => ∃ v, e = .returned v ∧ Rd w' v (wk P) ∧ Below w.heap.size w w') := rwalk_is P (by omega)
  have KM : Hid (∀ w, Calls Tryd.prog 13 #[.string (tx P)] w fun e w' => e = .returned (.func (.func 23) #[] #[.pointer (some ⟨w.heap.size, 0, none⟩)]) ∧ w' = w.alloc (.cells #[.string (tx P)] 9)) := walk_is P
  have KW : Hid (∀ w, Calls Tryd.prog 11 #[] w fun e w' => e = .returned (.bool true) ∧ Below w.heap.size w w') := works_is
  have fnil : ∀ (b : Array Value) (w : World), (binOp .eql 30 (.func (.func 23) #[] b) .nilFunc).run Tryd.prog w = .ok (.bool false) w := fun b => run_eql_func Tryd.underlying30 _ _ b
  refine (callsIn_wide (n := 3)).1 ?_
  refine callsIn_of_wp_marks Tryd.func4 rfl trivial ?_ rfl
  simp only [Tryd.ntmps4, List.size_toArray, List.length_cons, List.length_nil, Nat.reduceAdd, Nat.reduceSub, Array.replicate_succ, Array.replicate_zero, List.push_toArray, List.append_toArray, List.nil_append, List.cons_append]
  gi_wp2_with fail
  refine ⟨trivial, (callsIn_wide.2 (KR.out _)).mono ?_⟩
  rintro e w2 ⟨v2, rfl, hr2, hb2⟩
  have R2 : Hid (Rd w2 v2 (wk P)) := hr2
  have HB2 : Hid (Below (w.heap.size + 1) (w.alloc (.cells #[.int .i64 st] 3)) w2) := by rw [World.size_alloc] at hb2; exact hb2
  clear hr2 hb2
  obtain ⟨o2, c2, rfl, k2, m2, _⟩ := R2.out
  gi_wp2_with fail
  refine ⟨trivial, (callsIn_wide.2 (KM.out _)).mono ?_⟩
  rintro e w3 ⟨rfl, hw3⟩
  obtain rfl := hw3.symm
  clear hw3
  gi_wp2_with fail
  have hs2 : w.heap.size + 1 ≤ w2.heap.size := by have := HB2.out.size; simpa using this
  have S2 : Boxed w2 w.heap.size 3 (.int .i64 st) := (HB2.out.block w.heap.size (by omega)).trans (heap_alloc_new w _)
  have hwl : (wk P).length ≤ 9 := by
    unfold wk
    split
    · rw [wkL_len]; have := (prt_facts P).2; omega
    · simp
  obtain ⟨w3, hw3⟩ : ∃ w3, w3 = w2.alloc (.cells #[.string (tx P)] 9) := ⟨_, rfl⟩
  have hs3 : w3.heap.size = w2.heap.size + 1 := by rw [hw3]; simp
  have S3 : Boxed w3 w.heap.size 3 (.int .i64 st) := by rw [hw3]; exact S2.alloc _
  have C3 : w3.cell? ⟨w2.heap.size, 0, none⟩ = some (.string (tx P)) := by rw [hw3]; exact (Boxed.new w2 9 (.string (tx P))).cell
  have R3 : Hid (Rd w3 (.slice o2 (wk P).length c2) (wk P)) := by rw [hw3]; exact R2.out.keep ((Below.refl w2.heap.size w2).alloc (Nat.le_refl _) _)
  have B3 : Hid (Below w.heap.size w w3) := by
    rw [hw3]
    exact ((Below.refl w.heap.size w).alloc (Nat.le_refl _) _).trans ((HB2.out.mono (by omega)).trans ((Below.refl w.heap.size w2).alloc (by omega) _))
  rw [← hw3]
  have bO : Boxed ((w3.alloc (.cells #[.slice none 0 0] 25)).alloc (.cells #[.int .i64 0] 3)) (w2.heap.size + 1) 25 (.slice none 0 0) := by
    have := (Boxed.new w3 25 (.slice none 0 0)).alloc (.cells #[.int .i64 0] 3)
    rwa [hs3] at this
  have bN : Boxed ((w3.alloc (.cells #[.slice none 0 0] 25)).alloc (.cells #[.int .i64 0] 3)) (w2.heap.size + 1 + 1) 3 (.int .i64 0) := by
    have := Boxed.new (w3.alloc (.cells #[.slice none 0 0] 25)) 3 (.int .i64 0)
    rwa [World.size_alloc, hs3] at this
  have bel0 : Below (w2.heap.size + 1) w3 ((w3.alloc (.cells #[.slice none 0 0] 25)).alloc (.cells #[.int .i64 0] 3)) := ((Below.refl _ w3).alloc (by omega) _).alloc (by simp; omega) _
  have hsz0 : ((w3.alloc (.cells #[.slice none 0 0] 25)).alloc (.cells #[.int .i64 0] 3)).heap.size = w2.heap.size + 3 := by simp; omega
  have c0 : ((w3.alloc (.cells #[.slice none 0 0] 25)).alloc (.cells #[.int .i64 0] 3)).cell? ⟨w2.heap.size, 0, none⟩ = some (.string (tx P)) := (bel0.cell (p := ⟨w2.heap.size, 0, none⟩) (by show w2.heap.size < w2.heap.size + 1; omega)).trans C3
  refine wpIn_rangeFunc_ownG rfl (by omega) (gf := 23) (lb := #[.pointer (some ⟨w2.heap.size, 0, none⟩)]) rfl trivial (enters_of Tryd.func23 (by kernel_rfl) rfl)
    (walk1_stops P (by omega) (3 - 1) (by omega) w2.heap.size _ hsz0 c0 bO.cell) (fun h k => Kp.trans h k) (fun W l o o' hl h1 h2 h3 => Kp.put (B := w2.heap.size + 3) (by omega) W l o o' (by rw [hsz0] at hl; exact hl) h1 h2 h3) (Below.refl _ _) (fun _ => rfl)
    (fun pre W => ((∃ v, Boxed W (w2.heap.size + 1) 25 v ∧ W.ownsRow (w2.heap.size + 1) 9 1 v pre.length (pre.map fun x => .string (tx x)) ∧ True) ∧ Boxed W (w2.heap.size + 1 + 1) 3 (.int .i64 (pre.length : Int))) ∧ (¬ (1 ≤ st ∧ st ≤ (pre.length : Int)) ∧ Below (w2.heap.size + 1) w3 W))
    (fun c pre W => ((∃ v, Boxed W (w2.heap.size + 1) 25 v ∧ W.ownsRow (w2.heap.size + 1) 9 1 v pre.length (pre.map fun x => .string (tx x)) ∧ True) ∧ (c = .exit 0 ∧ st = (pre.length : Int) ∧ 1 ≤ st)) ∧ Below (w2.heap.size + 1) w3 W)
    (OwnFrom.and (OwnFrom.and (Own.from (holdsRow_own _ _ _ _ _ (fun pre : List Tx => pre.length) (fun pre => pre.map fun x => .string (tx x)) (fun _ _ => True)) _) (Own.from (boxed_own _ _ (fun pre : List Tx => .int .i64 (pre.length : Int))) _)) (OwnFrom.and (ownFrom_pure _ (fun pre : List Tx => ¬ (1 ≤ st ∧ st ≤ (pre.length : Int)))) (ownFrom_below (by omega) (by rw [hsz0]; omega))))
    (fun c => OwnFrom.and (OwnFrom.and (Own.from (holdsRow_own _ _ _ _ _ (fun pre : List Tx => pre.length) (fun pre => pre.map fun x => .string (tx x)) (fun _ _ => True)) _) (ownFrom_pure _ (fun pre : List Tx => c = .exit 0 ∧ st = (pre.length : Int) ∧ 1 ≤ st))) (ownFrom_below (by omega) (by rw [hsz0]; omega)))
    ⟨⟨⟨_, bO, World.ownsRow_nil _ _ _ _, trivial⟩, bN⟩, by simp; omega, bel0⟩
    (fun x => { tmps := #[.string (tx P), .int .i64 st, undef, .pointer (some ⟨w.heap.size, 0, none⟩), .bool false, .slice o2 (wk P).length c2, .func (.func 23) #[] #[.pointer (some ⟨w2.heap.size, 0, none⟩)], .pointer (some ⟨w2.heap.size + 1, 0, none⟩), .pointer (some ⟨w2.heap.size + 1 + 1, 0, none⟩), .string (tx x), .string (tx P), .slice o2 (wk P).length c2, .string (tx P), .func (.func 23) #[] #[.pointer (some ⟨w2.heap.size, 0, none⟩)], .func (.func 23) #[] #[.pointer (some ⟨w2.heap.size, 0, none⟩)], .bool false, .func (.func 23) #[] #[.pointer (some ⟨w2.heap.size, 0, none⟩)], .string (tx x), undef, undef, undef, undef, undef, undef, undef, undef, undef, undef, undef, undef, undef, undef, undef, undef, undef, undef, undef, undef, undef, undef, undef, undef, undef, undef], defers := [] }) ?assign ?body ?done ?stop
  case assign =>
    intro l x W K hK
    gi_wp2
    exact hK
  case body =>
    rintro l pre x W ⟨⟨⟨v, hv, hrow, _⟩, hn⟩, hno, hB⟩ hlt
    have hr0 : RowsS W (w2.heap.size + 1) v pre := hrow
    have hle : w2.heap.size + 1 ≤ W.heap.size := by have := hB.size; omega
    have RA : Hid (RowsS (W.alloc (.cells #[.string (tx x)] 9)) (w2.heap.size + 1) v pre) := hr0.keep ((Below.refl W.heap.size W).alloc (Nat.le_refl _) _)
    have hcv := hv.cell
    have hcs : W.cell? ⟨w.heap.size, 0, none⟩ = some (.int .i64 st) := (hB.cell (p := ⟨w.heap.size, 0, none⟩) (by show w.heap.size < w2.heap.size + 1; omega)).trans S3.cell
    have HB : Hid (Below (w2.heap.size + 1) w3 W) := hB
    have HCS : Hid (W.cell? ⟨w.heap.size, 0, none⟩ = some (.int .i64 st)) := hcs
    have hpl : pre.length ≤ 9 := by omega
    clear hcs hB
    have hlt0 : w.heap.size < w2.heap.size + 1 := by omega
    have hln : (((pre ++ [x]).length : Nat) : Int) = (pre.length : Int) + 1 := by simp
    by_cases hs : (pre.length : Int) + 1 = st
    · gi_wp2_with (gi_at_builtin; refine wpListIn_append_one rfl (.tmp 18) (.tmp 20) rfl (w2.heap.size + 1) v pre rfl RA.out ⟨W.heap.size, 0, none⟩ x rfl (cell_one W x) (by omega) (by simp; omega) ?_; intro v' w1 hown' hgrow hob; obtain ⟨g', cap', rfl⟩ := RowsS.cons hown'; have AF : Hid (∀ u, _) := fun u => body_after u hle hv hn hr0 hown' hgrow hob; obtain ⟨fc, ff, fn, fnf, fs⟩ := arm_facts hle hv hn hr0 hown' hgrow HCS.out hlt0; clear hown' hgrow hob)
      obtain ⟨a1, a2, a3, a4, a5, a6⟩ := AF.out _
      exact ⟨a1.from _, ⟨⟨_, a3, a4, trivial⟩, rfl, by rw [hln]; exact hs.symm, by omega⟩, HB.out.trans a6⟩
    · have hs' : ((pre.length : Int) + 1 == st) = false := by simp [hs]
      gi_wp2_with (gi_at_builtin; refine wpListIn_append_one rfl (.tmp 18) (.tmp 20) rfl (w2.heap.size + 1) v pre rfl RA.out ⟨W.heap.size, 0, none⟩ x rfl (cell_one W x) (by omega) (by simp; omega) ?_; intro v' w1 hown' hgrow hob; obtain ⟨g', cap', rfl⟩ := RowsS.cons hown'; have AF : Hid (∀ u, _) := fun u => body_after u hle hv hn hr0 hown' hgrow hob; obtain ⟨fc, ff, fn, fnf, fs⟩ := arm_facts hle hv hn hr0 hown' hgrow HCS.out hlt0; clear hown' hgrow hob)
      obtain ⟨a1, a2, a3, a4, a5, a6⟩ := AF.out (.int .i64 ((pre.length : Int) + 1))
      exact ⟨a1.from _, a2, ⟨⟨_, a3, a4, trivial⟩, by rw [hln]; exact a5⟩, by rw [hln]; omega, HB.out.trans a6⟩
  case done =>
    rintro D ys W hD rfl ⟨⟨⟨v, hv, hrow, _⟩, hn⟩, hno, hB⟩ hK
    have HRg : Hid (Rd W v (wk P)) := RowsS.rd (base := w2.heap.size + 1) hrow
    have HRw : Hid (Rd W (.slice o2 (wk P).length c2) (wk P)) := R3.out.keep (by rw [hs3]; exact hB)
    have KS : Hid (Calls Tryd.prog 8 #[v, .slice o2 (wk P).length c2] W fun e w' => e = .returned (.bool true) ∧ Below W.heap.size W w') := same_is v _ (wk P) (by omega) W HRg.out HRw.out
    have hcv := hv.cell
    have hcs : W.cell? ⟨w.heap.size, 0, none⟩ = some (.int .i64 st) := (hB.cell (p := ⟨w.heap.size, 0, none⟩) (by show w.heap.size < w2.heap.size + 1; omega)).trans S3.cell
    have BW : Hid (Below w.heap.size w W) := B3.out.trans (hB.mono (by omega))
    have HK : Hid (W.heap[D]? = some (.deferred (some []))) := hK
    have hDl : D < W.heap.size := (Array.getElem?_eq_some_iff.1 hK).1
    have hDw : w.heap.size ≤ D := by rw [hsz0] at hD; omega
    clear hB hK
    by_cases hs1 : 1 ≤ st
    · have hs2' : ¬ st < (((wk P).length : Nat) : Int) := by omega
      gi_wp2_with fail
      refine ⟨trivial, (callsIn_wide.2 KS.out).mono ?_⟩
      rintro e w5 ⟨rfl, hb5⟩
      have B5 : Hid (Below w.heap.size w w5) := BW.out.trans (hb5.mono BW.out.size)
      have K5 : Hid (w5.heap[D]? = some (.deferred (some []))) := (hb5.block D hDl).trans HK.out
      have hD5 : D < w5.heap.size := by have := hb5.size; omega
      clear hb5 KS
      gi_wp2_with fail
      refine ⟨trivial, (callsIn_wide.2 (KW.out _)).mono ?_⟩
      rintro e w6 ⟨rfl, hb6⟩
      have B6 : Hid (Below w.heap.size w w6) := B5.out.trans (hb6.mono B5.out.size)
      have K6 : Hid (w6.heap[D]? = some (.deferred (some []))) := (hb6.block D hD5).trans K5.out
      clear hb6
      gi_wp2_with fail
      refine ⟨by simp, .inl ⟨_, _, rfl, run_takeDeferred K6.out, ?_⟩⟩
      exact ⟨_, results_tmp rfl _ _ _, rfl, B6.out.trans (belowK_b (w := w) (Nat.le_refl _) w6 D _ _ hDw K6.out rfl rfl)⟩
    · gi_wp2_with fail
      refine ⟨trivial, (callsIn_wide.2 KS.out).mono ?_⟩
      rintro e w5 ⟨rfl, hb5⟩
      have B5 : Hid (Below w.heap.size w w5) := BW.out.trans (hb5.mono BW.out.size)
      have K5 : Hid (w5.heap[D]? = some (.deferred (some []))) := (hb5.block D hDl).trans HK.out
      have hD5 : D < w5.heap.size := by have := hb5.size; omega
      clear hb5 KS
      gi_wp2_with fail
      refine ⟨trivial, (callsIn_wide.2 (KW.out _)).mono ?_⟩
      rintro e w6 ⟨rfl, hb6⟩
      have B6 : Hid (Below w.heap.size w w6) := B5.out.trans (hb6.mono B5.out.size)
      have K6 : Hid (w6.heap[D]? = some (.deferred (some []))) := (hb6.block D hD5).trans K5.out
      clear hb6
      gi_wp2_with fail
      refine ⟨by simp, .inl ⟨_, _, rfl, run_takeDeferred K6.out, ?_⟩⟩
      exact ⟨_, results_tmp rfl _ _ _, rfl, B6.out.trans (belowK_b (w := w) (Nat.le_refl _) w6 D _ _ hDw K6.out rfl rfl)⟩
  case stop =>
    rintro D c pre W hD hpre ⟨⟨⟨v, hv, hrow, _⟩, rfl, hsl, hs1⟩, hB⟩ hK
    have hpl := hpre.length_le
    have hpt : pre = (wk P).take pre.length := List.prefix_iff_eq_take.1 hpre
    have HRg : Hid (Rd W v pre) := RowsS.rd (base := w2.heap.size + 1) hrow
    have HRw : Hid (Rd W (.slice o2 (wk P).length c2) (wk P)) := R3.out.keep (by rw [hs3]; exact hB)
    have hcv := hv.cell
    have hcs : W.cell? ⟨w.heap.size, 0, none⟩ = some (.int .i64 st) := (hB.cell (p := ⟨w.heap.size, 0, none⟩) (by show w.heap.size < w2.heap.size + 1; omega)).trans S3.cell
    have BW : Hid (Below w.heap.size w W) := B3.out.trans (hB.mono (by omega))
    have HK : Hid (W.heap[D]? = some (.deferred (some []))) := hK
    have hDl : D < W.heap.size := (Array.getElem?_eq_some_iff.1 hK).1
    have hDw : w.heap.size ≤ D := by rw [hsz0] at hD; omega
    clear hB hK
    have hne : wk P ≠ [] := by
      intro e
      rw [e] at hpl
      simp at hpl
      rw [hpl] at hsl
      simp at hsl
      omega
    obtain ⟨gw, rfl⟩ : ∃ g, o2 = some ⟨g, 0, none⟩ := by
      obtain ⟨o, c, e, _, _, h4⟩ := HRw.out
      simp only [Value.slice.injEq] at e
      obtain ⟨g, e2, _⟩ := h4 0 _ (List.getElem?_eq_getElem (List.length_pos_iff.2 hne))
      rw [← e.1] at e2
      exact ⟨g, e2⟩
    by_cases hlt : st < (((wk P).length : Nat) : Int)
    · have hRT : Rd W (.slice (some ⟨gw, 0, none⟩) pre.length c2) pre := by
        have := HRw.out.take pre.length hpl
        rwa [← hpt] at this
      have KS : Hid (Calls Tryd.prog 8 #[v, .slice (some ⟨gw, 0, none⟩) pre.length c2] W fun e w' => e = .returned (.bool true) ∧ Below W.heap.size W w') := same_is v _ pre (by omega) W HRg.out hRT
      have i4 : st.toNat = pre.length := by omega
      have i5 : (0 : Int) ≤ st := by omega
      have i6 : st ≤ (c2 : Int) := by omega
      clear hRT hpt
      have HSL : Hid (st = (pre.length : Int)) := hsl
      clear hsl
      gi_wp2_with fail
      refine ⟨trivial, (callsIn_wide.2 KS.out).mono ?_⟩
      rintro e w5 ⟨rfl, hb5⟩
      have B5 : Hid (Below w.heap.size w w5) := BW.out.trans (hb5.mono BW.out.size)
      have K5 : Hid (w5.heap[D]? = some (.deferred (some []))) := (hb5.block D hDl).trans HK.out
      have hD5 : D < w5.heap.size := by have := hb5.size; omega
      clear hb5 KS
      gi_wp2_with fail
      refine ⟨trivial, (callsIn_wide.2 (KW.out _)).mono ?_⟩
      rintro e w6 ⟨rfl, hb6⟩
      have B6 : Hid (Below w.heap.size w w6) := B5.out.trans (hb6.mono B5.out.size)
      have K6 : Hid (w6.heap[D]? = some (.deferred (some []))) := (hb6.block D hD5).trans K5.out
      clear hb6
      gi_wp2_with fail
      refine ⟨by simp, .inl ⟨_, _, rfl, run_takeDeferred K6.out, ?_⟩⟩
      exact ⟨_, results_tmp rfl _ _ _, rfl, B6.out.trans (belowK_b (w := w) (Nat.le_refl _) w6 D _ _ hDw K6.out rfl rfl)⟩
    · have epw : pre = wk P := by
        have hl : pre.length = (wk P).length := by omega
        rw [hl, List.take_length] at hpt
        exact hpt
      have KS : Hid (Calls Tryd.prog 8 #[v, .slice (some ⟨gw, 0, none⟩) (wk P).length c2] W fun e w' => e = .returned (.bool true) ∧ Below W.heap.size W w') := same_is v _ (wk P) (by omega) W (by rw [← epw]; exact HRg.out) HRw.out
      clear hpt epw
      have HSL : Hid (st = (pre.length : Int)) := hsl
      clear hsl
      gi_wp2_with fail
      refine ⟨trivial, (callsIn_wide.2 KS.out).mono ?_⟩
      rintro e w5 ⟨rfl, hb5⟩
      have B5 : Hid (Below w.heap.size w w5) := BW.out.trans (hb5.mono BW.out.size)
      have K5 : Hid (w5.heap[D]? = some (.deferred (some []))) := (hb5.block D hDl).trans HK.out
      have hD5 : D < w5.heap.size := by have := hb5.size; omega
      clear hb5 KS
      gi_wp2_with fail
      refine ⟨trivial, (callsIn_wide.2 (KW.out _)).mono ?_⟩
      rintro e w6 ⟨rfl, hb6⟩
      have B6 : Hid (Below w.heap.size w w6) := B5.out.trans (hb6.mono B5.out.size)
      have K6 : Hid (w6.heap[D]? = some (.deferred (some []))) := (hb6.block D hD5).trans K5.out
      clear hb6
      gi_wp2_with fail
      refine ⟨by simp, .inl ⟨_, _, rfl, run_takeDeferred K6.out, ?_⟩⟩
      exact ⟨_, results_tmp rfl _ _ _, rfl, B6.out.trans (belowK_b (w := w) (Nat.le_refl _) w6 D _ _ hDw K6.out rfl rfl)⟩
end Go.Proofs.YtegdblacmghghaaDoor
