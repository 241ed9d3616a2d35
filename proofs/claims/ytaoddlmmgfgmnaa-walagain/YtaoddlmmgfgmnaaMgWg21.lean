/- The statements' own run: acts on a new disk under a fuse. -/
import Derived.Test.YtaoddlmmgfgmnaaMgWg20
import Derived.Deep.RegionHeld3
import Derived.Laws.CopyOwn
namespace Go.Proofs.Ytaoddlmmgfgmnaa
open Go.ChangeShapes Go.WideShapes Go.ChangeAt Go.RowKit Go.Deep Go.Maps
set_option linter.unusedVariables false
set_option linter.unusedSimpArgs false
/-- the cells of a Run -/
def rC (bd : Nat) (ah : Option Addr) (qh ch : Nat) (an : Option Addr) (qn cn : Nat) : Array Value := #[.pointer (some ⟨bd, 0, none⟩), .slice ah qh ch, .slice an qn cn]
/-- texts that may be read, in blocks that are neither the disk's nor the log's -/
def TxP (w : World) (P : Nat → Prop) (a : Option Addr) (q c : Nat) (L : List (List Int)) : Prop := InS w a L ∧ L.length = q ∧ q ≤ 1000 ∧ (a = none → q = 0 ∧ c = 0) ∧ (∀ x, a = some x → L ≠ [] → P x.block) ∧ ∀ B ∈ L, IsBytes B
theorem TxP.kept {w w' : World} {P Q : Nat → Prop} {a : Option Addr} {q c : Nat} {L : List (List Int)} (h : TxP w P a q c L) (hb : ∀ k, P k → w'.heap[k]? = w.heap[k]?) (hq : ∀ k, P k → Q k) : TxP w' Q a q c L :=
  ⟨h.1.kept fun x hx hne => hb _ (h.2.2.2.2.1 x hx hne), h.2.1, h.2.2.1, h.2.2.2.1, fun x hx hne => hq _ (h.2.2.2.2.1 x hx hne), h.2.2.2.2.2⟩
theorem TxP.nil (w : World) (P : Nat → Prop) : TxP w P none 0 0 [] := ⟨.inl rfl, rfl, by omega, fun _ => ⟨rfl, rfl⟩, fun x hx => (by cases hx), fun B hB => (by cases hB)⟩
/-- of these blocks all but two -/
def Of (Q : Nat → Prop) (a b : Nat) : Nat → Prop := fun k => Q k ∧ k ≠ a ∧ k ≠ b
theorem box_set {w : World} {g i : Nat} {cur : Array Value} {t : TypeId} (v : Value) (h : w.heap[g]? = some (.cells cur t)) : (w.setCell ⟨g, i, none⟩ v).heap[g]? = some (.cells (cur.setIfInBounds i v) t) := by
  rw [setCell_eq_setRow w g i cur t _ v h]
  exact setRow_heap _ _ _ _ _ _ h
theorem set_off (w : World) (g i k : Nat) (v : Value) (hk : k ≠ g) : (w.setCell ⟨g, i, none⟩ v).heap[k]? = w.heap[k]? := Below.heap_setCell _ _ _ _ hk
/-- what run leaves: a disk, the records that it had, and those of what was cut off -/
structure RunIs (w w' : World) (P : Nat → Prop) (bd N : Nat) (s : Ds) (ah : Option Addr) (qh ch : Nat) (an : Option Addr) (qn cn : Nat) (H Nx : List (List Int)) : Prop where
  wd : Wd w w' P bd N s
  had : TxP w' P ah qh ch H
  nxt : TxP w' P an qn cn Nx
  aft : ∀ keep, Aft 16 (s.cr keep) H Nx
/-- append of any slice of texts, up to the last byte -/
theorem appTB {w : World} {ops : Array Oper} {rest : List Oper} {o : Oper} {act : Act} {Q : Exit → Act → World → Prop} (hgd : o.guard = none) (s x : Operand)
    (ho : o.op = .call { callee := .builtin .append, args := #[s, x], argTypes := #[27, 27] })
    (base : Nat) (v : Value) (l : List (List Int)) (hs : act.eval s = v) (hown : RowsS w base v l)
    (a : Option Addr) (m c : Nat) (y : List (List Int)) (hx : act.eval x = .slice a m c) (hm : y.length = m) (hin : InS w a y) (ha : a = none → m = 0 ∧ c = 0) (hN : l.length + m ≤ 8796093022208) (hbase : base ≤ w.heap.size)
    (h : ∀ v' w', RowsS w' base v' (l ++ y) → w.grownBy w' v.ownBlock → (v'.ownBlock = v.ownBlock ∨ v'.ownBlock = some w.heap.size) → wpList Try.prog ops Q rest (act.put o.dst v') w') : wpList Try.prog ops Q (o :: rest) act w := by
  cases a with
  | none =>
    obtain ⟨rfl, rfl⟩ := ha rfl
    obtain rfl : y = [] := List.length_eq_zero_iff.1 hm
    obtain ⟨i, hi, _⟩ := info_parts info9
    refine wpList_append_own_none hgd s x 27 ho base 9 i 1 Try.underlying27 hi _ _ _ hs hown hx ?_
    exact h _ _ (by rw [List.append_nil]; exact hown) ⟨rfl, rfl, rfl, Nat.le_refl _, fun _ _ _ => rfl⟩ (.inl rfl)
  | some x' =>
    refine wpList_plain hgd fun K hK => ?_
    obtain ⟨i, hi, hz, h1, h2⟩ := info_parts info9
    obtain ⟨v', w', hr, ho2, hg, _, hat⟩ := run_append_own_at (P := Try.prog) w base 27 o.type 9 i (.string ⟨#[]⟩) 1 16 Try.underlying27 hi hz h1 h2 rfl (by decide) v l.length (sV l) hown x' m c (sV y) (by rw [sV_len, hm, Nat.mul_one]) hin.src (sV_one y) (by simp only [maxLen]; omega) (by omega) hbase
    have e2 : RowsS w' base v' (l ++ y) := by
      unfold RowsS
      rw [List.length_append, sV_app, hm]
      exact ho2
    have k := hK _ _ (h v' w' e2 hg hat)
    unfold Oper.wp execOp
    simp only [ho, resolve, invoke, builtin, Sem.run_bind, Sem.run_pure, Result.andThen_ok, List.map_toArray, List.map_cons, List.map_nil, hs, hx, hr]
    exact k
theorem rows_one (w : World) (base : Nat) (S : ByteArray) (hb : base ≤ w.heap.size) : RowsS (w.alloc (.cells #[.string S] 9)) base (.slice (some ⟨w.heap.size, 0, none⟩) 1 1) [sN S] :=
  ⟨rfl, .inr ⟨w.heap.size, 1, #[.string S], rfl, hb, heap_alloc_new w _, Nat.le_refl _, by decide, rfl, by show [Value.string S] = [Value.string (strOfNums (sN S))]; rw [sN_str]⟩⟩
theorem size3R : (Try.prog.info? 49).map (·.size) = some 3 := by kernel_rfl
theorem results_run {fn : Func} {p q : Tmp} (h : fn.results = #[.cell p 49, .tmp q]) (tmps : Array Value) (w : World) (g : Nat) (D : Array Value) (hD : D.size = 3)
    (hp : tmps.getD p undef = .pointer (some ⟨g, 0, none⟩)) (v : Value) (hq : tmps.getD q undef = v) (hg : w.heap[g]? = some (.cells D 49)) :
    (results fn tmps).run Try.prog w = .ok (.tuple #[.agg D, v]) w := by
  have hp' : tmps[p]?.getD undef = .pointer (some ⟨g, 0, none⟩) := by simpa using hp
  have hq' : tmps[q]?.getD undef = v := by simpa using hq
  simp [results, h, hp', hq', asAddr, run_loadVar_row w g 49 49 D (0, 0) _ hg Try.underlying49 rfl (by rw [hD]; exact size3R)]
theorem rc_one (bd : Nat) (ah : Option Addr) (qh ch : Nat) (an : Option Addr) (qn cn : Nat) : (#[Value.pointer (some ⟨bd, 0, none⟩), .slice ah qh ch, .slice an qn cn]).all (·.oneCell') = true := by simp [Value.oneCell']
theorem smL_cons (X : List Int) (L : List (List Int)) : ∃ R, smL (X :: L) = cS X :: R := ⟨_, rfl⟩
theorem InS.tail {w : World} {g off : Nat} {X : List Int} {L : List (List Int)} (h : InS w (some ⟨g, off, none⟩) (X :: L)) : InS w (some ⟨g, off + 1, none⟩) L := by
  rcases h with h | ⟨g', off', e, hc⟩
  · cases h
  · cases e
    refine .inr ⟨g, off + 1, rfl, fun i hi => ?_⟩
    have := hc (i + 1) (by simp; omega)
    rw [show off + 1 + i = off + (i + 1) by omega, this]
    rfl
theorem fit16 {M ar D : Nat} (hM : M = 7) (ha : ar ≤ 1) (hD : D = 16) : 2 + ar * M + M ≤ D := by
  subst hM hD
  omega
set_option maxRecDepth 100000 in
set_option maxHeartbeats 8000000 in
theorem run_is (a : Option Addr) (len cap : Nat) (A : Nat → Aw) (n : Int) (hn0 : 0 ≤ n) (hn : n < 60) (w : World) (hin : InAw w a len A) :
    Calls Try.prog 17 #[.slice a len cap, .int .i64 n] w fun e w' => ∃ P bd N s ah qh ch an qn cn, e = .returned (.tuple #[.agg (rC bd ah qh ch an qn cn), .bool true]) ∧ N ≤ 90000 ∧ ∃ H Nx, RunIs w w' P bd N s ah qh ch an qn cn H Nx := by
  have HIN : Hid (InAw w a len A) := hin
  obtain ⟨h0, hh0⟩ : ∃ h, h = w.heap.size := ⟨_, rfl⟩
  obtain ⟨w0, hw0⟩ : ∃ w0, w0 = w.alloc (.cells #[.pointer none, .slice none 0 0, .slice none 0 0] 49) := ⟨_, rfl⟩
  have W0 : Hid (w0 = w.alloc (.cells #[.pointer none, .slice none 0 0, .slice none 0 0] 49)) := hw0
  have B0 : Hid (Below w.heap.size w w0) := by rw [hw0]; exact gB_alloc w _
  have Z0 : Hid (w0.heap.size = h0 + 1) := by show _ = _; rw [hw0, hh0]; simp
  have X0 : Hid (w0.heap[h0]? = some (.cells #[.pointer none, .slice none 0 0, .slice none 0 0] 49)) := by show _ = _; rw [hw0, hh0]; exact heap_alloc_new w _
  have K1 : Hid (Calls Try.prog 22 #[.int .i64 16] w0 fun e w' => ∃ b, e = .returned (.tuple #[.pointer (some ⟨b, 0, none⟩), .int .i64 0]) ∧ Wd w w' (fun k => k < w0.heap.size) b 0 (Ds.new 16) ∧ Below w0.heap.size w0 w') := wd_new 16 (by omega) (by omega) w w0 B0.out
  have HH : Hid (w.heap.size = h0) := hh0.symm
  clear hw0 hin
  go_enter Try.func17, Try.ntmps17
  go_wp2_with fail
  rw [show w.alloc _ = w0 from W0.out.symm]
  rw [HH.out]
  refine K1.out.mono ?_
  rintro e w1 ⟨bd, rfl, T1, hb1⟩
  have HT1 : Hid (Wd w w1 (fun k => k < w0.heap.size) bd 0 (Ds.new 16)) := T1
  have B1 : Hid (Below w0.heap.size w0 w1) := hb1
  clear T1 hb1 hh0
  go_wp2_with fail
  obtain ⟨bx, hbx⟩ : ∃ b, b = w1.heap.size := ⟨_, rfl⟩
  obtain ⟨w2, hw2⟩ : ∃ w2, w1.alloc (.cells #[.pointer (some ⟨bd, 0, none⟩), .slice none 0 0, .slice none 0 0] 49) = w2 := ⟨_, rfl⟩
  rw [show World.alloc _ _ = w2 from hw2, ← hbx]
  have X2 : Hid (w2.heap[bx]? = some (.cells #[.pointer (some ⟨bd, 0, none⟩), .slice none 0 0, .slice none 0 0] 49)) := by show _ = _; rw [← hw2, hbx]; exact heap_alloc_new w1 _
  have Y2 : Hid (w2.heap[h0]? = some (.cells #[.pointer none, .slice none 0 0, .slice none 0 0] 49)) := by
    show _ = _
    have z := B1.out.size
    rw [Z0.out] at z
    rw [← hw2, Below.heap_alloc _ _ _ (by omega), B1.out.block h0 (by rw [Z0.out]; omega)]
    exact X0.out
  obtain ⟨P, hP⟩ : ∃ P : Nat → Prop, P = fun k => k < w0.heap.size ∨ (w1.heap.size ≤ k ∧ k < w2.heap.size) := ⟨_, rfl⟩
  have HT2 : Hid (Wd w w2 P bd 0 (Ds.new 16)) := by rw [hP]; exact HT1.out.keep (by rw [← hw2]; exact gB_alloc w1 _)
  have PX : Hid (P bx ∧ P h0 ∧ w.heap.size ≤ bx ∧ w.heap.size ≤ h0 ∧ bx ≠ h0) := by
    have z := B1.out.size
    have z0 := Z0.out
    have z1 := HH.out
    refine ⟨by rw [hP]; exact .inr ⟨by omega, by rw [← hw2, hbx]; simp⟩, by rw [hP]; exact .inl (by omega), by omega, by omega, by omega⟩
  obtain ⟨s1, hs1⟩ : ∃ s, s = ((Ds.new 16).fs n).2 := ⟨_, rfl⟩
  have KF : Hid (Calls Try.prog 21 #[.pointer (some ⟨bd, 0, none⟩), .int .i64 n] w2 fun e w' => e = .returned (.int .i64 0) ∧ Wd w w' P bd 0 s1 ∧ (∀ j, P j → w'.heap[j]? = w2.heap[j]?) ∧ w2.heap.size ≤ w'.heap.size) := by
    have k := wd_fuse HT2.out n (by omega)
    rw [show ((Ds.new 16).fs n).1 = 0 by unfold Ds.fs Ds.new fuA; simp; omega, ← hs1] at k
    exact k
  have HB1 : Hid (Bare 16 s1) := by rw [hs1]; exact ⟨rfl, fun _ => rfl, rfl⟩
  obtain ⟨c2, o2, s2, hop, hor⟩ := open_cut (by omega) (by omega) HB1.out
  clear hw2 hbx hP hs1 K1 HT1 B1 X0 W0
  refine KF.out.mono ?_
  rintro e w3 ⟨rfl, hT3, hk3, _⟩
  have HT3 : Hid (Wd w w3 P bd 0 s1) := hT3
  have X3 : Hid (w3.heap[bx]? = some (.cells #[.pointer (some ⟨bd, 0, none⟩), .slice none 0 0, .slice none 0 0] 49)) := (hk3 bx PX.out.1).trans X2.out
  have Y3 : Hid (w3.heap[h0]? = some (.cells #[.pointer none, .slice none 0 0, .slice none 0 0] 49)) := (hk3 h0 PX.out.2.1).trans Y2.out
  clear hT3 hk3 X2 Y2 HT2 KF
  have KO : Hid (Calls Try.prog 15 #[.pointer (some ⟨bd, 0, none⟩)] w3 fun e w' => (∀ k, P k → w'.heap[k]? = w3.heap[k]?) ∧ w3.heap.size ≤ w'.heap.size ∧ ((c2 = 0 ∧ ∃ bl l, o2 = some l ∧ e = .returned (.tuple #[.pointer (some ⟨bl, 0, none⟩), .int .i64 0]) ∧ Wl w w' P bd bl 2 s2 l ∧ 1 ≤ l.no) ∨ (c2 ≠ 0 ∧ e = .returned (.tuple #[.pointer none, .int .i64 c2]) ∧ Wd w w' P bd 2 s2))) := by
    have k := wd_open HT3.out (by omega)
    rw [hop] at k
    exact k
  clear hop
  go_wp2_with fail
  refine KO.out.mono ?_
  rintro e w4 ⟨hk4, hz4, hor4⟩
  have X4 : Hid (w4.heap[bx]? = some (.cells #[.pointer (some ⟨bd, 0, none⟩), .slice none 0 0, .slice none 0 0] 49)) := (hk4 bx PX.out.1).trans X3.out
  have Y4 : Hid (w4.heap[h0]? = some (.cells #[.pointer none, .slice none 0 0, .slice none 0 0] 49)) := (hk4 h0 PX.out.2.1).trans Y3.out
  clear hk4 hz4 KO X3 Y3 HT3
  rcases hor with ⟨rfl, rfl, gu, hlen⟩ | ⟨rfl, rfl, hup, hcut⟩
  rotate_left
  · have h4 : e = .returned (.tuple #[.pointer none, .int .i64 15]) ∧ Wd w w4 P bd 2 s2 := by
      rcases hor4 with ⟨h, _⟩ | ⟨_, h⟩
      · cases h
      · exact h
    obtain ⟨rfl, hT4⟩ := h4
    have HT4 : Hid (Wd w w4 P bd 2 s2) := hT4
    have HC : Hid (∀ keep, Bare 16 (s2.cr keep) ∨ Gd (s2.cr keep) (lg0 16)) := hcut
    have HU : Hid (s2.up = false) := hup
    clear hor4 hT4 hcut hup
    go_wp2_with fail

    have HS4 : Hid (∀ W : World, W.heap[bx]? = w4.heap[bx]? → W.cell? ⟨bx, 0, none⟩ = some (.pointer (some ⟨bd, 0, none⟩)) ∧ W.cell? ⟨bx, 1, none⟩ = some (.slice none 0 0) ∧ W.cell? ⟨bx, 2, none⟩ = some (.slice none 0 0)) := fun W hW => by
      have hx := hW.trans X4.out
      refine ⟨?_, ?_, ?_⟩ <;> (rw [cell_of_row W bx _ _ _ (0, 0) hx]; rfl)
    have T4d : Hid (Wd w w4.drew P bd 2 s2) := HT4.out.keep0 (below_drewN (Below.refl _ _) 1)

    refine wp_region_noPanic ?_
    refine wp_region_held_drew (S := (fun W : World => W.cell? ⟨bx, 0, none⟩ = some (.pointer (some ⟨bd, 0, none⟩)) ∧ W.cell? ⟨bx, 1, none⟩ = some (.slice none 0 0) ∧ W.cell? ⟨bx, 2, none⟩ = some (.slice none 0 0))) (by kernel_rfl) ?hSax (fun hHeld => ?restax)
    case hSax => exact HS4.out _ rfl
    case restax =>
      refine wpAnyH_take (i := 0) (v := .agg #[.pointer (some ⟨bd, 0, none⟩), .slice none 0 0, .slice none 0 0]) rfl (by kernel_rfl) (by kernel_rfl) (by kernel_rfl) (fun _ _ _ h => h) (Or.inl ⟨by kernel_rfl, ?hy0x⟩) hHeld ?rest0x
      case hy0x => (intro w hSw; (try dsimp only at hSw); go_simp; try with_reducible rfl)
      try simp only [Act.put, List.setIfInBounds_toArray, List.set_cons_zero, List.set_cons_succ, List.getElem_toArray, List.getElem_cons_zero]
      refine wpAnyH_take (i := 1) (v := .pointer none) rfl (by kernel_rfl) (by kernel_rfl) (by kernel_rfl) (fun _ _ _ h => h) (Or.inl ⟨by kernel_rfl, ?hy1x⟩) hHeld ?rest1x
      case hy1x => (intro w hSw; (try dsimp only at hSw); go_simp; try with_reducible rfl)
      try simp only [Act.put, List.setIfInBounds_toArray, List.set_cons_zero, List.set_cons_succ, List.getElem_toArray, List.getElem_cons_zero, List.getElem_cons_succ]
      refine wpAnyH_take (i := 2) (v := .bool true) rfl (by kernel_rfl) (by kernel_rfl) (by kernel_rfl) (fun _ _ _ h => h) (Or.inl ⟨by kernel_rfl, ?hy2x⟩) hHeld ?rest2x
      case hy2x => (intro w hSw; (try dsimp only at hSw); go_simp; try with_reducible rfl)
      try simp only [Act.put, List.setIfInBounds_toArray, List.set_cons_zero, List.set_cons_succ, List.getElem_toArray, List.getElem_cons_zero, List.getElem_cons_succ]
      refine wpAnyH_take (i := 3) (v := .bool true) rfl (by kernel_rfl) (by kernel_rfl) (by kernel_rfl) (fun _ _ _ h => h) (Or.inl ⟨by kernel_rfl, ?hy3x⟩) hHeld ?rest3x
      case hy3x => (intro w hSw; (try dsimp only at hSw); go_simp; try with_reducible rfl)
      try simp only [Act.put, List.setIfInBounds_toArray, List.set_cons_zero, List.set_cons_succ, List.getElem_toArray, List.getElem_cons_zero, List.getElem_cons_succ]
      refine wpAnyH_take (i := 4) (v := .int .i64 15) rfl (by kernel_rfl) (by kernel_rfl) (by kernel_rfl) (fun _ _ _ h => h) (Or.inl ⟨by kernel_rfl, ?hy4x⟩) hHeld ?rest4x
      case hy4x => (intro w hSw; (try dsimp only at hSw); go_simp; try with_reducible rfl)
      try simp only [Act.put, List.setIfInBounds_toArray, List.set_cons_zero, List.set_cons_succ, List.getElem_toArray, List.getElem_cons_zero, List.getElem_cons_succ]
      refine wpAnyH_take (i := 5) (v := .bool true) rfl (by kernel_rfl) (by kernel_rfl) (by kernel_rfl) (fun _ _ _ h => h) (Or.inl ⟨by kernel_rfl, ?hy5x⟩) hHeld ?rest5x
      case hy5x => (intro w hSw; (try dsimp only at hSw); go_simp; try with_reducible rfl)
      try simp only [Act.put, List.setIfInBounds_toArray, List.set_cons_zero, List.set_cons_succ, List.getElem_toArray, List.getElem_cons_zero, List.getElem_cons_succ]
      refine wpAnyH_take (i := 6) (v := .bool true) rfl (by kernel_rfl) (by kernel_rfl) (by kernel_rfl) (fun _ _ _ h => h) (Or.inl ⟨by kernel_rfl, ?hy6x⟩) hHeld ?rest6x
      case hy6x => (intro w hSw; (try dsimp only at hSw); go_simp; try with_reducible rfl)
      try simp only [Act.put, List.setIfInBounds_toArray, List.set_cons_zero, List.set_cons_succ, List.getElem_toArray, List.getElem_cons_zero, List.getElem_cons_succ]
      refine wpAnyH_take (i := 7) (v := .bool true) rfl (by kernel_rfl) (by kernel_rfl) (by kernel_rfl) (fun _ _ _ h => h) (Or.inl ⟨by kernel_rfl, ?hy7x⟩) hHeld ?rest7x
      case hy7x => (intro w hSw; (try dsimp only at hSw); go_simp; try with_reducible rfl)
      try simp only [Act.put, List.setIfInBounds_toArray, List.set_cons_zero, List.set_cons_succ, List.getElem_toArray, List.getElem_cons_zero, List.getElem_cons_succ]
      refine wpAnyH_take (i := 8) (v := .pointer (some ⟨bd, 0, none⟩)) rfl (by kernel_rfl) (by kernel_rfl) (by kernel_rfl) (fun _ _ _ h => h) (Or.inl ⟨by kernel_rfl, ?hy8x⟩) hHeld ?rest8x
      case hy8x => (intro w hSw; (try dsimp only at hSw); go_simp; try with_reducible rfl)
      try simp only [Act.put, List.setIfInBounds_toArray, List.set_cons_zero, List.set_cons_succ, List.getElem_toArray, List.getElem_cons_zero, List.getElem_cons_succ]
      refine wpAnyH_ready (rs := [9]) (by kernel_rfl) (by simp) ?_
      refine AllReadyH.cons rfl (fun K hK => ?_) AllReadyH.nil
      go_simp; refine (wd_up T4d.out).mono ?_; rintro e w' ⟨rfl, hw⟩; obtain rfl := hw.symm; clear hw; rw [HU.out]; go_wp2_with fail
      refine hK.out _ _ ?hS9x (fun hHeld => ?rest9x)
      case hS9x => exact HS4.out _ rfl
      clear hK K
      try simp only [Act.put, List.setIfInBounds_toArray, List.set_cons_zero, List.set_cons_succ, List.getElem_toArray, List.getElem_cons_zero, List.getElem_cons_succ]
      refine wpAnyH_take (i := 10) (v := .bool true) rfl (by kernel_rfl) (by kernel_rfl) (by kernel_rfl) (fun _ _ _ h => h) (Or.inl ⟨by kernel_rfl, ?hy10x⟩) hHeld ?rest10x
      case hy10x => (intro w hSw; (try dsimp only at hSw); go_simp; try with_reducible rfl)
      try simp only [Act.put, List.setIfInBounds_toArray, List.set_cons_zero, List.set_cons_succ, List.getElem_toArray, List.getElem_cons_zero, List.getElem_cons_succ]
      refine wpAnyH_take (i := 11) (v := .bool true) rfl (by kernel_rfl) (by kernel_rfl) (by kernel_rfl) (fun _ _ _ h => h) (Or.inl ⟨by kernel_rfl, ?hy11x⟩) hHeld ?rest11x
      case hy11x => (intro w hSw; (try dsimp only at hSw); go_simp; try with_reducible rfl)
      try simp only [Act.put, List.setIfInBounds_toArray, List.set_cons_zero, List.set_cons_succ, List.getElem_toArray, List.getElem_cons_zero, List.getElem_cons_succ]

      refine wpAnyH_ready (rs := [12]) (by kernel_rfl) (by simp) ?_
      refine AllReadyH.cons rfl (fun K hK => ?_) AllReadyH.nil
      refine wp_store_row 49 (.tmp 4) (.tmp 37) rfl h0 #[.pointer (some ⟨bd, 0, none⟩), .slice none 0 0, .slice none 0 0] rfl rfl 49 _ Y4.out size3R rfl (rc_one _ _ _ _ _ _ _) ?_
      refine hK.out _ _ ?hS12x (fun hHeld => ?rest12x)
      case hS12x => exact HS4.out _ (setRow_other w4.drew _ _ _ PX.out.2.2.2.2)
      clear hK K
      try simp only [Act.put, List.setIfInBounds_toArray, List.set_cons_zero, List.set_cons_succ, List.getElem_toArray, List.getElem_cons_zero, List.getElem_cons_succ]
      refine wpAnyH_take (i := 13) (v := .bool true) rfl (by kernel_rfl) (by kernel_rfl) (by kernel_rfl) (fun _ _ _ h => h) (Or.inl ⟨by kernel_rfl, ?hy13x⟩) hHeld ?rest13x
      case hy13x => (intro w hSw; (try dsimp only at hSw); go_simp; try with_reducible rfl)
      try simp only [Act.put, List.setIfInBounds_toArray, List.set_cons_zero, List.set_cons_succ, List.getElem_toArray, List.getElem_cons_zero, List.getElem_cons_succ]
      refine wpAnyH_done (by kernel_rfl) ?_ _
      refine NoPanic.normal ?_

      go_wp2_with fail
      refine bodyPost_ret (results_run (p := 4) (q := 5) rfl _ _ h0 #[.pointer (some ⟨bd, 0, none⟩), .slice none 0 0, .slice none 0 0] rfl rfl (.bool true) rfl (setRow_heap w4.drew _ _ _ _ _ Y4.out)) rfl ?_
      have hg := grown_setRow w4.drew h0 #[.pointer (some ⟨bd, 0, none⟩), .slice none 0 0, .slice none 0 0]
      refine ⟨_, bd, 2, s2, none, 0, 0, none, 0, 0, rfl, by omega, [], [], T4d.out.grown0 hg (fun k e => by cases e; exact ⟨PX.out.2.1, PX.out.2.2.2.1⟩), TxP.nil _ _, TxP.nil _ _, fun keep => ?_⟩
      rcases HC.out keep with m | m
      · exact ⟨lg0 16, ⟨free_cr _ _, rfl, .inr ⟨rfl, m⟩⟩, .inl rfl⟩
      · exact ⟨lg0 16, ⟨free_cr _ _, rfl, .inl m⟩, .inl rfl⟩

  · obtain ⟨bl, e4, hT4⟩ : ∃ bl, e = .returned (.tuple #[.pointer (some ⟨bl, 0, none⟩), .int .i64 0]) ∧ Wl w w4 P bd bl 2 s2 (lg0 16) := by
      rcases hor4 with ⟨_, bl, l, hl, he, hw, _⟩ | ⟨h, _⟩
      · obtain rfl := Option.some.inj hl
        exact ⟨bl, he, hw⟩
      · exact absurd rfl h
    subst e4
    have HT4 : Hid (Wl w w4 P bd bl 2 s2 (lg0 16)) := hT4
    have HG4 : Hid (Gu s2 (lg0 16) ∧ s2.D.length = 16) := ⟨gu, hlen⟩
    clear hor4 hT4 gu hlen
    go_wp2_with fail
    go_loopg [10, 11] 40 (fun g u i wr => ∃ (j : Nat) (Q : Nat → Prop) (l : Lg) (s : Ds) (ah : Option Addr) (qh ch : Nat), j ≤ 40 ∧ g = 40 - j ∧ i = .int .i64 (j : Int) ∧ Hid (Gu s l ∧ s.D.length = 16 ∧ l.m = 7 ∧ l.no ≤ 1 + j) ∧ Hid (Wl w wr Q bd bl (2 + 2100 * j) s l) ∧ Hid (Q bx ∧ Q h0) ∧ Hid (wr.heap[bx]? = some (.cells #[.pointer (some ⟨bd, 0, none⟩), .slice ah qh ch, .slice none 0 0] 49)) ∧ Hid (wr.heap[h0]? = some (.cells #[.pointer none, .slice none 0 0, .slice none 0 0] 49)) ∧ Hid (TxP wr (Of Q bx h0) ah qh ch l.R) ∧ Hid (RowsS wr h0 u l.W ∧ ∀ k, u.ownBlock = some k → Q k ∧ k ≠ bx ∧ k ≠ h0 ∧ ∀ x, ah = some x → l.R ≠ [] → x.block ≠ k))
    case atStart => exact ⟨0, P, lg0 16, s2, none, 0, 0, Nat.zero_le _, rfl, rfl, ⟨HG4.out.1, HG4.out.2, rfl, Nat.le_refl _⟩, HT4.out, ⟨PX.out.1, PX.out.2.1⟩, X4.out, Y4.out, TxP.nil _ _, RowsS.nil _ _, fun k hk => by cases hk⟩
    case round =>
      obtain ⟨j, Q, l, s, ah, qh, ch, hj, rfl, rfl, HG, HT, HQ, HX, HY, HR, HW⟩ := hrel
      have PB : Hid (bx ≠ h0 ∧ w.heap.size ≤ bx ∧ w.heap.size ≤ h0) := ⟨PX.out.2.2.2.2, PX.out.2.2.1, PX.out.2.2.2.1⟩
      have HSX : Hid (∀ W : World, W.heap[bx]? = wr.heap[bx]? → W.cell? ⟨bx, 0, none⟩ = some (.pointer (some ⟨bd, 0, none⟩)) ∧ W.cell? ⟨bx, 1, none⟩ = some (.slice ah qh ch) ∧ W.cell? ⟨bx, 2, none⟩ = some (.slice none 0 0)) := fun W hW => by
        have hx := hW.trans HX.out
        refine ⟨?_, ?_, ?_⟩ <;> (rw [cell_of_row W bx _ _ _ (0, 0) hx]; rfl)
      have HOx : Hid (bx < wr.heap.size ∧ h0 < wr.heap.size) := ⟨(Array.getElem?_eq_some_iff.1 HX.out).1, (Array.getElem?_eq_some_iff.1 HY.out).1⟩
      by_cases hlt : j < len
      · by_cases hlt2 : j < 40
        · have i1 : (j : Int) < (len : Int) := by omega
          have i2 : (j : Int) < 40 := by omega
          obtain ⟨b, off, hae, hbw, hcells⟩ := HIN.out.1 (by omega)
          have hv := HIN.out.2 j hlt
          have hc5 := hcells j hlt
          obtain ⟨v, hve⟩ : ∃ v, v = A j := ⟨_, rfl⟩
          rw [← hve] at hv hc5
          have kc : ∀ i, wr.cell? ⟨b, i, none⟩ = w.cell? ⟨b, i, none⟩ := fun i => HT.out.bel.cell (p := ⟨b, i, none⟩) hbw
          obtain ⟨c0, c1, c2, c3, c4⟩ := hc5
          rw [← kc] at c0 c1 c2 c3 c4
          subst hae
          clear hcells hve kc
          obtain ⟨vk, vn, vS, vra, vrl, vrc, vL, vka, vkl, vkc⟩ := v
          obtain ⟨aw, cw, hu, hwn, _⟩ := RowsS.slice HW.out.1
          subst hu
          obtain ⟨qw, hqw⟩ : ∃ q, l.W.length = q := ⟨_, rfl⟩
          rw [hqw]
          rw [hqw] at HW
          simp only [Aw.ok] at c0 c1 c2 c3 c4 hv
          have HL : Hid (InS w vra vL ∧ vL.length = vrl ∧ vrl ≤ 8796093021952 ∧ (vra = none → vrl = 0 ∧ vrc = 0) ∧ (∀ B ∈ vL, IsBytes B ∧ B.length ≤ 140737488351232) ∧ vS.size ≤ 140737488351232) := ⟨hv.2.2.2.2.2.1, hv.2.2.2.1, hv.2.2.2.2.1, hv.2.2.2.2.2.2.1, hv.2.2.2.2.2.2.2, hv.2.2.1⟩
          clear hv
          obtain ⟨w5, hw5⟩ : ∃ w5, wr.alloc (.cells #[.int .i64 vk, .int .i64 vn, .string vS, .slice vra vrl vrc, .slice vka vkl vkc] 71) = w5 := ⟨_, rfl⟩
          have HZ5 : Hid (w5.heap.size = wr.heap.size + 1 ∧ Below wr.heap.size wr w5 ∧ w5.heap[wr.heap.size]? = some (.cells #[.int .i64 vk, .int .i64 vn, .string vS, .slice vra vrl vrc, .slice vka vkl vkc] 71)) := by
            rw [← hw5]
            exact ⟨by simp, gB_alloc wr _, heap_alloc_new wr _⟩
          have HW5 : Hid (wr.alloc (.cells #[.int .i64 vk, .int .i64 vn, .string vS, .slice vra vrl vrc, .slice vka vkl vkc] 71) = w5) := hw5
          clear hw5
          have HB6 : Hid (Below wr.heap.size wr (w5.alloc (.cells #[.string vS] 9))) := HZ5.out.2.1.trans ((gB_alloc w5 _).mono HZ5.out.2.1.size)
          have HI6 : Hid (InS (w5.alloc (.cells #[.string vS] 9)) vra vL) := HL.out.1.kept fun x hx hne => (HT.out.bel.trans (HB6.out.mono HT.out.bel.size)).block _ (HL.out.1.lt x hx hne)
          have HR6 : Hid (RowsS (w5.alloc (.cells #[.string vS] 9)) (wr.heap.size + 1) (.slice (some ⟨wr.heap.size + 1, 0, none⟩) 1 1) [sN vS]) := by have k := rows_one w5 w5.heap.size vS (Nat.le_refl _); rw [HZ5.out.1] at k; exact k
          go_wp2_with (at_builtin; rw [show World.alloc wr _ = w5 from HW5.out]; refine appTB rfl (.tmp 65) (.tmp 67) rfl (wr.heap.size + 1) _ [sN vS] rfl HR6.out vra vrl vrc vL rfl HL.out.2.1 HI6.out HL.out.2.2.2.1 (by have := HL.out.2.2.1; show 1 + vrl ≤ _; omega) (by have z := HZ5.out.1; simp; omega) ?_; intro v7 w7 r7 g7 _; have R7 : Hid (RowsS w7 (wr.heap.size + 1) v7 ([sN vS] ++ vL)) := r7; have B7 : Hid (Below wr.heap.size wr w7) := HB6.out.grown g7 HB6.out.size (fun k e => by have : wr.heap.size + 1 = k := Option.some.inj e; omega); have X7 : Hid (w7.heap[wr.heap.size]? = some (.cells #[.int .i64 vk, .int .i64 vn, .string vS, .slice vra vrl vrc, .slice vka vkl vkc] 71)) := ((g7.block wr.heap.size (by have z := HZ5.out.1; simp; omega) (fun e => by have : wr.heap.size = wr.heap.size + 1 := Option.some.inj e; omega)).trans (Below.heap_alloc _ _ _ (by have z := HZ5.out.1; omega))).trans HZ5.out.2.2; clear r7 g7; obtain ⟨a7, c7, rfl, _, hi7, hl7, hc7⟩ := RowsS.slice R7.out; have HI7 : Hid (InS w7 a7 ([sN vS] ++ vL)) := hi7; clear hi7 hl7 hc7)
          have KS : Hid (Calls Try.prog 23 #[.slice a7 ([sN vS] ++ vL).length c7] w7 fun e w' => ∃ v, e = .returned v ∧ RowsS w' w7.heap.size v (smL ([sN vS] ++ vL)) ∧ Below w7.heap.size w7 w') := small_is w7 a7 _ c7 ([sN vS] ++ vL) rfl (by have h1 := HL.out.2.1; have h2 := HL.out.2.2.1; rw [List.length_append, h1]; show 1 + vrl ≤ _; omega) (fun B hB => by
            rcases List.mem_append.1 hB with h | h
            · have : B = sN vS := by simpa using h
              rw [this, sN_len]
              have := HL.out.2.2.2.2.2
              omega
            · have := (HL.out.2.2.2.2.1 B h).2
              omega) HI7.out
          refine KS.out.mono ?_
          rintro e w8 ⟨v8, rfl, hr8, hb8⟩
          have HYb : Hid (∀ B ∈ smL ([sN vS] ++ vL), IsBytes B ∧ B.length ≤ 5000) := smL_bytes fun B hB => by
            rcases List.mem_append.1 hB with h | h
            · have : B = sN vS := by simpa using h
              rw [this]; exact sN_bytes vS
            · exact (HL.out.2.2.2.2.1 B h).1
          obtain ⟨Yt, hY⟩ := smL_cons (sN vS) vL
          have hsl := smL_len ([sN vS] ++ vL)
          obtain ⟨Y0, hY0⟩ : ∃ Y0, Y0 = cS (sN vS) := ⟨_, rfl⟩
          have hY2 : smL ([sN vS] ++ vL) = Y0 :: Yt := by rw [hY0]; exact hY
          rw [hY2] at hr8 HYb hsl
          have R8 : Hid (RowsS w8 w7.heap.size v8 (Y0 :: Yt)) := hr8
          obtain ⟨a8, c8, rfl, hn8, hi8, hl8, hc8⟩ := RowsS.slice hr8
          obtain ⟨b8, rfl⟩ : ∃ b8, a8 = some ⟨b8, 0, none⟩ := by
            rcases R8.out.2 with ⟨h, _⟩ | ⟨g, cap, cur, h, _⟩
            · cases h
            · injection h with h1 _ _
              exact ⟨g, h1⟩
          have HI8 : Hid (InS w8 (some ⟨b8, 0, none⟩) (Y0 :: Yt)) := hi8
          have HB8 : Hid (Below wr.heap.size wr w8) := B7.out.trans (hb8.mono B7.out.size)
          have HO8 : Hid (wr.heap.size ≤ b8 ∧ b8 < w8.heap.size) := ⟨Nat.le_trans B7.out.size (R8.out.own b8 rfl).1, (R8.out.own b8 rfl).2⟩
          have x8 : w8.heap[wr.heap.size]? = some (.cells #[.int .i64 vk, .int .i64 vn, .string vS, .slice vra vrl vrc, .slice vka vkl vkc] 71) := (hb8.block _ (Array.getElem?_eq_some_iff.1 X7.out).1).trans X7.out
          have c8k : w8.cell? ⟨wr.heap.size, 0, none⟩ = some (.int .i64 vk) := by rw [cell_of_row w8 _ _ _ _ (0, 0) x8]; rfl
          have c8s : w8.cell? ⟨b8, 0, none⟩ = some (.string (strOfNums Y0)) := by
            rcases hi8 with h | ⟨g, off', h1, h2⟩
            · cases h
            · cases h1; exact h2 0 (by simp)
          obtain ⟨qt, hqt⟩ : ∃ q, Yt.length = q := ⟨_, rfl⟩
          have HQt : Hid (Yt.length = qt ∧ qt ≤ 19) := ⟨hqt, by have : Yt.length + 1 ≤ 20 := hsl; omega⟩
          have hl8' : (Y0 :: Yt).length = qt + 1 := by rw [← hqt]; rfl
          rw [hl8'] at hl8
          rw [hl8']
          have hx8 : w8.heap[bx]? = wr.heap[bx]? := HB8.out.block bx (Array.getElem?_eq_some_iff.1 HX.out).1
          obtain ⟨d0, d1, d2⟩ := HSX.out w8 hx8
          have HX8 : Hid (w8.heap[bx]? = some (.cells #[.pointer (some ⟨bd, 0, none⟩), .slice ah qh ch, .slice none 0 0] 49)) := hx8.trans HX.out
          have HY8 : Hid (w8.heap[h0]? = some (.cells #[.pointer none, .slice none 0 0, .slice none 0 0] 49)) := (HB8.out.block h0 (Array.getElem?_eq_some_iff.1 HY.out).1).trans HY.out
          obtain ⟨Q8, hQ8⟩ : ∃ Q8 : Nat → Prop, Q8 = fun k => Q k ∨ (wr.heap.size ≤ k ∧ k < w8.heap.size) := ⟨_, rfl⟩
          have HT8 : Hid (Wl w w8 Q8 bd bl (2 + 2100 * j) s l) := by rw [hQ8]; exact HT.out.keep HB8.out
          have HQ8 : Hid (Q8 bx ∧ Q8 h0 ∧ Q8 b8 ∧ ∀ k, Q k → Q8 k) := by rw [hQ8]; exact ⟨.inl HQ.out.1, .inl HQ.out.2, .inr HO8.out, fun k hk => .inl hk⟩
          have HRl8 : Hid (TxP w8 (Of Q8 bx h0) ah qh ch l.R) := HR.out.kept (fun k hk => HB8.out.block k (by obtain ⟨F, G, _, _, _, _, _, pp⟩ := HT.out.ex; exact (pp k hk.1).1)) (fun k hk => ⟨HQ8.out.2.2.2 k hk.1, hk.2⟩)
          have HW8 : Hid (RowsS w8 h0 (.slice aw qw cw) l.W ∧ ∀ k, (Value.slice aw qw cw).ownBlock = some k → Q8 k ∧ k ≠ bx ∧ k ≠ h0 ∧ (∀ x, ah = some x → l.R ≠ [] → x.block ≠ k)) := ⟨HW.out.1.keep HB8.out, fun k hk => ⟨HQ8.out.2.2.2 k (HW.out.2 k hk).1, (HW.out.2 k hk).2⟩⟩
          clear hQ8 hqt hl8' hsl hY hY2 hY0 hr8 hi8 hb8 x8 hx8 KS R7 B7 X7 HI7 HR6 HI6 HB6 HW5 HZ5 hn8 HSX HX HY HT HR HW

          have HY0 : Hid (IsBytes Y0) := (HYb.out Y0 (by simp)).1
          have HYt : Hid (∀ B ∈ Yt, IsBytes B) := fun B hB => (HYb.out B (by simp [hB])).1
          have HM : Hid (l.R.length + l.W.length ≤ 56) := by
            have h1 := joinL_count l.R
            have h2 := joinL_count l.W
            have h3 := HT8.out.ok.room
            have h4 := HG.out.2.2.1
            have h5 : l.ln = (joinL l.R).length := rfl
            show _ ≤ 56
            omega
          by_cases hk0 : vk = 0
          · subst hk0
            obtain ⟨c, l1, had, hor⟩ := add_said HG.out.1.gd.lost Y0
            have KA : Hid (Calls Try.prog 8 #[.pointer (some ⟨bl, 0, none⟩), .string (strOfNums Y0)] w8 fun e w' => e = .returned (.int .i64 c) ∧ Wl w w' Q8 bd bl (2 + 2100 * j) s l1 ∧ ∀ k, Q8 k → w'.heap[k]? = w8.heap[k]?) := by
              have k := wl_add HT8.out Y0 HY0.out
              rw [had] at k
              exact k
            have HG1 : Hid (Gu s l1) := by
              have k := add_gu HG.out.1 Y0 HY0.out
              rw [had] at k
              exact k
            clear had
            rcases hor with ⟨hc0, hl1⟩ | ⟨rfl, hl1⟩
            · subst l1
              have e9 : (c == 0) = false := by rw [beq_eq_false_iff_ne]; exact hc0
              go_wp2_with fail
              refine KA.out.mono ?_
              rintro e w9 ⟨rfl, hT9, hk9⟩
              have HT9 : Hid (Wl w w9 Q8 bd bl (2 + 2100 * j) s l) := hT9
              have HK9 : Hid (∀ k, Q8 k → w9.heap[k]? = w8.heap[k]?) := hk9
              clear hT9 hk9 c8k c8s d0 d1 d2
              go_wp2_with fail
              go_roundg (40 - (j + 1))
              case measure => omega
              case rel => exact ⟨j + 1, Q8, l, s, ah, qh, ch, by omega, rfl, by go_num, ⟨HG.out.1, HG.out.2.1, HG.out.2.2.1, by have := HG.out.2.2.2; omega⟩, HT9.out.more (by omega), ⟨HQ8.out.1, HQ8.out.2.1⟩, (HK9.out _ HQ8.out.1).trans HX8.out, (HK9.out _ HQ8.out.2.1).trans HY8.out, HRl8.out.kept (fun k hk => HK9.out k hk.1) (fun _ h => h), HW8.out.1.kept (fun k hk => HK9.out k (HW8.out.2 k hk).1), HW8.out.2⟩
            · have HL1 : Hid (l1.R = l.R ∧ l1.W = l.W ++ [Y0] ∧ l1.m = l.m ∧ l1.no = l.no) := by rw [hl1]; exact ⟨rfl, rfl, rfl, rfl⟩
              clear hl1
              go_wp2_with fail
              refine KA.out.mono ?_
              rintro e w9 ⟨rfl, hT9, hk9⟩
              have HT9 : Hid (Wl w w9 Q8 bd bl (2 + 2100 * j) s l1) := hT9
              have HK9 : Hid (∀ k, Q8 k → w9.heap[k]? = w8.heap[k]?) := hk9
              have c9s : w9.cell? ⟨b8, 0, none⟩ = some (.string (strOfNums Y0)) := (World.cell?_of_block (a := ⟨b8, 0, none⟩) (hk9 b8 HQ8.out.2.2.1)).trans c8s
              clear hT9 hk9 c8k c8s d0 d1 d2
              have HR9 : Hid (RowsS (w9.alloc (.cells #[.string (strOfNums Y0)] 9)) h0 (.slice aw qw cw) l.W) := (HW8.out.1.kept (fun k hk => HK9.out k (HW8.out.2 k hk).1)).keep (gB_alloc w9 _)
              have HI9 : Hid (InS (w9.alloc (.cells #[.string (strOfNums Y0)] 9)) (some ⟨w9.heap.size, 0, none⟩) [Y0]) := one_in (by rw [cell_of_row _ w9.heap.size 0 _ _ (0, 0) (heap_alloc_new w9 _)]; rfl)
              have HH0 : Hid (h0 ≤ (w9.alloc (.cells #[.string (strOfNums Y0)] 9)).heap.size) := by
                have h1 := HT9.out.bel.size
                rw [HH.out] at h1
                show _ ≤ _
                simp
                omega
              go_wp2_with (at_builtin; refine appTB rfl (.tmp 88) (.tmp 92) rfl h0 _ l.W rfl HR9.out (some ⟨w9.heap.size, 0, none⟩) 1 1 [Y0] rfl rfl HI9.out (fun h => by cases h) (by have := HM.out; omega) HH0.out ?_; intro v10 w10 r10 g10 o10; have R10 : Hid (RowsS w10 h0 v10 (l.W ++ [Y0])) := r10; have G10 : Hid ((w9.alloc (.cells #[.string (strOfNums Y0)] 9)).grownBy w10 (Value.slice aw qw cw).ownBlock) := g10; have O10 : Hid (v10.ownBlock = (Value.slice aw qw cw).ownBlock ∨ v10.ownBlock = some (w9.alloc (.cells #[.string (strOfNums Y0)] 9)).heap.size) := o10; clear r10 g10 o10)
              have HT10 := (HT9.out.keep (gB_alloc w9 (.cells #[.string (strOfNums Y0)] 9))).grown G10.out (fun k e => ⟨.inl (HW8.out.2 k e).1, by have h1 := (HR9.out.own k e).1; have h2 := HH.out; omega⟩)
              obtain ⟨Q10, hQ10⟩ : ∃ Q10 : Nat → Prop, Q10 = fun k => (Q8 k ∨ (w9.heap.size ≤ k ∧ k < (w9.alloc (.cells #[.string (strOfNums Y0)] 9)).heap.size)) ∨ ((w9.alloc (.cells #[.string (strOfNums Y0)] 9)).heap.size ≤ k ∧ k < w10.heap.size) := ⟨_, rfl⟩
              have HTa : Hid (Wl w w10 Q10 bd bl (2 + 2100 * j) s l1) := by rw [hQ10]; exact HT10
              have HQa : Hid (∀ k, Q8 k → Q10 k) := fun k hk => by rw [hQ10]; exact .inl (.inl hk)
              have HLt : Hid (∀ k, Q8 k → k < w9.heap.size) := fun k hk => by obtain ⟨F, G, _, _, _, _, _, pp⟩ := HT9.out.ex; exact (pp k hk).1
              have HKa : Hid (∀ k, Q8 k → some k ≠ (Value.slice aw qw cw).ownBlock → w10.heap[k]? = w8.heap[k]?) := fun k hk hne => ((G10.out.block k (by have := HLt.out k hk; simp; omega) hne).trans (Below.heap_alloc _ _ _ (HLt.out k hk))).trans (HK9.out k hk)
              have HOa : Hid (∀ k, v10.ownBlock = some k → Q10 k ∧ k ≠ bx ∧ k ≠ h0 ∧ ∀ x, ah = some x → l1.R ≠ [] → x.block ≠ k) := fun k hk => by
                rcases O10.out with e | e
                · rw [e] at hk
                  have h3 := HW8.out.2 k hk
                  rw [HL1.out.1]
                  exact ⟨HQa.out k h3.1, h3.2⟩
                · rw [e] at hk
                  have hk2 := (Option.some.inj hk).symm
                  subst hk2
                  have h3 : w9.heap.size < (w9.alloc (.cells #[.string (strOfNums Y0)] 9)).heap.size := by simp
                  refine ⟨by rw [hQ10]; exact .inr ⟨Nat.le_refl _, (R10.out.own _ e).2⟩, fun h => ?_, fun h => ?_, fun x hx hne h => ?_⟩
                  · have := HLt.out bx HQ8.out.1; omega
                  · have := HLt.out h0 HQ8.out.2.1; omega
                  · rw [HL1.out.1] at hne; have := HLt.out _ (HRl8.out.2.2.2.2.1 x hx hne).1; omega
              have HNx : Hid (some bx ≠ (Value.slice aw qw cw).ownBlock ∧ some h0 ≠ (Value.slice aw qw cw).ownBlock) := ⟨fun e => (HW8.out.2 bx e.symm).2.1 rfl, fun e => (HW8.out.2 h0 e.symm).2.2.1 rfl⟩
              have HRa : Hid (TxP w10 (Of Q10 bx h0) ah qh ch l1.R) := by
                rw [HL1.out.1]
                exact ⟨HRl8.out.1.kept fun x hx hne => HKa.out _ (HRl8.out.2.2.2.2.1 x hx hne).1 (fun e => (HW8.out.2 _ e.symm).2.2.2 x hx hne rfl), HRl8.out.2.1, HRl8.out.2.2.1, HRl8.out.2.2.2.1, fun x hx hne => ⟨HQa.out _ (HRl8.out.2.2.2.2.1 x hx hne).1, (HRl8.out.2.2.2.2.1 x hx hne).2⟩, HRl8.out.2.2.2.2.2⟩
              clear hQ10 HT10 c9s
              go_roundg (40 - (j + 1))
              case measure => omega
              case rel => exact ⟨j + 1, Q10, l1, s, ah, qh, ch, by omega, rfl, by go_num, ⟨HG1.out, HG.out.2.1, HL1.out.2.2.1.trans HG.out.2.2.1, by have := HG.out.2.2.2; have := HL1.out.2.2.2; omega⟩, HTa.out.more (by omega), ⟨HQa.out _ HQ8.out.1, HQa.out _ HQ8.out.2.1⟩, (HKa.out _ HQ8.out.1 HNx.out.1).trans HX8.out, (HKa.out _ HQ8.out.2.1 HNx.out.2).trans HY8.out, HRa.out, by rw [HL1.out.2.1]; exact R10.out, HOa.out⟩
          · have k0 : (vk == 0) = false := by rw [beq_eq_false_iff_ne]; exact hk0
            by_cases hk1 : vk = 1
            · subst hk1
              have HR8e : Hid (RowsS (w8.alloc (.cells #[] 9)) w8.heap.size (.slice (some ⟨w8.heap.size, 0, none⟩) 0 0) []) := rows_empty w8 w8.heap.size (Nat.le_refl _)
              have HI8e : Hid (InS (w8.alloc (.cells #[] 9)) ah l.R) := HRl8.out.1.keep (gB_alloc w8 _)
              have BE : Hid (Below w8.heap.size w8 (w8.alloc (.cells #[] 9))) := gB_alloc w8 _
              have d1e : (w8.alloc (.cells #[] 9)).cell? ⟨bx, 1, none⟩ = some (.slice ah qh ch) := (BE.out.cell (p := ⟨bx, 1, none⟩) (Array.getElem?_eq_some_iff.1 HX8.out).1).trans d1
              have HWn : Hid (aw = none → qw = 0 ∧ cw = 0) := fun h => ⟨by rw [← hqw, (hwn h).2]; rfl, (hwn h).1⟩
              have HWi : Hid (InS w8 aw l.W ∧ l.W.length = qw) := by
                obtain ⟨a', c', e', _, i', _, _⟩ := RowsS.slice HW8.out.1
                simp only [Value.slice.injEq] at e'
                obtain ⟨rfl, _, rfl⟩ := e'
                exact ⟨i', hqw⟩
              go_wp2_with (first | (at_builtin; refine appTA rfl (.tmp 96) (.tmp 98) rfl w8.heap.size _ [] rfl HR8e.out ah qh ch l.R rfl HRl8.out.2.1 HI8e.out HRl8.out.2.2.2.1 (by have := HRl8.out.2.2.1; simp; omega) BE.out.size ?_; intro vf wf rf bf; rw [List.nil_append] at rf; obtain ⟨af, cf, rfl, _⟩ := RowsS.slice rf; have RF : Hid (RowsS wf w8.heap.size (.slice af l.R.length cf) l.R) := rf; have BF : Hid (Below w8.heap.size w8 wf) := BE.out.trans bf; clear rf bf) | (at_builtin; refine appTA rfl (.tmp 99) (.tmp 100) rfl w8.heap.size _ l.R rfl RF.out aw qw cw l.W rfl HWi.out.2 (HWi.out.1.keep BF.out) HWn.out (by have h1 := HRl8.out.2.1; have h2 := HRl8.out.2.2.1; have h3 := HM.out; have h4 := HWi.out.2; omega) BF.out.size ?_; intro vg wg rg bg; have RG : Hid (RowsS wg w8.heap.size vg (l.R ++ l.W)) := rg; have BG : Hid (Below w8.heap.size w8 wg) := BF.out.trans bg; clear rg bg; obtain ⟨av, cv, rfl, hnv, hiv, _, _⟩ := RowsS.slice RG.out))
              have HQl : Hid ((l.R ++ l.W).length ≤ 56) := by rw [List.length_append]; exact HM.out
              obtain ⟨qv, hqv0⟩ : ∃ q, l.R.length + qw = q := ⟨_, rfl⟩
              rw [hqv0]
              have hqv : (l.R ++ l.W).length = qv := by rw [List.length_append, hqw]; exact hqv0
              clear hqv0
              obtain ⟨Qg, hQg⟩ : ∃ Qg : Nat → Prop, Qg = fun k => Q8 k ∨ (w8.heap.size ≤ k ∧ k < wg.heap.size) := ⟨_, rfl⟩
              have HTg : Hid (Wl w wg Qg bd bl (2 + 2100 * j) s l) := by rw [hQg]; exact HT8.out.keep BG.out
              have HQg : Hid (∀ k, Q8 k → Qg k) := fun k hk => by rw [hQg]; exact .inl hk
              have HVg : Hid (TxP wg (Of Qg bx h0) av qv cv (l.R ++ l.W)) := ⟨hiv, hqv, by have := HQl.out; omega, fun h => ⟨by rw [← hqv, (hnv h).2]; rfl, (hnv h).1⟩, fun x hx hne => by subst hx; have h8 := RG.out.own x.block rfl; have h9 := (Array.getElem?_eq_some_iff.1 HX8.out).1; have h10 := (Array.getElem?_eq_some_iff.1 HY8.out).1; exact ⟨by rw [hQg]; exact .inr h8, by omega, by omega⟩, fun B hB => by
                rcases List.mem_append.1 hB with h | h
                · exact (HT8.out.ok.rb B h).1
                · exact (HT8.out.ok.wb B h).1⟩
              have HLt8 : Hid (∀ k, Q8 k → k < w8.heap.size) := fun k hk => by obtain ⟨F, G, _, _, _, _, _, pp⟩ := HT8.out.ex; exact (pp k hk).1
              have HKg : Hid (∀ k, Q8 k → wg.heap[k]? = w8.heap[k]?) := fun k hk => BG.out.block k (HLt8.out k hk)
              obtain ⟨c, l', s', hsy, hor⟩ := sync_any (n := 16) HG.out.1 (by have := HG.out.2.2.2; omega)
              have KSy : Hid (Calls Try.prog 9 #[.pointer (some ⟨bl, 0, none⟩)] wg fun e w' => e = .returned (.int .i64 c) ∧ Wl w w' Qg bd bl (2 + 2100 * j + 2100) s' l' ∧ ∀ k, Qg k → w'.heap[k]? = wg.heap[k]?) := by
                have k := wl_sync HTg.out (fit16 HG.out.2.2.1 HTg.out.ok.ar HG.out.2.1) (by omega)
                rw [hsy] at k
                exact k
              clear hsy hQg hqv hnv hiv hqw hwn d0 d1 d2 d1e c8k c8s
              rcases hor with ⟨rfl, hR', hW', g', hD', hno', hm'⟩ | ⟨rfl, hl', hu', hlen', haft⟩
              · skip
                have HGh : Hid (Gu s' l' ∧ s'.D.length = 16 ∧ l'.m = 7 ∧ l'.no ≤ 1 + (j + 1) ∧ l'.W = []) := ⟨g', hD'.trans HG.out.2.1, hm'.trans HG.out.2.2.1, by have := HG.out.2.2.2; omega, hW'⟩
                have HVg2 : Hid (TxP wg (Of Qg bx h0) av qv cv l'.R) := by rw [hR']; exact HVg.out
                clear g' hD' hno' hm' hW' hR'
                refine KSy.out.mono ?_
                rintro e wh ⟨rfl, hTh, hkh⟩
                have HTh : Hid (Wl w wh Qg bd bl (2 + 2100 * j + 2100) s' l') := hTh
                have HKh : Hid (∀ k, Qg k → wh.heap[k]? = wg.heap[k]?) := hkh
                have HXh : Hid (wh.heap[bx]? = some (.cells #[.pointer (some ⟨bd, 0, none⟩), .slice ah qh ch, .slice none 0 0] 49)) := (hkh bx (HQg.out _ HQ8.out.1)).trans ((HKg.out bx HQ8.out.1).trans HX8.out)
                have HYh : Hid (wh.heap[h0]? = some (.cells #[.pointer none, .slice none 0 0, .slice none 0 0] 49)) := (hkh h0 (HQg.out _ HQ8.out.2.1)).trans ((HKg.out h0 HQ8.out.2.1).trans HY8.out)
                clear hTh hkh
                have HVh : Hid (TxP wh (Of Qg bx h0) av qv cv l'.R) := HVg2.out.kept (fun k hk => HKh.out k hk.1) (fun _ h => h)
                have e0h : wh.cell? ⟨bx, 0, none⟩ = some (.pointer (some ⟨bd, 0, none⟩)) := by rw [cell_of_row wh bx _ _ _ (0, 0) HXh.out]; rfl
                have e1h : wh.cell? ⟨bx, 1, none⟩ = some (.slice ah qh ch) := by rw [cell_of_row wh bx _ _ _ (0, 0) HXh.out]; rfl
                have e2h : wh.cell? ⟨bx, 2, none⟩ = some (.slice none 0 0) := by rw [cell_of_row wh bx _ _ _ (0, 0) HXh.out]; rfl
                have hfz : wh.frozen? ⟨bx, 1, none⟩ = false := by rw [World.frozen?, HXh.out]; rfl
                go_wp2_with fail
                obtain ⟨wi, hwi⟩ : ∃ wi, wh.setCell ⟨bx, 1, none⟩ (.slice av qv cv) = wi := ⟨_, rfl⟩
                rw [show World.setCell wh _ _ = wi from hwi]
                have HXi : Hid (wi.heap[bx]? = some (.cells #[.pointer (some ⟨bd, 0, none⟩), .slice av qv cv, .slice none 0 0] 49)) := by rw [← hwi]; exact box_set _ HXh.out
                have HYi : Hid (wi.heap[h0]? = some (.cells #[.pointer none, .slice none 0 0, .slice none 0 0] 49)) := by rw [← hwi]; exact (set_off _ _ _ _ _ PB.out.1.symm).trans HYh.out
                have HTi : Hid (Wl w wi Qg bd bl (2 + 2100 * j + 2100) s' l') := by rw [← hwi]; exact HTh.out.grown0 (grown_setCell wh bx 1 _) (fun k e => by obtain rfl := Option.some.inj e; exact ⟨HQg.out _ HQ8.out.1, PB.out.2.1⟩)
                have HVi : Hid (TxP wi (Of Qg bx h0) av qv cv l'.R) := HVh.out.kept (fun k hk => by rw [← hwi]; exact set_off _ _ _ _ _ hk.2.1) (fun _ h => h)
                have HSi : Hid (∀ W : World, W.heap[bx]? = wi.heap[bx]? → W.cell? ⟨bx, 1, none⟩ = some (.slice av qv cv)) := fun W hW => by rw [cell_of_row W bx _ _ _ (0, 0) (hW.trans HXi.out)]; rfl
                have HTd : Hid (Wl w wi.drew Qg bd bl (2 + 2100 * j + 2100) s' l') := HTi.out.keep0 (below_drewN (Below.refl _ _) 1)
                have KRec : Hid (Calls Try.prog 11 #[.pointer (some ⟨bl, 0, none⟩)] wi.drew fun e w' => ∃ v, e = .returned v ∧ RowsS w' wi.drew.heap.size v l'.R ∧ Below wi.drew.heap.size wi.drew w') := wl_records HTd.out
                have HVd : Hid (TxP wi.drew (Of Qg bx h0) av qv cv l'.R) := HVi.out.kept (fun k hk => rfl) (fun _ h => h)
                clear hwi e0h e1h e2h hfz
                refine wp_region_noPanic ?_
                refine wp_region_held_drew (S := (fun W : World => W.cell? ⟨bx, 1, none⟩ = some (.slice av qv cv))) (by kernel_rfl) ?hSaa (fun hHeld => ?restaa)
                case hSaa => exact HSi.out _ rfl
                case restaa =>
                  refine wpAnyH_take (i := 0) (v := .pointer (some ⟨bl, 0, none⟩)) rfl (by kernel_rfl) (by kernel_rfl) (by kernel_rfl) (fun _ _ _ h => h) (Or.inl ⟨by kernel_rfl, ?hy0a⟩) hHeld ?rest0a
                  case hy0a => (intro w hSw; (try dsimp only at hSw); go_simp; try with_reducible rfl)
                  try simp only [Act.put, List.setIfInBounds_toArray, List.set_cons_zero, List.set_cons_succ, List.getElem_toArray, List.getElem_cons_zero]
                  refine wpAnyH_take (i := 2) (v := .pointer (some ⟨bx, 1, none⟩)) rfl (by kernel_rfl) (by kernel_rfl) (by kernel_rfl) (fun _ _ _ h => h) (Or.inl ⟨by kernel_rfl, ?hy2a⟩) hHeld ?rest2a
                  case hy2a => (intro w hSw; (try dsimp only at hSw); go_simp; try with_reducible rfl)
                  try simp only [Act.put, List.setIfInBounds_toArray, List.set_cons_zero, List.set_cons_succ, List.getElem_toArray, List.getElem_cons_zero, List.getElem_cons_succ]
                  refine wpAnyH_take (i := 3) (v := .slice av qv cv) rfl (by kernel_rfl) (by kernel_rfl) (by kernel_rfl) (fun _ _ _ h => h) (Or.inl ⟨by kernel_rfl, ?hy3a⟩) hHeld ?rest3a
                  case hy3a => (intro w hSw; (try dsimp only at hSw); go_simp; try with_reducible rfl)
                  try simp only [Act.put, List.setIfInBounds_toArray, List.set_cons_zero, List.set_cons_succ, List.getElem_toArray, List.getElem_cons_zero, List.getElem_cons_succ]
                  refine wpAnyH_ready (rs := [1]) (by kernel_rfl) (by simp) ?_
                  refine AllReadyH.cons rfl (fun K hK => ?_) AllReadyH.nil
                  go_simp; refine KRec.out.mono ?_; rintro e wj ⟨vj, rfl, hrj, hbj⟩; obtain ⟨aj, cj, rfl, _, hij, _, _⟩ := RowsS.slice hrj; have HIj : Hid (InS wj aj l'.R) := hij; have HBj : Hid (Below wi.drew.heap.size wi.drew wj) := hbj; clear hrj hbj hij; go_wp2_with fail
                  refine hK.out _ _ ?hS1a (fun hHeld => ?rest1a)
                  case hS1a => exact HSi.out _ (HBj.out.block bx (Array.getElem?_eq_some_iff.1 HXi.out).1)
                  clear hK K
                  try simp only [Act.put, List.setIfInBounds_toArray, List.set_cons_zero, List.set_cons_succ, List.getElem_toArray, List.getElem_cons_zero, List.getElem_cons_succ]

                  have HTj : Hid (Wl w wj Qg bd bl (2 + 2100 * j + 2100) s' l') := HTd.out.keep0 HBj.out
                  have HLi : Hid (∀ k, Qg k → k < wi.drew.heap.size) := fun k hk => by obtain ⟨F, G, _, _, _, _, _, pp⟩ := HTd.out.ex; exact (pp k hk).1
                  have HVj : Hid (TxP wj (Of Qg bx h0) av qv cv l'.R) := HVd.out.kept (fun k hk => HBj.out.block k (HLi.out k hk.1)) (fun _ h => h)
                  have KSa : Hid (Calls Try.prog 19 #[.slice aj l'.R.length cj, .slice av qv cv] wj fun e w' => e = .returned (.bool true) ∧ Below wj.heap.size wj w') := by
                    have k := wsame_is wj aj av l'.R.length qv cj cv l'.R l'.R rfl HVj.out.2.1 (by have h1 := HVj.out.2.1; have h2 := HVj.out.2.2.1; omega) (by have h2 := HVj.out.2.2.1; omega) HIj.out HVj.out.1 HVj.out.2.2.2.2.2 HVj.out.2.2.2.2.2
                    rw [decide_eq_true (rfl : l'.R = l'.R)] at k
                    exact k
                  refine wpAnyH_ready (rs := [4]) (by kernel_rfl) (by simp) ?_
                  refine AllReadyH.cons rfl (fun K hK => ?_) AllReadyH.nil
                  go_simp; refine KSa.out.mono ?_; rintro e wk ⟨rfl, hbk⟩; have HBk : Hid (Below wj.heap.size wj wk) := hbk; clear hbk; go_wp2_with fail
                  refine hK.out _ _ ?hS4a (fun hHeld => ?rest4a)
                  case hS4a => exact HSi.out _ ((HBk.out.block bx (Nat.lt_of_lt_of_le (HLi.out _ (HQg.out _ HQ8.out.1)) HBj.out.size)).trans (HBj.out.block bx (HLi.out _ (HQg.out _ HQ8.out.1))))
                  clear hK K
                  try simp only [Act.put, List.setIfInBounds_toArray, List.set_cons_zero, List.set_cons_succ, List.getElem_toArray, List.getElem_cons_zero, List.getElem_cons_succ]
                  refine wpAnyH_take (i := 5) (v := .bool false) rfl (by kernel_rfl) (by kernel_rfl) (by kernel_rfl) (fun _ _ _ h => h) (Or.inl ⟨by kernel_rfl, ?hy5a⟩) hHeld ?rest5a
                  case hy5a => (intro w hSw; (try dsimp only at hSw); go_simp; try with_reducible rfl)
                  try simp only [Act.put, List.setIfInBounds_toArray, List.set_cons_zero, List.set_cons_succ, List.getElem_toArray, List.getElem_cons_zero, List.getElem_cons_succ]
                  refine wpAnyH_done (by kernel_rfl) ?_ _
                  refine NoPanic.normal ?_

                  have HKk : Hid (∀ k, Qg k → wk.heap[k]? = wi.heap[k]?) := fun k hk => (HBk.out.block k (Nat.lt_of_lt_of_le (HLi.out k hk) HBj.out.size)).trans (HBj.out.block k (HLi.out k hk))
                  go_wp2_with fail
                  go_roundg (40 - (j + 1))
                  case measure => omega
                  case rel => exact ⟨j + 1, Qg, l', s', av, qv, cv, by omega, rfl, by go_num, ⟨HGh.out.1, HGh.out.2.1, HGh.out.2.2.1, HGh.out.2.2.2.1⟩, (HTj.out.keep0 HBk.out).more (by omega), ⟨HQg.out _ HQ8.out.1, HQg.out _ HQ8.out.2.1⟩, (HKk.out _ (HQg.out _ HQ8.out.1)).trans HXi.out, (HKk.out _ (HQg.out _ HQ8.out.2.1)).trans HYi.out, HVi.out.kept (fun k hk => HKk.out k hk.1) (fun _ h => h), by rw [HGh.out.2.2.2.2]; exact RowsS.nil _ _, fun k hk => by cases hk⟩
              · skip
                have HLh : Hid (l'.lost = true ∧ l'.R = l.R ∧ s'.up = false) := by rw [hl']; exact ⟨rfl, rfl, hu'⟩
                have HLh2 : Hid (l'.m = 7 ∧ s'.D.length = 16) := ⟨by rw [hl']; exact HG.out.2.2.1, hlen'.trans HG.out.2.1⟩
                obtain ⟨LW, hLW⟩ : ∃ L, L = l.R ++ l.W := ⟨_, rfl⟩
                have HVg2 : Hid (TxP wg (Of Qg bx h0) av qv cv LW) := by rw [hLW]; exact HVg.out
                have HAf : Hid (∀ keep, Aft 16 (s'.cr keep) l.R LW) := by rw [hLW]; exact haft
                clear hl' hu' haft hLW hlen'
                refine KSy.out.mono ?_
                rintro e wh ⟨rfl, hTh, hkh⟩
                have HTh : Hid (Wl w wh Qg bd bl (2 + 2100 * j + 2100) s' l') := hTh
                have HKh : Hid (∀ k, Qg k → wh.heap[k]? = wg.heap[k]?) := hkh
                have HXh : Hid (wh.heap[bx]? = some (.cells #[.pointer (some ⟨bd, 0, none⟩), .slice ah qh ch, .slice none 0 0] 49)) := (hkh bx (HQg.out _ HQ8.out.1)).trans ((HKg.out bx HQ8.out.1).trans HX8.out)
                have HYh : Hid (wh.heap[h0]? = some (.cells #[.pointer none, .slice none 0 0, .slice none 0 0] 49)) := (hkh h0 (HQg.out _ HQ8.out.2.1)).trans ((HKg.out h0 HQ8.out.2.1).trans HY8.out)
                clear hTh hkh
                have HVh : Hid (TxP wh (Of Qg bx h0) av qv cv LW) := HVg2.out.kept (fun k hk => HKh.out k hk.1) (fun _ h => h)
                have HRh : Hid (TxP wh (Of Qg bx h0) ah qh ch l'.R) := by rw [HLh.out.2.1]; exact HRl8.out.kept (fun k hk => (HKh.out k (HQg.out k hk.1)).trans (HKg.out k hk.1)) (fun k hk => ⟨HQg.out k hk.1, hk.2⟩)
                have e0h : wh.cell? ⟨bx, 0, none⟩ = some (.pointer (some ⟨bd, 0, none⟩)) := by rw [cell_of_row wh bx _ _ _ (0, 0) HXh.out]; rfl
                have e1h : wh.cell? ⟨bx, 1, none⟩ = some (.slice ah qh ch) := by rw [cell_of_row wh bx _ _ _ (0, 0) HXh.out]; rfl
                have e2h : wh.cell? ⟨bx, 2, none⟩ = some (.slice none 0 0) := by rw [cell_of_row wh bx _ _ _ (0, 0) HXh.out]; rfl
                have hfz : wh.frozen? ⟨bx, 2, none⟩ = false := by rw [World.frozen?, HXh.out]; rfl
                go_wp2_with fail
                obtain ⟨wi, hwi⟩ : ∃ wi, wh.setCell ⟨bx, 2, none⟩ (.slice av qv cv) = wi := ⟨_, rfl⟩
                rw [show World.setCell wh _ _ = wi from hwi]
                have HXi : Hid (wi.heap[bx]? = some (.cells #[.pointer (some ⟨bd, 0, none⟩), .slice ah qh ch, .slice av qv cv] 49)) := by rw [← hwi]; exact box_set _ HXh.out
                have HYi : Hid (wi.heap[h0]? = some (.cells #[.pointer none, .slice none 0 0, .slice none 0 0] 49)) := by rw [← hwi]; exact (set_off _ _ _ _ _ PB.out.1.symm).trans HYh.out
                have HTi : Hid (Wl w wi Qg bd bl (2 + 2100 * j + 2100) s' l') := by rw [← hwi]; exact HTh.out.grown0 (grown_setCell wh bx 2 _) (fun k e => by obtain rfl := Option.some.inj e; exact ⟨HQg.out _ HQ8.out.1, PB.out.2.1⟩)
                have HVi : Hid (TxP wi (Of Qg bx h0) av qv cv LW) := HVh.out.kept (fun k hk => by rw [← hwi]; exact set_off _ _ _ _ _ hk.2.1) (fun _ h => h)
                have HRi : Hid (TxP wi (Of Qg bx h0) ah qh ch l'.R) := HRh.out.kept (fun k hk => by rw [← hwi]; exact set_off _ _ _ _ _ hk.2.1) (fun _ h => h)
                have HSi : Hid (∀ W : World, W.heap[bx]? = wi.heap[bx]? → W.cell? ⟨bx, 0, none⟩ = some (.pointer (some ⟨bd, 0, none⟩)) ∧ W.cell? ⟨bx, 1, none⟩ = some (.slice ah qh ch) ∧ W.cell? ⟨bx, 2, none⟩ = some (.slice av qv cv)) := fun W hW => by
                  have hx := hW.trans HXi.out
                  refine ⟨?_, ?_, ?_⟩ <;> (rw [cell_of_row W bx _ _ _ (0, 0) hx]; rfl)
                have HTd : Hid (Wl w wi.drew Qg bd bl (2 + 2100 * j + 2100) s' l') := HTi.out.keep0 (below_drewN (Below.refl _ _) 1)
                have HRd : Hid (TxP wi.drew (Of Qg bx h0) ah qh ch l'.R) := HRi.out.kept (fun k hk => rfl) (fun _ h => h)
                have HQb : Hid (Qg bx ∧ Qg h0) := ⟨HQg.out _ HQ8.out.1, HQg.out _ HQ8.out.2.1⟩
                have KRec : Hid (Calls Try.prog 11 #[.pointer (some ⟨bl, 0, none⟩)] wi.drew fun e w' => ∃ v, e = .returned v ∧ RowsS w' wi.drew.heap.size v l'.R ∧ Below wi.drew.heap.size wi.drew w') := wl_records HTd.out
                clear hwi e0h e1h e2h hfz
                refine wp_region_noPanic ?_
                refine wp_region_held_drew (S := (fun W : World => W.cell? ⟨bx, 0, none⟩ = some (.pointer (some ⟨bd, 0, none⟩)) ∧ W.cell? ⟨bx, 1, none⟩ = some (.slice ah qh ch) ∧ W.cell? ⟨bx, 2, none⟩ = some (.slice av qv cv))) (by kernel_rfl) ?hSab (fun hHeld => ?restab)
                case hSab => exact HSi.out _ rfl
                case restab =>
                  refine wpAnyH_take (i := 0) (v := .agg #[.pointer (some ⟨bd, 0, none⟩), .slice ah qh ch, .slice av qv cv]) rfl (by kernel_rfl) (by kernel_rfl) (by kernel_rfl) (fun _ _ _ h => h) (Or.inl ⟨by kernel_rfl, ?hy0b⟩) hHeld ?rest0b
                  case hy0b => (intro w hSw; (try dsimp only at hSw); go_simp; try with_reducible rfl)
                  try simp only [Act.put, List.setIfInBounds_toArray, List.set_cons_zero, List.set_cons_succ, List.getElem_toArray, List.getElem_cons_zero]
                  refine wpAnyH_take (i := 1) (v := .pointer (some ⟨bd, 0, none⟩)) rfl (by kernel_rfl) (by kernel_rfl) (by kernel_rfl) (fun _ _ _ h => h) (Or.inl ⟨by kernel_rfl, ?hy1b⟩) hHeld ?rest1b
                  case hy1b => (intro w hSw; (try dsimp only at hSw); go_simp; try with_reducible rfl)
                  try simp only [Act.put, List.setIfInBounds_toArray, List.set_cons_zero, List.set_cons_succ, List.getElem_toArray, List.getElem_cons_zero, List.getElem_cons_succ]
                  refine wpAnyH_ready (rs := [2]) (by kernel_rfl) (by simp) ?_
                  refine AllReadyH.cons rfl (fun K hK => ?_) AllReadyH.nil
                  go_simp; refine (wd_up HTd.out.disk).mono ?_; rintro e w' ⟨rfl, hw⟩; obtain rfl := hw.symm; clear hw; rw [HLh.out.2.2]; go_wp2_with fail
                  refine hK.out _ _ ?hS2b (fun hHeld => ?rest2b)
                  case hS2b => exact HSi.out _ rfl
                  clear hK K
                  try simp only [Act.put, List.setIfInBounds_toArray, List.set_cons_zero, List.set_cons_succ, List.getElem_toArray, List.getElem_cons_zero, List.getElem_cons_succ]
                  refine wpAnyH_take (i := 3) (v := .bool true) rfl (by kernel_rfl) (by kernel_rfl) (by kernel_rfl) (fun _ _ _ h => h) (Or.inl ⟨by kernel_rfl, ?hy3b⟩) hHeld ?rest3b
                  case hy3b => (intro w hSw; (try dsimp only at hSw); go_simp; try with_reducible rfl)
                  try simp only [Act.put, List.setIfInBounds_toArray, List.set_cons_zero, List.set_cons_succ, List.getElem_toArray, List.getElem_cons_zero, List.getElem_cons_succ]
                  refine wpAnyH_take (i := 4) (v := .bool true) rfl (by kernel_rfl) (by kernel_rfl) (by kernel_rfl) (fun _ _ _ h => h) (Or.inl ⟨by kernel_rfl, ?hy4b⟩) hHeld ?rest4b
                  case hy4b => (intro w hSw; (try dsimp only at hSw); go_simp; try with_reducible rfl)
                  try simp only [Act.put, List.setIfInBounds_toArray, List.set_cons_zero, List.set_cons_succ, List.getElem_toArray, List.getElem_cons_zero, List.getElem_cons_succ]
                  refine wpAnyH_take (i := 5) (v := .pointer (some ⟨bl, 0, none⟩)) rfl (by kernel_rfl) (by kernel_rfl) (by kernel_rfl) (fun _ _ _ h => h) (Or.inl ⟨by kernel_rfl, ?hy5b⟩) hHeld ?rest5b
                  case hy5b => (intro w hSw; (try dsimp only at hSw); go_simp; try with_reducible rfl)
                  try simp only [Act.put, List.setIfInBounds_toArray, List.set_cons_zero, List.set_cons_succ, List.getElem_toArray, List.getElem_cons_zero, List.getElem_cons_succ]
                  refine wpAnyH_take (i := 7) (v := .pointer (some ⟨bx, 1, none⟩)) rfl (by kernel_rfl) (by kernel_rfl) (by kernel_rfl) (fun _ _ _ h => h) (Or.inl ⟨by kernel_rfl, ?hy7b⟩) hHeld ?rest7b
                  case hy7b => (intro w hSw; (try dsimp only at hSw); go_simp; try with_reducible rfl)
                  try simp only [Act.put, List.setIfInBounds_toArray, List.set_cons_zero, List.set_cons_succ, List.getElem_toArray, List.getElem_cons_zero, List.getElem_cons_succ]
                  refine wpAnyH_take (i := 8) (v := .slice ah qh ch) rfl (by kernel_rfl) (by kernel_rfl) (by kernel_rfl) (fun _ _ _ h => h) (Or.inl ⟨by kernel_rfl, ?hy8b⟩) hHeld ?rest8b
                  case hy8b => (intro w hSw; (try dsimp only at hSw); go_simp; try with_reducible rfl)
                  try simp only [Act.put, List.setIfInBounds_toArray, List.set_cons_zero, List.set_cons_succ, List.getElem_toArray, List.getElem_cons_zero, List.getElem_cons_succ]
                  refine wpAnyH_ready (rs := [6]) (by kernel_rfl) (by simp) ?_
                  refine AllReadyH.cons rfl (fun K hK => ?_) AllReadyH.nil
                  go_simp; refine KRec.out.mono ?_; rintro e wj ⟨vj, rfl, hrj, hbj⟩; obtain ⟨aj, cj, rfl, _, hij, _, _⟩ := RowsS.slice hrj; have HIj : Hid (InS wj aj l'.R) := hij; have HBj : Hid (Below wi.drew.heap.size wi.drew wj) := hbj; clear hrj hbj hij; go_wp2_with fail
                  refine hK.out _ _ ?hS6b (fun hHeld => ?rest6b)
                  case hS6b => exact HSi.out _ (HBj.out.block bx (Array.getElem?_eq_some_iff.1 HXi.out).1)
                  clear hK K
                  try simp only [Act.put, List.setIfInBounds_toArray, List.set_cons_zero, List.set_cons_succ, List.getElem_toArray, List.getElem_cons_zero, List.getElem_cons_succ]

                  have HTj : Hid (Wl w wj Qg bd bl (2 + 2100 * j + 2100) s' l') := HTd.out.keep0 HBj.out
                  have HLi : Hid (∀ k, Qg k → k < wi.drew.heap.size) := fun k hk => by obtain ⟨F, G, _, _, _, _, _, pp⟩ := HTd.out.ex; exact (pp k hk).1
                  have HRj : Hid (TxP wj (Of Qg bx h0) ah qh ch l'.R) := HRd.out.kept (fun k hk => HBj.out.block k (HLi.out k hk.1)) (fun _ h => h)
                  have KSa : Hid (Calls Try.prog 19 #[.slice aj l'.R.length cj, .slice ah qh ch] wj fun e w' => e = .returned (.bool true) ∧ Below wj.heap.size wj w') := by
                    have k := wsame_is wj aj ah l'.R.length qh cj ch l'.R l'.R rfl HRj.out.2.1 (by have h1 := HRj.out.2.1; have h2 := HRj.out.2.2.1; omega) (by have h2 := HRj.out.2.2.1; omega) HIj.out HRj.out.1 HRj.out.2.2.2.2.2 HRj.out.2.2.2.2.2
                    rw [decide_eq_true (rfl : l'.R = l'.R)] at k
                    exact k
                  refine wpAnyH_ready (rs := [9]) (by kernel_rfl) (by simp) ?_
                  refine AllReadyH.cons rfl (fun K hK => ?_) AllReadyH.nil
                  go_simp; refine KSa.out.mono ?_; rintro e wk ⟨rfl, hbk⟩; have HBk : Hid (Below wj.heap.size wj wk) := hbk; clear hbk; go_wp2_with fail
                  refine hK.out _ _ ?hS9b (fun hHeld => ?rest9b)
                  case hS9b => exact HSi.out _ ((HBk.out.block bx (Nat.lt_of_lt_of_le (HLi.out _ HQb.out.1) HBj.out.size)).trans (HBj.out.block bx (HLi.out _ HQb.out.1)))
                  clear hK K
                  try simp only [Act.put, List.setIfInBounds_toArray, List.set_cons_zero, List.set_cons_succ, List.getElem_toArray, List.getElem_cons_zero, List.getElem_cons_succ]
                  refine wpAnyH_take (i := 10) (v := .bool true) rfl (by kernel_rfl) (by kernel_rfl) (by kernel_rfl) (fun _ _ _ h => h) (Or.inl ⟨by kernel_rfl, ?hy10b⟩) hHeld ?rest10b
                  case hy10b => (intro w hSw; (try dsimp only at hSw); go_simp; try with_reducible rfl)
                  try simp only [Act.put, List.setIfInBounds_toArray, List.set_cons_zero, List.set_cons_succ, List.getElem_toArray, List.getElem_cons_zero, List.getElem_cons_succ]
                  refine wpAnyH_take (i := 11) (v := .bool true) rfl (by kernel_rfl) (by kernel_rfl) (by kernel_rfl) (fun _ _ _ h => h) (Or.inl ⟨by kernel_rfl, ?hy11b⟩) hHeld ?rest11b
                  case hy11b => (intro w hSw; (try dsimp only at hSw); go_simp; try with_reducible rfl)
                  try simp only [Act.put, List.setIfInBounds_toArray, List.set_cons_zero, List.set_cons_succ, List.getElem_toArray, List.getElem_cons_zero, List.getElem_cons_succ]
                  refine wpAnyH_take (i := 12) (v := .pointer (some ⟨bl, 0, none⟩)) rfl (by kernel_rfl) (by kernel_rfl) (by kernel_rfl) (fun _ _ _ h => h) (Or.inl ⟨by kernel_rfl, ?hy12b⟩) hHeld ?rest12b
                  case hy12b => (intro w hSw; (try dsimp only at hSw); go_simp; try with_reducible rfl)
                  try simp only [Act.put, List.setIfInBounds_toArray, List.set_cons_zero, List.set_cons_succ, List.getElem_toArray, List.getElem_cons_zero, List.getElem_cons_succ]

                  have HTk : Hid (Wl w wk Qg bd bl (2 + 2100 * j + 2100) s' l') := HTj.out.keep0 HBk.out
                  have HKk : Hid (∀ k, Qg k → wk.heap[k]? = wi.heap[k]?) := fun k hk => (HBk.out.block k (Nat.lt_of_lt_of_le (HLi.out k hk) HBj.out.size)).trans (HBj.out.block k (HLi.out k hk))
                  have KSn : Hid (Calls Try.prog 9 #[.pointer (some ⟨bl, 0, none⟩)] wk fun e w' => e = .returned (.int .i64 15) ∧ Wl w w' Qg bd bl (2 + 2100 * j + 2100 + 2100) s' l' ∧ ∀ k, Qg k → w'.heap[k]? = wk.heap[k]?) := by
                    have k := wl_sync HTk.out (fit16 HLh2.out.1 HTk.out.ok.ar HLh2.out.2) (by omega)
                    rw [sync_lost HLh.out.1] at k
                    exact k
                  refine wpAnyH_ready (rs := [13]) (by kernel_rfl) (by simp) ?_
                  refine AllReadyH.cons rfl (fun K hK => ?_) AllReadyH.nil
                  go_simp; refine KSn.out.mono ?_; rintro e wm ⟨rfl, hTm, hkm⟩; have HTm : Hid (Wl w wm Qg bd bl (2 + 2100 * j + 2100 + 2100) s' l') := hTm; have HKm : Hid (∀ k, Qg k → wm.heap[k]? = wi.heap[k]?) := fun k hk => (hkm k hk).trans (HKk.out k hk); clear hTm hkm; go_wp2_with fail
                  refine hK.out _ _ ?hS13b (fun hHeld => ?rest13b)
                  case hS13b => exact HSi.out _ (HKm.out bx HQb.out.1)
                  clear hK K
                  try simp only [Act.put, List.setIfInBounds_toArray, List.set_cons_zero, List.set_cons_succ, List.getElem_toArray, List.getElem_cons_zero, List.getElem_cons_succ]
                  refine wpAnyH_take (i := 14) (v := .bool true) rfl (by kernel_rfl) (by kernel_rfl) (by kernel_rfl) (fun _ _ _ h => h) (Or.inl ⟨by kernel_rfl, ?hy14b⟩) hHeld ?rest14b
                  case hy14b => (intro w hSw; (try dsimp only at hSw); go_simp; try with_reducible rfl)
                  try simp only [Act.put, List.setIfInBounds_toArray, List.set_cons_zero, List.set_cons_succ, List.getElem_toArray, List.getElem_cons_zero, List.getElem_cons_succ]
                  refine wpAnyH_take (i := 15) (v := .bool true) rfl (by kernel_rfl) (by kernel_rfl) (by kernel_rfl) (fun _ _ _ h => h) (Or.inl ⟨by kernel_rfl, ?hy15b⟩) hHeld ?rest15b
                  case hy15b => (intro w hSw; (try dsimp only at hSw); go_simp; try with_reducible rfl)
                  try simp only [Act.put, List.setIfInBounds_toArray, List.set_cons_zero, List.set_cons_succ, List.getElem_toArray, List.getElem_cons_zero, List.getElem_cons_succ]
                  refine wpAnyH_take (i := 16) (v := .bool true) rfl (by kernel_rfl) (by kernel_rfl) (by kernel_rfl) (fun _ _ _ h => h) (Or.inl ⟨by kernel_rfl, ?hy16b⟩) hHeld ?rest16b
                  case hy16b => (intro w hSw; (try dsimp only at hSw); go_simp; try with_reducible rfl)
                  try simp only [Act.put, List.setIfInBounds_toArray, List.set_cons_zero, List.set_cons_succ, List.getElem_toArray, List.getElem_cons_zero, List.getElem_cons_succ]
                  refine wpAnyH_take (i := 17) (v := .pointer (some ⟨bl, 0, none⟩)) rfl (by kernel_rfl) (by kernel_rfl) (by kernel_rfl) (fun _ _ _ h => h) (Or.inl ⟨by kernel_rfl, ?hy17b⟩) hHeld ?rest17b
                  case hy17b => (intro w hSw; (try dsimp only at hSw); go_simp; try with_reducible rfl)
                  try simp only [Act.put, List.setIfInBounds_toArray, List.set_cons_zero, List.set_cons_succ, List.getElem_toArray, List.getElem_cons_zero, List.getElem_cons_succ]

                  have KAn : Hid (Calls Try.prog 8 #[.pointer (some ⟨bl, 0, none⟩), .string ⟨#[]⟩] wm fun e w' => e = .returned (.int .i64 15) ∧ Wl w w' Qg bd bl (2 + 2100 * j + 2100 + 2100) s' l' ∧ ∀ k, Qg k → w'.heap[k]? = wm.heap[k]?) := by
                    have k := wl_add HTm.out [] (bytes_of_mem fun x hx => by cases hx)
                    rw [add_lost HLh.out.1] at k
                    exact k
                  refine wpAnyH_ready (rs := [18]) (by kernel_rfl) (by simp) ?_
                  refine AllReadyH.cons rfl (fun K hK => ?_) AllReadyH.nil
                  go_simp; refine KAn.out.mono ?_; rintro e wn ⟨rfl, hTn, hkn⟩; have HTn : Hid (Wl w wn Qg bd bl (2 + 2100 * j + 2100 + 2100) s' l') := hTn; have HKn : Hid (∀ k, Qg k → wn.heap[k]? = wi.heap[k]?) := fun k hk => (hkn k hk).trans (HKm.out k hk); clear hTn hkn; go_wp2_with fail
                  refine hK.out _ _ ?hS18b (fun hHeld => ?rest18b)
                  case hS18b => exact HSi.out _ (HKn.out bx HQb.out.1)
                  clear hK K
                  try simp only [Act.put, List.setIfInBounds_toArray, List.set_cons_zero, List.set_cons_succ, List.getElem_toArray, List.getElem_cons_zero, List.getElem_cons_succ]
                  refine wpAnyH_take (i := 19) (v := .bool true) rfl (by kernel_rfl) (by kernel_rfl) (by kernel_rfl) (fun _ _ _ h => h) (Or.inl ⟨by kernel_rfl, ?hy19b⟩) hHeld ?rest19b
                  case hy19b => (intro w hSw; (try dsimp only at hSw); go_simp; try with_reducible rfl)
                  try simp only [Act.put, List.setIfInBounds_toArray, List.set_cons_zero, List.set_cons_succ, List.getElem_toArray, List.getElem_cons_zero, List.getElem_cons_succ]
                  refine wpAnyH_take (i := 20) (v := .bool true) rfl (by kernel_rfl) (by kernel_rfl) (by kernel_rfl) (fun _ _ _ h => h) (Or.inl ⟨by kernel_rfl, ?hy20b⟩) hHeld ?rest20b
                  case hy20b => (intro w hSw; (try dsimp only at hSw); go_simp; try with_reducible rfl)
                  try simp only [Act.put, List.setIfInBounds_toArray, List.set_cons_zero, List.set_cons_succ, List.getElem_toArray, List.getElem_cons_zero, List.getElem_cons_succ]

                  have HYn : Hid (wn.heap[h0]? = some (.cells #[.pointer none, .slice none 0 0, .slice none 0 0] 49)) := (HKn.out h0 HQb.out.2).trans HYi.out
                  refine wpAnyH_ready (rs := [21]) (by kernel_rfl) (by simp) ?_
                  refine AllReadyH.cons rfl (fun K hK => ?_) AllReadyH.nil
                  refine wp_store_row 49 (.tmp 4) (.tmp 120) rfl h0 #[.pointer (some ⟨bd, 0, none⟩), .slice ah qh ch, .slice av qv cv] rfl rfl 49 _ HYn.out size3R rfl (rc_one _ _ _ _ _ _ _) ?_
                  refine hK.out _ _ ?hS21b (fun hHeld => ?rest21b)
                  case hS21b => exact HSi.out _ ((setRow_other wn _ _ _ PB.out.1).trans (HKn.out bx HQb.out.1))
                  clear hK K
                  try simp only [Act.put, List.setIfInBounds_toArray, List.set_cons_zero, List.set_cons_succ, List.getElem_toArray, List.getElem_cons_zero, List.getElem_cons_succ]
                  refine wpAnyH_take (i := 22) (v := .bool true) rfl (by kernel_rfl) (by kernel_rfl) (by kernel_rfl) (fun _ _ _ h => h) (Or.inl ⟨by kernel_rfl, ?hy22b⟩) hHeld ?rest22b
                  case hy22b => (intro w hSw; (try dsimp only at hSw); go_simp; try with_reducible rfl)
                  try simp only [Act.put, List.setIfInBounds_toArray, List.set_cons_zero, List.set_cons_succ, List.getElem_toArray, List.getElem_cons_zero, List.getElem_cons_succ]
                  refine wpAnyH_done (by kernel_rfl) ?_ _
                  refine NoPanic.normal ?_

                  go_wp2_with fail
                  refine bodyPost_ret (results_run (p := 4) (q := 5) rfl _ _ h0 #[.pointer (some ⟨bd, 0, none⟩), .slice ah qh ch, .slice av qv cv] rfl rfl (.bool true) rfl (setRow_heap wn _ _ _ _ _ HYn.out)) rfl ?_
                  have hg := grown_setRow wn h0 #[.pointer (some ⟨bd, 0, none⟩), .slice ah qh ch, .slice av qv cv]
                  have ho : ∀ k, Of Qg bx h0 k → (wn.setRow h0 #[.pointer (some ⟨bd, 0, none⟩), .slice ah qh ch, .slice av qv cv]).heap[k]? = wi.heap[k]? := fun k hk => (setRow_other wn _ _ _ hk.2.2).trans (HKn.out k hk.1)
                  exact ⟨Qg, bd, 2 + 2100 * j + 2100 + 2100, s', ah, qh, ch, av, qv, cv, rfl, by omega, l'.R, LW, HTn.out.disk.grown0 hg (fun k e => by cases e; exact ⟨HQb.out.2, PB.out.2.2⟩), HRi.out.kept ho (fun k hk => hk.1), HVi.out.kept ho (fun k hk => hk.1), fun keep => by rw [HLh.out.2.1]; exact HAf.out keep⟩
            · have k1 : (vk == 1) = false := by rw [beq_eq_false_iff_ne]; exact hk1
              have t0 : (1 : Int) ≤ ((qt : Nat) : Int) + 1 := by omega
              have t1 : ((qt + 1 : Nat) : Int) ≤ (c8 : Int) := by omega
              obtain ⟨cv, hcv⟩ : ∃ c, c8 - 1 = c := ⟨_, rfl⟩
              have HCQ : Hid (qt + 1 ≤ c8) := hl8
              have HLt8 : Hid (∀ k, Q8 k → k < w8.heap.size) := fun k hk => by obtain ⟨F, G, _, _, _, _, _, pp⟩ := HT8.out.ex; exact (pp k hk).1
              obtain ⟨c, l', s', hre, hor⟩ := reset_any (n := 16) HG.out.1 (by have := HG.out.2.2.2; omega) Yt HYt.out
              have HRe : Hid (l.reset s Yt = (c, l', s')) := hre
              clear hre hqw hwn c8s
              have HB8x : Hid (b8 ≠ bx ∧ b8 ≠ h0) := by
                have h9 := HOx.out
                have h11 := HO8.out
                exact ⟨by omega, by omega⟩
              by_cases hc1 : c8 = 1
              · skip
                subst hc1
                obtain rfl : qt = 0 := by omega
                go_wp2_with fail
                obtain ⟨av, hav⟩ : ∃ a, some (⟨b8, 0, none⟩ : Addr) = a := ⟨_, rfl⟩
                rw [show (some (⟨b8, 0, none⟩ : Addr)) = av from hav]
                have hcv0 : cv = 0 := by omega
                subst hcv0
                have HVg : Hid (TxP w8 (Of Q8 bx h0) av 0 0 Yt) := by
                  have z1 := HQt.out
                  have z2 := HCQ.out
                  refine ⟨?_, z1.1, by omega, fun h => (by rw [h] at hav; cases hav), fun x hx hne => ?_, HYt.out⟩
                  · rw [← hav]
                    exact .inl (List.length_eq_zero_iff.1 z1.1)
                  · rw [← hav] at hx
                    obtain rfl := Option.some.inj hx
                    exact ⟨HQ8.out.2.2.1, fun e => HB8x.out.1 e, fun e => HB8x.out.2 e⟩
                have KSy : Hid (Calls Try.prog 10 #[.pointer (some ⟨bl, 0, none⟩), .slice av 0 0] w8 fun e w' => e = .returned (.int .i64 c) ∧ Wl w w' Q8 bd bl (2 + 2100 * j + 2100) s' l' ∧ ∀ k, Q8 k → w'.heap[k]? = w8.heap[k]?) := by
                  have k := wl_reset HT8.out (by omega) av 0 0 Yt HVg.out.2.1 (by have := HVg.out.2.2.1; omega) HVg.out.1 HVg.out.2.2.2.1 HYt.out (fun x hx hne => .inl (HVg.out.2.2.2.2.1 x hx hne).1)
                  rw [HRe.out] at k
                  exact k
                have HKg : Hid (∀ k, Q8 k → w8.heap[k]? = w8.heap[k]?) := fun k hk => rfl
                have HQg : Hid (∀ k, Q8 k → Q8 k) := fun k hk => hk
                clear d0 d1 d2 c8k hav hcv
                rcases hor with ⟨rfl, hR', hW', g', hD', hno', hm'⟩ | ⟨rfl, hl', hu', hlen', haft⟩ | ⟨hc, hl', hs'⟩
                · skip
                  have HGh : Hid (Gu s' l' ∧ s'.D.length = 16 ∧ l'.m = 7 ∧ l'.no ≤ 1 + (j + 1) ∧ l'.W = []) := ⟨g', hD'.trans HG.out.2.1, hm'.trans HG.out.2.2.1, by have := HG.out.2.2.2; omega, hW'⟩
                  have HVg2 : Hid (TxP w8 (Of Q8 bx h0) av 0 0 l'.R) := by rw [hR']; exact HVg.out
                  clear g' hD' hno' hm' hW' hR'
                  refine KSy.out.mono ?_
                  rintro e wh ⟨rfl, hTh, hkh⟩
                  have HTh : Hid (Wl w wh Q8 bd bl (2 + 2100 * j + 2100) s' l') := hTh
                  have HKh : Hid (∀ k, Q8 k → wh.heap[k]? = w8.heap[k]?) := hkh
                  have HXh : Hid (wh.heap[bx]? = some (.cells #[.pointer (some ⟨bd, 0, none⟩), .slice ah qh ch, .slice none 0 0] 49)) := (hkh bx (HQg.out _ HQ8.out.1)).trans ((HKg.out bx HQ8.out.1).trans HX8.out)
                  have HYh : Hid (wh.heap[h0]? = some (.cells #[.pointer none, .slice none 0 0, .slice none 0 0] 49)) := (hkh h0 (HQg.out _ HQ8.out.2.1)).trans ((HKg.out h0 HQ8.out.2.1).trans HY8.out)
                  clear hTh hkh
                  have HVh : Hid (TxP wh (Of Q8 bx h0) av 0 0 l'.R) := HVg2.out.kept (fun k hk => HKh.out k hk.1) (fun _ h => h)
                  have e0h : wh.cell? ⟨bx, 0, none⟩ = some (.pointer (some ⟨bd, 0, none⟩)) := by rw [cell_of_row wh bx _ _ _ (0, 0) HXh.out]; rfl
                  have e1h : wh.cell? ⟨bx, 1, none⟩ = some (.slice ah qh ch) := by rw [cell_of_row wh bx _ _ _ (0, 0) HXh.out]; rfl
                  have e2h : wh.cell? ⟨bx, 2, none⟩ = some (.slice none 0 0) := by rw [cell_of_row wh bx _ _ _ (0, 0) HXh.out]; rfl
                  have hfz : wh.frozen? ⟨bx, 1, none⟩ = false := by rw [World.frozen?, HXh.out]; rfl
                  go_wp2_with fail
                  obtain ⟨wi, hwi⟩ : ∃ wi, wh.setCell ⟨bx, 1, none⟩ (.slice av 0 0) = wi := ⟨_, rfl⟩
                  rw [show World.setCell wh _ _ = wi from hwi]
                  have HXi : Hid (wi.heap[bx]? = some (.cells #[.pointer (some ⟨bd, 0, none⟩), .slice av 0 0, .slice none 0 0] 49)) := by rw [← hwi]; exact box_set _ HXh.out
                  have HYi : Hid (wi.heap[h0]? = some (.cells #[.pointer none, .slice none 0 0, .slice none 0 0] 49)) := by rw [← hwi]; exact (set_off _ _ _ _ _ PB.out.1.symm).trans HYh.out
                  have HTi : Hid (Wl w wi Q8 bd bl (2 + 2100 * j + 2100) s' l') := by rw [← hwi]; exact HTh.out.grown0 (grown_setCell wh bx 1 _) (fun k e => by obtain rfl := Option.some.inj e; exact ⟨HQg.out _ HQ8.out.1, PB.out.2.1⟩)
                  have HVi : Hid (TxP wi (Of Q8 bx h0) av 0 0 l'.R) := HVh.out.kept (fun k hk => by rw [← hwi]; exact set_off _ _ _ _ _ hk.2.1) (fun _ h => h)
                  have HSi : Hid (∀ W : World, W.heap[bx]? = wi.heap[bx]? → W.cell? ⟨bx, 1, none⟩ = some (.slice av 0 0)) := fun W hW => by rw [cell_of_row W bx _ _ _ (0, 0) (hW.trans HXi.out)]; rfl
                  have HTd : Hid (Wl w wi.drew Q8 bd bl (2 + 2100 * j + 2100) s' l') := HTi.out.keep0 (below_drewN (Below.refl _ _) 1)
                  have KRec : Hid (Calls Try.prog 11 #[.pointer (some ⟨bl, 0, none⟩)] wi.drew fun e w' => ∃ v, e = .returned v ∧ RowsS w' wi.drew.heap.size v l'.R ∧ Below wi.drew.heap.size wi.drew w') := wl_records HTd.out
                  have HVd : Hid (TxP wi.drew (Of Q8 bx h0) av 0 0 l'.R) := HVi.out.kept (fun k hk => rfl) (fun _ h => h)
                  clear hwi e0h e1h e2h hfz
                  refine wp_region_noPanic ?_
                  refine wp_region_held_drew (S := (fun W : World => W.cell? ⟨bx, 1, none⟩ = some (.slice av 0 0))) (by kernel_rfl) ?hSac0 (fun hHeld => ?restac0)
                  case hSac0 => exact HSi.out _ rfl
                  case restac0 =>
                    refine wpAnyH_take (i := 0) (v := .pointer (some ⟨bl, 0, none⟩)) rfl (by kernel_rfl) (by kernel_rfl) (by kernel_rfl) (fun _ _ _ h => h) (Or.inl ⟨by kernel_rfl, ?hy0c0⟩) hHeld ?rest0c0
                    case hy0c0 => (intro w hSw; (try dsimp only at hSw); go_simp; try with_reducible rfl)
                    try simp only [Act.put, List.setIfInBounds_toArray, List.set_cons_zero, List.set_cons_succ, List.getElem_toArray, List.getElem_cons_zero]
                    refine wpAnyH_take (i := 2) (v := .pointer (some ⟨bx, 1, none⟩)) rfl (by kernel_rfl) (by kernel_rfl) (by kernel_rfl) (fun _ _ _ h => h) (Or.inl ⟨by kernel_rfl, ?hy2c0⟩) hHeld ?rest2c0
                    case hy2c0 => (intro w hSw; (try dsimp only at hSw); go_simp; try with_reducible rfl)
                    try simp only [Act.put, List.setIfInBounds_toArray, List.set_cons_zero, List.set_cons_succ, List.getElem_toArray, List.getElem_cons_zero, List.getElem_cons_succ]
                    refine wpAnyH_take (i := 3) (v := .slice av 0 0) rfl (by kernel_rfl) (by kernel_rfl) (by kernel_rfl) (fun _ _ _ h => h) (Or.inl ⟨by kernel_rfl, ?hy3c0⟩) hHeld ?rest3c0
                    case hy3c0 => (intro w hSw; (try dsimp only at hSw); go_simp; try with_reducible rfl)
                    try simp only [Act.put, List.setIfInBounds_toArray, List.set_cons_zero, List.set_cons_succ, List.getElem_toArray, List.getElem_cons_zero, List.getElem_cons_succ]
                    refine wpAnyH_ready (rs := [1]) (by kernel_rfl) (by simp) ?_
                    refine AllReadyH.cons rfl (fun K hK => ?_) AllReadyH.nil
                    go_simp; refine KRec.out.mono ?_; rintro e wj ⟨vj, rfl, hrj, hbj⟩; obtain ⟨aj, cj, rfl, _, hij, _, _⟩ := RowsS.slice hrj; have HIj : Hid (InS wj aj l'.R) := hij; have HBj : Hid (Below wi.drew.heap.size wi.drew wj) := hbj; clear hrj hbj hij; go_wp2_with fail
                    refine hK.out _ _ ?hS1c0 (fun hHeld => ?rest1c0)
                    case hS1c0 => exact HSi.out _ (HBj.out.block bx (Array.getElem?_eq_some_iff.1 HXi.out).1)
                    clear hK K
                    try simp only [Act.put, List.setIfInBounds_toArray, List.set_cons_zero, List.set_cons_succ, List.getElem_toArray, List.getElem_cons_zero, List.getElem_cons_succ]

                    have HTj : Hid (Wl w wj Q8 bd bl (2 + 2100 * j + 2100) s' l') := HTd.out.keep0 HBj.out
                    have HLi : Hid (∀ k, Q8 k → k < wi.drew.heap.size) := fun k hk => by obtain ⟨F, G, _, _, _, _, _, pp⟩ := HTd.out.ex; exact (pp k hk).1
                    have HVj : Hid (TxP wj (Of Q8 bx h0) av 0 0 l'.R) := HVd.out.kept (fun k hk => HBj.out.block k (HLi.out k hk.1)) (fun _ h => h)
                    have KSa : Hid (Calls Try.prog 19 #[.slice aj l'.R.length cj, .slice av 0 0] wj fun e w' => e = .returned (.bool true) ∧ Below wj.heap.size wj w') := by
                      have k := wsame_is wj aj av l'.R.length 0 cj 0 l'.R l'.R rfl HVj.out.2.1 (by have h1 := HVj.out.2.1; have h2 := HVj.out.2.2.1; omega) (by have h2 := HVj.out.2.2.1; omega) HIj.out HVj.out.1 HVj.out.2.2.2.2.2 HVj.out.2.2.2.2.2
                      rw [decide_eq_true (rfl : l'.R = l'.R)] at k
                      exact k
                    refine wpAnyH_ready (rs := [4]) (by kernel_rfl) (by simp) ?_
                    refine AllReadyH.cons rfl (fun K hK => ?_) AllReadyH.nil
                    go_simp; refine KSa.out.mono ?_; rintro e wk ⟨rfl, hbk⟩; have HBk : Hid (Below wj.heap.size wj wk) := hbk; clear hbk; go_wp2_with fail
                    refine hK.out _ _ ?hS4c0 (fun hHeld => ?rest4c0)
                    case hS4c0 => exact HSi.out _ ((HBk.out.block bx (Nat.lt_of_lt_of_le (HLi.out _ (HQg.out _ HQ8.out.1)) HBj.out.size)).trans (HBj.out.block bx (HLi.out _ (HQg.out _ HQ8.out.1))))
                    clear hK K
                    try simp only [Act.put, List.setIfInBounds_toArray, List.set_cons_zero, List.set_cons_succ, List.getElem_toArray, List.getElem_cons_zero, List.getElem_cons_succ]
                    refine wpAnyH_take (i := 5) (v := .bool false) rfl (by kernel_rfl) (by kernel_rfl) (by kernel_rfl) (fun _ _ _ h => h) (Or.inl ⟨by kernel_rfl, ?hy5c0⟩) hHeld ?rest5c0
                    case hy5c0 => (intro w hSw; (try dsimp only at hSw); go_simp; try with_reducible rfl)
                    try simp only [Act.put, List.setIfInBounds_toArray, List.set_cons_zero, List.set_cons_succ, List.getElem_toArray, List.getElem_cons_zero, List.getElem_cons_succ]
                    refine wpAnyH_done (by kernel_rfl) ?_ _
                    refine NoPanic.normal ?_

                    have HKk : Hid (∀ k, Q8 k → wk.heap[k]? = wi.heap[k]?) := fun k hk => (HBk.out.block k (Nat.lt_of_lt_of_le (HLi.out k hk) HBj.out.size)).trans (HBj.out.block k (HLi.out k hk))
                    go_wp2_with fail
                    go_roundg (40 - (j + 1))
                    case measure => omega
                    case rel => exact ⟨j + 1, Q8, l', s', av, 0, 0, by omega, rfl, by go_num, ⟨HGh.out.1, HGh.out.2.1, HGh.out.2.2.1, HGh.out.2.2.2.1⟩, (HTj.out.keep0 HBk.out).more (by omega), ⟨HQg.out _ HQ8.out.1, HQg.out _ HQ8.out.2.1⟩, (HKk.out _ (HQg.out _ HQ8.out.1)).trans HXi.out, (HKk.out _ (HQg.out _ HQ8.out.2.1)).trans HYi.out, HVi.out.kept (fun k hk => HKk.out k hk.1) (fun _ h => h), by rw [HGh.out.2.2.2.2]; exact RowsS.nil _ _, fun k hk => by cases hk⟩
                · skip
                  have HLh : Hid (l'.lost = true ∧ l'.R = l.R ∧ s'.up = false) := by rw [hl']; exact ⟨rfl, rfl, hu'⟩
                  have HLh2 : Hid (l'.m = 7 ∧ s'.D.length = 16) := ⟨by rw [hl']; exact HG.out.2.2.1, hlen'.trans HG.out.2.1⟩
                  obtain ⟨LW, hLW⟩ : ∃ L, L = Yt := ⟨_, rfl⟩
                  have HVg2 : Hid (TxP w8 (Of Q8 bx h0) av 0 0 LW) := by rw [hLW]; exact HVg.out
                  have HAf : Hid (∀ keep, Aft 16 (s'.cr keep) l.R LW) := by rw [hLW]; exact haft
                  clear hl' hu' haft hLW hlen'
                  refine KSy.out.mono ?_
                  rintro e wh ⟨rfl, hTh, hkh⟩
                  have HTh : Hid (Wl w wh Q8 bd bl (2 + 2100 * j + 2100) s' l') := hTh
                  have HKh : Hid (∀ k, Q8 k → wh.heap[k]? = w8.heap[k]?) := hkh
                  have HXh : Hid (wh.heap[bx]? = some (.cells #[.pointer (some ⟨bd, 0, none⟩), .slice ah qh ch, .slice none 0 0] 49)) := (hkh bx (HQg.out _ HQ8.out.1)).trans ((HKg.out bx HQ8.out.1).trans HX8.out)
                  have HYh : Hid (wh.heap[h0]? = some (.cells #[.pointer none, .slice none 0 0, .slice none 0 0] 49)) := (hkh h0 (HQg.out _ HQ8.out.2.1)).trans ((HKg.out h0 HQ8.out.2.1).trans HY8.out)
                  clear hTh hkh
                  have HVh : Hid (TxP wh (Of Q8 bx h0) av 0 0 LW) := HVg2.out.kept (fun k hk => HKh.out k hk.1) (fun _ h => h)
                  have HRh : Hid (TxP wh (Of Q8 bx h0) ah qh ch l'.R) := by rw [HLh.out.2.1]; exact HRl8.out.kept (fun k hk => (HKh.out k (HQg.out k hk.1)).trans (HKg.out k hk.1)) (fun k hk => ⟨HQg.out k hk.1, hk.2⟩)
                  have e0h : wh.cell? ⟨bx, 0, none⟩ = some (.pointer (some ⟨bd, 0, none⟩)) := by rw [cell_of_row wh bx _ _ _ (0, 0) HXh.out]; rfl
                  have e1h : wh.cell? ⟨bx, 1, none⟩ = some (.slice ah qh ch) := by rw [cell_of_row wh bx _ _ _ (0, 0) HXh.out]; rfl
                  have e2h : wh.cell? ⟨bx, 2, none⟩ = some (.slice none 0 0) := by rw [cell_of_row wh bx _ _ _ (0, 0) HXh.out]; rfl
                  have hfz : wh.frozen? ⟨bx, 2, none⟩ = false := by rw [World.frozen?, HXh.out]; rfl
                  go_wp2_with fail
                  obtain ⟨wi, hwi⟩ : ∃ wi, wh.setCell ⟨bx, 2, none⟩ (.slice av 0 0) = wi := ⟨_, rfl⟩
                  rw [show World.setCell wh _ _ = wi from hwi]
                  have HXi : Hid (wi.heap[bx]? = some (.cells #[.pointer (some ⟨bd, 0, none⟩), .slice ah qh ch, .slice av 0 0] 49)) := by rw [← hwi]; exact box_set _ HXh.out
                  have HYi : Hid (wi.heap[h0]? = some (.cells #[.pointer none, .slice none 0 0, .slice none 0 0] 49)) := by rw [← hwi]; exact (set_off _ _ _ _ _ PB.out.1.symm).trans HYh.out
                  have HTi : Hid (Wl w wi Q8 bd bl (2 + 2100 * j + 2100) s' l') := by rw [← hwi]; exact HTh.out.grown0 (grown_setCell wh bx 2 _) (fun k e => by obtain rfl := Option.some.inj e; exact ⟨HQg.out _ HQ8.out.1, PB.out.2.1⟩)
                  have HVi : Hid (TxP wi (Of Q8 bx h0) av 0 0 LW) := HVh.out.kept (fun k hk => by rw [← hwi]; exact set_off _ _ _ _ _ hk.2.1) (fun _ h => h)
                  have HRi : Hid (TxP wi (Of Q8 bx h0) ah qh ch l'.R) := HRh.out.kept (fun k hk => by rw [← hwi]; exact set_off _ _ _ _ _ hk.2.1) (fun _ h => h)
                  have HSi : Hid (∀ W : World, W.heap[bx]? = wi.heap[bx]? → W.cell? ⟨bx, 0, none⟩ = some (.pointer (some ⟨bd, 0, none⟩)) ∧ W.cell? ⟨bx, 1, none⟩ = some (.slice ah qh ch) ∧ W.cell? ⟨bx, 2, none⟩ = some (.slice av 0 0)) := fun W hW => by
                    have hx := hW.trans HXi.out
                    refine ⟨?_, ?_, ?_⟩ <;> (rw [cell_of_row W bx _ _ _ (0, 0) hx]; rfl)
                  have HTd : Hid (Wl w wi.drew Q8 bd bl (2 + 2100 * j + 2100) s' l') := HTi.out.keep0 (below_drewN (Below.refl _ _) 1)
                  have HRd : Hid (TxP wi.drew (Of Q8 bx h0) ah qh ch l'.R) := HRi.out.kept (fun k hk => rfl) (fun _ h => h)
                  have HQb : Hid (Q8 bx ∧ Q8 h0) := ⟨HQg.out _ HQ8.out.1, HQg.out _ HQ8.out.2.1⟩
                  have KRec : Hid (Calls Try.prog 11 #[.pointer (some ⟨bl, 0, none⟩)] wi.drew fun e w' => ∃ v, e = .returned v ∧ RowsS w' wi.drew.heap.size v l'.R ∧ Below wi.drew.heap.size wi.drew w') := wl_records HTd.out
                  clear hwi e0h e1h e2h hfz
                  refine wp_region_noPanic ?_
                  refine wp_region_held_drew (S := (fun W : World => W.cell? ⟨bx, 0, none⟩ = some (.pointer (some ⟨bd, 0, none⟩)) ∧ W.cell? ⟨bx, 1, none⟩ = some (.slice ah qh ch) ∧ W.cell? ⟨bx, 2, none⟩ = some (.slice av 0 0))) (by kernel_rfl) ?hSad0 (fun hHeld => ?restad0)
                  case hSad0 => exact HSi.out _ rfl
                  case restad0 =>
                    refine wpAnyH_take (i := 0) (v := .agg #[.pointer (some ⟨bd, 0, none⟩), .slice ah qh ch, .slice av 0 0]) rfl (by kernel_rfl) (by kernel_rfl) (by kernel_rfl) (fun _ _ _ h => h) (Or.inl ⟨by kernel_rfl, ?hy0d0⟩) hHeld ?rest0d0
                    case hy0d0 => (intro w hSw; (try dsimp only at hSw); go_simp; try with_reducible rfl)
                    try simp only [Act.put, List.setIfInBounds_toArray, List.set_cons_zero, List.set_cons_succ, List.getElem_toArray, List.getElem_cons_zero]
                    refine wpAnyH_take (i := 1) (v := .pointer (some ⟨bd, 0, none⟩)) rfl (by kernel_rfl) (by kernel_rfl) (by kernel_rfl) (fun _ _ _ h => h) (Or.inl ⟨by kernel_rfl, ?hy1d0⟩) hHeld ?rest1d0
                    case hy1d0 => (intro w hSw; (try dsimp only at hSw); go_simp; try with_reducible rfl)
                    try simp only [Act.put, List.setIfInBounds_toArray, List.set_cons_zero, List.set_cons_succ, List.getElem_toArray, List.getElem_cons_zero, List.getElem_cons_succ]
                    refine wpAnyH_ready (rs := [2]) (by kernel_rfl) (by simp) ?_
                    refine AllReadyH.cons rfl (fun K hK => ?_) AllReadyH.nil
                    go_simp; refine (wd_up HTd.out.disk).mono ?_; rintro e w' ⟨rfl, hw⟩; obtain rfl := hw.symm; clear hw; rw [HLh.out.2.2]; go_wp2_with fail
                    refine hK.out _ _ ?hS2d0 (fun hHeld => ?rest2d0)
                    case hS2d0 => exact HSi.out _ rfl
                    clear hK K
                    try simp only [Act.put, List.setIfInBounds_toArray, List.set_cons_zero, List.set_cons_succ, List.getElem_toArray, List.getElem_cons_zero, List.getElem_cons_succ]
                    refine wpAnyH_take (i := 3) (v := .bool true) rfl (by kernel_rfl) (by kernel_rfl) (by kernel_rfl) (fun _ _ _ h => h) (Or.inl ⟨by kernel_rfl, ?hy3d0⟩) hHeld ?rest3d0
                    case hy3d0 => (intro w hSw; (try dsimp only at hSw); go_simp; try with_reducible rfl)
                    try simp only [Act.put, List.setIfInBounds_toArray, List.set_cons_zero, List.set_cons_succ, List.getElem_toArray, List.getElem_cons_zero, List.getElem_cons_succ]
                    refine wpAnyH_take (i := 4) (v := .bool true) rfl (by kernel_rfl) (by kernel_rfl) (by kernel_rfl) (fun _ _ _ h => h) (Or.inl ⟨by kernel_rfl, ?hy4d0⟩) hHeld ?rest4d0
                    case hy4d0 => (intro w hSw; (try dsimp only at hSw); go_simp; try with_reducible rfl)
                    try simp only [Act.put, List.setIfInBounds_toArray, List.set_cons_zero, List.set_cons_succ, List.getElem_toArray, List.getElem_cons_zero, List.getElem_cons_succ]
                    refine wpAnyH_take (i := 5) (v := .pointer (some ⟨bl, 0, none⟩)) rfl (by kernel_rfl) (by kernel_rfl) (by kernel_rfl) (fun _ _ _ h => h) (Or.inl ⟨by kernel_rfl, ?hy5d0⟩) hHeld ?rest5d0
                    case hy5d0 => (intro w hSw; (try dsimp only at hSw); go_simp; try with_reducible rfl)
                    try simp only [Act.put, List.setIfInBounds_toArray, List.set_cons_zero, List.set_cons_succ, List.getElem_toArray, List.getElem_cons_zero, List.getElem_cons_succ]
                    refine wpAnyH_take (i := 7) (v := .pointer (some ⟨bx, 1, none⟩)) rfl (by kernel_rfl) (by kernel_rfl) (by kernel_rfl) (fun _ _ _ h => h) (Or.inl ⟨by kernel_rfl, ?hy7d0⟩) hHeld ?rest7d0
                    case hy7d0 => (intro w hSw; (try dsimp only at hSw); go_simp; try with_reducible rfl)
                    try simp only [Act.put, List.setIfInBounds_toArray, List.set_cons_zero, List.set_cons_succ, List.getElem_toArray, List.getElem_cons_zero, List.getElem_cons_succ]
                    refine wpAnyH_take (i := 8) (v := .slice ah qh ch) rfl (by kernel_rfl) (by kernel_rfl) (by kernel_rfl) (fun _ _ _ h => h) (Or.inl ⟨by kernel_rfl, ?hy8d0⟩) hHeld ?rest8d0
                    case hy8d0 => (intro w hSw; (try dsimp only at hSw); go_simp; try with_reducible rfl)
                    try simp only [Act.put, List.setIfInBounds_toArray, List.set_cons_zero, List.set_cons_succ, List.getElem_toArray, List.getElem_cons_zero, List.getElem_cons_succ]
                    refine wpAnyH_ready (rs := [6]) (by kernel_rfl) (by simp) ?_
                    refine AllReadyH.cons rfl (fun K hK => ?_) AllReadyH.nil
                    go_simp; refine KRec.out.mono ?_; rintro e wj ⟨vj, rfl, hrj, hbj⟩; obtain ⟨aj, cj, rfl, _, hij, _, _⟩ := RowsS.slice hrj; have HIj : Hid (InS wj aj l'.R) := hij; have HBj : Hid (Below wi.drew.heap.size wi.drew wj) := hbj; clear hrj hbj hij; go_wp2_with fail
                    refine hK.out _ _ ?hS6d0 (fun hHeld => ?rest6d0)
                    case hS6d0 => exact HSi.out _ (HBj.out.block bx (Array.getElem?_eq_some_iff.1 HXi.out).1)
                    clear hK K
                    try simp only [Act.put, List.setIfInBounds_toArray, List.set_cons_zero, List.set_cons_succ, List.getElem_toArray, List.getElem_cons_zero, List.getElem_cons_succ]

                    have HTj : Hid (Wl w wj Q8 bd bl (2 + 2100 * j + 2100) s' l') := HTd.out.keep0 HBj.out
                    have HLi : Hid (∀ k, Q8 k → k < wi.drew.heap.size) := fun k hk => by obtain ⟨F, G, _, _, _, _, _, pp⟩ := HTd.out.ex; exact (pp k hk).1
                    have HRj : Hid (TxP wj (Of Q8 bx h0) ah qh ch l'.R) := HRd.out.kept (fun k hk => HBj.out.block k (HLi.out k hk.1)) (fun _ h => h)
                    have KSa : Hid (Calls Try.prog 19 #[.slice aj l'.R.length cj, .slice ah qh ch] wj fun e w' => e = .returned (.bool true) ∧ Below wj.heap.size wj w') := by
                      have k := wsame_is wj aj ah l'.R.length qh cj ch l'.R l'.R rfl HRj.out.2.1 (by have h1 := HRj.out.2.1; have h2 := HRj.out.2.2.1; omega) (by have h2 := HRj.out.2.2.1; omega) HIj.out HRj.out.1 HRj.out.2.2.2.2.2 HRj.out.2.2.2.2.2
                      rw [decide_eq_true (rfl : l'.R = l'.R)] at k
                      exact k
                    refine wpAnyH_ready (rs := [9]) (by kernel_rfl) (by simp) ?_
                    refine AllReadyH.cons rfl (fun K hK => ?_) AllReadyH.nil
                    go_simp; refine KSa.out.mono ?_; rintro e wk ⟨rfl, hbk⟩; have HBk : Hid (Below wj.heap.size wj wk) := hbk; clear hbk; go_wp2_with fail
                    refine hK.out _ _ ?hS9d0 (fun hHeld => ?rest9d0)
                    case hS9d0 => exact HSi.out _ ((HBk.out.block bx (Nat.lt_of_lt_of_le (HLi.out _ HQb.out.1) HBj.out.size)).trans (HBj.out.block bx (HLi.out _ HQb.out.1)))
                    clear hK K
                    try simp only [Act.put, List.setIfInBounds_toArray, List.set_cons_zero, List.set_cons_succ, List.getElem_toArray, List.getElem_cons_zero, List.getElem_cons_succ]
                    refine wpAnyH_take (i := 10) (v := .bool true) rfl (by kernel_rfl) (by kernel_rfl) (by kernel_rfl) (fun _ _ _ h => h) (Or.inl ⟨by kernel_rfl, ?hy10d0⟩) hHeld ?rest10d0
                    case hy10d0 => (intro w hSw; (try dsimp only at hSw); go_simp; try with_reducible rfl)
                    try simp only [Act.put, List.setIfInBounds_toArray, List.set_cons_zero, List.set_cons_succ, List.getElem_toArray, List.getElem_cons_zero, List.getElem_cons_succ]
                    refine wpAnyH_take (i := 11) (v := .bool true) rfl (by kernel_rfl) (by kernel_rfl) (by kernel_rfl) (fun _ _ _ h => h) (Or.inl ⟨by kernel_rfl, ?hy11d0⟩) hHeld ?rest11d0
                    case hy11d0 => (intro w hSw; (try dsimp only at hSw); go_simp; try with_reducible rfl)
                    try simp only [Act.put, List.setIfInBounds_toArray, List.set_cons_zero, List.set_cons_succ, List.getElem_toArray, List.getElem_cons_zero, List.getElem_cons_succ]
                    refine wpAnyH_take (i := 12) (v := .pointer (some ⟨bl, 0, none⟩)) rfl (by kernel_rfl) (by kernel_rfl) (by kernel_rfl) (fun _ _ _ h => h) (Or.inl ⟨by kernel_rfl, ?hy12d0⟩) hHeld ?rest12d0
                    case hy12d0 => (intro w hSw; (try dsimp only at hSw); go_simp; try with_reducible rfl)
                    try simp only [Act.put, List.setIfInBounds_toArray, List.set_cons_zero, List.set_cons_succ, List.getElem_toArray, List.getElem_cons_zero, List.getElem_cons_succ]

                    have HTk : Hid (Wl w wk Q8 bd bl (2 + 2100 * j + 2100) s' l') := HTj.out.keep0 HBk.out
                    have HKk : Hid (∀ k, Q8 k → wk.heap[k]? = wi.heap[k]?) := fun k hk => (HBk.out.block k (Nat.lt_of_lt_of_le (HLi.out k hk) HBj.out.size)).trans (HBj.out.block k (HLi.out k hk))
                    have KSn : Hid (Calls Try.prog 9 #[.pointer (some ⟨bl, 0, none⟩)] wk fun e w' => e = .returned (.int .i64 15) ∧ Wl w w' Q8 bd bl (2 + 2100 * j + 2100 + 2100) s' l' ∧ ∀ k, Q8 k → w'.heap[k]? = wk.heap[k]?) := by
                      have k := wl_sync HTk.out (fit16 HLh2.out.1 HTk.out.ok.ar HLh2.out.2) (by omega)
                      rw [sync_lost HLh.out.1] at k
                      exact k
                    refine wpAnyH_ready (rs := [13]) (by kernel_rfl) (by simp) ?_
                    refine AllReadyH.cons rfl (fun K hK => ?_) AllReadyH.nil
                    go_simp; refine KSn.out.mono ?_; rintro e wm ⟨rfl, hTm, hkm⟩; have HTm : Hid (Wl w wm Q8 bd bl (2 + 2100 * j + 2100 + 2100) s' l') := hTm; have HKm : Hid (∀ k, Q8 k → wm.heap[k]? = wi.heap[k]?) := fun k hk => (hkm k hk).trans (HKk.out k hk); clear hTm hkm; go_wp2_with fail
                    refine hK.out _ _ ?hS13d0 (fun hHeld => ?rest13d0)
                    case hS13d0 => exact HSi.out _ (HKm.out bx HQb.out.1)
                    clear hK K
                    try simp only [Act.put, List.setIfInBounds_toArray, List.set_cons_zero, List.set_cons_succ, List.getElem_toArray, List.getElem_cons_zero, List.getElem_cons_succ]
                    refine wpAnyH_take (i := 14) (v := .bool true) rfl (by kernel_rfl) (by kernel_rfl) (by kernel_rfl) (fun _ _ _ h => h) (Or.inl ⟨by kernel_rfl, ?hy14d0⟩) hHeld ?rest14d0
                    case hy14d0 => (intro w hSw; (try dsimp only at hSw); go_simp; try with_reducible rfl)
                    try simp only [Act.put, List.setIfInBounds_toArray, List.set_cons_zero, List.set_cons_succ, List.getElem_toArray, List.getElem_cons_zero, List.getElem_cons_succ]
                    refine wpAnyH_take (i := 15) (v := .bool true) rfl (by kernel_rfl) (by kernel_rfl) (by kernel_rfl) (fun _ _ _ h => h) (Or.inl ⟨by kernel_rfl, ?hy15d0⟩) hHeld ?rest15d0
                    case hy15d0 => (intro w hSw; (try dsimp only at hSw); go_simp; try with_reducible rfl)
                    try simp only [Act.put, List.setIfInBounds_toArray, List.set_cons_zero, List.set_cons_succ, List.getElem_toArray, List.getElem_cons_zero, List.getElem_cons_succ]
                    refine wpAnyH_take (i := 16) (v := .bool true) rfl (by kernel_rfl) (by kernel_rfl) (by kernel_rfl) (fun _ _ _ h => h) (Or.inl ⟨by kernel_rfl, ?hy16d0⟩) hHeld ?rest16d0
                    case hy16d0 => (intro w hSw; (try dsimp only at hSw); go_simp; try with_reducible rfl)
                    try simp only [Act.put, List.setIfInBounds_toArray, List.set_cons_zero, List.set_cons_succ, List.getElem_toArray, List.getElem_cons_zero, List.getElem_cons_succ]
                    refine wpAnyH_take (i := 17) (v := .pointer (some ⟨bl, 0, none⟩)) rfl (by kernel_rfl) (by kernel_rfl) (by kernel_rfl) (fun _ _ _ h => h) (Or.inl ⟨by kernel_rfl, ?hy17d0⟩) hHeld ?rest17d0
                    case hy17d0 => (intro w hSw; (try dsimp only at hSw); go_simp; try with_reducible rfl)
                    try simp only [Act.put, List.setIfInBounds_toArray, List.set_cons_zero, List.set_cons_succ, List.getElem_toArray, List.getElem_cons_zero, List.getElem_cons_succ]

                    have KAn : Hid (Calls Try.prog 8 #[.pointer (some ⟨bl, 0, none⟩), .string ⟨#[]⟩] wm fun e w' => e = .returned (.int .i64 15) ∧ Wl w w' Q8 bd bl (2 + 2100 * j + 2100 + 2100) s' l' ∧ ∀ k, Q8 k → w'.heap[k]? = wm.heap[k]?) := by
                      have k := wl_add HTm.out [] (bytes_of_mem fun x hx => by cases hx)
                      rw [add_lost HLh.out.1] at k
                      exact k
                    refine wpAnyH_ready (rs := [18]) (by kernel_rfl) (by simp) ?_
                    refine AllReadyH.cons rfl (fun K hK => ?_) AllReadyH.nil
                    go_simp; refine KAn.out.mono ?_; rintro e wn ⟨rfl, hTn, hkn⟩; have HTn : Hid (Wl w wn Q8 bd bl (2 + 2100 * j + 2100 + 2100) s' l') := hTn; have HKn : Hid (∀ k, Q8 k → wn.heap[k]? = wi.heap[k]?) := fun k hk => (hkn k hk).trans (HKm.out k hk); clear hTn hkn; go_wp2_with fail
                    refine hK.out _ _ ?hS18d0 (fun hHeld => ?rest18d0)
                    case hS18d0 => exact HSi.out _ (HKn.out bx HQb.out.1)
                    clear hK K
                    try simp only [Act.put, List.setIfInBounds_toArray, List.set_cons_zero, List.set_cons_succ, List.getElem_toArray, List.getElem_cons_zero, List.getElem_cons_succ]
                    refine wpAnyH_take (i := 19) (v := .bool true) rfl (by kernel_rfl) (by kernel_rfl) (by kernel_rfl) (fun _ _ _ h => h) (Or.inl ⟨by kernel_rfl, ?hy19d0⟩) hHeld ?rest19d0
                    case hy19d0 => (intro w hSw; (try dsimp only at hSw); go_simp; try with_reducible rfl)
                    try simp only [Act.put, List.setIfInBounds_toArray, List.set_cons_zero, List.set_cons_succ, List.getElem_toArray, List.getElem_cons_zero, List.getElem_cons_succ]
                    refine wpAnyH_take (i := 20) (v := .bool true) rfl (by kernel_rfl) (by kernel_rfl) (by kernel_rfl) (fun _ _ _ h => h) (Or.inl ⟨by kernel_rfl, ?hy20d0⟩) hHeld ?rest20d0
                    case hy20d0 => (intro w hSw; (try dsimp only at hSw); go_simp; try with_reducible rfl)
                    try simp only [Act.put, List.setIfInBounds_toArray, List.set_cons_zero, List.set_cons_succ, List.getElem_toArray, List.getElem_cons_zero, List.getElem_cons_succ]

                    have HYn : Hid (wn.heap[h0]? = some (.cells #[.pointer none, .slice none 0 0, .slice none 0 0] 49)) := (HKn.out h0 HQb.out.2).trans HYi.out
                    refine wpAnyH_ready (rs := [21]) (by kernel_rfl) (by simp) ?_
                    refine AllReadyH.cons rfl (fun K hK => ?_) AllReadyH.nil
                    refine wp_store_row 49 (.tmp 4) (.tmp 120) rfl h0 #[.pointer (some ⟨bd, 0, none⟩), .slice ah qh ch, .slice av 0 0] rfl rfl 49 _ HYn.out size3R rfl (rc_one _ _ _ _ _ _ _) ?_
                    refine hK.out _ _ ?hS21d0 (fun hHeld => ?rest21d0)
                    case hS21d0 => exact HSi.out _ ((setRow_other wn _ _ _ PB.out.1).trans (HKn.out bx HQb.out.1))
                    clear hK K
                    try simp only [Act.put, List.setIfInBounds_toArray, List.set_cons_zero, List.set_cons_succ, List.getElem_toArray, List.getElem_cons_zero, List.getElem_cons_succ]
                    refine wpAnyH_take (i := 22) (v := .bool true) rfl (by kernel_rfl) (by kernel_rfl) (by kernel_rfl) (fun _ _ _ h => h) (Or.inl ⟨by kernel_rfl, ?hy22d0⟩) hHeld ?rest22d0
                    case hy22d0 => (intro w hSw; (try dsimp only at hSw); go_simp; try with_reducible rfl)
                    try simp only [Act.put, List.setIfInBounds_toArray, List.set_cons_zero, List.set_cons_succ, List.getElem_toArray, List.getElem_cons_zero, List.getElem_cons_succ]
                    refine wpAnyH_done (by kernel_rfl) ?_ _
                    refine NoPanic.normal ?_

                    go_wp2_with fail
                    refine bodyPost_ret (results_run (p := 4) (q := 5) rfl _ _ h0 #[.pointer (some ⟨bd, 0, none⟩), .slice ah qh ch, .slice av 0 0] rfl rfl (.bool true) rfl (setRow_heap wn _ _ _ _ _ HYn.out)) rfl ?_
                    have hg := grown_setRow wn h0 #[.pointer (some ⟨bd, 0, none⟩), .slice ah qh ch, .slice av 0 0]
                    have ho : ∀ k, Of Q8 bx h0 k → (wn.setRow h0 #[.pointer (some ⟨bd, 0, none⟩), .slice ah qh ch, .slice av 0 0]).heap[k]? = wi.heap[k]? := fun k hk => (setRow_other wn _ _ _ hk.2.2).trans (HKn.out k hk.1)
                    exact ⟨Q8, bd, 2 + 2100 * j + 2100 + 2100, s', ah, qh, ch, av, 0, 0, rfl, by omega, l'.R, LW, HTn.out.disk.grown0 hg (fun k e => by cases e; exact ⟨HQb.out.2, PB.out.2.2⟩), HRi.out.kept ho (fun k hk => hk.1), HVi.out.kept ho (fun k hk => hk.1), fun keep => by rw [HLh.out.2.1]; exact HAf.out keep⟩
                · have e9a : (c == 0) = false := by rw [beq_eq_false_iff_ne]; rcases hc with rfl | rfl | rfl <;> omega
                  have e9b : (c == 15) = false := by rw [beq_eq_false_iff_ne]; rcases hc with rfl | rfl | rfl <;> omega
                  subst l' s'
                  clear hc
                  refine KSy.out.mono ?_
                  rintro e wh ⟨rfl, hTh, hkh⟩
                  have HTh : Hid (Wl w wh Q8 bd bl (2 + 2100 * j + 2100) s l) := hTh
                  have HKh : Hid (∀ k, Q8 k → wh.heap[k]? = w8.heap[k]?) := hkh
                  have HXh : Hid (wh.heap[bx]? = some (.cells #[.pointer (some ⟨bd, 0, none⟩), .slice ah qh ch, .slice none 0 0] 49)) := (hkh bx (HQg.out _ HQ8.out.1)).trans ((HKg.out bx HQ8.out.1).trans HX8.out)
                  have HYh : Hid (wh.heap[h0]? = some (.cells #[.pointer none, .slice none 0 0, .slice none 0 0] 49)) := (hkh h0 (HQg.out _ HQ8.out.2.1)).trans ((HKg.out h0 HQ8.out.2.1).trans HY8.out)
                  clear hTh hkh
                  go_wp2_with fail
                  go_roundg (40 - (j + 1))
                  case measure => omega
                  case rel => exact ⟨j + 1, Q8, l, s, ah, qh, ch, by omega, rfl, by go_num, ⟨HG.out.1, HG.out.2.1, HG.out.2.2.1, by have := HG.out.2.2.2; omega⟩, HTh.out.more (by omega), ⟨HQ8.out.1, HQ8.out.2.1⟩, HXh.out, HYh.out, HRl8.out.kept (fun k hk => HKh.out k hk.1) (fun _ h => h), HW8.out.1.kept (fun k hk => HKh.out k (HW8.out.2 k hk).1), HW8.out.2⟩
              · skip
                go_wp2_with fail
                obtain ⟨av, hav⟩ : ∃ a, some (⟨b8, 1, none⟩ : Addr) = a := ⟨_, rfl⟩
                rw [show (some (⟨b8, 1, none⟩ : Addr)) = av from hav]
                have HVg : Hid (TxP w8 (Of Q8 bx h0) av qt cv Yt) := by
                  have z1 := HQt.out
                  have z2 := HCQ.out
                  refine ⟨?_, z1.1, by omega, fun h => (by rw [h] at hav; cases hav), fun x hx hne => ?_, HYt.out⟩
                  · rw [← hav]
                    exact InS.tail HI8.out
                  · rw [← hav] at hx
                    obtain rfl := Option.some.inj hx
                    exact ⟨HQ8.out.2.2.1, fun e => HB8x.out.1 e, fun e => HB8x.out.2 e⟩
                have KSy : Hid (Calls Try.prog 10 #[.pointer (some ⟨bl, 0, none⟩), .slice av qt cv] w8 fun e w' => e = .returned (.int .i64 c) ∧ Wl w w' Q8 bd bl (2 + 2100 * j + 2100) s' l' ∧ ∀ k, Q8 k → w'.heap[k]? = w8.heap[k]?) := by
                  have k := wl_reset HT8.out (by omega) av qt cv Yt HVg.out.2.1 (by have := HVg.out.2.2.1; omega) HVg.out.1 HVg.out.2.2.2.1 HYt.out (fun x hx hne => .inl (HVg.out.2.2.2.2.1 x hx hne).1)
                  rw [HRe.out] at k
                  exact k
                have HKg : Hid (∀ k, Q8 k → w8.heap[k]? = w8.heap[k]?) := fun k hk => rfl
                have HQg : Hid (∀ k, Q8 k → Q8 k) := fun k hk => hk
                clear d0 d1 d2 c8k hav hcv
                rcases hor with ⟨rfl, hR', hW', g', hD', hno', hm'⟩ | ⟨rfl, hl', hu', hlen', haft⟩ | ⟨hc, hl', hs'⟩
                · skip
                  have HGh : Hid (Gu s' l' ∧ s'.D.length = 16 ∧ l'.m = 7 ∧ l'.no ≤ 1 + (j + 1) ∧ l'.W = []) := ⟨g', hD'.trans HG.out.2.1, hm'.trans HG.out.2.2.1, by have := HG.out.2.2.2; omega, hW'⟩
                  have HVg2 : Hid (TxP w8 (Of Q8 bx h0) av qt cv l'.R) := by rw [hR']; exact HVg.out
                  clear g' hD' hno' hm' hW' hR'
                  refine KSy.out.mono ?_
                  rintro e wh ⟨rfl, hTh, hkh⟩
                  have HTh : Hid (Wl w wh Q8 bd bl (2 + 2100 * j + 2100) s' l') := hTh
                  have HKh : Hid (∀ k, Q8 k → wh.heap[k]? = w8.heap[k]?) := hkh
                  have HXh : Hid (wh.heap[bx]? = some (.cells #[.pointer (some ⟨bd, 0, none⟩), .slice ah qh ch, .slice none 0 0] 49)) := (hkh bx (HQg.out _ HQ8.out.1)).trans ((HKg.out bx HQ8.out.1).trans HX8.out)
                  have HYh : Hid (wh.heap[h0]? = some (.cells #[.pointer none, .slice none 0 0, .slice none 0 0] 49)) := (hkh h0 (HQg.out _ HQ8.out.2.1)).trans ((HKg.out h0 HQ8.out.2.1).trans HY8.out)
                  clear hTh hkh
                  have HVh : Hid (TxP wh (Of Q8 bx h0) av qt cv l'.R) := HVg2.out.kept (fun k hk => HKh.out k hk.1) (fun _ h => h)
                  have e0h : wh.cell? ⟨bx, 0, none⟩ = some (.pointer (some ⟨bd, 0, none⟩)) := by rw [cell_of_row wh bx _ _ _ (0, 0) HXh.out]; rfl
                  have e1h : wh.cell? ⟨bx, 1, none⟩ = some (.slice ah qh ch) := by rw [cell_of_row wh bx _ _ _ (0, 0) HXh.out]; rfl
                  have e2h : wh.cell? ⟨bx, 2, none⟩ = some (.slice none 0 0) := by rw [cell_of_row wh bx _ _ _ (0, 0) HXh.out]; rfl
                  have hfz : wh.frozen? ⟨bx, 1, none⟩ = false := by rw [World.frozen?, HXh.out]; rfl
                  go_wp2_with fail
                  obtain ⟨wi, hwi⟩ : ∃ wi, wh.setCell ⟨bx, 1, none⟩ (.slice av qt cv) = wi := ⟨_, rfl⟩
                  rw [show World.setCell wh _ _ = wi from hwi]
                  have HXi : Hid (wi.heap[bx]? = some (.cells #[.pointer (some ⟨bd, 0, none⟩), .slice av qt cv, .slice none 0 0] 49)) := by rw [← hwi]; exact box_set _ HXh.out
                  have HYi : Hid (wi.heap[h0]? = some (.cells #[.pointer none, .slice none 0 0, .slice none 0 0] 49)) := by rw [← hwi]; exact (set_off _ _ _ _ _ PB.out.1.symm).trans HYh.out
                  have HTi : Hid (Wl w wi Q8 bd bl (2 + 2100 * j + 2100) s' l') := by rw [← hwi]; exact HTh.out.grown0 (grown_setCell wh bx 1 _) (fun k e => by obtain rfl := Option.some.inj e; exact ⟨HQg.out _ HQ8.out.1, PB.out.2.1⟩)
                  have HVi : Hid (TxP wi (Of Q8 bx h0) av qt cv l'.R) := HVh.out.kept (fun k hk => by rw [← hwi]; exact set_off _ _ _ _ _ hk.2.1) (fun _ h => h)
                  have HSi : Hid (∀ W : World, W.heap[bx]? = wi.heap[bx]? → W.cell? ⟨bx, 1, none⟩ = some (.slice av qt cv)) := fun W hW => by rw [cell_of_row W bx _ _ _ (0, 0) (hW.trans HXi.out)]; rfl
                  have HTd : Hid (Wl w wi.drew Q8 bd bl (2 + 2100 * j + 2100) s' l') := HTi.out.keep0 (below_drewN (Below.refl _ _) 1)
                  have KRec : Hid (Calls Try.prog 11 #[.pointer (some ⟨bl, 0, none⟩)] wi.drew fun e w' => ∃ v, e = .returned v ∧ RowsS w' wi.drew.heap.size v l'.R ∧ Below wi.drew.heap.size wi.drew w') := wl_records HTd.out
                  have HVd : Hid (TxP wi.drew (Of Q8 bx h0) av qt cv l'.R) := HVi.out.kept (fun k hk => rfl) (fun _ h => h)
                  clear hwi e0h e1h e2h hfz
                  refine wp_region_noPanic ?_
                  refine wp_region_held_drew (S := (fun W : World => W.cell? ⟨bx, 1, none⟩ = some (.slice av qt cv))) (by kernel_rfl) ?hSac1 (fun hHeld => ?restac1)
                  case hSac1 => exact HSi.out _ rfl
                  case restac1 =>
                    refine wpAnyH_take (i := 0) (v := .pointer (some ⟨bl, 0, none⟩)) rfl (by kernel_rfl) (by kernel_rfl) (by kernel_rfl) (fun _ _ _ h => h) (Or.inl ⟨by kernel_rfl, ?hy0c1⟩) hHeld ?rest0c1
                    case hy0c1 => (intro w hSw; (try dsimp only at hSw); go_simp; try with_reducible rfl)
                    try simp only [Act.put, List.setIfInBounds_toArray, List.set_cons_zero, List.set_cons_succ, List.getElem_toArray, List.getElem_cons_zero]
                    refine wpAnyH_take (i := 2) (v := .pointer (some ⟨bx, 1, none⟩)) rfl (by kernel_rfl) (by kernel_rfl) (by kernel_rfl) (fun _ _ _ h => h) (Or.inl ⟨by kernel_rfl, ?hy2c1⟩) hHeld ?rest2c1
                    case hy2c1 => (intro w hSw; (try dsimp only at hSw); go_simp; try with_reducible rfl)
                    try simp only [Act.put, List.setIfInBounds_toArray, List.set_cons_zero, List.set_cons_succ, List.getElem_toArray, List.getElem_cons_zero, List.getElem_cons_succ]
                    refine wpAnyH_take (i := 3) (v := .slice av qt cv) rfl (by kernel_rfl) (by kernel_rfl) (by kernel_rfl) (fun _ _ _ h => h) (Or.inl ⟨by kernel_rfl, ?hy3c1⟩) hHeld ?rest3c1
                    case hy3c1 => (intro w hSw; (try dsimp only at hSw); go_simp; try with_reducible rfl)
                    try simp only [Act.put, List.setIfInBounds_toArray, List.set_cons_zero, List.set_cons_succ, List.getElem_toArray, List.getElem_cons_zero, List.getElem_cons_succ]
                    refine wpAnyH_ready (rs := [1]) (by kernel_rfl) (by simp) ?_
                    refine AllReadyH.cons rfl (fun K hK => ?_) AllReadyH.nil
                    go_simp; refine KRec.out.mono ?_; rintro e wj ⟨vj, rfl, hrj, hbj⟩; obtain ⟨aj, cj, rfl, _, hij, _, _⟩ := RowsS.slice hrj; have HIj : Hid (InS wj aj l'.R) := hij; have HBj : Hid (Below wi.drew.heap.size wi.drew wj) := hbj; clear hrj hbj hij; go_wp2_with fail
                    refine hK.out _ _ ?hS1c1 (fun hHeld => ?rest1c1)
                    case hS1c1 => exact HSi.out _ (HBj.out.block bx (Array.getElem?_eq_some_iff.1 HXi.out).1)
                    clear hK K
                    try simp only [Act.put, List.setIfInBounds_toArray, List.set_cons_zero, List.set_cons_succ, List.getElem_toArray, List.getElem_cons_zero, List.getElem_cons_succ]

                    have HTj : Hid (Wl w wj Q8 bd bl (2 + 2100 * j + 2100) s' l') := HTd.out.keep0 HBj.out
                    have HLi : Hid (∀ k, Q8 k → k < wi.drew.heap.size) := fun k hk => by obtain ⟨F, G, _, _, _, _, _, pp⟩ := HTd.out.ex; exact (pp k hk).1
                    have HVj : Hid (TxP wj (Of Q8 bx h0) av qt cv l'.R) := HVd.out.kept (fun k hk => HBj.out.block k (HLi.out k hk.1)) (fun _ h => h)
                    have KSa : Hid (Calls Try.prog 19 #[.slice aj l'.R.length cj, .slice av qt cv] wj fun e w' => e = .returned (.bool true) ∧ Below wj.heap.size wj w') := by
                      have k := wsame_is wj aj av l'.R.length qt cj cv l'.R l'.R rfl HVj.out.2.1 (by have h1 := HVj.out.2.1; have h2 := HVj.out.2.2.1; omega) (by have h2 := HVj.out.2.2.1; omega) HIj.out HVj.out.1 HVj.out.2.2.2.2.2 HVj.out.2.2.2.2.2
                      rw [decide_eq_true (rfl : l'.R = l'.R)] at k
                      exact k
                    refine wpAnyH_ready (rs := [4]) (by kernel_rfl) (by simp) ?_
                    refine AllReadyH.cons rfl (fun K hK => ?_) AllReadyH.nil
                    go_simp; refine KSa.out.mono ?_; rintro e wk ⟨rfl, hbk⟩; have HBk : Hid (Below wj.heap.size wj wk) := hbk; clear hbk; go_wp2_with fail
                    refine hK.out _ _ ?hS4c1 (fun hHeld => ?rest4c1)
                    case hS4c1 => exact HSi.out _ ((HBk.out.block bx (Nat.lt_of_lt_of_le (HLi.out _ (HQg.out _ HQ8.out.1)) HBj.out.size)).trans (HBj.out.block bx (HLi.out _ (HQg.out _ HQ8.out.1))))
                    clear hK K
                    try simp only [Act.put, List.setIfInBounds_toArray, List.set_cons_zero, List.set_cons_succ, List.getElem_toArray, List.getElem_cons_zero, List.getElem_cons_succ]
                    refine wpAnyH_take (i := 5) (v := .bool false) rfl (by kernel_rfl) (by kernel_rfl) (by kernel_rfl) (fun _ _ _ h => h) (Or.inl ⟨by kernel_rfl, ?hy5c1⟩) hHeld ?rest5c1
                    case hy5c1 => (intro w hSw; (try dsimp only at hSw); go_simp; try with_reducible rfl)
                    try simp only [Act.put, List.setIfInBounds_toArray, List.set_cons_zero, List.set_cons_succ, List.getElem_toArray, List.getElem_cons_zero, List.getElem_cons_succ]
                    refine wpAnyH_done (by kernel_rfl) ?_ _
                    refine NoPanic.normal ?_

                    have HKk : Hid (∀ k, Q8 k → wk.heap[k]? = wi.heap[k]?) := fun k hk => (HBk.out.block k (Nat.lt_of_lt_of_le (HLi.out k hk) HBj.out.size)).trans (HBj.out.block k (HLi.out k hk))
                    go_wp2_with fail
                    go_roundg (40 - (j + 1))
                    case measure => omega
                    case rel => exact ⟨j + 1, Q8, l', s', av, qt, cv, by omega, rfl, by go_num, ⟨HGh.out.1, HGh.out.2.1, HGh.out.2.2.1, HGh.out.2.2.2.1⟩, (HTj.out.keep0 HBk.out).more (by omega), ⟨HQg.out _ HQ8.out.1, HQg.out _ HQ8.out.2.1⟩, (HKk.out _ (HQg.out _ HQ8.out.1)).trans HXi.out, (HKk.out _ (HQg.out _ HQ8.out.2.1)).trans HYi.out, HVi.out.kept (fun k hk => HKk.out k hk.1) (fun _ h => h), by rw [HGh.out.2.2.2.2]; exact RowsS.nil _ _, fun k hk => by cases hk⟩
                · skip
                  have HLh : Hid (l'.lost = true ∧ l'.R = l.R ∧ s'.up = false) := by rw [hl']; exact ⟨rfl, rfl, hu'⟩
                  have HLh2 : Hid (l'.m = 7 ∧ s'.D.length = 16) := ⟨by rw [hl']; exact HG.out.2.2.1, hlen'.trans HG.out.2.1⟩
                  obtain ⟨LW, hLW⟩ : ∃ L, L = Yt := ⟨_, rfl⟩
                  have HVg2 : Hid (TxP w8 (Of Q8 bx h0) av qt cv LW) := by rw [hLW]; exact HVg.out
                  have HAf : Hid (∀ keep, Aft 16 (s'.cr keep) l.R LW) := by rw [hLW]; exact haft
                  clear hl' hu' haft hLW hlen'
                  refine KSy.out.mono ?_
                  rintro e wh ⟨rfl, hTh, hkh⟩
                  have HTh : Hid (Wl w wh Q8 bd bl (2 + 2100 * j + 2100) s' l') := hTh
                  have HKh : Hid (∀ k, Q8 k → wh.heap[k]? = w8.heap[k]?) := hkh
                  have HXh : Hid (wh.heap[bx]? = some (.cells #[.pointer (some ⟨bd, 0, none⟩), .slice ah qh ch, .slice none 0 0] 49)) := (hkh bx (HQg.out _ HQ8.out.1)).trans ((HKg.out bx HQ8.out.1).trans HX8.out)
                  have HYh : Hid (wh.heap[h0]? = some (.cells #[.pointer none, .slice none 0 0, .slice none 0 0] 49)) := (hkh h0 (HQg.out _ HQ8.out.2.1)).trans ((HKg.out h0 HQ8.out.2.1).trans HY8.out)
                  clear hTh hkh
                  have HVh : Hid (TxP wh (Of Q8 bx h0) av qt cv LW) := HVg2.out.kept (fun k hk => HKh.out k hk.1) (fun _ h => h)
                  have HRh : Hid (TxP wh (Of Q8 bx h0) ah qh ch l'.R) := by rw [HLh.out.2.1]; exact HRl8.out.kept (fun k hk => (HKh.out k (HQg.out k hk.1)).trans (HKg.out k hk.1)) (fun k hk => ⟨HQg.out k hk.1, hk.2⟩)
                  have e0h : wh.cell? ⟨bx, 0, none⟩ = some (.pointer (some ⟨bd, 0, none⟩)) := by rw [cell_of_row wh bx _ _ _ (0, 0) HXh.out]; rfl
                  have e1h : wh.cell? ⟨bx, 1, none⟩ = some (.slice ah qh ch) := by rw [cell_of_row wh bx _ _ _ (0, 0) HXh.out]; rfl
                  have e2h : wh.cell? ⟨bx, 2, none⟩ = some (.slice none 0 0) := by rw [cell_of_row wh bx _ _ _ (0, 0) HXh.out]; rfl
                  have hfz : wh.frozen? ⟨bx, 2, none⟩ = false := by rw [World.frozen?, HXh.out]; rfl
                  go_wp2_with fail
                  obtain ⟨wi, hwi⟩ : ∃ wi, wh.setCell ⟨bx, 2, none⟩ (.slice av qt cv) = wi := ⟨_, rfl⟩
                  rw [show World.setCell wh _ _ = wi from hwi]
                  have HXi : Hid (wi.heap[bx]? = some (.cells #[.pointer (some ⟨bd, 0, none⟩), .slice ah qh ch, .slice av qt cv] 49)) := by rw [← hwi]; exact box_set _ HXh.out
                  have HYi : Hid (wi.heap[h0]? = some (.cells #[.pointer none, .slice none 0 0, .slice none 0 0] 49)) := by rw [← hwi]; exact (set_off _ _ _ _ _ PB.out.1.symm).trans HYh.out
                  have HTi : Hid (Wl w wi Q8 bd bl (2 + 2100 * j + 2100) s' l') := by rw [← hwi]; exact HTh.out.grown0 (grown_setCell wh bx 2 _) (fun k e => by obtain rfl := Option.some.inj e; exact ⟨HQg.out _ HQ8.out.1, PB.out.2.1⟩)
                  have HVi : Hid (TxP wi (Of Q8 bx h0) av qt cv LW) := HVh.out.kept (fun k hk => by rw [← hwi]; exact set_off _ _ _ _ _ hk.2.1) (fun _ h => h)
                  have HRi : Hid (TxP wi (Of Q8 bx h0) ah qh ch l'.R) := HRh.out.kept (fun k hk => by rw [← hwi]; exact set_off _ _ _ _ _ hk.2.1) (fun _ h => h)
                  have HSi : Hid (∀ W : World, W.heap[bx]? = wi.heap[bx]? → W.cell? ⟨bx, 0, none⟩ = some (.pointer (some ⟨bd, 0, none⟩)) ∧ W.cell? ⟨bx, 1, none⟩ = some (.slice ah qh ch) ∧ W.cell? ⟨bx, 2, none⟩ = some (.slice av qt cv)) := fun W hW => by
                    have hx := hW.trans HXi.out
                    refine ⟨?_, ?_, ?_⟩ <;> (rw [cell_of_row W bx _ _ _ (0, 0) hx]; rfl)
                  have HTd : Hid (Wl w wi.drew Q8 bd bl (2 + 2100 * j + 2100) s' l') := HTi.out.keep0 (below_drewN (Below.refl _ _) 1)
                  have HRd : Hid (TxP wi.drew (Of Q8 bx h0) ah qh ch l'.R) := HRi.out.kept (fun k hk => rfl) (fun _ h => h)
                  have HQb : Hid (Q8 bx ∧ Q8 h0) := ⟨HQg.out _ HQ8.out.1, HQg.out _ HQ8.out.2.1⟩
                  have KRec : Hid (Calls Try.prog 11 #[.pointer (some ⟨bl, 0, none⟩)] wi.drew fun e w' => ∃ v, e = .returned v ∧ RowsS w' wi.drew.heap.size v l'.R ∧ Below wi.drew.heap.size wi.drew w') := wl_records HTd.out
                  clear hwi e0h e1h e2h hfz
                  refine wp_region_noPanic ?_
                  refine wp_region_held_drew (S := (fun W : World => W.cell? ⟨bx, 0, none⟩ = some (.pointer (some ⟨bd, 0, none⟩)) ∧ W.cell? ⟨bx, 1, none⟩ = some (.slice ah qh ch) ∧ W.cell? ⟨bx, 2, none⟩ = some (.slice av qt cv))) (by kernel_rfl) ?hSad1 (fun hHeld => ?restad1)
                  case hSad1 => exact HSi.out _ rfl
                  case restad1 =>
                    refine wpAnyH_take (i := 0) (v := .agg #[.pointer (some ⟨bd, 0, none⟩), .slice ah qh ch, .slice av qt cv]) rfl (by kernel_rfl) (by kernel_rfl) (by kernel_rfl) (fun _ _ _ h => h) (Or.inl ⟨by kernel_rfl, ?hy0d1⟩) hHeld ?rest0d1
                    case hy0d1 => (intro w hSw; (try dsimp only at hSw); go_simp; try with_reducible rfl)
                    try simp only [Act.put, List.setIfInBounds_toArray, List.set_cons_zero, List.set_cons_succ, List.getElem_toArray, List.getElem_cons_zero]
                    refine wpAnyH_take (i := 1) (v := .pointer (some ⟨bd, 0, none⟩)) rfl (by kernel_rfl) (by kernel_rfl) (by kernel_rfl) (fun _ _ _ h => h) (Or.inl ⟨by kernel_rfl, ?hy1d1⟩) hHeld ?rest1d1
                    case hy1d1 => (intro w hSw; (try dsimp only at hSw); go_simp; try with_reducible rfl)
                    try simp only [Act.put, List.setIfInBounds_toArray, List.set_cons_zero, List.set_cons_succ, List.getElem_toArray, List.getElem_cons_zero, List.getElem_cons_succ]
                    refine wpAnyH_ready (rs := [2]) (by kernel_rfl) (by simp) ?_
                    refine AllReadyH.cons rfl (fun K hK => ?_) AllReadyH.nil
                    go_simp; refine (wd_up HTd.out.disk).mono ?_; rintro e w' ⟨rfl, hw⟩; obtain rfl := hw.symm; clear hw; rw [HLh.out.2.2]; go_wp2_with fail
                    refine hK.out _ _ ?hS2d1 (fun hHeld => ?rest2d1)
                    case hS2d1 => exact HSi.out _ rfl
                    clear hK K
                    try simp only [Act.put, List.setIfInBounds_toArray, List.set_cons_zero, List.set_cons_succ, List.getElem_toArray, List.getElem_cons_zero, List.getElem_cons_succ]
                    refine wpAnyH_take (i := 3) (v := .bool true) rfl (by kernel_rfl) (by kernel_rfl) (by kernel_rfl) (fun _ _ _ h => h) (Or.inl ⟨by kernel_rfl, ?hy3d1⟩) hHeld ?rest3d1
                    case hy3d1 => (intro w hSw; (try dsimp only at hSw); go_simp; try with_reducible rfl)
                    try simp only [Act.put, List.setIfInBounds_toArray, List.set_cons_zero, List.set_cons_succ, List.getElem_toArray, List.getElem_cons_zero, List.getElem_cons_succ]
                    refine wpAnyH_take (i := 4) (v := .bool true) rfl (by kernel_rfl) (by kernel_rfl) (by kernel_rfl) (fun _ _ _ h => h) (Or.inl ⟨by kernel_rfl, ?hy4d1⟩) hHeld ?rest4d1
                    case hy4d1 => (intro w hSw; (try dsimp only at hSw); go_simp; try with_reducible rfl)
                    try simp only [Act.put, List.setIfInBounds_toArray, List.set_cons_zero, List.set_cons_succ, List.getElem_toArray, List.getElem_cons_zero, List.getElem_cons_succ]
                    refine wpAnyH_take (i := 5) (v := .pointer (some ⟨bl, 0, none⟩)) rfl (by kernel_rfl) (by kernel_rfl) (by kernel_rfl) (fun _ _ _ h => h) (Or.inl ⟨by kernel_rfl, ?hy5d1⟩) hHeld ?rest5d1
                    case hy5d1 => (intro w hSw; (try dsimp only at hSw); go_simp; try with_reducible rfl)
                    try simp only [Act.put, List.setIfInBounds_toArray, List.set_cons_zero, List.set_cons_succ, List.getElem_toArray, List.getElem_cons_zero, List.getElem_cons_succ]
                    refine wpAnyH_take (i := 7) (v := .pointer (some ⟨bx, 1, none⟩)) rfl (by kernel_rfl) (by kernel_rfl) (by kernel_rfl) (fun _ _ _ h => h) (Or.inl ⟨by kernel_rfl, ?hy7d1⟩) hHeld ?rest7d1
                    case hy7d1 => (intro w hSw; (try dsimp only at hSw); go_simp; try with_reducible rfl)
                    try simp only [Act.put, List.setIfInBounds_toArray, List.set_cons_zero, List.set_cons_succ, List.getElem_toArray, List.getElem_cons_zero, List.getElem_cons_succ]
                    refine wpAnyH_take (i := 8) (v := .slice ah qh ch) rfl (by kernel_rfl) (by kernel_rfl) (by kernel_rfl) (fun _ _ _ h => h) (Or.inl ⟨by kernel_rfl, ?hy8d1⟩) hHeld ?rest8d1
                    case hy8d1 => (intro w hSw; (try dsimp only at hSw); go_simp; try with_reducible rfl)
                    try simp only [Act.put, List.setIfInBounds_toArray, List.set_cons_zero, List.set_cons_succ, List.getElem_toArray, List.getElem_cons_zero, List.getElem_cons_succ]
                    refine wpAnyH_ready (rs := [6]) (by kernel_rfl) (by simp) ?_
                    refine AllReadyH.cons rfl (fun K hK => ?_) AllReadyH.nil
                    go_simp; refine KRec.out.mono ?_; rintro e wj ⟨vj, rfl, hrj, hbj⟩; obtain ⟨aj, cj, rfl, _, hij, _, _⟩ := RowsS.slice hrj; have HIj : Hid (InS wj aj l'.R) := hij; have HBj : Hid (Below wi.drew.heap.size wi.drew wj) := hbj; clear hrj hbj hij; go_wp2_with fail
                    refine hK.out _ _ ?hS6d1 (fun hHeld => ?rest6d1)
                    case hS6d1 => exact HSi.out _ (HBj.out.block bx (Array.getElem?_eq_some_iff.1 HXi.out).1)
                    clear hK K
                    try simp only [Act.put, List.setIfInBounds_toArray, List.set_cons_zero, List.set_cons_succ, List.getElem_toArray, List.getElem_cons_zero, List.getElem_cons_succ]

                    have HTj : Hid (Wl w wj Q8 bd bl (2 + 2100 * j + 2100) s' l') := HTd.out.keep0 HBj.out
                    have HLi : Hid (∀ k, Q8 k → k < wi.drew.heap.size) := fun k hk => by obtain ⟨F, G, _, _, _, _, _, pp⟩ := HTd.out.ex; exact (pp k hk).1
                    have HRj : Hid (TxP wj (Of Q8 bx h0) ah qh ch l'.R) := HRd.out.kept (fun k hk => HBj.out.block k (HLi.out k hk.1)) (fun _ h => h)
                    have KSa : Hid (Calls Try.prog 19 #[.slice aj l'.R.length cj, .slice ah qh ch] wj fun e w' => e = .returned (.bool true) ∧ Below wj.heap.size wj w') := by
                      have k := wsame_is wj aj ah l'.R.length qh cj ch l'.R l'.R rfl HRj.out.2.1 (by have h1 := HRj.out.2.1; have h2 := HRj.out.2.2.1; omega) (by have h2 := HRj.out.2.2.1; omega) HIj.out HRj.out.1 HRj.out.2.2.2.2.2 HRj.out.2.2.2.2.2
                      rw [decide_eq_true (rfl : l'.R = l'.R)] at k
                      exact k
                    refine wpAnyH_ready (rs := [9]) (by kernel_rfl) (by simp) ?_
                    refine AllReadyH.cons rfl (fun K hK => ?_) AllReadyH.nil
                    go_simp; refine KSa.out.mono ?_; rintro e wk ⟨rfl, hbk⟩; have HBk : Hid (Below wj.heap.size wj wk) := hbk; clear hbk; go_wp2_with fail
                    refine hK.out _ _ ?hS9d1 (fun hHeld => ?rest9d1)
                    case hS9d1 => exact HSi.out _ ((HBk.out.block bx (Nat.lt_of_lt_of_le (HLi.out _ HQb.out.1) HBj.out.size)).trans (HBj.out.block bx (HLi.out _ HQb.out.1)))
                    clear hK K
                    try simp only [Act.put, List.setIfInBounds_toArray, List.set_cons_zero, List.set_cons_succ, List.getElem_toArray, List.getElem_cons_zero, List.getElem_cons_succ]
                    refine wpAnyH_take (i := 10) (v := .bool true) rfl (by kernel_rfl) (by kernel_rfl) (by kernel_rfl) (fun _ _ _ h => h) (Or.inl ⟨by kernel_rfl, ?hy10d1⟩) hHeld ?rest10d1
                    case hy10d1 => (intro w hSw; (try dsimp only at hSw); go_simp; try with_reducible rfl)
                    try simp only [Act.put, List.setIfInBounds_toArray, List.set_cons_zero, List.set_cons_succ, List.getElem_toArray, List.getElem_cons_zero, List.getElem_cons_succ]
                    refine wpAnyH_take (i := 11) (v := .bool true) rfl (by kernel_rfl) (by kernel_rfl) (by kernel_rfl) (fun _ _ _ h => h) (Or.inl ⟨by kernel_rfl, ?hy11d1⟩) hHeld ?rest11d1
                    case hy11d1 => (intro w hSw; (try dsimp only at hSw); go_simp; try with_reducible rfl)
                    try simp only [Act.put, List.setIfInBounds_toArray, List.set_cons_zero, List.set_cons_succ, List.getElem_toArray, List.getElem_cons_zero, List.getElem_cons_succ]
                    refine wpAnyH_take (i := 12) (v := .pointer (some ⟨bl, 0, none⟩)) rfl (by kernel_rfl) (by kernel_rfl) (by kernel_rfl) (fun _ _ _ h => h) (Or.inl ⟨by kernel_rfl, ?hy12d1⟩) hHeld ?rest12d1
                    case hy12d1 => (intro w hSw; (try dsimp only at hSw); go_simp; try with_reducible rfl)
                    try simp only [Act.put, List.setIfInBounds_toArray, List.set_cons_zero, List.set_cons_succ, List.getElem_toArray, List.getElem_cons_zero, List.getElem_cons_succ]

                    have HTk : Hid (Wl w wk Q8 bd bl (2 + 2100 * j + 2100) s' l') := HTj.out.keep0 HBk.out
                    have HKk : Hid (∀ k, Q8 k → wk.heap[k]? = wi.heap[k]?) := fun k hk => (HBk.out.block k (Nat.lt_of_lt_of_le (HLi.out k hk) HBj.out.size)).trans (HBj.out.block k (HLi.out k hk))
                    have KSn : Hid (Calls Try.prog 9 #[.pointer (some ⟨bl, 0, none⟩)] wk fun e w' => e = .returned (.int .i64 15) ∧ Wl w w' Q8 bd bl (2 + 2100 * j + 2100 + 2100) s' l' ∧ ∀ k, Q8 k → w'.heap[k]? = wk.heap[k]?) := by
                      have k := wl_sync HTk.out (fit16 HLh2.out.1 HTk.out.ok.ar HLh2.out.2) (by omega)
                      rw [sync_lost HLh.out.1] at k
                      exact k
                    refine wpAnyH_ready (rs := [13]) (by kernel_rfl) (by simp) ?_
                    refine AllReadyH.cons rfl (fun K hK => ?_) AllReadyH.nil
                    go_simp; refine KSn.out.mono ?_; rintro e wm ⟨rfl, hTm, hkm⟩; have HTm : Hid (Wl w wm Q8 bd bl (2 + 2100 * j + 2100 + 2100) s' l') := hTm; have HKm : Hid (∀ k, Q8 k → wm.heap[k]? = wi.heap[k]?) := fun k hk => (hkm k hk).trans (HKk.out k hk); clear hTm hkm; go_wp2_with fail
                    refine hK.out _ _ ?hS13d1 (fun hHeld => ?rest13d1)
                    case hS13d1 => exact HSi.out _ (HKm.out bx HQb.out.1)
                    clear hK K
                    try simp only [Act.put, List.setIfInBounds_toArray, List.set_cons_zero, List.set_cons_succ, List.getElem_toArray, List.getElem_cons_zero, List.getElem_cons_succ]
                    refine wpAnyH_take (i := 14) (v := .bool true) rfl (by kernel_rfl) (by kernel_rfl) (by kernel_rfl) (fun _ _ _ h => h) (Or.inl ⟨by kernel_rfl, ?hy14d1⟩) hHeld ?rest14d1
                    case hy14d1 => (intro w hSw; (try dsimp only at hSw); go_simp; try with_reducible rfl)
                    try simp only [Act.put, List.setIfInBounds_toArray, List.set_cons_zero, List.set_cons_succ, List.getElem_toArray, List.getElem_cons_zero, List.getElem_cons_succ]
                    refine wpAnyH_take (i := 15) (v := .bool true) rfl (by kernel_rfl) (by kernel_rfl) (by kernel_rfl) (fun _ _ _ h => h) (Or.inl ⟨by kernel_rfl, ?hy15d1⟩) hHeld ?rest15d1
                    case hy15d1 => (intro w hSw; (try dsimp only at hSw); go_simp; try with_reducible rfl)
                    try simp only [Act.put, List.setIfInBounds_toArray, List.set_cons_zero, List.set_cons_succ, List.getElem_toArray, List.getElem_cons_zero, List.getElem_cons_succ]
                    refine wpAnyH_take (i := 16) (v := .bool true) rfl (by kernel_rfl) (by kernel_rfl) (by kernel_rfl) (fun _ _ _ h => h) (Or.inl ⟨by kernel_rfl, ?hy16d1⟩) hHeld ?rest16d1
                    case hy16d1 => (intro w hSw; (try dsimp only at hSw); go_simp; try with_reducible rfl)
                    try simp only [Act.put, List.setIfInBounds_toArray, List.set_cons_zero, List.set_cons_succ, List.getElem_toArray, List.getElem_cons_zero, List.getElem_cons_succ]
                    refine wpAnyH_take (i := 17) (v := .pointer (some ⟨bl, 0, none⟩)) rfl (by kernel_rfl) (by kernel_rfl) (by kernel_rfl) (fun _ _ _ h => h) (Or.inl ⟨by kernel_rfl, ?hy17d1⟩) hHeld ?rest17d1
                    case hy17d1 => (intro w hSw; (try dsimp only at hSw); go_simp; try with_reducible rfl)
                    try simp only [Act.put, List.setIfInBounds_toArray, List.set_cons_zero, List.set_cons_succ, List.getElem_toArray, List.getElem_cons_zero, List.getElem_cons_succ]

                    have KAn : Hid (Calls Try.prog 8 #[.pointer (some ⟨bl, 0, none⟩), .string ⟨#[]⟩] wm fun e w' => e = .returned (.int .i64 15) ∧ Wl w w' Q8 bd bl (2 + 2100 * j + 2100 + 2100) s' l' ∧ ∀ k, Q8 k → w'.heap[k]? = wm.heap[k]?) := by
                      have k := wl_add HTm.out [] (bytes_of_mem fun x hx => by cases hx)
                      rw [add_lost HLh.out.1] at k
                      exact k
                    refine wpAnyH_ready (rs := [18]) (by kernel_rfl) (by simp) ?_
                    refine AllReadyH.cons rfl (fun K hK => ?_) AllReadyH.nil
                    go_simp; refine KAn.out.mono ?_; rintro e wn ⟨rfl, hTn, hkn⟩; have HTn : Hid (Wl w wn Q8 bd bl (2 + 2100 * j + 2100 + 2100) s' l') := hTn; have HKn : Hid (∀ k, Q8 k → wn.heap[k]? = wi.heap[k]?) := fun k hk => (hkn k hk).trans (HKm.out k hk); clear hTn hkn; go_wp2_with fail
                    refine hK.out _ _ ?hS18d1 (fun hHeld => ?rest18d1)
                    case hS18d1 => exact HSi.out _ (HKn.out bx HQb.out.1)
                    clear hK K
                    try simp only [Act.put, List.setIfInBounds_toArray, List.set_cons_zero, List.set_cons_succ, List.getElem_toArray, List.getElem_cons_zero, List.getElem_cons_succ]
                    refine wpAnyH_take (i := 19) (v := .bool true) rfl (by kernel_rfl) (by kernel_rfl) (by kernel_rfl) (fun _ _ _ h => h) (Or.inl ⟨by kernel_rfl, ?hy19d1⟩) hHeld ?rest19d1
                    case hy19d1 => (intro w hSw; (try dsimp only at hSw); go_simp; try with_reducible rfl)
                    try simp only [Act.put, List.setIfInBounds_toArray, List.set_cons_zero, List.set_cons_succ, List.getElem_toArray, List.getElem_cons_zero, List.getElem_cons_succ]
                    refine wpAnyH_take (i := 20) (v := .bool true) rfl (by kernel_rfl) (by kernel_rfl) (by kernel_rfl) (fun _ _ _ h => h) (Or.inl ⟨by kernel_rfl, ?hy20d1⟩) hHeld ?rest20d1
                    case hy20d1 => (intro w hSw; (try dsimp only at hSw); go_simp; try with_reducible rfl)
                    try simp only [Act.put, List.setIfInBounds_toArray, List.set_cons_zero, List.set_cons_succ, List.getElem_toArray, List.getElem_cons_zero, List.getElem_cons_succ]

                    have HYn : Hid (wn.heap[h0]? = some (.cells #[.pointer none, .slice none 0 0, .slice none 0 0] 49)) := (HKn.out h0 HQb.out.2).trans HYi.out
                    refine wpAnyH_ready (rs := [21]) (by kernel_rfl) (by simp) ?_
                    refine AllReadyH.cons rfl (fun K hK => ?_) AllReadyH.nil
                    refine wp_store_row 49 (.tmp 4) (.tmp 120) rfl h0 #[.pointer (some ⟨bd, 0, none⟩), .slice ah qh ch, .slice av qt cv] rfl rfl 49 _ HYn.out size3R rfl (rc_one _ _ _ _ _ _ _) ?_
                    refine hK.out _ _ ?hS21d1 (fun hHeld => ?rest21d1)
                    case hS21d1 => exact HSi.out _ ((setRow_other wn _ _ _ PB.out.1).trans (HKn.out bx HQb.out.1))
                    clear hK K
                    try simp only [Act.put, List.setIfInBounds_toArray, List.set_cons_zero, List.set_cons_succ, List.getElem_toArray, List.getElem_cons_zero, List.getElem_cons_succ]
                    refine wpAnyH_take (i := 22) (v := .bool true) rfl (by kernel_rfl) (by kernel_rfl) (by kernel_rfl) (fun _ _ _ h => h) (Or.inl ⟨by kernel_rfl, ?hy22d1⟩) hHeld ?rest22d1
                    case hy22d1 => (intro w hSw; (try dsimp only at hSw); go_simp; try with_reducible rfl)
                    try simp only [Act.put, List.setIfInBounds_toArray, List.set_cons_zero, List.set_cons_succ, List.getElem_toArray, List.getElem_cons_zero, List.getElem_cons_succ]
                    refine wpAnyH_done (by kernel_rfl) ?_ _
                    refine NoPanic.normal ?_

                    go_wp2_with fail
                    refine bodyPost_ret (results_run (p := 4) (q := 5) rfl _ _ h0 #[.pointer (some ⟨bd, 0, none⟩), .slice ah qh ch, .slice av qt cv] rfl rfl (.bool true) rfl (setRow_heap wn _ _ _ _ _ HYn.out)) rfl ?_
                    have hg := grown_setRow wn h0 #[.pointer (some ⟨bd, 0, none⟩), .slice ah qh ch, .slice av qt cv]
                    have ho : ∀ k, Of Q8 bx h0 k → (wn.setRow h0 #[.pointer (some ⟨bd, 0, none⟩), .slice ah qh ch, .slice av qt cv]).heap[k]? = wi.heap[k]? := fun k hk => (setRow_other wn _ _ _ hk.2.2).trans (HKn.out k hk.1)
                    exact ⟨Q8, bd, 2 + 2100 * j + 2100 + 2100, s', ah, qh, ch, av, qt, cv, rfl, by omega, l'.R, LW, HTn.out.disk.grown0 hg (fun k e => by cases e; exact ⟨HQb.out.2, PB.out.2.2⟩), HRi.out.kept ho (fun k hk => hk.1), HVi.out.kept ho (fun k hk => hk.1), fun keep => by rw [HLh.out.2.1]; exact HAf.out keep⟩
                · have e9a : (c == 0) = false := by rw [beq_eq_false_iff_ne]; rcases hc with rfl | rfl | rfl <;> omega
                  have e9b : (c == 15) = false := by rw [beq_eq_false_iff_ne]; rcases hc with rfl | rfl | rfl <;> omega
                  subst l' s'
                  clear hc
                  refine KSy.out.mono ?_
                  rintro e wh ⟨rfl, hTh, hkh⟩
                  have HTh : Hid (Wl w wh Q8 bd bl (2 + 2100 * j + 2100) s l) := hTh
                  have HKh : Hid (∀ k, Q8 k → wh.heap[k]? = w8.heap[k]?) := hkh
                  have HXh : Hid (wh.heap[bx]? = some (.cells #[.pointer (some ⟨bd, 0, none⟩), .slice ah qh ch, .slice none 0 0] 49)) := (hkh bx (HQg.out _ HQ8.out.1)).trans ((HKg.out bx HQ8.out.1).trans HX8.out)
                  have HYh : Hid (wh.heap[h0]? = some (.cells #[.pointer none, .slice none 0 0, .slice none 0 0] 49)) := (hkh h0 (HQg.out _ HQ8.out.2.1)).trans ((HKg.out h0 HQ8.out.2.1).trans HY8.out)
                  clear hTh hkh
                  go_wp2_with fail
                  go_roundg (40 - (j + 1))
                  case measure => omega
                  case rel => exact ⟨j + 1, Q8, l, s, ah, qh, ch, by omega, rfl, by go_num, ⟨HG.out.1, HG.out.2.1, HG.out.2.2.1, by have := HG.out.2.2.2; omega⟩, HTh.out.more (by omega), ⟨HQ8.out.1, HQ8.out.2.1⟩, HXh.out, HYh.out, HRl8.out.kept (fun k hk => HKh.out k hk.1) (fun _ h => h), HW8.out.1.kept (fun k hk => HKh.out k (HW8.out.2 k hk).1), HW8.out.2⟩
        · have i1 : (j : Int) < (len : Int) := by omega
          have i2 : ¬ (j : Int) < 40 := by omega
          obtain ⟨d0, d1, d2⟩ := HSX.out wr rfl
          have hfz : wr.frozen? ⟨bx, 2, none⟩ = false := by rw [World.frozen?, HX.out]; rfl
          have HYs : Hid ((wr.setCell ⟨bx, 2, none⟩ (.slice ah qh ch)).heap[h0]? = some (.cells #[.pointer none, .slice none 0 0, .slice none 0 0] 49)) := (set_off _ _ _ _ _ PB.out.1.symm).trans HY.out
          go_wp2_with (refine wpList_store_row rfl 49 (.tmp 4) (.tmp 144) rfl h0 #[.pointer (some ⟨bd, 0, none⟩), .slice ah qh ch, .slice ah qh ch] rfl rfl 49 _ HYs.out size3R rfl (rc_one _ _ _ _ _ _ _) ?_)
          refine bodyPost_ret (results_run (p := 4) (q := 5) rfl _ _ h0 #[.pointer (some ⟨bd, 0, none⟩), .slice ah qh ch, .slice ah qh ch] rfl rfl (.bool true) rfl (setRow_heap _ _ _ _ _ _ HYs.out)) rfl ?_
          have hg := grown_setRow (wr.setCell ⟨bx, 2, none⟩ (.slice ah qh ch)) h0 #[.pointer (some ⟨bd, 0, none⟩), .slice ah qh ch, .slice ah qh ch]
          have ho : ∀ k, Of Q bx h0 k → ((wr.setCell ⟨bx, 2, none⟩ (.slice ah qh ch)).setRow h0 #[.pointer (some ⟨bd, 0, none⟩), .slice ah qh ch, .slice ah qh ch]).heap[k]? = wr.heap[k]? := fun k hk => (setRow_other _ _ _ _ hk.2.2).trans (set_off _ _ _ _ _ hk.2.1)
          have h1 := HT.out.disk.grown0 (grown_setCell wr bx 2 (.slice ah qh ch)) (fun k e => by obtain rfl := Option.some.inj e; exact ⟨HQ.out.1, PB.out.2.1⟩)
          exact ⟨Q, bd, 2 + 2100 * j, s, ah, qh, ch, ah, qh, ch, rfl, by omega, l.R, l.R, h1.grown0 hg (fun k e => by cases e; exact ⟨HQ.out.2, PB.out.2.2⟩), HR.out.kept ho (fun k hk => hk.1), HR.out.kept ho (fun k hk => hk.1), fun keep => ⟨_, inv_gd (gu_cr HG.out.1 keep), .inl rfl⟩⟩
      · have i1 : ¬ (j : Int) < (len : Int) := by omega
        obtain ⟨d0, d1, d2⟩ := HSX.out wr rfl
        have hfz : wr.frozen? ⟨bx, 2, none⟩ = false := by rw [World.frozen?, HX.out]; rfl
        have HYs : Hid ((wr.setCell ⟨bx, 2, none⟩ (.slice ah qh ch)).heap[h0]? = some (.cells #[.pointer none, .slice none 0 0, .slice none 0 0] 49)) := (set_off _ _ _ _ _ PB.out.1.symm).trans HY.out
        go_wp2_with (refine wpList_store_row rfl 49 (.tmp 4) (.tmp 144) rfl h0 #[.pointer (some ⟨bd, 0, none⟩), .slice ah qh ch, .slice ah qh ch] rfl rfl 49 _ HYs.out size3R rfl (rc_one _ _ _ _ _ _ _) ?_)
        refine bodyPost_ret (results_run (p := 4) (q := 5) rfl _ _ h0 #[.pointer (some ⟨bd, 0, none⟩), .slice ah qh ch, .slice ah qh ch] rfl rfl (.bool true) rfl (setRow_heap _ _ _ _ _ _ HYs.out)) rfl ?_
        have hg := grown_setRow (wr.setCell ⟨bx, 2, none⟩ (.slice ah qh ch)) h0 #[.pointer (some ⟨bd, 0, none⟩), .slice ah qh ch, .slice ah qh ch]
        have ho : ∀ k, Of Q bx h0 k → ((wr.setCell ⟨bx, 2, none⟩ (.slice ah qh ch)).setRow h0 #[.pointer (some ⟨bd, 0, none⟩), .slice ah qh ch, .slice ah qh ch]).heap[k]? = wr.heap[k]? := fun k hk => (setRow_other _ _ _ _ hk.2.2).trans (set_off _ _ _ _ _ hk.2.1)
        have h1 := HT.out.disk.grown0 (grown_setCell wr bx 2 (.slice ah qh ch)) (fun k e => by obtain rfl := Option.some.inj e; exact ⟨HQ.out.1, PB.out.2.1⟩)
        exact ⟨Q, bd, 2 + 2100 * j, s, ah, qh, ch, ah, qh, ch, rfl, by omega, l.R, l.R, h1.grown0 hg (fun k e => by cases e; exact ⟨HQ.out.2, PB.out.2.2⟩), HR.out.kept ho (fun k hk => hk.1), HR.out.kept ho (fun k hk => hk.1), fun keep => ⟨_, inv_gd (gu_cr HG.out.1 keep), .inl rfl⟩⟩

end Go.Proofs.Ytaoddlmmgfgmnaa
