/- Contracts of num.isWidth, num.Fixed and num.ReadFixed, over Mem's words. manifest.read: what bytes would be. What the document guesses that bytes are a manifest of, and that it comes to mdec; one reference more where there are very many. -/
import Derived.Test.YtlddoobomjcldaaDoorMgMc3
import Derived.WalkSpells
import Derived.Outline
import Derived.Test.YtlddoobomjcldaaDoorMgMc5
import Derived.Laws.CopyOwn
import Derived.Deep.RegionHeld3
namespace Go.Proofs.YtlddoobomjcldaaDoor
open Go.ChangeShapes Go.WideShapes Go.ChangeAt Go.RowKit Go.Deep
set_option linter.unusedVariables false

/-- the cells of a row of k bytes of which the last c are v's lowest -/
def fixA (v : Int) (k c : Nat) : Array Value := Array.ofFn (n := k) fun j => .int .u8 (if k - 1 - j.val < c then v / 256 ^ (k - 1 - j.val) % 256 else 0)

theorem fixA_zero (v : Int) (k : Nat) : madeCells #[.int .u8 0] k = fixA v k 0 := by
  apply Array.ext
  · simp [madeCells, fixA]
  · intro i h1 h2
    simp [madeCells, fixA, Nat.mod_one]

theorem fixA_step (v : Int) (k c : Nat) (h : c < k) (x : Int) (hx : x = v / 256 ^ c % 256) :
    (fixA v k c).setIfInBounds (k - 1 - c) (.int .u8 x) = fixA v k (c + 1) := by
  subst hx
  apply Array.ext
  · simp [fixA]
  · intro i h1 h2
    have hi : i < k := by simpa [fixA] using h2
    rw [Array.getElem_setIfInBounds]
    by_cases e : k - 1 - c = i
    · have : k - 1 - i = c := by omega
      simp [fixA, e, this]
    · have a : (k - 1 - i < c) ↔ (k - 1 - i < c + 1) := by omega
      simp [fixA, e, a]
    · simpa [fixA] using hi

theorem isWidth_yes (k : Int) (h1 : 1 ≤ k) (h8 : k ≤ 8) (w : World) :
    Calls Tryd.prog 50 #[.int .i64 k] w fun e w' => e = .returned (.bool true) ∧ w' = w := by
  have e : decide (k ≤ 8) = true := by simpa using h8
  go_enter Tryd.func50, Tryd.ntmps50
  go_wp2
  go_ret
  exact ⟨rfl, rfl⟩
theorem isWidth_no (k : Int) (h : k < 1 ∨ 8 < k) (w : World) :
    Calls Tryd.prog 50 #[.int .i64 k] w fun e w' => e = .returned (.bool false) ∧ w' = w := by
  rcases h with h | h
  · have e : decide (1 ≤ k) = false := by simp; omega
    go_enter Tryd.func50, Tryd.ntmps50
    go_wp2
    go_ret
    exact ⟨rfl, rfl⟩
  · have e : decide (k ≤ 8) = false := by simp; omega
    have e2 : decide (1 ≤ k) = true := by simp; omega
    go_enter Tryd.func50, Tryd.ntmps50
    go_wp2
    go_ret
    exact ⟨rfl, rfl⟩
theorem pow256 (k : Nat) : (2 : Int) ^ (8 * k) = 256 ^ k := by rw [Int.pow_mul]; rfl
theorem fixed_ok (v : Int) (k : Nat) (h1 : 1 ≤ k) (h8 : k ≤ 8) (v0 : 0 ≤ v) (hv : v < 256 ^ k) (w : World) :
    Calls Tryd.prog 28 #[.int .u64 v, .int .i64 k] w fun e w' => e = .returned (.tuple #[.slice (some ⟨w.heap.size, 0, none⟩) k k, .int .i64 0]) ∧ w' = w.alloc (.cells (fixA v k k) 5) := by
  have hmk := run_make_row' (P := Tryd.prog) 23 5 (.int .u8 0) 1 Tryd.underlying23 info8 rfl .i64 .i64 k (by omega) (by omega)
  rw [fixA_zero v k] at hmk
  have hd : (v / 2 ^ (8 * k) != 0) = false := by rw [pow256, Int.ediv_eq_zero_of_lt v0 hv]; rfl
  clear hv
  go_enter Tryd.func28, Tryd.ntmps28
  go_wp2_with (go_at_call 50; refine (isWidth_yes _ (by omega) (by omega) _).mono ?_; rintro e w' ⟨rfl, hw⟩; obtain rfl := hw.symm)
  go_loopg [19] k (fun g i wr => ∃ c : Nat, c ≤ k ∧ g = k - c ∧ i = .int .i64 c ∧ wr = w.alloc (.cells (fixA v k c) 5))
  case atStart => exact ⟨0, Nat.zero_le _, rfl, rfl, rfl⟩
  case round =>
    obtain ⟨c, hc, rfl, rfl, rfl⟩ := hrel
    by_cases hlt : c < k
    · obtain ⟨old, hold⟩ : ∃ old, (fixA v k c)[k - 1 - c]? = some old := ⟨_, Array.getElem?_eq_getElem (by simp [fixA]; omega)⟩
      have hs := fixA_step v k c hlt (v / 2 ^ (8 * c) % 256) (by rw [pow256])
      have HS : Hid _ := hs
      clear hs
      go_wp2
      go_roundg (k - (c + 1))
      case measure => omega
      case rel => exact ⟨c + 1, by omega, rfl, by go_num, by rw [HS.out]⟩
    · have e : c = k := by omega
      subst e
      go_wp2
      go_ret2
      exact ⟨rfl, rfl⟩
theorem fixed_big (v : Int) (k : Nat) (h1 : 1 ≤ k) (h8 : k ≤ 8) (v0 : 0 ≤ v) (hv : 256 ^ k ≤ v) (w : World) :
    Calls Tryd.prog 28 #[.int .u64 v, .int .i64 k] w fun e w' => e = .returned (.tuple #[.slice none 0 0, .int .i64 3]) ∧ w' = w := by
  have hd : (v / 2 ^ (8 * k) != 0) = true := by
    rw [pow256]
    have hp : (0 : Int) < 256 ^ k := Int.pow_pos (by decide)
    have := Int.ediv_le_ediv hp hv
    rw [Int.ediv_self (by omega)] at this
    simp; omega
  clear hv
  go_enter Tryd.func28, Tryd.ntmps28
  go_wp2_with (go_at_call 50; refine (isWidth_yes _ (by omega) (by omega) _).mono ?_; rintro e w' ⟨rfl, hw⟩; obtain rfl := hw.symm)
  go_ret2
  exact ⟨rfl, rfl⟩
theorem fixed_arg (v k : Int) (h : k < 1 ∨ 8 < k) (w : World) :
    Calls Tryd.prog 28 #[.int .u64 v, .int .i64 k] w fun e w' => e = .returned (.tuple #[.slice none 0 0, .int .i64 2]) ∧ w' = w := by
  go_enter Tryd.func28, Tryd.ntmps28
  go_wp2_with (go_at_call 50; refine (isWidth_no _ h _).mono ?_; rintro e w' ⟨rfl, hw⟩; obtain rfl := hw.symm)
  go_ret2
  exact ⟨rfl, rfl⟩
theorem or_byte (i : Nat) (hi : i < 8) (x c : Int) (x0 : 0 ≤ x) (x1 : x < 256 ^ i) (c0 : 0 ≤ c) (c1 : c ≤ 255) : bits .or .u64 (IntKind.u64.wrap (x * 256)) c = x * 256 + c := by
  have p : (256 : Int) ^ i ≤ 72057594037927936 := by
    rcases (by omega : i = 0 ∨ i = 1 ∨ i = 2 ∨ i = 3 ∨ i = 4 ∨ i = 5 ∨ i = 6 ∨ i = 7) with rfl | rfl | rfl | rfl | rfl | rfl | rfl | rfl <;> decide
  rw [IntKind.wrap_u64, Int.emod_eq_of_lt (by omega) (by omega)]
  rw [u64_or (x * 256) c (by omega) (by omega) c0 (by omega)]
  obtain ⟨X, rfl⟩ := Int.eq_ofNat_of_zero_le x0
  obtain ⟨C, rfl⟩ := Int.eq_ofNat_of_zero_le c0
  rw [show ((X : Int) * 256).toNat = X * 256 by omega, Int.toNat_natCast, nat_join 8 (X * 256) C (by omega) (by omega)]
  omega
theorem pow_i8 (i : Nat) (hi : i < 8) : (256 : Int) ^ i ≤ 72057594037927936 := by
  rcases (by omega : i = 0 ∨ i = 1 ∨ i = 2 ∨ i = 3 ∨ i = 4 ∨ i = 5 ∨ i = 6 ∨ i = 7) with rfl | rfl | rfl | rfl | rfl | rfl | rfl | rfl <;> decide

theorem readFixed_ok (L : List Int) (n k : Nat) (a : Option Addr) (cap : Nat) (hn : L.length = n) (hm : n ≤ 4611686018427387904) (hb : IsBytes L) (w : World) (hh : Holds w a L) (h1 : 1 ≤ k) (h8 : k ≤ 8) (hk : k ≤ n) :
    Calls Tryd.prog 62 #[.slice a n cap, .int .i64 k] w fun e w' => e = .returned (.tuple #[.int .u64 (val (L.take k)), .int .i64 0]) ∧ w' = w := by
  obtain ⟨b, off, rfl, hcell⟩ : ∃ b off, a = some ⟨b, off, none⟩ ∧ ∀ i, i < L.length → w.cell? ⟨b, off + i, none⟩ = some (.int .u8 (L.getD i 0)) := by
    rcases hh with rfl | h
    · simp at hn; omega
    · exact h
  have hlt : ¬ ((n : Int) < k) := by omega
  go_enter Tryd.func62, Tryd.ntmps62
  go_wp2_with (go_at_call 50; refine (isWidth_yes _ (by omega) (by omega) _).mono ?_; rintro e w' ⟨rfl, hw⟩; obtain rfl := hw.symm; clear hw)
  go_loop [6, 16] (fun v i => ∃ c : Nat, c ≤ k ∧ i = .int .i64 c ∧ v = .int .u64 (val (L.take c))) (fun _ i => k - (intOf i).toNat)
  case atStart => exact ⟨0, Nat.zero_le _, rfl, rfl⟩
  case round =>
    obtain ⟨c, hc, rfl, rfl⟩ := hrel
    by_cases hck : c < k
    · have hcc := hcell c (by omega)
      obtain ⟨d0, d1⟩ := hb c (by omega)
      obtain ⟨v0, v1⟩ := val_bd L hb c (by omega)
      have hs := val_step L c (by omega)
      have eo := or_byte c (by omega) (val (L.take c)) (L.getD c 0) v0 v1 d0 d1
      rw [← hs] at eo
      have EO : Hid _ := eo
      clear eo hs v1 hcell
      generalize L.getD c 0 = z at *
      generalize val (L.take c) = y at *
      go_wp2
      go_round
      case rel => exact ⟨c + 1, by omega, by go_num, by rw [EO.out]⟩
      case measure => simp [intOf]; omega
    · have e : c = k := by omega
      subst e
      clear hcell
      go_wp2
      go_ret2
      exact ⟨rfl, rfl⟩
theorem readFixed_end (n k : Nat) (a : Option Addr) (cap : Nat) (w : World) (h1 : 1 ≤ k) (h8 : k ≤ 8) (hk : n < k) :
    Calls Tryd.prog 62 #[.slice a n cap, .int .i64 k] w fun e w' => e = .returned (.tuple #[.int .u64 0, .int .i64 4]) ∧ w' = w := by
  have hlt : ((n : Int) < k) := by omega
  go_enter Tryd.func62, Tryd.ntmps62
  go_wp2_with (go_at_call 50; refine (isWidth_yes _ (by omega) (by omega) _).mono ?_; rintro e w' ⟨rfl, hw⟩; obtain rfl := hw.symm; clear hw)
  go_ret2
  exact ⟨rfl, rfl⟩
theorem readFixed_arg (n : Nat) (k : Int) (a : Option Addr) (cap : Nat) (w : World) (h : k < 1 ∨ 8 < k) :
    Calls Tryd.prog 62 #[.slice a n cap, .int .i64 k] w fun e w' => e = .returned (.tuple #[.int .u64 0, .int .i64 2]) ∧ w' = w := by
  go_enter Tryd.func62, Tryd.ntmps62
  go_wp2_with (go_at_call 50; refine (isWidth_no _ h _).mono ?_; rintro e w' ⟨rfl, hw⟩; obtain rfl := hw.symm; clear hw)
  go_ret2
  exact ⟨rfl, rfl⟩
end Go.Proofs.YtlddoobomjcldaaDoor
namespace Go.Proofs.YtlddoobomjcldaaDoor
open Go.ChangeShapes Go.WideShapes Go.ChangeAt Go.RowKit Go.Deep Go.Maps
set_option linter.unusedVariables false
theorem lset : ∀ (l : List Value) (k : Nat) (z : Array Value), z.size = k + l.length → ((l.zipIdx k).foldl (fun (cs : Array Value) (x : Value × Nat) => cs.setIfInBounds x.snd x.fst) z).toList = z.toList.take k ++ l
  | [], k, z, h => by
    simp at h
    rw [List.zipIdx_nil, List.foldl_nil, List.append_nil, List.take_of_length_le (by simp; omega)]
  | a :: l, k, z, h => by
    rw [List.zipIdx_cons, List.foldl_cons, lset l (k + 1) _ (by simp at h ⊢; omega)]
    simp only [Array.toList_setIfInBounds]
    have hk : k < z.toList.length := by simp at h ⊢; omega
    rw [List.take_succ_eq_append_getElem (by simpa using hk)]
    simp [List.take_set]
    rw [List.set_eq_of_length_le (by simp; omega)]
theorem foldl_sets (C z : Array Value) (n : Nat) (h1 : C.size = n) (h2 : z.size = n) : Array.foldl (fun (cs : Array Value) (x : Value × Nat) => cs.setIfInBounds x.snd x.fst) z C.zipIdx 0 n = C := by
  have e : n = C.zipIdx.size := by simp [h1]
  rw [e, ← Array.foldl_toList]
  apply Array.toList_inj.1
  have := lset C.toList 0 z (by simp [h1, h2])
  simpa using this
set_option maxRecDepth 100000 in
theorem buildRef_run (C : Array Value) (hC : C.size = 33) (w : World) : (Instr.buildSlice 42 1 #[(0, .agg C)]).run Tryd.prog w = .ok (.slice (some ⟨w.heap.size, 0, none⟩) 1 1) (w.alloc (.cells C 80)) := by
  have hz := (zero_of_info zero33_info).1
  unfold Instr.buildSlice
  simp [go_sem, hC, hz]
  rw [foldl_sets C _ 33 hC (by simp)]
theorem wpList_buildRef {ops : Array Oper} {rest : List Oper} {o : Oper} {act : Act} {w : World} {Q : Exit → Act → World → Prop} (hgd : o.guard = none) (x : Operand) (ho : o.op = .buildSlice 42 1 #[(0, x)]) (C : Array Value) (hC : C.size = 33) (hx : act.eval x = .agg C)
    (h : wpList Tryd.prog ops Q rest (act.put o.dst (.slice (some ⟨w.heap.size, 0, none⟩) 1 1)) (w.alloc (.cells C 80))) : wpList Tryd.prog ops Q (o :: rest) act w := by
  refine wpList_plain hgd fun K hK => ?_
  unfold Oper.wp
  simp [execOp, ho, hx, buildRef_run C hC w, Result.andThen]
  exact hK _ _ h
theorem RdBM.lt {w : World} {R : Nat} {L : List Int} (h : RdBM w R L) : R < w.heap.size := by obtain ⟨a, n, c, hr, _⟩ := h; exact hr.lt
theorem RdBM.bytes {w : World} {R : Nat} {L : List Int} (h : RdBM w R L) : IsBytes L := by obtain ⟨a, n, c, _, _, _, hb, _⟩ := h; exact hb
theorem RdBM.block {w w' : World} {R : Nat} {L : List Int} (h : RdBM w R L) (hb : ∀ g, g ≤ R → w'.heap[g]? = w.heap[g]?) : RdBM w' R L := by
  obtain ⟨a, n, c, hr, hl, hh, hb', hn, hc, hn47, hlt⟩ := h
  refine ⟨a, n, c, (hb R (Nat.le_refl _)).trans hr, hl, ?_, hb', hn, hc, hn47, hlt⟩
  rcases hh with e | ⟨b, off, rfl, hcell⟩
  · exact .inl e
  · by_cases hL : L = []
    · exact .inl hL
    · have := hlt _ rfl hL
      exact .inr ⟨b, off, rfl, fun i hi => by rw [← hcell i hi]; exact World.cell?_of_block (a := ⟨b, off + i, none⟩) (hb b (Nat.le_of_lt this))⟩
theorem RdBM.keep {w w' : World} {R : Nat} {L : List Int} (h : RdBM w R L) (hb : Below w.heap.size w w') : RdBM w' R L := h.block fun g hg => hb.block g (Nat.lt_of_le_of_lt hg h.lt)
theorem RdBM.setAt {w : World} {R : Nat} {L : List Int} (h : RdBM w R L) {g : Nat} (hg : R < g) (i : Nat) (v : Value) : RdBM (w.setCell ⟨g, i, none⟩ v) R L :=
  h.block (fun k hk => Below.heap_setCell _ ⟨g, i, none⟩ _ _ (show k ≠ g by omega))
theorem OwnR.lower {w : World} {b b' : Nat} {v : Value} {l : List Rf} (h : OwnR w b v l) (hb : b' ≤ b) : OwnR w b' v l := by
  refine ⟨h.1, ?_⟩
  rcases h.2 with h1 | ⟨g, cap, cur, rfl, hbg, hg, rest⟩
  · exact .inl h1
  · exact .inr ⟨g, cap, cur, rfl, Nat.le_trans hb hbg, hg, rest⟩
/-- a manifest in a box -/
def MBox (w : World) (b : Nat) (N V : ByteArray) (v : Value) : Prop := w.heap[b]? = some (.cells #[.string N, .string V, v] 44 (0, 0))
theorem MBox.cells {w : World} {b : Nat} {N V : ByteArray} {v : Value} (h : MBox w b N V v) : (w.cell? ⟨b, 0, none⟩ = some (.string N) ∧ w.cell? ⟨b, 1, none⟩ = some (.string V) ∧ w.cell? ⟨b, 2, none⟩ = some v) ∧ w.frozen? ⟨b, 0, none⟩ = false ∧ w.frozen? ⟨b, 1, none⟩ = false ∧ w.frozen? ⟨b, 2, none⟩ = false :=
  ⟨⟨by rw [cell_of_row w b 0 _ _ _ h]; rfl, by rw [cell_of_row w b 1 _ _ _ h]; rfl, by rw [cell_of_row w b 2 _ _ _ h]; rfl⟩, frozen_of_row w b 0 _ _ h, frozen_of_row w b 1 _ _ h, frozen_of_row w b 2 _ _ h⟩
theorem MBox.lt {w : World} {b : Nat} {N V : ByteArray} {v : Value} (h : MBox w b N V v) : b < w.heap.size := (Array.getElem?_eq_some_iff.1 h).1
theorem MBox.set0 {w : World} {b : Nat} {N V : ByteArray} {v : Value} (h : MBox w b N V v) (X : ByteArray) : MBox (w.setCell ⟨b, 0, none⟩ (.string X)) b X V v := heap_setCell_ownM w b 0 _ _ _ h _
theorem MBox.set1 {w : World} {b : Nat} {N V : ByteArray} {v : Value} (h : MBox w b N V v) (X : ByteArray) : MBox (w.setCell ⟨b, 1, none⟩ (.string X)) b N X v := heap_setCell_ownM w b 1 _ _ _ h _
theorem MBox.set2 {w : World} {b : Nat} {N V : ByteArray} {v : Value} (h : MBox w b N V v) (x : Value) : MBox (w.setCell ⟨b, 2, none⟩ x) b N V x := heap_setCell_ownM w b 2 _ _ _ h _
theorem MBox.new (w : World) (N V : ByteArray) (v : Value) : MBox (w.alloc (.cells #[.string N, .string V, v] 44)) w.heap.size N V v := heap_alloc_new w _
/-- a digest's beginning laid over noughts -/
theorem splice_dg (L : List Int) : splice (List.replicate 32 (Value.int .u8 0) ++ [Value.int .i64 0]) 0 ((L.take 32).map (Value.int .u8)) = rcl (dg32 L, 0) := by
  unfold splice rcl dg32
  rw [List.take_zero, List.nil_append, Nat.zero_add, List.length_map, List.length_take, List.map_append, List.map_replicate]
  rcases Nat.le_total 32 L.length with h | h
  · rw [Nat.min_eq_left h, show 32 - L.length = 0 by omega]
    simp
  · rw [Nat.min_eq_right h, List.drop_append_of_le_length (by simp; omega), List.drop_replicate, List.append_assoc]
theorem dg32_len (L : List Int) : (dg32 L).length = 32 := by simp [dg32]; omega
theorem rcl_set {d : List Int} (hd : d.length = 32) (z z' : Int) : (rcl (d, z)).toArray.setIfInBounds 32 (.int .i64 z') = (rcl (d, z')).toArray := by
  unfold rcl
  simp [hd]
theorem size44 : (Tryd.prog.info? 44).map (·.size) = some 3 := by kernel_rfl
theorem wrap64_is (v : Int) (h0 : 0 ≤ v) (h1 : v ≤ 18446744073709551615) : IntKind.i64.wrap v = wr64 v := by
  unfold wr64
  split <;> simp [IntKind.wrap, IntKind.signed, IntKind.bits] <;> omega
theorem below_drewR {B : Nat} {w w' : World} (h : Below B w w') : Below B w w'.drew := h.trans ⟨rfl, rfl, rfl, Nat.le_refl _, fun _ _ => rfl⟩
theorem gl_succ (n : Nat) (L : List Int) : gl (n + 1) L = (dg32 L, wr64 (gn (L.drop 32)).1) :: gl n (gn (L.drop 32)).2 := rfl
set_option maxRecDepth 100000 in
set_option maxHeartbeats 8000000 in
theorem mread_is (w : World) (n c : Nat) (a : Option Addr) (L : List Int) (hl : L.length = n) (hB : IsBytes L) (hh : Holds w a L) (hlt : ∀ x, a = some x → L ≠ [] → x.block < w.heap.size) (hnc : n ≤ c) (hc : c ≤ 9223372036854775807) (hn47 : n ≤ 140737488355328) :
    Calls Tryd.prog 42 #[.slice a n c] w fun e w' => ∃ v, e = .returned (.agg #[.string (tx (mread L).1), .string (tx (mread L).2.1), v]) ∧ OwnR w' w.heap.size v (mread L).2.2 ∧ Below w.heap.size w w' := by
  obtain ⟨h, hh0⟩ : ∃ h, h = w.heap.size := ⟨_, rfl⟩
  obtain ⟨W1, hW1⟩ : ∃ W1, W1 = (w.alloc (.cells #[.string ⟨#[]⟩, .string ⟨#[]⟩, .slice none 0 0] 44)).alloc (.cells #[.slice a n c] 104) := ⟨_, rfl⟩
  have BW : Below h w W1 := by rw [hW1, hh0]; exact ((Below.refl _ _).alloc (Nat.le_refl _) _).alloc (by simp) _
  have hs1 : W1.heap.size = h + 2 := by rw [hW1, hh0]; simp
  have Z1 : Hid (MBox W1 h ⟨#[]⟩ ⟨#[]⟩ (.slice none 0 0)) := by
    show MBox _ _ _ _ _
    unfold MBox
    rw [hW1, hh0, Below.heap_alloc _ _ _ (by simp)]
    exact heap_alloc_new w _
  have RR : RdrM W1 (h + 1) (.slice a n c) := by
    rw [hW1, hh0]
    have := heap_alloc_new (w.alloc (.cells #[.string ⟨#[]⟩, .string ⟨#[]⟩, .slice none 0 0] 44)) (.cells #[.slice a n c] 104)
    unfold RdrM
    simpa using this
  have RD : Hid (RdBM W1 (h + 1) L) := ⟨a, n, c, RR, hl, hh.below BW (by rw [hh0]; exact hlt), hB, hnc, hc, hn47, fun x hx hne => by have := hlt x hx hne; omega⟩
  have B1 : Hid (Below h w W1) := BW
  obtain ⟨L1, hL1⟩ : ∃ L1, L1 = L.drop 3 := ⟨_, rfl⟩
  obtain ⟨N1, hN1⟩ : ∃ N1, N1 = tx (gt L1).1 := ⟨_, rfl⟩
  obtain ⟨L2, hL2⟩ : ∃ L2, L2 = (gt L1).2 := ⟨_, rfl⟩
  obtain ⟨N2, hN2⟩ : ∃ N2, N2 = tx (gt L2).1 := ⟨_, rfl⟩
  obtain ⟨L3, hL3⟩ : ∃ L3, L3 = (gt L2).2 := ⟨_, rfl⟩
  obtain ⟨L4, hL4⟩ : ∃ L4, L4 = L3.drop 1 := ⟨_, rfl⟩
  have hB3 : IsBytes L3 := by
    have g : ∀ M, IsBytes M → IsBytes (gt M).2 := fun M hM => bytes_drop (bytes_drop hM _) _
    rw [hL3, hL2, hL1]
    exact g _ (g _ (bytes_drop hB 3))
  obtain ⟨C, hC, hC255⟩ : ∃ C : Nat, (C : Int) = L3.headD 0 ∧ C ≤ 255 := by
    cases L3 with
    | nil => exact ⟨0, rfl, by omega⟩
    | cons x r =>
      have := hB3 0 (by simp)
      simp at this
      exact ⟨x.toNat, by simp; omega, by omega⟩
  obtain ⟨F, hF⟩ : ∃ F, F = gl C L4 := ⟨_, rfl⟩
  have eN1 : tx (mread L).1 = N1 := by rw [hN1, hL1]; rfl
  have eN2 : tx (mread L).2.1 = N2 := by rw [hN2, hL2, hL1]; rfl
  have eF : (mread L).2.2 = F := by
    rw [hF, hL4, ← Int.toNat_natCast C, hC, hL3, hL2, hL1]
    rfl
  rw [eN1, eN2, eF]
  have E1 : Hid (L.drop 3 = L1) := hL1.symm
  have E2 : Hid (tx (gt L1).1 = N1 ∧ (gt L1).2 = L2) := ⟨hN1.symm, hL2.symm⟩
  have E3 : Hid (tx (gt L2).1 = N2 ∧ (gt L2).2 = L3) := ⟨hN2.symm, hL3.symm⟩
  have E4 : Hid (L3.drop 1 = L4) := hL4.symm
  have EF : Hid (gl C L4 = F) := hF.symm
  have EC : Hid ((C : Int) = L3.headD 0 ∧ IsBytes L3) := ⟨hC, hB3⟩
  clear hL1 hN1 hL2 hN2 hL3 hL4 hF eN1 eN2 eF hC hB3
  have HH : Hid (h = w.heap.size) := hh0
  have HW1 : Hid (W1 = (w.alloc (.cells #[.string ⟨#[]⟩, .string ⟨#[]⟩, .slice none 0 0] 44)).alloc (.cells #[.slice a n c] 104)) := hW1
  clear BW RR hl hB hh hlt hW1 hh0
  go_enter Tryd.func42, Tryd.ntmps42
  go_wp2_with fail
  rw [← HW1.out, ← HH.out]
  clear HW1
  refine (takeM_is W1 (h + 1) 3 L RD.out (by decide) (by decide)).mono ?_
  rintro e w1 ⟨a1, c1, rfl, hh1, hr1, hg1, hm1⟩
  rw [show (3 : Int).toNat = 3 from rfl, (take_min L 3).2, E1.out] at hr1
  have B2 : Below h w w1 := B1.out.trans (hg1.below h (by omega) (fun k hk => by have := Option.some.inj hk; omega))
  have hs2 : h + 2 ≤ w1.heap.size := by have := hg1.1.size; omega
  have Z2 : MBox w1 h ⟨#[]⟩ ⟨#[]⟩ (.slice none 0 0) := (hg1.block h (by omega) (fun e => by have := Option.some.inj e; omega)).trans Z1.out
  obtain ⟨M, hM⟩ : ∃ M, M = w1.heap.size := ⟨_, rfl⟩
  obtain ⟨W2, hW2⟩ : ∃ W2, W2 = w1.alloc (.cells #[.string ⟨#[]⟩, .string ⟨#[]⟩, .slice none 0 0] 44) := ⟨_, rfl⟩
  have A2 : Below w1.heap.size w1 W2 := by rw [hW2]; exact (Below.refl _ _).alloc (Nat.le_refl _) _
  have B3 : Hid (Below h w W2) := B2.trans (A2.mono (by omega))
  have R3 : Hid (RdBM W2 (h + 1) L1) := hr1.keep A2
  have Z3 : Hid (MBox W2 h ⟨#[]⟩ ⟨#[]⟩ (.slice none 0 0)) := (A2.block h (by omega)).trans Z2
  have M3 : Hid (MBox W2 M ⟨#[]⟩ ⟨#[]⟩ (.slice none 0 0)) := by rw [hW2, hM]; exact MBox.new _ _ _ _
  have hMh : h + 1 < M := by omega
  have HW2 : Hid (W2 = w1.alloc (.cells #[.string ⟨#[]⟩, .string ⟨#[]⟩, .slice none 0 0] 44)) := hW2
  have HMM : Hid (M = w1.heap.size) := hM
  clear hr1 hg1 hh1 hm1 RD B1 Z1 B2 Z2 A2 hW2 hM hs1 hs2 E1
  go_wp2_with fail
  rw [← HW2.out, ← HMM.out]
  clear HW2 HMM
  refine (textM_is W2 (h + 1) L1 R3.out).mono ?_
  rw [E2.out.1, E2.out.2]
  rintro e w3 ⟨rfl, hr3, hg3⟩
  have B4 : Below h w w3 := B3.out.trans (hg3.below h (by have := R3.out.lt; omega) (fun k hk => by have := Option.some.inj hk; omega))
  have M4 : MBox w3 M ⟨#[]⟩ ⟨#[]⟩ (.slice none 0 0) := (hg3.block M M3.out.lt (fun e => by have := Option.some.inj e; omega)).trans M3.out
  have Z4 : MBox w3 h ⟨#[]⟩ ⟨#[]⟩ (.slice none 0 0) := (hg3.block h (by have := R3.out.lt; omega) (fun e => by have := Option.some.inj e; omega)).trans Z3.out
  obtain ⟨W4, hW4⟩ : ∃ W4, W4 = w3.setCell ⟨M, 0, none⟩ (.string N1) := ⟨_, rfl⟩
  have B5 : Hid (Below h w W4) := by rw [hW4]; exact B4.setCell (p := ⟨M, 0, none⟩) (show h ≤ M by omega) _
  have M5 : Hid (MBox W4 M N1 ⟨#[]⟩ (.slice none 0 0)) := by rw [hW4]; exact M4.set0 _
  have Z5 : Hid (MBox W4 h ⟨#[]⟩ ⟨#[]⟩ (.slice none 0 0)) := by rw [hW4]; exact (Below.heap_setCell _ ⟨M, 0, none⟩ _ _ (show h ≠ M by omega)).trans Z4
  have R5 : Hid (RdBM W4 (h + 1) L2) := by rw [hW4]; exact hr3.setAt hMh _ _
  obtain ⟨⟨x0, x1, x2⟩, f0, f1, f2⟩ := M4.cells
  have HW4 : Hid (w3.setCell ⟨M, 0, none⟩ (.string N1) = W4) := hW4.symm
  clear hr3 hg3 B3 R3 Z3 M3 B4 M4 Z4 hW4 x1 x2 f1 f2
  go_wp2_with fail
  rw [HW4.out]
  clear HW4 x0 f0
  refine (textM_is W4 (h + 1) L2 R5.out).mono ?_
  rw [E3.out.1, E3.out.2]
  rintro e w5 ⟨rfl, hr3, hg3⟩
  have B6 : Below h w w5 := B5.out.trans (hg3.below h (by have := R5.out.lt; omega) (fun k hk => by have := Option.some.inj hk; omega))
  have M6 : MBox w5 M N1 ⟨#[]⟩ (.slice none 0 0) := (hg3.block M M5.out.lt (fun e => by have := Option.some.inj e; omega)).trans M5.out
  have Z6 : MBox w5 h ⟨#[]⟩ ⟨#[]⟩ (.slice none 0 0) := (hg3.block h (by have := R5.out.lt; omega) (fun e => by have := Option.some.inj e; omega)).trans Z5.out
  obtain ⟨W6, hW6⟩ : ∃ W6, W6 = w5.setCell ⟨M, 1, none⟩ (.string N2) := ⟨_, rfl⟩
  have B7 : Hid (Below h w W6) := by rw [hW6]; exact B6.setCell (p := ⟨M, 1, none⟩) (show h ≤ M by omega) _
  have M7 : Hid (MBox W6 M N1 N2 (.slice none 0 0)) := by rw [hW6]; exact M6.set1 _
  have Z7 : Hid (MBox W6 h ⟨#[]⟩ ⟨#[]⟩ (.slice none 0 0)) := by rw [hW6]; exact (Below.heap_setCell _ ⟨M, 1, none⟩ _ _ (show h ≠ M by omega)).trans Z6
  have R7 : Hid (RdBM W6 (h + 1) L3) := by rw [hW6]; exact hr3.setAt hMh _ _
  obtain ⟨⟨x0, x1, x2⟩, f0, f1, f2⟩ := M6.cells
  have HW6 : Hid (w5.setCell ⟨M, 1, none⟩ (.string N2) = W6) := hW6.symm
  clear hr3 hg3 B5 R5 Z5 M5 B6 M6 Z6 hW6 x0 x2 f0 f2
  go_wp2_with fail
  rw [HW6.out]
  clear HW6 x1 f1
  refine (takeM_is W6 (h + 1) 1 L3 R7.out (by decide) (by decide)).mono ?_
  rintro e w7 ⟨a7, c7, rfl, hh7, hr7, hg7, hm7⟩
  rw [show (1 : Int).toNat = 1 from rfl, (take_min L3 1).1] at hh7
  rw [show (1 : Int).toNat = 1 from rfl, (take_min L3 1).2] at hr7
  have hB3 := EC.out.2
  have hC := EC.out.1
  have KF : Hid (Calls Tryd.prog 62 #[.slice a7 (min (1 : Int).toNat L3.length) c7, .int .i64 1] w7 fun e w' => (∃ k, e = .returned (.tuple #[.int .u64 (C : Int), .int .i64 k])) ∧ w' = w7) := by
    show Calls _ _ _ _ _
    cases L3 with
    | nil =>
      refine (readFixed_end 0 1 a7 c7 w7 (by omega) (by omega) (by omega)).mono ?_
      rintro e w' ⟨rfl, rfl⟩
      exact ⟨⟨4, by rw [hC]; rfl⟩, rfl⟩
    | cons x r =>
      have e1 : min (1 : Int).toNat (x :: r).length = 1 := by simp
      rw [e1]
      refine (readFixed_ok [x] 1 1 a7 c7 rfl (by omega) (bytes_take hB3 1) w7 hh7 (by omega) (by omega) (by omega)).mono ?_
      rintro e w' ⟨rfl, rfl⟩
      refine ⟨⟨0, ?_⟩, rfl⟩
      rw [hC]
      simp [val]
  have B8 : Hid (Below h w w7) := B7.out.trans (hg7.below h (by have := R7.out.lt; omega) (fun k hk => by have := Option.some.inj hk; omega))
  have M8 : Hid (MBox w7 M N1 N2 (.slice none 0 0)) := (hg7.block M M7.out.lt (fun e => by have := Option.some.inj e; omega)).trans M7.out
  have Z8 : Hid (MBox w7 h ⟨#[]⟩ ⟨#[]⟩ (.slice none 0 0)) := (hg7.block h (by have := R7.out.lt; omega) (fun e => by have := Option.some.inj e; omega)).trans Z7.out
  have R8 : Hid (RdBM w7 (h + 1) (L3.drop 1)) := hr7
  rw [E4.out] at R8
  generalize min (1 : Int).toNat L3.length = m7 at *
  clear hr7 hg7 hh7 B7 M7 Z7 R7 E4 E2 E3 hB3 hC hm7 EC
  go_wp2_with fail
  refine KF.out.mono ?_
  rintro e w8 ⟨⟨k8, rfl⟩, hw⟩
  obtain rfl := hw.symm
  clear hw KF
  have hcol : ∀ (l : List Rf), Dgs l → True := fun _ _ => trivial
  go_wp2_with fail
  go_loopg [21] C (fun g i wr => ∃ (j : Nat) (v : Value) (acc : List Rf) (sj : List Int), j ≤ C ∧ g = C - j ∧ i = .int .u64 (j : Int) ∧ acc.length = j ∧ Hid (acc ++ gl (C - j) sj = F) ∧ Hid (Dgs acc) ∧ Hid (MBox wr M N1 N2 v) ∧ Hid (OwnR wr (M + 1) v acc) ∧ Hid (RdBM wr (h + 1) sj) ∧ Hid (MBox wr h ⟨#[]⟩ ⟨#[]⟩ (.slice none 0 0)) ∧ Hid (Below h w wr))
  case atStart => exact ⟨0, .slice none 0 0, [], L4, Nat.zero_le _, rfl, rfl, rfl, EF, (fun x hx => by cases hx), M8, OwnR.nil _ _, R8, Z8, B8⟩
  case round =>
    obtain ⟨j, v, acc, sj, hj, rfl, rfl, hacc, HL, HD, MJ, OJ, RJ, ZJ, BJ⟩ := hrel
    by_cases hlt : j < C
    · have j1 : (j : Int) < (C : Int) := by omega
      have hz33 := (zero_of_info zero33_info).1
      obtain ⟨X, hX⟩ : ∃ X, X = wr.heap.size := ⟨_, rfl⟩
      have HX : Hid (X = wr.heap.size) := hX
      obtain ⟨WA, hWA⟩ : ∃ WA, WA = wr.alloc (.cells z33 80) := ⟨_, rfl⟩
      have HWA : Hid (WA = wr.alloc (.cells z33 80)) := hWA
      have AX : Below X wr WA := by rw [hWA, hX]; exact (Below.refl _ _).alloc (Nat.le_refl _) _
      have hXM : M < X := by rw [hX]; exact MJ.out.lt
      have XA : Hid (WA.heap[X]? = some (.cells z33 80)) := by show _ = _; rw [hWA, hX]; exact heap_alloc_new wr _
      have AX' : Below wr.heap.size wr WA := by rw [← hX]; exact AX
      have MA : Hid (MBox WA M N1 N2 v) := (AX.block M hXM).trans MJ.out
      have OA : Hid (OwnR WA (M + 1) v acc) := OJ.out.keep AX'
      have RA : Hid (RdBM WA (h + 1) sj) := RJ.out.keep AX'
      have ZA : Hid (MBox WA h ⟨#[]⟩ ⟨#[]⟩ (.slice none 0 0)) := (AX.block h (by omega)).trans ZJ.out
      have BA : Hid (Below h w WA) := BJ.out.trans (AX.mono (by omega))
      have OX : Hid (∀ k, v.ownBlock = some k → k < X) := fun k hk => by rw [HX.out]; exact (OJ.out.own k hk).2
      have RB : Hid (IsBytes sj) := RJ.out.bytes
      have KT : Hid (∀ W, RdBM W (h + 1) sj → Calls Tryd.prog 60 #[.pointer (some ⟨h + 1, 0, none⟩), .int .u64 32] W (TookM W (h + 1) (min (32 : Int).toNat sj.length) sj)) := fun W hr => takeM_is W (h + 1) 32 sj hr (by decide) (by decide)
      clear hX hWA AX AX' MJ OJ RJ ZJ BJ
      go_wp2_with fail
      rw [← HWA.out, ← HX.out]
      clear HWA HX hz33
      refine wp_region_noPanic ?_
      refine wp_region_any (by kernel_rfl) ?_
      change wpAny _ _ _ _ _ _ _ (World.drew _)
      have BD0 : Below h w WA.drew := below_drewR BA.out
      obtain ⟨WD, hWD⟩ : ∃ WD, WD = WA.drew := ⟨_, rfl⟩
      have XD : Hid (WD.heap[X]? = some (.cells z33 80)) := by show _ = _; rw [hWD]; exact XA.out
      have MD : Hid (MBox WD M N1 N2 v) := by show MBox _ _ _ _ _; rw [hWD]; exact MA.out
      have OD : Hid (OwnR WD (M + 1) v acc) := by show OwnR _ _ _ _; rw [hWD]; exact OA.out.block fun _ _ => rfl
      have RD : Hid (RdBM WD (h + 1) sj) := by show RdBM _ _ _; rw [hWD]; exact RA.out.block fun _ _ => rfl
      have ZD : Hid (MBox WD h ⟨#[]⟩ ⟨#[]⟩ (.slice none 0 0)) := by show MBox _ _ _ _ _; rw [hWD]; exact ZA.out
      have BD : Hid (Below h w WD) := by show Below _ _ _; rw [hWD]; exact BD0
      rw [← hWD]
      clear BD0 hWD XA MA OA RA ZA BA
      refine wpAny_take (i := 0) (v := ?v0a) rfl (by kernel_rfl) (by kernel_rfl) (by kernel_rfl) (fun _ _ _ h => h) (Or.inl ⟨by rfl, ?hy0a⟩) ?rest0a
      case hy0a => (intro w; go_simp; try with_reducible rfl)
      try simp only [Act.put, List.setIfInBounds_toArray, List.set_cons_zero, List.set_cons_succ, List.getElem_toArray, List.getElem_cons_zero]
      refine wpAny_take (i := 1) (v := ?v1a) rfl (by kernel_rfl) (by kernel_rfl) (by kernel_rfl) (fun _ _ _ h => h) (Or.inl ⟨by rfl, ?hy1a⟩) ?rest1a
      case hy1a => (intro w; go_simp; try with_reducible rfl)
      try simp only [Act.put, List.setIfInBounds_toArray, List.set_cons_zero, List.set_cons_succ, List.getElem_toArray, List.getElem_cons_zero, List.getElem_cons_succ]
      refine wpAny_ready (rs := [2]) (by kernel_rfl) (by simp) ?_
      refine AllReady.cons rfl (fun K hK0 => ?_) AllReady.nil
      have hK : Shut _ := hK0
      clear hK0
      go_simp; refine (KT.out _ RD.out).mono ?_; rintro e w4 ⟨a4, c4, rfl, hh4, hr4, hg4, hm4⟩; rw [show (32 : Int).toNat = 32 from rfl] at hh4 hr4; rw [(take_min sj 32).1] at hh4; rw [(take_min sj 32).2] at hr4; have H4 : Hid (Holds w4 a4 (sj.take 32)) := hh4; have R4 : Hid (RdBM w4 (h + 1) (sj.drop 32)) := hr4; have G4 : Hid (Gr WD w4 (some (h + 1)) (some (h + 1))) := hg4; clear hh4 hr4 hg4; go_wp2_with fail
      refine hK.out _ _ ?_
      clear hK K
      try simp only [Act.put, List.setIfInBounds_toArray, List.set_cons_zero, List.set_cons_succ, List.getElem_toArray, List.getElem_cons_zero, List.getElem_cons_succ]
      have hsD : X < WD.heap.size := (Array.getElem?_eq_some_iff.1 XD.out).1
      have n4 : ∀ k, k < WD.heap.size → k ≠ h + 1 → w4.heap[k]? = WD.heap[k]? := fun k hk hne => G4.out.block k hk (fun e => hne (Option.some.inj e).symm)
      have X4 : w4.heap[X]? = some (.cells (List.replicate 32 (Value.int .u8 0) ++ [Value.int .i64 0]).toArray 80) := (n4 X hsD (by omega)).trans XD.out
      have M4 : Hid (MBox w4 M N1 N2 v) := (n4 M (by omega) (by omega)).trans MD.out
      have O4 : Hid (OwnR w4 (M + 1) v acc) := OD.out.block fun k hk => n4 k (OD.out.own k hk).2 (by have := (OD.out.own k hk).1; omega)
      have Z4 : Hid (MBox w4 h ⟨#[]⟩ ⟨#[]⟩ (.slice none 0 0)) := (n4 h (by omega) (by omega)).trans ZD.out
      have B4 : Hid (Below h w w4) := BD.out.trans (G4.out.below h (by omega) (fun k hk => by have := Option.some.inj hk; omega))
      have HX4 : Hid (w4.heap[X]? = some (.cells (List.replicate 32 (Value.int .u8 0) ++ [Value.int .i64 0]).toArray 80)) := X4
      have HCP : Hid (0 < ((sj.take 32).map (Value.int .u8)).length → (some (⟨X, 0, none⟩ : Addr) = some ⟨X, 0, none⟩) ∧ ∃ ad, a4 = some ad ∧ ∀ j v, ((sj.take 32).map (Value.int .u8))[j]? = some v → w4.cell? (ad.add j) = some v) := by
        intro hp
        refine ⟨rfl, ?_⟩
        rcases H4.out with e | ⟨b, off, rfl, hcc⟩
        · rw [e] at hp; simp at hp
        · exact ⟨_, rfl, holds_cells (.inr ⟨b, off, rfl, hcc⟩)⟩
      have hlen : ((sj.take 32).map (Value.int .u8)).length = Nat.min (min 32 sj.length) 32 := by simp
      have hone : ∀ v ∈ (sj.take 32).map (Value.int .u8), v.oneCell' = true := by
        intro v hv
        obtain ⟨x, _, rfl⟩ := List.mem_map.1 hv
        rfl
      clear XD MD OD ZD BD RD G4 n4 X4 KT
      refine wpAny_ready (rs := [3]) (by kernel_rfl) (by simp) ?_
      refine AllReady.cons rfl (fun K hK0 => ?_) AllReady.nil
      have hK : Shut _ := hK0
      clear hK0
      refine step_copy_splice rfl (.tmp 24) (.tmp 25) 23 23 rfl 5 Tryd.underlying23 (by kernel_rfl) (some ⟨X, 0, none⟩) a4 32 32 (min 32 sj.length) c4 rfl rfl X 0 _ 80 HX4.out _ hlen HCP.out (by simp; omega) hone X w4 (Below.refl _ _) (Nat.le_refl _) ?_; intro w5 hg5 hb5; rw [splice_dg] at hg5; have B5 : Hid (Below X w4 w5) := hb5; clear hb5
      refine hK.out _ _ ?_
      clear hK K
      try simp only [Act.put, List.setIfInBounds_toArray, List.set_cons_zero, List.set_cons_succ, List.getElem_toArray, List.getElem_cons_zero, List.getElem_cons_succ]
      refine wpAny_done (by kernel_rfl) ?_ _
      refine NoPanic.normal ?_
      have X5 : Hid (w5.heap[X]? = some (.cells (rcl (dg32 sj, 0)).toArray 80)) := hg5.out
      have R5 : Hid (RdBM w5 (h + 1) (sj.drop 32)) := R4.out.block fun g hg => B5.out.block g (by omega)
      have M5 : Hid (MBox w5 M N1 N2 v) := (B5.out.block M hXM).trans M4.out
      have O5 : Hid (OwnR w5 (M + 1) v acc) := O4.out.block fun k hk => B5.out.block k (OX.out k hk)
      have Z5 : Hid (MBox w5 h ⟨#[]⟩ ⟨#[]⟩ (.slice none 0 0)) := (B5.out.block h (by omega)).trans Z4.out
      have C5 : Hid (Below h w w5) := B4.out.trans (B5.out.mono (by omega))
      obtain ⟨x, hx⟩ : ∃ x : Rf, x = (dg32 sj, wr64 (gn (sj.drop 32)).1) := ⟨_, rfl⟩
      have hgl : gl (C - j) sj = x :: gl (C - (j + 1)) (gn (sj.drop 32)).2 := by
        rw [show C - j = (C - (j + 1)) + 1 by omega, gl_succ, hx]
      have HL2 : Hid ((acc ++ [x]) ++ gl (C - (j + 1)) (gn (sj.drop 32)).2 = F) := by show _ = _; rw [← HL.out, hgl]; simp
      obtain ⟨u, hu⟩ : ∃ u, u = (gn (sj.drop 32)).1 := ⟨_, rfl⟩
      obtain ⟨_, u', _, _, hgn, _, _, u0, u1⟩ := gn_is R5.out.bytes
      have huu : u = u' := by rw [hu, hgn]
      rw [← huu] at u0 u1
      rw [← hu] at hx
      have hwz : IntKind.i64.wrap u = wr64 u := wrap64_is u u0 u1
      have hbs := R4.out.bytes
      have HDX : Hid (Dgs [x]) := by
        intro y hy
        rw [List.mem_singleton.1 hy, hx]
        refine ⟨dg32_len sj, ?_⟩
        have := gl_dgs 1 sj (RB.out) (dg32 sj, wr64 (gn (sj.drop 32)).1) (by simp [gl])
        exact this.2
      have HLN : Hid ((acc ++ [x]).length = j + 1) := by show _ = _; rw [List.length_append, hacc]; rfl
      have HD2 : Hid (Dgs (acc ++ [x])) := fun y hy => (List.mem_append.1 hy).elim (HD.out y) (HDX.out y)
      have KN : Hid (Calls Tryd.prog 63 #[.pointer (some ⟨h + 1, 0, none⟩)] w5 fun e w' => e = .returned (.int .u64 u) ∧ RdBM w' (h + 1) (gn (sj.drop 32)).2 ∧ Gr w5 w' (some (h + 1)) (some (h + 1))) := by rw [hu]; exact numberM_is w5 (h + 1) _ R5.out
      obtain ⟨s2, hs2⟩ : ∃ s2, s2 = (gn (sj.drop 32)).2 := ⟨_, rfl⟩
      rw [← hs2] at KN HL2
      have HXX : Hid (x = (dg32 sj, wr64 u)) := hx
      clear hg5 R4 H4 M4 O4 Z4 B4 HX4 HCP hlen hone hgl hgn huu hu hx hs2 hbs B5 R5 HL
      go_wp2_with fail
      refine KN.out.mono ?_
      rintro e w6 ⟨rfl, hr6, hg6⟩
      have hs5 : X < w5.heap.size := (Array.getElem?_eq_some_iff.1 X5.out).1
      have n6 : ∀ k, k < w5.heap.size → k ≠ h + 1 → w6.heap[k]? = w5.heap[k]? := fun k hk hne => hg6.block k hk (fun e => hne (Option.some.inj e).symm)
      have X6 : w6.heap[X]? = some (.cells (rcl (dg32 sj, 0)).toArray 80) := (n6 X hs5 (by omega)).trans X5.out
      have M6 : MBox w6 M N1 N2 v := (n6 M (by omega) (by omega)).trans M5.out
      have O6 : OwnR w6 (M + 1) v acc := O5.out.block fun k hk => n6 k (O5.out.own k hk).2 (by have := (O5.out.own k hk).1; omega)
      have Z6 : MBox w6 h ⟨#[]⟩ ⟨#[]⟩ (.slice none 0 0) := (n6 h (by omega) (by omega)).trans Z5.out
      have B6 : Below h w w6 := C5.out.trans (hg6.below h (by omega) (fun k hk => by have := Option.some.inj hk; omega))
      have hs6 := hg6.1.size
      have fX : w6.frozen? ⟨X, 32, none⟩ = false := frozen_of_row w6 X 32 _ _ X6
      have cX : w6.cell? ⟨X, 32, none⟩ = some (.int .i64 0) := by have := rcl_size (dg32_len sj) (row_range X6); rwa [Nat.zero_add] at this
      obtain ⟨W7, hW7⟩ : ∃ W7, W7 = w6.setCell ⟨X, 32, none⟩ (.int .i64 (wr64 u)) := ⟨_, rfl⟩
      have nb7 : ∀ k, k ≠ X → W7.heap[k]? = w6.heap[k]? := fun k hk => by rw [hW7]; exact Below.heap_setCell _ ⟨X, 32, none⟩ _ _ hk
      have X7 : W7.heap[X]? = some (.cells (rcl x).toArray 80) := by
        rw [hW7, HXX.out, ← rcl_set (dg32_len sj) 0 (wr64 u)]
        exact heap_setCell_ownM w6 X 32 _ _ _ X6 _
      have R7 : Hid (RdBM W7 (h + 1) s2) := hr6.block fun g hg => nb7 g (by omega)
      have M7 : Hid (MBox W7 M N1 N2 v) := (nb7 M (by omega)).trans M6
      have O7 : Hid (OwnR W7 (M + 1) v acc) := O6.block fun k hk => nb7 k (by have := OX.out k hk; omega)
      have Z7 : Hid (MBox W7 h ⟨#[]⟩ ⟨#[]⟩ (.slice none 0 0)) := (nb7 h (by omega)).trans Z6
      have B7 : Hid (Below h w W7) := by rw [hW7]; exact B6.setCell (p := ⟨X, 32, none⟩) (show h ≤ X by omega) _
      have HRG : Hid (W7.rangeAt X 0 (rcl x)) := row_range X7
      have hs7 : X < W7.heap.size := (Array.getElem?_eq_some_iff.1 X7).1
      have HL33 : Hid ((rcl x).length = 33) := rcl_len (by rw [HXX.out]; exact dg32_len sj)
      obtain ⟨⟨_, _, m2⟩, _, _, g2⟩ := M7.out.cells
      have HW7 : Hid (w6.setCell ⟨X, 32, none⟩ (.int .i64 (wr64 u)) = W7) := hW7.symm
      obtain ⟨W8, hW8⟩ : ∃ W8, W8 = W7.alloc (.cells (rcl x).toArray 80) := ⟨_, rfl⟩
      have HW8 : Hid (W7.alloc (.cells (rcl x).toArray 80) = W8) := hW8.symm
      have A8 : Hid (Below W7.heap.size W7 W8) := by rw [hW8]; exact (Below.refl _ _).alloc (Nat.le_refl _) _
      have hs8 : W8.heap.size = W7.heap.size + 1 := by rw [hW8]; simp
      have O8 : Hid (OwnR W8 (M + 1) v acc) := O7.out.keep A8.out
      have I8 : Hid (InR W8 (some ⟨W7.heap.size, 0, none⟩) [x]) := by
        refine .inr ⟨W7.heap.size, 0, rfl, by omega, fun i y hy => ?_⟩
        have hi : i = 0 := by
          have := (List.getElem?_eq_some_iff.1 hy).1
          simpa using this
        subst hi
        simp at hy
        subst hy
        rw [hW8]
        exact row_range (heap_alloc_new W7 _)
      obtain ⟨cx, hcx⟩ : ∃ cx, cx = rcl x := ⟨_, rfl⟩
      rw [← hcx] at HRG HL33 HW8
      have HSZ : Hid (cx.toArray.size = 33) := by show _ = _; rw [List.size_toArray]; exact HL33.out
      clear hr6 hg6 n6 M6 O6 Z6 B6 X6 hW7 X7 nb7 hW8 KN X5 M5 O5 Z5 C5 hcx
      generalize hwq : wr64 u = wz at *
      go_wp2_with (first | (refine wpList_load_mid rfl 80 (.tmp 7) rfl X 0 rfl cx _ HRG.out Tryd.underlying80 rfl (by rw [HL33.out]; exact size33) ?_) | (refine wpList_buildRef rfl (.tmp 32) rfl cx.toArray HSZ.out rfl ?_; rw [HW8.out]) | (at_builtin; refine append_refs rfl (.tmp 31) (.tmp 33) rfl (M + 1) v acc rfl O8.out ⟨W7.heap.size, 0, none⟩ 1 1 [x] rfl rfl I8.out HDX.out (by omega) (by omega) ?_; intro v9 w9 ho9 hg9; obtain ⟨a9, c9, hv9, _⟩ := ho9.slice HD2.out; rw [HLN.out] at hv9; subst hv9; have O9 : Hid (OwnR w9 (M + 1) (.slice a9 (j + 1) c9) (acc ++ [x])) := ho9; have G9 : Hid (W8.grownBy w9 v.ownBlock) := hg9; have M9 : MBox w9 M N1 N2 v := (hg9.block M (by omega) (fun e => by have := (O8.out.own M e.symm).1; omega)).trans ((A8.out.block M (by omega)).trans M7.out); obtain ⟨⟨_, _, m9⟩, _, _, g9⟩ := M9.cells; have HM9 : Hid (MBox w9 M N1 N2 v) := M9; clear ho9 hg9 M9) | (rw [HW7.out]))
      go_roundg (C - (j + 1))
      case measure => omega
      case rel =>
        have hs9 := G9.out.size
        have n9 : ∀ k, k < X → k ≠ M → (∀ q, v.ownBlock = some q → q ≠ k) → (w9.setCell ⟨M, 2, none⟩ (.slice a9 (j + 1) c9)).heap[k]? = W7.heap[k]? := fun k hk hne hq => (Below.heap_setCell _ ⟨M, 2, none⟩ _ _ hne).trans ((G9.out.block k (by omega) (fun e => hq k e.symm rfl)).trans (A8.out.block k (by omega)))
        have nq : ∀ k, k ≤ M → ∀ q, v.ownBlock = some q → q ≠ k := fun k hk q hq => by have := (O7.out.own q hq).1; omega
        refine ⟨j + 1, .slice a9 (j + 1) c9, acc ++ [x], s2, by omega, rfl, by go_num, by simp [hacc], HL2, HD2, HM9.out.set2 _, ?_, ?_, ?_, ?_⟩
        · refine O9.out.block fun k hk => Below.heap_setCell _ ⟨M, 2, none⟩ _ _ ?_
          have := (O9.out.own k hk).1
          show k ≠ M
          omega
        · exact R7.out.block fun g hg => n9 g (by omega) (by omega) (nq g (by omega))
        · exact (n9 h (by omega) (by omega) (nq h (by omega))).trans Z7.out
        · exact ((B7.out.trans (A8.out.mono (by omega))).grown G9.out (by omega) (fun k hk => by have := (O7.out.own k hk).1; omega)).setCell (p := ⟨M, 2, none⟩) (show h ≤ M by omega) _
    · have e : j = C := by omega
      subst e
      have j1 : ¬ (j : Int) < (j : Int) := by omega
      have HE : Hid (acc = F) := by show _ = _; have := HL.out; rw [Nat.sub_self] at this; simpa [gl] using this
      obtain ⟨⟨m0, m1, m2⟩, _, _, _⟩ := MJ.out.cells
      obtain ⟨⟨z0, z1, z2⟩, g0, g1, g2⟩ := ZJ.out.cells
      obtain ⟨av, cv, hv, _⟩ := OJ.out.slice HD.out
      rw [hacc] at hv
      subst hv
      go_wp2_with fail
      have Q1 := ZJ.out.set0 N1
      have Q2 := Q1.set1 N2
      have Q3 := Q2.set2 (.slice av j cv)
      refine bodyPost_ret (results_cell_row Tryd.results42 _ _ h _ _ _ _ rfl Q3 Tryd.underlying44 rfl size44) rfl ?_
      refine ⟨_, rfl, ?_, ?_⟩
      · rw [← HE.out, ← HH.out]
        refine OwnR.lower (OJ.out.block fun k hk => ?_) (by omega)
        have hk2 : k ≠ h := by have := (OJ.out.own k hk).1; omega
        exact ((Below.heap_setCell _ ⟨h, 2, none⟩ _ _ hk2).trans (Below.heap_setCell _ ⟨h, 1, none⟩ _ _ hk2)).trans (Below.heap_setCell _ ⟨h, 0, none⟩ _ _ hk2)
      · rw [← HH.out]
        exact ((BJ.out.setCell (p := ⟨h, 0, none⟩) (Nat.le_refl _) _).setCell (p := ⟨h, 1, none⟩) (Nat.le_refl _) _).setCell (p := ⟨h, 2, none⟩) (Nat.le_refl _) _
end Go.Proofs.YtlddoobomjcldaaDoor
namespace Go.Proofs.YtlddoobomjcldaaDoor
open Go.ChangeShapes Go.WideShapes Go.ChangeAt Go.RowKit Go.Deep Go.Maps
set_option linter.unusedVariables false
/-- a text at the front -/
def pt : List Int → Option (Tx × List Int)
  | [] => none
  | x :: r => if x.toNat ≤ r.length then some (Lib.bytesOf (r.take x.toNat), r.drop x.toNat) else none
/-- references to the end -/
def pls : Nat → List Int → List Rf → Option (List Rf)
  | 0, _, acc => some acc
  | f + 1, R, acc => if R = [] then some acc else if R.length < 33 then none
    else if (rv (R.drop 32) 0 0).2.2 ≠ 0 ∨ 2147483647 < (rv (R.drop 32) 0 0).1 then none
    else pls f (R.drop (32 + (rv (R.drop 32) 0 0).2.1.toNat)) (acc ++ [(R.take 32, (rv (R.drop 32) 0 0).1)])
def guess (L : List Int) : Option Mf := match pt (L.drop 3) with
  | none => none
  | some (N, r) => match pt r with
    | none => none
    | some (V, r2) => match pls (r2.drop 1).length (r2.drop 1) [] with
      | none => none
      | some l => some (N, V, l)
def rmdec (L : List Int) : Option Mf := match guess L with
  | none => none
  | some m => if mchk m = 0 ∧ menc m = L then some m else none
theorem vz_small (k : Nat) (h : k < 128) : vz (k : Int) = [(k : Int)] := by
  unfold vz svn
  rw [if_pos (by omega)]
  simp [varL]
theorem pt_text (t : Tx) (h : t.length < 128) (M : List Int) : pt (vr t.length ++ nm t ++ M) = some (t, M) := by
  rw [vr_vz _ (by omega), vz_small _ h]
  simp only [List.cons_append, pt, Int.toNat_natCast]
  have e : t.length = (nm t).length := (nm_length t).symm
  rw [if_pos (by simp [nm_length]), List.nil_append, e, List.take_left, List.drop_left, bytes_nm]
theorem pls_mel : ∀ (l : List Rf), (∀ x ∈ l, 0 ≤ x.2 ∧ x.2 ≤ 2147483647) → Dgs l → ∀ (f : Nat) (acc : List Rf), (mel l).length ≤ f → pls f (mel l) acc = some (acc ++ l)
  | [], _, _, f, acc, _ => by
    cases f <;> simp [pls, mel]
  | x :: r, hz, hd, f, acc, hf => by
    have hx := hz x (by simp)
    have h32 := (hd x (by simp)).1
    have hv := vz_len x.2
    have hl : (mel (x :: r)).length = 32 + (vz x.2).length + (mel r).length := by simp [mel, h32]; omega
    cases f with
    | zero => omega
    | succ f =>
      have e1 : (mel (x :: r)).drop 32 = vz x.2 ++ mel r := by
        simp only [mel]
        rw [List.append_assoc, ← h32, List.drop_left]
      have e2 : (mel (x :: r)).take 32 = x.1 := by
        simp only [mel]
        rw [List.append_assoc, ← h32, List.take_left]
      have hr : rv (vz x.2 ++ mel r) 0 0 = (x.2, ((svn x.2 : Int) + 1), 0) := by
        have := rv_back x.2 (svn x.2) hx.1 (by omega) (svn_sev x.2 hx.1 hx.2) (mel r)
        exact this
      have e3 : ((svn x.2 : Int) + 1).toNat = (vz x.2).length := by unfold vz; rw [varL_length]; omega
      unfold pls
      rw [if_neg (by intro e; rw [e] at hl; simp at hl; omega), if_neg (by omega), e1, hr]
      simp only
      rw [if_neg (by omega), e2, e3]
      have e4 : (mel (x :: r)).drop (32 + (vz x.2).length) = mel r := by
        rw [← List.drop_drop, e1, List.drop_left]
      rw [e4, pls_mel r (fun y hy => hz y (by simp [hy])) (fun y hy => hd y (by simp [hy])) f _ (by omega)]
      simp
theorem guess_menc {m : Mf} (h : mchk m = 0) (hd : Dgs m.2.2) : guess (menc m) = some m := by
  obtain ⟨⟨n1, n2⟩, h2, h3, h4⟩ := mchk_ok h
  have l1 := nmOk_len n1
  have l2 := nmOk_len n2
  obtain ⟨a, b, l⟩ := m
  simp only at *
  have e0 : (menc (a, b, l)).drop 3 = vr a.length ++ nm a ++ (vr b.length ++ nm b ++ ((l.length : Int) :: mel l)) := by simp [menc]
  unfold guess
  rw [e0, pt_text a (by omega)]
  simp only
  rw [pt_text b (by omega)]
  simp only [List.drop_one, List.tail_cons]
  rw [pls_mel l h4 hd _ [] (Nat.le_refl _)]
  simp
theorem pls_dgs : ∀ (f : Nat) (R : List Int) (acc : List Rf), IsBytes R → Dgs acc → ∀ l, pls f R acc = some l → Dgs l
  | 0, R, acc, hb, ha, l, h => by
    simp only [pls, Option.some.injEq] at h
    rw [← h]; exact ha
  | f + 1, R, acc, hb, ha, l, h => by
    unfold pls at h
    split at h
    · simp only [Option.some.injEq] at h
      rw [← h]; exact ha
    · split at h
      · simp at h
      · rename_i h33
        split at h
        · simp at h
        · refine pls_dgs f _ _ (bytes_drop hb _) ?_ l h
          intro y hy
          rcases List.mem_append.1 hy with hy | hy
          · exact ha y hy
          · rw [List.mem_singleton.1 hy]
            exact ⟨by rw [List.length_take]; omega, bytes_take hb 32⟩
theorem pt_bytes {R : List Int} (hb : IsBytes R) {t : Tx} {r : List Int} (h : pt R = some (t, r)) : IsBytes r := by
  cases R with
  | nil => simp [pt] at h
  | cons x s =>
    simp only [pt] at h
    split at h
    · simp only [Option.some.injEq, Prod.mk.injEq] at h
      rw [← h.2]
      have := bytes_drop hb 1
      simp at this
      exact bytes_drop this _
    · simp at h
theorem guess_dgs {L : List Int} (hb : IsBytes L) {m : Mf} (h : guess L = some m) : Dgs m.2.2 := by
  unfold guess at h
  split at h
  · simp at h
  · rename_i N r h1
    split at h
    · simp at h
    · rename_i V r2 h2
      split at h
      · simp at h
      · rename_i l h3
        simp only [Option.some.injEq] at h
        rw [← h]
        exact pls_dgs _ _ _ (bytes_drop (pt_bytes (pt_bytes (bytes_drop hb 3) h1) h2) 1) (fun x hx => by cases hx) l h3
theorem rmdec_eq {L : List Int} (hb : IsBytes L) : rmdec L = mdec L := by
  cases hd : mdec L with
  | some m =>
    obtain ⟨h1, h2, h3⟩ := mdec_some hd
    have hdg : Dgs m.2.2 := by rw [← h3]; exact mread_dgs hb
    have := guess_menc h1 hdg
    rw [h2] at this
    unfold rmdec
    rw [this]
    simp only
    rw [if_pos ⟨h1, h2⟩]
  | none =>
    unfold rmdec
    split
    · rfl
    · rename_i m hg
      rw [if_neg]
      intro hh
      have := (mdec_iff hb m (guess_dgs hb hg)).2 hh
      rw [hd] at this
      simp at this
/-- a reference more -/
theorem nextcapR {need old : Nat} (h : old < need) (hb : need ≤ 4300000000000) : Builtin.nextslicecap need old ≤ 7036874417766 := by
  unfold Builtin.nextslicecap
  split
  · omega
  · split
    · omega
    · simp only [Builtin.growBy]
      repeat' split
      all_goals omega
theorem farR_run {w : World} (base g n cap : Nat) (l : List Rf) (hd : Dgs l) (hown : OwnR w base (.slice (some ⟨g, 0, none⟩) n cap) l) (x : Rf) (hx : Dgs [x]) (ad : Addr) (hin : InR w (some ad) [x]) (hN : n + 1 ≤ 4300000000000) (hbase : base ≤ w.heap.size) (ty : TypeId) :
    ∃ a' c' w', (Builtin.append_ #[42, 42] ty #[.slice (some ⟨g, 0, none⟩) n cap, .slice (some ad) 1 1]).run Tryd.prog w = .ok (.slice (some a') (n + 1) c') w' ∧ OwnR w' base (.slice (some a') (n + 1) c') (l ++ [x]) ∧ Below base w w' := by
  obtain ⟨i, hi, hz, h1, h2⟩ := infoR
  have hsrc := hin.cells hx
  have hnl : (rcs [x]).length = 33 := by rw [rcs_len _ hx]; rfl
  have hll := rcs_len l hd
  have hone := rcs_one [x]
  have hle := hown
  rcases hown.2 with ⟨hv, _⟩ | ⟨g', cap', cur, hv, hbg, hg, hnc, hcm, hcs, htake⟩
  · simp at hv
  simp only [Value.slice.injEq, Option.some.injEq, Addr.mk.injEq, and_true] at hv
  obtain ⟨rfl, rfl, rfl⟩ := hv
  have hlen : (l ++ [x]).length = l.length + 1 := by simp
  by_cases hroom : l.length + 1 ≤ cap
  · have hr := run_append_room (P := Tryd.prog) w 42 ty 80 i Tryd.underlying42 hi g l.length cap cur hg ad 1 1 (rcs [x]) (by rw [hnl, h1]) hsrc hone hroom (by rw [hnl, h1]; omega)
    refine ⟨⟨g, 0, none⟩, cap, _, hr, ?_, ?_⟩
    · refine ⟨by rw [rcs_app, List.length_append, hnl, hll, hlen]; omega, .inr ⟨g, cap, _, by rw [hlen], hbg, setRow_heap w g cur _ 80 _ hg, by rw [hlen]; exact hroom, hcm, ?_, ?_⟩⟩
      · simp [h1, hnl]
        omega
      · rw [h1, htake, hlen, rcs_app]
        have e : (l.length + 1) * 33 = (rcs l ++ rcs [x]).length := by rw [List.length_append, hnl, hll]; omega
        rw [e]
        exact List.take_left
    · exact below_setRow (Below.refl _ _) hbg _
  · have holds : ∀ j u, (rcs l)[j]? = some u → w.cell? ((⟨g, 0, none⟩ : Addr).add j) = some u := World.ownsRow.cells hle (g := g) rfl
    have hr := run_append_grow (P := Tryd.prog) w 42 ty 80 i (.agg z33) Tryd.underlying42 hi hz ⟨g, 0, none⟩ l.length cap (rcs l) (by rw [hll, h1]) holds ad 1 1 (rcs [x]) (by rw [hnl, h1]) hsrc (by omega) (by omega) (by rw [h2]; have := nextcapR (need := l.length + 1) (old := cap) (by omega) hN; omega)
    have hge := grownCap_ge w (l.length + 1) cap 80
    have hle2 := grownCap_le_maxLen w (l.length + 1) cap 80 (by simp only [maxLen]; omega)
    refine ⟨_, _, _, hr, ?_, ?_⟩
    · refine ⟨by rw [rcs_app, List.length_append, hnl, hll, hlen]; omega, .inr ⟨w.heap.size, _, _, by rw [hlen], hbase, heap_alloc_new w.drew _, by rw [hlen]; exact hge, hle2, ?_, ?_⟩⟩
      · simp [size_zeroCells, hnl, hll, Value.cells, z33_size]
        omega
      · have e : (l ++ [x]).length * 33 = (rcs l ++ rcs [x]).length := by rw [hlen, List.length_append, hnl, hll]; omega
        rw [e, rcs_app]
        simp only [Array.toList_append, List.append_assoc]
        rw [← List.append_assoc]
        exact List.take_left
    · exact ((Below.refl base w).drew).alloc (by simpa using hbase) _
theorem farR {w : World} {ops : Array Oper} {rest : List Oper} {o : Oper} {act : Act} {Q : Exit → Act → World → Prop} (hgd : o.guard = none) (s x : Operand)
    (ho : o.op = .call { callee := .builtin .append, args := #[s, x], argTypes := #[42, 42] })
    (base : Nat) (v : Value) (l : List Rf) (hd : Dgs l) (hs : act.eval s = v) (hown : OwnR w base v l) (y : Rf) (hy : Dgs [y]) (ad : Addr) (hx : act.eval x = .slice (some ad) 1 1) (hin : InR w (some ad) [y]) (hN : l.length + 1 ≤ 4300000000000) (hbase : base ≤ w.heap.size)
    (h : ∀ v' w', OwnR w' base v' (l ++ [y]) → Below base w w' → wpList Tryd.prog ops Q rest (act.put o.dst v') w') :
    wpList Tryd.prog ops Q (o :: rest) act w := by
  by_cases hv : v = .slice none 0 0
  · subst hv
    have hl : l = [] := by
      rcases hown.2 with ⟨_, hn⟩ | ⟨g', cap', cur, hv, _⟩
      · exact List.length_eq_zero_iff.1 hn
      · simp at hv
    subst hl
    refine append_refs hgd s x ho base _ [] hs hown ad 1 1 [y] hx rfl hin hy (by simp) hbase ?_
    intro v' w' h1 h2
    exact h v' w' h1 ((Below.refl base w).grown h2 hbase (fun k hk => by cases hk))
  · obtain ⟨g, n, cap, rfl, hn⟩ : ∃ g n cap, v = .slice (some ⟨g, 0, none⟩) n cap ∧ l.length = n := by
      rcases hown.2 with ⟨hv', _⟩ | ⟨g', cap', cur, hv', _⟩
      · exact absurd hv' hv
      · exact ⟨g', l.length, cap', hv', rfl⟩
    obtain ⟨a', c', w', hr, h2, h3⟩ := farR_run base g n cap l hd hown y hy ad hin (by omega) hbase o.type
    refine wpList_plain hgd fun _ hK => ?_
    unfold Oper.wp execOp
    simp only [ho, resolve, invoke, builtin, Sem.run_bind, Sem.run_pure, Result.andThen_ok, List.map_toArray, List.map_cons, List.map_nil, hs, hx, hr]
    exact hK _ _ (h _ w' h2 h3)
end Go.Proofs.YtlddoobomjcldaaDoor
