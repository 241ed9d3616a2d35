/- Slices of texts, the texts as lists of bytes. Texts as lists of numbers: an index, a join, a cut, to bytes and back. framesOf. -/
import Derived.Test.YtchnbfdfcjahpaaMgWs4
import Derived.Lib.BufferMore
import Derived.Deep.AppendLies
import Derived.Test.YtchnbfdfcjahpaaMgWs0
import Derived.Lib.ConvBytes
import Derived.Test.YtchnbfdfcjahpaaMgWs14
namespace Go.Proofs.Ytchnbfdfcjahpaa
open Go.ChangeShapes Go.WideShapes Go.ChangeAt Go.RowKit Go.Deep
set_option linter.unusedVariables false
/-- a text's bytes as numbers -/
def sN (S : ByteArray) : List Int := S.toList.map fun b => (b.toNat : Int)
theorem sN_bytes (S : ByteArray) : IsBytes (sN S) := bytes_of_mem fun x hx => by
  simp only [sN, List.mem_map] at hx
  obtain ⟨b, _, rfl⟩ := hx
  have := b.toNat_lt
  omega
theorem sN_len (S : ByteArray) : (sN S).length = S.size := by
  unfold sN
  rw [List.length_map, ByteArray.toList_eq]
  rfl
theorem sN_str (S : ByteArray) : strOfNums (sN S) = S := by
  have h : (strOfNums (sN S)).toList = S.toList := by
    rw [Lib.strOfNums_toList]
    unfold sN Lib.bytesOf
    rw [List.map_map]
    conv => rhs; rw [← List.map_id S.toList]
    apply List.map_congr_left
    intro b _
    simp
  rw [ByteArray.toList_eq, ByteArray.toList_eq] at h
  exact ByteArray.ext (Array.toList_inj.1 h)
theorem str_inj {A B : List Int} (ha : IsBytes A) (hb : IsBytes B) (h : strOfNums A = strOfNums B) : A = B := by
  have e := congrArg ByteArray.toList h
  rw [Lib.strOfNums_toList, Lib.strOfNums_toList] at e
  exact (bytesOf_inj A B (bytes_mem ha) (bytes_mem hb)).1 e
theorem sN_nums {A : List Int} (ha : IsBytes A) : sN (strOfNums A) = A := str_inj (sN_bytes _) ha (sN_str _)
theorem info9 : (Try.prog.info? 9).map (fun i => (i.zero, i.size, i.bytes)) = some (some (.string ⟨#[]⟩), 1, 16) := by kernel_rfl
/-- texts as cells -/
def sV (l : List (List Int)) : List Value := l.map fun B => .string (strOfNums B)
theorem sV_len (l : List (List Int)) : (sV l).length = l.length := by simp [sV]
theorem sV_app (l m : List (List Int)) : sV (l ++ m) = sV l ++ sV m := by simp [sV]
theorem sV_one (l : List (List Int)) : ∀ u ∈ sV l, u.oneCell' = true := by
  intro u hu
  simp only [sV, List.mem_map] at hu
  obtain ⟨B, _, rfl⟩ := hu
  rfl
/-- a slice of texts, of one's own -/
def RowsS (w : World) (base : Nat) (v : Value) (Bs : List (List Int)) : Prop := w.ownsRow base 9 1 v Bs.length (sV Bs)
theorem RowsS.kept {w w' : World} {base : Nat} {v : Value} {Bs : List (List Int)} (h : RowsS w base v Bs) (hb : ∀ k, v.ownBlock = some k → w'.heap[k]? = w.heap[k]?) : RowsS w' base v Bs := by
  refine ⟨h.1, ?_⟩
  rcases h.2 with h1 | ⟨g, cap, cur, rfl, hbg, hg, rest⟩
  · exact .inl h1
  · exact .inr ⟨g, cap, cur, rfl, hbg, (hb g rfl).trans hg, rest⟩
theorem RowsS.own {w : World} {base : Nat} {v : Value} {Bs : List (List Int)} (h : RowsS w base v Bs) : ∀ k, v.ownBlock = some k → base ≤ k ∧ k < w.heap.size := fun k hk => World.ownsRow.lt h k hk
theorem RowsS.lt {w : World} {base : Nat} {v : Value} {Bs : List (List Int)} (h : RowsS w base v Bs) : ∀ k, v.ownBlock = some k → k < w.heap.size := fun k hk => (World.ownsRow.lt h k hk).2
theorem RowsS.below {w w' : World} {base B : Nat} {v : Value} {Bs : List (List Int)} (h : RowsS w base v Bs) (hb : Below B w w') (hB : ∀ k, v.ownBlock = some k → k < B) : RowsS w' base v Bs := h.kept fun k hk => hb.block k (hB k hk)
theorem RowsS.keep {w w' : World} {base : Nat} {v : Value} {Bs : List (List Int)} (h : RowsS w base v Bs) (hb : Below w.heap.size w w') : RowsS w' base v Bs := h.below hb h.lt
theorem RowsS.base {w : World} {a b : Nat} {v : Value} {Bs : List (List Int)} (h : RowsS w b v Bs) (hab : a ≤ b) : RowsS w a v Bs := by
  refine ⟨h.1, ?_⟩
  rcases h.2 with h1 | ⟨g, cap, cur, rfl, hbg, rest⟩
  · exact .inl h1
  · exact .inr ⟨g, cap, cur, rfl, Nat.le_trans hab hbg, rest⟩
theorem RowsS.nil (w : World) (base : Nat) : RowsS w base (.slice none 0 0) [] := World.ownsRow_nil _ _ _ _
/-- what may be read of a slice of texts: where it has any, they lie at its address -/
def InS (w : World) (a : Option Addr) (l : List (List Int)) : Prop := l = [] ∨ ∃ g off, a = some ⟨g, off, none⟩ ∧ ∀ i, i < l.length → w.cell? ⟨g, off + i, none⟩ = some (.string (strOfNums (l.getD i [])))
theorem RowsS.slice {w : World} {base : Nat} {v : Value} {l : List (List Int)} (h : RowsS w base v l) : ∃ a c, v = .slice a l.length c ∧ (a = none → c = 0 ∧ l = []) ∧ InS w a l ∧ l.length ≤ c ∧ c ≤ 9223372036854775807 := by
  rcases h.2 with ⟨rfl, hn⟩ | ⟨g, cap, cur, rfl, hb, hg, hl, hm, hs, ht⟩
  · have : l = [] := List.length_eq_zero_iff.1 hn
    subst this
    exact ⟨none, 0, rfl, fun _ => ⟨rfl, rfl⟩, .inl rfl, by simp, by simp⟩
  · refine ⟨_, _, rfl, fun h => by simp at h, .inr ⟨g, 0, rfl, fun i hi => ?_⟩, hl, by simpa [maxLen] using hm⟩
    have hc := World.ownsRow.cells h (g := g) rfl i (.string (strOfNums (l.getD i []))) (by simp [sV, List.getD, List.getElem?_eq_getElem hi])
    rwa [add_plain] at hc
theorem InS.kept {w w' : World} {a : Option Addr} {l : List (List Int)} (h : InS w a l) (hb : ∀ x, a = some x → l ≠ [] → w'.heap[x.block]? = w.heap[x.block]?) : InS w' a l := by
  rcases h with rfl | ⟨g, off, rfl, hc⟩
  · exact .inl rfl
  · refine .inr ⟨g, off, rfl, fun i hi => ?_⟩
    have hne : l ≠ [] := fun e => by subst e; simp at hi
    exact (World.cell?_of_block (a := ⟨g, off + i, none⟩) (hb ⟨g, off, none⟩ rfl hne)).trans (hc i hi)
theorem InS.lt {w : World} {a : Option Addr} {l : List (List Int)} (h : InS w a l) : ∀ x, a = some x → l ≠ [] → x.block < w.heap.size := by
  intro x hx hne
  rcases h with rfl | ⟨g, off, rfl, hc⟩
  · exact absurd rfl hne
  · obtain rfl := Option.some.inj hx
    exact World.block_lt_of_cell? _ _ (hc 0 (List.length_pos_iff.2 hne))
theorem InS.keep {w w' : World} {a : Option Addr} {l : List (List Int)} (h : InS w a l) (hb : Below w.heap.size w w') : InS w' a l := h.kept fun x hx hne => hb.block _ (h.lt x hx hne)
theorem InS.src {w : World} {x : Addr} {l : List (List Int)} (h : InS w (some x) l) : ∀ j u, (sV l)[j]? = some u → w.cell? (x.add j) = some u := by
  intro j u hu
  have hj : j < l.length := by have := (List.getElem?_eq_some_iff.1 hu).1; rwa [sV_len] at this
  rcases h with rfl | ⟨g, off, hx, hc⟩
  · simp at hj
  · obtain rfl := Option.some.inj hx
    rw [add_plain, hc j hj]
    simp [sV, List.getElem?_eq_getElem hj] at hu
    simp [List.getD, List.getElem?_eq_getElem hj, hu]
theorem appT_run {w : World} (base : Nat) (v : Value) (l : List (List Int)) (hown : RowsS w base v l) (x : Addr) (m c : Nat) (y : List (List Int)) (hm : y.length = m) (hin : InS w (some x) y) (hN : l.length + m ≤ 5000000000000) (hbase : base ≤ w.heap.size) (ty : TypeId) :
    ∃ v' w', (Builtin.append_ #[27, 27] ty #[v, .slice (some x) m c]).run Try.prog w = .ok v' w' ∧ RowsS w' base v' (l ++ y) ∧ w.grownBy w' v.ownBlock ∧ (v'.ownBlock = v.ownBlock ∨ v'.ownBlock = some w.heap.size) := by
  obtain ⟨i, hi, hz, h1, h2⟩ := info_parts info9
  obtain ⟨v', w', hr, ho, hg, _, ha⟩ := run_append_own_at (P := Try.prog) w base 27 ty 9 i (.string ⟨#[]⟩) 1 16 Try.underlying27 hi hz h1 h2 rfl (by decide) v l.length (sV l) hown x m c (sV y) (by rw [sV_len, hm, Nat.mul_one]) hin.src (sV_one y) (by simp only [maxLen]; omega) (by omega) hbase
  refine ⟨v', w', hr, ?_, hg, ha⟩
  unfold RowsS
  rw [List.length_append, sV_app, hm]
  exact ho
/-- append(s, x...) of texts, at the operation; where the new slice lies -/
theorem appT {w : World} {o : Oper} {act : Act} {K : Act → World → Prop} {Q : Exit → Act → World → Prop} (s x : Operand)
    (ho : o.op = .call { callee := .builtin .append, args := #[s, x], argTypes := #[27, 27] })
    (base : Nat) (v : Value) (l : List (List Int)) (hs : act.eval s = v) (hown : RowsS w base v l)
    (a : Addr) (m c : Nat) (y : List (List Int)) (hx : act.eval x = .slice (some a) m c) (hm : y.length = m) (hin : InS w (some a) y) (hN : l.length + m ≤ 5000000000000) (hbase : base ≤ w.heap.size)
    (h : ∀ v' w', RowsS w' base v' (l ++ y) → w.grownBy w' v.ownBlock → (v'.ownBlock = v.ownBlock ∨ v'.ownBlock = some w.heap.size) → K (act.put o.dst v') w') : o.wp Try.prog act w K Q := by
  obtain ⟨v', w', hr, h1, h2, h3⟩ := appT_run base v l hown a m c y hm hin hN hbase o.type
  unfold Oper.wp execOp
  simp only [ho, resolve, invoke, builtin, Sem.run_bind, Sem.run_pure, Result.andThen_ok, List.map_toArray, List.map_cons, List.map_nil, hs, hx, hr]
  exact h v' w' h1 h2 h3
theorem appTL {w : World} {ops : Array Oper} {rest : List Oper} {o : Oper} {act : Act} {Q : Exit → Act → World → Prop} (hgd : o.guard = none) (s x : Operand)
    (ho : o.op = .call { callee := .builtin .append, args := #[s, x], argTypes := #[27, 27] })
    (base : Nat) (v : Value) (l : List (List Int)) (hs : act.eval s = v) (hown : RowsS w base v l)
    (a : Addr) (m c : Nat) (y : List (List Int)) (hx : act.eval x = .slice (some a) m c) (hm : y.length = m) (hin : InS w (some a) y) (hN : l.length + m ≤ 5000000000000) (hbase : base ≤ w.heap.size)
    (h : ∀ v' w', RowsS w' base v' (l ++ y) → w.grownBy w' v.ownBlock → (v'.ownBlock = v.ownBlock ∨ v'.ownBlock = some w.heap.size) → wpList Try.prog ops Q rest (act.put o.dst v') w') : wpList Try.prog ops Q (o :: rest) act w :=
  wpList_plain hgd fun K hK => appT s x ho base v l hs hown a m c y hx hm hin hN hbase fun v' w' h1 h2 h3 => hK _ _ (h v' w' h1 h2 h3)
theorem appO_run {w : World} (base : Nat) (v : Value) (A : List Int) (hown : Owned w base v A) (x : Addr) (m c : Nat) (L : List Int) (hm : L.length = m) (hin : Holds w (some x) L) (hN : A.length + m ≤ 140737488355328) (hbase : base ≤ w.heap.size) (ty : TypeId) :
    ∃ v' w', (Builtin.append_ #[28, 28] ty #[v, .slice (some x) m c]).run Try.prog w = .ok v' w' ∧ Owned w' base v' (A ++ L) ∧ w.grownBy w' v.ownBlock ∧ (v'.ownBlock = v.ownBlock ∨ v'.ownBlock = some w.heap.size) := by
  obtain ⟨i, hi, hz, h1, h2⟩ := info8p
  have hsrc : ∀ j u, (L.map (Value.int .u8))[j]? = some u → w.cell? (x.add j) = some u := by
    intro j v hv
    rw [List.getElem?_map] at hv
    cases hj : L[j]? with
    | none => rw [hj] at hv; cases hv
    | some y =>
      rw [hj] at hv
      obtain rfl := Option.some.inj hv
      have hlt := (List.getElem?_eq_some_iff.1 hj).1
      rcases hin with rfl | ⟨b, o2, hx, hc⟩
      · simp at hlt
      · obtain rfl := Option.some.inj hx
        rw [add_plain, hc j hlt, List.getD_eq_getElem?_getD, hj]
        rfl
  obtain ⟨v', w', hr, ho, hg, _, ha⟩ := run_append_own_at (P := Try.prog) w base 28 ty 5 i (.int .u8 0) 1 1 Try.underlying28 hi hz h1 h2 rfl (by decide) v A.length (A.map (Value.int .u8)) hown x m c (L.map (Value.int .u8)) (by rw [List.length_map, hm, Nat.mul_one]) hsrc (ints_oneCell _ _) (by simp only [maxLen]; omega) (by omega) hbase
  refine ⟨v', w', hr, ?_, hg, ha⟩
  unfold Owned
  rw [List.length_append, List.map_append, hm]
  exact ho
/-- append(s, x...) of bytes, at the operation; where the new slice lies -/
theorem appO {w : World} {o : Oper} {act : Act} {K : Act → World → Prop} {Q : Exit → Act → World → Prop} (s x : Operand)
    (ho : o.op = .call { callee := .builtin .append, args := #[s, x], argTypes := #[28, 28] })
    (base : Nat) (v : Value) (A : List Int) (hs : act.eval s = v) (hown : Owned w base v A)
    (a : Addr) (m c : Nat) (L : List Int) (hx : act.eval x = .slice (some a) m c) (hm : L.length = m) (hin : Holds w (some a) L) (hN : A.length + m ≤ 140737488355328) (hbase : base ≤ w.heap.size)
    (h : ∀ v' w', Owned w' base v' (A ++ L) → w.grownBy w' v.ownBlock → (v'.ownBlock = v.ownBlock ∨ v'.ownBlock = some w.heap.size) → K (act.put o.dst v') w') : o.wp Try.prog act w K Q := by
  obtain ⟨v', w', hr, h1, h2, h3⟩ := appO_run base v A hown a m c L hm hin hN hbase o.type
  unfold Oper.wp execOp
  simp only [ho, resolve, invoke, builtin, Sem.run_bind, Sem.run_pure, Result.andThen_ok, List.map_toArray, List.map_cons, List.map_nil, hs, hx, hr]
  exact h v' w' h1 h2 h3
theorem appOL {w : World} {ops : Array Oper} {rest : List Oper} {o : Oper} {act : Act} {Q : Exit → Act → World → Prop} (hgd : o.guard = none) (s x : Operand)
    (ho : o.op = .call { callee := .builtin .append, args := #[s, x], argTypes := #[28, 28] })
    (base : Nat) (v : Value) (A : List Int) (hs : act.eval s = v) (hown : Owned w base v A)
    (a : Addr) (m c : Nat) (L : List Int) (hx : act.eval x = .slice (some a) m c) (hm : L.length = m) (hin : Holds w (some a) L) (hN : A.length + m ≤ 140737488355328) (hbase : base ≤ w.heap.size)
    (h : ∀ v' w', Owned w' base v' (A ++ L) → w.grownBy w' v.ownBlock → (v'.ownBlock = v.ownBlock ∨ v'.ownBlock = some w.heap.size) → wpList Try.prog ops Q rest (act.put o.dst v') w') : wpList Try.prog ops Q (o :: rest) act w :=
  wpList_plain hgd fun K hK => appO s x ho base v A hs hown a m c L hx hm hin hN hbase fun v' w' h1 h2 h3 => hK _ _ (h v' w' h1 h2 h3)
theorem rows_empty (w : World) (base : Nat) (hb : base ≤ w.heap.size) : RowsS (w.alloc (.cells #[] 9)) base (.slice (some ⟨w.heap.size, 0, none⟩) 0 0) [] :=
  World.ownsRow_made w #[] 0 hb (by simp) (by simp)
/-- slices.Clone of texts -/
theorem cloneS_is (w : World) (l : List (List Int)) (n c : Nat) (a : Option Addr) (hn : l.length = n) (hm : n ≤ 5000000000000) (ha : a = none → n = 0 ∧ c = 0) (hh : InS w a l) :
    Calls Try.prog 30 #[.slice a n c] w fun e w' => ∃ v, e = .returned v ∧ RowsS w' w.heap.size v l ∧ Below w.heap.size w w' := by
  cases a with
  | none =>
    obtain ⟨rfl, rfl⟩ := ha rfl
    obtain rfl : l = [] := List.length_eq_zero_iff.1 hn
    have hnil : ∀ W, (binOp .eql 27 (.slice none 0 0) (.slice none 0 0)).run Try.prog W = .ok (.bool true) W := fun W => Lib.run_eql_slice_nil_nil W _ _ Try.underlying27
    go_enter Try.func30, Try.ntmps30
    go_wp2_with fail
    go_ret
    exact ⟨_, rfl, RowsS.nil _ _, Below.refl _ _⟩
  | some x =>
    have HL : Hid (InS (w.alloc (.cells #[] 9)) (some x) l) := hh.keep ((Below.refl _ _).alloc (Nat.le_refl _) _)
    have hnil : ∀ W, (binOp .eql 27 (.slice (some x) n c) (.slice none 0 0)).run Try.prog W = .ok (.bool false) W := fun W => Lib.run_eql_slice_some_nil W _ _ _ Try.underlying27
    clear hh
    go_enter Try.func30, Try.ntmps30
    go_wp2_with (at_builtin; refine appTL rfl (.tmp 5) (.tmp 6) rfl w.heap.size _ [] rfl (rows_empty w w.heap.size (Nat.le_refl _)) _ _ _ l rfl hn HL.out (by simp; omega) (by simp) ?_; intro v1 w1 hown1 hg1 hat1; have OWN1 : Hid (RowsS w1 w.heap.size v1 l) := (by rw [List.nil_append] at hown1; exact hown1); have B1 : Hid (Below w.heap.size w w1) := (((Below.refl _ _).alloc (Nat.le_refl _) _).grown hg1 (by simp) (fun k e => Nat.le_of_eq (Option.some.inj e))); clear hown1 hg1 hat1)
    go_ret
    exact ⟨v1, rfl, OWN1.out, B1.out⟩
end Go.Proofs.Ytchnbfdfcjahpaa
namespace Go.Proofs.Ytchnbfdfcjahpaa
open Go.ChangeShapes Go.WideShapes Go.ChangeAt Go.RowKit Go.Deep
set_option linter.unusedVariables false
set_option maxRecDepth 100000
theorem run_index_nums (L : List Int) (j : Nat) (h : j < L.length) (hb : IsBytes L) (w : World) : (Instr.index 9 (.string (strOfNums L)) (.int .i64 (j : Int))).run Try.prog w = .ok (.int .u8 (L.getD j 0)) w := by
  have hs : (strOfNums L).size = L.length := strOfNums_size L
  rw [run_index_string (P := Try.prog) w 9 (strOfNums L) .i64 _ Try.underlying9, dif_pos ⟨by omega, by omega⟩]
  congr 2
  have b := hb j h
  have hl : j < (strOfNums L).data.toList.length := by rw [strOfNums_data]; simpa using h
  have e : (strOfNums L).data.toList[j]'hl = UInt8.ofNat (L[j]'h).toNat := by simp [strOfNums]
  have g : L.getD j 0 = L[j]'h := by simp [List.getD, List.getElem?_eq_getElem h]
  rw [g] at b ⊢
  show (((strOfNums L).data.toList[j]'hl).toNat : Int) = _
  rw [e]
  simp
  omega
theorem index_nums (w : World) (a : Act) (o : Oper) (x y : Operand) (ho : o.op = .index 9 x y) (S : ByteArray) (J : Int) (v : Int) (h : ∀ w, (Instr.index 9 (.string S) (.int .i64 J)).run Try.prog w = .ok (.int .u8 v) w) (hx : a.eval x = .string S) (hy : a.eval y = .int .i64 J) :
    (execOp a.eval o).run Try.prog w = .ok (.value (.int .u8 v)) w := by
  unfold execOp
  simp only [ho, hx, hy, Sem.run_bind, Sem.run_pure, Result.andThen_ok, h w]
theorem str_app (A B : List Int) : strOfNums A ++ strOfNums B = strOfNums (A ++ B) := by
  apply ByteArray.ext
  rw [ByteArray.data_append]
  simp [strOfNums]
theorem conv_bytes (L : List Int) (hb : IsBytes L) (n : Nat) (hn : L.length = n) (w : World) : ∃ c w', (convert 9 28 (.string (strOfNums L))).run Try.prog w = .ok (.slice (some ⟨w.heap.size, 0, none⟩) n c) w' ∧ Holds w' (some ⟨w.heap.size, 0, none⟩) L ∧ Below w.heap.size w w' := by
  have hr := Lib.run_convert_string_bytes (P := Try.prog) w 9 28 5 (strOfNums L) Try.underlying9 Try.underlying28 Try.underlying5
  have hs : (strOfNums L).size = n := by rw [strOfNums_size, hn]
  rw [hs] at hr
  refine ⟨_, _, hr, .inr ⟨w.heap.size, 0, rfl, fun i hi => ?_⟩, ⟨rfl, rfl, rfl, by rw [Lib.bytesWorld_size]; omega, fun k hk => Lib.bytesWorld_at_old w _ _ k hk⟩⟩
  rw [Nat.zero_add, Lib.bytesWorld_cell w 5 (strOfNums L) i (by omega)]
  congr 2
  have b := hb i hi
  have g : L.getD i 0 = L[i]'hi := by simp [List.getD, List.getElem?_eq_getElem hi]
  rw [g] at b ⊢
  have e : (strOfNums L).data.toList.getD i 0 = UInt8.ofNat (L[i]'hi).toNat := by simp [strOfNums, List.getD, List.getElem?_eq_getElem hi]
  rw [e]
  simp
  omega
theorem extract_nums (L : List Int) (i j : Nat) : (strOfNums L).extract i j = strOfNums ((L.take j).drop i) := by
  apply ByteArray.ext
  rw [ByteArray.data_extract]
  simp [strOfNums, List.drop_take]
end Go.Proofs.Ytchnbfdfcjahpaa
namespace Go.Proofs.Ytchnbfdfcjahpaa
open Go.ChangeShapes Go.WideShapes Go.ChangeAt Go.RowKit Go.Deep
set_option linter.unusedVariables false
theorem frame_big2 (w : World) (a : Option Addr) (n c : Nat) (h : 4096 < n) :
    Calls Try.prog 41 #[.slice a n c] w fun e w' => e = .returned (.tuple #[.slice none 0 0, .int .i64 3]) ∧ w' = w := by
  have e1 : (4096 : Int) < (n : Int) := by omega
  go_enter Try.func41, Try.ntmps41
  go_wp2
  go_ret2
  exact ⟨rfl, rfl⟩
theorem Holds.lt {w : World} {a : Option Addr} {L : List Int} (h : Holds w a L) : ∀ x, a = some x → L ≠ [] → x.block < w.heap.size := by
  intro x hx hne
  rcases h with rfl | ⟨g, off, rfl, hc⟩
  · exact absurd rfl hne
  · obtain rfl := Option.some.inj hx
    exact World.block_lt_of_cell? _ _ (hc 0 (List.length_pos_iff.2 hne))
/-- the frames of records, or why not -/
def frO (recs : List (List Int)) (room : Nat) : List Int × Int :=
  if ∃ B ∈ recs, 4096 < B.length then ([], 3) else if room < (joinL recs).length then ([], 7) else (joinL recs, 0)
theorem take_succ_getD (l : List (List Int)) (j : Nat) (h : j < l.length) : l.take (j + 1) = l.take j ++ [l.getD j []] := by
  rw [List.take_add_one, List.getElem?_eq_getElem h, List.getD_eq_getElem?_getD, List.getElem?_eq_getElem h]
  rfl
theorem joinL_app (A B : List (List Int)) : joinL (A ++ B) = joinL A ++ joinL B := by
  induction A with
  | nil => rfl
  | cons a A ih => simp [joinL, ih]
theorem joinL_one (B : List Int) : joinL [B] = frameL B := by simp [joinL]
set_option maxRecDepth 100000 in
set_option maxHeartbeats 4000000 in
theorem framesOf_is (w : World) (a : Option Addr) (n c : Nat) (recs : List (List Int)) (hn : recs.length = n) (hn2 : n ≤ 1000000) (hin : InS w a recs) (hB : ∀ B ∈ recs, IsBytes B) (room : Nat) (hr : room ≤ 1000000) :
    Calls Try.prog 26 #[.slice a n c, .int .i64 (room : Int)] w fun e w' => ∃ a' m' c', e = .returned (.tuple #[.slice a' m' c', .int .i64 (frO recs room).2]) ∧ (frO recs room).1.length = m' ∧ Owned w' w.heap.size (.slice a' m' c') (frO recs room).1 ∧ Below w.heap.size w w' := by
  have HI : Hid (InS w a recs) := hin
  have HB : Hid (∀ B ∈ recs, IsBytes B) := hB
  obtain ⟨R, hR⟩ : ∃ R, R = frO recs room := ⟨_, rfl⟩
  rw [← hR]
  have HR : Hid (R = frO recs room) := hR
  clear hin hB hR
  obtain ⟨h, hh⟩ : ∃ h, h = w.heap.size := ⟨_, rfl⟩
  have HH : Hid (h = w.heap.size) := hh
  clear hh
  go_enter Try.func26, Try.ntmps26
  go_wp2_with fail
  go_loopg [6, 7, 14] n (fun g v y i wr => ∃ (j : Nat) (O : List Int) (Y : Int), j ≤ n ∧ g = n - j ∧ i = .int .i64 (j : Int) ∧ y = .int .i64 Y ∧ O.length ≤ 4104 * j ∧ Hid (Owned wr h v O) ∧ Hid (Below h w wr) ∧ Hid ((∀ B ∈ recs.take j, B.length ≤ 4096) ∧ ((Y = 0 ∧ O = joinL (recs.take j) ∧ O.length ≤ room) ∨ (Y = 7 ∧ room < (joinL (recs.take j)).length ∧ O.length ≤ (joinL (recs.take j)).length))))
  case atStart => exact ⟨0, [], 0, Nat.zero_le _, rfl, rfl, rfl, by simp, World.ownsRow_nil _ _ _ _, Below.refl _ _, ⟨fun B hB => by simp at hB, .inl ⟨rfl, rfl, Nat.zero_le _⟩⟩⟩
  case round =>
    obtain ⟨j, O, Y, hj, rfl, rfl, rfl, hO, HO, HBW, HP⟩ := hrel
    have hsz := HBW.out.size
    have HBw : Hid (Below w.heap.size w wr) := by show Below _ _ _; rw [← HH.out]; exact HBW.out
    by_cases hjn : j < n
    · obtain ⟨g, off, rfl, hcell⟩ : ∃ g off, a = some ⟨g, off, none⟩ ∧ ∀ i, i < recs.length → w.cell? ⟨g, off + i, none⟩ = some (.string (strOfNums (recs.getD i []))) := by
        rcases HI.out with rfl | h
        · simp at hn; omega
        · exact h
      have hcj : wr.cell? ⟨g, off + j, none⟩ = some (.string (strOfNums (recs.getD j []))) := (HBw.out.cell (p := ⟨g, off + j, none⟩) (World.block_lt_of_cell? _ _ (hcell j (by omega)))).trans (hcell j (by omega))
      clear hcell
      have hmem : recs.getD j [] ∈ recs := by
        rw [List.getD_eq_getElem?_getD, List.getElem?_eq_getElem (by omega)]
        exact List.getElem_mem _
      have hXb := HB.out _ hmem
      have HT : Hid (recs.take (j + 1) = recs.take j ++ [recs.getD j []]) := take_succ_getD recs j (by omega)
      generalize recs.getD j [] = X at *
      obtain ⟨z, hz⟩ : ∃ z, z = X.length := ⟨_, rfl⟩
      obtain ⟨cc, w1, hcv, hh1, hb1⟩ := conv_bytes X hXb z hz.symm wr
      have H1 : Hid (Holds w1 (some ⟨wr.heap.size, 0, none⟩) X) := hh1
      have B1 : Hid (Below wr.heap.size wr w1) := hb1
      have HZ : Hid (X.length = z) := hz.symm
      have HM : Hid (X ∈ recs ∧ IsBytes X) := ⟨hmem, hXb⟩
      have i1 : (j : Int) < (n : Int) := by omega
      clear hh1 hb1 hmem hXb hz
      have O1 : Hid (Owned w1 h u6 O) := HO.out.below B1.out (Owned.lt' HO.out)
      have hs1 := B1.out.size
      have hhw : h ≤ wr.heap.size := by rw [HH.out]; exact hsz
      have BW1 : Hid (Below h w w1) := HBW.out.trans (B1.out.mono hhw)
      obtain ⟨ao, co, rfl, _⟩ := HO.out.slice
      by_cases hbig : 4096 < z
      · have HR2 : Hid (R = ([], 3)) := by
          show _ = _
          rw [HR.out]
          unfold frO
          rw [if_pos ⟨X, HM.out.1, by rw [HZ.out]; exact hbig⟩]
        have KF : Hid (Calls Try.prog 41 #[.slice (some ⟨wr.heap.size, 0, none⟩) z cc] w1 fun e w' => e = .returned (.tuple #[.slice none 0 0, .int .i64 3]) ∧ w' = w1) := frame_big2 w1 _ z cc hbig
        go_wp2_with fail
        refine KF.out.mono ?_
        rintro e w2 ⟨rfl, rfl⟩
        go_wp2_with fail
        go_ret2
        exact ⟨none, 0, 0, by rw [HR2.out]; rfl, by rw [HR2.out]; rfl, by rw [HR2.out]; exact World.ownsRow_nil _ _ _ _, by rw [← HH.out]; exact BW1.out⟩
      · have KF : Hid (Calls Try.prog 41 #[.slice (some ⟨wr.heap.size, 0, none⟩) z cc] w1 fun e w' => ∃ a' N c', e = .returned (.tuple #[.slice a' N c', .int .i64 0]) ∧ (frameL X).length = N ∧ Owned w' w1.heap.size (.slice a' N c') (frameL X) ∧ Below w1.heap.size w1 w') := by
          exact frame_ok w1 _ z cc X HZ.out (by omega) HM.out.2 H1.out (fun e => by cases e) H1.out.lt
        go_wp2_with fail
        refine KF.out.mono ?_
        rintro e w2 ⟨a2, N2, c2, rfl, hl2, ho2, hb2⟩
        have hl2' : N2 = 8 + z := by rw [← hl2, frameL_length, HZ.out]
        have hs2 := hb2.size
        have O2 : Hid (Owned w2 h (.slice ao O.length co) O) := O1.out.below hb2 (Owned.lt' O1.out)
        have F2 : Hid (Owned w2 w1.heap.size (.slice a2 N2 c2) (frameL X)) := ho2
        have BW2 : Hid (Below h w w2) := BW1.out.trans (hb2.mono (by omega))
        have HL2 : Hid ((frameL X).length = N2) := hl2
        have HZ2 : Hid (N2 = 8 + z) := hl2'
        have hle : N2 ≤ 4104 := by omega
        have HPj : Hid (∀ B ∈ recs.take (j + 1), B.length ≤ 4096) := by
          show ∀ B ∈ recs.take (j + 1), B.length ≤ 4096
          rw [HT.out]
          intro B hB
          rcases List.mem_append.1 hB with hB | hB
          · exact HP.out.1 B hB
          · have : B = X := by simpa using hB
            rw [this, HZ.out]; omega
        have HJ : Hid (joinL (recs.take (j + 1)) = joinL (recs.take j) ++ frameL X) := by show _ = _; rw [HT.out, joinL_snoc]
        have HJl : Hid ((joinL (recs.take (j + 1))).length = (joinL (recs.take j)).length + N2) := by show _ = _; rw [HJ.out, List.length_append, HL2.out]
        clear hl2 ho2 hb2 hl2'
        by_cases hfit : N2 ≤ room - O.length ∧ O.length ≤ room
        · have e1 : ¬ ((room : Int) - (O.length : Nat) < (N2 : Int)) := by omega
          go_wp2_with (at_builtin; refine append_bytes rfl (.tmp 24) (.tmp 25) rfl h _ O rfl O2.out _ _ _ (frameL X) rfl HL2.out F2.out.holds.1 F2.out.holds.2.2 (O.length + N2) rfl (by omega) (by rw [HH.out]; omega) ?_; intro a3 c3 w3 hown3 hbel3; have O3 : Hid (Owned w3 h (.slice a3 (O.length + N2) c3) (O ++ frameL X)) := hown3; have B3 : Hid (Below h w w3) := (BW2.out.trans hbel3); clear hown3 hbel3)
          go_roundg (n - (j + 1))
          case measure => omega
          case rel =>
            refine ⟨j + 1, O ++ frameL X, Y, by omega, rfl, by go_num, rfl, by rw [List.length_append, HL2.out]; omega, O3, B3, HPj.out, ?_⟩
            rcases HP.out.2 with ⟨h1, h2, h3⟩ | ⟨h1, h2, h3⟩
            · exact .inl ⟨h1, by rw [HJ.out, ← h2], by rw [List.length_append, HL2.out]; omega⟩
            · exact .inr ⟨h1, by rw [HJl.out]; omega, by rw [List.length_append, HL2.out, HJl.out]; omega⟩
        · have e1 : ((room : Int) - (O.length : Nat) < (N2 : Int)) := by omega
          go_wp2_with fail
          go_roundg (n - (j + 1))
          case measure => omega
          case rel =>
            refine ⟨j + 1, O, 7, by omega, rfl, by go_num, rfl, by omega, O2, BW2, HPj.out, .inr ⟨rfl, ?_, ?_⟩⟩
            · rw [HJl.out]
              rcases HP.out.2 with ⟨h1, h2, h3⟩ | ⟨h1, h2, h3⟩
              · rw [h2] at hfit; omega
              · omega
            · rw [HJl.out]
              rcases HP.out.2 with ⟨h1, h2, h3⟩ | ⟨h1, h2, h3⟩
              · rw [h2]; omega
              · omega
    · have e : j = n := by omega
      subst e
      have i1 : ¬ (j : Int) < (j : Int) := by omega
      have HT : Hid (recs.take j = recs) := List.take_of_length_le (by omega)
      have hnb : ¬ ∃ B ∈ recs, 4096 < B.length := fun ⟨B, hB, hl⟩ => by
        have := HP.out.1 B (by rw [HT.out]; exact hB)
        omega
      obtain ⟨ao, co, rfl, _⟩ := HO.out.slice
      rcases HP.out.2 with ⟨rfl, h2, h3⟩ | ⟨rfl, h2, h3⟩
      · rw [HT.out] at h2
        have HR2 : Hid (R = (O, 0)) := by
          show _ = _
          rw [HR.out]
          unfold frO
          rw [if_neg hnb, if_neg (by rw [← h2]; omega), h2]
        clear h2
        go_wp2_with fail
        go_ret2
        exact ⟨ao, O.length, co, by rw [HR2.out]; rfl, by rw [HR2.out], by rw [HR2.out, ← HH.out]; exact HO.out, by rw [← HH.out]; exact HBW.out⟩
      · rw [HT.out] at h2 h3
        have HR2 : Hid (R = ([], 7)) := by
          show _ = _
          rw [HR.out]
          unfold frO
          rw [if_neg hnb, if_pos h2]
        clear h2 h3
        go_wp2_with fail
        go_ret2
        exact ⟨none, 0, 0, by rw [HR2.out]; rfl, by rw [HR2.out]; rfl, by rw [HR2.out]; exact World.ownsRow_nil _ _ _ _, by rw [← HH.out]; exact HBW.out⟩
end Go.Proofs.Ytchnbfdfcjahpaa
