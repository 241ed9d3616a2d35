/- Slices of blocks, of one's own. -/
import Derived.Test.YtibgfjnddhfgpaaDkM
import Derived.OwnWalk
namespace Go.Proofs.Ytibgfjnddhfgpaa
open Go.ChangeShapes Go.WideShapes Go.ChangeAt Go.RowKit Go.Deep
set_option linter.unusedVariables false
/-- the cells of sixty-four noughts -/
def z64 : Array Value := (List.replicate 64 (Value.int .u8 0)).toArray
theorem infoB : ∃ i, Try.prog.info? 75 = some i ∧ i.zero = some (.agg z64) ∧ i.size = 64 ∧ i.bytes = 64 := info_parts (show (Try.prog.info? 75).map (fun i => (i.zero, i.size, i.bytes)) = some (some (.agg z64), 64, 64) by kernel_rfl)
/-- the cells of blocks -/
def bcs (B : List (List Int)) : List Value := B.flatten.map (Value.int .u8)
/-- each block has sixty-four bytes -/
def Is64 (B : List (List Int)) : Prop := ∀ x ∈ B, x.length = 64 ∧ IsBytes x
theorem flat_len : ∀ {B : List (List Int)}, Is64 B → B.flatten.length = B.length * 64
  | [], _ => rfl
  | x :: r, h => by
    rw [List.flatten_cons, List.length_append, (h x (by simp)).1, flat_len (fun y hy => h y (by simp [hy])), List.length_cons]
    omega
theorem flat_at : ∀ {B : List (List Int)}, Is64 B → ∀ (i k : Nat) (x : List Int), B[i]? = some x → k < 64 → B.flatten[i * 64 + k]? = x[k]?
  | [], _, i, k, x, h, _ => by simp at h
  | y :: r, hB, 0, k, x, h, hk => by
    simp at h
    subst h
    have := (hB y (by simp)).1
    rw [List.flatten_cons, Nat.zero_mul, Nat.zero_add, List.getElem?_append_left (by omega)]
  | y :: r, hB, i + 1, k, x, h, hk => by
    have hy := (hB y (by simp)).1
    have h' : r[i]? = some x := by simpa using h
    rw [List.flatten_cons, List.getElem?_append_right (by omega), hy, show (i + 1) * 64 + k - 64 = i * 64 + k by omega]
    exact flat_at (fun z hz => hB z (by simp [hz])) i k x h' hk
/-- a slice of blocks of one's own, from block 'base' on -/
def OwnB (w : World) (base : Nat) (v : Value) (B : List (List Int)) : Prop := w.ownsRow base 75 64 v B.length (bcs B)
theorem OwnB.nil (w : World) (base : Nat) : OwnB w base (.slice none 0 0) [] := World.ownsRow_nil _ _ _ _
theorem OwnB.own {w : World} {base : Nat} {v : Value} {B : List (List Int)} (h : OwnB w base v B) : ∀ k, v.ownBlock = some k → base ≤ k ∧ k < w.heap.size := fun k hk => World.ownsRow.lt h k hk
theorem OwnB.block {w w' : World} {base : Nat} {v : Value} {B : List (List Int)} (h : OwnB w base v B) (hb : ∀ k, v.ownBlock = some k → w'.heap[k]? = w.heap[k]?) : OwnB w' base v B := by
  refine ⟨h.1, ?_⟩
  rcases h.2 with h1 | ⟨g, cap, cur, rfl, hbg, hg, rest⟩
  · exact .inl h1
  · exact .inr ⟨g, cap, cur, rfl, hbg, (hb g rfl).trans hg, rest⟩
theorem OwnB.keep {w w' : World} {base : Nat} {v : Value} {B : List (List Int)} (h : OwnB w base v B) (hb : Below w.heap.size w w') : OwnB w' base v B := h.block fun k hk => hb.block k (h.own k hk).2
theorem OwnB.base {w : World} {a b : Nat} {v : Value} {B : List (List Int)} (h : OwnB w b v B) (hab : a ≤ b) : OwnB w a v B := by
  refine ⟨h.1, ?_⟩
  rcases h.2 with h1 | ⟨g, cap, cur, rfl, hbg, rest⟩
  · exact .inl h1
  · exact .inr ⟨g, cap, cur, rfl, Nat.le_trans hab hbg, rest⟩
/-- a byte of a block -/
theorem OwnB.cell {w : World} {base g n c : Nat} {B : List (List Int)} (h : OwnB w base (.slice (some ⟨g, 0, none⟩) n c) B) (h64 : Is64 B) (i k : Nat) (x : List Int) (hx : B[i]? = some x) (hk : k < 64) : w.cell? ⟨g, i * 64 + k, none⟩ = some (.int .u8 (x.getD k 0)) := by
  have hxl := (h64 x (List.mem_of_getElem? hx)).1
  have := World.ownsRow.cells h (g := g) rfl (i * 64 + k) (.int .u8 (x.getD k 0)) (by
    unfold bcs
    rw [List.getElem?_map, flat_at h64 i k x hx hk, List.getElem?_eq_getElem (by omega), List.getD_eq_getElem?_getD, List.getElem?_eq_getElem (by omega)]
    rfl)
  rw [add_plain, Nat.zero_add] at this
  exact this
/-- append(blocks, b) -/
theorem append_block {w : World} {ops : Array Oper} {rest : List Oper} {o : Oper} {act : Act} {Q : Exit → Act → World → Prop} (hgd : o.guard = none) (s x : Operand)
    (ho : o.op = .call { callee := .builtin .append, args := #[s, x], argTypes := #[66, 66] })
    (base : Nat) (v : Value) (B : List (List Int)) (hs : act.eval s = v) (hown : OwnB w base v B)
    (g c : Nat) (y : List Int) (hy : y.length = 64) (hx : act.eval x = .slice (some ⟨g, 0, none⟩) 1 c) (hc : w.heap[g]? = some (.cells (y.map (Value.int .u8)).toArray 75))
    (hN : B.length ≤ 1000000000) (hbase : base ≤ w.heap.size)
    (h : ∀ v' w', OwnB w' base v' (B ++ [y]) → w.grownBy w' v.ownBlock → wpList Try.prog ops Q rest (act.put o.dst v') w') :
    wpList Try.prog ops Q (o :: rest) act w := by
  obtain ⟨i, hi, hz, h1, h2⟩ := infoB
  refine wpList_append_own w hgd s x 66 ho base 75 i _ 64 64 Try.underlying66 hi hz h1 h2 rfl (by decide) v B.length _ hs hown ⟨g, 0, none⟩ 1 c (y.map (Value.int .u8)) hx (by rw [List.length_map, hy]) ?_ (by intro u hu; obtain ⟨z, _, rfl⟩ := List.mem_map.1 hu; rfl) (by simp only [maxLen]; omega) (by omega) hbase ?_
  · intro j u hu
    rw [add_plain, Nat.zero_add]
    simp only [World.cell?, hc]
    simpa using hu
  · intro v' w' hown' hg _
    refine h v' w' ?_ hg
    unfold OwnB
    rw [List.length_append]
    have : bcs (B ++ [y]) = bcs B ++ y.map (Value.int .u8) := by simp [bcs]
    rw [this]
    exact hown'
end Go.Proofs.Ytibgfjnddhfgpaa
