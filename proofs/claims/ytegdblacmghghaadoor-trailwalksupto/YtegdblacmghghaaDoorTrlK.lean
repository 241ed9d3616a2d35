/- What a loop's body keeps that collects texts: all that is not its own; append of one text, with where the new slice lies. -/
import Derived.Test.YtegdblacmghghaaDoorTrlV
import Derived.RangeFuncNested
import Derived.RangeFuncBound
import Derived.RangeFuncCalls
import Derived.RangeFuncLeaves
import Derived.Shelf.Abstract
import Derived.Shelf.RegionOpen
import Derived.OwnWalkIn
import Derived.TacticsInMore
import Derived.LoopNIn
import Derived.LoopIn
namespace Go.Proofs.YtegdblacmghghaaDoor
open Go.RowKit Go.Shelf Go.Deep
set_option linter.unusedVariables false
/-- the block of the slice that the box n₀ holds -/
def Has (n₀ : Nat) (W : World) (g : Nat) : Prop := ∃ v, W.cell? ⟨n₀, 0, none⟩ = some v ∧ v.ownBlock = some g
/-- what a body keeps whose own are the boxes n₀, n₀ + 1 and the row of the slice in the first of them -/
def Kp (n₀ : Nat) (W W' : World) : Prop :=
  Below n₀ W W' ∧ (∀ g o, W.heap[g]? = some o → o.isCells = true → n₀ + 2 ≤ g → ¬ Has n₀ W g → W'.heap[g]? = some o) ∧ ∀ g, Has n₀ W' g → Has n₀ W g ∨ (W.heap.size ≤ g ∧ g < W'.heap.size)
theorem Kp.trans {n₀ : Nat} {A B C : World} (h : Kp n₀ A B) (k : Kp n₀ B C) : Kp n₀ A C := by
  refine ⟨h.1.trans k.1, fun g o hg ho hn hno => ?_, fun g hc => ?_⟩
  · have hgA := (Array.getElem?_eq_some_iff.1 hg).1
    refine k.2.1 g o (h.2.1 g o hg ho hn hno) ho hn (fun hb => ?_)
    rcases h.2.2 g hb with h1 | h1
    · exact hno h1
    · omega
  · have s1 := h.1.size
    have s2 := k.1.size
    rcases k.2.2 g hc with h1 | h1
    · rcases h.2.2 g h1 with h2 | h2
      · exact .inl h2
      · exact .inr ⟨h2.1, by omega⟩
    · exact .inr ⟨by omega, h1.2⟩
theorem Kp.put {n₀ : Nat} {B : Nat} (hB : n₀ + 2 ≤ B) (W : World) (l : Nat) (o o' : Obj) (hl : B ≤ l) (ho : W.heap[l]? = some o) (hc : o.isCells = false) (_hw : o.isWalk = false) : Kp n₀ W (W.putObj l o') := by
  have hother : ∀ k, k ≠ l → (W.putObj l o').heap[k]? = W.heap[k]? := fun k hk => World.putObj_heap_other hk
  have hsz : (W.putObj l o').heap.size = W.heap.size := by simp
  have hcell : (W.putObj l o').cell? ⟨n₀, 0, none⟩ = W.cell? ⟨n₀, 0, none⟩ := by
    simp only [World.cell?, hother n₀ (by omega)]
  refine ⟨⟨rfl, rfl, rfl, by rw [hsz]; omega, fun k hk => hother k (by omega)⟩, fun g o2 hg ho2 hn _ => ?_, fun g hg => .inl ?_⟩
  · rw [hother g (fun e => ?_)]
    · exact hg
    · subst e
      rw [ho] at hg
      cases hg
      rw [hc] at ho2
      cases ho2
  · obtain ⟨v, h1, h2⟩ := hg
    rw [hcell] at h1
    exact ⟨v, h1, h2⟩
theorem append_one_run {w : World} (base : Nat) (v : Value) (l : List Tx) (hown : RowsS w base v l) (ad : Addr) (B : Tx) (hc : w.cell? ad = some (.string (tx B))) (hN : l.length ≤ 1000000000) (hbase : base ≤ w.heap.size) (ty : TypeId) :
    ∃ v' w', (Builtin.append_ #[25, 25] ty #[v, .slice (some ad) 1 1]).run Tryd.prog w = .ok v' w' ∧ RowsS w' base v' (l ++ [B]) ∧ w.grownBy w' v.ownBlock ∧ (v'.ownBlock = v.ownBlock ∨ v'.ownBlock = some w.heap.size) := by
  obtain ⟨i, hi, hz, h1, h2⟩ := info_parts infoT
  have hsrc : ∀ j u, [Value.string (tx B)][j]? = some u → w.cell? (ad.add j) = some u := by
    intro j y hy
    have hj : j = 0 := by
      have := (List.getElem?_eq_some_iff.1 hy).1
      simpa using this
    subst hj
    simp at hy
    subst hy
    have : ad.add 0 = ad := by unfold Addr.add; split <;> simp_all
    rw [this]
    exact hc
  rcases hown.2 with ⟨rfl, hn0⟩ | ⟨g, cap, cur, rfl, hbg, hg, hnc, hcm, hcs, htake⟩
  · have hA0 : l = [] := List.length_eq_zero_iff.1 hn0
    subst hA0
    have hr := run_append_nil (P := Tryd.prog) w 25 ty 9 i (.string ⟨#[]⟩) Tryd.underlying25 hi hz ad 1 1 [.string (tx B)] (by simp [h1]) hsrc (by omega) (by omega) (by rw [h2]; omega)
    have hge := grownCap_ge w 1 0 9
    have hle := grownCap_le_maxLen w 1 0 9 (by simp only [maxLen]; omega)
    refine ⟨_, _, hr, ?_, ⟨rfl, rfl, rfl, by simp, fun k hk _ => Below.heap_alloc w.drew _ k hk⟩, .inr rfl⟩
    refine ⟨by simp, .inr ⟨w.heap.size, _, _, by simp, hbase, heap_alloc_new w.drew _, by simp; exact hge, hle, ?_, ?_⟩⟩
    · simp [size_zeroCells, Value.cells]; omega
    · simp
  · have hAl : (l.map fun x => Value.string (tx x)).length = l.length := by simp
    rw [Nat.mul_one] at hcs htake
    have hlen : ((l ++ [B]).map fun x => Value.string (tx x)).length = l.length + 1 := by simp
    by_cases hroom : l.length + 1 ≤ cap
    · have hr := run_append_room (P := Tryd.prog) w 25 ty 9 i Tryd.underlying25 hi g l.length cap cur hg ad 1 1 [.string (tx B)] (by simp [h1]) hsrc (by simp [Value.oneCell']) hroom (by simp [h1, hcs]; exact hroom)
      refine ⟨_, _, hr, ?_, ⟨rfl, rfl, rfl, by simp, fun k _ hk => setRow_other w g k _ (fun e => hk (by simp [Value.ownBlock, e]))⟩, .inl rfl⟩
      refine ⟨by simp, .inr ⟨g, cap, _, by simp, hbg, setRow_heap w g cur _ 9 _ hg, by simp; exact hroom, hcm, ?_, ?_⟩⟩
      · simp [h1]; omega
      · rw [h1]
        simp only [Nat.mul_one]
        rw [htake, List.length_append, List.length_singleton, ← hlen, List.map_append]
        exact List.take_left
    · have holds : ∀ j u, (l.map fun x => Value.string (tx x))[j]? = some u → w.cell? ((⟨g, 0, none⟩ : Addr).add j) = some u := World.ownsRow.cells hown (g := g) rfl
      have hr := run_append_grow (P := Tryd.prog) w 25 ty 9 i (.string ⟨#[]⟩) Tryd.underlying25 hi hz ⟨g, 0, none⟩ l.length cap (l.map fun x => Value.string (tx x)) (by simp [h1]) holds ad 1 1 [.string (tx B)] (by simp [h1]) hsrc (by omega) (by omega) (growslice_fits (by omega) (by rw [h2]; omega))
      have hge := grownCap_ge w (l.length + 1) cap 9
      have hle := grownCap_le_maxLen w (l.length + 1) cap 9 (by simp only [maxLen]; omega)
      refine ⟨_, _, hr, ?_, ⟨rfl, rfl, rfl, by simp, fun k hk _ => Below.heap_alloc w.drew _ k hk⟩, .inr rfl⟩
      refine ⟨by simp, .inr ⟨w.heap.size, _, _, by simp, hbase, heap_alloc_new w.drew _, by simp; exact hge, hle, ?_, ?_⟩⟩
      · simp [size_zeroCells, Value.cells]; omega
      · rw [List.length_append, List.length_singleton, Nat.mul_one, ← hlen]
        simp only [Array.toList_append, List.append_assoc, List.map_append]
        rw [← List.append_assoc]
        exact List.take_left
theorem wpListIn_append_one {F : Fence} {n : Nat} {w : World} {ops : Array Oper} {rest : List Oper} {o : Oper} {a : Act} {Q : Exit → Act → World → Prop}
    (hg : o.guard = none) (s x : Operand) (hop : o.op = Op.call { callee := Callee.builtin Builtin.append, args := #[s, x], argTypes := #[25, 25] })
    (base : Nat) (v : Value) (l : List Tx) (hs : a.eval s = v) (hown : RowsS w base v l) (ad : Addr) (B : Tx) (hx : a.eval x = .slice (some ad) 1 1) (hc : w.cell? ad = some (.string (tx B))) (hN : l.length ≤ 1000000000) (hbase : base ≤ w.heap.size)
    (hK : ∀ v' w', RowsS w' base v' (l ++ [B]) → w.grownBy w' v.ownBlock → (v'.ownBlock = v.ownBlock ∨ v'.ownBlock = some w.heap.size) → wpListIn F n Tryd.prog ops Q rest (a.put o.dst v') w') :
    wpListIn F n Tryd.prog ops Q (o :: rest) a w := by
  refine wpListIn_plain hg fun K hK' => ?_
  obtain ⟨v', w', hrun, r1, r2, r3⟩ := append_one_run base v l hown ad B hc hN hbase o.type
  unfold Oper.wpIn
  refine ⟨?_, ?_⟩
  · simp [Oper.about, hop, resolve, Target.leads, Sem.run_pure]
  · rw [Oper.semAt_plain F _ _ (by rw [hop]; intro c hc'; cases hc')]
    simp [execOp, hop, resolve, invoke, builtin, hs, hx, hrun, Result.andThen]
    exact hK' _ _ (hK v' w' r1 r2 r3)
end Go.Proofs.YtegdblacmghghaaDoor
