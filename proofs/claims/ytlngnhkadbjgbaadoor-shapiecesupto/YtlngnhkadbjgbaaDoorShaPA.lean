/- append(s, x...) of bytes, with where the new slice lies: where the old one lay, or in the next new block. -/
import Derived.Test.YtlngnhkadbjgbaaDoorShaP
namespace Go.Proofs.YtlngnhkadbjgbaaDoor
open Go.ChangeShapes Go.WideShapes Go.ChangeAt Go.RowKit Go.Deep
set_option linter.unusedVariables false
theorem holds_src' {w : World} {ad : Addr} {L : List Int} (hh : Holds w (some ad) L) : ∀ j u, (L.map (Value.int .u8))[j]? = some u → w.cell? (ad.add j) = some u := by
  intro j u hu
  have hj : j < L.length := by
    have := (List.getElem?_eq_some_iff.1 hu).1
    simpa using this
  rcases hh with h | ⟨b, off, hb, hcell⟩
  · subst h; simp at hj
  · simp only [Option.some.injEq] at hb
    subst hb
    rw [add_plain, hcell j hj]
    simp [List.getElem?_eq_getElem hj] at hu
    simp [List.getD, List.getElem?_eq_getElem hj, hu]
theorem grownBy_refl (w : World) (row : Option Nat) : w.grownBy w row := ⟨rfl, rfl, rfl, Nat.le_refl _, fun _ _ _ => rfl⟩
theorem append_two_run {w : World} (base : Nat) (v : Value) (A : List Int) (hown : Owned w base v A)
    (a : Option Addr) (m c : Nat) (L : List Int) (hm : L.length = m) (hh : Holds w a L) (hc : a = none → c = 0) (hN : A.length + m ≤ 100000000000000) (hbase : base ≤ w.heap.size) (ty : TypeId) :
    ∃ v' w', (Builtin.append_ #[22, 22] ty #[v, .slice a m c]).run Tryd.prog w = .ok v' w' ∧ Owned w' base v' (A ++ L) ∧ w.grownBy w' v.ownBlock ∧ (v'.ownBlock = v.ownBlock ∨ v'.ownBlock = some w.heap.size) := by
  obtain ⟨i, hi, hz, h1, h2⟩ := info8p
  rcases hown.2 with ⟨rfl, hn0⟩ | ⟨g, cap, cur, rfl, hbg, hg, hnc, hcm, hcs, htake⟩
  · have hA0 : A = [] := List.length_eq_zero_iff.1 hn0
    subst hA0
    by_cases hm0 : m = 0
    · subst hm0
      have hL : L = [] := List.length_eq_zero_iff.1 hm
      subst hL
      refine ⟨.slice none 0 0, w, ?_, hown, grownBy_refl _ _, .inl rfl⟩
      cases a with
      | none => simp [Builtin.append_, run_underlying Tryd.underlying22, sizeOf, typeInfo, hi, Builtin.lenOf, Builtin.firstCells]
      | some ad => simp [Builtin.append_, run_underlying Tryd.underlying22, sizeOf, typeInfo, hi, Builtin.lenOf, Builtin.firstCells, loadCells, loadCellsFrom]
    · cases a with
      | none =>
        exfalso
        rcases hh with h | ⟨b, off, hb, _⟩
        · rw [h] at hm; simp at hm; omega
        · simp at hb
      | some ad =>
        have hr := run_append_nil (P := Tryd.prog) w 22 ty 5 i (.int .u8 0) Tryd.underlying22 hi hz ad m c (L.map (Value.int .u8)) (by simp [hm, h1]) (holds_src' hh) (by omega) (by omega) (by rw [h2]; omega)
        have hge := grownCap_ge w m 0 5
        have hle := grownCap_le_maxLen w m 0 5 (by simp only [maxLen]; omega)
        refine ⟨_, _, hr, ?_, ⟨rfl, rfl, rfl, by simp, fun k hk _ => Below.heap_alloc w.drew _ k hk⟩, .inr rfl⟩
        refine ⟨by simp, .inr ⟨w.heap.size, _, _, by simp [hm], hbase, heap_alloc_new w.drew _, by simp [hm]; exact hge, hle, ?_, ?_⟩⟩
        · simp [size_zeroCells, hm, Value.cells]; omega
        · rw [List.nil_append, hm, Nat.mul_one]
          simp only [Array.toList_append]
          have : (L.map (Value.int .u8)).toArray.toList.length = m := by simp [hm]
          rw [← this]
          exact List.take_left
  · have hAl : (A.map (Value.int .u8)).length = A.length := by simp
    rw [Nat.mul_one] at hcs htake
    cases a with
    | none =>
      have hL : L = [] := by
        rcases hh with h | ⟨b, off, hb, _⟩
        · exact h
        · simp at hb
      subst hL
      have hc0 := hc rfl
      subst hc0
      have hm0 : m = 0 := by rw [← hm]; rfl
      subst hm0
      refine ⟨.slice (some ⟨g, 0, none⟩) A.length cap, w, ?_, ?_, grownBy_refl _ _, .inl rfl⟩
      · simp [Builtin.append_, run_underlying Tryd.underlying22, sizeOf, typeInfo, hi, Builtin.lenOf, hnc, Builtin.firstCells, storeCells]
      · rw [List.append_nil]; exact hown
    | some ad =>
      have hlen : ((A ++ L).map (Value.int .u8)).length = A.length + m := by simp [hm]
      by_cases hroom : A.length + m ≤ cap
      · have hr := run_append_room (P := Tryd.prog) w 22 ty 5 i Tryd.underlying22 hi g A.length cap cur hg ad m c (L.map (Value.int .u8)) (by simp [hm, h1]) (holds_src' hh) (ints_oneCell _ _) hroom (by simp [h1, hm, hcs]; exact hroom)
        refine ⟨_, _, hr, ?_, ⟨rfl, rfl, rfl, by simp, fun k _ hk => setRow_other w g k _ (fun e => hk (by simp [Value.ownBlock, e]))⟩, .inl rfl⟩
        refine ⟨by simp, .inr ⟨g, cap, _, by simp [hm], hbg, setRow_heap w g cur _ 5 _ hg, by simp [hm]; exact hroom, hcm, ?_, ?_⟩⟩
        · simp [h1, hm]; omega
        · rw [h1]
          simp only [Nat.mul_one]
          rw [htake, List.length_append, hm, ← hlen, List.map_append]
          exact List.take_left
      · have holds : ∀ j u, (A.map (Value.int .u8))[j]? = some u → w.cell? ((⟨g, 0, none⟩ : Addr).add j) = some u := World.ownsRow.cells hown (g := g) rfl
        have hr := run_append_grow (P := Tryd.prog) w 22 ty 5 i (.int .u8 0) Tryd.underlying22 hi hz ⟨g, 0, none⟩ A.length cap (A.map (Value.int .u8)) (by simp [h1]) holds ad m c (L.map (Value.int .u8)) (by simp [hm, h1]) (holds_src' hh) (by omega) (by omega) (growslice_fits (by omega) (by rw [h2]; omega))
        have hge := grownCap_ge w (A.length + m) cap 5
        have hle := grownCap_le_maxLen w (A.length + m) cap 5 (by simp only [maxLen]; omega)
        refine ⟨_, _, hr, ?_, ⟨rfl, rfl, rfl, by simp, fun k hk _ => Below.heap_alloc w.drew _ k hk⟩, .inr rfl⟩
        refine ⟨by simp, .inr ⟨w.heap.size, _, _, by simp [hm], hbase, heap_alloc_new w.drew _, by simp [hm]; exact hge, hle, ?_, ?_⟩⟩
        · simp [size_zeroCells, hm, Value.cells]; omega
        · rw [List.length_append, hm, Nat.mul_one, ← hlen]
          simp only [Array.toList_append, List.append_assoc, List.map_append]
          rw [← List.append_assoc, ← List.map_append]
          exact List.take_left
theorem append_two {w : World} {ops : Array Oper} {rest : List Oper} {o : Oper} {act : Act} {Q : Exit → Act → World → Prop} (hgd : o.guard = none) (s x : Operand)
    (ho : o.op = .call { callee := .builtin .append, args := #[s, x], argTypes := #[22, 22] })
    (base : Nat) (v : Value) (A : List Int) (hs : act.eval s = v) (hown : Owned w base v A)
    (a : Option Addr) (m c : Nat) (L : List Int) (hx : act.eval x = .slice a m c) (hm : L.length = m) (hh : Holds w a L) (hc : a = none → c = 0) (hN : A.length + m ≤ 100000000000000) (hbase : base ≤ w.heap.size)
    (h : ∀ v' w', Owned w' base v' (A ++ L) → w.grownBy w' v.ownBlock → (v'.ownBlock = v.ownBlock ∨ v'.ownBlock = some w.heap.size) → wpList Tryd.prog ops Q rest (act.put o.dst v') w') :
    wpList Tryd.prog ops Q (o :: rest) act w := by
  obtain ⟨v', w', hr, h2, h3, h4⟩ := append_two_run base v A hown a m c L hm hh hc hN hbase o.type
  refine wpList_plain hgd fun _ hK => ?_
  unfold Oper.wp execOp
  simp only [ho, resolve, invoke, builtin, Sem.run_bind, Sem.run_pure, Result.andThen_ok, List.map_toArray, List.map_cons, List.map_nil, hs, hx, hr]
  exact hK _ _ (h v' w' h2 h3 h4)
end Go.Proofs.YtlngnhkadbjgbaaDoor
