/- append onto a slice of bytes of one's own: bytes, a text; with where the new slice lies and what else changed (as MemA, texts as they are). Contract of num.ReadVar: whatever bytes the slice holds, it answers as the plain function 'rv' does, and leaves the world as it was. Contracts of math/bits.Len64 (the library's own text) and num.sevens: how many bits, how many sevens a number needs. Contract of num.Var: the sevens of any number, in one new block. -/
import Derived.Test.YtcindeechmpalaaGreatMgKl2
import Derived.Test.YtcindeechmpalaaGreatMgKl11
import Derived.Lib.AppendStr
import Derived.ArgAppend
import Derived.Test.YtcindeechmpalaaGreatRows
import Derived.Test.YtcindeechmpalaaGreatMgKl3
import Derived.WalkKit
import Derived.ProofKit
import Derived.OpenShut
import Derived.WalkSpells
import Derived.WalkLawsBesides
import Derived.Outline
import Derived.LoopTactic
import Derived.Deep.LoopGhost
import Derived.Laws.BitsAllLaws
import Derived.Laws.Bits64
import Derived.Deep.OwnRows
import Derived.Lib.BitFns
import Derived.Test.YtcindeechmpalaaGreatMgKl0
namespace Go.Proofs.YtcindeechmpalaaGreat
open Go.ChangeShapes Go.WideShapes Go.ChangeAt Go.RowKit Go.Deep
set_option linter.unusedVariables false
theorem strCells_sN (t : ByteArray) : Lib.strCells t = (sN t).map (Value.int .u8) := by
  conv => lhs; rw [← sN_str t]
  simp only [Lib.strCells, strOfNums, List.map_map]
  unfold sN
  simp only [List.map_map]
  apply List.map_congr_left
  intro b hb
  simp
theorem holds_cells {w : World} {ad : Addr} {L : List Int} (hh : Holds w (some ad) L) : ∀ j u, (L.map (Value.int .u8))[j]? = some u → w.cell? (ad.add j) = some u := by
  intro j u hu
  have hj : j < L.length := by
    have := (List.getElem?_eq_some_iff.1 hu).1
    simpa using this
  rcases hh with h | ⟨b, off, hb, hcell⟩
  · subst h; simp at hj
  · simp only [Option.some.injEq] at hb
    subst hb
    rw [add_plain, hcell j hj]
    simp [List.getElem?_eq_getElem hj] at hu
    simp [List.getD, List.getElem?_eq_getElem hj, hu]
theorem appB_run {w : World} (base : Nat) (v : Value) (A : List Int) (hown : Owned w base v A)
    (a : Option Addr) (m c : Nat) (L : List Int) (hm : L.length = m) (hh : Holds w a L) (hc : a = none → c = 0) (hN : A.length + m ≤ 100000000000000) (hbase : base ≤ w.heap.size) (ty : TypeId) :
    ∃ v' w', (Builtin.append_ #[86, 86] ty #[v, .slice a m c]).run Tryz.prog w = .ok v' w' ∧ Owned w' base v' (A ++ L) ∧ w.grownBy w' v.ownBlock ∧ (v'.ownBlock = v.ownBlock ∨ v'.ownBlock = some w.heap.size) := by
  obtain ⟨i, hi, hz, h1, h2⟩ := info8p
  rcases hown.2 with ⟨rfl, hn0⟩ | ⟨g, cap, cur, rfl, hbg, hg, hnc, hcm, hcs, htake⟩
  · have hA0 : A = [] := List.length_eq_zero_iff.1 hn0
    subst hA0
    by_cases hm0 : m = 0
    · subst hm0
      have hL : L = [] := List.length_eq_zero_iff.1 hm
      subst hL
      refine ⟨.slice none 0 0, w, ?_, hown, gB_refl _ _, .inl rfl⟩
      cases a with
      | none => simp [Builtin.append_, run_underlying Tryz.underlying86, sizeOf, typeInfo, hi, Builtin.lenOf, Builtin.firstCells]
      | some ad => simp [Builtin.append_, run_underlying Tryz.underlying86, sizeOf, typeInfo, hi, Builtin.lenOf, Builtin.firstCells, loadCells, loadCellsFrom]
    · cases a with
      | none =>
        exfalso
        rcases hh with h | ⟨b, off, hb, _⟩
        · rw [h] at hm; simp at hm; omega
        · simp at hb
      | some ad =>
        have hr := run_append_nil (P := Tryz.prog) w 86 ty 5 i (.int .u8 0) Tryz.underlying86 hi hz ad m c (L.map (Value.int .u8)) (by simp [hm, h1]) (holds_cells hh) (by omega) (by omega) (by rw [h2]; omega)
        have hge := grownCap_ge w m 0 5
        have hle := grownCap_le_maxLen w m 0 5 (by simp only [maxLen]; omega)
        refine ⟨_, _, hr, ?_, ⟨rfl, rfl, rfl, by simp, fun k hk _ => Below.heap_alloc w.drew _ k hk⟩, .inr rfl⟩
        refine ⟨by simp, .inr ⟨w.heap.size, _, _, by simp [hm], hbase, heap_alloc_new w.drew _, by simp [hm]; exact hge, hle, ?_, ?_⟩⟩
        · simp [size_zeroCells, hm, Value.cells]; omega
        · rw [List.nil_append, hm, Nat.mul_one]
          simp only [Array.toList_append]
          have : (L.map (Value.int .u8)).toArray.toList.length = m := by simp [hm]
          rw [← this]
          exact List.take_left
  · have hAl : (A.map (Value.int .u8)).length = A.length := by simp
    rw [Nat.mul_one] at hcs htake
    cases a with
    | none =>
      have hL : L = [] := by
        rcases hh with h | ⟨b, off, hb, _⟩
        · exact h
        · simp at hb
      subst hL
      have hc0 := hc rfl
      subst hc0
      have hm0 : m = 0 := by rw [← hm]; rfl
      subst hm0
      refine ⟨.slice (some ⟨g, 0, none⟩) A.length cap, w, ?_, ?_, gB_refl _ _, .inl rfl⟩
      · simp [Builtin.append_, run_underlying Tryz.underlying86, sizeOf, typeInfo, hi, Builtin.lenOf, hnc, Builtin.firstCells, storeCells]
      · rw [List.append_nil]; exact hown
    | some ad =>
      have hlen : ((A ++ L).map (Value.int .u8)).length = A.length + m := by simp [hm]
      by_cases hroom : A.length + m ≤ cap
      · have hr := run_append_room (P := Tryz.prog) w 86 ty 5 i Tryz.underlying86 hi g A.length cap cur hg ad m c (L.map (Value.int .u8)) (by simp [hm, h1]) (holds_cells hh) (ints_oneCell _ _) hroom (by simp [h1, hm, hcs]; exact hroom)
        refine ⟨_, _, hr, ?_, ⟨rfl, rfl, rfl, by simp, fun k _ hk => setRow_other w g k _ (fun e => hk (by simp [Value.ownBlock, e]))⟩, .inl rfl⟩
        refine ⟨by simp, .inr ⟨g, cap, _, by simp [hm], hbg, setRow_heap w g cur _ 5 _ hg, by simp [hm]; exact hroom, hcm, ?_, ?_⟩⟩
        · simp [h1, hm]; omega
        · rw [h1]
          simp only [Nat.mul_one]
          rw [htake, List.length_append, hm, ← hlen, List.map_append]
          exact List.take_left
      · have holds : ∀ j u, (A.map (Value.int .u8))[j]? = some u → w.cell? ((⟨g, 0, none⟩ : Addr).add j) = some u := World.ownsRow.cells hown (g := g) rfl
        have hr := run_append_grow (P := Tryz.prog) w 86 ty 5 i (.int .u8 0) Tryz.underlying86 hi hz ⟨g, 0, none⟩ A.length cap (A.map (Value.int .u8)) (by simp [h1]) holds ad m c (L.map (Value.int .u8)) (by simp [hm, h1]) (holds_cells hh) (by omega) (by omega) (growslice_fits (by omega) (by rw [h2]; omega))
        have hge := grownCap_ge w (A.length + m) cap 5
        have hle := grownCap_le_maxLen w (A.length + m) cap 5 (by simp only [maxLen]; omega)
        refine ⟨_, _, hr, ?_, ⟨rfl, rfl, rfl, by simp, fun k hk _ => Below.heap_alloc w.drew _ k hk⟩, .inr rfl⟩
        refine ⟨by simp, .inr ⟨w.heap.size, _, _, by simp [hm], hbase, heap_alloc_new w.drew _, by simp [hm]; exact hge, hle, ?_, ?_⟩⟩
        · simp [size_zeroCells, hm, Value.cells]; omega
        · rw [List.length_append, hm, Nat.mul_one, ← hlen]
          simp only [Array.toList_append, List.append_assoc, List.map_append]
          rw [← List.append_assoc, ← List.map_append]
          exact List.take_left
theorem Owned.base {w : World} {a b : Nat} {v : Value} {A : List Int} (h : Owned w b v A) (hab : a ≤ b) : Owned w a v A := by
  refine ⟨h.1, ?_⟩
  rcases h.2 with h1 | ⟨g, cap, cur, rfl, hbg, rest⟩
  · exact .inl h1
  · exact .inr ⟨g, cap, cur, rfl, Nat.le_trans hab hbg, rest⟩
/-- append onto a slice that has no room -/
theorem append_grow {w : World} {ops : Array Oper} {rest : List Oper} {o : Oper} {act : Act} {Q : Exit → Act → World → Prop} (hgd : o.guard = none) (s x : Operand)
    (ho : o.op = .call { callee := .builtin .append, args := #[s, x], argTypes := #[86, 86] })
    (A : List Int) (q : Nat) (hq : A.length = q) (g : Addr) (hs : act.eval s = .slice (some g) q q) (hA : Holds w (some g) A)
    (ad : Addr) (m c : Nat) (L : List Int) (hx : act.eval x = .slice (some ad) m c) (hm : L.length = m) (hh : Holds w (some ad) L) (h0 : 0 < m) (hN : q + m ≤ 140737488355328)
    (h : ∀ v' w', Owned w' w.heap.size v' (A ++ L) → Below w.heap.size w w' → wpList Tryz.prog ops Q rest (act.put o.dst v') w') :
    wpList Tryz.prog ops Q (o :: rest) act w := by
  subst hq
  obtain ⟨i, hi, hz, h1, h2⟩ := info8p
  obtain ⟨v', w', hr, h3, h4⟩ := run_append_arg_grows (P := Tryz.prog) (w := w) 86 o.type 5 i (.int .u8 0) 1 1 Tryz.underlying86 hi hz h1 h2 rfl (by decide) g A.length A.length (A.map (Value.int .u8)) (by simp) (holds_cells hA) ad m c (L.map (Value.int .u8)) (by simp [hm]) (holds_cells hh) (by omega) (by simp only [maxLen]; omega) (by omega)
  refine wpList_plain hgd fun _ hK => ?_
  unfold Oper.wp execOp
  simp only [ho, resolve, invoke, builtin, Sem.run_bind, Sem.run_pure, Result.andThen_ok, List.map_toArray, List.map_cons, List.map_nil, hs, hx, hr]
  refine hK _ _ (h v' w' ?_ ((Below.refl w.heap.size w).grown h4 (Nat.le_refl _) (fun k hk => by cases hk)))
  unfold Owned
  rw [List.length_append, hm, List.map_append]
  exact h3
/-- what grew: the row r (now r'), new blocks, and nothing else -/
def Gr (w w' : World) (r r' : Option Nat) : Prop := w.grownBy w' r ∧ (r' = r ∨ ∃ k, r' = some k ∧ w.heap.size ≤ k)
theorem Gr.trans {w w1 w2 : World} {r r1 r2 : Option Nat} (h : Gr w w1 r r1) (k : Gr w1 w2 r1 r2) : Gr w w2 r r2 := by
  refine ⟨⟨k.1.os.trans h.1.os, k.1.tape.trans h.1.tape, k.1.output.trans h.1.output, Nat.le_trans h.1.size k.1.size, fun g hg hr => (k.1.block g (Nat.lt_of_lt_of_le hg h.1.size) ?_).trans (h.1.block g hg hr)⟩, ?_⟩
  · rcases h.2 with e | ⟨q, e, hq⟩
    · rw [e]; exact hr
    · rw [e]; intro h2; have := Option.some.inj h2; omega
  · rcases k.2 with e | ⟨q, e, hq⟩
    · rw [e]; exact h.2
    · exact .inr ⟨q, e, Nat.le_trans h.1.size hq⟩
theorem Gr.ofBelow {w w' : World} (h : Below w.heap.size w w') (r : Option Nat) : Gr w w' r r := ⟨⟨h.os, h.tape, h.output, h.size, fun g hg _ => h.block g hg⟩, .inl rfl⟩
theorem Gr.alloc (w : World) (o : Obj) (r : Option Nat) : Gr w (w.alloc o) r r := Gr.ofBelow ((Below.refl _ _).alloc (Nat.le_refl _) _) r
theorem Gr.below {w w' : World} {r r' : Option Nat} (h : Gr w w' r r') (B : Nat) (hB : B ≤ w.heap.size) (hr : ∀ k, r = some k → B ≤ k) : Below B w w' :=
  ⟨h.1.os, h.1.tape, h.1.output, h.1.size, fun k hk => h.1.block k (by omega) (fun e => by have := hr k e.symm; omega)⟩
theorem Gr.block {w w' : World} {r r' : Option Nat} (h : Gr w w' r r') (k : Nat) (hk : k < w.heap.size) (hr : r ≠ some k) : w'.heap[k]? = w.heap[k]? := h.1.block k hk (fun e => hr e.symm)
theorem Owned.keep {w w' : World} {base : Nat} {v : Value} {A : List Int} (h : Owned w base v A) (hb : Below w.heap.size w w') : Owned w' base v A := by
  refine ⟨h.1, ?_⟩
  have hlt := fun k hk => (World.ownsRow.lt h k hk).2
  rcases h.2 with h1 | ⟨g, cap, cur, rfl, hbg, hg, rest⟩
  · exact .inl h1
  · exact .inr ⟨g, cap, cur, rfl, hbg, (hb.block g (hlt g rfl)).trans hg, rest⟩
theorem owned_own {w : World} {base : Nat} {v : Value} {A : List Int} (h : Owned w base v A) : ∀ k, v.ownBlock = some k → base ≤ k ∧ k < w.heap.size := fun k hk => World.ownsRow.lt h k hk
/-- bytes in a block of which nothing changed -/
theorem Holds.gr {w w' : World} {r r' : Option Nat} {x : Addr} {L : List Int} (h : Holds w (some x) L) (hg : Gr w w' r r') (hx : x.block < w.heap.size) (hr : r ≠ some x.block) : Holds w' (some x) L := by
  rcases h with e | ⟨b, off, e, hc⟩
  · exact .inl e
  · cases e
    refine .inr ⟨b, off, rfl, fun i hi => ?_⟩
    rw [← hc i hi]
    exact World.cell?_of_block (a := ⟨b, off + i, none⟩) (hg.block b hx hr)
theorem appB {w : World} {ops : Array Oper} {rest : List Oper} {o : Oper} {act : Act} {Q : Exit → Act → World → Prop} (hgd : o.guard = none) (s x : Operand)
    (ho : o.op = .call { callee := .builtin .append, args := #[s, x], argTypes := #[86, 86] })
    (base : Nat) (v : Value) (A : List Int) (hs : act.eval s = v) (hown : Owned w base v A)
    (a : Option Addr) (m c : Nat) (L : List Int) (hx : act.eval x = .slice a m c) (hm : L.length = m) (hh : Holds w a L) (hc : a = none → c = 0) (hN : A.length + m ≤ 100000000000000) (hbase : base ≤ w.heap.size)
    (h : ∀ v' w', Owned w' base v' (A ++ L) → Gr w w' v.ownBlock v'.ownBlock → wpList Tryz.prog ops Q rest (act.put o.dst v') w') :
    wpList Tryz.prog ops Q (o :: rest) act w := by
  obtain ⟨v', w', hr, h2, h3, h4⟩ := appB_run base v A hown a m c L hm hh hc hN hbase o.type
  refine wpList_plain hgd fun _ hK => ?_
  unfold Oper.wp execOp
  simp only [ho, resolve, invoke, builtin, Sem.run_bind, Sem.run_pure, Result.andThen_ok, List.map_toArray, List.map_cons, List.map_nil, hs, hx, hr]
  refine hK _ _ (h v' w' h2 ⟨h3, ?_⟩)
  rcases h4 with e | e
  · exact .inl e
  · exact .inr ⟨_, e, Nat.le_refl _⟩
theorem appS_run {w : World} (base : Nat) (v : Value) (A : List Int) (hown : Owned w base v A) (t : ByteArray) (hN : A.length + t.size ≤ 140737488355328) (hbase : base ≤ w.heap.size) (ty : TypeId) :
    ∃ v' w', (Builtin.append_ #[86, 9] ty #[v, .string t]).run Tryz.prog w = .ok v' w' ∧ Owned w' base v' (A ++ sN t) ∧ Gr w w' v.ownBlock v'.ownBlock := by
  obtain ⟨i, hi, hz, h1, h2⟩ := info8p
  obtain ⟨v', w', hr, h3, h4, h5⟩ := Lib.run_append_own_string (P := Tryz.prog) w base 86 9 ty 5 i Tryz.underlying86 Tryz.underlying9 hi hz h1 h2 v A.length _ hown t (by simp only [maxLen]; omega) hN hbase
  have ho' : Owned w' base v' (A ++ sN t) := by
    unfold Owned
    rw [List.length_append, sN_len, List.map_append, ← strCells_sN]
    exact h3
  refine ⟨v', w', hr, ho', h4, ?_⟩
  rcases hown.2 with ⟨rfl, hn0⟩ | ⟨g, cap, cur, rfl, hbg, hg, hnc, hcm, hcs, htake⟩
  · by_cases hm : t.size = 0
    · left; rw [h5.2 ⟨rfl, hm⟩]
    · have hr2 := run_append_nil_string (P := Tryz.prog) w 86 9 ty 5 i (.int .u8 0) Tryz.underlying86 Tryz.underlying9 hi hz t (by omega) (by omega) (by rw [h2]; omega)
      rw [hr2] at hr
      cases hr
      exact .inr ⟨_, rfl, Nat.le_refl _⟩
  · by_cases hroom : A.length + t.size ≤ cap
    · have hcs' : cur.size = cap := by simpa using hcs
      have hr2 := Lib.run_append_room_string (P := Tryz.prog) w 86 9 ty 5 i Tryz.underlying86 Tryz.underlying9 hi h1 g A.length cap cur hg t hroom (by omega)
      rw [hr2] at hr
      cases hr
      exact .inl rfl
    · have holds : ∀ j u, (A.map (Value.int .u8))[j]? = some u → w.cell? ((⟨g, 0, none⟩ : Addr).add j) = some u := World.ownsRow.cells hown (g := g) rfl
      have hr2 := Lib.run_append_grow_string (P := Tryz.prog) w 86 9 ty 5 i (.int .u8 0) Tryz.underlying86 Tryz.underlying9 hi hz ⟨g, 0, none⟩ A.length cap (A.map (Value.int .u8)) (by simp [h1]) holds t (by omega) (by omega) (by rw [h2]; exact growslice_fits (by omega) (by omega))
      rw [hr2] at hr
      cases hr
      exact .inr ⟨_, rfl, Nat.le_refl _⟩
/-- append(s, text...) -/
theorem appS {w : World} {ops : Array Oper} {rest : List Oper} {o : Oper} {act : Act} {Q : Exit → Act → World → Prop} (hgd : o.guard = none) (s x : Operand)
    (ho : o.op = .call { callee := .builtin .append, args := #[s, x], argTypes := #[86, 9] })
    (base : Nat) (v : Value) (A : List Int) (hs : act.eval s = v) (hown : Owned w base v A) (t : ByteArray) (hx : act.eval x = .string t) (hN : A.length + t.size ≤ 140737488355328) (hbase : base ≤ w.heap.size)
    (h : ∀ v' w', Owned w' base v' (A ++ sN t) → Gr w w' v.ownBlock v'.ownBlock → wpList Tryz.prog ops Q rest (act.put o.dst v') w') :
    wpList Tryz.prog ops Q (o :: rest) act w := by
  obtain ⟨v', w', hr, h2, h3⟩ := appS_run base v A hown t hN hbase o.type
  refine wpList_plain hgd fun _ hK => ?_
  unfold Oper.wp execOp
  simp only [ho, resolve, invoke, builtin, Sem.run_bind, Sem.run_pure, Result.andThen_ok, List.map_toArray, List.map_cons, List.map_nil, hs, hx, hr]
  exact hK _ _ (h v' w' h2 h3)
end Go.Proofs.YtcindeechmpalaaGreat
namespace Go.Proofs.YtcindeechmpalaaGreat
open Go.ChangeShapes Go.WideShapes Go.ChangeAt Go.RowKit Go.Deep
set_option linter.unusedVariables false

def rvEnd (r : Int × Int × Int) : Ending := .returned (.tuple #[.int .u64 r.1, .int .i64 r.2.1, .int .i64 r.2.2])

theorem low7 (c : Int) (h0 : 0 ≤ c) (h1 : c ≤ 255) : bits .andNot .u8 c 128 = c % 128 := by
  rw [u8_andNot c 128 h0 (by omega) (by decide) (by decide)]
  have : c.toNat &&& (255 - (128 : Int).toNat) = c.toNat % 128 := nat_mask7 c.toNat
  rw [this]; omega

theorem pow128 (i : Nat) : (2 : Int) ^ (7 * i) = 128 ^ i := by rw [Int.pow_mul]; rfl

theorem readVar_none (a : Option Addr) (cap : Nat) (w : World) :
    Calls Tryz.prog 122 #[.slice a 0 cap] w fun e w' => e = rvEnd (0, 0, 4) ∧ w' = w := by
  go_enter Tryz.func122, Tryz.ntmps122
  go_wp2
  go_loop [2, 7] (fun v i => v = .int .u64 0 ∧ i = .int .i64 0) (fun _ _ => 0)
  case atStart => exact ⟨rfl, rfl⟩
  case round =>
    obtain ⟨rfl, rfl⟩ := hrel
    go_wp2
    go_ret3
    exact ⟨rfl, rfl⟩

theorem or_sum (k : Nat) (x y : Int) (x0 : 0 ≤ x) (x1 : x < 128 ^ k) (y0 : 0 ≤ y) (z : Int) (hz : z = y * 128 ^ k) (z1 : z < 18446744073709551616) (x2 : x < 18446744073709551616) :
    bits .or .u64 x z = x + z := by
  have p0 : (0 : Int) < 128 ^ k := Int.pow_pos (by decide)
  have z0 : 0 ≤ z := by rw [hz]; exact Int.mul_nonneg y0 (by omega)
  rw [u64_or x z x0 x2 z0 z1]
  obtain ⟨X, rfl⟩ := Int.eq_ofNat_of_zero_le x0
  obtain ⟨Y, rfl⟩ := Int.eq_ofNat_of_zero_le y0
  obtain ⟨Z, rfl⟩ := Int.eq_ofNat_of_zero_le z0
  have e : Z = Y * 2 ^ (7 * k) := by
    have h2 : ((Y * 2 ^ (7 * k) : Nat) : Int) = (Y : Int) * 128 ^ k := by rw [← pow128 k]; simp
    rw [← h2] at hz
    exact Int.ofNat_inj.1 hz
  have hX : X < 2 ^ (7 * k) := by
    have h2 : ((2 ^ (7 * k) : Nat) : Int) = 128 ^ k := by rw [← pow128 k]; simp
    rw [← h2] at x1
    exact Int.ofNat_lt.1 x1
  simp only [Int.toNat_natCast]
  rw [Nat.or_comm, nat_join (7 * k) Z X (by rw [e]; exact Nat.mul_mod_left _ _) hX]
  omega

theorem end3 {a b c a' b' c' : Int} (h1 : a = a') (h2 : b = b') (h3 : c = c') : Ending.returned (.tuple #[.int .u64 a, .int .i64 b, .int .i64 c]) = rvEnd (a', b', c') := by rw [h1, h2, h3]; rfl

theorem or_step (k : Nat) (h : k < 9) (x c : Int) (x0 : 0 ≤ x) (x1 : x < 128 ^ k) (c0 : 0 ≤ c) :
    bits .or .u64 x (IntKind.u64.wrap (c % 128 * 2 ^ (7 * k))) = x + c % 128 * 128 ^ k := by
  have p := pow_lt9 k h
  have p0 : (0 : Int) < 128 ^ k := Int.pow_pos (by decide)
  have m : c % 128 * 128 ^ k ≤ 127 * 128 ^ k := Int.mul_le_mul_of_nonneg_right (by omega) (by omega)
  have m0 : 0 ≤ c % 128 * 128 ^ k := Int.mul_nonneg (by omega) (by omega)
  rw [pow128, IntKind.wrap_u64, Int.emod_eq_of_lt m0 (by omega)]
  exact or_sum k x (c % 128) x0 x1 (by omega) _ rfl (by omega) (by omega)

theorem rv_next (k : Nat) (h : k < 9) (x c : Int) (x0 : 0 ≤ x) (x1 : x < 128 ^ k) (c0 : 0 ≤ c) : 0 ≤ x + c % 128 * 128 ^ k ∧ x + c % 128 * 128 ^ k < 128 ^ (k + 1) := by
  have p0 : (0 : Int) < 128 ^ k := Int.pow_pos (by decide)
  have m : c % 128 * 128 ^ k ≤ 127 * 128 ^ k := Int.mul_le_mul_of_nonneg_right (by omega) (by omega)
  have m0 : 0 ≤ c % 128 * 128 ^ k := Int.mul_nonneg (by omega) (by omega)
  rw [Int.pow_succ]
  omega

theorem readVar_any (L : List Int) (b off n cap : Nat) (hn : L.length = n) (hm : n ≤ 140737488355328) (hb : ∀ i, i < n → 0 ≤ L.getD i 0 ∧ L.getD i 0 ≤ 255) (w : World)
    (hcell : ∀ i, i < n → w.cell? ⟨b, off + i, none⟩ = some (.int .u8 (L.getD i 0))) :
    Calls Tryz.prog 122 #[.slice (some ⟨b, off, none⟩) n cap] w fun e w' => e = rvEnd (rv L 0 0) ∧ w' = w := by
  go_enter Tryz.func122, Tryz.ntmps122
  go_wp2
  go_loop [2, 7] (fun v i => ∃ (k : Nat) (x : Int), k ≤ 9 ∧ i = .int .i64 k ∧ v = .int .u64 x ∧ 0 ≤ x ∧ x < 128 ^ k ∧ rv L 0 0 = rv (L.drop k) k x) (fun _ i => 10 - (intOf i).toNat)
  case atStart => exact ⟨0, 0, by omega, rfl, rfl, by omega, by simp, by simp⟩
  case round =>
    obtain ⟨k, x, hk, rfl, rfl, hx0, hx1, hr⟩ := hrel
    by_cases hlt : k < n
    · have hc := hcell k hlt
      have hbk := hb k hlt
      have hd : L.drop k = L.getD k 0 :: L.drop (k + 1) := by
        rw [List.drop_eq_getElem_cons (by omega)]; simp [hn, hlt]
      rw [hd] at hr
      have HR : Hid _ := hr
      clear hd hcell hb hr
      generalize L.getD k 0 = c at hc hbk HR
      obtain ⟨hb0, hb1⟩ := hbk
      have e1 := low7 c hb0 hb1
      have HX : Hid (x < 128 ^ k) := hx1
      clear hx1
      by_cases h9 : k = 9
      · subst h9
        by_cases c1 : 1 < c
        · go_wp2
          go_ret3
          exact ⟨by rw [HR.out, rv, if_pos ⟨rfl, c1⟩]; rfl, rfl⟩
        · have c01 : c = 0 ∨ c = 1 := by omega
          rcases c01 with rfl | rfl
          · clear e1
            go_wp2
            go_ret3
            exact ⟨by rw [HR.out, rv, if_neg (by omega), if_neg (by omega), if_pos (by omega)]; rfl, rfl⟩
          · clear e1
            have e2 : bits .andNot .u8 1 128 = 1 := low7 1 (by decide) (by decide)
            have e3 : bits .or .u64 x 9223372036854775808 = x + 9223372036854775808 := or_sum 9 x 1 hx0 HX.out (by decide) _ rfl (by decide) (by have h := HX.out; have := pow_le9 9 (by decide); omega)
            have E3 : Hid _ := e3
            clear e3
            go_wp2
            go_ret3
            refine ⟨?_, rfl⟩
            rw [HR.out, rv, if_neg (by omega), if_neg (by omega), if_neg (by omega)]
            exact end3 E3.out rfl rfl
      · have e2 := or_step k (by omega) x c hx0 HX.out hb0
        have E2 : Hid _ := e2
        clear e2
        by_cases c128 : 128 ≤ c
        · go_wp2
          go_round
          case rel => 
            obtain ⟨n0, n1⟩ := rv_next k (by omega) x c hx0 HX.out hb0
            refine ⟨k + 1, _, by omega, by go_num, rfl, ?_, ?_, ?_⟩
            · rw [E2.out]; exact n0
            · rw [E2.out]; exact n1
            · rw [HR.out, rv, if_neg (by omega), if_pos c128, E2.out]
          case measure => simp [intOf]; omega
        · by_cases c0 : c = 0
          · subst c0
            by_cases k0 : 0 < k
            · go_wp2
              go_ret3
              exact ⟨by rw [HR.out, rv, if_neg (by omega), if_neg (by omega), if_pos (by omega)]; rfl, rfl⟩
            · have : k = 0 := by omega
              subst this
              have hx : x = 0 := by have h := HX.out; simp at h; omega
              subst hx
              have f1 : bits .andNot .u8 0 128 = 0 := low7 0 (by decide) (by decide)
              have f2 : bits .or .u64 0 0 = 0 := by decide
              clear e1 h9 c128 k0 hx0 hb0 hb1 hk
              rw [Nat.add_zero] at hc
              go_wp2
              go_ret3
              refine ⟨?_, rfl⟩
              rw [HR.out, rv, if_neg (by omega), if_neg (by omega), if_neg (by omega)]
              exact end3 rfl rfl rfl
          · go_wp2
            go_ret3
            refine ⟨?_, rfl⟩
            rw [HR.out, rv, if_neg (by omega), if_neg (by omega), if_neg (by omega)]
            exact end3 E2.out rfl rfl
    · have HR : Hid _ := hr
      clear hr
      go_wp2
      go_ret3
      have h : L.drop k = [] := List.drop_eq_nil_of_le (by omega)
      exact ⟨by rw [HR.out, h]; rfl, rfl⟩
end Go.Proofs.YtcindeechmpalaaGreat
namespace Go.Proofs.YtcindeechmpalaaGreat
open Go.ChangeShapes Go.WideShapes Go.ChangeAt Go.RowKit Go.Deep
set_option linter.unusedVariables false

theorem ret_int {k : IntKind} {a b : Int} (h : a = b) : Ending.returned (.int k a) = .returned (.int k b) := by rw [h]
theorem len_step (k : Nat) (x b : Int) (D : Nat) (hb0 : 0 ≤ b) (hb1 : b ≤ 255) (e : b.toNat = x.toNat / D) (s : Lib.bitLen x.toNat = k + Lib.bitLen (x.toNat / D)) :
    Lib.len8 b = (Lib.bitLen (x.toNat / D) : Int) ∧ Lib.bitLen (x.toNat / D) ≤ 8 ∧ (Lib.bitLen x.toNat : Int) = k + Lib.bitLen (x.toNat / D) := by
  have l := Lib.bitLen_le8' b hb0 hb1
  have g := Lib.len8_of b hb0 hb1
  rw [e] at l g
  exact ⟨g, l, by omega⟩

set_option maxRecDepth 100000 in
theorem len64_111 (x : Int) (w : World) (h0 : 0 ≤ x) (h1 : x ≤ 18446744073709551615) (g0 : 4294967296 ≤ x) (g1 : 65536 ≤ x / 4294967296) (g2 : 256 ≤ x / 4294967296 / 65536) :
    Calls Tryz.prog 120 #[.int .u64 x] w fun e w' => e = .returned (.int .i64 (Lib.bitLen x.toNat)) ∧ w' = w := by
  obtain ⟨q1, q2, q3⟩ := len_step 56 x (x / 4294967296 / 65536 / 256) 72057594037927936 (by omega) (by omega) (by omega) (Lib.bitLen_shift56 x.toNat (by omega) (by omega))
  have b0 : 0 ≤ x / 4294967296 / 65536 / 256 := by omega
  have b1 : x / 4294967296 / 65536 / 256 ≤ 255 := by omega
  have l0 : 0 ≤ Lib.len8 (x / 4294967296 / 65536 / 256) := by omega
  have l1 : Lib.len8 (x / 4294967296 / 65536 / 256) ≤ 8 := by omega
  have EQ : Hid ((Lib.bitLen x.toNat : Int) = 56 + Lib.len8 (x / 4294967296 / 65536 / 256)) := by show _ = _; omega
  clear q1 q2 q3
  go_enter Tryz.func120, Tryz.ntmps120
  go_wp2
  go_ret
  exact ⟨ret_int (by rw [EQ.out]), rfl⟩
set_option maxRecDepth 100000 in
theorem len64_110 (x : Int) (w : World) (h0 : 0 ≤ x) (h1 : x ≤ 18446744073709551615) (g0 : 4294967296 ≤ x) (g1 : 65536 ≤ x / 4294967296) (g2 : x / 4294967296 / 65536 < 256) :
    Calls Tryz.prog 120 #[.int .u64 x] w fun e w' => e = .returned (.int .i64 (Lib.bitLen x.toNat)) ∧ w' = w := by
  obtain ⟨q1, q2, q3⟩ := len_step 48 x (x / 4294967296 / 65536) 281474976710656 (by omega) (by omega) (by omega) (Lib.bitLen_shift48 x.toNat (by omega) (by omega))
  have b0 : 0 ≤ x / 4294967296 / 65536 := by omega
  have b1 : x / 4294967296 / 65536 ≤ 255 := by omega
  have l0 : 0 ≤ Lib.len8 (x / 4294967296 / 65536) := by omega
  have l1 : Lib.len8 (x / 4294967296 / 65536) ≤ 8 := by omega
  have EQ : Hid ((Lib.bitLen x.toNat : Int) = 48 + Lib.len8 (x / 4294967296 / 65536)) := by show _ = _; omega
  clear q1 q2 q3
  go_enter Tryz.func120, Tryz.ntmps120
  go_wp2
  go_ret
  exact ⟨ret_int (by rw [EQ.out]), rfl⟩
set_option maxRecDepth 100000 in
theorem len64_101 (x : Int) (w : World) (h0 : 0 ≤ x) (h1 : x ≤ 18446744073709551615) (g0 : 4294967296 ≤ x) (g1 : x / 4294967296 < 65536) (g2 : 256 ≤ x / 4294967296) :
    Calls Tryz.prog 120 #[.int .u64 x] w fun e w' => e = .returned (.int .i64 (Lib.bitLen x.toNat)) ∧ w' = w := by
  obtain ⟨q1, q2, q3⟩ := len_step 40 x (x / 4294967296 / 256) 1099511627776 (by omega) (by omega) (by omega) (Lib.bitLen_shift40 x.toNat (by omega) (by omega))
  have b0 : 0 ≤ x / 4294967296 / 256 := by omega
  have b1 : x / 4294967296 / 256 ≤ 255 := by omega
  have l0 : 0 ≤ Lib.len8 (x / 4294967296 / 256) := by omega
  have l1 : Lib.len8 (x / 4294967296 / 256) ≤ 8 := by omega
  have EQ : Hid ((Lib.bitLen x.toNat : Int) = 40 + Lib.len8 (x / 4294967296 / 256)) := by show _ = _; omega
  clear q1 q2 q3
  go_enter Tryz.func120, Tryz.ntmps120
  go_wp2
  go_ret
  exact ⟨ret_int (by rw [EQ.out]), rfl⟩
set_option maxRecDepth 100000 in
theorem len64_100 (x : Int) (w : World) (h0 : 0 ≤ x) (h1 : x ≤ 18446744073709551615) (g0 : 4294967296 ≤ x) (g1 : x / 4294967296 < 65536) (g2 : x / 4294967296 < 256) :
    Calls Tryz.prog 120 #[.int .u64 x] w fun e w' => e = .returned (.int .i64 (Lib.bitLen x.toNat)) ∧ w' = w := by
  obtain ⟨q1, q2, q3⟩ := len_step 32 x (x / 4294967296) 4294967296 (by omega) (by omega) (by omega) (Lib.bitLen_shift32 x.toNat (by omega) (by omega))
  have b0 : 0 ≤ x / 4294967296 := by omega
  have b1 : x / 4294967296 ≤ 255 := by omega
  have l0 : 0 ≤ Lib.len8 (x / 4294967296) := by omega
  have l1 : Lib.len8 (x / 4294967296) ≤ 8 := by omega
  have EQ : Hid ((Lib.bitLen x.toNat : Int) = 32 + Lib.len8 (x / 4294967296)) := by show _ = _; omega
  clear q1 q2 q3
  go_enter Tryz.func120, Tryz.ntmps120
  go_wp2
  go_ret
  exact ⟨ret_int (by rw [EQ.out]), rfl⟩
set_option maxRecDepth 100000 in
theorem len64_011 (x : Int) (w : World) (h0 : 0 ≤ x) (h1 : x ≤ 18446744073709551615) (g0 : x < 4294967296) (g1 : 65536 ≤ x) (g2 : 256 ≤ x / 65536) :
    Calls Tryz.prog 120 #[.int .u64 x] w fun e w' => e = .returned (.int .i64 (Lib.bitLen x.toNat)) ∧ w' = w := by
  obtain ⟨q1, q2, q3⟩ := len_step 24 x (x / 65536 / 256) 16777216 (by omega) (by omega) (by omega) (Lib.bitLen_shift24 x.toNat (by omega) (by omega))
  have b0 : 0 ≤ x / 65536 / 256 := by omega
  have b1 : x / 65536 / 256 ≤ 255 := by omega
  have l0 : 0 ≤ Lib.len8 (x / 65536 / 256) := by omega
  have l1 : Lib.len8 (x / 65536 / 256) ≤ 8 := by omega
  have EQ : Hid ((Lib.bitLen x.toNat : Int) = 24 + Lib.len8 (x / 65536 / 256)) := by show _ = _; omega
  clear q1 q2 q3
  go_enter Tryz.func120, Tryz.ntmps120
  go_wp2
  go_ret
  exact ⟨ret_int (by rw [EQ.out]), rfl⟩
set_option maxRecDepth 100000 in
theorem len64_010 (x : Int) (w : World) (h0 : 0 ≤ x) (h1 : x ≤ 18446744073709551615) (g0 : x < 4294967296) (g1 : 65536 ≤ x) (g2 : x / 65536 < 256) :
    Calls Tryz.prog 120 #[.int .u64 x] w fun e w' => e = .returned (.int .i64 (Lib.bitLen x.toNat)) ∧ w' = w := by
  obtain ⟨q1, q2, q3⟩ := len_step 16 x (x / 65536) 65536 (by omega) (by omega) (by omega) (Lib.bitLen_shift16 x.toNat (by omega) (by omega))
  have b0 : 0 ≤ x / 65536 := by omega
  have b1 : x / 65536 ≤ 255 := by omega
  have l0 : 0 ≤ Lib.len8 (x / 65536) := by omega
  have l1 : Lib.len8 (x / 65536) ≤ 8 := by omega
  have EQ : Hid ((Lib.bitLen x.toNat : Int) = 16 + Lib.len8 (x / 65536)) := by show _ = _; omega
  clear q1 q2 q3
  go_enter Tryz.func120, Tryz.ntmps120
  go_wp2
  go_ret
  exact ⟨ret_int (by rw [EQ.out]), rfl⟩
set_option maxRecDepth 100000 in
theorem len64_001 (x : Int) (w : World) (h0 : 0 ≤ x) (h1 : x ≤ 18446744073709551615) (g0 : x < 4294967296) (g1 : x < 65536) (g2 : 256 ≤ x) :
    Calls Tryz.prog 120 #[.int .u64 x] w fun e w' => e = .returned (.int .i64 (Lib.bitLen x.toNat)) ∧ w' = w := by
  obtain ⟨q1, q2, q3⟩ := len_step 8 x (x / 256) 256 (by omega) (by omega) (by omega) (Lib.bitLen_shift8 x.toNat (by omega) (by omega))
  have b0 : 0 ≤ x / 256 := by omega
  have b1 : x / 256 ≤ 255 := by omega
  have l0 : 0 ≤ Lib.len8 (x / 256) := by omega
  have l1 : Lib.len8 (x / 256) ≤ 8 := by omega
  have EQ : Hid ((Lib.bitLen x.toNat : Int) = 8 + Lib.len8 (x / 256)) := by show _ = _; omega
  clear q1 q2 q3
  go_enter Tryz.func120, Tryz.ntmps120
  go_wp2
  go_ret
  exact ⟨ret_int (by rw [EQ.out]), rfl⟩
set_option maxRecDepth 100000 in
theorem len64_000 (x : Int) (w : World) (h0 : 0 ≤ x) (h1 : x ≤ 18446744073709551615) (g0 : x < 4294967296) (g1 : x < 65536) (g2 : x < 256) :
    Calls Tryz.prog 120 #[.int .u64 x] w fun e w' => e = .returned (.int .i64 (Lib.bitLen x.toNat)) ∧ w' = w := by
  obtain ⟨q1, q2, q3⟩ := len_step 0 x x 1 (by omega) (by omega) (by omega) (by simp)
  have b0 : 0 ≤ x := by omega
  have b1 : x ≤ 255 := by omega
  have l0 : 0 ≤ Lib.len8 (x) := by omega
  have l1 : Lib.len8 (x) ≤ 8 := by omega
  have EQ : Hid ((Lib.bitLen x.toNat : Int) = 0 + Lib.len8 (x)) := by show _ = _; omega
  clear q1 q2 q3
  go_enter Tryz.func120, Tryz.ntmps120
  go_wp2
  go_ret
  exact ⟨ret_int (by rw [EQ.out]; omega), rfl⟩
theorem len64 (x : Int) (w : World) (h0 : 0 ≤ x) (h1 : x ≤ 18446744073709551615) :
    Calls Tryz.prog 120 #[.int .u64 x] w fun e w' => e = .returned (.int .i64 (Lib.bitLen x.toNat)) ∧ w' = w := by
  rcases Int.lt_or_le (x) 4294967296 with g0 | g0
  · rcases Int.lt_or_le (x) 65536 with g1 | g1
    · rcases Int.lt_or_le (x) 256 with g2 | g2
      · exact len64_000 x w h0 h1 g0 g1 g2
      · exact len64_001 x w h0 h1 g0 g1 g2
    · rcases Int.lt_or_le (x / 65536) 256 with g2 | g2
      · exact len64_010 x w h0 h1 g0 g1 g2
      · exact len64_011 x w h0 h1 g0 g1 g2
  · rcases Int.lt_or_le (x / 4294967296) 65536 with g1 | g1
    · rcases Int.lt_or_le (x / 4294967296) 256 with g2 | g2
      · exact len64_100 x w h0 h1 g0 g1 g2
      · exact len64_101 x w h0 h1 g0 g1 g2
    · rcases Int.lt_or_le (x / 4294967296 / 65536) 256 with g2 | g2
      · exact len64_110 x w h0 h1 g0 g1 g2
      · exact len64_111 x w h0 h1 g0 g1 g2

theorem or_one (v : Int) (h0 : 0 ≤ v) (h1 : v ≤ 18446744073709551615) : bits .or .u64 v 1 = v + (1 - v % 2) := by
  rw [u64_or v 1 h0 (by omega) (by decide) (by decide)]
  obtain ⟨X, rfl⟩ := Int.eq_ofNat_of_zero_le h0
  have e : X = X / 2 * 2 ||| X % 2 := by rw [nat_join 1 (X / 2 * 2) (X % 2) (by omega) (by omega)]; omega
  have o : X % 2 ||| 1 = 1 := by rcases (by omega : X % 2 = 0 ∨ X % 2 = 1) with h | h <;> rw [h] <;> rfl
  have g : X ||| 1 = X / 2 * 2 + 1 := by
    conv => lhs; rw [e]
    rw [Nat.or_assoc, o, nat_join 1 (X / 2 * 2) 1 (by omega) (by omega)]
  rw [Int.toNat_natCast, show (1 : Int).toNat = 1 from rfl, g]
  omega
theorem bitLen_bd : ∀ (f x : Nat), x < 2 ^ f → x ≠ 0 → 1 ≤ Lib.bitLenAux f x ∧ Lib.bitLenAux f x ≤ f ∧ x < 2 ^ Lib.bitLenAux f x ∧ 2 ^ (Lib.bitLenAux f x - 1) ≤ x
  | 0, x, h, h0 => by simp at h; omega
  | f + 1, x, h, h0 => by
    simp only [Lib.bitLenAux, if_neg h0]
    by_cases hx : x / 2 = 0
    · have : x = 1 := by omega
      subst this
      have z : Lib.bitLenAux f (1 / 2) = 0 := by cases f <;> simp [Lib.bitLenAux]
      rw [z]; simp
    · have ih := bitLen_bd f (x / 2) (by rw [Nat.pow_succ] at h; omega) hx
      generalize Lib.bitLenAux f (x / 2) = m at ih
      obtain ⟨m1, m2, m3, m4⟩ := ih
      refine ⟨by omega, by omega, ?_, ?_⟩
      · rw [Nat.add_comm, Nat.pow_succ]; omega
      · have e : 2 ^ (1 + m - 1) = 2 ^ (m - 1) * 2 := by rw [← Nat.pow_succ]; congr 1; omega
        rw [e]; omega
theorem or1_lt (v : Int) (h0 : 0 ≤ v) (h1 : v ≤ 18446744073709551615) : (v + (1 - v % 2)).toNat < 2 ^ 64 := by
  have : (2 : Nat) ^ 64 = 18446744073709551616 := by decide
  omega
theorem sev_len (v : Int) (h0 : 0 ≤ v) (h1 : v ≤ 18446744073709551615) : ∃ n : Nat, Sev v n ∧ ((Lib.bitLen (v + (1 - v % 2)).toNat : Int) + 6) / 7 = n + 1 := by
  obtain ⟨b1, b2, b3, b4⟩ := bitLen_bd 64 (v + (1 - v % 2)).toNat (or1_lt v h0 h1) (by omega)
  have eb : Lib.bitLen (v + (1 - v % 2)).toNat = Lib.bitLenAux 64 (v + (1 - v % 2)).toNat := rfl
  rw [eb]
  generalize Lib.bitLenAux 64 (v + (1 - v % 2)).toNat = L at *
  obtain ⟨n, hn⟩ : ∃ n : Nat, (L + 6) / 7 = n + 1 := ⟨(L + 6) / 7 - 1, by omega⟩
  refine ⟨n, ⟨by omega, ?_, ?_⟩, by omega⟩
  · have : (2 : Nat) ^ L ≤ 2 ^ (7 * (n + 1)) := Nat.pow_le_pow_right (by decide) (by omega)
    have e : ((2 ^ (7 * (n + 1)) : Nat) : Int) = 128 ^ (n + 1) := by rw [← pow128]; simp
    omega
  · by_cases z : n = 0
    · exact .inl z
    · right
      have q : (2 : Nat) ^ (7 * n) ≤ 2 ^ (L - 1) := Nat.pow_le_pow_right (by decide) (by omega)
      have e : ((2 ^ (7 * n) : Nat) : Int) = 128 ^ n := by rw [← pow128]; simp
      have ev : (2 : Nat) ^ (7 * n) = 2 ^ (7 * n - 1) * 2 := by rw [← Nat.pow_succ]; congr 1; omega
      omega
theorem sevens_any (v : Int) (h0 : 0 ≤ v) (h1 : v ≤ 18446744073709551615) (w : World) :
    Calls Tryz.prog 95 #[.int .u64 v] w fun e w' => ∃ n : Nat, Sev v n ∧ e = .returned (.int .i64 ((n : Int) + 1)) ∧ w' = w := by
  obtain ⟨n, hn, hl⟩ := sev_len v h0 h1
  have e1 := or_one v h0 h1
  have hb := bitLen_bd 64 (v + (1 - v % 2)).toNat (or1_lt v h0 h1) (by omega)
  have hb2 : Lib.bitLen (v + (1 - v % 2)).toNat ≤ 64 := hb.2.1
  have hm0 : 0 ≤ v + (1 - v % 2) := by omega
  have hm1 : v + (1 - v % 2) ≤ 18446744073709551615 := by omega
  have HN : Hid (Sev v n) := hn
  have HLn : Hid (((Lib.bitLen (v + (1 - v % 2)).toNat : Int) + 6) / 7 = n + 1) := hl
  clear hb hn hl
  go_enter Tryz.func95, Tryz.ntmps95
  go_wp2_with fail
  refine (len64 _ _ hm0 hm1).mono ?_
  rintro e w' ⟨rfl, hw⟩; obtain rfl := hw.symm; clear hw
  generalize Lib.bitLen (v + (1 - v % 2)).toNat = m at *
  go_wp2
  go_ret
  exact ⟨n, HN.out, ret_int HLn.out, rfl⟩
end Go.Proofs.YtcindeechmpalaaGreat
namespace Go.Proofs.YtcindeechmpalaaGreat
open Go.ChangeShapes Go.WideShapes Go.ChangeAt Go.RowKit Go.Deep
set_option linter.unusedVariables false

/-- the cells of a row of n + 1 bytes of which the first c are laid -/
def varA (v : Int) (n c : Nat) : Array Value := Array.ofFn (n := n + 1) fun j => .int .u8 (if j.val < c then v / 128 ^ j.val % 128 + 128 else 0)
theorem varA_zero (v : Int) (n : Nat) : madeCells #[.int .u8 0] (n + 1) = varA v n 0 := by
  apply Array.ext
  · simp [madeCells, varA]
  · intro i h1 h2
    simp [madeCells, varA, Nat.mod_one]
theorem varA_step (v : Int) (n c : Nat) (h : c < n) : (varA v n c).setIfInBounds c (.int .u8 (v / 128 ^ c % 128 + 128)) = varA v n (c + 1) := by
  apply Array.ext
  · simp [varA]
  · intro i h1 h2
    have hi : i < n + 1 := by simpa [varA] using h2
    rw [Array.getElem_setIfInBounds (by simpa [varA] using hi)]
    by_cases e : c = i
    · subst e; simp [varA]
    · have a : (i < c) ↔ (i < c + 1) := by omega
      simp [varA, e, a]
theorem varA_last (v : Int) (n : Nat) (h0 : 0 ≤ v) : (varA v n n).setIfInBounds n (.int .u8 (v / 128 ^ n)) = ((varL n v).map (Value.int .u8)).toArray := by
  apply Array.ext
  · simp [varA, varL_length]
  · intro i h1 h2
    have hi : i < n + 1 := by simpa [varA] using h1
    have hg := varL_getD n v h0 i (by omega)
    have hl : i < (varL n v).length := by rw [varL_length]; exact hi
    have hg2 : (varL n v)[i] = if i < n then v / 128 ^ i % 128 + 128 else v / 128 ^ i := by
      rw [← hg]; simp [List.getD, List.getElem?_eq_getElem hl]
    rw [Array.getElem_setIfInBounds (by simpa [varA] using hi)]
    by_cases e : n = i
    · subst e; simp [hg2]
    · have a : i < n := by omega
      simp [varA, e, a, hg2]
theorem or128 (y : Int) (h : 0 ≤ y) : bits .or .u8 (y % 256) 128 = y % 128 + 128 := by
  rw [u8_or (y % 256) 128 (by omega) (by omega) (by decide) (by decide)]
  obtain ⟨Y, rfl⟩ := Int.eq_ofNat_of_zero_le h
  rw [show ((Y : Int) % 256).toNat = Y % 256 by omega, show (128 : Int).toNat = 128 from rfl]
  have key : ∀ z : Fin 256, z.val ||| 128 = z.val % 128 + 128 := by decide +kernel
  have := key ⟨Y % 256, by omega⟩
  simp only at this
  rw [this]
  omega
theorem pow128_lt (v : Int) (n : Nat) (h0 : 0 ≤ v) (h : v < 128 ^ (n + 1)) : 0 ≤ v / 128 ^ n ∧ v / 128 ^ n ≤ 127 := by
  have hp : (0 : Int) < 128 ^ n := Int.pow_pos (by decide)
  refine ⟨Int.ediv_nonneg h0 (by omega), ?_⟩
  have : v / 128 ^ n < 128 := Int.ediv_lt_of_lt_mul hp (by rw [Int.mul_comm, ← Int.pow_succ]; exact h)
  omega
/-- what Var leaves -/
def VarEnd (w : World) (v : Int) (e : Ending) (w' : World) : Prop :=
  ∃ n : Nat, Sev v n ∧ e = .returned (.slice (some ⟨w.heap.size, 0, none⟩) (n + 1) (n + 1)) ∧ w' = w.alloc (.cells ((varL n v).map (Value.int .u8)).toArray 5)
theorem var_any (v : Int) (h0 : 0 ≤ v) (h1 : v ≤ 18446744073709551615) (w : World) : Calls Tryz.prog 62 #[.int .u64 v] w (VarEnd w v) := by
  go_enter Tryz.func62, Tryz.ntmps62
  go_wp2_with fail
  refine (sevens_any v h0 h1 _).mono ?_
  rintro e w' ⟨n, hn, rfl, hw⟩; obtain rfl := hw.symm; clear hw
  have h9 := hn.1
  obtain ⟨l0, l1⟩ := pow128_lt v n h0 hn.2.1
  have HN : Hid (Sev v n) := hn
  clear hn
  have hmk := run_make_row' (P := Tryz.prog) 86 5 (.int .u8 0) 1 Tryz.underlying86 info8 rfl .i64 .i64 (n + 1) (by omega) (by omega)
  rw [varA_zero v n, show ((n + 1 : Nat) : Int) = (n : Int) + 1 by omega] at hmk
  go_wp2
  go_loopg [13] n (fun g i wr => ∃ c : Nat, c ≤ n ∧ g = n - c ∧ i = .int .i64 c ∧ wr = w.alloc (.cells (varA v n c) 5))
  case atStart => exact ⟨0, Nat.zero_le _, rfl, rfl, rfl⟩
  case round =>
    obtain ⟨c, hc, rfl, rfl, rfl⟩ := hrel
    by_cases hlt : c < n
    · obtain ⟨old, hold⟩ : ∃ old, (varA v n c)[c]? = some old := ⟨_, Array.getElem?_eq_getElem (by simp [varA]; omega)⟩
      have hs := varA_step v n c hlt
      have q0 : 0 ≤ v / 128 ^ c := Int.ediv_nonneg h0 (Int.le_of_lt (Int.pow_pos (by decide)))
      have eo := or128 (v / 128 ^ c) q0
      rw [← pow128] at eo
      have HS : Hid ((varA v n c).setIfInBounds c (.int .u8 (v / 128 ^ c % 128 + 128)) = varA v n (c + 1)) := hs
      clear hs q0 hmk
      go_wp2
      go_roundg (n - (c + 1))
      case measure => omega
      case rel => exact ⟨c + 1, by omega, rfl, by go_num, by rw [← HS.out, pow128]⟩
    · have e : c = n := by omega
      subst e
      obtain ⟨old, hold⟩ : ∃ old, (varA v c c)[c]? = some old := ⟨_, Array.getElem?_eq_getElem (by simp [varA])⟩
      have hs := varA_last v c h0
      have HS : Hid ((varA v c c).setIfInBounds c (.int .u8 (v / 128 ^ c)) = ((varL c v).map (Value.int .u8)).toArray) := hs
      clear hs hmk
      rw [← pow128] at l0 l1
      go_wp2
      go_ret
      refine ⟨c, HN.out, rfl, ?_⟩
      rw [← HS.out, ← pow128]
theorem readVar_all (L : List Int) (n : Nat) (a : Option Addr) (cap : Nat) (hn : L.length = n) (hm : n ≤ 140737488355328) (hb : IsBytes L) (w : World) (hh : Holds w a L) :
    Calls Tryz.prog 122 #[.slice a n cap] w fun e w' => e = rvEnd (rv L 0 0) ∧ w' = w := by
  rcases hh with rfl | ⟨b, off, rfl, hc⟩
  · simp at hn
    subst hn
    exact readVar_none a cap w
  · subst hn
    exact readVar_any L b off _ cap rfl hm hb w hc
end Go.Proofs.YtcindeechmpalaaGreat
