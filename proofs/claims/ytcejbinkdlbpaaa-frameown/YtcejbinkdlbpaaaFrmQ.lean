/- append(s, x...) of bytes where s is not nil: up to lengths beyond 2^47. -/
import Derived.Test.YtcejbinkdlbpaaaFrmE
namespace Go.Proofs.Ytcejbinkdlbpaaa
open Go.ChangeShapes Go.WideShapes Go.ChangeAt Go.RowKit Go.Deep
set_option linter.unusedVariables false
theorem nextcap_far {need old : Nat} (h : old < need) (hb : need ≤ 200000000000000) : Builtin.nextslicecap need old ≤ 281474976710656 := by
  unfold Builtin.nextslicecap
  split
  · omega
  · split
    · omega
    · simp only [Builtin.growBy]
      repeat' split
      all_goals omega
theorem append_far_run {w : World} (base g n cap : Nat) (A : List Int) (hown : Owned w base (.slice (some ⟨g, 0, none⟩) n cap) A)
    (a : Option Addr) (m c : Nat) (L : List Int) (hm : L.length = m) (hh : Holds w a L) (hc : a = none → c = 0) (hN : n + m ≤ 200000000000000) (hbase : base ≤ w.heap.size) (ty : TypeId) :
    ∃ a' c' w', (Builtin.append_ #[22, 22] ty #[.slice (some ⟨g, 0, none⟩) n cap, .slice a m c]).run Try.prog w = .ok (.slice (some a') (n + m) c') w' ∧ Owned w' base (.slice (some a') (n + m) c') (A ++ L) ∧ Below base w w' := by
  obtain ⟨i, hi, hz, h1, h2⟩ := info8p
  obtain ⟨hAh, hAl, _⟩ := hown.holds
  rcases hown.2 with ⟨hv, _⟩ | ⟨g', cap', cur, hv, hbg, hg, hnc, hcm, hcs, htake⟩
  · simp at hv
  simp only [Value.slice.injEq, Option.some.injEq, Addr.mk.injEq, and_true] at hv
  obtain ⟨rfl, _, rfl⟩ := hv
  rw [hAl] at hnc htake
  rw [Nat.mul_one] at hcs htake
  cases a with
  | none =>
    have hL : L = [] := by
      rcases hh with h | ⟨b, off, hb, _⟩
      · exact h
      · simp at hb
    subst hL
    have hc0 := hc rfl
    subst hc0
    have hm0 : m = 0 := by rw [← hm]; rfl
    subst hm0
    refine ⟨⟨g, 0, none⟩, cap, w, ?_, ?_, Below.refl _ _⟩
    · have hle : n ≤ cap := hnc
      simp [Builtin.append_, run_underlying Try.underlying22, sizeOf, typeInfo, hi, Builtin.lenOf, hle, Builtin.firstCells, storeCells]
    · rw [List.append_nil]; exact hown
  | some ad =>
    have hsrc : ∀ j u, (L.map (Value.int .u8))[j]? = some u → w.cell? (ad.add j) = some u := by
      intro j u hu
      have hj : j < L.length := by
        have := (List.getElem?_eq_some_iff.1 hu).1
        simpa using this
      rcases hh with h | ⟨b, off, hb, hcell⟩
      · subst h; simp at hj
      · simp only [Option.some.injEq] at hb
        subst hb
        rw [add_plain, hcell j hj]
        simp [List.getElem?_eq_getElem hj] at hu
        simp [List.getD, List.getElem?_eq_getElem hj, hu]
    have hlen : ((A ++ L).map (Value.int .u8)).length = n + m := by simp [hAl, hm]
    by_cases hroom : n + m ≤ cap
    · have hr := run_append_room (P := Try.prog) w 22 ty 5 i Try.underlying22 hi g n cap cur hg ad m c (L.map (Value.int .u8)) (by simp [hm, h1]) hsrc (ints_oneCell _ _) hroom (by simp [h1, hm, hcs]; exact hroom)
      refine ⟨⟨g, 0, none⟩, cap, _, hr, ?_, ?_⟩
      · refine ⟨by simp, .inr ⟨g, cap, _, by simp [hAl, hm], hbg, setRow_heap w g cur _ 5 _ hg, by simp [hAl, hm]; exact hroom, hcm, ?_, ?_⟩⟩
        · simp [h1, hm]; omega
        · rw [h1]
          simp only [Nat.mul_one]
          rw [htake, List.length_append, hAl, hm, ← hlen, List.map_append]
          exact List.take_left
      · exact below_setRow (Below.refl _ _) hbg _
    · have holds : ∀ j u, (A.map (Value.int .u8))[j]? = some u → w.cell? ((⟨g, 0, none⟩ : Addr).add j) = some u := World.ownsRow.cells hown (g := g) rfl
      have hr := run_append_grow (P := Try.prog) w 22 ty 5 i (.int .u8 0) Try.underlying22 hi hz ⟨g, 0, none⟩ n cap (A.map (Value.int .u8)) (by simp [hAl, h1]) holds ad m c (L.map (Value.int .u8)) (by simp [hm, h1]) hsrc (by omega) (by omega) (by rw [h2, Nat.mul_one]; exact nextcap_far (by omega) hN)
      have hge := grownCap_ge w (n + m) cap 5
      have hle := grownCap_le_maxLen w (n + m) cap 5 (by simp only [maxLen]; omega)
      refine ⟨_, _, _, hr, ?_, ?_⟩
      · refine ⟨by simp, .inr ⟨w.heap.size, _, _, by simp [hAl, hm], hbase, heap_alloc_new w.drew _, by simp [hAl, hm]; exact hge, hle, ?_, ?_⟩⟩
        · simp [size_zeroCells, hAl, hm, Value.cells]; omega
        · rw [List.length_append, hAl, hm, Nat.mul_one, ← hlen]
          simp only [Array.toList_append, List.append_assoc, List.map_append]
          rw [← List.append_assoc, ← List.map_append]
          exact List.take_left
      · exact ((Below.refl base w).drew).alloc (by simpa using hbase) _
theorem append_far {w : World} {ops : Array Oper} {rest : List Oper} {o : Oper} {act : Act} {Q : Exit → Act → World → Prop} (hgd : o.guard = none) (s x : Operand)
    (ho : o.op = .call { callee := .builtin .append, args := #[s, x], argTypes := #[22, 22] })
    (base g n cap : Nat) (A : List Int) (hs : act.eval s = .slice (some ⟨g, 0, none⟩) n cap) (hown : Owned w base (.slice (some ⟨g, 0, none⟩) n cap) A)
    (a : Option Addr) (m c : Nat) (L : List Int) (hx : act.eval x = .slice a m c) (hm : L.length = m) (hh : Holds w a L) (hc : a = none → c = 0) (N : Nat) (hN : n + m = N) (hbytes : N ≤ 200000000000000) (hbase : base ≤ w.heap.size)
    (h : ∀ a' c' w', Owned w' base (.slice (some a') N c') (A ++ L) → Below base w w' → wpList Try.prog ops Q rest (act.put o.dst (.slice (some a') N c')) w') :
    wpList Try.prog ops Q (o :: rest) act w := by
  subst hN
  obtain ⟨a', c', w', hr, h2, h3⟩ := append_far_run base g n cap A hown a m c L hm hh hc hbytes hbase o.type
  refine wpList_plain hgd fun _ hK => ?_
  unfold Oper.wp execOp
  simp only [ho, resolve, invoke, builtin, Sem.run_bind, Sem.run_pure, Result.andThen_ok, List.map_toArray, List.map_cons, List.map_nil, hs, hx, hr]
  exact hK _ _ (h a' c' w' h2 h3)
theorem Owned.some {w : World} {base : Nat} {a : Option Addr} {n c : Nat} {A : List Int} (h : Owned w base (.slice a n c) A) (hp : 0 < n) : ∃ g, a = .some ⟨g, 0, none⟩ := by
  rcases h.2 with ⟨hv, _⟩ | ⟨g, cap, cur, hv, _⟩
  · simp only [Value.slice.injEq] at hv
    omega
  · simp only [Value.slice.injEq] at hv
    exact ⟨g, hv.1⟩
/-- the same, the address whatever -/
theorem append_far2 {w : World} {ops : Array Oper} {rest : List Oper} {o : Oper} {act : Act} {Q : Exit → Act → World → Prop} (hgd : o.guard = none) (s x : Operand)
    (ho : o.op = .call { callee := .builtin .append, args := #[s, x], argTypes := #[22, 22] })
    (base : Nat) (b : Option Addr) (n cap : Nat) (A : List Int) (hs : act.eval s = .slice b n cap) (hown : Owned w base (.slice b n cap) A) (hp : 0 < n)
    (a : Option Addr) (m c : Nat) (L : List Int) (hx : act.eval x = .slice a m c) (hm : L.length = m) (hh : Holds w a L) (hc : a = none → c = 0) (N : Nat) (hN : n + m = N) (hbytes : N ≤ 200000000000000) (hbase : base ≤ w.heap.size)
    (h : ∀ a' c' w', Owned w' base (.slice a' N c') (A ++ L) → Below base w w' → wpList Try.prog ops Q rest (act.put o.dst (.slice a' N c')) w') :
    wpList Try.prog ops Q (o :: rest) act w := by
  obtain ⟨g, rfl⟩ := hown.some hp
  exact append_far hgd s x ho base g n cap A hs hown a m c L hx hm hh hc N hN hbytes hbase (fun a' c' w' => h (.some a') c' w')
/-- Read at a slice of one's own -/
theorem read_own {w : World} {base n c : Nat} {a : Option Addr} {A : List Int} (h : Owned w base (.slice a n c) A) (hB : IsBytes A) (hn : n ≤ 4611686018427387904) : Calls Try.prog 11 #[.slice a n c] w (ReadSaid w A) :=
  read_is w n c a A h.holds.2.1 hB h.holds.1 (fun x hx _ => h.lt_size x hx) h.cap.1 h.cap.2 hn
end Go.Proofs.Ytcejbinkdlbpaaa
