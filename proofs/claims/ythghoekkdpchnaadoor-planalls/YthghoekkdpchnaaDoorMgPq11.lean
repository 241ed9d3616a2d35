/- New stacks; plan.Do (gen_pog.py). -/
import Derived.Test.YthghoekkdpchnaaDoorMgPq9
import Derived.Test.YthghoekkdpchnaaDoorMgPq10
import Derived.Deep.CutRange
import Derived.Deep.RegionWith
namespace Go.Proofs.YthghoekkdpchnaaDoor
open Go.ChangeShapes Go.WideShapes Go.ChangeAt Go.RowKit Go.Deep Go.Maps
set_option linter.unusedVariables false
set_option linter.unusedSimpArgs false
/-- a stack in memory of its own, from block z on -/
structure NewSt (w : World) (z : Nat) (a : Option Addr) (n c : Nat) (M : List Pk) : Prop where
  st : StAt w a n c M
  own : OwnPk w z (.slice a n c) M
  fr : ∀ y ∈ M, Fresh w z y
theorem Fresh.keep {w w' : World} {z : Nat} {y : Pk} (h : Fresh w z y) (hb : Below w.heap.size w w') : Fresh w' z y := fun q hq => by
  obtain ⟨h1, cs, hc⟩ := h q hq
  exact ⟨h1, cs, (hb.block _ (lt_of_heapK hc)).trans hc⟩
theorem NewSt.keep {w w' : World} {z : Nat} {a : Option Addr} {n c : Nat} {M : List Pk} (h : NewSt w z a n c M) (hb : Below w.heap.size w w') : NewSt w' z a n c M :=
  ⟨h.st.keep hb, h.own.keep hb, fun y hy => (h.fr y hy).keep hb⟩
theorem cpd_new {w : World} {z : Nat} {a : Option Addr} {n c : Nat} {L M : List Pk} (h : Cpd w z (.slice a n c) L M) (hl : L.length ≤ 20) (h20 : ∀ x ∈ L, x.l.length ≤ 20) (hz : z ≤ w.heap.size) : NewSt w z a n c M ∧ M.map co = L.map co := by
  have hp : ∀ y ∈ M, PkOk w y ∧ NilOk y ∧ y.ln ≤ 20 ∧ Fresh w z y := fun y hy => by
    obtain ⟨i, hi⟩ := List.getElem?_of_mem hy
    obtain ⟨x, hx, ⟨_, _, _, k4⟩, k5, k6, k7⟩ := h.2.2 i y hi
    exact ⟨k5, k6, by rw [← k5.len, k4]; exact h20 x (List.mem_of_getElem? hx), k7⟩
  obtain ⟨a', c', e, hin, hc, hc9⟩ := h.1.slice (fun x hx => (hp x hx).1)
  injection e with e1 e2 e3
  subst e1 e3
  refine ⟨⟨⟨hin, e2.symm, fun e => ?_, by omega, hc9, by rw [e2, h.2.1]; exact hl, fun x hx => ⟨(hp x hx).1, (hp x hx).2.1, (hp x hx).2.2.1⟩⟩, h.1, fun y hy => (hp y hy).2.2.2⟩, ?_⟩
  · rcases h.1.2 with ⟨h1, _⟩ | ⟨g, cap, cur, h1, _⟩
    · injection h1 with _ h2 h3
      exact ⟨h2, h3⟩
    · injection h1 with h2
      rw [e] at h2
      cases h2
  · apply List.ext_getElem?
    intro i
    rw [List.getElem?_map, List.getElem?_map]
    by_cases hi : i < M.length
    · obtain ⟨x, hx, ⟨k1, k2, k3, k4⟩, _⟩ := h.2.2 i M[i] (List.getElem?_eq_getElem hi)
      rw [List.getElem?_eq_getElem hi, hx]
      simp only [Option.map_some, co]
      rw [k1, k2, k3, k4]
    · rw [List.getElem?_eq_none (by omega), List.getElem?_eq_none (by have := h.2.1; omega)]
theorem alloc_runP (W : World) (o : Oper) (ρ : Operand → Value) (ho : o.op = .alloc 64) : (execOp ρ o).run Tryd.prog W = .ok (.value (.pointer (some ⟨W.heap.size, 0, none⟩))) (W.alloc (.cells #[.int .i64 0, .string ByteArray.empty, .string ByteArray.empty, .slice none 0 0] 64)) := by
  unfold execOp
  simp only [ho]
  go_simp
  rfl
theorem wp_alloc_pk {W : World} {o : Oper} {act : Act} {K : Act → World → Prop} {Q : Exit → Act → World → Prop} (ho : o.op = .alloc 64)
    (h : ∀ W' b, b = W.heap.size → W'.heap[b]? = some (.cells #[.int .i64 0, .string ByteArray.empty, .string ByteArray.empty, .slice none 0 0] 64) → W'.heap.size = b + 1 → Below W.heap.size W W' → K (act.put o.dst (.pointer (some ⟨b, 0, none⟩))) W') : o.wp Tryd.prog act W K Q := by
  unfold Oper.wp
  rw [alloc_runP W o act.eval ho, Oper.upon_value]
  exact h _ _ rfl (heap_alloc_new _ _) (by simp) (below1 _ _)
theorem sizePk : (Tryd.prog.info? 64).map (·.size) = some 4 := by kernel_rfl
theorem OwnPk.base {w : World} {a b : Nat} {v : Value} {l : List Pk} (h : OwnPk w b v l) (hab : a ≤ b) : OwnPk w a v l := by
  refine ⟨h.1, ?_⟩
  rcases h.2 with h1 | ⟨g, cap, cur, rfl, hbg, rest⟩
  · exact .inl h1
  · exact .inr ⟨g, cap, cur, rfl, Nat.le_trans hab hbg, rest⟩
theorem NewSt.base {w : World} {z z' : Nat} {a : Option Addr} {n c : Nat} {M : List Pk} (h : NewSt w z a n c M) (hz : z' ≤ z) : NewSt w z' a n c M :=
  ⟨h.st, h.own.base hz, fun y hy q hq => ⟨Nat.le_trans hz (h.fr y hy q hq).1, (h.fr y hy q hq).2⟩⟩
theorem own_at {w : World} {z : Nat} {a : Option Addr} {n c : Nat} {M : List Pk} (h : OwnPk w z (.slice a n c) M) (hp : ∀ x ∈ M, PkOk w x) : InPk w a M ∧ M.length = n ∧ n ≤ c ∧ c ≤ 9223372036854775807 ∧ (a = none → n = 0 ∧ c = 0) := by
  obtain ⟨a', c', e, hin, hc, hc9⟩ := h.slice hp
  injection e with e1 e2 e3
  subst e1 e3
  refine ⟨hin, e2.symm, by omega, hc9, fun e => ?_⟩
  rcases h.2 with ⟨h1, _⟩ | ⟨g, cap, cur, h1, _⟩
  · injection h1 with _ h2 h3
    exact ⟨h2, h3⟩
  · injection h1 with h2
    rw [e] at h2
    cases h2
theorem own_some {w : World} {z : Nat} {a : Option Addr} {n c : Nat} {M : List Pk} (h : OwnPk w z (.slice a n c) M) (hn : 0 < n) : ∃ g, a = some ⟨g, 0, none⟩ ∧ z ≤ g := by
  rcases h.2 with ⟨h1, _⟩ | ⟨g, cap, cur, h1, hz, _⟩
  · injection h1 with _ h2 h3
    omega
  · injection h1 with h2
    exact ⟨g, h2, hz⟩
theorem wrE_zero {S : List Pc} {ow : Int} {o : Op5} (h : wrE S ow o = 0) : opE o = 0 ∧ cchk S = 0 := by
  unfold wrE at h
  split at h
  · rename_i h1; exact absurd h h1
  · rename_i h1
    split at h
    · rename_i h2; exact absurd h h2
    · rename_i h2
      exact ⟨by simpa using h1, by simpa using h2⟩
theorem opE_zero {o : Op5} (h : opE o = 0) : (o.k = 1 ∨ o.k = 2 ∨ o.k = 3) ∧ isR6 o.r = true ∧ o.l.length ≤ 8 ∧ o.v.length ≤ 16 := by
  unfold opE at h
  split at h
  · cases h
  · rename_i h1
    split at h
    · cases h
    · rename_i h2
      have hk : o.k = 1 ∨ o.k = 2 ∨ o.k = 3 := by omega
      have hr : isR6 o.r = true := by simpa using h2
      split at h
      · split at h
        · cases h
        · rename_i h3 h4
          have e1 : o.v = [] := by by_cases e : o.v = []; exact e; exact absurd (.inl e) h4
          have e2 : o.l = [] := by by_cases e : o.l = []; exact e; exact absurd (.inr e) h4
          exact ⟨hk, hr, by rw [e2]; simp, by rw [e1]; simp⟩
      · have := mchk_len h
        exact ⟨hk, hr, this.2.1, this.2.2.2⟩
/-- what Do tells -/
def DoSaid (w w' : World) (S : List Pc) (ow : Int) (o : Op5) (V : Value) : Prop :=
  (doE S ow o ≠ 0 → V = .slice none 0 0) ∧ (doE S ow o = 0 → ∃ a n c M, V = .slice a n c ∧ NewSt w' w.heap.size a n c M ∧ M.map co = nxt S ow o) ∧ Below w.heap.size w w'
/-- between: a copy of the stack, a box with what is laid -/
def DoMid (w wx : World) (z b : Nat) (a1 : Option Addr) (n c1 : Nat) (M : List Pk) (ow : Int) (N V : ByteArray) (la : Option Addr) (ln lc : Nat) : Prop :=
  OwnPk wx z (.slice a1 n c1) M ∧ wx.heap[b]? = some (.cells #[.int .i64 ow, .string N, .string V, .slice la ln lc] 64) ∧ z ≤ b ∧ (∀ k, (Value.slice a1 n c1).ownBlock = some k → k ≠ b) ∧ Below w.heap.size w wx
set_option maxRecDepth 100000 in
set_option maxHeartbeats 8000000 in
theorem pdo_is (w : World) (a : Option Addr) (n c : Nat) (M : List Pk) (hs : StAt w a n c M) (ow : Int) (o : Op5) (la : Option Addr) (ln lc : Nat) (ho : OpAt w o la ln lc) :
    Calls Tryd.prog 23 #[.slice a n c, .int .i64 ow, opV o la ln lc] w fun e w' => ∃ V, e = .returned (.tuple #[V, .int .i64 (doE (M.map co) ow o)]) ∧ DoSaid w w' (M.map co) ow o V := by
  obtain ⟨W0, hW0⟩ : ∃ W0, W0 = w.alloc (.cells #[.int .i64 o.k, .int .i64 o.r, .string (tx o.n), .string (tx o.v), .slice la ln lc] 46) := ⟨_, rfl⟩
  have HE : Hid (W0 = w.alloc (.cells #[.int .i64 o.k, .int .i64 o.r, .string (tx o.n), .string (tx o.v), .slice la ln lc] 46)) := hW0
  have hb0 : Below w.heap.size w W0 := by rw [hW0]; exact below1 w _
  have hz : W0.heap.size = w.heap.size + 1 := by rw [hW0]; simp
  have hq : W0.heap[w.heap.size]? = some (.cells #[.int .i64 o.k, .int .i64 o.r, .string (tx o.n), .string (tx o.v), .slice la ln lc] 46) := by rw [hW0]; exact heap_alloc_new w _
  have HB : Hid (Below w.heap.size w W0 ∧ W0.heap.size = w.heap.size + 1) := ⟨hb0, hz⟩
  have KB : Hid (∀ u, Below W0.heap.size W0 u → u.cell? ⟨w.heap.size, 0, none⟩ = some (.int .i64 o.k) ∧ u.cell? ⟨w.heap.size, 1, none⟩ = some (.int .i64 o.r) ∧ u.cell? ⟨w.heap.size, 2, none⟩ = some (.string (tx o.n)) ∧ u.cell? ⟨w.heap.size, 3, none⟩ = some (.string (tx o.v)) ∧ u.cell? ⟨w.heap.size, 4, none⟩ = some (.slice la ln lc)) := fun u hu => by
    have h := (hu.block w.heap.size (by omega)).trans hq
    refine ⟨?_, ?_, ?_, ?_, ?_⟩ <;> simp [World.cell?, h]
  have HS : Hid (StAt w a n c M ∧ OpAt w o la ln lc) := ⟨hs, ho⟩
  have KW : Hid (Calls Tryd.prog 35 #[.slice a n c, .int .i64 ow, .agg #[.int .i64 o.k, .int .i64 o.r, .string (tx o.n), .string (tx o.v), .slice la ln lc]] W0 fun e w' => e = .returned (.int .i64 (wrE (M.map co) ow o)) ∧ Below W0.heap.size W0 w') := wrong_is W0 a n c M (hs.keep hb0) ow o la ln lc (ho.keep hb0)
  have UP : Hid (∀ u, Below W0.heap.size W0 u → Below w.heap.size w u) := fun u hu => hb0.trans (hu.mono hb0.size)
  have KF : Hid (∀ W, Below W0.heap.size W0 W → Calls Tryd.prog 36 #[.slice a n c, .func (.func 37) #[] #[.pointer (some ⟨w.heap.size, 0, none⟩)]] W fun e w' => ∃ r, e = .returned (.int .i64 r) ∧ fAt M o.n r ∧ Below W.heap.size W w') := fun W hW => findP_is W a n c M (hs.keep (UP.out W hW)).inp hs.len (by have := hs.big; omega) w.heap.size o.n (KB.out W hW).2.2.1 (by have := hW.size; omega)
  obtain ⟨E, hE⟩ : ∃ E, doE (M.map co) ow o = E := ⟨_, rfl⟩
  have HR : Hid (doE (M.map co) ow o = E) := hE
  rw [hE]
  obtain ⟨E1, hE1⟩ : ∃ E, wrE (M.map co) ow o = E := ⟨_, rfl⟩
  have HR1 : Hid (wrE (M.map co) ow o = E1) := hE1
  rw [hE1] at KW
  obtain ⟨c0, c1, c2, c3, c4⟩ := KB.out W0 (Below.refl _ _)
  unfold opV
  obtain ⟨k, r, nm, v, l⟩ := o
  simp only at HE KB KW KF c0 c1 c2 c3 c4 HB ⊢
  clear hW0 hb0 hz hq hE hE1 hs ho
  go_enter Tryd.func23, Tryd.ntmps23
  go_wp2_with fail
  rw [← HE.out]
  clear HE
  refine KW.out.mono ?_
  rintro e w1 ⟨rfl, b1⟩
  have B1 : Hid (Below W0.heap.size W0 w1) := b1
  clear b1 KW c0 c1 c2 c3 c4
  by_cases h1 : E1 = 0
  case neg =>
    have e1 : (E1 != 0) = true := by simpa using h1
    have HF : Hid (E1 = E) := by have := HR.out; unfold doE at this; rw [HR1.out, if_pos h1] at this; exact this
    have HN : Hid (doE (M.map co) ow ⟨k, r, nm, v, l⟩ ≠ 0) := by show _ ≠ _; rw [HR.out, ← HF.out]; exact h1
    clear h1
    go_wp2_with fail
    go_ret2
    exact ⟨_, by rw [← HF.out]; rfl, fun _ => rfl, fun h => absurd h HN.out, UP.out _ B1.out⟩
  subst h1
  go_wp2_with fail
  refine (KF.out _ B1.out).mono ?_
  rintro e w2 ⟨at', rfl, hat, b2⟩
  have HA : Hid (fAt M nm at') := hat
  have B2 : Hid (Below W0.heap.size W0 w2) := B1.out.trans (b2.mono B1.out.size)
  clear b2 hat KF
  have KC : Hid (∀ W, Below W0.heap.size W0 W → Calls Tryd.prog 38 #[.slice a n c] W fun e w' => ∃ v, e = .returned v ∧ OwnPk w' W.heap.size v M ∧ Below W.heap.size W w') := fun W hW => cloneP_is W a n c M HS.out.1.len (HS.out.1.keep (UP.out W hW)).inp HS.out.1.nil (by have := HS.out.1.big; omega)
  have KM : Hid (∀ W, Calls Tryd.prog 39 #[.agg #[.int .i64 k, .int .i64 r, .string (tx nm), .string (tx v), .slice la ln lc]] W fun e w' => e = .returned (.agg #[.string (tx nm), .string (tx v), .slice la ln lc]) ∧ Below W.heap.size W w') := fun W => manifestOf_is W k r _ _ la ln lc
  obtain ⟨q0, q1, q2, q3, q4⟩ := KB.out w2 B2.out
  go_upto_region 5 with fail
  go_cut [10, 11] from 25 to 30 (fun s x wx => ∃ a1 c1 b, s = .slice a1 n c1 ∧ x = .pointer (some ⟨b, 0, none⟩) ∧ Hid (DoMid W0 wx W0.heap.size b a1 n c1 M ow (tx nm) (tx v) la ln lc))
  case first =>
    refine wp_region_noPanic ?_
    refine wp_region_held_drew (S := (fun W : World => Below W0.heap.size W0 W)) (by kernel_rfl) ?hSag (fun hHeld => ?restag)
    case hSag => exact below_drewM B2.out
    case restag =>
      refine wpAnyH_take (i := 0) (v := .slice a n c) rfl (by kernel_rfl) (by kernel_rfl) (by kernel_rfl) (fun _ _ _ h => h) (Or.inl ⟨by kernel_rfl, ?hy0g⟩) hHeld ?rest0g
      case hy0g => (intro w' hSw; (try dsimp only at hSw); go_simp; try with_reducible rfl)
      try simp only [Act.put, List.setIfInBounds_toArray, List.set_cons_zero, List.set_cons_succ, List.getElem_toArray, List.getElem_cons_zero, List.getElem_cons_succ]
      refine wpAnyH_take (i := 2) (v := .int .i64 ow) rfl (by kernel_rfl) (by kernel_rfl) (by kernel_rfl) (fun _ _ _ h => h) (Or.inl ⟨by kernel_rfl, ?hy2g⟩) hHeld ?rest2g
      case hy2g => (intro w' hSw; (try dsimp only at hSw); go_simp; try with_reducible rfl)
      try simp only [Act.put, List.setIfInBounds_toArray, List.set_cons_zero, List.set_cons_succ, List.getElem_toArray, List.getElem_cons_zero, List.getElem_cons_succ]
      refine wpAnyH_take (i := 3) (v := .agg #[.int .i64 k, .int .i64 r, .string (tx nm), .string (tx v), .slice la ln lc]) rfl (by kernel_rfl) (by kernel_rfl) (by kernel_rfl) (fun _ _ _ h => h) (Or.inl ⟨by kernel_rfl, ?hy3g⟩) hHeld ?rest3g
      case hy3g => (intro w' hSw; (try dsimp only at hSw); obtain ⟨p0, p1, p2, p3, p4⟩ := KB.out _ hSw; go_simp; try with_reducible rfl)
      try simp only [Act.put, List.setIfInBounds_toArray, List.set_cons_zero, List.set_cons_succ, List.getElem_toArray, List.getElem_cons_zero, List.getElem_cons_succ]
      refine wpAnyH_ready (rs := [1, 6]) (by kernel_rfl) (by simp) ?_
      refine AllReadyH.cons rfl (fun K hK => ?_) (AllReadyH.cons rfl (fun K hK => ?_) AllReadyH.nil)
      · skip
        go_simp
        refine (KC.out _ (below_drewM B2.out)).mono ?_
        rintro e5 w5 ⟨v5, rfl, o5, b5⟩
        have B5 : Hid (Below W0.heap.size W0 w5) := ((below_drewM B2.out)).trans (b5.mono ((below_drewM B2.out)).size)
        obtain ⟨a5, c5, rfl, -⟩ := o5.slice (fun x hx => (HS.out.1.pk x hx).1.keep (UP.out _ B5.out))
        rw [HS.out.1.len] at o5 ⊢
        have O5 : Hid (OwnPk w5 _ (.slice a5 n c5) M) := o5
        have L5 : Hid _ := b5
        clear o5 b5
        go_wp2_with fail
        refine hK.out _ _ ?hS1b (fun hHeld => ?rest1b)
        case hS1b => exact B5.out
        clear hK K
        try simp only [Act.put, List.setIfInBounds_toArray, List.set_cons_zero, List.set_cons_succ, List.getElem_toArray, List.getElem_cons_zero, List.getElem_cons_succ]
        refine wpAnyH_ready (rs := [4, 6]) (by kernel_rfl) (by simp) ?_
        refine AllReadyH.cons rfl (fun K hK => ?_) (AllReadyH.cons rfl (fun K hK => ?_) AllReadyH.nil)
        · skip
          go_simp
          refine (KM.out _).mono ?_
          rintro e6 w6 ⟨rfl, b6⟩
          have B6 : Hid (Below W0.heap.size W0 w6) := (B5.out).trans (b6.mono (B5.out).size)
          have L6 : Hid _ := b6
          clear b6
          go_wp2_with fail
          refine hK.out _ _ ?hS4c (fun hHeld => ?rest4c)
          case hS4c => exact B6.out
          clear hK K
          try simp only [Act.put, List.setIfInBounds_toArray, List.set_cons_zero, List.set_cons_succ, List.getElem_toArray, List.getElem_cons_zero, List.getElem_cons_succ]
          refine wpAnyH_take (i := 5) (v := .agg #[.int .i64 ow, .string (tx nm), .string (tx v), .slice la ln lc]) rfl (by kernel_rfl) (by kernel_rfl) (by kernel_rfl) (fun _ _ _ h => h) (Or.inl ⟨by kernel_rfl, ?hy5c⟩) hHeld ?rest5c
          case hy5c => (intro w' hSw; (try dsimp only at hSw); go_simp; try with_reducible rfl)
          try simp only [Act.put, List.setIfInBounds_toArray, List.set_cons_zero, List.set_cons_succ, List.getElem_toArray, List.getElem_cons_zero, List.getElem_cons_succ]
          refine wpAnyH_ready (rs := [6]) (by kernel_rfl) (by simp) ?_
          refine AllReadyH.cons rfl (fun K hK => ?_) AllReadyH.nil
          refine wp_alloc_pk rfl ?_
          intro w7 b hb7 hx7 hz7 b7
          have B7 : Hid (Below W0.heap.size W0 w7) := (B6.out).trans (b7.mono (B6.out).size)
          have X7 : Hid (w7.heap[b]? = some (.cells #[.int .i64 0, .string ByteArray.empty, .string ByteArray.empty, .slice none 0 0] 64)) := hx7
          have L7 : Hid _ := b7
          have Q7 : Hid (b = _ ∧ w7.heap.size = b + 1) := ⟨hb7, hz7⟩
          clear hb7 hx7 hz7 b7
          refine hK.out _ _ ?hS6c (fun hHeld => ?rest6c)
          case hS6c => exact B7.out
          clear hK K
          try simp only [Act.put, List.setIfInBounds_toArray, List.set_cons_zero, List.set_cons_succ, List.getElem_toArray, List.getElem_cons_zero, List.getElem_cons_succ]
          have OF : Hid (OwnPk w7 W0.heap.size (.slice a5 n c5) M) := ((O5.out.base (below_drewM B2.out).size).keep L6.out).keep L7.out
          have XF : Hid (w7.heap[b]? = some (.cells #[.int .i64 0, .string ByteArray.empty, .string ByteArray.empty, .slice none 0 0] 64)) := X7.out
          have NF : Hid (∀ k, (Value.slice a5 n c5).ownBlock = some k → k ≠ b) := fun k hk => by have := (O5.out.own k hk).2; have := L6.out.size; have := Q7.out.1; omega
          have ZF : Hid (W0.heap.size ≤ b) := by show _ ≤ _; have := Q7.out.1; have := B6.out.size; omega
          have BF : Hid (Below W0.heap.size W0 w7) := B7.out
          have DF : Hid (DoMid W0 (w7.setRow b #[.int .i64 ow, .string (tx nm), .string (tx v), .slice la ln lc]) W0.heap.size b a5 n c5 M ow (tx nm) (tx v) la ln lc) := ⟨OF.out.kept fun k hk => setRow_other _ _ _ _ (NF.out k hk), setRow_heap _ _ _ _ _ _ XF.out, ZF.out, NF.out, ⟨BF.out.os, BF.out.tape, BF.out.output, by rw [setRow_size]; exact BF.out.size, fun k hk => (setRow_other _ _ _ _ (by have := ZF.out; omega)).trans (BF.out.block k hk)⟩⟩
          refine wpAnyH_take (i := 7) (v := .slice a5 n c5) rfl (by kernel_rfl) (by kernel_rfl) (by kernel_rfl) (fun _ _ _ h => h) (Or.inl ⟨by kernel_rfl, ?hy7c⟩) hHeld ?rest7c
          case hy7c => (intro w' hSw; (try dsimp only at hSw); go_simp; try with_reducible rfl)
          try simp only [Act.put, List.setIfInBounds_toArray, List.set_cons_zero, List.set_cons_succ, List.getElem_toArray, List.getElem_cons_zero, List.getElem_cons_succ]
          refine wpAnyH_ready (rs := [8]) (by kernel_rfl) (by simp) ?_
          refine AllReadyH.cons rfl (fun K hK => ?_) AllReadyH.nil
          first | rw [if_pos (by kernel_rfl)] | skip
          refine wp_store_row 64 (.tmp 11) (.tmp 30) rfl b #[.int .i64 ow, .string (tx nm), .string (tx v), .slice la ln lc] rfl rfl 64 _ XF.out sizePk rfl (by simp [Value.oneCell']) ?_
          refine hK.out _ _ ?hS8c (fun hHeld => ?rest8c)
          case hS8c => exact DF.out.2.2.2.2
          clear hK K
          refine wpAnyH_done (by kernel_rfl) ?_ _
          refine NoPanic.normal ?_
          try go_wp2_with fail
          go_meet
          case rel => exact ⟨a5, c5, b, rfl, rfl, DF.out⟩
        · skip
          refine wp_alloc_pk rfl ?_
          intro w7 b hb7 hx7 hz7 b7
          have B7 : Hid (Below W0.heap.size W0 w7) := (B5.out).trans (b7.mono (B5.out).size)
          have X7 : Hid (w7.heap[b]? = some (.cells #[.int .i64 0, .string ByteArray.empty, .string ByteArray.empty, .slice none 0 0] 64)) := hx7
          have L7 : Hid _ := b7
          have Q7 : Hid (b = _ ∧ w7.heap.size = b + 1) := ⟨hb7, hz7⟩
          clear hb7 hx7 hz7 b7
          refine hK.out _ _ ?hS6d (fun hHeld => ?rest6d)
          case hS6d => exact B7.out
          clear hK K
          try simp only [Act.put, List.setIfInBounds_toArray, List.set_cons_zero, List.set_cons_succ, List.getElem_toArray, List.getElem_cons_zero, List.getElem_cons_succ]
          refine wpAnyH_ready (rs := [4]) (by kernel_rfl) (by simp) ?_
          refine AllReadyH.cons rfl (fun K hK => ?_) AllReadyH.nil
          go_simp
          refine (KM.out _).mono ?_
          rintro e6 w6 ⟨rfl, b6⟩
          have B6 : Hid (Below W0.heap.size W0 w6) := (B7.out).trans (b6.mono (B7.out).size)
          have L6 : Hid _ := b6
          clear b6
          go_wp2_with fail
          refine hK.out _ _ ?hS4d (fun hHeld => ?rest4d)
          case hS4d => exact B6.out
          clear hK K
          try simp only [Act.put, List.setIfInBounds_toArray, List.set_cons_zero, List.set_cons_succ, List.getElem_toArray, List.getElem_cons_zero, List.getElem_cons_succ]
          refine wpAnyH_take (i := 5) (v := .agg #[.int .i64 ow, .string (tx nm), .string (tx v), .slice la ln lc]) rfl (by kernel_rfl) (by kernel_rfl) (by kernel_rfl) (fun _ _ _ h => h) (Or.inl ⟨by kernel_rfl, ?hy5d⟩) hHeld ?rest5d
          case hy5d => (intro w' hSw; (try dsimp only at hSw); go_simp; try with_reducible rfl)
          try simp only [Act.put, List.setIfInBounds_toArray, List.set_cons_zero, List.set_cons_succ, List.getElem_toArray, List.getElem_cons_zero, List.getElem_cons_succ]
          have OF : Hid (OwnPk w6 W0.heap.size (.slice a5 n c5) M) := ((O5.out.base (below_drewM B2.out).size).keep L7.out).keep L6.out
          have XF : Hid (w6.heap[b]? = some (.cells #[.int .i64 0, .string ByteArray.empty, .string ByteArray.empty, .slice none 0 0] 64)) := (L6.out.block b (by have := Q7.out.2; omega)).trans X7.out
          have NF : Hid (∀ k, (Value.slice a5 n c5).ownBlock = some k → k ≠ b) := fun k hk => by have := (O5.out.own k hk).2; have := Q7.out.1; omega
          have ZF : Hid (W0.heap.size ≤ b) := by show _ ≤ _; have := Q7.out.1; have := B5.out.size; omega
          have BF : Hid (Below W0.heap.size W0 w6) := B6.out
          have DF : Hid (DoMid W0 (w6.setRow b #[.int .i64 ow, .string (tx nm), .string (tx v), .slice la ln lc]) W0.heap.size b a5 n c5 M ow (tx nm) (tx v) la ln lc) := ⟨OF.out.kept fun k hk => setRow_other _ _ _ _ (NF.out k hk), setRow_heap _ _ _ _ _ _ XF.out, ZF.out, NF.out, ⟨BF.out.os, BF.out.tape, BF.out.output, by rw [setRow_size]; exact BF.out.size, fun k hk => (setRow_other _ _ _ _ (by have := ZF.out; omega)).trans (BF.out.block k hk)⟩⟩
          refine wpAnyH_take (i := 7) (v := .slice a5 n c5) rfl (by kernel_rfl) (by kernel_rfl) (by kernel_rfl) (fun _ _ _ h => h) (Or.inl ⟨by kernel_rfl, ?hy7d⟩) hHeld ?rest7d
          case hy7d => (intro w' hSw; (try dsimp only at hSw); go_simp; try with_reducible rfl)
          try simp only [Act.put, List.setIfInBounds_toArray, List.set_cons_zero, List.set_cons_succ, List.getElem_toArray, List.getElem_cons_zero, List.getElem_cons_succ]
          refine wpAnyH_ready (rs := [8]) (by kernel_rfl) (by simp) ?_
          refine AllReadyH.cons rfl (fun K hK => ?_) AllReadyH.nil
          first | rw [if_pos (by kernel_rfl)] | skip
          refine wp_store_row 64 (.tmp 11) (.tmp 30) rfl b #[.int .i64 ow, .string (tx nm), .string (tx v), .slice la ln lc] rfl rfl 64 _ XF.out sizePk rfl (by simp [Value.oneCell']) ?_
          refine hK.out _ _ ?hS8d (fun hHeld => ?rest8d)
          case hS8d => exact DF.out.2.2.2.2
          clear hK K
          refine wpAnyH_done (by kernel_rfl) ?_ _
          refine NoPanic.normal ?_
          try go_wp2_with fail
          go_meet
          case rel => exact ⟨a5, c5, b, rfl, rfl, DF.out⟩
      · skip
        refine wp_alloc_pk rfl ?_
        intro w7 b hb7 hx7 hz7 b7
        have B7 : Hid (Below W0.heap.size W0 w7) := ((below_drewM B2.out)).trans (b7.mono ((below_drewM B2.out)).size)
        have X7 : Hid (w7.heap[b]? = some (.cells #[.int .i64 0, .string ByteArray.empty, .string ByteArray.empty, .slice none 0 0] 64)) := hx7
        have L7 : Hid _ := b7
        have Q7 : Hid (b = _ ∧ w7.heap.size = b + 1) := ⟨hb7, hz7⟩
        clear hb7 hx7 hz7 b7
        refine hK.out _ _ ?hS6e (fun hHeld => ?rest6e)
        case hS6e => exact B7.out
        clear hK K
        try simp only [Act.put, List.setIfInBounds_toArray, List.set_cons_zero, List.set_cons_succ, List.getElem_toArray, List.getElem_cons_zero, List.getElem_cons_succ]
        refine wpAnyH_ready (rs := [1]) (by kernel_rfl) (by simp) ?_
        refine AllReadyH.cons rfl (fun K hK => ?_) AllReadyH.nil
        go_simp
        refine (KC.out _ B7.out).mono ?_
        rintro e5 w5 ⟨v5, rfl, o5, b5⟩
        have B5 : Hid (Below W0.heap.size W0 w5) := (B7.out).trans (b5.mono (B7.out).size)
        obtain ⟨a5, c5, rfl, -⟩ := o5.slice (fun x hx => (HS.out.1.pk x hx).1.keep (UP.out _ B5.out))
        rw [HS.out.1.len] at o5 ⊢
        have O5 : Hid (OwnPk w5 _ (.slice a5 n c5) M) := o5
        have L5 : Hid _ := b5
        clear o5 b5
        go_wp2_with fail
        refine hK.out _ _ ?hS1e (fun hHeld => ?rest1e)
        case hS1e => exact B5.out
        clear hK K
        try simp only [Act.put, List.setIfInBounds_toArray, List.set_cons_zero, List.set_cons_succ, List.getElem_toArray, List.getElem_cons_zero, List.getElem_cons_succ]
        refine wpAnyH_ready (rs := [4]) (by kernel_rfl) (by simp) ?_
        refine AllReadyH.cons rfl (fun K hK => ?_) AllReadyH.nil
        go_simp
        refine (KM.out _).mono ?_
        rintro e6 w6 ⟨rfl, b6⟩
        have B6 : Hid (Below W0.heap.size W0 w6) := (B5.out).trans (b6.mono (B5.out).size)
        have L6 : Hid _ := b6
        clear b6
        go_wp2_with fail
        refine hK.out _ _ ?hS4e (fun hHeld => ?rest4e)
        case hS4e => exact B6.out
        clear hK K
        try simp only [Act.put, List.setIfInBounds_toArray, List.set_cons_zero, List.set_cons_succ, List.getElem_toArray, List.getElem_cons_zero, List.getElem_cons_succ]
        refine wpAnyH_take (i := 5) (v := .agg #[.int .i64 ow, .string (tx nm), .string (tx v), .slice la ln lc]) rfl (by kernel_rfl) (by kernel_rfl) (by kernel_rfl) (fun _ _ _ h => h) (Or.inl ⟨by kernel_rfl, ?hy5e⟩) hHeld ?rest5e
        case hy5e => (intro w' hSw; (try dsimp only at hSw); go_simp; try with_reducible rfl)
        try simp only [Act.put, List.setIfInBounds_toArray, List.set_cons_zero, List.set_cons_succ, List.getElem_toArray, List.getElem_cons_zero, List.getElem_cons_succ]
        have OF : Hid (OwnPk w6 W0.heap.size (.slice a5 n c5) M) := (O5.out.base B7.out.size).keep L6.out
        have XF : Hid (w6.heap[b]? = some (.cells #[.int .i64 0, .string ByteArray.empty, .string ByteArray.empty, .slice none 0 0] 64)) := (L6.out.block b (by have := Q7.out.2; have := L5.out.size; omega)).trans ((L5.out.block b (by have := Q7.out.2; omega)).trans X7.out)
        have NF : Hid (∀ k, (Value.slice a5 n c5).ownBlock = some k → k ≠ b) := fun k hk => by have := (O5.out.own k hk).1; have := Q7.out.2; omega
        have ZF : Hid (W0.heap.size ≤ b) := by show _ ≤ _; have := Q7.out.1; have := B2.out.size; have : w2.drew.heap.size = w2.heap.size := rfl; omega
        have BF : Hid (Below W0.heap.size W0 w6) := B6.out
        have DF : Hid (DoMid W0 (w6.setRow b #[.int .i64 ow, .string (tx nm), .string (tx v), .slice la ln lc]) W0.heap.size b a5 n c5 M ow (tx nm) (tx v) la ln lc) := ⟨OF.out.kept fun k hk => setRow_other _ _ _ _ (NF.out k hk), setRow_heap _ _ _ _ _ _ XF.out, ZF.out, NF.out, ⟨BF.out.os, BF.out.tape, BF.out.output, by rw [setRow_size]; exact BF.out.size, fun k hk => (setRow_other _ _ _ _ (by have := ZF.out; omega)).trans (BF.out.block k hk)⟩⟩
        refine wpAnyH_take (i := 7) (v := .slice a5 n c5) rfl (by kernel_rfl) (by kernel_rfl) (by kernel_rfl) (fun _ _ _ h => h) (Or.inl ⟨by kernel_rfl, ?hy7e⟩) hHeld ?rest7e
        case hy7e => (intro w' hSw; (try dsimp only at hSw); go_simp; try with_reducible rfl)
        try simp only [Act.put, List.setIfInBounds_toArray, List.set_cons_zero, List.set_cons_succ, List.getElem_toArray, List.getElem_cons_zero, List.getElem_cons_succ]
        refine wpAnyH_ready (rs := [8]) (by kernel_rfl) (by simp) ?_
        refine AllReadyH.cons rfl (fun K hK => ?_) AllReadyH.nil
        first | rw [if_pos (by kernel_rfl)] | skip
        refine wp_store_row 64 (.tmp 11) (.tmp 30) rfl b #[.int .i64 ow, .string (tx nm), .string (tx v), .slice la ln lc] rfl rfl 64 _ XF.out sizePk rfl (by simp [Value.oneCell']) ?_
        refine hK.out _ _ ?hS8e (fun hHeld => ?rest8e)
        case hS8e => exact DF.out.2.2.2.2
        clear hK K
        refine wpAnyH_done (by kernel_rfl) ?_ _
        refine NoPanic.normal ?_
        try go_wp2_with fail
        go_meet
        case rel => exact ⟨a5, c5, b, rfl, rfl, DF.out⟩
  case rest =>
    obtain ⟨w4, rfl⟩ : ∃ w4, w4 = wc := ⟨_, rfl⟩
    obtain ⟨a1, c1, b, rfl, rfl, DM⟩ := hcut
    have BW : Hid (Below W0.heap.size W0 w4) := DM.out.2.2.2.2
    have HKE : Hid ((if kE (M.map co) ow ⟨k, r, nm, v, l⟩ ≠ 0 then kE (M.map co) ow ⟨k, r, nm, v, l⟩ else cchk (nxt (M.map co) ow ⟨k, r, nm, v, l⟩)) = E) := by
      have := HR.out
      unfold doE at this
      rwa [HR1.out, if_neg (fun h => h rfl)] at this
    have HOK : Hid _ := wrE_zero HR1.out
    have HK : Hid _ := opE_zero HOK.out.1
    have HND : Hid _ := (cchk_ok HOK.out.2).1
    have PM : Hid (∀ x ∈ M, PkOk w x ∧ NilOk x ∧ x.ln ≤ 20) := fun x hx => HS.out.1.pk x hx
    have PX : Hid (PkOk w (pkO ow ⟨k, r, nm, v, l⟩ la ln lc) ∧ NilOk (pkO ow ⟨k, r, nm, v, l⟩ la ln lc) ∧ (pkO ow ⟨k, r, nm, v, l⟩ la ln lc).ln ≤ 20) := ⟨⟨HS.out.2.inr, HS.out.2.len, HS.out.2.cap, by have := HS.out.2.big; show ln ≤ _; omega, HS.out.2.dg, HS.out.2.sn, HS.out.2.sv⟩, HS.out.2.nil, HS.out.2.big⟩
    obtain ⟨q0, q1, q2, q3, q4⟩ := KB.out w4 BW.out
    have x0 : w4.cell? ⟨b, 0, none⟩ = some (.int .i64 ow) := by simp [World.cell?, DM.out.2.1]
    have x1 : w4.cell? ⟨b, 1, none⟩ = some (.string (tx nm)) := by simp [World.cell?, DM.out.2.1]
    have x2 : w4.cell? ⟨b, 2, none⟩ = some (.string (tx v)) := by simp [World.cell?, DM.out.2.1]
    have x3 : w4.cell? ⟨b, 3, none⟩ = some (.slice la ln lc) := by simp [World.cell?, DM.out.2.1]
    have hM20 : M.length ≤ 20 := by have := HS.out.1.len; have := HS.out.1.big; omega
    have HM20 : Hid (M.length ≤ 20) := hM20
    clear hM20
    by_cases k1 : k = 1
    · have e1 : (k == 1) = true := by simp [k1]
      rcases HA.out with ⟨rfl, hno⟩ | ⟨j, x, rfl, hx, hxn, hno⟩
      · have KZ : Hid (kE (M.map co) ow ⟨k, r, nm, v, l⟩ = 0) := (kE_none hno).trans (if_pos k1)
        have C5 : Hid ((M ++ [pkO ow ⟨k, r, nm, v, l⟩ la ln lc]).map co = nxt (M.map co) ow ⟨k, r, nm, v, l⟩) := nxt_1 (o := ⟨k, r, nm, v, l⟩) k1 la ln lc
        have OD : Hid (OwnPk (w4.alloc (.cells #[.int .i64 ow, .string (tx nm), .string (tx v), .slice la ln lc] 64)) W0.heap.size (.slice a1 n c1) M) := DM.out.1.keep (below1 _ _)
        have BA : Hid (Below W0.heap.size W0 (w4.alloc (.cells #[.int .i64 ow, .string (tx nm), .string (tx v), .slice la ln lc] 64))) := BW.out.alloc BW.out.size _
        have HC : Hid ((w4.alloc (.cells #[.int .i64 ow, .string (tx nm), .string (tx v), .slice la ln lc] 64)).heap[w4.heap.size]? = some (.cells (pkC (pkO ow ⟨k, r, nm, v, l⟩ la ln lc)) 64)) := heap_alloc_new w4 _
        clear k1 hno
        go_wp2_with (at_builtin; refine append_pack rfl (.tmp 37) (.tmp 39) rfl W0.heap.size _ M rfl OD.out w4.heap.size 1 (pkO ow ⟨k, r, nm, v, l⟩ la ln lc) rfl HC.out (by have := HM20.out; omega) BA.out.size ?_; intro v5 u5 o5 g5; have O5 : Hid (OwnPk u5 W0.heap.size v5 (M ++ [pkO ow ⟨k, r, nm, v, l⟩ la ln lc])) := o5; have B5 : Hid (Below W0.heap.size W0 u5) := BA.out.grown g5 BA.out.size (fun q hq => (OD.out.own q hq).1); clear o5 g5)
        have P5 : Hid (∀ x ∈ M ++ [pkO ow ⟨k, r, nm, v, l⟩ la ln lc], PkOk w x ∧ NilOk x ∧ x.ln ≤ 20) := fun x hx => (List.mem_append.1 hx).elim (PM.out x) (fun h => by rw [List.mem_singleton.1 h]; exact PX.out)
        have N5 : Hid ((M ++ [pkO ow ⟨k, r, nm, v, l⟩ la ln lc]).length ≤ 1000000) := by have := HM20.out; show _ ≤ _; simp; omega
        obtain ⟨a2, c2, rfl, -⟩ := O5.out.slice (fun x hx => (P5.out x hx).1.keep (UP.out _ B5.out))
        obtain ⟨n2, hn2⟩ : ∃ n2, n2 = (M ++ [pkO ow ⟨k, r, nm, v, l⟩ la ln lc]).length := ⟨_, rfl⟩
        rw [← hn2] at O5 N5 ⊢
        clear hn2
        have A5 : Hid _ := own_at O5.out (fun x hx => (P5.out x hx).1.keep (UP.out _ B5.out))
        have KD : Hid (Calls Tryd.prog 43 #[.slice a2 n2 c2] u5 fun e w' => e = .returned (.int .i64 (cchk (nxt (M.map co) ow ⟨k, r, nm, v, l⟩))) ∧ Below u5.heap.size u5 w') := by
          rw [← C5.out, ← pchk_co (fun x hx => (P5.out x hx).1.len)]
          exact dbcheck_is u5 a2 n2 c2 _ A5.out.1 A5.out.2.1 A5.out.2.2.1 A5.out.2.2.2.1 N5.out
        obtain ⟨E2, hE2⟩ : ∃ E2, cchk (nxt (M.map co) ow ⟨k, r, nm, v, l⟩) = E2 := ⟨_, rfl⟩
        have HF : Hid (E2 = E) := by have := HKE.out; rwa [KZ.out, if_neg (fun h => h rfl), hE2] at this
        have HE2 : Hid (cchk (nxt (M.map co) ow ⟨k, r, nm, v, l⟩) = E2) := hE2
        rw [hE2] at KD
        clear hE2
        refine KD.out.mono ?_
        rintro e w6 ⟨rfl, b6⟩
        have B6 : Hid (Below W0.heap.size W0 w6) := B5.out.trans (b6.mono B5.out.size)
        have KP : Hid (Calls Tryd.prog 31 #[.slice a2 n2 c2] w6 fun e w' => ∃ pa pn pc M', e = .returned (.slice pa pn pc) ∧ Cpd w' w6.heap.size (.slice pa pn pc) _ M' ∧ Below w6.heap.size w6 w') := copied_is w6 a2 n2 c2 _ A5.out.2.1 (A5.out.1.keep b6) A5.out.2.2.2.2 (fun x hx => ⟨(P5.out x hx).1.keep (UP.out _ B6.out), (P5.out x hx).2.1, by have := (P5.out x hx).2.2; omega⟩) N5.out
        clear b6 KD
        by_cases h2 : E2 = 0
        case neg =>
          have e1 : (E2 != 0) = true := by simpa using h2
          have HN : Hid (doE (M.map co) ow ⟨k, r, nm, v, l⟩ ≠ 0) := by show _ ≠ _; rw [HR.out, ← HF.out]; exact h2
          clear h2
          go_wp2_with fail
          go_ret2
          exact ⟨_, by rw [← HF.out]; rfl, fun _ => rfl, fun h => absurd h HN.out, UP.out _ B6.out⟩
        subst h2
        have HN : Hid (doE (M.map co) ow ⟨k, r, nm, v, l⟩ = 0) := by show _ = _; rw [HR.out, ← HF.out]
        go_wp2_with fail
        refine KP.out.mono ?_
        rintro e w7 ⟨a7, n7, c7, M7, rfl, cp, b7⟩
        have NW := cpd_new cp (by have h := (cchk_ok HE2.out).2.1; rw [← C5.out, List.length_map] at h; omega) (fun x hx => by rw [(P5.out x hx).1.len]; exact (P5.out x hx).2.2) b7.size
        have NF : Hid (NewSt w7 w.heap.size a7 n7 c7 M7 ∧ M7.map co = nxt (M.map co) ow ⟨k, r, nm, v, l⟩ ∧ Below w.heap.size w w7) := ⟨NW.1.base (UP.out _ B6.out).size, NW.2.trans C5.out, (UP.out _ B6.out).trans (b7.mono (UP.out _ B6.out).size)⟩
        clear NW cp b7
        go_wp2_with fail
        go_ret2
        exact ⟨_, by rw [← HF.out]; rfl, fun h => absurd HN.out h, fun _ => ⟨a7, n7, c7, M7, rfl, NF.out.1, NF.out.2.1⟩, NF.out.2.2⟩
      · have hj : ((j : Int) != -1) = true := by rw [bne_iff_ne]; omega
        have HF : Hid ((8 : Int) = E) := by have := HKE.out; rw [kE_at hx hxn hno, if_pos k1, if_pos (by decide)] at this; exact this
        have HN : Hid (doE (M.map co) ow ⟨k, r, nm, v, l⟩ ≠ 0) := by show _ ≠ _; rw [HR.out, ← HF.out]; decide
        clear k1 hx hxn hno
        go_wp2_with fail
        go_ret2
        exact ⟨_, by rw [← HF.out]; rfl, fun _ => rfl, fun h => absurd h HN.out, UP.out _ BW.out⟩
    have e1 : (k == 1) = false := by simpa using k1
    have KX : Hid (∀ u, Below w4.heap.size w4 u → u.cell? ⟨b, 0, none⟩ = some (.int .i64 ow) ∧ u.cell? ⟨b, 1, none⟩ = some (.string (tx nm)) ∧ u.cell? ⟨b, 2, none⟩ = some (.string (tx v)) ∧ u.cell? ⟨b, 3, none⟩ = some (.slice la ln lc)) := fun u hu => by
      have h := (hu.block b (lt_of_heapK DM.out.2.1)).trans DM.out.2.1
      refine ⟨?_, ?_, ?_, ?_⟩ <;> simp [World.cell?, h]
    by_cases k2 : k = 2
    · have e2 : (k == 2) = true := by simp [k2]
      rcases HA.out with ⟨rfl, hno⟩ | ⟨j, x, rfl, hx, hxn, hno⟩
      · skip
        have HF : Hid ((9 : Int) = E) := by have := HKE.out; rw [kE_none hno, if_neg (show ¬ (⟨k, r, nm, v, l⟩ : Op5).k = 1 from k1), if_pos (by decide)] at this; exact this
        have HN : Hid (doE (M.map co) ow ⟨k, r, nm, v, l⟩ ≠ 0) := by show _ ≠ _; rw [HR.out, ← HF.out]; decide
        clear hno
        try clear k1 k2 k3
        try clear k1 k2
        go_wp2_with fail
        refine (denied_none w4 a n c ow).mono ?_
        rintro e w5 ⟨rfl, hw⟩
        obtain rfl := hw.symm
        clear hw
        go_wp2_with fail
        go_ret2
        exact ⟨_, by rw [← HF.out]; rfl, fun _ => rfl, fun h => absurd h HN.out, UP.out _ BW.out⟩
      · have hjM : j < n := by have := (List.getElem?_eq_some_iff.1 hx).1; have := HS.out.1.len; omega
        have KN : Hid (Calls Tryd.prog 40 #[.slice a n c, .int .i64 (j : Int), .int .i64 ow] w4 fun e w' => e = .returned (.int .i64 (if x.o ≠ ow then 16 else 0)) ∧ w' = w4) := denied_at w4 a n c M (HS.out.1.keep (UP.out _ BW.out)).inp HS.out.1.len (by have := HS.out.1.big; omega) j x hx ow
        have HKA : Hid _ := kE_at (ow := ow) (o := ⟨k, r, nm, v, l⟩) hx hxn hno
        by_cases hxo : x.o = ow
        case neg =>
          have HF : Hid ((16 : Int) = E) := by have := HKE.out; rw [HKA.out, if_neg (show ¬ (⟨k, r, nm, v, l⟩ : Op5).k = 1 from k1), if_pos hxo, if_pos (by decide)] at this; exact this
          have HN : Hid (doE (M.map co) ow ⟨k, r, nm, v, l⟩ ≠ 0) := by show _ ≠ _; rw [HR.out, ← HF.out]; decide
          rw [if_pos hxo] at KN
          clear hxo hx hxn hno hjM HKA
          try clear k1 k2 k3
          try clear k1 k2
          go_wp2_with fail
          refine KN.out.mono ?_
          rintro e w5 ⟨rfl, hw⟩
          obtain rfl := hw.symm
          clear hw
          go_wp2_with fail
          go_ret2
          exact ⟨_, by rw [← HF.out]; rfl, fun _ => rfl, fun h => absurd h HN.out, UP.out _ BW.out⟩
        rw [if_neg (fun h => h hxo)] at KN
        obtain ⟨g, rfl, hzg⟩ := own_some DM.out.1 (by omega)
        have HG : Hid (W0.heap.size ≤ g ∧ j < n ∧ M.length = n) := ⟨hzg, hjM, HS.out.1.len⟩
        have C5 : Hid ((M.take j ++ pkO ow ⟨k, r, nm, v, l⟩ la ln lc :: M.drop (j + 1)).map co = nxt (M.map co) ow ⟨k, r, nm, v, l⟩) := nxt_2 (o := ⟨k, r, nm, v, l⟩) k2 HND.out hx hxn la ln lc
        have HKB : Hid (kE (M.map co) ow ⟨k, r, nm, v, l⟩ = if ord v x.v ≤ 0 then 14 else 0) := by
          show _ = _
          rw [HKA.out, if_neg (show ¬ (⟨k, r, nm, v, l⟩ : Op5).k = 1 from k1), if_neg (fun h => h hxo)]
          by_cases ho : ord v x.v ≤ 0
          · rw [if_pos ⟨k2, ho⟩, if_pos ho]
          · rw [if_neg (fun h => ho h.2), if_neg ho]
        have P5 : Hid (∀ y ∈ M.take j ++ pkO ow ⟨k, r, nm, v, l⟩ la ln lc :: M.drop (j + 1), PkOk w y ∧ NilOk y ∧ y.ln ≤ 20) := fun y hy => by
          rcases List.mem_append.1 hy with h | h
          · exact PM.out y (List.mem_of_mem_take h)
          · rcases List.mem_cons.1 h with rfl | h
            · exact PX.out
            · exact PM.out y (List.mem_of_mem_drop h)
        have HXP := (HS.out.1.keep (UP.out _ BW.out)).inp.at hx
        have xsv := (PM.out x (List.mem_of_getElem? hx)).1.sv
        have KO : Hid (∀ W, Calls Tryd.prog 41 #[.string (tx v), .string (tx x.v)] W fun e w' => e = .returned (.int .i64 (ord v x.v)) ∧ Below W.heap.size W w') := fun W => order_is v x.v HS.out.2.sv xsv W
        obtain ⟨b', off, rfl, hb', ⟨y0, y1, y2, y3⟩, _⟩ := HXP
        have y22 : w4.cell? ⟨b', off + j * 4 + 1 + 1, none⟩ = some (.string (tx x.v)) := y2
        have j1 : (j : Int) < (n : Int) := by omega
        obtain ⟨VX, hVX⟩ : ∃ V, V = tx x.v := ⟨_, rfl⟩
        rw [← hVX] at y2 y22 KO
        obtain ⟨od, hod⟩ : ∃ z, ord v x.v = z := ⟨_, rfl⟩
        rw [hod] at HKB KO
        clear hxo hx hxn hno hzg HKA hod hVX k1 k2 y0 y1 y3 xsv hb'
        go_wp2_with fail
        refine KN.out.mono ?_
        rintro e w5 ⟨rfl, hw⟩
        obtain rfl := hw.symm
        clear hw KN
        go_wp2_with fail
        by_cases hod : od ≤ 0
        case pos =>
          have d1 : decide (od ≤ (0 : Int)) = true := by rw [decide_eq_true_eq]; exact hod
          have d2 : decide ((0 : Int) < od) = false := by rw [decide_eq_false_iff_not]; omega
          have d3 : ¬ (0 : Int) < od := by omega
          have HF : Hid ((14 : Int) = E) := by have := HKE.out; rw [HKB.out, if_pos hod, if_pos (by decide)] at this; exact this
          have HN : Hid (doE (M.map co) ow ⟨k, r, nm, v, l⟩ ≠ 0) := by show _ ≠ _; rw [HR.out, ← HF.out]; decide
          clear hod
          go_upto_region 15 with fail
          go_cut [59] from 50 to 59 (fun cc wx => cc = .bool true ∧ Hid (Below w4.heap.size w4 wx))
          case first =>
            go_region_with (go_at_call 41; refine (KO.out _).mono ?_; rintro e5 w5 ⟨rfl, b5⟩; have L5 : Hid (Below w4.heap.size w4 w5) := (below_drewM (Below.refl _ w4)).trans b5; clear b5)
            all_goals (go_wp2_with fail; go_meet; case rel => exact ⟨rfl, L5.out⟩)
          obtain ⟨w5, rfl⟩ : ∃ w5, w5 = wc := ⟨_, rfl⟩
          obtain ⟨rfl, L5⟩ := hcut
          have B4 : Hid (Below W0.heap.size W0 w5) := BW.out.trans (L5.out.mono BW.out.size)
          obtain ⟨z0, z1, z2, z3⟩ := KX.out _ L5.out
          obtain ⟨p0, p1, p2, p3, p4⟩ := KB.out _ B4.out
          go_wp2_with fail
          go_ret2
          exact ⟨_, by rw [← HF.out]; rfl, fun _ => rfl, fun h => absurd h HN.out, UP.out _ B4.out⟩
        have d1 : decide (od ≤ (0 : Int)) = false := by rw [decide_eq_false_iff_not]; exact hod
        have d2 : decide ((0 : Int) < od) = true := by rw [decide_eq_true_eq]; omega
        have d3 : (0 : Int) < od := by omega
        have KZ : Hid (kE (M.map co) ow ⟨k, r, nm, v, l⟩ = 0) := HKB.out.trans (if_neg hod)
        clear hod
        go_upto_region 15 with fail
        go_cut [59] from 50 to 59 (fun cc wx => cc = .bool false ∧ Hid (Below w4.heap.size w4 wx))
        case first =>
          go_region_with (go_at_call 41; refine (KO.out _).mono ?_; rintro e5 w5 ⟨rfl, b5⟩; have L5 : Hid (Below w4.heap.size w4 w5) := (below_drewM (Below.refl _ w4)).trans b5; clear b5)
          all_goals (go_wp2_with fail; go_meet; case rel => exact ⟨rfl, L5.out⟩)
        obtain ⟨w5, rfl⟩ : ∃ w5, w5 = wc := ⟨_, rfl⟩
        obtain ⟨rfl, L5⟩ := hcut
        have B4 : Hid (Below W0.heap.size W0 w5) := BW.out.trans (L5.out.mono BW.out.size)
        obtain ⟨z0, z1, z2, z3⟩ := KX.out _ L5.out
        obtain ⟨p0, p1, p2, p3, p4⟩ := KB.out _ B4.out
        have OD : Hid (OwnPk w5 W0.heap.size (.slice (some ⟨g, 0, none⟩) n c1) M) := DM.out.1.keep L5.out
        have HT : Hid (w5.there g (j * 4) 4) := own_there OD.out HG.out.2.2 HG.out.2.1
        obtain ⟨u5, hu5⟩ : ∃ u5, w5.setCells g (j * 4) ((#[.int .i64 ow, .string (tx nm), .string (tx v), .slice la ln lc] : Array Value).toList) = u5 := ⟨_, rfl⟩
        have HU : Hid (w5.setCells g (j * 4) ((#[.int .i64 ow, .string (tx nm), .string (tx v), .slice la ln lc] : Array Value).toList) = u5) := hu5
        have O5 : Hid (OwnPk u5 W0.heap.size (.slice (some ⟨g, 0, none⟩) n c1) (M.take j ++ pkO ow ⟨k, r, nm, v, l⟩ la ln lc :: M.drop (j + 1))) := by rw [← hu5]; exact own_set OD.out HG.out.2.2 HG.out.2.1 (pkO ow ⟨k, r, nm, v, l⟩ la ln lc)
        have B5 : Hid (Below W0.heap.size W0 u5) := by rw [← hu5]; exact B4.out.grown (grown_setCells g _ _ _) B4.out.size (fun q hq => by cases hq; exact HG.out.1)
        have N5 : Hid (n ≤ 1000000) := by have := HM20.out; have := HG.out.2.2; show n ≤ _; omega
        clear hu5 hjM
        go_wp2_with (refine wpList_store_mid rfl 64 (.tmp 63) (.tmp 62) rfl g (j * 4) #[.int .i64 ow, .string (tx nm), .string (tx v), .slice la ln lc] rfl rfl HT.out sizePk (by simp [Value.oneCell']) ?_; rw [HU.out])
        have A5 : Hid _ := own_at O5.out (fun x hx => (P5.out x hx).1.keep (UP.out _ B5.out))
        have KD : Hid (Calls Tryd.prog 43 #[.slice (some ⟨g, 0, none⟩) n c1] u5 fun e w' => e = .returned (.int .i64 (cchk (nxt (M.map co) ow ⟨k, r, nm, v, l⟩))) ∧ Below u5.heap.size u5 w') := by
          rw [← C5.out, ← pchk_co (fun x hx => (P5.out x hx).1.len)]
          exact dbcheck_is u5 (some ⟨g, 0, none⟩) n c1 _ A5.out.1 A5.out.2.1 A5.out.2.2.1 A5.out.2.2.2.1 N5.out
        obtain ⟨E2, hE2⟩ : ∃ E2, cchk (nxt (M.map co) ow ⟨k, r, nm, v, l⟩) = E2 := ⟨_, rfl⟩
        have HF : Hid (E2 = E) := by have := HKE.out; rwa [KZ.out, if_neg (fun h => h rfl), hE2] at this
        have HE2 : Hid (cchk (nxt (M.map co) ow ⟨k, r, nm, v, l⟩) = E2) := hE2
        rw [hE2] at KD
        clear hE2
        refine KD.out.mono ?_
        rintro e w6 ⟨rfl, b6⟩
        have B6 : Hid (Below W0.heap.size W0 w6) := B5.out.trans (b6.mono B5.out.size)
        have KP : Hid (Calls Tryd.prog 31 #[.slice (some ⟨g, 0, none⟩) n c1] w6 fun e w' => ∃ pa pn pc M', e = .returned (.slice pa pn pc) ∧ Cpd w' w6.heap.size (.slice pa pn pc) _ M' ∧ Below w6.heap.size w6 w') := copied_is w6 (some ⟨g, 0, none⟩) n c1 _ A5.out.2.1 (A5.out.1.keep b6) A5.out.2.2.2.2 (fun x hx => ⟨(P5.out x hx).1.keep (UP.out _ B6.out), (P5.out x hx).2.1, by have := (P5.out x hx).2.2; omega⟩) N5.out
        clear b6 KD
        by_cases h2 : E2 = 0
        case neg =>
          have e1 : (E2 != 0) = true := by simpa using h2
          have HN : Hid (doE (M.map co) ow ⟨k, r, nm, v, l⟩ ≠ 0) := by show _ ≠ _; rw [HR.out, ← HF.out]; exact h2
          clear h2
          go_wp2_with fail
          go_ret2
          exact ⟨_, by rw [← HF.out]; rfl, fun _ => rfl, fun h => absurd h HN.out, UP.out _ B6.out⟩
        subst h2
        have HN : Hid (doE (M.map co) ow ⟨k, r, nm, v, l⟩ = 0) := by show _ = _; rw [HR.out, ← HF.out]
        go_wp2_with fail
        refine KP.out.mono ?_
        rintro e w7 ⟨a7, n7, c7, M7, rfl, cp, b7⟩
        have NW := cpd_new cp (by have h := (cchk_ok HE2.out).2.1; rw [← C5.out, List.length_map] at h; omega) (fun x hx => by rw [(P5.out x hx).1.len]; exact (P5.out x hx).2.2) b7.size
        have NF : Hid (NewSt w7 w.heap.size a7 n7 c7 M7 ∧ M7.map co = nxt (M.map co) ow ⟨k, r, nm, v, l⟩ ∧ Below w.heap.size w w7) := ⟨NW.1.base (UP.out _ B6.out).size, NW.2.trans C5.out, (UP.out _ B6.out).trans (b7.mono (UP.out _ B6.out).size)⟩
        clear NW cp b7
        go_wp2_with fail
        go_ret2
        exact ⟨_, by rw [← HF.out]; rfl, fun h => absurd HN.out h, fun _ => ⟨a7, n7, c7, M7, rfl, NF.out.1, NF.out.2.1⟩, NF.out.2.2⟩
    · have k3 : k = 3 := by have := HK.out.1; simp only at this; omega
      have e2 : (k == 2) = false := by simpa using k2
      have e3 : (k == 3) = true := by simp [k3]
      rcases HA.out with ⟨rfl, hno⟩ | ⟨j, x, rfl, hx, hxn, hno⟩
      · skip
        have HF : Hid ((9 : Int) = E) := by have := HKE.out; rw [kE_none hno, if_neg (show ¬ (⟨k, r, nm, v, l⟩ : Op5).k = 1 from k1), if_pos (by decide)] at this; exact this
        have HN : Hid (doE (M.map co) ow ⟨k, r, nm, v, l⟩ ≠ 0) := by show _ ≠ _; rw [HR.out, ← HF.out]; decide
        clear hno
        try clear k1 k2 k3
        try clear k1 k2
        go_wp2_with fail
        refine (denied_none w4 a n c ow).mono ?_
        rintro e w5 ⟨rfl, hw⟩
        obtain rfl := hw.symm
        clear hw
        go_wp2_with fail
        go_ret2
        exact ⟨_, by rw [← HF.out]; rfl, fun _ => rfl, fun h => absurd h HN.out, UP.out _ BW.out⟩
      · have hjM : j < n := by have := (List.getElem?_eq_some_iff.1 hx).1; have := HS.out.1.len; omega
        have KN : Hid (Calls Tryd.prog 40 #[.slice a n c, .int .i64 (j : Int), .int .i64 ow] w4 fun e w' => e = .returned (.int .i64 (if x.o ≠ ow then 16 else 0)) ∧ w' = w4) := denied_at w4 a n c M (HS.out.1.keep (UP.out _ BW.out)).inp HS.out.1.len (by have := HS.out.1.big; omega) j x hx ow
        have HKA : Hid _ := kE_at (ow := ow) (o := ⟨k, r, nm, v, l⟩) hx hxn hno
        by_cases hxo : x.o = ow
        case neg =>
          have HF : Hid ((16 : Int) = E) := by have := HKE.out; rw [HKA.out, if_neg (show ¬ (⟨k, r, nm, v, l⟩ : Op5).k = 1 from k1), if_pos hxo, if_pos (by decide)] at this; exact this
          have HN : Hid (doE (M.map co) ow ⟨k, r, nm, v, l⟩ ≠ 0) := by show _ ≠ _; rw [HR.out, ← HF.out]; decide
          rw [if_pos hxo] at KN
          clear hxo hx hxn hno hjM HKA
          try clear k1 k2 k3
          try clear k1 k2
          go_wp2_with fail
          refine KN.out.mono ?_
          rintro e w5 ⟨rfl, hw⟩
          obtain rfl := hw.symm
          clear hw
          go_wp2_with fail
          go_ret2
          exact ⟨_, by rw [← HF.out]; rfl, fun _ => rfl, fun h => absurd h HN.out, UP.out _ BW.out⟩
        rw [if_neg (fun h => h hxo)] at KN
        obtain ⟨g, rfl, hzg⟩ := own_some DM.out.1 (by omega)
        have HG : Hid (W0.heap.size ≤ g ∧ j < n ∧ M.length = n) := ⟨hzg, hjM, HS.out.1.len⟩
        have C5 : Hid ((M.take j ++ M.drop (j + 1)).map co = nxt (M.map co) ow ⟨k, r, nm, v, l⟩) := nxt_3 (o := ⟨k, r, nm, v, l⟩) k3 HND.out hx hxn
        have KZ : Hid (kE (M.map co) ow ⟨k, r, nm, v, l⟩ = 0) := by
          show _ = _
          rw [HKA.out, if_neg (show ¬ (⟨k, r, nm, v, l⟩ : Op5).k = 1 from k1), if_neg (fun h => h hxo), if_neg (fun h => k2 h.1)]
        have P5 : Hid (∀ y ∈ M.take j ++ M.drop (j + 1), PkOk w y ∧ NilOk y ∧ y.ln ≤ 20) := fun y hy => by
          rcases List.mem_append.1 hy with h | h
          · exact PM.out y (List.mem_of_mem_take h)
          · exact PM.out y (List.mem_of_mem_drop h)
        have KL : Hid (Calls Tryd.prog 42 #[.slice (some ⟨g, 0, none⟩) n c1, .int .i64 (j : Int), .int .i64 ((j : Int) + 1)] w4 fun e w' => e = .returned (.slice (some ⟨g, 0, none⟩) (n - 1) c1) ∧ OwnPk w' W0.heap.size (.slice (some ⟨g, 0, none⟩) (n - 1) c1) (M.take j ++ M.drop (j + 1)) ∧ w4.grownBy w' (some g)) := delete_is w4 W0.heap.size g n c1 j M HS.out.1.len DM.out.1 hjM
        have ri : IntKind.i64.wrap ((j : Int) + 1) = (j : Int) + 1 := by rw [IntKind.wrap_i64]; have := HM20.out; have := HG.out.2.2; omega
        have N5 : Hid (n - 1 ≤ 1000000) := by have := HM20.out; have := HG.out.2.2; show n - 1 ≤ _; omega
        clear hxo hx hxn hno hzg HKA k1 k2 k3 hjM
        go_wp2_with fail
        refine KN.out.mono ?_
        rintro e w5 ⟨rfl, hw⟩
        obtain rfl := hw.symm
        clear hw KN
        go_wp2_with fail
        refine KL.out.mono ?_
        rintro e u5 ⟨rfl, o5, g5⟩
        have O5 : Hid _ := o5
        have B5 : Hid (Below W0.heap.size W0 u5) := BW.out.grown g5 BW.out.size (fun q hq => by cases hq; exact HG.out.1)
        clear o5 g5 KL
        obtain ⟨m5, hm5⟩ : ∃ m, m = n - 1 := ⟨_, rfl⟩
        rw [← hm5] at O5 N5 ⊢
        clear hm5
        go_wp2_with fail
        have A5 : Hid _ := own_at O5.out (fun x hx => (P5.out x hx).1.keep (UP.out _ B5.out))
        have KD : Hid (Calls Tryd.prog 43 #[.slice (some ⟨g, 0, none⟩) m5 c1] u5 fun e w' => e = .returned (.int .i64 (cchk (nxt (M.map co) ow ⟨k, r, nm, v, l⟩))) ∧ Below u5.heap.size u5 w') := by
          rw [← C5.out, ← pchk_co (fun x hx => (P5.out x hx).1.len)]
          exact dbcheck_is u5 (some ⟨g, 0, none⟩) m5 c1 _ A5.out.1 A5.out.2.1 A5.out.2.2.1 A5.out.2.2.2.1 N5.out
        obtain ⟨E2, hE2⟩ : ∃ E2, cchk (nxt (M.map co) ow ⟨k, r, nm, v, l⟩) = E2 := ⟨_, rfl⟩
        have HF : Hid (E2 = E) := by have := HKE.out; rwa [KZ.out, if_neg (fun h => h rfl), hE2] at this
        have HE2 : Hid (cchk (nxt (M.map co) ow ⟨k, r, nm, v, l⟩) = E2) := hE2
        rw [hE2] at KD
        clear hE2
        refine KD.out.mono ?_
        rintro e w6 ⟨rfl, b6⟩
        have B6 : Hid (Below W0.heap.size W0 w6) := B5.out.trans (b6.mono B5.out.size)
        have KP : Hid (Calls Tryd.prog 31 #[.slice (some ⟨g, 0, none⟩) m5 c1] w6 fun e w' => ∃ pa pn pc M', e = .returned (.slice pa pn pc) ∧ Cpd w' w6.heap.size (.slice pa pn pc) _ M' ∧ Below w6.heap.size w6 w') := copied_is w6 (some ⟨g, 0, none⟩) m5 c1 _ A5.out.2.1 (A5.out.1.keep b6) A5.out.2.2.2.2 (fun x hx => ⟨(P5.out x hx).1.keep (UP.out _ B6.out), (P5.out x hx).2.1, by have := (P5.out x hx).2.2; omega⟩) N5.out
        clear b6 KD
        by_cases h2 : E2 = 0
        case neg =>
          have e1 : (E2 != 0) = true := by simpa using h2
          have HN : Hid (doE (M.map co) ow ⟨k, r, nm, v, l⟩ ≠ 0) := by show _ ≠ _; rw [HR.out, ← HF.out]; exact h2
          clear h2
          go_wp2_with fail
          go_ret2
          exact ⟨_, by rw [← HF.out]; rfl, fun _ => rfl, fun h => absurd h HN.out, UP.out _ B6.out⟩
        subst h2
        have HN : Hid (doE (M.map co) ow ⟨k, r, nm, v, l⟩ = 0) := by show _ = _; rw [HR.out, ← HF.out]
        go_wp2_with fail
        refine KP.out.mono ?_
        rintro e w7 ⟨a7, n7, c7, M7, rfl, cp, b7⟩
        have NW := cpd_new cp (by have h := (cchk_ok HE2.out).2.1; rw [← C5.out, List.length_map] at h; omega) (fun x hx => by rw [(P5.out x hx).1.len]; exact (P5.out x hx).2.2) b7.size
        have NF : Hid (NewSt w7 w.heap.size a7 n7 c7 M7 ∧ M7.map co = nxt (M.map co) ow ⟨k, r, nm, v, l⟩ ∧ Below w.heap.size w w7) := ⟨NW.1.base (UP.out _ B6.out).size, NW.2.trans C5.out, (UP.out _ B6.out).trans (b7.mono (UP.out _ B6.out).size)⟩
        clear NW cp b7
        go_wp2_with fail
        go_ret2
        exact ⟨_, by rw [← HF.out]; rfl, fun h => absurd HN.out h, fun _ => ⟨a7, n7, c7, M7, rfl, NF.out.1, NF.out.2.1⟩, NF.out.2.2⟩
end Go.Proofs.YthghoekkdpchnaaDoor
