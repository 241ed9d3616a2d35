/- A block's words. -/
import Derived.Test.YtlddoobomjcldaaDoorMgLc11
import Derived.Laws.CopyOwn
namespace Go.Proofs.YtlddoobomjcldaaDoor
open Go.ChangeShapes Go.WideShapes Go.ChangeAt Go.RowKit Go.Deep
set_option linter.unusedVariables false
/-- bytes as cells -/
def u8s (L : List Int) : Array Value := (L.map (Value.int .u8)).toArray
theorem u8s_size (l : List Int) : (u8s l).size = l.length := by simp [u8s]
theorem u8s_get (l : List Int) (i : Nat) (h : i < l.length) : (u8s l)[i]? = some (.int .u8 (l.getD i 0)) := by
  simp [u8s, List.getD, List.getElem?_eq_getElem h]
theorem u8s_one (l : List Int) : (u8s l).all (·.oneCell') = true := by
  rw [Array.all_eq_true]
  intro i h
  simp [u8s, Value.oneCell']
theorem lt_of_heap {w : World} {b : Nat} {o : Obj} (h : w.heap[b]? = some o) : b < w.heap.size := (Array.getElem?_eq_some_iff.1 h).1
theorem heap_setCell_mine (w : World) (b i : Nat) (cs : Array Value) (t : TypeId) (fr : Nat × Nat) (h : w.heap[b]? = some (.cells cs t fr)) (v : Value) : (w.setCell ⟨b, i, none⟩ v).heap[b]? = some (.cells (cs.setIfInBounds i v) t fr) := by
  simp [World.setCell, Array.getElem?_modify, h]
theorem heap_first (w : World) (a b c : Obj) : (((w.alloc a).alloc b).alloc c).heap[w.heap.size]? = some a := by
  rw [Below.heap_alloc _ _ _ (by simp; omega), Below.heap_alloc _ _ _ (by simp)]
  exact heap_alloc_last w a
theorem heap_second (w : World) (a b c : Obj) : (((w.alloc a).alloc b).alloc c).heap[w.heap.size + 1]? = some b := by
  rw [Below.heap_alloc _ _ _ (by simp)]
  have := heap_alloc_last (w.alloc a) b
  rwa [World.size_alloc] at this
theorem heap_third (w : World) (a b c : Obj) : (((w.alloc a).alloc b).alloc c).heap[w.heap.size + 2]? = some c := by
  have := heap_alloc_last ((w.alloc a).alloc b) c
  rwa [World.size_alloc, World.size_alloc] at this
theorem load_row_run (w : World) (a : Act) (o : Oper) (ty : TypeId) (x : Operand) (ho : o.op = .load ty x) (g : Nat) (hx : a.eval x = .pointer (some ⟨g, 0, none⟩)) (t : TypeId) (cs : Array Value) (fr : Nat × Nat) (n : Nat) (e : TypeId) (hg : w.heap[g]? = some (.cells cs t fr))
    (hu : Tryd.prog.underlying ty = some (.array n e)) (hi : (Tryd.prog.info? ty).map (·.size) = some cs.size) :
    (execOp a.eval o).run Tryd.prog w = .ok (.value (.agg cs)) w := by
  unfold execOp
  simp only [ho, hx, Instr.loadAt, Instr.sureAddr, Sem.run_bind, Sem.run_pure, Result.andThen_ok, run_loadVar_row w g t ty cs fr _ hg hu rfl hi]
theorem ws_len (B : List Int) : ∀ c, (ws B c).length = 64
  | 0 => by simp [ws]
  | c + 1 => by simp [ws, wb, ws_len B c]
theorem wx_len (l : List Nat) (h : l.length = 64) : ∀ c, (wx l c).length = 64
  | 0 => h
  | c + 1 => by simp [wx, wx_len l h c]
theorem ws_all (B : List Int) : ∀ c, all32 (ws B c)
  | 0 => by
    intro x hx
    have := List.eq_of_mem_replicate hx
    omega
  | c + 1 => (ws_all B c).set _ _ (ad_lt _ _)
theorem wx_all (l : List Nat) (h : all32 l) : ∀ c, all32 (wx l c)
  | 0 => h
  | c + 1 => (wx_all l h c).set _ _ (ad_lt _ _)
theorem words_len (B : List Int) : (words B).length = 64 := wx_len _ (ws_len B _) _
theorem words_all (B : List Int) : all32 (words B) := wx_all _ (ws_all B _) _
theorem size64 : (Tryd.prog.info? 129).map (·.size) = some 64 := by kernel_rfl
theorem size64l (l : List Nat) (h : l.length = 64) : (Tryd.prog.info? 129).map (·.size) = some (u32s l).size := by rw [u32s_size, h]; exact size64
theorem size64b : (Tryd.prog.info? 121).map (·.size) = some 64 := by kernel_rfl
theorem size64bl (l : List Int) (h : l.length = 64) : (Tryd.prog.info? 121).map (·.size) = some (u8s l).size := by rw [u8s_size, h]; exact size64b
def z64 : Array Value := u32s (List.replicate 64 0)
theorem z64_is : #[.int .u32 0, .int .u32 0, .int .u32 0, .int .u32 0, .int .u32 0, .int .u32 0, .int .u32 0, .int .u32 0, .int .u32 0, .int .u32 0, .int .u32 0, .int .u32 0, .int .u32 0, .int .u32 0, .int .u32 0, .int .u32 0, .int .u32 0, .int .u32 0, .int .u32 0, .int .u32 0, .int .u32 0, .int .u32 0, .int .u32 0, .int .u32 0, .int .u32 0, .int .u32 0, .int .u32 0, .int .u32 0, .int .u32 0, .int .u32 0, .int .u32 0, .int .u32 0, .int .u32 0, .int .u32 0, .int .u32 0, .int .u32 0, .int .u32 0, .int .u32 0, .int .u32 0, .int .u32 0, .int .u32 0, .int .u32 0, .int .u32 0, .int .u32 0, .int .u32 0, .int .u32 0, .int .u32 0, .int .u32 0, .int .u32 0, .int .u32 0, .int .u32 0, .int .u32 0, .int .u32 0, .int .u32 0, .int .u32 0, .int .u32 0, .int .u32 0, .int .u32 0, .int .u32 0, .int .u32 0, .int .u32 0, .int .u32 0, .int .u32 0, .int .u32 0] = z64 := by kernel_rfl
theorem z64_size : z64.size = 64 := by kernel_rfl
theorem run_index_cell (w : World) (t e : TypeId) (n : Nat) (cs : Array Value) (i : Nat) (v : Value) (hu : Tryd.prog.underlying t = some (.array n e)) (hi : i < n) (hs : (Tryd.prog.info? e).map (·.size) = some 1) (k : IntKind) (hk : Tryd.prog.underlying e = some (.int k)) (hv : cs[i]? = some v) :
    (Instr.index t (.agg cs) (.int .i64 (i : Int))).run Tryd.prog w = .ok v w := by
  have hin : (0 : Int) ≤ (i : Int) ∧ (i : Int) < (n : Int) := by omega
  cases hq : Tryd.prog.info? e with
  | none => simp [hq] at hs
  | some inf =>
    have h1 : inf.size = 1 := by simpa [hq] using hs
    simp [Instr.index, run_underlying hu, asIntOf, hin, sizeOf, typeInfo, hq, h1, part, run_underlying hk, isAgg, hv, go_sem]
    intro h; omega
/-- a byte behind what there is: the highest first -/
theorem byteI (x : Nat) (b : Int) (b0 : 0 ≤ b) (b1 : b ≤ 255) : bits .or .u32 ((x : Int) * 256 % 4294967296) b = ((ad (x * 256 % 4294967296) b.toNat : Nat) : Int) := by
  obtain ⟨n, rfl⟩ := Int.eq_ofNat_of_zero_le b0
  have e1 : (x : Int) * 256 % 4294967296 = ((x * 256 % 4294967296 : Nat) : Int) := by simp
  have hn : n < 256 := by omega
  rw [e1, u32_or_nat _ _ (Nat.mod_lt _ (by decide)) (by omega), Int.toNat_natCast]
  have hh : x * 256 % 4294967296 = (x % 16777216) * 2 ^ 8 := by omega
  have hor : (x % 16777216) * 2 ^ 8 ||| n = (x % 16777216) * 2 ^ 8 + n := by
    have := Nat.shiftLeft_add_eq_or_of_lt (show n < 2 ^ 8 by omega) (x % 16777216)
    rw [Nat.shiftLeft_eq] at this
    exact this.symm
  rw [hh, hor]
  unfold ad
  have hl : x % 16777216 * 2 ^ 8 + n < 4294967296 := by clear hor; omega
  rw [Nat.mod_eq_of_lt hl]
theorem wrapN (n : Nat) (h : n < 9223372036854775808) : IntKind.i64.wrap (n : Int) = n := by rw [IntKind.wrap_i64]; omega
theorem tdivI (c k : Nat) : Int.tdiv (c : Int) (k : Int) = ((c / k : Nat) : Int) := by simp [Int.tdiv_eq_ediv]
set_option maxRecDepth 100000 in
set_option maxHeartbeats 4000000 in
theorem words_is (B : List Int) (hB : B.length = 64) (hb : IsBytes B) (w : World) :
    Calls Tryd.prog 95 #[.agg (u8s B)] w fun e w' => e = .returned (.agg (u32s (words B))) ∧ Below w.heap.size w w' := by
  obtain ⟨N, hN⟩ : ∃ N, N = w.heap.size := ⟨_, rfl⟩
  have HN : Hid (N = w.heap.size) := hN
  have HR : Hid ((((w.alloc (.cells (u8s B) 121)).alloc (.cells z64 129)).alloc (.cells z64 129)).heap[w.heap.size]? = some (.cells (u8s B) 121)) := heap_first _ _ _ _
  clear hN
  go_enter Tryd.func95, Tryd.ntmps95
  rw [← z64_is] at HR
  go_wp2_with (refine wpList_load_row rfl 121 (.tmp 1) rfl w.heap.size rfl 121 (u8s B) (0, 0) _ HR.out Tryd.underlying121 rfl (size64bl B hB) ?_)
  go_loopg [12] 64 (fun g i wr => ∃ c : Nat, c ≤ 64 ∧ g = 64 - c ∧ i = .int .i64 c ∧ wr = ((w.alloc (.cells (u8s B) 121)).alloc (.cells z64 129)).alloc (.cells (u32s (ws B c)) 129))
  case atStart => exact ⟨0, Nat.zero_le _, rfl, rfl, by rw [ws, ← show z64 = u32s (List.replicate 64 0) from rfl, ← z64_is]⟩
  case round =>
    obtain ⟨c, hc, rfl, rfl, rfl⟩ := hrel
    by_cases hlt : c < 64
    · have hg1 := u8s_get B c (by omega)
      obtain ⟨d0, d1⟩ := hb c (by omega)
      have hg2 := u32s_get (ws B c) (c / 4) (by rw [ws_len]; omega)
      have HS : Hid (u32s (ws B (c + 1)) = (u32s (ws B c)).setIfInBounds (c / 4) (.int .u32 ((ad ((ws B c).getD (c / 4) 0 * 256 % 4294967296) (B.getD c 0).toNat : Nat) : Int))) := by
        show _ = _
        rw [u32s_set]; rfl
      have hbI := byteI ((ws B c).getD (c / 4) 0) (B.getD c 0) d0 d1
      have hix := fun W : World => run_index_cell W 121 5 64 (u8s B) c _ Tryd.underlying121 hlt (by kernel_rfl) .u8 Tryd.underlying5 hg1
      have htd : Int.tdiv (c : Int) 4 = ((c / 4 : Nat) : Int) := tdivI c 4
      have hlen := ws_len B c
      have hsz := u32s_size (ws B c)
      have hx := (ws_all B c).get (c / 4)
      generalize (ws B c).getD (c / 4) 0 = x at *
      generalize B.getD c 0 = z at *
      have hq : c / 4 < 16 := by omega
      generalize c / 4 = q at *
      generalize ws B c = l at *
      go_wp2_with fail
      go_roundg (64 - (c + 1))
      case measure => omega
      case rel => exact ⟨c + 1, by omega, rfl, by go_num, by rw [HS.out]⟩
    · have e : c = 64 := by omega
      subst e
      clear hlt hc HR hb hB
      go_wp2_with fail
      go_loopg [6] 48 (fun g i wr => ∃ k : Nat, k ≤ 48 ∧ g = 48 - k ∧ i = .int .i64 ((16 + k : Nat) : Int) ∧ Below w.heap.size w wr ∧ wr.heap[w.heap.size + 1]? = some (.cells z64 129) ∧ wr.heap[w.heap.size + 2]? = some (.cells (u32s (wx (ws B 64) k)) 129))
      case atStart =>
        exact ⟨0, Nat.zero_le _, rfl, rfl, (((Below.refl _ _).alloc (Nat.le_refl _) _).alloc (by simp) _).alloc (by simp; omega) _, heap_second _ _ _ _, heap_third _ _ _ _⟩
      case round =>
        obtain ⟨k, hk, rfl, rfl, hbel, h1, h2⟩ := hrel
        have HB : Hid (Below w.heap.size w wr) := hbel
        have H1 : Hid (wr.heap[w.heap.size + 1]? = some (.cells z64 129)) := h1
        have H2 : Hid (wr.heap[w.heap.size + 1 + 1]? = some (.cells (u32s (wx (ws B 64) k)) 129)) := h2
        clear hbel h1 h2
        by_cases hlt : k < 48
        · have hlen := wx_len (ws B 64) (ws_len B 64) k
          have hall := wx_all (ws B 64) (ws_all B 64) k
          have HS : Hid (u32s (wx (ws B 64) (k + 1)) = (u32s (wx (ws B 64) k)).setIfInBounds (16 + k) (.int .u32 ((wn (wx (ws B 64) k) (16 + k) : Nat) : Int))) := by
            show _ = _
            rw [u32s_set]; rfl
          generalize wx (ws B 64) k = l at *
          have c16 : wr.cell? ⟨w.heap.size + 1 + 1, 16 + k - 16, none⟩ = _ := (cell_of_row _ _ (16 + k - 16) _ _ (0, 0) H2.out).trans (u32s_get l (16 + k - 16) (by omega))
          have c15 : wr.cell? ⟨w.heap.size + 1 + 1, 16 + k - 15, none⟩ = _ := (cell_of_row _ _ (16 + k - 15) _ _ (0, 0) H2.out).trans (u32s_get l (16 + k - 15) (by omega))
          have c7 : wr.cell? ⟨w.heap.size + 1 + 1, 16 + k - 7, none⟩ = _ := (cell_of_row _ _ (16 + k - 7) _ _ (0, 0) H2.out).trans (u32s_get l (16 + k - 7) (by omega))
          have c2 : wr.cell? ⟨w.heap.size + 1 + 1, 16 + k - 2, none⟩ = _ := (cell_of_row _ _ (16 + k - 2) _ _ (0, 0) H2.out).trans (u32s_get l (16 + k - 2) (by omega))
          have c0 : wr.cell? ⟨w.heap.size + 1 + 1, 16 + k, none⟩ = _ := (cell_of_row _ _ (16 + k) _ _ (0, 0) H2.out).trans (u32s_get l (16 + k) (by omega))
          have b15 := hall.get (16 + k - 15)
          have b2 := hall.get (16 + k - 2)
          have HW : Hid (wn l (16 + k) = ad (ad (ad (l.getD (16 + k - 16) 0) (sg0 (l.getD (16 + k - 15) 0))) (l.getD (16 + k - 7) 0)) (sg1 (l.getD (16 + k - 2) 0))) := rfl
          obtain ⟨m, hm⟩ : ∃ m, m = 16 + k := ⟨_, rfl⟩
          have HM : Hid (m = 16 + k) := hm
          rw [← hm] at c16 c15 c7 c2 c0 b15 b2 HW HS ⊢
          have m0 : 16 ≤ m := by omega
          have m1 : m < 64 := by omega
          clear hm
          have e16 : (m : Int) - 16 = ((m - 16 : Nat) : Int) := by omega
          have e15 : (m : Int) - 15 = ((m - 15 : Nat) : Int) := by omega
          have e7 : (m : Int) - 7 = ((m - 7 : Nat) : Int) := by omega
          have e2 : (m : Int) - 2 = ((m - 2 : Nat) : Int) := by omega
          have q16 : m - 16 < 64 ∧ m - 16 ≠ m := by omega
          have q15 : m - 15 < 64 := by omega
          have q7 : m - 7 < 64 ∧ m - 7 ≠ m := by omega
          have q2 : m - 2 < 64 := by omega
          generalize l.getD (m - 16) 0 = x16 at *
          generalize l.getD (m - 15) 0 = x15 at *
          generalize l.getD (m - 7) 0 = x7 at *
          generalize l.getD (m - 2) 0 = x2 at *
          generalize l.getD m 0 = x0 at *
          generalize wn l m = y at *
          generalize m - 16 = p16 at *
          generalize m - 15 = p15 at *
          generalize m - 7 = p7 at *
          generalize m - 2 = p2 at *
          have w16 := wrapN p16 (by omega)
          have w15 := wrapN p15 (by omega)
          have w7 := wrapN p7 (by omega)
          have w2 := wrapN p2 (by omega)
          have i16 : (p16 : Int) < 64 := by omega
          have i15 : (p15 : Int) < 64 := by omega
          have i7 : (p7 : Int) < 64 := by omega
          have i2 : (p2 : Int) < 64 := by omega
          have i0 : (m : Int) < 64 := by omega
          have X : ∀ a b : Nat, a < 4294967296 → b < 4294967296 → bits .xor .u32 (a : Int) (b : Int) = ((xo a b : Nat) : Int) := xor32
          have L1 := rotr_lt
          have L2 := xo_lt
          have s0 : bits .xor .u32 ((xo (rotr x15 7) (rotr x15 18) : Nat) : Int) ((x15 : Int) / 8) = ((sg0 x15 : Nat) : Int) := by
            rw [show (x15 : Int) / 8 = ((x15 / 8 : Nat) : Int) by omega]
            exact xor32 _ _ (xo_lt _ _) (by omega)
          have s1 : bits .xor .u32 ((xo (rotr x2 17) (rotr x2 19) : Nat) : Int) ((x2 : Int) / 1024) = ((sg1 x2 : Nat) : Int) := by
            rw [show (x2 : Int) / 1024 = ((x2 / 1024 : Nat) : Int) by omega]
            exact xor32 _ _ (xo_lt _ _) (by omega)
          have av : IntKind.u32.wrap (IntKind.u32.wrap (IntKind.u32.wrap ((x16 : Int) + ((sg0 x15 : Nat) : Int)) + (x7 : Int)) + ((sg1 x2 : Nat) : Int)) = ((y : Nat) : Int) := by
            rw [HW.out]; simp [ad, IntKind.wrap_u32]
          go_wp2_with fail
          refine wp_region_noPanic ?_
          refine wp_region_held_drew (S := (fun W : World => W.cell? ⟨w.heap.size + 1 + 1, p15, none⟩ = some (.int .u32 (x15 : Nat)) ∧ W.cell? ⟨w.heap.size + 1 + 1, p2, none⟩ = some (.int .u32 (x2 : Nat)))) (by kernel_rfl) ?hSaA (fun hHeld => ?restaA)
          case hSaA => exact ⟨c15, c2⟩
          case restaA =>
            refine wpAnyH_take (i := 0) (v := ?v0A) rfl (by kernel_rfl) (by kernel_rfl) (by kernel_rfl) (fun _ _ _ h => h) (Or.inl ⟨by rfl, ?hy0A⟩) hHeld ?rest0A
            case hy0A => (intro w hSw; (try dsimp only at hSw); go_simp; try with_reducible rfl)
            try simp only [Act.put, List.setIfInBounds_toArray, List.set_cons_zero, List.set_cons_succ, List.getElem_toArray, List.getElem_cons_zero]
            refine wpAnyH_take (i := 1) (v := ?v1A) rfl (by kernel_rfl) (by kernel_rfl) (by kernel_rfl) (fun _ _ _ h => h) (Or.inl ⟨by rfl, ?hy1A⟩) hHeld ?rest1A
            case hy1A => (intro w hSw; (try dsimp only at hSw); go_simp; try with_reducible rfl)
            try simp only [Act.put, List.setIfInBounds_toArray, List.set_cons_zero, List.set_cons_succ, List.getElem_toArray, List.getElem_cons_zero, List.getElem_cons_succ]
            refine wpAnyH_take (i := 2) (v := ?v2A) rfl (by kernel_rfl) (by kernel_rfl) (by kernel_rfl) (fun _ _ _ h => h) (Or.inl ⟨by rfl, ?hy2A⟩) hHeld ?rest2A
            case hy2A => (intro w hSw; (try dsimp only at hSw); go_simp; try with_reducible rfl)
            try simp only [Act.put, List.setIfInBounds_toArray, List.set_cons_zero, List.set_cons_succ, List.getElem_toArray, List.getElem_cons_zero, List.getElem_cons_succ]
            refine wpAnyH_take (i := 3) (v := .int .u32 (x15 : Nat)) rfl (by kernel_rfl) (by kernel_rfl) (by kernel_rfl) (fun _ _ _ h => h) (Or.inl ⟨by rfl, ?hy3A⟩) hHeld ?rest3A
            case hy3A => (intro w hSw; obtain ⟨hS1, hS2⟩ := hSw; go_simp; try with_reducible rfl)
            try simp only [Act.put, List.setIfInBounds_toArray, List.set_cons_zero, List.set_cons_succ, List.getElem_toArray, List.getElem_cons_zero, List.getElem_cons_succ]
            refine wpAnyH_take (i := 4) (v := ?v4A) rfl (by kernel_rfl) (by kernel_rfl) (by kernel_rfl) (fun _ _ _ h => h) (Or.inl ⟨by rfl, ?hy4A⟩) hHeld ?rest4A
            case hy4A => (intro w hSw; (try dsimp only at hSw); go_simp; try with_reducible rfl)
            try simp only [Act.put, List.setIfInBounds_toArray, List.set_cons_zero, List.set_cons_succ, List.getElem_toArray, List.getElem_cons_zero, List.getElem_cons_succ]
            refine wpAnyH_take (i := 5) (v := ?v5A) rfl (by kernel_rfl) (by kernel_rfl) (by kernel_rfl) (fun _ _ _ h => h) (Or.inl ⟨by rfl, ?hy5A⟩) hHeld ?rest5A
            case hy5A => (intro w hSw; (try dsimp only at hSw); go_simp; try with_reducible rfl)
            try simp only [Act.put, List.setIfInBounds_toArray, List.set_cons_zero, List.set_cons_succ, List.getElem_toArray, List.getElem_cons_zero, List.getElem_cons_succ]
            refine wpAnyH_take (i := 6) (v := ?v6A) rfl (by kernel_rfl) (by kernel_rfl) (by kernel_rfl) (fun _ _ _ h => h) (Or.inl ⟨by rfl, ?hy6A⟩) hHeld ?rest6A
            case hy6A => (intro w hSw; (try dsimp only at hSw); go_simp; try with_reducible rfl)
            try simp only [Act.put, List.setIfInBounds_toArray, List.set_cons_zero, List.set_cons_succ, List.getElem_toArray, List.getElem_cons_zero, List.getElem_cons_succ]
            refine wpAnyH_take (i := 7) (v := .int .u32 (x2 : Nat)) rfl (by kernel_rfl) (by kernel_rfl) (by kernel_rfl) (fun _ _ _ h => h) (Or.inl ⟨by rfl, ?hy7A⟩) hHeld ?rest7A
            case hy7A => (intro w hSw; obtain ⟨hS1, hS2⟩ := hSw; go_simp; try with_reducible rfl)
            try simp only [Act.put, List.setIfInBounds_toArray, List.set_cons_zero, List.set_cons_succ, List.getElem_toArray, List.getElem_cons_zero, List.getElem_cons_succ]
            refine wpAnyH_take (i := 8) (v := ?v8A) rfl (by kernel_rfl) (by kernel_rfl) (by kernel_rfl) (fun _ _ _ h => h) (Or.inl ⟨by rfl, ?hy8A⟩) hHeld ?rest8A
            case hy8A => (intro w hSw; (try dsimp only at hSw); go_simp; try with_reducible rfl)
            try simp only [Act.put, List.setIfInBounds_toArray, List.set_cons_zero, List.set_cons_succ, List.getElem_toArray, List.getElem_cons_zero, List.getElem_cons_succ]
            refine wpAnyH_take (i := 9) (v := ?v9A) rfl (by kernel_rfl) (by kernel_rfl) (by kernel_rfl) (fun _ _ _ h => h) (Or.inl ⟨by rfl, ?hy9A⟩) hHeld ?rest9A
            case hy9A => (intro w hSw; (try dsimp only at hSw); go_simp; try with_reducible rfl)
            try simp only [Act.put, List.setIfInBounds_toArray, List.set_cons_zero, List.set_cons_succ, List.getElem_toArray, List.getElem_cons_zero, List.getElem_cons_succ]
            refine wpAnyH_done (by kernel_rfl) ?_ _
            refine NoPanic.normal ?_
            clear hHeld
            go_wp2_with (go_at_call 103; refine (rot_is _ _ (by assumption) (by decide) _).mono ?_; rintro o w' ⟨rfl, hw⟩; obtain rfl := hw.symm; clear hw)
            have KW : Hid ((wr.drew.drew.setCell ⟨w.heap.size + 1 + 1, m, none⟩ (.int .u32 (y : Nat))).cell? ⟨w.heap.size + 1 + 1, p16, none⟩ = some (.int .u32 (x16 : Nat)) ∧ (wr.drew.drew.setCell ⟨w.heap.size + 1 + 1, m, none⟩ (.int .u32 (y : Nat))).cell? ⟨w.heap.size + 1 + 1, p7, none⟩ = some (.int .u32 (x7 : Nat)) ∧ Below w.heap.size w (wr.drew.drew.setCell ⟨w.heap.size + 1 + 1, m, none⟩ (.int .u32 (y : Nat))) ∧ (wr.drew.drew.setCell ⟨w.heap.size + 1 + 1, m, none⟩ (.int .u32 (y : Nat))).heap[w.heap.size + 1]? = some (.cells z64 129) ∧ (wr.drew.drew.setCell ⟨w.heap.size + 1 + 1, m, none⟩ (.int .u32 (y : Nat))).heap[w.heap.size + 2]? = some (.cells (u32s (wx (ws B 64) (k + 1))) 129)) := by
              have k2 := heap_setCell_mine wr.drew.drew (w.heap.size + 1 + 1) m _ _ _ H2.out (.int .u32 (y : Nat))
              rw [← HS.out] at k2
              refine ⟨?_, ?_, HB.out.drew.drew.setCell (by show w.heap.size ≤ w.heap.size + 1 + 1; omega) _, (Below.heap_setCell _ _ _ (w.heap.size + 1) (by show w.heap.size + 1 ≠ w.heap.size + 1 + 1; omega)).trans H1.out, k2⟩
              · rw [World.cell?_setCell_other _ _ _ _ (by simp)]; exact c16
              · rw [World.cell?_setCell_other _ _ _ _ (by simp)]; exact c7
            have fz : wr.drew.drew.frozen? ⟨w.heap.size + 1 + 1, m, none⟩ = false := by simp only [World.frozen?, show wr.drew.drew.heap[w.heap.size + 1 + 1]? = _ from H2.out]; simp
            have cz : wr.drew.drew.cell? ⟨w.heap.size + 1 + 1, m, none⟩ = some (.int .u32 (x0 : Nat)) := c0
            refine wp_region_noPanic ?_
            refine wp_region_held_drew (S := (fun W : World => W.cell? ⟨w.heap.size + 1 + 1, p16, none⟩ = some (.int .u32 (x16 : Nat)) ∧ W.cell? ⟨w.heap.size + 1 + 1, p7, none⟩ = some (.int .u32 (x7 : Nat)))) (by kernel_rfl) ?hSaB (fun hHeld => ?restaB)
            case hSaB => exact ⟨c16, c7⟩
            case restaB =>
              refine wpAnyH_take (i := 0) (v := ?v0B) rfl (by kernel_rfl) (by kernel_rfl) (by kernel_rfl) (fun _ _ _ h => h) (Or.inl ⟨by rfl, ?hy0B⟩) hHeld ?rest0B
              case hy0B => (intro w hSw; (try dsimp only at hSw); go_simp; try with_reducible rfl)
              try simp only [Act.put, List.setIfInBounds_toArray, List.set_cons_zero, List.set_cons_succ, List.getElem_toArray, List.getElem_cons_zero]
              refine wpAnyH_take (i := 1) (v := ?v1B) rfl (by kernel_rfl) (by kernel_rfl) (by kernel_rfl) (fun _ _ _ h => h) (Or.inl ⟨by rfl, ?hy1B⟩) hHeld ?rest1B
              case hy1B => (intro w hSw; (try dsimp only at hSw); go_simp; try with_reducible rfl)
              try simp only [Act.put, List.setIfInBounds_toArray, List.set_cons_zero, List.set_cons_succ, List.getElem_toArray, List.getElem_cons_zero, List.getElem_cons_succ]
              refine wpAnyH_take (i := 2) (v := ?v2B) rfl (by kernel_rfl) (by kernel_rfl) (by kernel_rfl) (fun _ _ _ h => h) (Or.inl ⟨by rfl, ?hy2B⟩) hHeld ?rest2B
              case hy2B => (intro w hSw; (try dsimp only at hSw); go_simp; try with_reducible rfl)
              try simp only [Act.put, List.setIfInBounds_toArray, List.set_cons_zero, List.set_cons_succ, List.getElem_toArray, List.getElem_cons_zero, List.getElem_cons_succ]
              refine wpAnyH_take (i := 3) (v := ?v3B) rfl (by kernel_rfl) (by kernel_rfl) (by kernel_rfl) (fun _ _ _ h => h) (Or.inl ⟨by rfl, ?hy3B⟩) hHeld ?rest3B
              case hy3B => (intro w hSw; (try dsimp only at hSw); go_simp; try with_reducible rfl)
              try simp only [Act.put, List.setIfInBounds_toArray, List.set_cons_zero, List.set_cons_succ, List.getElem_toArray, List.getElem_cons_zero, List.getElem_cons_succ]
              refine wpAnyH_take (i := 4) (v := .int .u32 (x16 : Nat)) rfl (by kernel_rfl) (by kernel_rfl) (by kernel_rfl) (fun _ _ _ h => h) (Or.inl ⟨by rfl, ?hy4B⟩) hHeld ?rest4B
              case hy4B => (intro w hSw; obtain ⟨hS1, hS2⟩ := hSw; go_simp; try with_reducible rfl)
              try simp only [Act.put, List.setIfInBounds_toArray, List.set_cons_zero, List.set_cons_succ, List.getElem_toArray, List.getElem_cons_zero, List.getElem_cons_succ]
              refine wpAnyH_take (i := 5) (v := ?v5B) rfl (by kernel_rfl) (by kernel_rfl) (by kernel_rfl) (fun _ _ _ h => h) (Or.inl ⟨by rfl, ?hy5B⟩) hHeld ?rest5B
              case hy5B => (intro w hSw; (try dsimp only at hSw); go_simp; try with_reducible rfl)
              try simp only [Act.put, List.setIfInBounds_toArray, List.set_cons_zero, List.set_cons_succ, List.getElem_toArray, List.getElem_cons_zero, List.getElem_cons_succ]
              refine wpAnyH_take (i := 6) (v := ?v6B) rfl (by kernel_rfl) (by kernel_rfl) (by kernel_rfl) (fun _ _ _ h => h) (Or.inl ⟨by rfl, ?hy6B⟩) hHeld ?rest6B
              case hy6B => (intro w hSw; (try dsimp only at hSw); go_simp; try with_reducible rfl)
              try simp only [Act.put, List.setIfInBounds_toArray, List.set_cons_zero, List.set_cons_succ, List.getElem_toArray, List.getElem_cons_zero, List.getElem_cons_succ]
              refine wpAnyH_take (i := 7) (v := ?v7B) rfl (by kernel_rfl) (by kernel_rfl) (by kernel_rfl) (fun _ _ _ h => h) (Or.inl ⟨by rfl, ?hy7B⟩) hHeld ?rest7B
              case hy7B => (intro w hSw; (try dsimp only at hSw); go_simp; try with_reducible rfl)
              try simp only [Act.put, List.setIfInBounds_toArray, List.set_cons_zero, List.set_cons_succ, List.getElem_toArray, List.getElem_cons_zero, List.getElem_cons_succ]
              refine wpAnyH_take (i := 8) (v := ?v8B) rfl (by kernel_rfl) (by kernel_rfl) (by kernel_rfl) (fun _ _ _ h => h) (Or.inl ⟨by rfl, ?hy8B⟩) hHeld ?rest8B
              case hy8B => (intro w hSw; (try dsimp only at hSw); go_simp; try with_reducible rfl)
              try simp only [Act.put, List.setIfInBounds_toArray, List.set_cons_zero, List.set_cons_succ, List.getElem_toArray, List.getElem_cons_zero, List.getElem_cons_succ]
              refine wpAnyH_take (i := 9) (v := ?v9B) rfl (by kernel_rfl) (by kernel_rfl) (by kernel_rfl) (fun _ _ _ h => h) (Or.inl ⟨by rfl, ?hy9B⟩) hHeld ?rest9B
              case hy9B => (intro w hSw; (try dsimp only at hSw); go_simp; try with_reducible rfl)
              try simp only [Act.put, List.setIfInBounds_toArray, List.set_cons_zero, List.set_cons_succ, List.getElem_toArray, List.getElem_cons_zero, List.getElem_cons_succ]
              refine wpAnyH_take (i := 10) (v := .int .u32 (x7 : Nat)) rfl (by kernel_rfl) (by kernel_rfl) (by kernel_rfl) (fun _ _ _ h => h) (Or.inl ⟨by rfl, ?hy10B⟩) hHeld ?rest10B
              case hy10B => (intro w hSw; obtain ⟨hS1, hS2⟩ := hSw; go_simp; try with_reducible rfl)
              try simp only [Act.put, List.setIfInBounds_toArray, List.set_cons_zero, List.set_cons_succ, List.getElem_toArray, List.getElem_cons_zero, List.getElem_cons_succ]
              refine wpAnyH_take (i := 11) (v := ?v11B) rfl (by kernel_rfl) (by kernel_rfl) (by kernel_rfl) (fun _ _ _ h => h) (Or.inl ⟨by rfl, ?hy11B⟩) hHeld ?rest11B
              case hy11B => (intro w hSw; (try dsimp only at hSw); go_simp; try with_reducible rfl)
              try simp only [Act.put, List.setIfInBounds_toArray, List.set_cons_zero, List.set_cons_succ, List.getElem_toArray, List.getElem_cons_zero, List.getElem_cons_succ]
              refine wpAnyH_take (i := 12) (v := ?v12B) rfl (by kernel_rfl) (by kernel_rfl) (by kernel_rfl) (fun _ _ _ h => h) (Or.inl ⟨by rfl, ?hy12B⟩) hHeld ?rest12B
              case hy12B => (intro w hSw; (try dsimp only at hSw); go_simp; try with_reducible rfl)
              try simp only [Act.put, List.setIfInBounds_toArray, List.set_cons_zero, List.set_cons_succ, List.getElem_toArray, List.getElem_cons_zero, List.getElem_cons_succ]
              refine wpAnyH_take (i := 13) (v := .int .u32 (y : Nat)) rfl (by kernel_rfl) (by kernel_rfl) (by kernel_rfl) (fun _ _ _ h => h) (Or.inl ⟨by rfl, ?hy13B⟩) hHeld ?rest13B
              case hy13B => (intro w hSw; obtain ⟨hS1, hS2⟩ := hSw; go_simp; try with_reducible rfl)
              try simp only [Act.put, List.setIfInBounds_toArray, List.set_cons_zero, List.set_cons_succ, List.getElem_toArray, List.getElem_cons_zero, List.getElem_cons_succ]
              refine wpAnyH_take (i := 14) (v := ?v14B) rfl (by kernel_rfl) (by kernel_rfl) (by kernel_rfl) (fun _ _ _ h => h) (Or.inl ⟨by rfl, ?hy14B⟩) hHeld ?rest14B
              case hy14B => (intro w hSw; (try dsimp only at hSw); go_simp; try with_reducible rfl)
              try simp only [Act.put, List.setIfInBounds_toArray, List.set_cons_zero, List.set_cons_succ, List.getElem_toArray, List.getElem_cons_zero, List.getElem_cons_succ]
              refine wpAnyH_ready (rs := [15]) (by kernel_rfl) (by simp) ?_
              refine AllReadyH.cons rfl (fun K hK => ?_) AllReadyH.nil
              go_wp2_with fail
              refine hK.out _ _ ?hS15B (fun hHeld => ?rest15B)
              case hS15B => exact ⟨KW.out.1, KW.out.2.1⟩
              clear hK K
              try simp only [Act.put, List.setIfInBounds_toArray, List.set_cons_zero, List.set_cons_succ, List.getElem_toArray, List.getElem_cons_zero, List.getElem_cons_succ]
              refine wpAnyH_done (by kernel_rfl) ?_ _
              refine NoPanic.normal ?_
              go_wp2_with fail
              go_roundg (48 - (k + 1))
              case measure => omega
              case rel => exact ⟨k + 1, by omega, rfl, by have := HM.out; subst this; go_num, KW.out.2.2.1, KW.out.2.2.2.1, KW.out.2.2.2.2⟩
        · have e : k = 48 := by omega
          subst e
          clear hlt hk
          have HZ := words_len B
          go_wp2_with (first | (refine wpList_load_row rfl 129 (.tmp 3) rfl (w.heap.size + 1 + 1) rfl 129 (u32s (words B)) (0, 0) _ H2.out Tryd.underlying129 rfl (size64l _ (words_len B)) ?_) | (refine wpList_store_row rfl 129 (.tmp 2) (.tmp 71) rfl (w.heap.size + 1) (u32s (words B)) rfl rfl 129 z64 H1.out (size64l _ (words_len B)) (by rw [z64_size, u32s_size, words_len]) (u32s_one _) ?_))
          refine bodyPost_ret (results_cell_row rfl _ _ (w.heap.size + 1) 129 (u32s (words B)) (0, 0) _ rfl (setRow_heap _ _ _ _ _ _ H1.out) Tryd.underlying129 rfl (size64l _ (words_len B))) rfl ⟨rfl, ?_⟩
          exact below_setRow HB.out (by omega) _
end Go.Proofs.YtlddoobomjcldaaDoor
