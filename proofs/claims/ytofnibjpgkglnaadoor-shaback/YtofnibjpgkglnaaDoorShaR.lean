/- A digest read from a text: Read. -/
import Derived.Test.YtofnibjpgkglnaaDoorShaH
import Derived.Test.YtofnibjpgkglnaaDoorShaX
import Derived.Lib.Bytealg
import Derived.Laws.StandIn
namespace Go.Proofs.YtofnibjpgkglnaaDoor
open Go.ChangeShapes Go.WideShapes Go.ChangeAt Go.RowKit Go.Deep
set_option linter.unusedVariables false
def sigs : List UInt8 := [48, 49, 50, 51, 52, 53, 54, 55, 56, 57, 97, 98, 99, 100, 101, 102]
/-- the place of a byte among the signs, or -1 -/
def hv (c : Int) : Int := Lib.indexByte sigs c.toNat.toUInt8
/-- byte number j of a text -/
def sb (s : ByteArray) (j : Nat) : Int := (((s.data.toList.getD j 0).toNat : Nat) : Int)
theorem sb_byte (s : ByteArray) (j : Nat) : 0 ≤ sb s j ∧ sb s j ≤ 255 := by
  unfold sb
  have := (s.data.toList.getD j 0).toNat_lt
  omega
theorem hv_all : ∀ n : Fin 256, -1 ≤ hv ((n.val : Nat) : Int) ∧ hv ((n.val : Nat) : Int) ≤ 15 ∧ (0 ≤ hv ((n.val : Nat) : Int) → sgn (hv ((n.val : Nat) : Int)).toNat = ((n.val : Nat) : Int)) := by decide +kernel
theorem hv_sgn_all : ∀ n : Fin 16, hv (sgn n.val) = ((n.val : Nat) : Int) := by decide +kernel
theorem hv_sgn (n : Nat) (h : n < 16) : hv (sgn n) = (n : Int) := hv_sgn_all ⟨n, h⟩
theorem hv_range (c : Int) (h0 : 0 ≤ c) (h1 : c ≤ 255) : -1 ≤ hv c ∧ hv c ≤ 15 ∧ (0 ≤ hv c → sgn (hv c).toNat = c) := by
  obtain ⟨n, rfl⟩ := Int.eq_ofNat_of_zero_le h0
  exact hv_all ⟨n, by omega⟩
theorem hv_sb (s : ByteArray) (j : Nat) : -1 ≤ hv (sb s j) ∧ hv (sb s j) ≤ 15 ∧ (0 ≤ hv (sb s j) → sgn (hv (sb s j)).toNat = sb s j) := hv_range _ (sb_byte s j).1 (sb_byte s j).2
theorem run_index_sb (s : ByteArray) (j : Nat) (h : j < s.size) (w : World) : (Instr.index 9 (.string s) (.int .i64 (j : Int))).run Tryd.prog w = .ok (.int .u8 (sb s j)) w := by
  rw [run_index_string (P := Tryd.prog) w 9 s .i64 _ Tryd.underlying9, dif_pos ⟨by omega, by omega⟩]
  congr 2
  unfold sb
  have hl : j < s.data.toList.length := by simpa using h
  rw [List.getD, List.getElem?_eq_getElem hl]
  rfl
/-- the bytes that a text tells -/
def dgs (s : ByteArray) : List Int := (List.range 32).map fun i => hv (sb s (2 * i)) * 16 + hv (sb s (2 * i + 1))
theorem dgs_len (s : ByteArray) : (dgs s).length = 32 := by simp [dgs]
theorem dgs_get (s : ByteArray) (c : Nat) (h : c < 32) : (dgs s).getD c 0 = hv (sb s (2 * c)) * 16 + hv (sb s (2 * c + 1)) := by simp [dgs, List.getD, h]
/-- the first k of its bytes are signs -/
def okTo (s : ByteArray) (k : Nat) : Prop := ∀ j, j < k → 0 ≤ hv (sb s j)
def okText (s : ByteArray) : Prop := s.size = 64 ∧ okTo s 64
def okB (s : ByteArray) : Bool := decide (s.size = 64) && (List.range 64).all fun j => decide (0 ≤ hv (sb s j))
theorem okB_iff (s : ByteArray) : okB s = true ↔ okText s := by
  unfold okB okText okTo
  simp
def rdD (s : ByteArray) : List Int := if okB s = true then dgs s else fillN [] 32 0
def rdE (s : ByteArray) : Int := if okB s = true then 0 else 5
theorem rd_ok {s : ByteArray} (h : okText s) : rdD s = dgs s ∧ rdE s = 0 := by
  have h2 := (okB_iff s).2 h
  rw [rdD, rdE, if_pos h2, if_pos h2]
  exact ⟨rfl, rfl⟩
theorem rd_no {s : ByteArray} (h : ¬ okText s) : rdD s = fillN [] 32 0 ∧ rdE s = 5 := by
  have h2 : ¬ okB s = true := fun e => h ((okB_iff s).1 e)
  rw [rdD, rdE, if_neg h2, if_neg h2]
  exact ⟨rfl, rfl⟩
theorem dgs_bytes {s : ByteArray} (h : okText s) : IsBytes (dgs s) := bytes_of_mem fun x hx => by
  simp only [dgs, List.mem_map, List.mem_range] at hx
  obtain ⟨i, hi, rfl⟩ := hx
  have h1 := h.2 (2 * i) (by omega)
  have h2 := h.2 (2 * i + 1) (by omega)
  have h3 := hv_sb s (2 * i)
  have h4 := hv_sb s (2 * i + 1)
  omega
theorem rdD_len (s : ByteArray) : (rdD s).length = 32 := by
  by_cases h : okText s
  · rw [(rd_ok h).1]; exact dgs_len s
  · rw [(rd_no h).1]; rfl
theorem rdD_bytes (s : ByteArray) : IsBytes (rdD s) := by
  by_cases h : okText s
  · rw [(rd_ok h).1]; exact dgs_bytes h
  · rw [(rd_no h).1]
    exact bytes_of_mem (by decide)
theorem indexByteLite_is (c : Int) (w : World) : Calls Tryd.prog 31 #[.string ⟨#[48, 49, 50, 51, 52, 53, 54, 55, 56, 57, 97, 98, 99, 100, 101, 102]⟩, .int .u8 c] w fun e w' => e = .returned (.int .i64 (hv c)) ∧ w' = w := by
  have h : (callFunc 34 #[.string ⟨#[48, 49, 50, 51, 52, 53, 54, 55, 56, 57, 97, 98, 99, 100, 101, 102]⟩, .int .u8 c]).run Tryd.prog w = .ok (.value (.int .i64 (hv c))) w := by
    rw [run_callFunc_indexByte Tryd.func34 (by kernel_rfl) (by kernel_rfl) (by kernel_rfl) (by kernel_rfl), Lib.run_indexByteString (P := Tryd.prog) ⟨#[48, 49, 50, 51, 52, 53, 54, 55, 56, 57, 97, 98, 99, 100, 101, 102]⟩ c w]
    rfl
  go_enter Tryd.func31, Tryd.ntmps31
  go_wp2
  go_ret
  exact ⟨rfl, rfl⟩
theorem indexByte_is (c : Int) (w : World) : Calls Tryd.prog 25 #[.string ⟨#[48, 49, 50, 51, 52, 53, 54, 55, 56, 57, 97, 98, 99, 100, 101, 102]⟩, .int .u8 c] w fun e w' => e = .returned (.int .i64 (hv c)) ∧ w' = w := by
  have k : Hid (Calls Tryd.prog 31 #[.string ⟨#[48, 49, 50, 51, 52, 53, 54, 55, 56, 57, 97, 98, 99, 100, 101, 102]⟩, .int .u8 c] w fun e w' => e = .returned (.int .i64 (hv c)) ∧ w' = w) := indexByteLite_is c w
  go_enter Tryd.func25, Tryd.ntmps25
  go_wp2_with (go_at_call 31; refine k.out.mono ?_; rintro e w' ⟨rfl, hw⟩; obtain rfl := hw.symm; clear hw)
  go_ret
  exact ⟨rfl, rfl⟩
theorem index_run (w : World) (a : Act) (o : Oper) (x y : Operand) (ho : o.op = .index 9 x y) (s : ByteArray) (j : Nat) (h : j < s.size) (hx : a.eval x = .string s) (hy : a.eval y = .int .i64 (j : Int)) :
    (execOp a.eval o).run Tryd.prog w = .ok (.value (.int .u8 (sb s j))) w := by
  unfold execOp
  simp only [ho, hx, hy, Sem.run_bind, Sem.run_pure, Result.andThen_ok, run_index_sb s j h w]
theorem results_digest {fn : Func} {p q : Tmp} (h : fn.results = #[.cell p 24, .tmp q]) (tmps : Array Value) (w : World) (g : Nat) (D : Array Value) (hD : D.size = 32)
    (hp : tmps.getD p undef = .pointer (some ⟨g, 0, none⟩)) (v : Value) (hq : tmps.getD q undef = v) (hg : w.heap[g]? = some (.cells D 24)) :
    (results fn tmps).run Tryd.prog w = .ok (.tuple #[.agg D, v]) w := by
  have hp' : tmps[p]?.getD undef = .pointer (some ⟨g, 0, none⟩) := by simpa using hp
  have hq' : tmps[q]?.getD undef = v := by simpa using hq
  simp [results, h, hp', hq', asAddr, run_loadVar_row w g 24 24 D (0, 0) _ hg Tryd.underlying24 rfl (by rw [hD]; exact size32)]
theorem or16 (h l : Nat) (h1 : h ≤ 15) (l1 : l ≤ 15) : bits .or .i64 ((h : Int) * 16) (l : Int) = ((h * 16 + l : Nat) : Int) := by
  rcases (by omega : h = 0 ∨ h = 1 ∨ h = 2 ∨ h = 3 ∨ h = 4 ∨ h = 5 ∨ h = 6 ∨ h = 7 ∨ h = 8 ∨ h = 9 ∨ h = 10 ∨ h = 11 ∨ h = 12 ∨ h = 13 ∨ h = 14 ∨ h = 15) with rfl | rfl | rfl | rfl | rfl | rfl | rfl | rfl | rfl | rfl | rfl | rfl | rfl | rfl | rfl | rfl <;>
  rcases (by omega : l = 0 ∨ l = 1 ∨ l = 2 ∨ l = 3 ∨ l = 4 ∨ l = 5 ∨ l = 6 ∨ l = 7 ∨ l = 8 ∨ l = 9 ∨ l = 10 ∨ l = 11 ∨ l = 12 ∨ l = 13 ∨ l = 14 ∨ l = 15) with rfl | rfl | rfl | rfl | rfl | rfl | rfl | rfl | rfl | rfl | rfl | rfl | rfl | rfl | rfl | rfl <;> rfl
set_option maxHeartbeats 8000000 in
theorem read_is (s : ByteArray) (hs : s.size ≤ 140737488355328) (w : World) :
    Calls Tryd.prog 12 #[.string s] w fun e w' => e = .returned (.tuple #[.agg (u8s (rdD s)), .int .i64 (rdE s)]) ∧ Below w.heap.size w w' := by
  have hz24 := (zero_of_info zero24_info).1
  have H0 : Hid ((w.alloc (.cells z32 24)).heap[w.heap.size]? = some (.cells z32 24)) := heap_alloc_last w _
  have zo : z32.all (·.oneCell') = true := u8s_one _
  by_cases h64 : s.size = 64
  · have h64' : ((s.size : Nat) : Int) = 64 := by omega
    go_enter Tryd.func12, Tryd.ntmps12
    go_wp2_with fail
    go_loopg [12] 32 (fun g i wr => ∃ c : Nat, c ≤ 32 ∧ g = 32 - c ∧ i = .int .i64 c ∧ Hid (okTo s (2 * c)) ∧ Below w.heap.size w wr ∧ wr.heap[w.heap.size]? = some (.cells z32 24) ∧ wr.heap[w.heap.size + 1]? = some (.cells (u8s (fillN (dgs s) 32 c)) 24))
    case atStart =>
      refine ⟨0, Nat.zero_le _, rfl, rfl, fun j hj => by omega, ((Below.refl _ _).alloc (Nat.le_refl _) _).alloc (by simp) _, (Below.heap_alloc _ _ _ (by simp)).trans H0.out, ?_⟩
      rw [fill0]
      have := heap_alloc_last (w.alloc (.cells z32 24)) (.cells z32 24)
      rwa [World.size_alloc] at this
    case round =>
      obtain ⟨c, hc, rfl, rfl, HOK, hbel, h0, h1⟩ := hrel
      have G : Hid (Below w.heap.size w wr ∧ wr.heap[w.heap.size]? = some (.cells z32 24) ∧ wr.heap[w.heap.size + 1]? = some (.cells (u8s (fillN (dgs s) 32 c)) 24)) := ⟨hbel, h0, h1⟩
      clear hbel h0 h1 H0
      by_cases hlt : c < 32
      · have r1 := hv_sb s (2 * c)
        have r2 := hv_sb s (2 * c + 1)
        have HV : Hid ((dgs s).getD c 0 = hv (sb s (2 * c)) * 16 + hv (sb s (2 * c + 1))) := dgs_get s c hlt
        have HA : Hid (hv (sb s (2 * c)) < 0 ∨ hv (sb s (2 * c + 1)) < 0 → ¬ okText s) := fun h ho => by
          have h1 := ho.2 (2 * c) (by omega)
          have h2 := ho.2 (2 * c + 1) (by omega)
          omega
        have HO2 : Hid (0 ≤ hv (sb s (2 * c)) → 0 ≤ hv (sb s (2 * c + 1)) → okTo s (2 * (c + 1))) := fun a b j hj => by
          rcases (by omega : j < 2 * c ∨ j = 2 * c ∨ j = 2 * c + 1) with h | rfl | rfl
          · exact HOK.out j h
          · exact a
          · exact b
        have k1 : Hid (∀ W : World, Calls Tryd.prog 25 #[.string ⟨#[48, 49, 50, 51, 52, 53, 54, 55, 56, 57, 97, 98, 99, 100, 101, 102]⟩, .int .u8 (sb s (2 * c))] W fun e w' => e = .returned (.int .i64 (hv (sb s (2 * c)))) ∧ w' = W) := fun W => indexByte_is _ W
        have k2 : Hid (∀ W : World, Calls Tryd.prog 25 #[.string ⟨#[48, 49, 50, 51, 52, 53, 54, 55, 56, 57, 97, 98, 99, 100, 101, 102]⟩, .int .u8 (sb s (2 * c + 1))] W fun e w' => e = .returned (.int .i64 (hv (sb s (2 * c + 1)))) ∧ w' = W) := fun W => indexByte_is _ W
        obtain ⟨r1a, r1b, _⟩ := r1
        obtain ⟨r2a, r2b, _⟩ := r2
        have v2 : IntKind.i64.wrap (2 * (c : Int)) = 2 * (c : Int) := by rw [IntKind.wrap_i64]; omega
        have v3 : IntKind.i64.wrap (2 * (c : Int) + 1) = 2 * (c : Int) + 1 := by rw [IntKind.wrap_i64]; omega
        generalize hv (sb s (2 * c)) = hi at *
        generalize hv (sb s (2 * c + 1)) = lo at *
        go_wp2_with fail
        refine wp_region_noPanic ?_
        refine wp_region_held_drew (S := (fun _ : World => True)) (by kernel_rfl) ?hSa (fun hHeld => ?resta)
        case hSa => trivial
        case resta =>
          refine wpAnyH_take (i := 0) (v := ?v0) rfl (by kernel_rfl) (by kernel_rfl) (by kernel_rfl) (fun _ _ _ h => h) (Or.inl ⟨by rfl, ?hy0⟩) hHeld ?rest0
          case hy0 => (intro w hSw; (try dsimp only at hSw); go_simp; try with_reducible rfl)
          try simp only [Act.put, List.setIfInBounds_toArray, List.set_cons_zero, List.set_cons_succ, List.getElem_toArray, List.getElem_cons_zero]
          refine wpAnyH_take (i := 1) (v := ?v1) rfl (by kernel_rfl) (by kernel_rfl) (by kernel_rfl) (fun _ _ _ h => h) (Or.inl ⟨by rfl, ?hy1⟩) hHeld ?rest1
          case hy1 => (intro w hSw; (try dsimp only at hSw); go_simp; try with_reducible rfl)
          try simp only [Act.put, List.setIfInBounds_toArray, List.set_cons_zero, List.set_cons_succ, List.getElem_toArray, List.getElem_cons_zero, List.getElem_cons_succ]
          refine wpAnyH_take (i := 2) (v := ?v2) rfl (by kernel_rfl) (by kernel_rfl) (by kernel_rfl) (fun _ _ _ h => h) (Or.inl ⟨by rfl, ?hy2⟩) hHeld ?rest2
          case hy2 => (intro w hSw; (try dsimp only at hSw); go_simp; try with_reducible rfl)
          try simp only [Act.put, List.setIfInBounds_toArray, List.set_cons_zero, List.set_cons_succ, List.getElem_toArray, List.getElem_cons_zero, List.getElem_cons_succ]
          refine wpAnyH_take (i := 3) (v := .int .u8 (sb s (2 * c))) rfl (by kernel_rfl) (by kernel_rfl) (by kernel_rfl) (fun _ _ _ h => h) (Or.inl ⟨by rfl, ?hy3⟩) hHeld ?rest3
          case hy3 => (intro w hSw; exact index_run w _ _ (.tmp 15) (.tmp 17) rfl s (2 * c) (by omega) rfl rfl)
          try simp only [Act.put, List.setIfInBounds_toArray, List.set_cons_zero, List.set_cons_succ, List.getElem_toArray, List.getElem_cons_zero, List.getElem_cons_succ]
          refine wpAnyH_take (i := 5) (v := ?v5) rfl (by kernel_rfl) (by kernel_rfl) (by kernel_rfl) (fun _ _ _ h => h) (Or.inl ⟨by rfl, ?hy5⟩) hHeld ?rest5
          case hy5 => (intro w hSw; (try dsimp only at hSw); go_simp; try with_reducible rfl)
          try simp only [Act.put, List.setIfInBounds_toArray, List.set_cons_zero, List.set_cons_succ, List.getElem_toArray, List.getElem_cons_zero, List.getElem_cons_succ]
          refine wpAnyH_take (i := 6) (v := ?v6) rfl (by kernel_rfl) (by kernel_rfl) (by kernel_rfl) (fun _ _ _ h => h) (Or.inl ⟨by rfl, ?hy6⟩) hHeld ?rest6
          case hy6 => (intro w hSw; (try dsimp only at hSw); go_simp; try with_reducible rfl)
          try simp only [Act.put, List.setIfInBounds_toArray, List.set_cons_zero, List.set_cons_succ, List.getElem_toArray, List.getElem_cons_zero, List.getElem_cons_succ]
          refine wpAnyH_take (i := 7) (v := ?v7) rfl (by kernel_rfl) (by kernel_rfl) (by kernel_rfl) (fun _ _ _ h => h) (Or.inl ⟨by rfl, ?hy7⟩) hHeld ?rest7
          case hy7 => (intro w hSw; (try dsimp only at hSw); go_simp; try with_reducible rfl)
          try simp only [Act.put, List.setIfInBounds_toArray, List.set_cons_zero, List.set_cons_succ, List.getElem_toArray, List.getElem_cons_zero, List.getElem_cons_succ]
          refine wpAnyH_take (i := 8) (v := ?v8) rfl (by kernel_rfl) (by kernel_rfl) (by kernel_rfl) (fun _ _ _ h => h) (Or.inl ⟨by rfl, ?hy8⟩) hHeld ?rest8
          case hy8 => (intro w hSw; (try dsimp only at hSw); go_simp; try with_reducible rfl)
          try simp only [Act.put, List.setIfInBounds_toArray, List.set_cons_zero, List.set_cons_succ, List.getElem_toArray, List.getElem_cons_zero, List.getElem_cons_succ]
          refine wpAnyH_take (i := 9) (v := .int .u8 (sb s (2 * c + 1))) rfl (by kernel_rfl) (by kernel_rfl) (by kernel_rfl) (fun _ _ _ h => h) (Or.inl ⟨by rfl, ?hy9⟩) hHeld ?rest9
          case hy9 => (intro w hSw; exact index_run w _ _ (.tmp 20) (.tmp 23) rfl s (2 * c + 1) (by omega) rfl rfl)
          try simp only [Act.put, List.setIfInBounds_toArray, List.set_cons_zero, List.set_cons_succ, List.getElem_toArray, List.getElem_cons_zero, List.getElem_cons_succ]
          refine wpAnyH_ready (rs := [4]) (by kernel_rfl) (by simp) ?_
          refine AllReadyH.cons rfl (fun K hK => ?_) AllReadyH.nil
          go_simp; refine (k1.out _).mono ?_; rintro e w' ⟨rfl, hw⟩; obtain rfl := hw.symm; clear hw; go_wp2_with fail
          refine hK.out _ _ ?hS4 (fun hHeld => ?rest4)
          case hS4 => trivial
          clear hK K
          try simp only [Act.put, List.setIfInBounds_toArray, List.set_cons_zero, List.set_cons_succ, List.getElem_toArray, List.getElem_cons_zero, List.getElem_cons_succ]
          refine wpAnyH_ready (rs := [10]) (by kernel_rfl) (by simp) ?_
          refine AllReadyH.cons rfl (fun K hK => ?_) AllReadyH.nil
          go_simp; refine (k2.out _).mono ?_; rintro e w' ⟨rfl, hw⟩; obtain rfl := hw.symm; clear hw; go_wp2_with fail
          refine hK.out _ _ ?hS10 (fun hHeld => ?rest10)
          case hS10 => trivial
          clear hK K
          try simp only [Act.put, List.setIfInBounds_toArray, List.set_cons_zero, List.set_cons_succ, List.getElem_toArray, List.getElem_cons_zero, List.getElem_cons_succ]
          refine wpAnyH_take (i := 11) (v := ?v11) rfl (by kernel_rfl) (by kernel_rfl) (by kernel_rfl) (fun _ _ _ h => h) (Or.inl ⟨by rfl, ?hy11⟩) hHeld ?rest11
          case hy11 => (intro w hSw; (try dsimp only at hSw); go_simp; try with_reducible rfl)
          try simp only [Act.put, List.setIfInBounds_toArray, List.set_cons_zero, List.set_cons_succ, List.getElem_toArray, List.getElem_cons_zero, List.getElem_cons_succ]
          refine wpAnyH_take (i := 12) (v := ?v12) rfl (by kernel_rfl) (by kernel_rfl) (by kernel_rfl) (fun _ _ _ h => h) (Or.inl ⟨by rfl, ?hy12⟩) hHeld ?rest12
          case hy12 => (intro w hSw; (try dsimp only at hSw); go_simp; try with_reducible rfl)
          try simp only [Act.put, List.setIfInBounds_toArray, List.set_cons_zero, List.set_cons_succ, List.getElem_toArray, List.getElem_cons_zero, List.getElem_cons_succ]
          refine wpAnyH_done (by kernel_rfl) ?_ _
          refine NoPanic.normal ?_
          clear hHeld k1 k2
          have HG0 : Hid (wr.drew.heap[w.heap.size]? = some (.cells z32 24)) := G.out.2.1
          by_cases hbad : hi < 0 ∨ lo < 0
          · have hno := rd_no (HA.out hbad)
            rcases (by omega : hi < 0 ∨ (¬ hi < 0 ∧ lo < 0)) with hb1 | ⟨hb1, hb2⟩
            all_goals
              go_wp2_with (refine wpList_store_row rfl 24 (.tmp 2) (.tmp 32) rfl w.heap.size z32 rfl rfl 24 z32 HG0.out (by rw [z32_size]; exact size32) rfl zo ?_)
              refine bodyPost_ret (results_digest rfl _ _ w.heap.size z32 z32_size rfl _ rfl (setRow_heap _ _ _ _ _ _ HG0.out)) rfl ⟨?_, ?_⟩
              · first | rfl | (rw [hno.1, hno.2]; rfl)
              · exact below_setRow G.out.1.drew (Nat.le_refl _) _
          · obtain ⟨h, rfl⟩ := Int.eq_ofNat_of_zero_le (show 0 ≤ hi by omega)
            obtain ⟨l, rfl⟩ := Int.eq_ofNat_of_zero_le (show 0 ≤ lo by omega)
            have eor := or16 h l (by omega) (by omega)
            have hh1 : ¬ ((h : Int) < 0) := by omega
            have hl1 : ¬ ((l : Int) < 0) := by omega
            have hval : h * 16 + l < 256 := by omega
            have HS : Hid ((u8s (fillN (dgs s) 32 c)).setIfInBounds c (.int .u8 ((h * 16 + l : Nat) : Int)) = u8s (fillN (dgs s) 32 (c + 1))) := by
              show _ = _
              rw [u8s_set, ← fillN_step _ _ _ (dgs_len s) hlt, HV.out]
              congr 1
            have hcc : wr.drew.cell? ⟨w.heap.size + 1, c, none⟩ = _ := (cell_of_row wr.drew _ c _ _ (0, 0) G.out.2.2).trans (u8s_get (fillN (dgs s) 32 c) c (by rw [fillN_len _ _ _ (dgs_len s) hc]; exact hlt))
            have fz : wr.drew.frozen? ⟨w.heap.size + 1, c, none⟩ = false := by simp only [World.frozen?, show wr.drew.heap[w.heap.size + 1]? = _ from G.out.2.2]; simp
            generalize (fillN (dgs s) 32 c).getD c 0 = old at *
            have HOK2 := HO2.out (by omega) (by omega)
            have HK2 : Hid (okTo s (2 * (c + 1))) := HOK2
            have W2 : Hid (Below w.heap.size w (wr.setCell ⟨w.heap.size + 1, c, none⟩ (.int .u8 ((h : Int) * 16 + (l : Int)))).drew ∧ (wr.setCell ⟨w.heap.size + 1, c, none⟩ (.int .u8 ((h : Int) * 16 + (l : Int)))).drew.heap[w.heap.size]? = some (.cells z32 24) ∧ (wr.setCell ⟨w.heap.size + 1, c, none⟩ (.int .u8 ((h : Int) * 16 + (l : Int)))).drew.heap[w.heap.size + 1]? = some (.cells (u8s (fillN (dgs s) 32 (c + 1))) 24)) := by
              rw [show (h : Int) * 16 + (l : Int) = ((h * 16 + l : Nat) : Int) by omega]
              refine ⟨(G.out.1.setCell (p := ⟨w.heap.size + 1, c, none⟩) (by show w.heap.size ≤ w.heap.size + 1; omega) _).drew, (Below.heap_setCell wr _ _ _ (by show w.heap.size ≠ w.heap.size + 1; omega)).trans G.out.2.1, ?_⟩
              have hk := heap_setCell_own wr (w.heap.size + 1) c _ _ _ G.out.2.2 (.int .u8 ((h * 16 + l : Nat) : Int))
              rw [HS.out] at hk
              exact hk
            clear HOK2
            go_wp2_with fail
            go_roundg (32 - (c + 1))
            case measure => omega
            case rel => exact ⟨c + 1, by omega, rfl, by go_num, HK2, W2.out.1, W2.out.2.1, W2.out.2.2⟩
      · have e : c = 32 := by omega
        subst e
        have hok := rd_ok (s := s) ⟨h64, HOK.out⟩
        have hdl := dgs_len s
        have G' : Hid (Below w.heap.size w wr ∧ wr.heap[w.heap.size]? = some (.cells z32 24) ∧ wr.heap[w.heap.size + 1]? = some (.cells (u8s (dgs s)) 24)) := by
          have := G.out
          rw [fillN_all _ _ (dgs_len s)] at this
          exact this
        have HOKK : Hid (rdD s = dgs s ∧ rdE s = 0) := hok
        clear hlt hc G hok
        generalize dgs s = DG at *
        go_wp2_with (first | (refine wpList_load_row rfl 24 (.tmp 4) rfl (w.heap.size + 1) rfl 24 (u8s DG) (0, 0) _ G'.out.2.2 Tryd.underlying24 rfl (size32l _ hdl) ?_) | (refine wpList_store_row rfl 24 (.tmp 2) (.tmp 41) rfl w.heap.size (u8s DG) rfl rfl 24 z32 G'.out.2.1 (size32l _ hdl) (by rw [z32_size, u8s_size, hdl]) (u8s_one _) ?_))
        refine bodyPost_ret (results_digest rfl _ _ w.heap.size (u8s DG) (by rw [u8s_size, hdl]) rfl _ rfl (setRow_heap _ _ _ _ _ _ G'.out.2.1)) rfl ⟨?_, ?_⟩
        · rw [HOKK.out.1, HOKK.out.2]; rfl
        · exact below_setRow G'.out.1 (Nat.le_refl _) _
  · have hno := rd_no (s := s) (fun h => h64 h.1)
    have HNO : Hid (rdD s = fillN [] 32 0 ∧ rdE s = 5) := hno
    have h64' : ¬ (((s.size : Nat) : Int) = 64) := by omega
    clear hno
    go_enter Tryd.func12, Tryd.ntmps12
    go_wp2_with (refine wpList_store_row rfl 24 (.tmp 2) (.tmp 11) rfl w.heap.size z32 rfl rfl 24 z32 H0.out (by rw [z32_size]; exact size32) rfl zo ?_)
    refine bodyPost_ret (results_digest rfl _ _ w.heap.size z32 z32_size rfl _ rfl (setRow_heap _ _ _ _ _ _ H0.out)) rfl ⟨?_, ?_⟩
    · rw [HNO.out.1, HNO.out.2]; rfl
    · exact below_setRow ((Below.refl _ _).alloc (Nat.le_refl _) _) (Nat.le_refl _) _
end Go.Proofs.YtofnibjpgkglnaaDoor
