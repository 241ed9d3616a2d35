/- headOf where the numbers may be; both. Written by gen_headof.py. A map of slices by numbers, as a plain function from a number to where a slice lies: what is at a key, a store, a delete, and a range in whatever order. Slices of blocks, of one's own. What a disk is in memory; disk.New. Disks that a call made: isNone, ready, readyAt, Blocks, Up, Done. -/
import Derived.Test.YtcindeechmpalaaGreatMgKc3
import Derived.Deep.RegionHeld3
import Derived.Test.YtcindeechmpalaaGreatMgKc0
import Derived.Maps.Own
import Derived.Maps.OwnSet
import Derived.Maps.Views
import Derived.Maps.RangeWalk
import Derived.OwnWalk
import Derived.Laws.MakeOwn
namespace Go.Proofs.YtcindeechmpalaaGreat
open Go.ChangeShapes Go.WideShapes Go.ChangeAt Go.RowKit Go.Deep
set_option linter.unusedVariables false
theorem load_agg (w : World) (a : Act) (o : Oper) (ty : TypeId) (x : Operand) (ho : o.op = .load ty x) (g : Nat) (hx : a.eval x = .pointer (some ⟨g, 0, none⟩)) (t : TypeId) (cs : Array Value) (fr : Nat × Nat) (hg : w.heap[g]? = some (.cells cs t fr))
    (hr : (loadVar ty ⟨g, 0, none⟩).run Tryz.prog w = .ok (.agg cs) w) :
    (execOp a.eval o).run Tryz.prog w = .ok (.value (.agg cs)) w := by
  unfold execOp
  simp only [ho, hx, Instr.loadAt, Instr.sureAddr, Sem.run_bind, Sem.run_pure, Result.andThen_ok, hr]
/-- what holds through the last statement of headOf -/
structure HoS (w : World) (b : List Int) (no ar ln : Nat) (u : World) : Prop where
  bel : Below w.heap.size w u
  sz : w.heap.size + 3 ≤ u.heap.size
  blk : Bk u w.heap.size b
  hd : u.heap[w.heap.size + 2]? = some (.cells #[.int .u64 (no : Int), .int .i64 (ar : Int), .int .i64 (ln : Int)] 125)
  res : ∃ old, u.heap[w.heap.size + 1]? = some (.cells old 125) ∧ old.size = 3
theorem HoS.keep {w : World} {b : List Int} {no ar ln : Nat} {u u' : World} (h : HoS w b no ar ln u) (hb : Below u.heap.size u u') : HoS w b no ar ln u' := by
  have hz := h.sz
  obtain ⟨old, ho, h3⟩ := h.res
  exact ⟨h.bel.trans (hb.mono h.bel.size), Nat.le_trans hz hb.size, h.blk.keep hb, (hb.block _ (by omega)).trans h.hd, old, (hb.block _ (by omega)).trans ho, h3⟩
theorem HoS.drew {w : World} {b : List Int} {no ar ln : Nat} {u : World} (h : HoS w b no ar ln u) : HoS w b no ar ln u.drew := h.keep (below_drewN (Below.refl _ _) 1)
theorem HoS.put {w : World} {b : List Int} {no ar ln : Nat} {u : World} (h : HoS w b no ar ln u) : HoS w b no ar ln (u.setRow (w.heap.size + 1) #[.int .u64 (no : Int), .int .i64 (ar : Int), .int .i64 (ln : Int)]) ∧ (u.setRow (w.heap.size + 1) #[.int .u64 (no : Int), .int .i64 (ar : Int), .int .i64 (ln : Int)]).heap[w.heap.size + 1]? = some (.cells #[.int .u64 (no : Int), .int .i64 (ar : Int), .int .i64 (ln : Int)] 125) := by
  obtain ⟨old, ho, h3⟩ := h.res
  have e := setRow_heap u (w.heap.size + 1) old #[.int .u64 (no : Int), .int .i64 (ar : Int), .int .i64 (ln : Int)] 125 (0, 0) ho
  refine ⟨⟨below_setRow h.bel (Nat.le_succ _) _, by simpa [World.setRow] using h.sz, ?_, ?_, _, e, rfl⟩, e⟩
  · exact (setRow_other u _ _ _ (by omega)).trans h.blk
  · exact (setRow_other u _ _ _ (by omega)).trans h.hd
theorem ho_start {w W : World} {b : List Int} (K : HoW w b W) (no ar ln : Nat) : HoS w b no ar ln ((W.alloc (.cells #[.int .u64 0, .int .i64 0, .int .i64 0] 125)).setRow (w.heap.size + 2) #[.int .u64 (no : Int), .int .i64 (ar : Int), .int .i64 (ln : Int)]) := by
  have hz := K.sz
  have k := gB_alloc W (.cells #[.int .u64 0, .int .i64 0, .int .i64 0] 125)
  have n := heap_alloc_new W (.cells #[.int .u64 0, .int .i64 0, .int .i64 0] 125)
  rw [hz] at n
  refine ⟨below_setRow (K.bel.trans (k.mono (by omega))) (by omega) _, by simp [World.setRow, hz], ?_, ?_, #[.int .u64 0, .int .i64 0, .int .i64 0], ?_, rfl⟩
  · exact (setRow_other _ _ _ _ (by omega)).trans (K.blk.keep k)
  · exact setRow_heap _ _ _ _ _ _ n
  · exact (setRow_other _ _ _ _ (by omega)).trans ((k.block _ (by omega)).trans K.res)
set_option maxRecDepth 100000 in
set_option maxHeartbeats 4000000 in
theorem headOf_yes (w : World) (bl m : Nat) (hm : m ≤ 4096) (c1 : w.cell? ⟨bl, 1, none⟩ = some (.int .i64 (m : Int))) (b : List Int) (hl : b.length = 64) (hb : IsBytes b) (place : Nat) (hp : place ≤ 1)
    (hyes : 1 ≤ hN b ∧ hN b ≤ 1152921504606846976 ∧ hN b % 2 = place ∧ hA b ≤ 1 ∧ hL b ≤ 64 * m) :
    Calls Tryz.prog 131 #[.pointer (some ⟨bl, 0, none⟩), .agg (bk b), .int .i64 (place : Int)] w (HdSaid m place b w) := by
  have hok : hdOk m place b = decide (hdB (hN b) (hA b) (hL b) = b) := by
    unfold hdOk
    rw [decide_eq_decide]
    exact ⟨fun h => h.2.2.2.2.2, fun h => ⟨hyes.1, hyes.2.1, hyes.2.2.1, hyes.2.2.2.1, hyes.2.2.2.2, h⟩⟩
  have hsaid : ∀ w', Below w.heap.size w w' → HdSaid m place b w (.returned (.tuple #[.agg #[.int .u64 (hN b : Int), .int .i64 (hA b : Int), .int .i64 (hL b : Int)], .bool (decide (hdB (hN b) (hA b) (hL b) = b))])) w' := fun w' hw => ⟨_, _, _, by rw [hok], fun _ => ⟨rfl, rfl, rfl⟩, hw⟩
  have HS : Hid (∀ w', Below w.heap.size w w' → HdSaid m place b w (.returned (.tuple #[.agg #[.int .u64 (hN b : Int), .int .i64 (hA b : Int), .int .i64 (hL b : Int)], .bool (decide (hdB (hN b) (hA b) (hL b) = b))])) w') := hsaid
  obtain ⟨n1, n2⟩ := hN_is b hl hb
  obtain ⟨l1, l2⟩ := hL_is b hl hb
  obtain ⟨q1, q2⟩ := hA_is b hl hb
  have hbl := World.block_lt_of_cell? _ _ c1
  have K0 : Hid (HoW w b (hoW w b)) := hoW_is w b
  have c1' : (hoW w b).cell? ⟨bl, 1, none⟩ = some (.int .i64 (m : Int)) := (K0.out.bel.cell hbl).trans c1
  have KS : Hid (Calls Tryz.prog 88 #[.pointer (some ⟨bl, 0, none⟩)] (hoW w b) fun e w' => e = .returned (.int .i64 ((64 * m : Nat) : Int)) ∧ w' = hoW w b) := wsize_is _ bl m hm c1'
  have KP : Hid (Calls Tryz.prog 129 #[.int .u64 (hN b : Int)] (hoW w b) fun e w' => e = .returned (.int .i64 ((hN b % 2 : Nat) : Int)) ∧ w' = hoW w b) := placeOf_is _ _ n2
  have R1 : Hid (Calls Tryz.prog 162 #[.slice (some ⟨w.heap.size, 4, none⟩) 60 60, .int .i64 8] (hoW w b) fun e w' => e = .returned (.tuple #[.int .u64 (hN b : Int), .int .i64 0]) ∧ w' = hoW w b) := by
    have := readFixed_ok (b.drop 4) 60 8 (some ⟨w.heap.size, 4, none⟩) 60 (by simp [hl]) (by omega) (bytes_of_mem fun x hx => bytes_mem hb x (List.mem_of_mem_drop hx)) (hoW w b) (by have := K0.out.blk.holds.drop 4; simpa [add_plain] using this) (by omega) (by omega) (by omega)
    rwa [n1] at this
  have R2 : Hid (Calls Tryz.prog 162 #[.slice (some ⟨w.heap.size, 12, none⟩) 52 52, .int .i64 4] (hoW w b) fun e w' => e = .returned (.tuple #[.int .u64 (hL b : Int), .int .i64 0]) ∧ w' = hoW w b) := by
    have := readFixed_ok (b.drop 12) 52 4 (some ⟨w.heap.size, 12, none⟩) 52 (by simp [hl]) (by omega) (bytes_of_mem fun x hx => bytes_mem hb x (List.mem_of_mem_drop hx)) (hoW w b) (by have := K0.out.blk.holds.drop 12; simpa [add_plain] using this) (by omega) (by omega) (by omega)
    rwa [l1] at this
  have d2 := K0.out.blk.at 2 (by omega)
  rw [q1] at d2
  have KB : Hid (∀ u, Calls Tryz.prog 127 #[.agg #[.int .u64 (hN b : Int), .int .i64 (hA b : Int), .int .i64 (hL b : Int)]] u fun e w' => e = .returned (.agg (bk (hdB (hN b) (hA b) (hL b)))) ∧ Below u.heap.size u w') := fun u => bytes_is _ _ _ n2 hyes.2.2.2.1 l2 u
  have HE : Hid ((hdB (hN b) (hA b) (hL b)).length = 64) := hdB_len _ _ _
  have KI : Hid (Below w.heap.size w (hoW w b)) := K0.out.bel
  clear n1 l1 q1 hb hok hsaid
  obtain ⟨y1, y2, y3, y4, y5⟩ := hyes
  go_enter Tryz.func131, Tryz.ntmps131
  go_wp2_with fail
  refine R1.out.mono ?_
  rintro e w1 ⟨rfl, rfl⟩
  go_wp2_with fail
  refine R2.out.mono ?_
  rintro e w1 ⟨rfl, rfl⟩
  clear R1 R2
  generalize hdB (hN b) (hA b) (hL b) = X at *
  generalize hN b = no at *
  generalize hA b = ar at *
  generalize hL b = ln at *
  have K1 : Hid (HoS w b no ar ln (((hoW w b).alloc (.cells #[.int .u64 0, .int .i64 0, .int .i64 0] 125)).setRow (w.heap.size + 2) #[.int .u64 (no : Int), .int .i64 (ar : Int), .int .i64 (ln : Int)])) := ho_start K0.out no ar ln
  have Z1 : Hid (((hoW w b).alloc (.cells #[.int .u64 0, .int .i64 0, .int .i64 0] 125)).heap[w.heap.size + 2]? = some (.cells #[.int .u64 0, .int .i64 0, .int .i64 0] 125)) := by
    have n := heap_alloc_new (hoW w b) (.cells #[.int .u64 0, .int .i64 0, .int .i64 0] 125)
    rw [K0.out.sz] at n
    exact n
  have sz := K0.out.sz
  generalize hoW w b = W at *
  generalize no % 2 = q at *
  subst y3
  have e1 : ¬ (no : Int) < 1 := by omega
  have e2 : ¬ (1152921504606846976 : Int) < no := by omega
  have e4 : ¬ (1 : Int) < ar := by omega
  have e5 : ¬ (64 * (m : Int)) < ln := by omega
  have e6 : (64 * (m : Int)) % 18446744073709551616 = 64 * (m : Int) := by omega
  have e7 : (ln : Int) ≤ 9223372036854775807 := by omega
  go_wp2_with (first | (refine wpList_store_row rfl 125 (.tmp 12) (.tmp 54) rfl (w.heap.size + 2) #[.int .u64 (no : Int), .int .i64 (ar : Int), .int .i64 (ln : Int)] rfl rfl 125 _ Z1.out size3H rfl (hd_one _ _ _) ?_) | (go_at_call 129; refine KP.out.mono ?_; rintro e w' ⟨rfl, hw⟩; obtain rfl := hw.symm; clear hw) | (go_at_call 88; refine KS.out.mono ?_; rintro e w' ⟨rfl, hw⟩; obtain rfl := hw.symm; clear hw))
  generalize ((W.alloc (.cells #[.int .u64 0, .int .i64 0, .int .i64 0] 125)).setRow (w.heap.size + 2) #[.int .u64 (no : Int), .int .i64 (ar : Int), .int .i64 (ln : Int)]) = Y at *
  refine wp_region_noPanic ?_
  refine wp_region_held_drew (S := (fun u : World => HoS w b no ar ln u)) (by kernel_rfl) ?hSah (fun hHeld => ?restah)
  case hSah => exact K1.out.drew
  case restah =>
  generalize World.drew Y = u0 at hHeld ⊢
  refine wpAnyH_take (i := 0) (v := .agg #[.int .u64 (no : Int), .int .i64 (ar : Int), .int .i64 (ln : Int)]) rfl (by kernel_rfl) (by kernel_rfl) (by kernel_rfl) (fun _ _ _ h => h) (Or.inl ⟨by kernel_rfl, ?hy0⟩) hHeld ?rest0
  case hy0 => (intro u hSu; exact load_agg _ _ _ _ (.tmp 12) rfl (w.heap.size + 2) rfl _ _ _ hSu.hd (run_loadVar_row _ _ _ _ _ _ _ hSu.hd Tryz.underlying125 rfl size3H))
  case rest0 =>
  try simp only [Act.put, List.setIfInBounds_toArray, List.set_cons_zero, List.set_cons_succ, List.getElem_toArray, List.getElem_cons_zero]
  refine wpAnyH_take (i := 1) (v := .agg #[.int .u64 (no : Int), .int .i64 (ar : Int), .int .i64 (ln : Int)]) rfl (by kernel_rfl) (by kernel_rfl) (by kernel_rfl) (fun _ _ _ h => h) (Or.inl ⟨by kernel_rfl, ?hy1⟩) hHeld ?rest1
  case hy1 => (intro u hSu; exact load_agg _ _ _ _ (.tmp 12) rfl (w.heap.size + 2) rfl _ _ _ hSu.hd (run_loadVar_row _ _ _ _ _ _ _ hSu.hd Tryz.underlying125 rfl size3H))
  case rest1 =>
  try simp only [Act.put, List.setIfInBounds_toArray, List.set_cons_zero, List.set_cons_succ, List.getElem_toArray, List.getElem_cons_zero, List.getElem_cons_succ]
  refine wpAnyH_take (i := 3) (v := .agg (bk b)) rfl (by kernel_rfl) (by kernel_rfl) (by kernel_rfl) (fun _ _ _ h => h) (Or.inl ⟨by kernel_rfl, ?hy3⟩) hHeld ?rest3
  case hy3 => (intro u hSu; exact load_agg _ _ _ _ (.tmp 4) rfl w.heap.size rfl _ _ _ hSu.blk (run_loadVar_row _ _ _ _ _ _ _ hSu.blk Tryz.underlying160 rfl (sizeBl _ hl)))
  case rest3 =>
  try simp only [Act.put, List.setIfInBounds_toArray, List.set_cons_zero, List.set_cons_succ, List.getElem_toArray, List.getElem_cons_zero, List.getElem_cons_succ]
  refine wpAnyH_ready (rs := [2]) (by kernel_rfl) (by simp) ?_
  refine AllReadyH.cons rfl (fun K hK => ?_) AllReadyH.nil
  go_simp; refine (KB.out _).mono ?_; rintro e u1 ⟨rfl, hb1⟩; have S1 : HoS w b no ar ln u1 := HoS.keep hHeld hb1; clear hb1; go_wp2_with fail
  refine hK.out _ _ ?hS2h (fun hHeld => ?rest2h)
  case hS2h => exact S1
  clear hK K
  try simp only [Act.put, List.setIfInBounds_toArray, List.set_cons_zero, List.set_cons_succ, List.getElem_toArray, List.getElem_cons_zero, List.getElem_cons_succ]
  refine wpAnyH_take (i := 4) (v := .bool (decide (X = b))) rfl (by kernel_rfl) (by kernel_rfl) (by kernel_rfl) (fun _ _ _ h => h) (Or.inl ⟨by kernel_rfl, ?hy4⟩) hHeld ?rest4
  case hy4 => (intro u hSu; clear hSu; have g9 := guard_block; have e9 := eq_block X b HE.out hl u; go_simp; try with_reducible rfl)
  case rest4 =>
  try simp only [Act.put, List.setIfInBounds_toArray, List.set_cons_zero, List.set_cons_succ, List.getElem_toArray, List.getElem_cons_zero, List.getElem_cons_succ]
  refine wpAnyH_ready (rs := [5]) (by kernel_rfl) (by simp) ?_
  refine AllReadyH.cons rfl (fun K hK => ?_) AllReadyH.nil
  obtain ⟨old, hold, hs3⟩ := HoS.res hHeld
  obtain ⟨S2, T2⟩ := HoS.put hHeld
  refine wp_store_row 125 (.tmp 6) (.tmp 55) rfl (w.heap.size + 1) #[.int .u64 (no : Int), .int .i64 (ar : Int), .int .i64 (ln : Int)] rfl rfl 125 old hold size3H hs3 (hd_one _ _ _) ?_
  refine hK.out _ _ ?hS5 (fun hHeld => ?rest5)
  case hS5 => exact S2
  clear hK K
  refine wpAnyH_take (i := 6) (v := .bool (decide (X = b))) rfl (by kernel_rfl) (by kernel_rfl) (by kernel_rfl) (fun _ _ _ h => h) (Or.inl ⟨by kernel_rfl, ?hy6⟩) hHeld ?rest6
  case hy6 => (intro u hSu; clear hSu; go_simp; try with_reducible rfl)
  case rest6 =>
  try simp only [Act.put, List.setIfInBounds_toArray, List.set_cons_zero, List.set_cons_succ, List.getElem_toArray, List.getElem_cons_zero, List.getElem_cons_succ]
  refine wpAnyH_done (by kernel_rfl) ?_ _
  refine NoPanic.normal ?_
  go_wp2_with fail
  refine bodyPost_ret (results_hd rfl _ _ (w.heap.size + 1) _ rfl rfl _ rfl T2) rfl ?_
  exact HS.out _ S2.bel
theorem headOf_is (w : World) (bl m : Nat) (hm : m ≤ 4096) (c1 : w.cell? ⟨bl, 1, none⟩ = some (.int .i64 (m : Int))) (b : List Int) (hl : b.length = 64) (hb : IsBytes b) (place : Nat) (hp : place ≤ 1) :
    Calls Tryz.prog 131 #[.pointer (some ⟨bl, 0, none⟩), .agg (bk b), .int .i64 (place : Int)] w (HdSaid m place b w) := by
  by_cases h : 1 ≤ hN b ∧ hN b ≤ 1152921504606846976 ∧ hN b % 2 = place ∧ hA b ≤ 1 ∧ hL b ≤ 64 * m
  · exact headOf_yes w bl m hm c1 b hl hb place hp h
  · exact headOf_no w bl m hm c1 b hl hb place hp h
end Go.Proofs.YtcindeechmpalaaGreat
namespace Go.Proofs.YtcindeechmpalaaGreat
open Go.ChangeShapes Go.WideShapes Go.ChangeAt Go.RowKit Go.Deep Go.Maps
set_option linter.unusedVariables false
/-- where a slice lies (0: it is nil; else the block's number and one), how long it is, how much room it has -/
abbrev Hd := Nat × Nat × Nat
def hv : Hd → Value
  | (0, n, c) => .slice none n c
  | (g + 1, n, c) => .slice (some ⟨g, 0, none⟩) n c
def noH : Hd := (0, 0, 0)
def hD (x : Hd) : DataW Unit := .agg [.lit (.int .i64 (x.1 : Int)), .lit (.int .i64 (x.2.1 : Int)), .lit (.int .i64 (x.2.2 : Int))]
def hR : Value → Option (DataW Unit × List MemPlace)
  | .slice none n c => some (hD (0, n, c), [])
  | .slice (some ⟨g, 0, none⟩) n c => some (hD (g + 1, n, c), [])
  | _ => none
theorem hR_hv (x : Hd) : hR (hv x) = some (hD x, []) := by
  obtain ⟨g, n, c⟩ := x
  cases g <;> rfl
theorem hR_inv {v : Value} {z : DataW Unit × List MemPlace} (h : hR v = some z) : ∃ x : Hd, v = hv x ∧ z = (hD x, []) := by
  unfold hR at h
  split at h
  · rename_i n c
    exact ⟨(0, n, c), rfl, (Option.some.inj h).symm⟩
  · rename_i g n c
    exact ⟨(g + 1, n, c), rfl, (Option.some.inj h).symm⟩
  · cases h
theorem hD_inj {x y : Hd} (h : hD x = hD y) : x = y := by
  obtain ⟨a, b, c⟩ := x
  obtain ⟨a', b', c'⟩ := y
  simp [hD] at h
  obtain ⟨h1, h2, h3⟩ := h
  have e1 : a = a' := by omega
  have e2 : b = b' := by omega
  have e3 : c = c' := by omega
  subst e1 e2 e3
  rfl
def InI (p : Int) : Prop := -9223372036854775808 ≤ p ∧ p ≤ 9223372036854775807
/-- a map's datum tells this function -/
def Rep (D : DataW Unit) (T : Int → Option Hd) : Prop := ∀ p, Maps.has D (.int .i64 p) = (T p).isSome ∧ ∀ x, T p = some x → ∀ z, D.atKey (.int .i64 p) z = hD x
/-- block b is a map that tells this function, of at most n entries -/
def Sc (w : World) (b n : Nat) (T : Int → Option Hd) : Prop := ∃ D, w.ownsMap Tryz.prog 3 hR b n D ∧ Rep D T
theorem lawI : Keyed Tryz.prog 3 := int_keyed Tryz.underlying3
theorem zeroHd (w : World) : (zeroValue 72).run Tryz.prog w = .ok (hv noH) w := by kernel_rfl
theorem keyI (p : Int) (hp : InI p) : keyOf Tryz.prog 3 (.int .i64 p) = some (.int .i64 p) := keyOf_int_mk Tryz.underlying3 (WalkArith.wf_i64 hp)
theorem keyI_inv {key : Value} {kl : Lit} (h : keyOf Tryz.prog 3 key = some kl) : ∃ p : Int, key = .int .i64 p ∧ kl = .int .i64 p ∧ InI p := by
  rw [keyOf_int Tryz.underlying3] at h
  cases key <;> simp [mapKey, Tryz.underlying3] at h
  rename_i q p
  obtain ⟨⟨rfl, hw⟩, rfl⟩ := h
  exact ⟨p, rfl, rfl, bounds_i64 hw⟩
theorem Rep.put {D : DataW Unit} {T : Int → Option Hd} (h : Rep D T) (hm : IsMap D) (p : Int) (x : Hd) : Rep (D.put (.int .i64 p) (hD x)) (fun q => if q = p then some x else T q) := by
  intro q
  by_cases hq : q = p
  · subst hq
    simp only [if_pos]
    refine ⟨by rw [has_put_same hm (k := .int .i64 q) trivial]; rfl, fun y hy z => ?_⟩
    cases hy
    exact atKey_put_same hm (k := .int .i64 q) trivial _ _
  · have hne : (Lit.int .i64 q) ≠ .int .i64 p := fun e => hq (by injection e)
    simp only [if_neg hq]
    refine ⟨by rw [has_put_other hne]; exact (h q).1, fun y hy z => ?_⟩
    rw [atKey_put_other hne]
    exact (h q).2 y hy z
theorem Rep.del {D : DataW Unit} {T : Int → Option Hd} (h : Rep D T) (p : Int) : Rep (D.del (.int .i64 p)) (fun q => if q = p then none else T q) := by
  intro q
  by_cases hq : q = p
  · subst hq
    simp only [if_pos]
    exact ⟨by rw [has_del_same]; rfl, fun y hy => by cases hy⟩
  · have hne : (Lit.int .i64 q) ≠ .int .i64 p := fun e => hq (by injection e)
    simp only [if_neg hq]
    refine ⟨by rw [has_del_other hne]; exact (h q).1, fun y hy z => ?_⟩
    rw [atKey_del_other hne]
    exact (h q).2 y hy z
theorem Rep.at {D : DataW Unit} {T : Int → Option Hd} (h : Rep D T) (p : Int) : D.atKey (.int .i64 p) (hD noH) = hD ((T p).getD noH) := by
  cases hp : T p with
  | none =>
    have := (h p).1
    rw [hp] at this
    rw [atKey_of_not_has (by simpa using this)]
    rfl
  | some x => exact (h p).2 x hp _
theorem Sc.empty (w : World) : Sc (w.alloc (.map #[] 0)) w.heap.size 0 (fun _ => none) := ⟨.map [], World.ownsMap_made w _ _ _, fun p => ⟨rfl, fun x hx => by cases hx⟩⟩
theorem Sc.mono {w : World} {b n n' : Nat} {T : Int → Option Hd} (h : Sc w b n T) (hn : n ≤ n') : Sc w b n' T := by
  obtain ⟨D, h1, h2⟩ := h
  exact ⟨D, h1.mono hn, h2⟩
theorem Sc.lt {w : World} {b n : Nat} {T : Int → Option Hd} (h : Sc w b n T) : b < w.heap.size := by
  obtain ⟨D, h1, h2⟩ := h
  exact h1.lt
theorem Sc.kept {w w' : World} {b n : Nat} {T : Int → Option Hd} {row : Option Nat} (h : Sc w b n T) (hg : w.grownBy w' row) (hne : some b ≠ row) : Sc w' b n T := by
  obtain ⟨D, h1, h2⟩ := h
  exact ⟨D, h1.kept hg hne, h2⟩
theorem Sc.keep {w w' : World} {b n : Nat} {T : Int → Option Hd} (h : Sc w b n T) (hb : Below w.heap.size w w') : Sc w' b n T :=
  h.kept (row := none) ⟨hb.os, hb.tape, hb.output, hb.size, fun i hi _ => hb.block i hi⟩ (by simp)
/-- 'm[k]' -/
theorem Sc.look {w : World} {b n : Nat} {T : Int → Option Hd} (h : Sc w b n T) (p : Int) (hp : InI p) : (Instr.lookup 73 (.map (some b)) (.int .i64 p) false).run Tryz.prog w = .ok (hv ((T p).getD noH)) w := by
  obtain ⟨D, h1, h2⟩ := h
  obtain ⟨v, ps, hrun, hv⟩ := h1.lookup lawI Tryz.underlying73 (zeroHd w) (hR_hv noH) (keyI p hp)
  obtain ⟨x, rfl, hx⟩ := hR_inv hv
  simp only [Prod.mk.injEq] at hx
  rw [h2.at p] at hx
  rw [hD_inj hx.1]
  exact hrun
section
variable {ops : Array Oper} {rest : List Oper} {o : Oper} {a : Act} {Q : Exit → Act → World → Prop}
/-- 'm[k] = v' -/
theorem wpList_put_sc {w : World} (hg : o.guard = none) (m x v : Operand) (hop : o.op = Op.mapUpdate 73 m x v) (b n : Nat) (T : Int → Option Hd) (hm : a.eval m = .map (some b)) (hs : Sc w b n T) (hn : n < 4611686018427387904) (p : Int) (hp : InI p) (y : Hd) (hx : a.eval x = .int .i64 p) (hv : a.eval v = hv y)
    (hK : ∀ w', Sc w' b (n + 1) (fun q => if q = p then some y else T q) → w.grownBy w' (some b) → wpList Tryz.prog ops Q rest (a.put o.dst undef) w') : wpList Tryz.prog ops Q (o :: rest) a w := by
  obtain ⟨D, h1, h2⟩ := hs
  refine wpList_mapUpdate_own w hg m x v 73 hop 3 72 lawI Tryz.underlying73 hR b n D hm h1 (by unfold maxLen; omega) _ _ _ hx hv (keyI p hp) _ [] (hR_hv y) ?_
  intro w' ho hgr
  exact hK w' ⟨_, ho, h2.put h1.isMap p y⟩ hgr
/-- 'delete(m, k)' -/
theorem wpList_del_sc {w : World} (hg : o.guard = none) (m x : Operand) (hop : o.op = Op.call { callee := Callee.builtin Builtin.delete, args := #[m, x], argTypes := #[73, 3] }) (b n : Nat) (T : Int → Option Hd) (hm : a.eval m = .map (some b)) (hs : Sc w b n T) (p : Int) (hp : InI p) (hx : a.eval x = .int .i64 p)
    (hK : ∀ w', Sc w' b n (fun q => if q = p then none else T q) → w.grownBy w' (some b) → wpList Tryz.prog ops Q rest (a.put o.dst (.tuple #[])) w') : wpList Tryz.prog ops Q (o :: rest) a w := by
  obtain ⟨D, h1, h2⟩ := hs
  refine wpList_delete_own w hg m x 73 3 hop 72 lawI Tryz.underlying73 hR b n D hm h1 _ _ hx (keyI p hp) ?_
  intro w' ho ht
  exact hK w' ⟨_, ho, h2.del p⟩ ht.grown
end
/-- block r ranges over the map in block b; 'left' is still to come -/
def Rg (w : World) (b r n : Nat) (T : Int → Option Hd) (left : Int → Bool) (cnt : Nat) : Prop := ∃ D leftD, w.ranges Tryz.prog 3 hR b r n D leftD cnt ∧ Rep D T ∧ ∀ p, leftD (.int .i64 p) = left p
theorem Rg.sc {w : World} {b r n cnt : Nat} {T : Int → Option Hd} {left : Int → Bool} (h : Rg w b r n T left cnt) : Sc w b n T := by
  obtain ⟨D, l, h1, h2, _⟩ := h
  exact ⟨D, h1.owns, h2⟩
theorem Rg.ne {w : World} {b r n cnt : Nat} {T : Int → Option Hd} {left : Int → Bool} (h : Rg w b r n T left cnt) : r ≠ b := by
  obtain ⟨D, l, h1, h2, _⟩ := h
  exact h1.ne
theorem Rg.lt {w : World} {b r n cnt : Nat} {T : Int → Option Hd} {left : Int → Bool} (h : Rg w b r n T left cnt) : r < w.heap.size := by
  obtain ⟨D, l, h1, h2, _⟩ := h
  exact h1.lt
theorem Rg.left_eq {w : World} {b r n cnt : Nat} {T : Int → Option Hd} {left : Int → Bool} (h : Rg w b r n T left cnt) : w.rangeLeft b r = cnt := by
  obtain ⟨D, l, h1, h2, _⟩ := h
  exact h1.left_eq
theorem Rg.kept {w w' : World} {b r n cnt : Nat} {T : Int → Option Hd} {left : Int → Bool} {row : Option Nat} (h : Rg w b r n T left cnt) (hg : w.grownBy w' row) (hb : some b ≠ row) (hr : some r ≠ row) : Rg w' b r n T left cnt := by
  obtain ⟨D, l, h1, h2, h3⟩ := h
  exact ⟨D, l, h1.kept hg hb hr, h2, h3⟩
theorem Rg.keep {w w' : World} {b r n cnt : Nat} {T : Int → Option Hd} {left : Int → Bool} (h : Rg w b r n T left cnt) (hb : Below w.heap.size w w') : Rg w' b r n T left cnt :=
  h.kept (row := none) ⟨hb.os, hb.tape, hb.output, hb.size, fun i hi _ => hb.block i hi⟩ (by simp) (by simp)
theorem strike_int (p q : Int) : (Lit.int .i64 q).sameKey (.int .i64 p) = decide (q = p) := by
  exact Bool.eq_iff_iff.2 (by simp [Lit.sameKey])
section
variable {ops : Array Oper} {rest : List Oper} {o : Oper} {a : Act} {Q : Exit → Act → World → Prop}
/-- 'range m' -/
theorem wpList_range_sc {w : World} (hg : o.guard = none) (m : Operand) (hop : o.op = Op.range 73 m) (b n : Nat) (T : Int → Option Hd) (hm : a.eval m = .map (some b)) (hs : Sc w b n T)
    (hK : ∀ w' cnt, Rg w' b w.heap.size n T (fun p => (T p).isSome) cnt → w.grownBy w' none → w'.heap.size = w.heap.size + 1 → wpList Tryz.prog ops Q rest (a.put o.dst (.pointer (some ⟨w.heap.size, 0, none⟩))) w') : wpList Tryz.prog ops Q (o :: rest) a w := by
  obtain ⟨D, h1, h2⟩ := hs
  refine wpList_range_own w hg m 73 hop 3 72 lawI Tryz.underlying73 hR b n D hm h1 ?_
  intro w' hr hgr hsz
  exact hK w' _ ⟨D, _, hr, h2, fun p => (h2 p).1⟩ hgr hsz
/-- the step -/
theorem wpList_next_sc {w : World} (hg : o.guard = none) (it : Operand) (hop : o.op = Op.next it false) (b r n : Nat) (T : Int → Option Hd) (left : Int → Bool) (cnt : Nat) (hit : a.eval it = .pointer (some ⟨r, 0, none⟩)) (h : Rg w b r n T left cnt)
    (hDone : cnt = 0 → (∀ q, left q = false) → wpList Tryz.prog ops Q rest (a.put o.dst (.tuple #[.bool false])) w)
    (hMore : ∀ (p : Int) (x : Hd) (w' : World) (cnt' : Nat), InI p → left p = true → T p = some x → Rg w' b r n T (fun q => left q && !decide (q = p)) cnt' → cnt' < cnt → w.grownBy w' (some r) → w'.heap.size = w.heap.size →
      (Instr.entry (.pointer (some ⟨r, 0, none⟩))).run Tryz.prog w' = .ok (.tuple #[.int .i64 p, hv x]) w' → wpList Tryz.prog ops Q rest (a.put o.dst (.tuple #[.bool true, .int .i64 p, hv x])) w') :
    wpList Tryz.prog ops Q (o :: rest) a w := by
  obtain ⟨D, l, h1, h2, h3⟩ := h
  refine wpList_next_ranges w hg it hop 3 lawI hR (fun p : Int => Value.int .i64 p) hv (fun key kl hk => ?_) (fun v y hy => ?_) b r n D l cnt hit h1 ?_ ?_
  · obtain ⟨p, e, _⟩ := keyI_inv hk
    exact ⟨p, e⟩
  · obtain ⟨x, e, _⟩ := hR_inv hy
    exact ⟨x, e⟩
  · intro h0 hl
    exact hDone h0 (fun q => by rw [← h3]; exact hl _)
  · intro p x kl y w' cnt' hkey hlk hvx hat hrg hlt hgr hsz hen
    obtain ⟨p', e1, rfl, hsz9⟩ := keyI_inv hkey
    have hpp : p' = p := (Value.int.inj e1).2.symm
    subst hpp
    obtain ⟨x', e2, rfl⟩ := hR_inv hvx
    have hT : T p' = some x := by
      have hs := (h2 p').1
      have hh : Maps.has D (.int .i64 p') = true := has_true_of_atKey (y := hD x') (fun z => hat z)
      rw [hh] at hs
      obtain ⟨x2, hx2⟩ := Option.isSome_iff_exists.1 hs.symm
      have := (h2 p').2 x2 hx2 (hD noH)
      rw [hat] at this
      have e3 := hD_inj this
      have e4 : x = x' := by
        have := hR_hv x
        rw [hvx] at this
        simp only [Option.some.injEq, Prod.mk.injEq, and_true] at this
        exact (hD_inj this).symm
      rw [hx2, ← e3, e4]
    refine hMore p' x w' cnt' hsz9 (by rw [← h3]; exact hlk) hT ⟨D, _, hrg, h2, fun q => ?_⟩ hlt hgr hsz hen
    rw [h3, strike_int]
/-- 'delete(m, k)' in the round -/
theorem wpList_del_rg {w : World} (hg : o.guard = none) (m x : Operand) (hop : o.op = Op.call { callee := Callee.builtin Builtin.delete, args := #[m, x], argTypes := #[73, 3] }) (b r n : Nat) (T : Int → Option Hd) (left : Int → Bool) (cnt : Nat) (hm : a.eval m = .map (some b)) (h : Rg w b r n T left cnt) (p : Int) (hp : InI p) (hx : a.eval x = .int .i64 p)
    (hK : ∀ w' cnt', Rg w' b r n (fun q => if q = p then none else T q) (fun q => left q && !decide (q = p)) cnt' → cnt' ≤ cnt → w.grownBy w' (some b) → wpList Tryz.prog ops Q rest (a.put o.dst (.tuple #[])) w') : wpList Tryz.prog ops Q (o :: rest) a w := by
  obtain ⟨D, l, h1, h2, h3⟩ := h
  have hkey : keyOf Tryz.prog 3 (.int .i64 p) = some (.int .i64 p) := keyI p hp
  refine wpList_delete_ranges w hg m x 73 3 hop 72 lawI Tryz.underlying73 hR b r n D l cnt hm h1 _ _ hx hkey ?_
  intro w' cnt' hr hle ht
  refine hK w' cnt' ⟨_, _, hr, h2.del p, fun q => ?_⟩ hle ht.grown
  rw [h3, strike_int]
end
end Go.Proofs.YtcindeechmpalaaGreat
namespace Go.Proofs.YtcindeechmpalaaGreat
open Go.ChangeShapes Go.WideShapes Go.ChangeAt Go.RowKit Go.Deep
set_option linter.unusedVariables false
/-- the cells of sixty-four noughts -/
def z64 : Array Value := (List.replicate 64 (Value.int .u8 0)).toArray
theorem infoB : ∃ i, Tryz.prog.info? 144 = some i ∧ i.zero = some (.agg z64) ∧ i.size = 64 ∧ i.bytes = 64 := info_parts (show (Tryz.prog.info? 144).map (fun i => (i.zero, i.size, i.bytes)) = some (some (.agg z64), 64, 64) by kernel_rfl)
/-- the cells of blocks -/
def bcs (B : List (List Int)) : List Value := B.flatten.map (Value.int .u8)
/-- each block has sixty-four bytes -/
def Is64 (B : List (List Int)) : Prop := ∀ x ∈ B, x.length = 64 ∧ IsBytes x
theorem flat_len : ∀ {B : List (List Int)}, Is64 B → B.flatten.length = B.length * 64
  | [], _ => rfl
  | x :: r, h => by
    rw [List.flatten_cons, List.length_append, (h x (by simp)).1, flat_len (fun y hy => h y (by simp [hy])), List.length_cons]
    omega
theorem flat_at : ∀ {B : List (List Int)}, Is64 B → ∀ (i k : Nat) (x : List Int), B[i]? = some x → k < 64 → B.flatten[i * 64 + k]? = x[k]?
  | [], _, i, k, x, h, _ => by simp at h
  | y :: r, hB, 0, k, x, h, hk => by
    simp at h
    subst h
    have := (hB y (by simp)).1
    rw [List.flatten_cons, Nat.zero_mul, Nat.zero_add, List.getElem?_append_left (by omega)]
  | y :: r, hB, i + 1, k, x, h, hk => by
    have hy := (hB y (by simp)).1
    have h' : r[i]? = some x := by simpa using h
    rw [List.flatten_cons, List.getElem?_append_right (by omega), hy, show (i + 1) * 64 + k - 64 = i * 64 + k by omega]
    exact flat_at (fun z hz => hB z (by simp [hz])) i k x h' hk
/-- a slice of blocks of one's own, from block 'base' on -/
def OwnB (w : World) (base : Nat) (v : Value) (B : List (List Int)) : Prop := w.ownsRow base 144 64 v B.length (bcs B)
theorem OwnB.nil (w : World) (base : Nat) : OwnB w base (.slice none 0 0) [] := World.ownsRow_nil _ _ _ _
theorem OwnB.own {w : World} {base : Nat} {v : Value} {B : List (List Int)} (h : OwnB w base v B) : ∀ k, v.ownBlock = some k → base ≤ k ∧ k < w.heap.size := fun k hk => World.ownsRow.lt h k hk
theorem OwnB.block {w w' : World} {base : Nat} {v : Value} {B : List (List Int)} (h : OwnB w base v B) (hb : ∀ k, v.ownBlock = some k → w'.heap[k]? = w.heap[k]?) : OwnB w' base v B := by
  refine ⟨h.1, ?_⟩
  rcases h.2 with h1 | ⟨g, cap, cur, rfl, hbg, hg, rest⟩
  · exact .inl h1
  · exact .inr ⟨g, cap, cur, rfl, hbg, (hb g rfl).trans hg, rest⟩
theorem OwnB.keep {w w' : World} {base : Nat} {v : Value} {B : List (List Int)} (h : OwnB w base v B) (hb : Below w.heap.size w w') : OwnB w' base v B := h.block fun k hk => hb.block k (h.own k hk).2
theorem OwnB.base {w : World} {a b : Nat} {v : Value} {B : List (List Int)} (h : OwnB w b v B) (hab : a ≤ b) : OwnB w a v B := by
  refine ⟨h.1, ?_⟩
  rcases h.2 with h1 | ⟨g, cap, cur, rfl, hbg, rest⟩
  · exact .inl h1
  · exact .inr ⟨g, cap, cur, rfl, Nat.le_trans hab hbg, rest⟩
/-- a byte of a block -/
theorem OwnB.cell {w : World} {base g n c : Nat} {B : List (List Int)} (h : OwnB w base (.slice (some ⟨g, 0, none⟩) n c) B) (h64 : Is64 B) (i k : Nat) (x : List Int) (hx : B[i]? = some x) (hk : k < 64) : w.cell? ⟨g, i * 64 + k, none⟩ = some (.int .u8 (x.getD k 0)) := by
  have hxl := (h64 x (List.mem_of_getElem? hx)).1
  have := World.ownsRow.cells h (g := g) rfl (i * 64 + k) (.int .u8 (x.getD k 0)) (by
    unfold bcs
    rw [List.getElem?_map, flat_at h64 i k x hx hk, List.getElem?_eq_getElem (by omega), List.getD_eq_getElem?_getD, List.getElem?_eq_getElem (by omega)]
    rfl)
  rw [add_plain, Nat.zero_add] at this
  exact this
/-- append(blocks, b) -/
theorem append_block {w : World} {ops : Array Oper} {rest : List Oper} {o : Oper} {act : Act} {Q : Exit → Act → World → Prop} (hgd : o.guard = none) (s x : Operand)
    (ho : o.op = .call { callee := .builtin .append, args := #[s, x], argTypes := #[72, 72] })
    (base : Nat) (v : Value) (B : List (List Int)) (hs : act.eval s = v) (hown : OwnB w base v B)
    (g c : Nat) (y : List Int) (hy : y.length = 64) (hx : act.eval x = .slice (some ⟨g, 0, none⟩) 1 c) (hc : w.heap[g]? = some (.cells (y.map (Value.int .u8)).toArray 144))
    (hN : B.length ≤ 1000000000) (hbase : base ≤ w.heap.size)
    (h : ∀ v' w', OwnB w' base v' (B ++ [y]) → w.grownBy w' v.ownBlock → wpList Tryz.prog ops Q rest (act.put o.dst v') w') :
    wpList Tryz.prog ops Q (o :: rest) act w := by
  obtain ⟨i, hi, hz, h1, h2⟩ := infoB
  refine wpList_append_own w hgd s x 72 ho base 144 i _ 64 64 Tryz.underlying72 hi hz h1 h2 rfl (by decide) v B.length _ hs hown ⟨g, 0, none⟩ 1 c (y.map (Value.int .u8)) hx (by rw [List.length_map, hy]) ?_ (by intro u hu; obtain ⟨z, _, rfl⟩ := List.mem_map.1 hu; rfl) (by simp only [maxLen]; omega) (by omega) hbase ?_
  · intro j u hu
    rw [add_plain, Nat.zero_add]
    simp only [World.cell?, hc]
    simpa using hu
  · intro v' w' hown' hg _
    refine h v' w' ?_ hg
    unfold OwnB
    rw [List.length_append]
    have : bcs (B ++ [y]) = bcs B ++ y.map (Value.int .u8) := by simp [bcs]
    rw [this]
    exact hown'
end Go.Proofs.YtcindeechmpalaaGreat
namespace Go.Proofs.YtcindeechmpalaaGreat
open Go.ChangeShapes Go.WideShapes Go.ChangeAt Go.RowKit Go.Deep Go.Maps
set_option linter.unusedVariables false
/-- block b is a disk: its durable blocks D, of each block's number the writes W that wait, whether it is up, how many were done, the fuse; all of it lies from block h on. N bounds how many numbers have writes. -/
def DkAt (w : World) (h b N : Nat) (D : List (List Int)) (W : Int → List (List Int)) (up : Bool) (done fuse : Int) : Prop :=
  ∃ (gd cd mb : Nat) (H : Int → Option Hd), h ≤ b ∧ h ≤ mb ∧
    w.heap[b]? = some (.cells #[.slice (some ⟨gd, 0, none⟩) D.length cd, .map (some mb), .bool up, .int .i64 done, .int .i64 fuse] 75) ∧
    OwnB w h (.slice (some ⟨gd, 0, none⟩) D.length cd) D ∧ Is64 D ∧ Sc w mb N H ∧
    (∀ i, H i = none ↔ W i = []) ∧
    (∀ i x, H i = some x → InI i ∧ (∃ g c, x = (g + 1, (W i).length, c) ∧ g ≠ gd) ∧ OwnB w h (hv x) (W i) ∧ Is64 (W i)) ∧
    (∀ i j x y, i ≠ j → H i = some x → H j = some y → x.1 ≠ y.1)
set_option maxHeartbeats 4000000 in
theorem mayHave_is (n : Int) (w : World) : Calls Tryz.prog 35 #[.int .i64 n] w fun e w' => e = .returned (.bool (decide (1 ≤ n ∧ n ≤ 4096))) ∧ w' = w := by
  by_cases h1 : 1 ≤ n
  · by_cases h2 : n ≤ 4096
    · have e1 : decide (1 ≤ n) = true := by simpa using h1
      have e2 : decide (n ≤ 4096) = true := by simpa using h2
      rw [decide_eq_true (⟨h1, h2⟩ : 1 ≤ n ∧ n ≤ 4096)]
      go_enter Tryz.func35, Tryz.ntmps35
      go_wp2_with fail
      go_ret
      exact ⟨rfl, rfl⟩
    · have e1 : decide (1 ≤ n) = true := by simpa using h1
      have e2 : decide (n ≤ 4096) = false := by simpa using h2
      rw [decide_eq_false (fun h : 1 ≤ n ∧ n ≤ 4096 => h2 h.2)]
      go_enter Tryz.func35, Tryz.ntmps35
      go_wp2_with fail
      go_ret
      exact ⟨rfl, rfl⟩
  · have e1 : decide (1 ≤ n) = false := by simpa using h1
    rw [decide_eq_false (fun h : 1 ≤ n ∧ n ≤ 4096 => h1 h.1)]
    go_enter Tryz.func35, Tryz.ntmps35
    go_wp2_with fail
    go_ret
    exact ⟨rfl, rfl⟩
/-- noughts alone -/
def nought : List Int := List.replicate 64 0
def noughts (n : Nat) : List (List Int) := List.replicate n nought
theorem noughts_64 (n : Nat) : Is64 (noughts n) := fun x hx => by
  rw [(List.mem_replicate.1 hx).2]
  exact ⟨by simp [nought], bytes_of_mem fun y hy => by rw [(List.mem_replicate.1 hy).2]; omega⟩
theorem noughts_flat (n : Nat) : (noughts n).flatten = List.replicate (n * 64) 0 := by
  unfold noughts nought
  rw [List.flatten_replicate_replicate]
theorem z64_at (i : Nat) (h : i < z64.size) : z64[i] = Value.int .u8 0 := by
  simp only [z64, List.getElem_toArray, List.getElem_replicate]
theorem made64 (n : Nat) : madeCells z64 (n * 64) = ((List.replicate (n * 64) (0 : Int)).map (Value.int .u8)).toArray := by
  apply Array.ext'
  simp only [madeCells]
  rw [List.map_replicate, List.eq_replicate_iff]
  refine ⟨by simp, fun b hb => ?_⟩
  simp at hb
  obtain ⟨x, _, rfl⟩ := hb
  have h64 : z64.size = 64 := by simp [z64]
  have hx : x % z64.size < z64.size := Nat.mod_lt _ (by rw [h64]; omega)
  rw [getElem!_pos z64 _ hx]
  exact z64_at _ hx
theorem ownB_made (w : World) (n : Nat) (hn : n ≤ 4096) : OwnB (w.alloc (.cells (madeCells z64 (n * 64)) 144)) w.heap.size (.slice (some ⟨w.heap.size, 0, none⟩) n n) (noughts n) := by
  have hl : (noughts n).length = n := by simp [noughts]
  unfold OwnB bcs
  rw [hl, noughts_flat, made64]
  refine ⟨by simp, .inr ⟨w.heap.size, n, _, rfl, Nat.le_refl _, heap_alloc_new w _, Nat.le_refl _, by simp only [maxLen]; omega, by simp, ?_⟩⟩
  simp
theorem sc_none (w : World) (o : Obj) : Sc ((w.alloc (.map #[] 0)).alloc o) w.heap.size 0 (fun _ => none) := (Sc.empty w).keep ((Below.refl _ _).alloc (Nat.le_refl _) _)
set_option maxHeartbeats 4000000 in
theorem fresh_is (g n c : Nat) (D : List (List Int)) (h : Nat) (hn : D.length = n) (w : World) (hD : OwnB w h (.slice (some ⟨g, 0, none⟩) n c) D) (h64 : Is64 D) (hh : h ≤ w.heap.size) :
    Calls Tryz.prog 36 #[.slice (some ⟨g, 0, none⟩) n c] w fun e w' => ∃ b, e = .returned (.pointer (some ⟨b, 0, none⟩)) ∧ DkAt w' h b 0 D (fun _ => []) true 0 (-1) ∧ Below w.heap.size w w' := by
  have hmk : (Instr.makeMap 73 none).run Tryz.prog w = .ok (.map (some w.heap.size)) (w.alloc (.map #[] 0)) := rfl
  have HD : Hid (OwnB w h (.slice (some ⟨g, 0, none⟩) n c) D) := hD
  have H6 : Hid (Is64 D) := h64
  have HN : Hid (D.length = n) := hn
  clear hD h64 hn
  go_enter Tryz.func36, Tryz.ntmps36
  go_wp2_with fail
  go_ret
  have hb : Below w.heap.size w ((w.alloc (.map #[] 0)).alloc (.cells #[.slice (some ⟨g, 0, none⟩) n c, .map (some w.heap.size), .bool true, .int .i64 0, .int .i64 (-1)] 75)) := ((Below.refl _ _).alloc (Nat.le_refl _) _).alloc (by simp) _
  refine ⟨w.heap.size + 1, rfl, ⟨g, c, w.heap.size, fun _ => none, by omega, hh, ?_, ?_, H6.out, sc_none w _, (fun i => by simp), (fun i x hx => by cases hx), (fun i j x y _ hx => by cases hx)⟩, hb⟩
  · have := heap_alloc_new (w.alloc (.map #[] 0)) (.cells #[.slice (some ⟨g, 0, none⟩) n c, .map (some w.heap.size), .bool true, .int .i64 0, .int .i64 (-1)] 75)
    rw [show (w.alloc (.map #[] 0)).heap.size = w.heap.size + 1 by simp] at this
    rw [HN.out]
    exact this
  · rw [HN.out]
    exact HD.out.keep hb
set_option maxHeartbeats 4000000 in
theorem new_bad (n : Int) (hn : ¬ (1 ≤ n ∧ n ≤ 4096)) (w : World) : Calls Tryz.prog 9 #[.int .i64 n] w fun e w' => e = .returned (.tuple #[.pointer none, .int .i64 2]) ∧ w' = w := by
  have K : Hid (Calls Tryz.prog 35 #[.int .i64 n] w fun e w' => e = .returned (.bool false) ∧ w' = w) := by
    have := mayHave_is n w
    rw [decide_eq_false hn] at this
    exact this
  go_enter Tryz.func9, Tryz.ntmps9
  go_wp2_with fail
  refine K.out.mono ?_
  rintro e w1 ⟨rfl, hw⟩
  obtain rfl := hw.symm
  go_wp2_with fail
  go_ret2
  exact ⟨rfl, rfl⟩
set_option maxHeartbeats 4000000 in
theorem new_is (n : Nat) (h1 : 1 ≤ n) (h2 : n ≤ 4096) (w : World) : Calls Tryz.prog 9 #[.int .i64 (n : Int)] w fun e w' => ∃ b, e = .returned (.tuple #[.pointer (some ⟨b, 0, none⟩), .int .i64 0]) ∧ DkAt w' w.heap.size b 0 (noughts n) (fun _ => []) true 0 (-1) ∧ Below w.heap.size w w' := by
  have K : Hid (Calls Tryz.prog 35 #[.int .i64 (n : Int)] w fun e w' => e = .returned (.bool true) ∧ w' = w) := by
    have := mayHave_is n w
    rw [decide_eq_true (by omega)] at this
    exact this
  have hmk : (Instr.makeSlice 72 (.int .i64 (n : Int)) (.int .i64 (n : Int))).run Tryz.prog w = .ok (.slice (some ⟨w.heap.size, 0, none⟩) n n) (w.alloc (.cells (madeCells z64 (n * 64)) 144)) := by
    obtain ⟨i, hi, hz, hs, hb⟩ := infoB
    have := run_make (P := Tryz.prog) w 72 144 i _ Tryz.underlying72 hi hz .i64 .i64 (n : Int) (n : Int) (by omega) (Int.le_refl _) (by rw [hb]; omega) (by omega)
    rw [hs] at this
    simpa [show (Value.agg z64).cells = z64 from rfl] using this
  have KF : Hid (Calls Tryz.prog 36 #[.slice (some ⟨w.heap.size, 0, none⟩) n n] (w.alloc (.cells (madeCells z64 (n * 64)) 144)) fun e w' => ∃ b, e = .returned (.pointer (some ⟨b, 0, none⟩)) ∧ DkAt w' w.heap.size b 0 (noughts n) (fun _ => []) true 0 (-1) ∧ Below (w.alloc (.cells (madeCells z64 (n * 64)) 144)).heap.size (w.alloc (.cells (madeCells z64 (n * 64)) 144)) w') := fresh_is w.heap.size n n (noughts n) w.heap.size (by simp [noughts]) _ (ownB_made w n h2) (noughts_64 n) (by simp)
  have B0 : Hid (Below w.heap.size w (w.alloc (.cells (madeCells z64 (n * 64)) 144))) := (Below.refl _ _).alloc (Nat.le_refl _) _
  generalize madeCells z64 (n * 64) = mc at *
  go_enter Tryz.func9, Tryz.ntmps9
  go_wp2_with fail
  refine K.out.mono ?_
  rintro e w1 ⟨rfl, hw⟩
  obtain rfl := hw.symm
  clear hw K
  go_wp2_with fail
  refine KF.out.mono ?_
  rintro e w2 ⟨b, rfl, hd, hb2⟩
  have HD : Hid (DkAt w2 w.heap.size b 0 (noughts n) (fun _ => []) true 0 (-1)) := hd
  have B2 : Hid (Below w.heap.size w w2) := B0.out.trans (hb2.mono B0.out.size)
  clear hd hb2 KF
  go_wp2_with fail
  go_ret2
  exact ⟨b, rfl, HD.out, B2.out⟩
end Go.Proofs.YtcindeechmpalaaGreat
namespace Go.Proofs.YtcindeechmpalaaGreat
open Go.ChangeShapes Go.WideShapes Go.ChangeAt Go.RowKit Go.Deep Go.Maps
set_option linter.unusedVariables false
/-- the five cells of a disk -/
def D5 (w : World) (b g n c mb : Nat) (up : Bool) (done fuse : Int) : Prop :=
  w.cell? ⟨b, 0, none⟩ = some (.slice (some ⟨g, 0, none⟩) n c) ∧ w.cell? ⟨b, 1, none⟩ = some (.map (some mb)) ∧ w.cell? ⟨b, 2, none⟩ = some (.bool up) ∧ w.cell? ⟨b, 3, none⟩ = some (.int .i64 done) ∧ w.cell? ⟨b, 4, none⟩ = some (.int .i64 fuse)
theorem d5_of {w : World} {b g n c mb : Nat} {up : Bool} {done fuse : Int} {t : TypeId} (h : w.heap[b]? = some (.cells #[.slice (some ⟨g, 0, none⟩) n c, .map (some mb), .bool up, .int .i64 done, .int .i64 fuse] t)) : D5 w b g n c mb up done fuse := by
  refine ⟨?_, ?_, ?_, ?_, ?_⟩ <;> simp [World.cell?, h]
set_option maxHeartbeats 4000000 in
theorem isNone_not (w : World) (b g n c mb : Nat) (up : Bool) (done fuse : Int) (hn : 1 ≤ n) (h : D5 w b g n c mb up done fuse) : Calls Tryz.prog 51 #[.pointer (some ⟨b, 0, none⟩)] w fun e w' => e = .returned (.bool false) ∧ w' = w := by
  obtain ⟨c0, c1, c2, c3, c4⟩ := h
  have e1 : ((n : Int) == 0) = false := by rw [beq_eq_false_iff_ne]; omega
  go_enter Tryz.func51, Tryz.ntmps51
  go_wp2_with fail
  go_ret
  exact ⟨rfl, rfl⟩
/-- what speaks against any use of it -/
def rdy (up : Bool) : Int := if up then 0 else 15
def rdyAt (up : Bool) (n : Nat) (i : Int) : Int := if up then (if 0 ≤ i ∧ i < n then 0 else 2) else 15
set_option maxHeartbeats 4000000 in
theorem ready_is (w : World) (b g n c mb : Nat) (up : Bool) (done fuse : Int) (hn : 1 ≤ n) (h : D5 w b g n c mb up done fuse) : Calls Tryz.prog 50 #[.pointer (some ⟨b, 0, none⟩)] w fun e w' => e = .returned (.int .i64 (rdy up)) ∧ w' = w := by
  have K : Hid (Calls Tryz.prog 51 #[.pointer (some ⟨b, 0, none⟩)] w fun e w' => e = .returned (.bool false) ∧ w' = w) := isNone_not w b g n c mb up done fuse hn h
  obtain ⟨c0, c1, c2, c3, c4⟩ := h
  cases up
  · go_enter Tryz.func50, Tryz.ntmps50
    go_wp2_with fail
    refine K.out.mono ?_
    rintro e w1 ⟨rfl, rfl⟩
    go_wp2_with fail
    go_ret
    exact ⟨rfl, rfl⟩
  · go_enter Tryz.func50, Tryz.ntmps50
    go_wp2_with fail
    refine K.out.mono ?_
    rintro e w1 ⟨rfl, rfl⟩
    go_wp2_with fail
    go_ret
    exact ⟨rfl, rfl⟩
set_option maxHeartbeats 4000000 in
theorem readyAt_is (w : World) (b g n c mb : Nat) (up : Bool) (done fuse : Int) (hn : 1 ≤ n) (h : D5 w b g n c mb up done fuse) (i : Int) : Calls Tryz.prog 126 #[.pointer (some ⟨b, 0, none⟩), .int .i64 i] w fun e w' => e = .returned (.int .i64 (rdyAt up n i)) ∧ w' = w := by
  have K : Hid (Calls Tryz.prog 50 #[.pointer (some ⟨b, 0, none⟩)] w fun e w' => e = .returned (.int .i64 (rdy up)) ∧ w' = w) := ready_is w b g n c mb up done fuse hn h
  obtain ⟨c0, c1, c2, c3, c4⟩ := h
  cases up
  · have K : Hid (Calls Tryz.prog 50 #[.pointer (some ⟨b, 0, none⟩)] w fun e w' => e = .returned (.int .i64 15) ∧ w' = w) := K.out
    go_enter Tryz.func126, Tryz.ntmps126
    go_wp2_with fail
    refine K.out.mono ?_
    rintro e w1 ⟨rfl, rfl⟩
    go_wp2_with fail
    go_ret
    exact ⟨rfl, rfl⟩
  · have K : Hid (Calls Tryz.prog 50 #[.pointer (some ⟨b, 0, none⟩)] w fun e w' => e = .returned (.int .i64 0) ∧ w' = w) := K.out
    by_cases h1 : i < 0
    · rw [show rdyAt true n i = 2 by simp [rdyAt]; omega]
      have e1 : decide (i < 0) = true := by simpa using h1
      go_enter Tryz.func126, Tryz.ntmps126
      go_wp2_with fail
      refine K.out.mono ?_
      rintro e w1 ⟨rfl, rfl⟩
      go_wp2_with fail
      go_ret
      exact ⟨rfl, rfl⟩
    · have e1 : decide (i < 0) = false := by simpa using h1
      by_cases h2 : (n : Int) ≤ i
      · rw [show rdyAt true n i = 2 by simp [rdyAt]; omega]
        have e2 : decide ((n : Int) ≤ i) = true := by simpa using h2
        go_enter Tryz.func126, Tryz.ntmps126
        go_wp2_with fail
        refine K.out.mono ?_
        rintro e w1 ⟨rfl, rfl⟩
        go_wp2_with fail
        go_ret
        exact ⟨rfl, rfl⟩
      · rw [show rdyAt true n i = 0 by simp [rdyAt]; omega]
        have e2 : decide ((n : Int) ≤ i) = false := by simpa using h2
        go_enter Tryz.func126, Tryz.ntmps126
        go_wp2_with fail
        refine K.out.mono ?_
        rintro e w1 ⟨rfl, rfl⟩
        go_wp2_with fail
        go_ret
        exact ⟨rfl, rfl⟩
set_option maxHeartbeats 4000000 in
theorem blocks_is (w : World) (b g n c mb : Nat) (up : Bool) (done fuse : Int) (hn : 1 ≤ n) (h : D5 w b g n c mb up done fuse) : Calls Tryz.prog 70 #[.pointer (some ⟨b, 0, none⟩)] w fun e w' => e = .returned (.int .i64 n) ∧ w' = w := by
  have K : Hid (Calls Tryz.prog 51 #[.pointer (some ⟨b, 0, none⟩)] w fun e w' => e = .returned (.bool false) ∧ w' = w) := isNone_not w b g n c mb up done fuse hn h
  obtain ⟨c0, c1, c2, c3, c4⟩ := h
  go_enter Tryz.func70, Tryz.ntmps70
  go_wp2_with fail
  refine K.out.mono ?_
  rintro e w1 ⟨rfl, rfl⟩
  go_wp2_with fail
  go_ret
  exact ⟨rfl, rfl⟩
set_option maxHeartbeats 4000000 in
theorem done_is (w : World) (b g n c mb : Nat) (up : Bool) (done fuse : Int) (hn : 1 ≤ n) (h : D5 w b g n c mb up done fuse) : Calls Tryz.prog 57 #[.pointer (some ⟨b, 0, none⟩)] w fun e w' => e = .returned (.int .i64 done) ∧ w' = w := by
  have K : Hid (Calls Tryz.prog 51 #[.pointer (some ⟨b, 0, none⟩)] w fun e w' => e = .returned (.bool false) ∧ w' = w) := isNone_not w b g n c mb up done fuse hn h
  obtain ⟨c0, c1, c2, c3, c4⟩ := h
  go_enter Tryz.func57, Tryz.ntmps57
  go_wp2_with fail
  refine K.out.mono ?_
  rintro e w1 ⟨rfl, rfl⟩
  go_wp2_with fail
  go_ret
  exact ⟨rfl, rfl⟩
set_option maxHeartbeats 4000000 in
theorem up_is (w : World) (b g n c mb : Nat) (up : Bool) (done fuse : Int) (hn : 1 ≤ n) (h : D5 w b g n c mb up done fuse) : Calls Tryz.prog 34 #[.pointer (some ⟨b, 0, none⟩)] w fun e w' => e = .returned (.bool up) ∧ w' = w := by
  have K : Hid (Calls Tryz.prog 50 #[.pointer (some ⟨b, 0, none⟩)] w fun e w' => e = .returned (.int .i64 (rdy up)) ∧ w' = w) := ready_is w b g n c mb up done fuse hn h
  have E : (rdy up == 0) = up := by cases up <;> rfl
  obtain ⟨c0, c1, c2, c3, c4⟩ := h
  go_enter Tryz.func34, Tryz.ntmps34
  go_wp2_with fail
  refine K.out.mono ?_
  rintro e w1 ⟨rfl, rfl⟩
  go_wp2_with fail
  go_ret
  exact ⟨rfl, rfl⟩
end Go.Proofs.YtcindeechmpalaaGreat
