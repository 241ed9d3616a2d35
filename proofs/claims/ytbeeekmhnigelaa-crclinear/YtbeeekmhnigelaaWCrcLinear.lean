/- The walk of CrcLinear. -/
import Derived.Test.YtbeeekmhnigelaaCrcA
import Derived.Deep.RegionWith
import Derived.Deep.RegionHeld3
namespace Go.Proofs.Ytbeeekmhnigelaa
open Go.ChangeShapes Go.WideShapes Go.ChangeAt Go.RowKit Go.Deep
set_option linter.unusedVariables false
theorem heap_setCell_own (w : World) (b i : Nat) (cs : Array Value) (t : TypeId) (fr : Nat × Nat) (h : w.heap[b]? = some (.cells cs t fr)) (v : Value) : (w.setCell ⟨b, i, none⟩ v).heap[b]? = some (.cells (cs.setIfInBounds i v) t fr) := by
  simp [World.setCell, Array.getElem?_modify, h]
/-- the first c places of what three rows come to, the others 0 -/
def xC (A B C : List Int) (n c : Nat) : Array Value := (Array.range n).map fun i => .int .u8 (if i < c then (((A.getD i 0).toNat ^^^ (B.getD i 0).toNat ^^^ (C.getD i 0).toNat : Nat) : Int) else 0)
theorem xC_size (A B C : List Int) (n c : Nat) : (xC A B C n c).size = n := by simp [xC]
theorem xC_get (A B C : List Int) (n c i : Nat) (h : i < n) : (xC A B C n c)[i]? = some (.int .u8 (if i < c then (((A.getD i 0).toNat ^^^ (B.getD i 0).toNat ^^^ (C.getD i 0).toNat : Nat) : Int) else 0)) := by
  rw [Array.getElem?_eq_getElem (by rw [xC_size]; exact h)]
  simp [xC]
theorem xC_step (A B C : List Int) (n c : Nat) (h : c < n) : (xC A B C n c).setIfInBounds c (.int .u8 (((A.getD c 0).toNat ^^^ (B.getD c 0).toNat ^^^ (C.getD c 0).toNat : Nat) : Int)) = xC A B C n (c + 1) := by
  apply Array.ext
  · simp [xC]
  · intro i h1 h2
    simp only [Array.size_setIfInBounds, xC_size] at h1
    rw [Array.getElem_setIfInBounds (by rw [xC_size]; exact h1)]
    simp only [xC, Array.getElem_map, Array.getElem_range]
    by_cases e : c = i
    · subst e; simp
    · rw [if_neg e]
      congr 1
      by_cases hi : i < c
      · rw [if_pos hi, if_pos (by omega)]
      · rw [if_neg hi, if_neg (by omega)]
theorem xC_zero (A B C : List Int) (n : Nat) : madeCells #[.int .u8 0] n = xC A B C n 0 := by
  apply Array.ext
  · simp [madeCells, xC]
  · intro i h1 h2
    simp [madeCells, xC, Nat.mod_one]
theorem xC_holds (A B C : List Int) (n : Nat) (w : World) (b : Nat) (h : w.heap[b]? = some (.cells (xC A B C n n) 5)) : Holds w (some ⟨b, 0, none⟩) (x3 A B C n) := by
  refine .inr ⟨b, 0, rfl, fun i hi => ?_⟩
  rw [x3_length] at hi
  rw [Nat.zero_add, cell_of_row _ _ i _ _ (0, 0) h, xC_get A B C n n i hi, if_pos hi]
  simp [x3, List.getD, hi]
theorem x3_bytes (A B C : List Int) (n : Nat) (ha : IsBytes A) (hb : IsBytes B) (hc : IsBytes C) (la : n ≤ A.length) (lb : n ≤ B.length) (lc : n ≤ C.length) : ∀ x ∈ x3 A B C n, 0 ≤ x ∧ x ≤ 255 := by
  intro x hx
  simp only [x3, List.mem_map, List.mem_range] at hx
  obtain ⟨i, hi, rfl⟩ := hx
  have h1 := ha i (by omega)
  have h2 := hb i (by omega)
  have h3 := hc i (by omega)
  have := byte_xor (byte_xor (show (A.getD i 0).toNat ≤ 255 by omega) (show (B.getD i 0).toNat ≤ 255 by omega)) (show (C.getD i 0).toNat ≤ 255 by omega)
  omega
theorem x3_take (A B C : List Int) (n : Nat) : x3 (A.take n) (B.take n) (C.take n) n = x3 A B C n := by
  unfold x3
  apply List.map_congr_left
  intro i hi
  rw [List.mem_range] at hi
  simp [List.getD, hi]
theorem xor3_int (x y z : Int) (hx : 0 ≤ x ∧ x ≤ 255) (hy : 0 ≤ y ∧ y ≤ 255) (hz : 0 ≤ z ∧ z ≤ 255) : bits .xor .u8 (bits .xor .u8 x y) z = ((x.toNat ^^^ y.toNat ^^^ z.toNat : Nat) : Int) := by
  rw [u8_xor x y hx.1 (by omega) hy.1 (by omega)]
  have := byte_xor (show x.toNat ≤ 255 by omega) (show y.toNat ≤ 255 by omega)
  rw [u8_xor _ z (by omega) (by omega) hz.1 (by omega), Int.toNat_natCast]
theorem run_min4 (ts : Array TypeId) (t : TypeId) (x y z u : Nat) (w : World) : (Builtin.min_ ts t #[.int .i64 x, .int .i64 y, .int .i64 z, .int .i64 u]).run Try.prog w = .ok (.int .i64 ((min (min (min x y) z) u : Nat) : Int)) w := by
  have h2 : ∀ p q : Nat, (Builtin.min2 (.int .i64 p) (.int .i64 q)).run Try.prog w = .ok (.int .i64 ((min p q : Nat) : Int)) w := by
    intro p q
    have e : (if q < p then (q : Int) else p) = ((min p q : Nat) : Int) := by split <;> omega
    simp [Builtin.min2, e]
  simp only [Builtin.min_, List.foldlM_cons, List.foldlM_nil, Sem.run_bind, h2, Result.andThen_ok, Sem.run_pure]
set_option maxHeartbeats 1000000 in
theorem crcLinear_walk (a : Option Addr) (la ca : Nat) (za : List Int) (b : Option Addr) (lb cb : Nat) (zb : List Int) (c : Option Addr) (lc cc : Nat) (zc : List Int) (w : World) (w0 : IsRow .u8 w a la ca za) (w1 : IsRow .u8 w b lb cb zb) (w2 : IsRow .u8 w c lc cc zc) :
    Calls Try.prog 8 #[.slice a la ca, .slice b lb cb, .slice c lc cc] w fun e w' => e = .returned (.bool true) ∧ Below w.heap.size w w' := by
  obtain ⟨A, _, hla, hha, hba, hna, _, hta, hlca, hcma⟩ := w0.holds
  obtain ⟨B, _, hlb, hhb, hbb, hnb, _, htb, hlcb, hcmb⟩ := w1.holds
  obtain ⟨C, _, hlc, hhc, hbc, hnc, _, htc, hlcc, hcmc⟩ := w2.holds
  have HA : Hid (∀ W, Below w.heap.size w W → Holds W a A) := fun W h => hha.below h hta
  have HB : Hid (∀ W, Below w.heap.size w W → Holds W b B) := fun W h => hhb.below h htb
  have HC : Hid (∀ W, Below w.heap.size w W → Holds W c C) := fun W h => hhc.below h htc
  have IA : Hid (IsBytes A) := hba
  have IB : Hid (IsBytes B) := hbb
  have IC : Hid (IsBytes C) := hbc
  have TA : Hid (∀ x, a = some x → A ≠ [] → x.block < w.heap.size) := hta
  have TB : Hid (∀ x, b = some x → B ≠ [] → x.block < w.heap.size) := htb
  have TC : Hid (∀ x, c = some x → C ≠ [] → x.block < w.heap.size) := htc
  clear w0 w1 w2 hha hhb hhc hba hbb hbc hna hnb hnc hta htb htc
  obtain ⟨n, hn⟩ : ∃ n, n = min (min (min la lb) lc) 2000 := ⟨_, rfl⟩
  have hmin := run_min4 #[3, 3, 3, 3] 3 la lb lc 2000 w
  rw [← hn] at hmin
  have hmin' : (Builtin.min_ #[3, 3, 3, 3] 3 #[.int .i64 la, .int .i64 lb, .int .i64 lc, .int .i64 2000]).run Try.prog w = .ok (.int .i64 n) w := hmin
  have na : n ≤ la := by omega
  have nb : n ≤ lb := by omega
  have nc : n ≤ lc := by omega
  have n2 : n ≤ 2000 := by omega
  clear hmin hn
  have hmk := run_make_row' (P := Try.prog) 22 5 (.int .u8 0) 1 Try.underlying22 info8 rfl .i64 .i64 n (by omega) (by omega)
  obtain ⟨N, hN⟩ : ∃ N, N = w.heap.size := ⟨_, rfl⟩
  rw [xC_zero A B C n] at hmk
  go_enter Try.func8, Try.ntmps8
  go_wp2_with fail
  rw [← hN]
  have HN : Hid (N = w.heap.size) := hN
  clear hN hmin' hmk
  go_loopg [20] n (fun g i wr => ∃ k : Nat, k ≤ n ∧ g = n - k ∧ i = .int .i64 k ∧ Below N w wr ∧ wr.heap[N]? = some (.cells (xC A B C n k) 5))
  case atStart => exact ⟨0, Nat.zero_le _, rfl, rfl, (Below.refl _ _).alloc (Nat.le_of_eq HN.out) _, by rw [HN.out]; exact heap_alloc_last w _⟩
  case round =>
    obtain ⟨k, hk, rfl, rfl, hbel, h0⟩ := hrel
    have hbelw : Below w.heap.size w wr := by rw [← HN.out]; exact hbel
    by_cases hlt : k < n
    · obtain ⟨ba, oa, rfl, hca⟩ : ∃ b off, a = some ⟨b, off, none⟩ ∧ ∀ i, i < A.length → wr.cell? ⟨b, off + i, none⟩ = some (.int .u8 (A.getD i 0)) := by
        rcases HA.out wr hbelw with h | h
        · subst h; simp at hla; omega
        · exact h
      obtain ⟨bb, ob, rfl, hcb⟩ : ∃ b' off, b = some ⟨b', off, none⟩ ∧ ∀ i, i < B.length → wr.cell? ⟨b', off + i, none⟩ = some (.int .u8 (B.getD i 0)) := by
        rcases HB.out wr hbelw with h | h
        · subst h; simp at hlb; omega
        · exact h
      obtain ⟨bc, oc, rfl, hcc⟩ : ∃ b' off, c = some ⟨b', off, none⟩ ∧ ∀ i, i < C.length → wr.cell? ⟨b', off + i, none⟩ = some (.int .u8 (C.getD i 0)) := by
        rcases HC.out wr hbelw with h | h
        · subst h; simp at hlc; omega
        · exact h
      have xa := hca k (by omega)
      have xb := hcb k (by omega)
      have xc := hcc k (by omega)
      have ia := IA.out k (by omega)
      have ib := IB.out k (by omega)
      have ic := IC.out k (by omega)
      have XS : Hid ((xC A B C n k).setIfInBounds k (.int .u8 (((A.getD k 0).toNat ^^^ (B.getD k 0).toNat ^^^ (C.getD k 0).toNat : Nat) : Int)) = xC A B C n (k + 1)) := xC_step A B C n k hlt
      have x3 := xor3_int _ _ _ ia ib ic
      have la0 : A ≠ [] := by intro h; rw [h] at hla; simp at hla; omega
      have lb0 : B ≠ [] := by intro h; rw [h] at hlb; simp at hlb; omega
      have lc0 : C ≠ [] := by intro h; rw [h] at hlc; simp at hlc; omega
      have ta : ba < N := by rw [HN.out]; exact TA.out ⟨ba, oa, none⟩ rfl la0
      have tb : bb < N := by rw [HN.out]; exact TB.out ⟨bb, ob, none⟩ rfl lb0
      have tc : bc < N := by rw [HN.out]; exact TC.out ⟨bc, oc, none⟩ rfl lc0
      have cN : wr.drew.cell? ⟨N, k, none⟩ = some (.int .u8 0) := by
        rw [cell_of_row (wr.drew) N k _ _ (0, 0) h0, xC_get A B C n k k hlt, if_neg (Nat.lt_irrefl k)]
      have fz : wr.drew.frozen? ⟨N, k, none⟩ = false := by
        have h0' : wr.drew.heap[N]? = some (.cells (xC A B C n k) 5) := h0
        simp only [World.frozen?, h0']; simp
      have CN : Hid (wr.drew.cell? ⟨N, k, none⟩ = some (.int .u8 0) ∧ wr.drew.frozen? ⟨N, k, none⟩ = false) := ⟨cN, fz⟩
      clear hca hcb hcc ia ib ic la0 lb0 lc0 cN fz
      generalize A.getD k 0 = x at *
      generalize B.getD k 0 = y at *
      generalize C.getD k 0 = z at *
      have b1 : (k : Int) < la := by omega
      have b2 : (k : Int) < lb := by omega
      have b3 : (k : Int) < lc := by omega
      have b4 : (k : Int) < n := by omega
      go_wp2_with fail
      refine wp_region_noPanic ?_
      refine wp_region_held_drew (S := (fun W : World => W.cell? ⟨ba, oa + k, none⟩ = some (.int .u8 x) ∧ W.cell? ⟨bb, ob + k, none⟩ = some (.int .u8 y) ∧ W.cell? ⟨bc, oc + k, none⟩ = some (.int .u8 z))) (by kernel_rfl) ?hSa (fun hHeld => ?resta)
      case hSa => exact ⟨xa, xb, xc⟩
      case resta =>
        refine wpAnyH_take (i := 0) (v := ?v0) rfl (by kernel_rfl) (by kernel_rfl) (by kernel_rfl) (fun _ _ _ h => h) (Or.inl ⟨by rfl, ?hy0⟩) hHeld ?rest0
        case hy0 => (intro w hSw; (try dsimp only at hSw); go_simp; try with_reducible rfl)
        try simp only [Act.put, List.setIfInBounds_toArray, List.set_cons_zero, List.set_cons_succ, List.getElem_toArray, List.getElem_cons_zero]
        refine wpAnyH_take (i := 1) (v := ?v1) rfl (by kernel_rfl) (by kernel_rfl) (by kernel_rfl) (fun _ _ _ h => h) (Or.inl ⟨by rfl, ?hy1⟩) hHeld ?rest1
        case hy1 => (intro w hSw; (try dsimp only at hSw); go_simp; try with_reducible rfl)
        try simp only [Act.put, List.setIfInBounds_toArray, List.set_cons_zero, List.set_cons_succ, List.getElem_toArray, List.getElem_cons_zero, List.getElem_cons_succ]
        refine wpAnyH_take (i := 2) (v := ?v2) rfl (by kernel_rfl) (by kernel_rfl) (by kernel_rfl) (fun _ _ _ h => h) (Or.inl ⟨by rfl, ?hy2⟩) hHeld ?rest2
        case hy2 => (intro w hSw; (try dsimp only at hSw); go_simp; try with_reducible rfl)
        try simp only [Act.put, List.setIfInBounds_toArray, List.set_cons_zero, List.set_cons_succ, List.getElem_toArray, List.getElem_cons_zero, List.getElem_cons_succ]
        refine wpAnyH_take (i := 3) (v := ?v3) rfl (by kernel_rfl) (by kernel_rfl) (by kernel_rfl) (fun _ _ _ h => h) (Or.inl ⟨by rfl, ?hy3⟩) hHeld ?rest3
        case hy3 => (intro w hSw; (try dsimp only at hSw); go_simp; try with_reducible rfl)
        try simp only [Act.put, List.setIfInBounds_toArray, List.set_cons_zero, List.set_cons_succ, List.getElem_toArray, List.getElem_cons_zero, List.getElem_cons_succ]
        refine wpAnyH_take (i := 4) (v := ?v4) rfl (by kernel_rfl) (by kernel_rfl) (by kernel_rfl) (fun _ _ _ h => h) (Or.inl ⟨by rfl, ?hy4⟩) hHeld ?rest4
        case hy4 => (intro w hSw; (try dsimp only at hSw); go_simp; try with_reducible rfl)
        try simp only [Act.put, List.setIfInBounds_toArray, List.set_cons_zero, List.set_cons_succ, List.getElem_toArray, List.getElem_cons_zero, List.getElem_cons_succ]
        refine wpAnyH_take (i := 5) (v := ?v5) rfl (by kernel_rfl) (by kernel_rfl) (by kernel_rfl) (fun _ _ _ h => h) (Or.inl ⟨by rfl, ?hy5⟩) hHeld ?rest5
        case hy5 => (intro w hSw; (try dsimp only at hSw); go_simp; try with_reducible rfl)
        try simp only [Act.put, List.setIfInBounds_toArray, List.set_cons_zero, List.set_cons_succ, List.getElem_toArray, List.getElem_cons_zero, List.getElem_cons_succ]
        refine wpAnyH_take (i := 6) (v := ?v6) rfl (by kernel_rfl) (by kernel_rfl) (by kernel_rfl) (fun _ _ _ h => h) (Or.inl ⟨by rfl, ?hy6⟩) hHeld ?rest6
        case hy6 => (intro w hSw; (try dsimp only at hSw); go_simp; try with_reducible rfl)
        try simp only [Act.put, List.setIfInBounds_toArray, List.set_cons_zero, List.set_cons_succ, List.getElem_toArray, List.getElem_cons_zero, List.getElem_cons_succ]
        refine wpAnyH_take (i := 7) (v := ?v7) rfl (by kernel_rfl) (by kernel_rfl) (by kernel_rfl) (fun _ _ _ h => h) (Or.inl ⟨by rfl, ?hy7⟩) hHeld ?rest7
        case hy7 => (intro w hSw; (try dsimp only at hSw); go_simp; try with_reducible rfl)
        try simp only [Act.put, List.setIfInBounds_toArray, List.set_cons_zero, List.set_cons_succ, List.getElem_toArray, List.getElem_cons_zero, List.getElem_cons_succ]
        refine wpAnyH_take (i := 8) (v := ?v8) rfl (by kernel_rfl) (by kernel_rfl) (by kernel_rfl) (fun _ _ _ h => h) (Or.inl ⟨by rfl, ?hy8⟩) hHeld ?rest8
        case hy8 => (intro w hSw; (try dsimp only at hSw); go_simp; try with_reducible rfl)
        try simp only [Act.put, List.setIfInBounds_toArray, List.set_cons_zero, List.set_cons_succ, List.getElem_toArray, List.getElem_cons_zero, List.getElem_cons_succ]
        refine wpAnyH_take (i := 9) (v := ?v9) rfl (by kernel_rfl) (by kernel_rfl) (by kernel_rfl) (fun _ _ _ h => h) (Or.inl ⟨by rfl, ?hy9⟩) hHeld ?rest9
        case hy9 => (intro w hSw; (try dsimp only at hSw); go_simp; try with_reducible rfl)
        try simp only [Act.put, List.setIfInBounds_toArray, List.set_cons_zero, List.set_cons_succ, List.getElem_toArray, List.getElem_cons_zero, List.getElem_cons_succ]
        refine wpAnyH_take (i := 10) (v := ?v10) rfl (by kernel_rfl) (by kernel_rfl) (by kernel_rfl) (fun _ _ _ h => h) (Or.inl ⟨by rfl, ?hy10⟩) hHeld ?rest10
        case hy10 => (intro w hSw; (try dsimp only at hSw); go_simp; try with_reducible rfl)
        try simp only [Act.put, List.setIfInBounds_toArray, List.set_cons_zero, List.set_cons_succ, List.getElem_toArray, List.getElem_cons_zero, List.getElem_cons_succ]
        refine wpAnyH_take (i := 11) (v := ?v11) rfl (by kernel_rfl) (by kernel_rfl) (by kernel_rfl) (fun _ _ _ h => h) (Or.inl ⟨by rfl, ?hy11⟩) hHeld ?rest11
        case hy11 => (intro w hSw; (try dsimp only at hSw); go_simp; try with_reducible rfl)
        try simp only [Act.put, List.setIfInBounds_toArray, List.set_cons_zero, List.set_cons_succ, List.getElem_toArray, List.getElem_cons_zero, List.getElem_cons_succ]
        refine wpAnyH_take (i := 12) (v := ?v12) rfl (by kernel_rfl) (by kernel_rfl) (by kernel_rfl) (fun _ _ _ h => h) (Or.inl ⟨by rfl, ?hy12⟩) hHeld ?rest12
        case hy12 => (intro w hSw; (try dsimp only at hSw); go_simp; try with_reducible rfl)
        try simp only [Act.put, List.setIfInBounds_toArray, List.set_cons_zero, List.set_cons_succ, List.getElem_toArray, List.getElem_cons_zero, List.getElem_cons_succ]
        refine wpAnyH_take (i := 13) (v := ?v13) rfl (by kernel_rfl) (by kernel_rfl) (by kernel_rfl) (fun _ _ _ h => h) (Or.inl ⟨by rfl, ?hy13⟩) hHeld ?rest13
        case hy13 => (intro w hSw; (try dsimp only at hSw); go_simp; try with_reducible rfl)
        try simp only [Act.put, List.setIfInBounds_toArray, List.set_cons_zero, List.set_cons_succ, List.getElem_toArray, List.getElem_cons_zero, List.getElem_cons_succ]
        refine wpAnyH_take (i := 14) (v := ?v14) rfl (by kernel_rfl) (by kernel_rfl) (by kernel_rfl) (fun _ _ _ h => h) (Or.inl ⟨by rfl, ?hy14⟩) hHeld ?rest14
        case hy14 => (intro w hSw; (try dsimp only at hSw); go_simp; try with_reducible rfl)
        try simp only [Act.put, List.setIfInBounds_toArray, List.set_cons_zero, List.set_cons_succ, List.getElem_toArray, List.getElem_cons_zero, List.getElem_cons_succ]
        refine wpAnyH_take (i := 15) (v := ?v15) rfl (by kernel_rfl) (by kernel_rfl) (by kernel_rfl) (fun _ _ _ h => h) (Or.inl ⟨by rfl, ?hy15⟩) hHeld ?rest15
        case hy15 => (intro w hSw; (try dsimp only at hSw); go_simp; try with_reducible rfl)
        try simp only [Act.put, List.setIfInBounds_toArray, List.set_cons_zero, List.set_cons_succ, List.getElem_toArray, List.getElem_cons_zero, List.getElem_cons_succ]
        refine wpAnyH_take (i := 16) (v := ?v16) rfl (by kernel_rfl) (by kernel_rfl) (by kernel_rfl) (fun _ _ _ h => h) (Or.inl ⟨by rfl, ?hy16⟩) hHeld ?rest16
        case hy16 => (intro w hSw; (try dsimp only at hSw); go_simp; try with_reducible rfl)
        try simp only [Act.put, List.setIfInBounds_toArray, List.set_cons_zero, List.set_cons_succ, List.getElem_toArray, List.getElem_cons_zero, List.getElem_cons_succ]
        obtain ⟨cN, fz⟩ := CN.out
        have KB : Below N wr.drew (wr.drew.setCell ⟨N, k, none⟩ (.int .u8 ((x.toNat ^^^ y.toNat ^^^ z.toNat : Nat) : Int))) := Below.setCell (p := ⟨N, k, none⟩) (Below.refl _ _) (Nat.le_refl N) _
        have KW : Hid (((wr.drew.setCell ⟨N, k, none⟩ (.int .u8 ((x.toNat ^^^ y.toNat ^^^ z.toNat : Nat) : Int))).cell? ⟨ba, oa + k, none⟩ = some (.int .u8 x) ∧ (wr.drew.setCell ⟨N, k, none⟩ (.int .u8 ((x.toNat ^^^ y.toNat ^^^ z.toNat : Nat) : Int))).cell? ⟨bb, ob + k, none⟩ = some (.int .u8 y) ∧ (wr.drew.setCell ⟨N, k, none⟩ (.int .u8 ((x.toNat ^^^ y.toNat ^^^ z.toNat : Nat) : Int))).cell? ⟨bc, oc + k, none⟩ = some (.int .u8 z)) ∧ Below N w (wr.drew.setCell ⟨N, k, none⟩ (.int .u8 ((x.toNat ^^^ y.toNat ^^^ z.toNat : Nat) : Int))) ∧ (wr.drew.setCell ⟨N, k, none⟩ (.int .u8 ((x.toNat ^^^ y.toNat ^^^ z.toNat : Nat) : Int))).heap[N]? = some (.cells (xC A B C n (k + 1)) 5)) := by
          refine ⟨⟨(KB.cell (p := ⟨ba, oa + k, none⟩) ta).trans xa, (KB.cell (p := ⟨bb, ob + k, none⟩) tb).trans xb, (KB.cell (p := ⟨bc, oc + k, none⟩) tc).trans xc⟩, hbel.drew.trans KB, ?_⟩
          have := heap_setCell_own wr.drew N k _ _ _ h0 (.int .u8 ((x.toNat ^^^ y.toNat ^^^ z.toNat : Nat) : Int))
          rw [XS.out] at this
          exact this
        clear KB
        refine wpAnyH_ready (rs := [17]) (by kernel_rfl) (by simp) ?_
        refine AllReadyH.cons rfl (fun K hK => ?_) AllReadyH.nil
        go_wp2_with fail
        refine hK.out _ _ ?hS17 (fun hHeld => ?rest17)
        case hS17 => exact KW.out.1
        clear hK K
        try simp only [Act.put, List.setIfInBounds_toArray, List.set_cons_zero, List.set_cons_succ, List.getElem_toArray, List.getElem_cons_zero, List.getElem_cons_succ]
        refine wpAnyH_done (by kernel_rfl) ?_ _
        refine NoPanic.normal ?_
        go_wp2_with fail
        go_roundg (n - (k + 1))
        case measure => omega
        case rel => exact ⟨k + 1, by omega, rfl, by go_num, KW.out.2.1, KW.out.2.2⟩
    · have e : n = k := by omega
      subst e
      have LA : (A.take n).length = n := by rw [List.length_take]; omega
      have LB : (B.take n).length = n := by rw [List.length_take]; omega
      have LC : (C.take n).length = n := by rw [List.length_take]; omega
      have ja : ∀ x ∈ A.take n, 0 ≤ x ∧ x ≤ 255 := fun x hx => bytes_mem IA.out x (List.mem_of_mem_take hx)
      have jb : ∀ x ∈ B.take n, 0 ≤ x ∧ x ≤ 255 := fun x hx => bytes_mem IB.out x (List.mem_of_mem_take hx)
      have jc : ∀ x ∈ C.take n, 0 ≤ x ∧ x ≤ 255 := fun x hx => bytes_mem IC.out x (List.mem_of_mem_take hx)
      have jx := x3_bytes A B C n IA.out IB.out IC.out (by omega) (by omega) (by omega)
      have EX := cmore_x3 n (A.take n) (B.take n) (C.take n) LA LB LC ja jb jc (by rw [x3_take]; exact jx)
      rw [x3_take] at EX
      have s1 : Hid (∀ W : World, W = wr.drew → Calls Try.prog 9 #[.slice (some ⟨N, 0, none⟩) n n] W fun e w' => e = .returned (.int .u32 (cmore 0 (x3 A B C n) : Nat)) ∧ w' = W) := fun W h => by subst h; exact sum_is _ n _ n (x3_length A B C n) (by omega) (bytes_of_mem jx) _ (xC_holds A B C n _ N h0)
      have s2 : Hid (∀ W : World, W = wr.drew → Calls Try.prog 9 #[.slice a n ca] W fun e w' => e = .returned (.int .u32 (cmore 0 (A.take n) : Nat)) ∧ w' = W) := fun W h => by subst h; exact sum_is _ n _ _ LA (by omega) (bytes_of_mem ja) _ ((HA.out _ hbelw.drew).take n)
      have s3 : Hid (∀ W : World, W = wr.drew → Calls Try.prog 9 #[.slice b n cb] W fun e w' => e = .returned (.int .u32 (cmore 0 (B.take n) : Nat)) ∧ w' = W) := fun W h => by subst h; exact sum_is _ n _ _ LB (by omega) (bytes_of_mem jb) _ ((HB.out _ hbelw.drew).take n)
      have s4 : Hid (∀ W : World, W = wr.drew → Calls Try.prog 9 #[.slice c n cc] W fun e w' => e = .returned (.int .u32 (cmore 0 (C.take n) : Nat)) ∧ w' = W) := fun W h => by subst h; exact sum_is _ n _ _ LC (by omega) (bytes_of_mem jc) _ ((HC.out _ hbelw.drew).take n)
      have E1 := u32_xor_nat (cmore 0 (A.take n)) (cmore 0 (B.take n)) (cmore_lt _ _) (cmore_lt _ _)
      have E2 := u32_xor_nat (cmore 0 (A.take n) ^^^ cmore 0 (B.take n)) (cmore 0 (C.take n)) (xor_lt32 (cmore_lt _ _) (cmore_lt _ _)) (cmore_lt _ _)
      rw [← EX] at E2
      have hNw : w.heap.size ≤ wr.heap.size := hbelw.size
      have BW : Hid (Below w.heap.size w wr) := hbelw
      have bel : Hid (Below N w wr) := hbel
      clear LA LB LC ja jb jc jx EX hbelw hbel h0
      generalize cmore 0 (x3 A B C n) = X at *
      generalize cmore 0 (A.take n) = p at *
      generalize cmore 0 (B.take n) = q at *
      generalize cmore 0 (C.take n) = r at *
      have i0 : (0 : Int) ≤ (n : Int) := by omega
      have i1 : (n : Int) ≤ (ca : Int) := by omega
      have i2 : (n : Int) ≤ (cb : Int) := by omega
      have i3 : (n : Int) ≤ (cc : Int) := by omega
      go_wp2_with fail
      refine wp_region_noPanic ?_
      refine wp_region_held_drew (S := (fun _ : World => True)) (by kernel_rfl) ?hSaz (fun hHeld => ?restaz)
      case hSaz => trivial
      case restaz =>
        refine wpAnyH_take (i := 0) (v := ?v0z) rfl (by kernel_rfl) (by kernel_rfl) (by kernel_rfl) (fun _ _ _ h => h) (Or.inl ⟨by rfl, ?hy0z⟩) hHeld ?rest0z
        case hy0z => (intro w hSw; (try dsimp only at hSw); go_simp; try with_reducible rfl)
        try simp only [Act.put, List.setIfInBounds_toArray, List.set_cons_zero, List.set_cons_succ, List.getElem_toArray, List.getElem_cons_zero]
        refine wpAnyH_take (i := 2) (v := ?v2z) rfl (by kernel_rfl) (by kernel_rfl) (by kernel_rfl) (fun _ _ _ h => h) (Or.inl ⟨by rfl, ?hy2z⟩) hHeld ?rest2z
        case hy2z => (intro w hSw; (try dsimp only at hSw); go_simp; try with_reducible rfl)
        try simp only [Act.put, List.setIfInBounds_toArray, List.set_cons_zero, List.set_cons_succ, List.getElem_toArray, List.getElem_cons_zero, List.getElem_cons_succ]
        refine wpAnyH_take (i := 3) (v := ?v3z) rfl (by kernel_rfl) (by kernel_rfl) (by kernel_rfl) (fun _ _ _ h => h) (Or.inl ⟨by rfl, ?hy3z⟩) hHeld ?rest3z
        case hy3z => (intro w hSw; (try dsimp only at hSw); go_simp; try with_reducible rfl)
        try simp only [Act.put, List.setIfInBounds_toArray, List.set_cons_zero, List.set_cons_succ, List.getElem_toArray, List.getElem_cons_zero, List.getElem_cons_succ]
        refine wpAnyH_take (i := 4) (v := ?v4z) rfl (by kernel_rfl) (by kernel_rfl) (by kernel_rfl) (fun _ _ _ h => h) (Or.inl ⟨by rfl, ?hy4z⟩) hHeld ?rest4z
        case hy4z => (intro w hSw; (try dsimp only at hSw); go_simp; try with_reducible rfl)
        try simp only [Act.put, List.setIfInBounds_toArray, List.set_cons_zero, List.set_cons_succ, List.getElem_toArray, List.getElem_cons_zero, List.getElem_cons_succ]
        refine wpAnyH_take (i := 6) (v := ?v6z) rfl (by kernel_rfl) (by kernel_rfl) (by kernel_rfl) (fun _ _ _ h => h) (Or.inl ⟨by rfl, ?hy6z⟩) hHeld ?rest6z
        case hy6z => (intro w hSw; (try dsimp only at hSw); go_simp; try with_reducible rfl)
        try simp only [Act.put, List.setIfInBounds_toArray, List.set_cons_zero, List.set_cons_succ, List.getElem_toArray, List.getElem_cons_zero, List.getElem_cons_succ]
        refine wpAnyH_take (i := 7) (v := ?v7z) rfl (by kernel_rfl) (by kernel_rfl) (by kernel_rfl) (fun _ _ _ h => h) (Or.inl ⟨by rfl, ?hy7z⟩) hHeld ?rest7z
        case hy7z => (intro w hSw; (try dsimp only at hSw); go_simp; try with_reducible rfl)
        try simp only [Act.put, List.setIfInBounds_toArray, List.set_cons_zero, List.set_cons_succ, List.getElem_toArray, List.getElem_cons_zero, List.getElem_cons_succ]
        refine wpAnyH_take (i := 8) (v := ?v8z) rfl (by kernel_rfl) (by kernel_rfl) (by kernel_rfl) (fun _ _ _ h => h) (Or.inl ⟨by rfl, ?hy8z⟩) hHeld ?rest8z
        case hy8z => (intro w hSw; (try dsimp only at hSw); go_simp; try with_reducible rfl)
        try simp only [Act.put, List.setIfInBounds_toArray, List.set_cons_zero, List.set_cons_succ, List.getElem_toArray, List.getElem_cons_zero, List.getElem_cons_succ]
        refine wpAnyH_take (i := 11) (v := ?v11z) rfl (by kernel_rfl) (by kernel_rfl) (by kernel_rfl) (fun _ _ _ h => h) (Or.inl ⟨by rfl, ?hy11z⟩) hHeld ?rest11z
        case hy11z => (intro w hSw; (try dsimp only at hSw); go_simp; try with_reducible rfl)
        try simp only [Act.put, List.setIfInBounds_toArray, List.set_cons_zero, List.set_cons_succ, List.getElem_toArray, List.getElem_cons_zero, List.getElem_cons_succ]
        refine wpAnyH_take (i := 12) (v := ?v12z) rfl (by kernel_rfl) (by kernel_rfl) (by kernel_rfl) (fun _ _ _ h => h) (Or.inl ⟨by rfl, ?hy12z⟩) hHeld ?rest12z
        case hy12z => (intro w hSw; (try dsimp only at hSw); go_simp; try with_reducible rfl)
        try simp only [Act.put, List.setIfInBounds_toArray, List.set_cons_zero, List.set_cons_succ, List.getElem_toArray, List.getElem_cons_zero, List.getElem_cons_succ]
        refine wpAnyH_take (i := 13) (v := ?v13z) rfl (by kernel_rfl) (by kernel_rfl) (by kernel_rfl) (fun _ _ _ h => h) (Or.inl ⟨by rfl, ?hy13z⟩) hHeld ?rest13z
        case hy13z => (intro w hSw; (try dsimp only at hSw); go_simp; try with_reducible rfl)
        try simp only [Act.put, List.setIfInBounds_toArray, List.set_cons_zero, List.set_cons_succ, List.getElem_toArray, List.getElem_cons_zero, List.getElem_cons_succ]
        refine wpAnyH_ready (rs := [1]) (by kernel_rfl) (by simp) ?_
        refine AllReadyH.cons rfl (fun K hK => ?_) AllReadyH.nil
        go_simp; refine (s1.out _ rfl).mono ?_; rintro e w' ⟨rfl, hw⟩; obtain rfl := hw.symm; clear hw; go_wp2_with fail
        refine hK.out _ _ ?hS1z (fun hHeld => ?rest1z)
        case hS1z => trivial
        clear hK K
        try simp only [Act.put, List.setIfInBounds_toArray, List.set_cons_zero, List.set_cons_succ, List.getElem_toArray, List.getElem_cons_zero, List.getElem_cons_succ]
        refine wpAnyH_ready (rs := [5]) (by kernel_rfl) (by simp) ?_
        refine AllReadyH.cons rfl (fun K hK => ?_) AllReadyH.nil
        go_simp; refine (s2.out _ rfl).mono ?_; rintro e w' ⟨rfl, hw⟩; obtain rfl := hw.symm; clear hw; go_wp2_with fail
        refine hK.out _ _ ?hS5z (fun hHeld => ?rest5z)
        case hS5z => trivial
        clear hK K
        try simp only [Act.put, List.setIfInBounds_toArray, List.set_cons_zero, List.set_cons_succ, List.getElem_toArray, List.getElem_cons_zero, List.getElem_cons_succ]
        refine wpAnyH_ready (rs := [9]) (by kernel_rfl) (by simp) ?_
        refine AllReadyH.cons rfl (fun K hK => ?_) AllReadyH.nil
        go_simp; refine (s3.out _ rfl).mono ?_; rintro e w' ⟨rfl, hw⟩; obtain rfl := hw.symm; clear hw; go_wp2_with fail
        refine hK.out _ _ ?hS9z (fun hHeld => ?rest9z)
        case hS9z => trivial
        clear hK K
        try simp only [Act.put, List.setIfInBounds_toArray, List.set_cons_zero, List.set_cons_succ, List.getElem_toArray, List.getElem_cons_zero, List.getElem_cons_succ]
        refine wpAnyH_take (i := 10) (v := ?v10z) rfl (by kernel_rfl) (by kernel_rfl) (by kernel_rfl) (fun _ _ _ h => h) (Or.inl ⟨by rfl, ?hy10z⟩) hHeld ?rest10z
        case hy10z => (intro w hSw; (try dsimp only at hSw); go_simp; try with_reducible rfl)
        try simp only [Act.put, List.setIfInBounds_toArray, List.set_cons_zero, List.set_cons_succ, List.getElem_toArray, List.getElem_cons_zero, List.getElem_cons_succ]
        refine wpAnyH_ready (rs := [14]) (by kernel_rfl) (by simp) ?_
        refine AllReadyH.cons rfl (fun K hK => ?_) AllReadyH.nil
        go_simp; refine (s4.out _ rfl).mono ?_; rintro e w' ⟨rfl, hw⟩; obtain rfl := hw.symm; clear hw; go_wp2_with fail
        refine hK.out _ _ ?hS14z (fun hHeld => ?rest14z)
        case hS14z => trivial
        clear hK K
        try simp only [Act.put, List.setIfInBounds_toArray, List.set_cons_zero, List.set_cons_succ, List.getElem_toArray, List.getElem_cons_zero, List.getElem_cons_succ]
        refine wpAnyH_take (i := 15) (v := ?v15z) rfl (by kernel_rfl) (by kernel_rfl) (by kernel_rfl) (fun _ _ _ h => h) (Or.inl ⟨by rfl, ?hy15z⟩) hHeld ?rest15z
        case hy15z => (intro w hSw; (try dsimp only at hSw); go_simp; try with_reducible rfl)
        try simp only [Act.put, List.setIfInBounds_toArray, List.set_cons_zero, List.set_cons_succ, List.getElem_toArray, List.getElem_cons_zero, List.getElem_cons_succ]
        refine wpAnyH_take (i := 16) (v := ?v16z) rfl (by kernel_rfl) (by kernel_rfl) (by kernel_rfl) (fun _ _ _ h => h) (Or.inl ⟨by rfl, ?hy16z⟩) hHeld ?rest16z
        case hy16z => (intro w hSw; (try dsimp only at hSw); go_simp; try with_reducible rfl)
        try simp only [Act.put, List.setIfInBounds_toArray, List.set_cons_zero, List.set_cons_succ, List.getElem_toArray, List.getElem_cons_zero, List.getElem_cons_succ]
        refine wpAnyH_take (i := 17) (v := ?v17z) rfl (by kernel_rfl) (by kernel_rfl) (by kernel_rfl) (fun _ _ _ h => h) (Or.inl ⟨by rfl, ?hy17z⟩) hHeld ?rest17z
        case hy17z => (intro w hSw; (try dsimp only at hSw); go_simp; try with_reducible rfl)
        try simp only [Act.put, List.setIfInBounds_toArray, List.set_cons_zero, List.set_cons_succ, List.getElem_toArray, List.getElem_cons_zero, List.getElem_cons_succ]
        refine wpAnyH_ready (rs := [18]) (by kernel_rfl) (by simp) ?_
        refine AllReadyH.cons rfl (fun K hK => ?_) AllReadyH.nil
        go_simp; refine (works_true _).mono ?_; rintro e w4 ⟨rfl, hwk⟩; have HW : Hid (Below wr.drew.heap.size wr.drew w4) := hwk; clear hwk; go_wp2_with fail
        refine hK.out _ _ ?hS18z (fun hHeld => ?rest18z)
        case hS18z => trivial
        clear hK K
        try simp only [Act.put, List.setIfInBounds_toArray, List.set_cons_zero, List.set_cons_succ, List.getElem_toArray, List.getElem_cons_zero, List.getElem_cons_succ]
        refine wpAnyH_take (i := 19) (v := ?v19z) rfl (by kernel_rfl) (by kernel_rfl) (by kernel_rfl) (fun _ _ _ h => h) (Or.inl ⟨by rfl, ?hy19z⟩) hHeld ?rest19z
        case hy19z => (intro w hSw; (try dsimp only at hSw); go_simp; try with_reducible rfl)
        try simp only [Act.put, List.setIfInBounds_toArray, List.set_cons_zero, List.set_cons_succ, List.getElem_toArray, List.getElem_cons_zero, List.getElem_cons_succ]
        refine wpAnyH_take (i := 20) (v := ?v20z) rfl (by kernel_rfl) (by kernel_rfl) (by kernel_rfl) (fun _ _ _ h => h) (Or.inl ⟨by rfl, ?hy20z⟩) hHeld ?rest20z
        case hy20z => (intro w hSw; (try dsimp only at hSw); go_simp; try with_reducible rfl)
        try simp only [Act.put, List.setIfInBounds_toArray, List.set_cons_zero, List.set_cons_succ, List.getElem_toArray, List.getElem_cons_zero, List.getElem_cons_succ]
        refine wpAnyH_done (by kernel_rfl) ?_ _
        refine NoPanic.normal ?_
        go_wp2
        go_ret
        exact ⟨rfl, BW.out.drew.trans (HW.out.mono hNw)⟩
end Go.Proofs.Ytbeeekmhnigelaa
