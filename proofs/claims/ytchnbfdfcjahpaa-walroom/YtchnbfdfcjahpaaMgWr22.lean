/- find. Written by gen_find.py. What All tells whole is the frames that stand there; heads are told by their bytes; plainly. findOrBegin. findOrBegin. Open. A log on a disk's blocks, plainly: what is opened, what a Sync and a Reset leave where nothing is lost. A log that nothing is lost of, plainly. The document's Same; the statements' own works. A log and its disk that outlive calls; what is neither's. The statements' own works. The statements' own 'small'. Slices of texts that came in. WalRoom's walk. -/
import Derived.Test.YtchnbfdfcjahpaaMgWr21
import Derived.Test.YtchnbfdfcjahpaaMgWr4
import Derived.Test.YtchnbfdfcjahpaaMgWr18
import Derived.SliceStrings
import Derived.SizedLaws
namespace Go.Proofs.Ytchnbfdfcjahpaa
open Go.ChangeShapes Go.WideShapes Go.ChangeAt Go.RowKit Go.Deep Go.Maps
set_option linter.unusedVariables false
/-- the head that the first j blocks tell: the greater number -/
def pk1 (m : Nat) (b0 : List Int) : Nat × Nat × Nat := if hdOk m 0 b0 = true then (hN b0, hA b0, hL b0) else (0, 0, 0)
def pkJ (m : Nat) (b0 b1 : List Int) : Nat → Nat × Nat × Nat
  | 0 => (0, 0, 0)
  | 1 => pk1 m b0
  | _ => if hdOk m 1 b1 = true ∧ (pk1 m b0).1 < hN b1 then (hN b1, hA b1, hL b1) else pk1 m b0
def bJ (b0 b1 : List Int) (j : Nat) : List Int := if j = 0 then b0 else b1
theorem pkJ_step (m : Nat) (b0 b1 : List Int) (j : Nat) (hj : j < 2) : pkJ m b0 b1 (j + 1) = if hdOk m j (bJ b0 b1 j) = true ∧ (pkJ m b0 b1 j).1 < hN (bJ b0 b1 j) then (hN (bJ b0 b1 j), hA (bJ b0 b1 j), hL (bJ b0 b1 j)) else pkJ m b0 b1 j := by
  rcases (by omega : j = 0 ∨ j = 1) with rfl | rfl
  · show (if hdOk m 0 b0 = true then (hN b0, hA b0, hL b0) else (0, 0, 0)) = if hdOk m 0 b0 = true ∧ 0 < hN b0 then (hN b0, hA b0, hL b0) else (0, 0, 0)
    by_cases h : hdOk m 0 b0 = true
    · have : 1 ≤ hN b0 := by have h2 := h; unfold hdOk at h2; rw [decide_eq_true_iff] at h2; exact h2.1
      rw [if_pos h, if_pos ⟨h, by omega⟩]
    · rw [if_neg h, if_neg (fun e => h e.1)]
  · rfl
theorem hdOk_b {m p : Nat} {b : List Int} (h : hdOk m p b = true) : 1 ≤ hN b ∧ hN b ≤ 1152921504606846976 ∧ hN b % 2 = p ∧ hA b ≤ 1 ∧ hL b ≤ 64 * m ∧ hdB (hN b) (hA b) (hL b) = b := by
  unfold hdOk at h
  rwa [decide_eq_true_iff] at h
theorem pkJ_b (m : Nat) (b0 b1 : List Int) (j : Nat) (hj : j ≤ 2) : (pkJ m b0 b1 j).1 ≤ 1152921504606846976 ∧ (pkJ m b0 b1 j).2.1 ≤ 1 ∧ (pkJ m b0 b1 j).2.2 ≤ 64 * m := by
  have h1 : (pkJ m b0 b1 1).1 ≤ 1152921504606846976 ∧ (pkJ m b0 b1 1).2.1 ≤ 1 ∧ (pkJ m b0 b1 1).2.2 ≤ 64 * m := by
    show (if hdOk m 0 b0 = true then (hN b0, hA b0, hL b0) else (0, 0, 0)).1 ≤ _ ∧ (if hdOk m 0 b0 = true then (hN b0, hA b0, hL b0) else (0, 0, 0)).2.1 ≤ _ ∧ (if hdOk m 0 b0 = true then (hN b0, hA b0, hL b0) else (0, 0, 0)).2.2 ≤ _
    by_cases h : hdOk m 0 b0 = true
    · rw [if_pos h]; have := hdOk_b h; exact ⟨this.2.1, this.2.2.2.1, this.2.2.2.2.1⟩
    · rw [if_neg h]; exact ⟨Nat.zero_le _, Nat.zero_le _, Nat.zero_le _⟩
  rcases (by omega : j = 0 ∨ j = 1 ∨ j = 2) with rfl | rfl | rfl
  · exact ⟨Nat.zero_le _, Nat.zero_le _, Nat.zero_le _⟩
  · exact h1
  · rw [show 2 = 1 + 1 from rfl, pkJ_step m b0 b1 1 (by omega)]
    by_cases h : hdOk m 1 (bJ b0 b1 1) = true ∧ (pkJ m b0 b1 1).1 < hN (bJ b0 b1 1)
    · rw [if_pos h]; have := hdOk_b h.1; exact ⟨this.2.1, this.2.2.2.1, this.2.2.2.2.1⟩
    · rw [if_neg h]; exact h1
theorem size64r (w : World) : (sizeOf 87).run Try.prog w = .ok 64 w := by
  have h := sizeB
  cases hq : Try.prog.info? 87 with
  | none => rw [hq] at h; cases h
  | some i =>
    rw [hq] at h
    simp only [Option.map_some, Option.some.injEq] at h
    simp [sizeOf, typeInfo, hq, h]
theorem part_two (b0 b1 : List Int) (h0 : b0.length = 64) (h1 : b1.length = 64) (j : Nat) (hj : j < 2) (w : World) : (part 87 (bk (b0 ++ b1)) (j * 64)).run Try.prog w = .ok (.agg (bk (bJ b0 b1 j))) w := by
  have e : ((bk (b0 ++ b1)).extract (j * 64) (j * 64 + 64)) = bk (bJ b0 b1 j) := by
    rcases (by omega : j = 0 ∨ j = 1) with rfl | rfl
    · simp [bk, bJ, ← h0]
    · have : (b0 ++ b1).length = 128 := by simp [h0, h1]
      simp only [bk, bJ, Nat.one_mul, List.extract_toArray, List.extract_eq_take_drop]
      rw [← List.map_drop, ← List.map_take]
      congr 2
      rw [List.drop_append_of_le_length (by omega), List.drop_of_length_le (by omega)]
      rw [List.nil_append]
      exact List.take_of_length_le (by omega)
  simp [part, isAgg, run_underlying Try.underlying87, e]
theorem index_two (b0 b1 : List Int) (h0 : b0.length = 64) (h1 : b1.length = 64) (j : Nat) (hj : j < 2) (w : World) : (Instr.index 88 (.agg (bk (b0 ++ b1))) (.int .i64 (j : Int))).run Try.prog w = .ok (.agg (bk (bJ b0 b1 j))) w := by
  have hin : (0 : Int) ≤ (j : Int) ∧ (j : Int) < 2 := by omega
  have p := part_two b0 b1 h0 h1 j hj w
  simp [Instr.index, run_underlying Try.underlying88, asIntOf, hin, p]
  intro h; omega
theorem al_count : ∀ (L : List Int) (n : Nat), L.length = n → 8 * (al n L).1.length ≤ n := by
  have key : ∀ (f : Nat) (L : List Int), 8 * (al f L).1.length ≤ L.length := by
    intro f
    induction f with
    | zero => intro L; simp [al]
    | succ f ih =>
      intro L
      by_cases h : L = []
      · subst h; rw [al_nil]; simp
      · by_cases e : (rd L).2.2 = 0
        · rw [al_step f L h e]
          have h1 := ih (L.drop (rd L).2.1)
          have h2 := rd_ok L e
          rw [List.length_drop] at h1
          show 8 * ((rd L).1 :: (al f (L.drop (rd L).2.1)).1).length ≤ _
          rw [List.length_cons]
          omega
        · rw [al_bad f L h e]; simp
  intro L n hn
  have := key n L
  omega
theorem Owned.keep2 {w w' : World} {base : Nat} {v : Value} {A : List Int} (h : Owned w base v A) (hb : Below w.heap.size w w') : Owned w' base v A := h.below hb (Owned.lt' h)
/-- what find finds: its answer, the records -/
def Ds.log (s : Ds) (m ar ln : Nat) : List Int := (s.cat (2 + ar * m) ((ln + 63) / 64)).take ln
def fndE (s : Ds) (m : Nat) (pk : Nat × Nat × Nat) : Int := if pk.1 = 0 then 6 else if (al pk.2.2 (s.log m pk.2.1 pk.2.2)).2.2 ≠ 0 then 6 else 0
def FndSaid (w : World) (s : Ds) (m bl bd : Nat) (pk : Nat × Nat × Nat) (e : Ending) (w' : World) : Prop := e = .returned (.int .i64 (fndE s m pk)) ∧ Off (fun k => k = bl) w w' ∧
  (fndE s m pk = 0 → ∃ vr, LgC w' bl bd m pk.1 pk.2.1 pk.2.2 vr (.slice none 0 0) (.slice none 0 0) false ∧ RowsS w' w.heap.size vr (al pk.2.2 (s.log m pk.2.1 pk.2.2)).1)
set_option maxRecDepth 100000 in
set_option maxHeartbeats 4000000 in
theorem find_is (w : World) (F : Nat → Prop) (bd N : Nat) (s : Ds) (H : Dk w F bd N s) (hNN : N ≤ 1000000) (hu : s.up = true) (bl m : Nat) (hm : m ≤ 2047) (hD : 2 + 2 * m ≤ s.D.length) (hlg : LgC w bl bd m 0 0 0 (.slice none 0 0) (.slice none 0 0) (.slice none 0 0) false) (hF : ¬ F bl)
    (b0 b1 : List Int) (h0 : b0.length = 64 ∧ IsBytes b0) (h1 : b1.length = 64 ∧ IsBytes b1) :
    Calls Try.prog 46 #[.pointer (some ⟨bl, 0, none⟩), .agg (bk (b0 ++ b1))] w (FndSaid w s m bl bd (pkJ m b0 b1 2)) := by
  have HD : Hid (Dk w F bd N s) := H
  have HL : Hid (LgC w bl bd m 0 0 0 (.slice none 0 0) (.slice none 0 0) (.slice none 0 0) false) := hlg
  have HF : Hid (¬ F bl) := hF
  have hblw := hlg.lt
  have hbJ : ∀ j, (bJ b0 b1 j).length = 64 ∧ IsBytes (bJ b0 b1 j) := fun j => by unfold bJ; split <;> assumption
  have HBJ : Hid (∀ j, (bJ b0 b1 j).length = 64 ∧ IsBytes (bJ b0 b1 j)) := hbJ
  have IX : Hid (∀ (j : Nat) (w : World), j < 2 → (Instr.index 88 (.agg (bk (b0 ++ b1))) (.int .i64 (j : Int))).run Try.prog w = .ok (.agg (bk (bJ b0 b1 j))) w) := fun j w hj => index_two b0 b1 h0.1 h1.1 j hj w
  have Z0 : Hid ((w.alloc (.cells (bk (b0 ++ b1)) 88)).heap[w.heap.size]? = some (.cells (bk (b0 ++ b1)) 88)) := heap_alloc_new w _
  have S2 : Hid ((Try.prog.info? 88).map (·.size) = some (bk (b0 ++ b1)).size) := by show _ = _; rw [bk_size, List.length_append, h0.1, h1.1]; kernel_rfl
  obtain ⟨W0, hW0⟩ : ∃ W0, W0 = w.alloc (.cells (bk (b0 ++ b1)) 88) := ⟨_, rfl⟩
  have B0 : Hid (Below w.heap.size w W0) := by rw [hW0]; exact gB_alloc w _
  have PJ : Hid (∀ j, j < 2 → pkJ m b0 b1 (j + 1) = if hdOk m j (bJ b0 b1 j) = true ∧ (pkJ m b0 b1 j).1 < hN (bJ b0 b1 j) then (hN (bJ b0 b1 j), hA (bJ b0 b1 j), hL (bJ b0 b1 j)) else pkJ m b0 b1 j) := fun j hj => pkJ_step m b0 b1 j hj
  have PB : Hid (∀ j, j ≤ 2 → (pkJ m b0 b1 j).1 ≤ 1152921504606846976 ∧ (pkJ m b0 b1 j).2.1 ≤ 1 ∧ (pkJ m b0 b1 j).2.2 ≤ 64 * m) := fun j hj => pkJ_b m b0 b1 j hj
  have P0 : Hid (pkJ m b0 b1 0 = (0, 0, 0)) := rfl
  generalize hPK : pkJ m b0 b1 = PK at *
  clear H hlg hF hbJ h0 h1 hPK
  generalize bk (b0 ++ b1) = BB at *
  generalize bJ b0 b1 = BJ at *
  go_enter Try.func46, Try.ntmps46
  go_wp2_with (refine wpList_load_row rfl 88 (.tmp 3) rfl w.heap.size rfl 88 BB (0, 0) _ Z0.out Try.underlying88 rfl S2.out ?_)
  rw [← hW0]
  clear hW0 Z0
  go_loopg [16] 2 (fun g i wr => ∃ j : Nat, j ≤ 2 ∧ g = 2 - j ∧ i = .int .i64 (j : Int) ∧ Hid (LgC wr bl bd m (PK j).1 (PK j).2.1 (PK j).2.2 (.slice none 0 0) (.slice none 0 0) (.slice none 0 0) false) ∧ Hid (Off (fun k => k = bl) w wr))
  case atStart => exact ⟨0, Nat.zero_le _, rfl, rfl, by show LgC _ _ _ _ _ _ _ _ _ _ _; rw [P0.out]; exact HL.out.keep B0.out, Off.ofBelow _ B0.out⟩
  case round =>
    obtain ⟨j, hj, rfl, rfl, HC, HO⟩ := hrel
    have hsz := HO.out.size
    by_cases hlt : j < 2
    · have i1 : (j : Int) < 2 := by omega
      have ix := fun w => IX.out j w hlt
      obtain ⟨hx1, hx2⟩ := HBJ.out j
      have HX : Hid ((BJ j).length = 64) := hx1
      have KH : Hid (∀ u, Below wr.heap.size wr u → Calls Try.prog 57 #[.pointer (some ⟨bl, 0, none⟩), .agg (bk (BJ j)), .int .i64 (j : Int)] u (HdSaid m j (BJ j) u)) := fun u hu => headOf_is u bl m (by omega) (HC.out.keep hu).cells.c1 (BJ j) hx1 hx2 j (by omega)
      have PS := PJ.out j hlt
      have HPS : Hid (PK (j + 1) = if hdOk m j (BJ j) = true ∧ (PK j).1 < hN (BJ j) then (hN (BJ j), hA (BJ j), hL (BJ j)) else PK j) := PS
      have hPB := PB.out j hj
      generalize BJ j = b at *
      have Y1 : Hid ((wr.alloc (.cells hz64 87)).heap[wr.heap.size]? = some (.cells hz64 87)) := heap_alloc_new wr _
      clear PS hx1 hx2
      go_wp2_with (first | (refine storeBlk rfl (.tmp 6) (.tmp 19) rfl wr.heap.size rfl b rfl hz64 Y1.out HX.out rfl ?_; intro w2 kx hg2 hs2; have BW : Hid (Below wr.heap.size wr w2) := ((gB_alloc wr (.cells hz64 87)).grown hg2 (by simp) (fun k e => Nat.le_of_eq (Option.some.inj e))); have KX : Hid (Bk w2 wr.heap.size b) := kx; clear kx hg2 hs2) | (refine wpList_load_row rfl 87 (.tmp 6) rfl wr.heap.size rfl 87 (bk b) (0, 0) _ KX.out Try.underlying87 rfl (sizeBl _ HX.out) ?_))
      refine (KH.out w2 BW.out).mono ?_
      rintro e w3 ⟨no, ar, ln, rfl, hyes, hb3⟩
      have B3 : Hid (Below wr.heap.size wr w3) := BW.out.trans (hb3.mono BW.out.size)
      have HY : Hid (hdOk m j b = true → no = hN b ∧ ar = hA b ∧ ln = hL b) := hyes
      have HDO : Hid (hdOk m j b = true → hN b ≤ 1152921504606846976 ∧ hA b ≤ 1 ∧ hL b ≤ 64 * m) := fun e => by have := hdOk_b e; exact ⟨this.2.1, this.2.2.2.1, this.2.2.2.2.1⟩
      have HC3 : Hid (LgC w3 bl bd m (PK j).1 (PK j).2.1 (PK j).2.2 (.slice none 0 0) (.slice none 0 0) (.slice none 0 0) false) := HC.out.keep B3.out
      have O3 : Hid (Off (fun k => k = bl) w w3) := HO.out.andBelow B3.out
      have Z3 : Hid ((w3.alloc (.cells #[.int .u64 0, .int .i64 0, .int .i64 0] 26)).heap[w3.heap.size]? = some (.cells #[.int .u64 0, .int .i64 0, .int .i64 0] 26)) := heap_alloc_new w3 _
      clear hyes hb3 KH Y1
      generalize hdOk m j b = ok at *
      go_wp2_with (refine wpList_store_row rfl 26 (.tmp 7) (.tmp 25) rfl w3.heap.size #[.int .u64 (no : Int), .int .i64 (ar : Int), .int .i64 (ln : Int)] rfl rfl 26 _ Z3.out size3H rfl (hd_one _ _ _) ?_)
      have BH : Hid (Below w3.heap.size w3 ((w3.alloc (.cells #[.int .u64 0, .int .i64 0, .int .i64 0] 26)).setRow w3.heap.size #[.int .u64 (no : Int), .int .i64 (ar : Int), .int .i64 (ln : Int)])) := below_setRow (gB_alloc w3 _) (Nat.le_refl _) _
      have ZH : Hid (((w3.alloc (.cells #[.int .u64 0, .int .i64 0, .int .i64 0] 26)).setRow w3.heap.size #[.int .u64 (no : Int), .int .i64 (ar : Int), .int .i64 (ln : Int)]).heap[w3.heap.size]? = some (.cells #[.int .u64 (no : Int), .int .i64 (ar : Int), .int .i64 (ln : Int)] 26)) := setRow_heap _ _ _ _ _ _ Z3.out
      clear Z3
      generalize ((w3.alloc (.cells #[.int .u64 0, .int .i64 0, .int .i64 0] 26)).setRow w3.heap.size #[.int .u64 (no : Int), .int .i64 (ar : Int), .int .i64 (ln : Int)]) = w4 at *
      have HC4 : Hid (LgC w4 bl bd m (PK j).1 (PK j).2.1 (PK j).2.2 (.slice none 0 0) (.slice none 0 0) (.slice none 0 0) false) := HC3.out.keep BH.out
      have O4 : Hid (Off (fun k => k = bl) w w4) := O3.out.andBelow BH.out
      have c2 := HC4.out.cells.c2
      have z0 : w4.cell? ⟨w3.heap.size, 0, none⟩ = some (.int .u64 (no : Int)) := by simp [World.cell?, ZH.out]
      have hblw4 : bl < w3.heap.size := HC3.out.lt
      cases ok with
      | false =>
        have HP2 : Hid (PK (j + 1) = PK j) := by show _ = _; rw [HPS.out, if_neg (fun e => by cases e.1)]
        go_quiet (fail)
        go_wp2_with fail
        go_roundg (2 - (j + 1))
        case measure => omega
        case rel => exact ⟨j + 1, by omega, rfl, by go_num, by show LgC _ _ _ _ _ _ _ _ _ _ _; rw [HP2.out]; exact HC4.out.keep (below_drewN (Below.refl _ _) _), O4.out.andBelow (below_drewN (Below.refl _ _) _)⟩
      | true =>
        obtain ⟨rfl, rfl, rfl⟩ := HY.out rfl
        obtain ⟨y1, y2, y3⟩ := HDO.out rfl
        generalize hN b = no at *
        generalize hA b = ar at *
        generalize hL b = ln at *
        by_cases hgt : (PK j).1 < no
        · have HP2 : Hid (PK (j + 1) = (no, ar, ln)) := by show _ = _; rw [HPS.out, if_pos ⟨rfl, hgt⟩]
          have e1 : (((PK j).1 : Nat) : Int) < (no : Int) := by omega
          have L9 := HC4.out.cells
          have k3 := L9.c3
          have k4 := L9.c4
          have f2 := L9.f 2
          have f3 := L9.f 3
          have f4 := L9.f 4
          clear L9
          go_quiet (fail)
          have ZD : Hid ((w4.drewN nq).heap[w3.heap.size]? = some (.cells #[.int .u64 (no : Int), .int .i64 (ar : Int), .int .i64 (ln : Int)] 26)) := ZH.out
          have CD : Hid (LgC (w4.drewN nq) bl bd m (PK j).1 (PK j).2.1 (PK j).2.2 (.slice none 0 0) (.slice none 0 0) (.slice none 0 0) false) := HC4.out
          have OD : Hid (Off (fun k => k = bl) w (w4.drewN nq)) := O4.out.andBelow (below_drewN (Below.refl _ _) _)
          go_wp2_with (refine wpList_load_row rfl 26 (.tmp 7) rfl w3.heap.size rfl 26 #[.int .u64 (no : Int), .int .i64 (ar : Int), .int .i64 (ln : Int)] (0, 0) _ ZD.out Try.underlying26 rfl size3H ?_)
          go_roundg (2 - (j + 1))
          case measure => omega
          case rel => exact ⟨j + 1, by omega, rfl, by go_num, by show LgC _ _ _ _ _ _ _ _ _ _ _; rw [HP2.out]; exact CD.out.setHead no ar ln, off_set (off_set (off_set OD.out rfl) rfl) rfl⟩
        · have HP2 : Hid (PK (j + 1) = PK j) := by show _ = _; rw [HPS.out, if_neg (fun e => hgt e.2)]
          have e1 : ¬ (((PK j).1 : Nat) : Int) < (no : Int) := by omega
          go_quiet (fail)
          go_wp2_with fail
          go_roundg (2 - (j + 1))
          case measure => omega
          case rel => exact ⟨j + 1, by omega, rfl, by go_num, by show LgC _ _ _ _ _ _ _ _ _ _ _; rw [HP2.out]; exact HC4.out.keep (below_drewN (Below.refl _ _) _), O4.out.andBelow (below_drewN (Below.refl _ _) _)⟩
    · have e : j = 2 := by omega
      subst e
      have i1 : ¬ ((2 : Nat) : Int) < 2 := by omega
      obtain ⟨hp1, hp2, hp3⟩ := PB.out 2 (by omega)
      clear PB PJ IX HBJ
      obtain ⟨pk, hpk⟩ : ∃ pk, pk = PK 2 := ⟨_, rfl⟩
      rw [← hpk] at hp1 hp2 hp3 HC
      obtain ⟨no, ar, ln⟩ := pk
      simp only at hp1 hp2 hp3
      have HPK : Hid (PK 2 = (no, ar, ln)) := hpk.symm
      clear hpk
      have HC2 : Hid (LgC wr bl bd m no ar ln (.slice none 0 0) (.slice none 0 0) (.slice none 0 0) false) := HC.out
      have c2 := HC2.out.cells.c2
      have c4 := HC2.out.cells.c4
      have D2 : Hid (Dk wr F bd N s) := HD.out.apart HO.out (fun k hk e => HF.out (e ▸ hk))
      clear HC
      by_cases hn0 : no = 0
      · have HE : Hid (fndE s m (no, ar, ln) = 6) := by show _ = _; unfold fndE; rw [if_pos hn0]
        have e0 : ((no : Nat) : Int) = 0 := by omega
        clear hn0
        go_wp2_with fail
        go_ret
        rw [HPK.out]
        exact ⟨by rw [HE.out]; rfl, HO.out, fun e => by rw [HE.out] at e; cases e⟩
      · have e0 : (((no : Nat) : Int) == 0) = false := by rw [beq_eq_false_iff_ne]; omega
        have hfit : 2 + ar * m + 0 + (ln + 63) / 64 ≤ s.D.length := by
          have : ar * m ≤ m := by rcases (by omega : ar = 0 ∨ ar = 1) with rfl | rfl <;> omega
          omega
        have KR : Hid (Calls Try.prog 27 #[.pointer (some ⟨bl, 0, none⟩), .int .i64 0, .int .i64 (ln : Int)] wr fun e w' => ∃ a, e = .returned (.tuple #[.slice a ln ln, .int .i64 0]) ∧ Holds w' a (s.log m ar ln) ∧ (a = none → ln = 0) ∧ (∀ x, a = some x → wr.heap.size ≤ x.block ∧ x.block < w'.heap.size) ∧ Below wr.heap.size wr w') := wread_is wr F bd N s D2.out hNN hu bl m ar (by omega) hp2 HC2.out.cells.c0 HC2.out.cells.c1 HC2.out.cells.c3 0 ln (by omega) hfit
        have hlog : (s.log m ar ln).length = ln ∧ IsBytes (s.log m ar ln) := by
          have c := cat_64 D2.out ((ln + 63) / 64) (2 + ar * m) (by omega)
          unfold Ds.log
          exact ⟨by rw [List.length_take, c.1]; omega, bytes_of_mem fun x hx => bytes_mem c.2 x (List.mem_of_mem_take hx)⟩
        have HLG : Hid ((s.log m ar ln).length = ln ∧ IsBytes (s.log m ar ln)) := hlog
        have HE : Hid (fndE s m (no, ar, ln) = if (al ln (s.log m ar ln)).2.2 ≠ 0 then 6 else 0) := by show _ = _; unfold fndE; rw [if_neg hn0]
        clear hlog hfit
        go_wp2_with fail
        refine KR.out.mono ?_
        rintro e w2 ⟨a2, rfl, hh2, hn2, hx2, hb2⟩
        have B2 : Hid (Below wr.heap.size wr w2) := hb2
        have KA : Hid (Calls Try.prog 58 #[.slice a2 ln ln] w2 (AllSaid w2 ln (s.log m ar ln))) := all_is w2 ln ln a2 (s.log m ar ln) HLG.out.1 HLG.out.2 hh2 (fun x hx _ => (hx2 x hx).2) (Nat.le_refl _) (by omega) (by omega)
        have O2 : Hid (Off (fun k => k = bl) w w2) := HO.out.andBelow hb2
        have HC3 : Hid (LgC w2 bl bd m no ar ln (.slice none 0 0) (.slice none 0 0) (.slice none 0 0) false) := HC2.out.keep hb2
        clear hh2 hn2 hx2 hb2 KR c2 c4
        obtain ⟨LG, hLG⟩ : ∃ LG, LG = s.log m ar ln := ⟨_, rfl⟩
        rw [← hLG] at HLG HE KA
        have HLOG : Hid (LG = s.log m ar ln) := hLG
        clear hLG
        go_wp2_with fail
        refine KA.out.mono ?_
        rintro e w3 ⟨v3, vs3, rfl, hr3, hbo3, hb3⟩
        have R3 : Hid (Rows2 w3 w2.heap.size v3 vs3) := hr3
        have BO3 : Hid (Bods w3 w2.heap.size vs3 (al ln LG).1 w3.heap.size) := hbo3
        have O3 : Hid (Off (fun k => k = bl) w w3) := O2.out.andBelow hb3
        have HC4 : Hid (LgC w3 bl bd m no ar ln (.slice none 0 0) (.slice none 0 0) (.slice none 0 0) false) := HC3.out.keep hb3
        have hs3 : w2.heap.size ≤ w3.heap.size := hb3.size
        have hs2 : w.heap.size ≤ w2.heap.size := O2.out.size
        have hblw2 : bl < w2.heap.size := HC3.out.lt
        have hcnt : 8 * (al ln LG).1.length ≤ ln := al_count LG ln HLG.out.1
        clear hr3 hbo3 hb3 KA
        obtain ⟨AL, hAL⟩ : ∃ AL, AL = al ln LG := ⟨_, rfl⟩
        rw [← hAL] at hcnt BO3 HE ⊢
        have HAL : Hid (al ln (s.log m ar ln) = AL) := by show _ = _; rw [← HLOG.out, hAL]
        clear hAL
        obtain ⟨Bs, pe, er⟩ := AL
        simp only at hcnt
        by_cases her : er ≠ 0
        · have HE2 : Hid (fndE s m (no, ar, ln) = 6) := by show _ = _; rw [HE.out, if_pos her]
          have e5 : (((er : Nat) : Int) == 0) = false := by rw [beq_eq_false_iff_ne]; omega
          obtain ⟨g3, c3, hv3⟩ : ∃ a c, v3 = .slice a vs3.length c := by
            rcases R3.out.2 with ⟨rfl, hn⟩ | ⟨g, cap, cur, rfl, _⟩
            · exact ⟨none, 0, by rw [hn]⟩
            · exact ⟨_, _, rfl⟩
          subst hv3
          go_wp2_with fail
          go_ret
          rw [HPK.out]
          exact ⟨by rw [HE2.out]; rfl, O3.out, fun e => by rw [HE2.out] at e; cases e⟩
        · have her0 : er = 0 := by omega
          subst her0
          have HE2 : Hid (fndE s m (no, ar, ln) = 0) := by show _ = _; rw [HE.out, if_neg her]
          have hvl : vs3.length = Bs.length := BO3.out.len
          obtain ⟨a3, c3, hv3⟩ : ∃ a c, v3 = .slice a vs3.length c := by
            rcases R3.out.2 with ⟨rfl, hn⟩ | ⟨g, cap, cur, rfl, _⟩
            · exact ⟨none, 0, by rw [hn]⟩
            · exact ⟨_, _, rfl⟩
          subst hv3
          rw [hvl] at R3 ⊢
          clear HLG HE her
          go_wp2_with fail
          go_loopg [72] Bs.length (fun g i wv => ∃ (j : Nat) (vr : Value), j ≤ Bs.length ∧ g = Bs.length - j ∧ i = .int .i64 (j : Int) ∧ Hid (LgC wv bl bd m no ar ln vr (.slice none 0 0) (.slice none 0 0) false) ∧ Hid (RowsS wv w3.heap.size vr (Bs.take j)) ∧ Hid (Off (fun k => k = bl) w3 wv))
          case atStart => exact ⟨0, .slice none 0 0, Nat.zero_le _, rfl, rfl, HC4, RowsS.nil _ _, Off.refl _ _⟩
          case round =>
            obtain ⟨j, vr, hj, rfl, rfl, HCv, HRv, HOv⟩ := hrel
            have hszv := HOv.out.size
            by_cases hlt : j < Bs.length
            · have i1 : (j : Int) < ((Bs.length : Nat) : Int) := by omega
              obtain ⟨ab, hvb, hob, hltb⟩ := BO3.out.get j hlt
              have HT : Hid (Bs.take (j + 1) = Bs.take j ++ [Bs.getD j []]) := take_succ_getD Bs j hlt
              have eB : Bs[j] = Bs.getD j [] := by rw [List.getD_eq_getElem?_getD, List.getElem?_eq_getElem hlt]; rfl
              rw [eB] at hvb hob hltb
              generalize Bs.getD j [] = Bj at *
              obtain ⟨g3, rfl⟩ : ∃ g, a3 = some ⟨g, 0, none⟩ := by
                obtain ⟨g, c, e, _⟩ := World.ownsRow.form R3.out (by omega)
                simp only [Value.slice.injEq] at e
                exact ⟨g, e.1⟩
              have hgb := World.ownsRow.lt R3.out g3 rfl
              have hcell3 := World.ownsRow.cells R3.out (g := g3) rfl j _ hvb
              rw [add_plain, Nat.zero_add] at hcell3
              have kc : wr.cell? ⟨g3, j, none⟩ = some (.slice ab Bj.length Bj.length) := (World.cell?_of_block (a := ⟨g3, j, none⟩) (HOv.out.block g3 hgb.2 (fun e => by have e2 : g3 = bl := e; omega))).trans hcell3
              have HoB : Hid (Owned wr w2.heap.size (.slice ab Bj.length Bj.length) Bj) := owned_kept hob fun k hk => HOv.out.block k (hltb k hk) (fun e => by have e2 : k = bl := e; have := (World.ownsRow.lt hob k hk).1; omega)
              have cv : Hid (∀ u, Below wr.heap.size wr u → (convert 28 9 (.slice ab Bj.length Bj.length)).run Try.prog u = .ok (.string (strOfNums Bj)) u) := fun u hu => conv_str (HoB.out.keep2 hu).holds.1 _ _ rfl
              have hhr : w3.heap.size ≤ wr.heap.size := hszv
              clear hvb hob hltb hcell3 eB
              go_wp2_with fail
              refine wp_region_noPanic ?_
              refine wp_region_held_drew (S := (fun u : World => (convert 28 9 (.slice ab Bj.length Bj.length)).run Try.prog u = .ok (.string (strOfNums Bj)) u)) (by kernel_rfl) ?hSar (fun hHeld => ?restar)
              case hSar => exact cv.out _ (below_drewN (Below.refl _ _) 1)
              case restar =>
              have DR : Hid (Below wr.heap.size wr wr.drew) := below_drewN (Below.refl _ _) 1
              generalize World.drew wr = u0 at hHeld DR ⊢
              refine wpAnyH_take (i := 0) (v := .pointer (some ⟨bl, 0, none⟩)) rfl (by kernel_rfl) (by kernel_rfl) (by kernel_rfl) (fun _ _ _ h => h) (Or.inl ⟨by kernel_rfl, ?hy0r⟩) hHeld ?rest0r
              case hy0r => (intro u hSu; clear hSu; go_simp; try with_reducible rfl)
              case rest0r =>
              try simp only [Act.put, List.setIfInBounds_toArray, List.set_cons_zero, List.set_cons_succ, List.getElem_toArray, List.getElem_cons_zero]
              refine wpAnyH_take (i := 1) (v := .pointer (some ⟨bl, 0, none⟩)) rfl (by kernel_rfl) (by kernel_rfl) (by kernel_rfl) (fun _ _ _ h => h) (Or.inl ⟨by kernel_rfl, ?hy1r⟩) hHeld ?rest1r
              case hy1r => (intro u hSu; clear hSu; go_simp; try with_reducible rfl)
              case rest1r =>
              try simp only [Act.put, List.setIfInBounds_toArray, List.set_cons_zero, List.set_cons_succ, List.getElem_toArray, List.getElem_cons_zero, List.getElem_cons_succ]
              refine wpAnyH_take (i := 2) (v := .pointer (some ⟨bl, 0, none⟩)) rfl (by kernel_rfl) (by kernel_rfl) (by kernel_rfl) (fun _ _ _ h => h) (Or.inl ⟨by kernel_rfl, ?hy2r⟩) hHeld ?rest2r
              case hy2r => (intro u hSu; clear hSu; go_simp; try with_reducible rfl)
              case rest2r =>
              try simp only [Act.put, List.setIfInBounds_toArray, List.set_cons_zero, List.set_cons_succ, List.getElem_toArray, List.getElem_cons_zero, List.getElem_cons_succ]
              refine wpAnyH_take (i := 3) (v := .pointer (some ⟨bl, 5, none⟩)) rfl (by kernel_rfl) (by kernel_rfl) (by kernel_rfl) (fun _ _ _ h => h) (Or.inl ⟨by kernel_rfl, ?hy3r⟩) hHeld ?rest3r
              case hy3r => (intro u hSu; clear hSu; go_simp; try with_reducible rfl)
              case rest3r =>
              try simp only [Act.put, List.setIfInBounds_toArray, List.set_cons_zero, List.set_cons_succ, List.getElem_toArray, List.getElem_cons_zero, List.getElem_cons_succ]
              refine wpAnyH_take (i := 5) (v := .slice ab Bj.length Bj.length) rfl (by kernel_rfl) (by kernel_rfl) (by kernel_rfl) (fun _ _ _ h => h) (Or.inl ⟨by kernel_rfl, ?hy5r⟩) hHeld ?rest5r
              case hy5r => (intro u hSu; clear hSu; go_simp; try with_reducible rfl)
              case rest5r =>
              try simp only [Act.put, List.setIfInBounds_toArray, List.set_cons_zero, List.set_cons_succ, List.getElem_toArray, List.getElem_cons_zero, List.getElem_cons_succ]
              refine wpAnyH_take (i := 6) (v := .string (strOfNums Bj)) rfl (by kernel_rfl) (by kernel_rfl) (by kernel_rfl) (fun _ _ _ h => h) (Or.inl ⟨by kernel_rfl, ?hy6r⟩) hHeld ?rest6r
              case hy6r => (intro u hSu; have hS1 := hSu; clear hSu; go_simp; try with_reducible rfl)
              case rest6r =>
              try simp only [Act.put, List.setIfInBounds_toArray, List.set_cons_zero, List.set_cons_succ, List.getElem_toArray, List.getElem_cons_zero, List.getElem_cons_succ]
              have C0 : Hid (LgC u0 bl bd m no ar ln vr (.slice none 0 0) (.slice none 0 0) false) := HCv.out.keep DR.out
              have RR0 : Hid (RowsS u0 w3.heap.size vr (Bs.take j)) := HRv.out.keep DR.out
              have B1 : Hid (Below u0.heap.size u0 (u0.alloc (.cells #[.string (strOfNums Bj)] 9))) := gB_alloc u0 _
              have cvA : (convert 28 9 (.slice ab Bj.length Bj.length)).run Try.prog (u0.alloc (.cells #[.string (strOfNums Bj)] 9)) = .ok (.string (strOfNums Bj)) (u0.alloc (.cells #[.string (strOfNums Bj)] 9)) := cv.out _ (DR.out.trans (B1.out.mono DR.out.size))
              have k5 := C0.out.cells.c5
              have k5A := (C0.out.keep B1.out).cells.c5
              refine wpAnyH_ready (rs := [4, 7]) (by kernel_rfl) (by simp) ?_
              refine AllReadyH.cons rfl (fun K hK => ?_) (AllReadyH.cons rfl (fun K hK => ?_) AllReadyH.nil)
              · go_simp
                refine hK.out _ _ ?hS4x (fun hHeld => ?rest4x)
                case hS4x => exact hHeld
                clear hK K
                try simp only [Act.put, List.setIfInBounds_toArray, List.set_cons_zero, List.set_cons_succ, List.getElem_toArray, List.getElem_cons_zero, List.getElem_cons_succ]
                refine wpAnyH_ready (rs := [7]) (by kernel_rfl) (by simp) ?_
                refine AllReadyH.cons rfl (fun K hK => ?_) AllReadyH.nil
                go_simp
                refine hK.out _ _ ?hS7x (fun hHeld => ?rest7x)
                case hS7x => exact cvA
                clear hK K
                try simp only [Act.put, List.setIfInBounds_toArray, List.set_cons_zero, List.set_cons_succ, List.getElem_toArray, List.getElem_cons_zero, List.getElem_cons_succ]
                have CA : Hid ((u0.alloc (.cells #[.string (strOfNums Bj)] 9)).cell? ⟨u0.heap.size, 0, none⟩ = some (.string (strOfNums Bj))) := by show _ = _; rw [cell_of_row _ u0.heap.size 0 _ _ (0, 0) (heap_alloc_new u0 _)]; rfl
                refine wpAnyH_ready (rs := [8]) (by kernel_rfl) (by simp) ?_
                refine AllReadyH.cons rfl (fun K hK => ?_) AllReadyH.nil
                refine appT (.tmp 80) (.tmp 83) rfl w3.heap.size vr (Bs.take j) rfl (RR0.out.keep B1.out) ⟨u0.heap.size, 0, none⟩ 1 1 [Bj] rfl rfl (one_in CA.out) (by rw [List.length_take]; omega) (by have h1 := DR.out.size; have h2 := B1.out.size; omega) ?_
                intro v7 u4 hr7 hg7 hat7
                have C4 : Hid (LgC u4 bl bd m no ar ln vr (.slice none 0 0) (.slice none 0 0) false) := (hg7.block bl (C0.out.keep B1.out).lt (fun e => by have := (RR0.out.own bl e.symm).1; omega)).trans (C0.out.keep B1.out)
                have O4 : Hid (Off (fun k => k = bl) w3 u4) := (((HOv.out.andBelow DR.out).andBelow B1.out).grown hg7 (fun k e => .inr (RR0.out.own k e).1))
                have OB4 : Hid (Owned u4 w2.heap.size (.slice ab Bj.length Bj.length) Bj) := owned_kept HoB.out fun k hk => by
                  have hkl := Owned.lt' HoB.out k hk
                  have h1 := DR.out.size
                  have h2 := B1.out.size
                  refine (hg7.block k (by omega) (fun e => ?_)).trans ((B1.out.block k (by omega)).trans (DR.out.block k hkl))
                  obtain ⟨cs, hcs⟩ := cells_type HRv.out k e.symm
                  obtain ⟨ds, hds⟩ := cells_type HoB.out k hk
                  rw [hcs] at hds
                  simp at hds
                have cv4 : (convert 28 9 (.slice ab Bj.length Bj.length)).run Try.prog u4 = .ok (.string (strOfNums Bj)) u4 := conv_str OB4.out.holds.1 _ _ rfl
                have R4 : Hid (RowsS u4 w3.heap.size v7 (Bs.take (j + 1))) := by show RowsS _ _ _ _; rw [HT.out]; exact hr7
                obtain ⟨a7, c7, hv7, _⟩ := hr7.slice
                rw [show (Bs.take j ++ [Bj]).length = j + 1 by rw [List.length_append, List.length_take, List.length_singleton]; omega] at hv7
                subst hv7
                clear hr7 hg7 hat7
                refine hK.out _ _ ?hS8x (fun hHeld => ?rest8x)
                case hS8x => exact cv4
                clear hK K
                try simp only [Act.put, List.setIfInBounds_toArray, List.set_cons_zero, List.set_cons_succ, List.getElem_toArray, List.getElem_cons_zero, List.getElem_cons_succ]
                refine wpAnyH_take (i := 9) (v := .pointer (some ⟨bl, 0, none⟩)) rfl (by kernel_rfl) (by kernel_rfl) (by kernel_rfl) (fun _ _ _ h => h) (Or.inl ⟨by kernel_rfl, ?hy9x⟩) hHeld ?rest9x
                case hy9x => (intro u hSu; clear hSu; go_simp; try with_reducible rfl)
                case rest9x =>
                try simp only [Act.put, List.setIfInBounds_toArray, List.set_cons_zero, List.set_cons_succ, List.getElem_toArray, List.getElem_cons_zero, List.getElem_cons_succ]
                refine wpAnyH_take (i := 10) (v := .pointer (some ⟨bl, 5, none⟩)) rfl (by kernel_rfl) (by kernel_rfl) (by kernel_rfl) (fun _ _ _ h => h) (Or.inl ⟨by kernel_rfl, ?hy10x⟩) hHeld ?rest10x
                case hy10x => (intro u hSu; clear hSu; go_simp; try with_reducible rfl)
                case rest10x =>
                try simp only [Act.put, List.setIfInBounds_toArray, List.set_cons_zero, List.set_cons_succ, List.getElem_toArray, List.getElem_cons_zero, List.getElem_cons_succ]
                have x5 := C4.out.cells.c5
                have f5 := C4.out.cells.f 5
                refine wpAnyH_ready (rs := [11]) (by kernel_rfl) (by simp) ?_
                refine AllReadyH.cons rfl (fun K hK => ?_) AllReadyH.nil
                go_simp
                refine hK.out _ _ ?hS11x (fun hHeld => ?rest11x)
                case hS11x => exact conv_str (owned_kept OB4.out fun k hk => set_other (fun e => by have := (World.ownsRow.lt OB4.out k hk).1; omega)).holds.1 _ _ rfl
                clear hK K
                refine wpAnyH_done (by kernel_rfl) ?_ _
                refine NoPanic.normal ?_
                clear hHeld
                go_wp2_with fail
                go_roundg (Bs.length - (j + 1))
                case measure => omega
                case rel => exact ⟨j + 1, _, by omega, rfl, by go_num, C4.out.setR _, R4.out.kept fun k hk => set_other (fun e => by have := (R4.out.own k hk).1; have h2 : bl < w2.heap.size := hblw2; omega), off_set O4.out rfl⟩
              · go_simp
                refine hK.out _ _ ?hS7y (fun hHeld => ?rest7y)
                case hS7y => exact cvA
                clear hK K
                try simp only [Act.put, List.setIfInBounds_toArray, List.set_cons_zero, List.set_cons_succ, List.getElem_toArray, List.getElem_cons_zero, List.getElem_cons_succ]
                refine wpAnyH_ready (rs := [4]) (by kernel_rfl) (by simp) ?_
                refine AllReadyH.cons rfl (fun K hK => ?_) AllReadyH.nil
                go_simp
                refine hK.out _ _ ?hS4y (fun hHeld => ?rest4y)
                case hS4y => exact cvA
                clear hK K
                try simp only [Act.put, List.setIfInBounds_toArray, List.set_cons_zero, List.set_cons_succ, List.getElem_toArray, List.getElem_cons_zero, List.getElem_cons_succ]
                have CA : Hid ((u0.alloc (.cells #[.string (strOfNums Bj)] 9)).cell? ⟨u0.heap.size, 0, none⟩ = some (.string (strOfNums Bj))) := by show _ = _; rw [cell_of_row _ u0.heap.size 0 _ _ (0, 0) (heap_alloc_new u0 _)]; rfl
                refine wpAnyH_ready (rs := [8]) (by kernel_rfl) (by simp) ?_
                refine AllReadyH.cons rfl (fun K hK => ?_) AllReadyH.nil
                refine appT (.tmp 80) (.tmp 83) rfl w3.heap.size vr (Bs.take j) rfl (RR0.out.keep B1.out) ⟨u0.heap.size, 0, none⟩ 1 1 [Bj] rfl rfl (one_in CA.out) (by rw [List.length_take]; omega) (by have h1 := DR.out.size; have h2 := B1.out.size; omega) ?_
                intro v7 u4 hr7 hg7 hat7
                have C4 : Hid (LgC u4 bl bd m no ar ln vr (.slice none 0 0) (.slice none 0 0) false) := (hg7.block bl (C0.out.keep B1.out).lt (fun e => by have := (RR0.out.own bl e.symm).1; omega)).trans (C0.out.keep B1.out)
                have O4 : Hid (Off (fun k => k = bl) w3 u4) := (((HOv.out.andBelow DR.out).andBelow B1.out).grown hg7 (fun k e => .inr (RR0.out.own k e).1))
                have OB4 : Hid (Owned u4 w2.heap.size (.slice ab Bj.length Bj.length) Bj) := owned_kept HoB.out fun k hk => by
                  have hkl := Owned.lt' HoB.out k hk
                  have h1 := DR.out.size
                  have h2 := B1.out.size
                  refine (hg7.block k (by omega) (fun e => ?_)).trans ((B1.out.block k (by omega)).trans (DR.out.block k hkl))
                  obtain ⟨cs, hcs⟩ := cells_type HRv.out k e.symm
                  obtain ⟨ds, hds⟩ := cells_type HoB.out k hk
                  rw [hcs] at hds
                  simp at hds
                have cv4 : (convert 28 9 (.slice ab Bj.length Bj.length)).run Try.prog u4 = .ok (.string (strOfNums Bj)) u4 := conv_str OB4.out.holds.1 _ _ rfl
                have R4 : Hid (RowsS u4 w3.heap.size v7 (Bs.take (j + 1))) := by show RowsS _ _ _ _; rw [HT.out]; exact hr7
                obtain ⟨a7, c7, hv7, _⟩ := hr7.slice
                rw [show (Bs.take j ++ [Bj]).length = j + 1 by rw [List.length_append, List.length_take, List.length_singleton]; omega] at hv7
                subst hv7
                clear hr7 hg7 hat7
                refine hK.out _ _ ?hS8y (fun hHeld => ?rest8y)
                case hS8y => exact cv4
                clear hK K
                try simp only [Act.put, List.setIfInBounds_toArray, List.set_cons_zero, List.set_cons_succ, List.getElem_toArray, List.getElem_cons_zero, List.getElem_cons_succ]
                refine wpAnyH_take (i := 9) (v := .pointer (some ⟨bl, 0, none⟩)) rfl (by kernel_rfl) (by kernel_rfl) (by kernel_rfl) (fun _ _ _ h => h) (Or.inl ⟨by kernel_rfl, ?hy9y⟩) hHeld ?rest9y
                case hy9y => (intro u hSu; clear hSu; go_simp; try with_reducible rfl)
                case rest9y =>
                try simp only [Act.put, List.setIfInBounds_toArray, List.set_cons_zero, List.set_cons_succ, List.getElem_toArray, List.getElem_cons_zero, List.getElem_cons_succ]
                refine wpAnyH_take (i := 10) (v := .pointer (some ⟨bl, 5, none⟩)) rfl (by kernel_rfl) (by kernel_rfl) (by kernel_rfl) (fun _ _ _ h => h) (Or.inl ⟨by kernel_rfl, ?hy10y⟩) hHeld ?rest10y
                case hy10y => (intro u hSu; clear hSu; go_simp; try with_reducible rfl)
                case rest10y =>
                try simp only [Act.put, List.setIfInBounds_toArray, List.set_cons_zero, List.set_cons_succ, List.getElem_toArray, List.getElem_cons_zero, List.getElem_cons_succ]
                have x5 := C4.out.cells.c5
                have f5 := C4.out.cells.f 5
                refine wpAnyH_ready (rs := [11]) (by kernel_rfl) (by simp) ?_
                refine AllReadyH.cons rfl (fun K hK => ?_) AllReadyH.nil
                go_simp
                refine hK.out _ _ ?hS11y (fun hHeld => ?rest11y)
                case hS11y => exact conv_str (owned_kept OB4.out fun k hk => set_other (fun e => by have := (World.ownsRow.lt OB4.out k hk).1; omega)).holds.1 _ _ rfl
                clear hK K
                refine wpAnyH_done (by kernel_rfl) ?_ _
                refine NoPanic.normal ?_
                clear hHeld
                go_wp2_with fail
                go_roundg (Bs.length - (j + 1))
                case measure => omega
                case rel => exact ⟨j + 1, _, by omega, rfl, by go_num, C4.out.setR _, R4.out.kept fun k hk => set_other (fun e => by have := (R4.out.own k hk).1; have h2 : bl < w2.heap.size := hblw2; omega), off_set O4.out rfl⟩
            · have e : j = Bs.length := by omega
              subst e
              have i1 : ¬ ((Bs.length : Nat) : Int) < ((Bs.length : Nat) : Int) := by omega
              have HT : Hid (Bs.take Bs.length = Bs) := List.take_of_length_le (Nat.le_refl _)
              go_wp2_with fail
              go_ret
              rw [HPK.out]
              refine ⟨by rw [HE2.out]; rfl, O3.out.trans HOv.out (fun k hk => .inl hk), fun _ => ⟨vr, HCv.out, ?_⟩⟩
              have q := HRv.out
              rw [HT.out] at q
              show RowsS _ _ _ (al ln (s.log m ar ln)).1
              rw [HAL.out]
              exact q.base (by omega)
end Go.Proofs.Ytchnbfdfcjahpaa
namespace Go.Proofs.Ytchnbfdfcjahpaa
open Go.ChangeShapes Go.WideShapes Go.ChangeAt Go.RowKit Go.Deep Go.Maps
set_option linter.unusedVariables false
theorem rd_inv (L : List Int) (hb : IsBytes L) (e : (rd L).2.2 = 0) : L.take (rd L).2.1 = frameL (rd L).1 ∧ IsBytes (rd L).1 ∧ (rd L).1.length ≤ 4096 := by
  unfold rd at e ⊢
  split at e
  · simp at e
  · rename_i h1
    rw [if_neg h1]
    split at e
    · simp at e
    · rename_i h2
      rw [if_neg h2]
      split at e
      · simp at e
      · rename_i h3
        rw [if_neg h3]
        split at e
        · simp at e
        · rename_i h4
          rw [if_neg h4]
          have g := ge4_range L hb 0 (by omega)
          have hK : ge4 L 0 = ((ge4 L 0).toNat : Int) := (Int.toNat_of_nonneg g.1).symm
          have w := (whole_iff L hb (ge4 L 0).toNat hK (by omega)).2 (by simpa using h4)
          exact ⟨w.symm, bytes_of_mem fun x hx => bytes_mem hb x (List.mem_of_mem_drop (List.mem_of_mem_take hx)), by rw [List.length_take]; omega⟩
theorem al_inv : ∀ (f : Nat) (L : List Int), IsBytes L → L.length ≤ f → (al f L).2.2 = 0 → joinL (al f L).1 = L ∧ ∀ B ∈ (al f L).1, IsBytes B ∧ B.length ≤ 4096
  | 0, L, hb, hf, e => by
    have : L = [] := List.length_eq_zero_iff.1 (by omega)
    subst this
    exact ⟨rfl, fun B hB => by cases hB⟩
  | f + 1, L, hb, hf, e => by
    by_cases h : L = []
    · subst h
      rw [al_nil]
      exact ⟨rfl, fun B hB => by cases hB⟩
    · by_cases he : (rd L).2.2 = 0
      · rw [al_step f L h he] at e ⊢
        obtain ⟨r1, r2, r3⟩ := rd_inv L hb he
        obtain ⟨o1, o2, o3⟩ := rd_ok L he
        obtain ⟨i1, i2⟩ := al_inv f (L.drop (rd L).2.1) (bytes_of_mem fun x hx => bytes_mem hb x (List.mem_of_mem_drop hx)) (by rw [List.length_drop]; omega) e
        refine ⟨?_, fun B hB => ?_⟩
        · show frameL (rd L).1 ++ joinL _ = L
          rw [i1, ← r1, List.take_append_drop]
        · rcases List.mem_cons.1 hB with rfl | hB
          · exact ⟨r2, r3⟩
          · exact i2 B hB
      · rw [al_bad f L h he] at e
        exact absurd e he
theorem val_fixL8 (no : Nat) (h : no < 18446744073709551616) : val (fixL (no : Int) 8) = no := by
  rw [val_fixL _ (by omega)]
  have : (256 : Int) ^ 8 = 18446744073709551616 := by decide
  rw [this]; omega
theorem val_fixL4 (n : Nat) (h : n < 4294967296) : val (fixL (n : Int) 4) = n := by
  rw [val_fixL _ (by omega)]
  have : (256 : Int) ^ 4 = 4294967296 := by decide
  rw [this]; omega
/-- the numbers of a head's bytes -/
theorem hd_nums (no ar ln : Nat) (hno : no < 18446744073709551616) (hln : ln < 4294967296) : hN (hdB no ar ln) = no ∧ hA (hdB no ar ln) = ar ∧ hL (hdB no ar ln) = ln := by
  obtain ⟨T, hT⟩ : ∃ T : List Int, T = List.replicate 44 0 ++ le4 (cmore 0 (hd60 no ar ln) : Nat) := ⟨_, rfl⟩
  have e : hdB no ar ln = 86 :: 72 :: (ar : Int) :: 0 :: (fixL (no : Int) 8 ++ (fixL (ln : Int) 4 ++ T)) := by
    rw [hT]
    unfold hdB hd60 hd16
    simp only [List.append_assoc]
    rfl
  have l8 : (fixL (no : Int) 8).length = 8 := fixL_length _ _
  have l4 : (fixL (ln : Int) 4).length = 4 := fixL_length _ _
  rw [e]
  refine ⟨?_, rfl, ?_⟩
  · show (val ((fixL (no : Int) 8 ++ (fixL (ln : Int) 4 ++ T)).take 8)).toNat = no
    rw [List.take_append_of_le_length (by omega), List.take_of_length_le (by omega), val_fixL8 no hno]
    rfl
  · show (val (((fixL (no : Int) 8 ++ (fixL (ln : Int) 4 ++ T)).drop 8).take 4)).toNat = ln
    rw [List.drop_append_of_le_length (by omega), List.drop_of_length_le (by omega), List.nil_append, List.take_append_of_le_length (by omega), List.take_of_length_le (by omega), val_fixL4 ln hln]
    rfl
theorem hd_ok (m no ar ln : Nat) (h1 : 1 ≤ no) (h2 : no ≤ 1152921504606846976) (ha : ar ≤ 1) (hln : ln ≤ 64 * m) (hm : m ≤ 4096) : hdOk m (no % 2) (hdB no ar ln) = true := by
  obtain ⟨e1, e2, e3⟩ := hd_nums no ar ln (by omega) (by omega)
  unfold hdOk
  rw [decide_eq_true_iff, e1, e2, e3]
  exact ⟨h1, h2, rfl, ha, hln, rfl⟩
/-- no head is noughts alone -/
theorem hd_zero (no ar ln : Nat) : hdB no ar ln ≠ List.replicate 64 0 := by
  intro e
  have := congrArg (fun l => l.getD 0 0) e
  have h0 : (hdB no ar ln).getD 0 0 = 86 := rfl
  rw [h0] at this
  cases this
theorem zero_no (m p : Nat) : hdOk m p (List.replicate 64 0) = false := by
  unfold hdOk
  rw [decide_eq_false_iff_not]
  intro h
  exact hd_zero _ _ _ h.2.2.2.2.2
end Go.Proofs.Ytchnbfdfcjahpaa
namespace Go.Proofs.Ytchnbfdfcjahpaa
open Go.ChangeShapes Go.WideShapes Go.ChangeAt Go.RowKit Go.Deep Go.Maps
set_option linter.unusedVariables false
/-- block g is an array of two blocks -/
def Bk2 (w : World) (g : Nat) (L : List Int) : Prop := w.heap[g]? = some (.cells (bk L) 88)
theorem Bk2.lt {w : World} {g : Nat} {L : List Int} (h : Bk2 w g L) : g < w.heap.size := (Array.getElem?_eq_some_iff.1 h).1
theorem Bk2.keep {w w' : World} {g : Nat} {L : List Int} (h : Bk2 w g L) (hb : Below w.heap.size w w') : Bk2 w' g L := (hb.block g h.lt).trans h
theorem copyB2 {w : World} {ops : Array Oper} {rest : List Oper} {o : Oper} {act : Act} {Q : Exit → Act → World → Prop} (hgd : o.guard = none) (d s : Operand)
    (ho : o.op = .call { callee := .builtin .copy, args := #[d, s], argTypes := #[28, 28] })
    (g off dl dc : Nat) (L : List Int) (hd : act.eval d = .slice (some ⟨g, off, none⟩) dl dc) (hg : Bk2 w g L)
    (x : Addr) (m c : Nat) (B : List Int) (hs : act.eval s = .slice (some x) m c) (hm : B.length = m) (hh : Holds w (some x) B) (hle : m ≤ dl) (hfit : off + m ≤ L.length)
    (h : ∀ w', Bk2 w' g (splice L off B) → w.grownBy w' (some g) → w'.heap.size = w.heap.size → wpList Try.prog ops Q rest (act.put o.dst (.int .i64 (m : Int))) w') :
    wpList Try.prog ops Q (o :: rest) act w := by
  subst hm
  refine wpList_plain hgd fun K hK => ?_
  have hsrc : ∀ j v, (B.map (Value.int .u8))[j]? = some v → w.cell? (x.add j) = some v := by
    intro j v hv
    rw [List.getElem?_map] at hv
    cases hj : B[j]? with
    | none => rw [hj] at hv; cases hv
    | some y =>
      rw [hj] at hv
      obtain rfl := Option.some.inj hv
      have hlt := (List.getElem?_eq_some_iff.1 hj).1
      rcases hh with rfl | ⟨b, o2, hx, hc⟩
      · simp at hlt
      · obtain rfl := Option.some.inj hx
        rw [add_plain, hc j hlt, List.getD_eq_getElem?_getD, hj]
        rfl
  have hrun := run_copy_row (P := Try.prog) w 28 28 o.type 5 g off dl dc x B.length c (bk L) 88 (B.map (Value.int .u8)) Try.underlying28 (by kernel_rfl) hg (by rw [List.length_map]; exact (Nat.min_eq_left hle).symm) hsrc (by rw [List.length_map, bk_size]; exact hfit) (ints_oneCell _ _)
  unfold Oper.wp
  simp [execOp, ho, resolve, invoke, builtin, hd, hs, hrun, Result.andThen]
  refine hK _ _ (h _ ?_ (grown_setRow w g _) (by simp [World.setRow]))
  have e := setRow_heap w g (bk L) ((bk L).toList.take off ++ B.map (Value.int .u8) ++ (bk L).toList.drop (off + (B.map (Value.int .u8)).length)).toArray 88 (0, 0) hg
  unfold Bk2
  have e2 := splice_map L off B
  simp only [bk] at e ⊢
  rw [← e2]
  simpa using e
def hz128 : Array Value := #[.int .u8 0, .int .u8 0, .int .u8 0, .int .u8 0, .int .u8 0, .int .u8 0, .int .u8 0, .int .u8 0, .int .u8 0, .int .u8 0, .int .u8 0, .int .u8 0, .int .u8 0, .int .u8 0, .int .u8 0, .int .u8 0, .int .u8 0, .int .u8 0, .int .u8 0, .int .u8 0, .int .u8 0, .int .u8 0, .int .u8 0, .int .u8 0, .int .u8 0, .int .u8 0, .int .u8 0, .int .u8 0, .int .u8 0, .int .u8 0, .int .u8 0, .int .u8 0, .int .u8 0, .int .u8 0, .int .u8 0, .int .u8 0, .int .u8 0, .int .u8 0, .int .u8 0, .int .u8 0, .int .u8 0, .int .u8 0, .int .u8 0, .int .u8 0, .int .u8 0, .int .u8 0, .int .u8 0, .int .u8 0, .int .u8 0, .int .u8 0, .int .u8 0, .int .u8 0, .int .u8 0, .int .u8 0, .int .u8 0, .int .u8 0, .int .u8 0, .int .u8 0, .int .u8 0, .int .u8 0, .int .u8 0, .int .u8 0, .int .u8 0, .int .u8 0, .int .u8 0, .int .u8 0, .int .u8 0, .int .u8 0, .int .u8 0, .int .u8 0, .int .u8 0, .int .u8 0, .int .u8 0, .int .u8 0, .int .u8 0, .int .u8 0, .int .u8 0, .int .u8 0, .int .u8 0, .int .u8 0, .int .u8 0, .int .u8 0, .int .u8 0, .int .u8 0, .int .u8 0, .int .u8 0, .int .u8 0, .int .u8 0, .int .u8 0, .int .u8 0, .int .u8 0, .int .u8 0, .int .u8 0, .int .u8 0, .int .u8 0, .int .u8 0, .int .u8 0, .int .u8 0, .int .u8 0, .int .u8 0, .int .u8 0, .int .u8 0, .int .u8 0, .int .u8 0, .int .u8 0, .int .u8 0, .int .u8 0, .int .u8 0, .int .u8 0, .int .u8 0, .int .u8 0, .int .u8 0, .int .u8 0, .int .u8 0, .int .u8 0, .int .u8 0, .int .u8 0, .int .u8 0, .int .u8 0, .int .u8 0, .int .u8 0, .int .u8 0, .int .u8 0, .int .u8 0, .int .u8 0, .int .u8 0, .int .u8 0, .int .u8 0]
theorem hz128_is : hz128 = bk (List.replicate 64 0 ++ List.replicate 64 0) := by kernel_rfl
/-- the two blocks as they are copied, one behind the other -/
def tw (b0 b1 : List Int) (j : Nat) : List Int := if j = 0 then List.replicate 64 0 ++ List.replicate 64 0 else if j = 1 then b0 ++ List.replicate 64 0 else b0 ++ b1
theorem tw_step (b0 b1 : List Int) (h0 : b0.length = 64) (h1 : b1.length = 64) (j : Nat) (hj : j < 2) : splice (tw b0 b1 j) (64 * j) (bJ b0 b1 j) = tw b0 b1 (j + 1) := by
  rcases (by omega : j = 0 ∨ j = 1) with rfl | rfl
  · show splice (List.replicate 64 0 ++ List.replicate 64 0) 0 b0 = b0 ++ List.replicate 64 0
    unfold splice
    rw [h0, List.take_zero, List.nil_append, List.drop_append_of_le_length (by simp), List.drop_of_length_le (by simp), List.nil_append]
  · show splice (b0 ++ List.replicate 64 0) 64 b1 = b0 ++ b1
    unfold splice
    rw [h1, List.take_append_of_le_length (by omega), List.take_of_length_le (by omega), List.drop_of_length_le (by simp [h0]), List.append_nil]
theorem tw_len (b0 b1 : List Int) (h0 : b0.length = 64) (h1 : b1.length = 64) (j : Nat) : (tw b0 b1 j).length = 128 := by
  unfold tw
  split
  · simp
  · split <;> simp [h0, h1]
theorem bJ_len {b0 b1 : List Int} (h0 : b0.length = 64) (h1 : b1.length = 64) (j : Nat) : (bJ b0 b1 j).length = 64 := by
  by_cases h : j = 0
  · rw [bJ, if_pos h]; exact h0
  · rw [bJ, if_neg h]; exact h1
theorem bJ_0 (x y : List Int) : bJ x y 0 = x := rfl
theorem bJ_1 (x y : List Int) : bJ x y 1 = y := rfl
def prt (X : Array Value) (i : Nat) : Sem Value := part 87 X (i * 64)
theorem prt_is (X : Array Value) (i : Nat) : part 87 X (i * 64) = prt X i := rfl
theorem equal_two (d : Nat) (x0 x1 y0 y1 : List Int) (a0 : x0.length = 64) (a1 : x1.length = 64) (b0 : y0.length = 64) (b1 : y1.length = 64) (w : World) :
    (Op.equalIn (d + 3) 88 (.agg (bk (x0 ++ x1))) (.agg (bk (y0 ++ y1)))).run Try.prog w = .ok ((List.range 2).all fun i => decide (bJ x0 x1 i = bJ y0 y1 i)) w := by
  rw [List.range_eq_range', Op.equalIn]
  simp only [Sem.run_bind, run_underlying Try.underlying88, Result.andThen_ok, size64r, Std.Legacy.Range.forIn_eq_forIn_range', Std.Legacy.Range.size, Nat.sub_zero, Nat.add_sub_cancel, Nat.div_one, prt_is]
  have hl : ∀ i ∈ List.range' 0 2 1, i < 2 := fun i hi => by simpa using (List.mem_range'_1.1 hi).2
  generalize List.range' 0 2 1 = l at hl ⊢
  induction l with
  | nil => simp
  | cons i l ih =>
    have hi : i < 2 := hl i (by simp)
    have px := part_two x0 x1 a0 a1 i hi w
    have py := part_two y0 y1 b0 b1 i hi w
    rw [prt_is] at px py
    have pe := equal_block d (bJ x0 x1 i) (bJ y0 y1 i) (bJ_len a0 a1 i) (bJ_len b0 b1 i) w
    rw [List.forIn_cons, Sem.run_bind, Sem.run_bind, px, Result.andThen_ok, Sem.run_bind, py, Result.andThen_ok, Sem.run_bind, pe, Result.andThen_ok, List.all_cons]
    generalize decide (bJ x0 x1 i = bJ y0 y1 i) = c
    cases c
    · rfl
    · simp only [Bool.not_true, Bool.false_eq_true, if_false, Sem.run_pure, Result.andThen_ok, Bool.true_and]
      exact ih fun j hj => hl j (List.mem_cons_of_mem _ hj)
theorem all_two (x0 x1 y0 y1 : List Int) : ((List.range 2).all fun i => decide (bJ x0 x1 i = bJ y0 y1 i)) = (decide (x0 = y0) && decide (x1 = y1)) := by
  show (decide (x0 = y0) && (decide (x1 = y1) && true)) = _
  rw [Bool.and_true]
theorem guard_two : Try.prog.eqGuardType Try.prog.depth 88 = false := by kernel_rfl
end Go.Proofs.Ytchnbfdfcjahpaa
namespace Go.Proofs.Ytchnbfdfcjahpaa
open Go.ChangeShapes Go.WideShapes Go.ChangeAt Go.RowKit Go.Deep Go.Maps
set_option linter.unusedVariables false
/-- findOrBegin, plainly: whether both blocks are noughts, what is found or begun -/
def Ds.fob (s : Ds) (m : Nat) : Int × Option (Nat × Nat × List (List Int)) × Ds :=
  if s.cur 0 = List.replicate 64 0 ∧ s.cur 1 = List.replicate 64 0 then
    (if (s.run [some (1, hdB 1 0 0), none]).1 = 0 then (0, some (1, 0, []), (s.run [some (1, hdB 1 0 0), none]).2) else ((s.run [some (1, hdB 1 0 0), none]).1, none, (s.run [some (1, hdB 1 0 0), none]).2))
  else (if fndE s m (pkJ m (s.cur 0) (s.cur 1) 2) = 0 then (0, some ((pkJ m (s.cur 0) (s.cur 1) 2).1, (pkJ m (s.cur 0) (s.cur 1) 2).2.1, (al (pkJ m (s.cur 0) (s.cur 1) 2).2.2 (s.log m (pkJ m (s.cur 0) (s.cur 1) 2).2.1 (pkJ m (s.cur 0) (s.cur 1) 2).2.2)).1), s) else (fndE s m (pkJ m (s.cur 0) (s.cur 1) 2), none, s))
theorem log_len {w : World} {F : Nat → Prop} {bd N : Nat} {s : Ds} (H : Dk w F bd N s) (m ar ln : Nat) (har : ar ≤ 1) (hln : ln ≤ 64 * m) (hD : 2 + 2 * m ≤ s.D.length) : (s.log m ar ln).length = ln ∧ IsBytes (s.log m ar ln) := by
  have : ar * m ≤ m := by rcases (by omega : ar = 0 ∨ ar = 1) with rfl | rfl <;> omega
  have c := cat_64 H ((ln + 63) / 64) (2 + ar * m) (by omega)
  unfold Ds.log
  exact ⟨by rw [List.length_take, c.1]; omega, bytes_of_mem fun x hx => bytes_mem c.2 x (List.mem_of_mem_take hx)⟩
/-- what findOrBegin leaves in memory -/
def FobSaid (w : World) (F : Nat → Prop) (bl bd N m : Nat) (X : Int × Option (Nat × Nat × List (List Int)) × Ds) (e : Ending) (w' : World) : Prop :=
  e = .returned (.int .i64 X.1) ∧ ∃ F', Dk w' F' bd (N + 2) X.2.2 ∧ StepL F F' bl w w' ∧ (X.1 = 0 → ∃ no ar R vr, X.2.1 = some (no, ar, R) ∧ LgC w' bl bd m no ar (joinL R).length vr (.slice none 0 0) (.slice none 0 0) false ∧ RowsS w' w.heap.size vr R ∧ 1 ≤ no ∧ no ≤ 1152921504606846976 ∧ ar ≤ 1 ∧ (joinL R).length ≤ 64 * m ∧ (∀ B ∈ R, IsBytes B ∧ B.length ≤ 4096) ∧ ∀ k, vr.ownBlock = some k → ¬ F' k)
set_option maxRecDepth 100000 in
set_option maxHeartbeats 4000000 in
theorem fob_is (w : World) (F : Nat → Prop) (bd N : Nat) (s : Ds) (H : Dk w F bd N s) (hNN : N < 999998) (hu : s.up = true) (bl m : Nat) (hm : m ≤ 2047) (hm2 : 2 ≤ m) (hD : 2 + 2 * m ≤ s.D.length) (hlg : LgC w bl bd m 0 0 0 (.slice none 0 0) (.slice none 0 0) (.slice none 0 0) false) (hF : ¬ F bl) :
    Calls Try.prog 33 #[.pointer (some ⟨bl, 0, none⟩)] w (FobSaid w F bl bd N m (s.fob m)) := by
  obtain ⟨h0, h0b⟩ := cur_64 H 0 (by omega)
  obtain ⟨h1, h1b⟩ := cur_64 H 1 (by omega)
  obtain ⟨X, hX⟩ : ∃ X, X = s.fob m := ⟨_, rfl⟩
  rw [← hX]
  have HX : Hid (X = s.fob m) := hX
  have HD : Hid (Dk w F bd N s) := H
  have HL : Hid (LgC w bl bd m 0 0 0 (.slice none 0 0) (.slice none 0 0) (.slice none 0 0) false) := hlg
  have HF : Hid (¬ F bl) := hF
  have hblw := hlg.lt
  have KR : Hid (∀ (u : World) (j : Nat), j < 2 → Below w.heap.size w u → Calls Try.prog 43 #[.pointer (some ⟨bd, 0, none⟩), .int .i64 (j : Int)] u fun e w' => ∃ g c, e = .returned (.tuple #[.slice (some ⟨g, 0, none⟩) 64 c, .int .i64 0]) ∧ Owned w' u.heap.size (.slice (some ⟨g, 0, none⟩) 64 c) (bJ (s.cur 0) (s.cur 1) j) ∧ Below u.heap.size u w') := fun u j hj hb => by
    have e : s.cur j = bJ (s.cur 0) (s.cur 1) j := by rcases (by omega : j = 0 ∨ j = 1) with rfl | rfl <;> rfl
    refine (dk_read u F bd N s (H.keep hb) (by omega) (j : Int)).mono ?_
    rintro e2 w' ⟨a, n, c, he, hl, ho, hb⟩
    rw [Ds.rd_up s hu j (by omega)] at he hl ho
    obtain rfl : 64 = n := (cur_64 H j (by omega)).1.symm.trans hl
    obtain ⟨g, hg⟩ := Owned.some ho (by omega)
    subst hg
    rw [e] at ho
    exact ⟨g, c, he, ho, hb⟩
  have TS : Hid (∀ j, j < 2 → splice (tw (s.cur 0) (s.cur 1) j) (j * 64) (bJ (s.cur 0) (s.cur 1) j) = tw (s.cur 0) (s.cur 1) (j + 1)) := fun j hj => by rw [Nat.mul_comm]; exact tw_step _ _ h0 h1 j hj
  have TL : Hid (∀ j, (tw (s.cur 0) (s.cur 1) j).length = 128) := fun j => tw_len _ _ h0 h1 j
  have JL : Hid (∀ j, (bJ (s.cur 0) (s.cur 1) j).length = 64) := fun j => bJ_len h0 h1 j
  have TZ : Hid (tw (s.cur 0) (s.cur 1) 0 = List.replicate 64 0 ++ List.replicate 64 0) := rfl
  have T2 : Hid (tw (s.cur 0) (s.cur 1) 2 = s.cur 0 ++ s.cur 1) := rfl
  have KF : Hid (∀ u, Below w.heap.size w u → Calls Try.prog 46 #[.pointer (some ⟨bl, 0, none⟩), .agg (bk (s.cur 0 ++ s.cur 1))] u (FndSaid u s m bl bd (pkJ m (s.cur 0) (s.cur 1) 2))) := fun u hb => find_is u F bd N s (H.keep hb) (by omega) hu bl m hm hD (hlg.keep hb) hF _ _ ⟨h0, h0b⟩ ⟨h1, h1b⟩
  have PB := pkJ_b m (s.cur 0) (s.cur 1) 2 (Nat.le_refl _)
  have HPB : Hid ((pkJ m (s.cur 0) (s.cur 1) 2).1 ≤ 1152921504606846976 ∧ (pkJ m (s.cur 0) (s.cur 1) 2).2.1 ≤ 1 ∧ (pkJ m (s.cur 0) (s.cur 1) 2).2.2 ≤ 64 * m) := PB
  have KW : Hid (∀ u, Below w.heap.size w u → Calls Try.prog 45 #[.pointer (some ⟨bl, 0, none⟩), .agg #[.int .u64 1, .int .i64 0, .int .i64 0]] u fun e w' => e = .returned (.int .i64 (s.run [some (1, hdB 1 0 0), none]).1) ∧ ∃ F', Dk w' F' bd (N + 2) (s.run [some (1, hdB 1 0 0), none]).2 ∧ StepL F F' bl u w' ∧
      (((s.run [some (1, hdB 1 0 0), none]).1 = 0 ∧ LgC w' bl bd m 1 0 0 (.slice none 0 0) (.slice none 0 0) (.slice none 0 0) false) ∨ ((s.run [some (1, hdB 1 0 0), none]).1 ≠ 0 ∧ LgC w' bl bd m 0 0 0 (.slice none 0 0) (.slice none 0 0) (.slice none 0 0) false))) := fun u hb => writeHead_is u F bd N s (H.keep hb) hNN bl m 0 0 0 _ _ _ false (hlg.keep hb) hF 1 0 0 (by omega) (by omega) (by omega)
  obtain ⟨TW, hTW⟩ : ∃ TW, TW = tw (s.cur 0) (s.cur 1) := ⟨_, rfl⟩
  obtain ⟨BJ, hBJ⟩ : ∃ BJ, BJ = bJ (s.cur 0) (s.cur 1) := ⟨_, rfl⟩
  rw [← hTW] at TS TL TZ T2
  rw [← hBJ] at TS KR JL
  have B0 : Hid (Below w.heap.size w (w.alloc (.cells hz128 88))) := gB_alloc w _
  have K0 : Hid (Bk2 (w.alloc (.cells hz128 88)) w.heap.size (TW 0)) := by
    show _ = _
    rw [TZ.out, ← hz128_is]
    exact heap_alloc_new w _
  clear hTW hBJ hX H hlg hF PB
  go_enter Try.func33, Try.ntmps33
  go_wp2_with fail
  go_loopg [7] 2 (fun g i wr => ∃ j : Nat, j ≤ 2 ∧ g = 2 - j ∧ i = .int .i64 (j : Int) ∧ Hid (Bk2 wr w.heap.size (TW j)) ∧ Hid (Below w.heap.size w wr))
  case atStart => exact ⟨0, Nat.zero_le _, rfl, rfl, K0.out, B0.out⟩
  case round =>
    obtain ⟨j, hj, rfl, rfl, HK, HB⟩ := hrel
    have hsz := HB.out.size
    by_cases hlt : j < 2
    · have i1 : (j : Int) < 2 := by omega
      have c0 := (HL.out.keep HB.out).cells.c0
      go_wp2_with fail
      refine (KR.out wr j hlt HB.out).mono ?_
      rintro e w2 ⟨g, c, rfl, ho, hb⟩
      have O2 : Hid (Owned w2 wr.heap.size (.slice (some ⟨g, 0, none⟩) 64 c) (BJ j)) := ho
      have HK2 : Hid (Bk2 w2 w.heap.size (TW j)) := HK.out.keep hb
      have HB2 : Hid (Below w.heap.size w w2) := HB.out.trans (hb.mono HB.out.size)
      clear ho hb c0
      go_wp2_with (refine copyB2 rfl (.tmp 24) (.tmp 25) rfl w.heap.size (j * 64) 64 64 (TW j) rfl HK2.out _ 64 c (BJ j) rfl (JL.out j) O2.out.holds.1 (by decide) (by rw [TL.out]; omega) ?_; intro w3 hk3 hg3 hs3; have HK3 : Hid (Bk2 w3 w.heap.size (TW (j + 1))) := (by rw [TS.out j hlt] at hk3; exact hk3); have HB3 : Hid (Below w.heap.size w w3) := (HB2.out.grown hg3 HB2.out.size (fun k e => Nat.le_of_eq (Option.some.inj e))); clear hk3 hg3 hs3)
      go_roundg (2 - (j + 1))
      case measure => omega
      case rel => exact ⟨j + 1, by omega, rfl, by go_num, HK3, HB3⟩
    · have e : j = 2 := by omega
      subst e
      have i1 : ¬ ((2 : Nat) : Int) < 2 := by omega
      rw [T2.out] at HK
      clear TS TL TZ T2 JL KR
      have hlen : (s.cur 0 ++ s.cur 1).length = 128 := by rw [List.length_append, h0, h1]
      have HSZ : Hid ((Try.prog.info? 88).map (·.size) = some (bk (s.cur 0 ++ s.cur 1)).size) := by show _ = _; rw [bk_size, hlen]; kernel_rfl
      have HKK : Hid (wr.heap[w.heap.size]? = some (.cells (bk (s.cur 0 ++ s.cur 1)) 88)) := HK.out
      have g9 := guard_two
      have hzz : Try.zeroCells88 = hz128 := by kernel_rfl
      have e9 : ∀ u, (Op.equalIn 10000 88 (.agg (bk (s.cur 0 ++ s.cur 1))) (.agg Try.zeroCells88)).run Try.prog u = .ok (decide (s.cur 0 = List.replicate 64 0) && decide (s.cur 1 = List.replicate 64 0)) u := fun u => by rw [hzz, hz128_is, ← all_two]; exact equal_two 9997 _ _ _ _ h0 h1 (by simp) (by simp) u
      clear hlen hzz
      have BW : Hid (Below w.heap.size w wr) := HB.out
      by_cases hz : s.cur 0 = List.replicate 64 0 ∧ s.cur 1 = List.replicate 64 0
      · have HX2 : Hid (X = if (s.run [some (1, hdB 1 0 0), none]).1 = 0 then (0, some (1, 0, []), (s.run [some (1, hdB 1 0 0), none]).2) else ((s.run [some (1, hdB 1 0 0), none]).1, none, (s.run [some (1, hdB 1 0 0), none]).2)) := by show _ = _; rw [HX.out, Ds.fob, if_pos hz]
        have eb : (decide (s.cur 0 = List.replicate 64 0) && decide (s.cur 1 = List.replicate 64 0)) = true := by rw [decide_eq_true hz.1, decide_eq_true hz.2]; rfl
        rw [eb] at e9
        clear eb hz KF HPB
        generalize bk (s.cur 0 ++ s.cur 1) = BB at *
        generalize s.run [some (1, hdB 1 0 0), none] = R at *
        go_wp2_with (refine wpList_load_row rfl 88 (.tmp 3) rfl w.heap.size rfl 88 BB (0, 0) _ HKK.out Try.underlying88 rfl HSZ.out ?_)
        refine (KW.out wr BW.out).mono ?_
        rintro e w3 ⟨rfl, F3, hd3, hs3, hor⟩
        have D3 : Hid (Dk w3 F3 bd (N + 2) R.2) := hd3
        have S3 : Hid (StepL F F3 bl w w3) := StepL.trans (G := F) ⟨Off.ofBelow _ BW.out, fun _ hk => .inl hk⟩ hs3
        have OR : Hid ((R.1 = 0 ∧ LgC w3 bl bd m 1 0 0 (.slice none 0 0) (.slice none 0 0) (.slice none 0 0) false) ∨ (R.1 ≠ 0 ∧ LgC w3 bl bd m 0 0 0 (.slice none 0 0) (.slice none 0 0) (.slice none 0 0) false)) := hor
        clear hd3 hs3 hor
        go_wp2_with fail
        go_ret
        rcases OR.out with ⟨h1, hl⟩ | ⟨h1, hl⟩
        · rw [if_pos h1] at HX2
          refine ⟨by rw [HX2.out, h1]; rfl, F3, by rw [HX2.out]; exact D3.out, S3.out, fun _ => ⟨1, 0, [], .slice none 0 0, by rw [HX2.out], hl, RowsS.nil _ _, by omega, by omega, by omega, Nat.zero_le _, (fun B hB => by cases hB), fun k hk => by cases hk⟩⟩
        · rw [if_neg h1] at HX2
          exact ⟨by rw [HX2.out]; rfl, F3, by rw [HX2.out]; exact D3.out, S3.out, fun e => by rw [HX2.out] at e; exact absurd e h1⟩
      · have HX2 : Hid (X = if fndE s m (pkJ m (s.cur 0) (s.cur 1) 2) = 0 then (0, some ((pkJ m (s.cur 0) (s.cur 1) 2).1, (pkJ m (s.cur 0) (s.cur 1) 2).2.1, (al (pkJ m (s.cur 0) (s.cur 1) 2).2.2 (s.log m (pkJ m (s.cur 0) (s.cur 1) 2).2.1 (pkJ m (s.cur 0) (s.cur 1) 2).2.2)).1), s) else (fndE s m (pkJ m (s.cur 0) (s.cur 1) 2), none, s)) := by show _ = _; rw [HX.out, Ds.fob, if_neg hz]
        have eb : (decide (s.cur 0 = List.replicate 64 0) && decide (s.cur 1 = List.replicate 64 0)) = false := by
          rw [Bool.and_eq_false_iff]
          by_cases h : s.cur 0 = List.replicate 64 0
          · exact .inr (decide_eq_false fun e => hz ⟨h, e⟩)
          · exact .inl (decide_eq_false h)
        rw [eb] at e9
        have KF2 : Hid (Calls Try.prog 46 #[.pointer (some ⟨bl, 0, none⟩), .agg (bk (s.cur 0 ++ s.cur 1))] wr (FndSaid wr s m bl bd (pkJ m (s.cur 0) (s.cur 1) 2))) := KF.out wr BW.out
        clear eb hz KW KF
        generalize bk (s.cur 0 ++ s.cur 1) = BB at *
        generalize pkJ m (s.cur 0) (s.cur 1) 2 = pk at *
        go_wp2_with (refine wpList_load_row rfl 88 (.tmp 3) rfl w.heap.size rfl 88 BB (0, 0) _ HKK.out Try.underlying88 rfl HSZ.out ?_)
        refine KF2.out.mono ?_
        rintro e w3 ⟨rfl, ho3, hy3⟩
        have O3 : Hid (Off (fun k => k = bl) wr w3) := ho3
        have Y3 : Hid (fndE s m pk = 0 → ∃ vr, LgC w3 bl bd m pk.1 pk.2.1 pk.2.2 vr (.slice none 0 0) (.slice none 0 0) false ∧ RowsS w3 wr.heap.size vr (al pk.2.2 (s.log m pk.2.1 pk.2.2)).1) := hy3
        have D3 : Hid (Dk w3 F bd N s) := (HD.out.keep BW.out).apart ho3 (fun k hk e => HF.out (e ▸ hk))
        have S3 : Hid (StepL F F bl w w3) := ⟨(Off.ofBelow _ BW.out).trans ho3 (fun k hk => .inl (.inr hk)), fun _ hk => .inl hk⟩
        clear ho3 hy3
        go_wp2_with fail
        go_ret
        by_cases hf : fndE s m pk = 0
        · rw [if_pos hf] at HX2
          obtain ⟨vr, hl, hr⟩ := Y3.out hf
          obtain ⟨lg1, lg2⟩ := log_len HD.out m pk.2.1 pk.2.2 HPB.out.2.1 HPB.out.2.2 hD
          have hal : (al pk.2.2 (s.log m pk.2.1 pk.2.2)).2.2 = 0 := by
            unfold fndE at hf
            by_cases h1 : pk.1 = 0
            · rw [if_pos h1] at hf; cases hf
            · rw [if_neg h1] at hf
              by_cases h2 : (al pk.2.2 (s.log m pk.2.1 pk.2.2)).2.2 ≠ 0
              · rw [if_pos h2] at hf; cases hf
              · omega
          obtain ⟨i1, i2⟩ := al_inv _ _ lg2 (by omega) hal
          have hp0 : 1 ≤ pk.1 := by
            unfold fndE at hf
            by_cases h1 : pk.1 = 0
            · rw [if_pos h1] at hf; cases hf
            · omega
          refine ⟨by rw [HX2.out, hf]; rfl, F, by rw [HX2.out]; exact D3.out.more (by omega), S3.out, fun _ => ⟨pk.1, pk.2.1, _, vr, by rw [HX2.out], ?_, hr.base BW.out.size, hp0, HPB.out.1, HPB.out.2.1, by rw [i1, lg1]; exact HPB.out.2.2, i2, fun k hk hf => by have h1 := (hr.own k hk).1; have h2 := HD.out.lt k hf; have h3 := BW.out.size; omega⟩⟩
          rw [i1, lg1]
          exact hl
        · rw [if_neg hf] at HX2
          exact ⟨by rw [HX2.out]; rfl, F, by rw [HX2.out]; exact D3.out.more (by omega), S3.out, fun e => by rw [HX2.out] at e; exact absurd e hf⟩
end Go.Proofs.Ytchnbfdfcjahpaa
namespace Go.Proofs.Ytchnbfdfcjahpaa
open Go.ChangeShapes Go.WideShapes Go.ChangeAt Go.RowKit Go.Deep Go.Maps
set_option linter.unusedVariables false
/-- Open, plainly -/
def Ds.am (s : Ds) : Nat := (s.D.length - 2) / 2
def Ds.opn (s : Ds) : Int × Option Lg × Ds :=
  if s.up = false then (15, none, s)
  else if s.D.length < 6 then (2, none, s)
  else ((s.fob s.am).1, (s.fob s.am).2.1.map (fun x => ⟨s.am, x.1, x.2.1, x.2.2, [], false⟩), (s.fob s.am).2.2)
def OpnSaid (w : World) (F : Nat → Prop) (bd N : Nat) (X : Int × Option Lg × Ds) (e : Ending) (w' : World) : Prop :=
  ∃ F', Dk w' F' bd (N + 2) X.2.2 ∧ Step F F' w w' ∧
    ((X.1 = 0 ∧ ∃ bl G l, X.2.1 = some l ∧ e = .returned (.tuple #[.pointer (some ⟨bl, 0, none⟩), .int .i64 0]) ∧ Lm w' G bl bd l ∧ l.Ok N ∧ 1 ≤ l.no ∧ (∀ k, G k → w.heap.size ≤ k) ∧ ∀ k, G k → ¬ F' k) ∨
     (X.1 ≠ 0 ∧ e = .returned (.tuple #[.pointer none, .int .i64 X.1])))
set_option maxRecDepth 100000 in
set_option maxHeartbeats 4000000 in
theorem open_is (w : World) (F : Nat → Prop) (bd N : Nat) (s : Ds) (H : Dk w F bd N s) (hNN : N < 999998) : Calls Try.prog 15 #[.pointer (some ⟨bd, 0, none⟩)] w (OpnSaid w F bd N s.opn) := by
  have hD := H.is64.2.2
  have KB : Hid (Calls Try.prog 24 #[.pointer (some ⟨bd, 0, none⟩)] w fun e w' => e = .returned (.int .i64 (s.D.length : Int)) ∧ w' = w) := dk_blocks w F bd N s H
  have KU : Hid (Calls Try.prog 32 #[.pointer (some ⟨bd, 0, none⟩)] w fun e w' => e = .returned (.bool s.up) ∧ w' = w) := dk_up w F bd N s H
  have HD : Hid (Dk w F bd N s) := H
  have hne : ((s.D.length : Nat) : Int) ≠ 0 := by omega
  have hne2 : (((s.D.length : Nat) : Int) == 0) = false := by rw [beq_eq_false_iff_ne]; exact hne
  by_cases hu : s.up = false
  · have HX : Hid (s.opn = (15, none, s)) := by show _ = _; rw [Ds.opn, if_pos hu]
    rw [hu] at KU
    generalize hX : s.opn = X at *
    clear H hX
    go_enter Try.func15, Try.ntmps15
    go_wp2_with fail
    refine KB.out.mono ?_
    rintro e w1 ⟨rfl, rfl⟩
    go_wp2_with fail
    refine KU.out.mono ?_
    rintro e w1 ⟨rfl, rfl⟩
    go_wp2_with fail
    go_ret2
    exact ⟨F, by rw [HX.out]; exact HD.out.more (by omega), Step.refl F _, .inr ⟨by rw [HX.out]; simp, by rw [HX.out]; rfl⟩⟩
  · have hup : s.up = true := by simpa using hu
    rw [hup] at KU
    by_cases h6 : s.D.length < 6
    · have HX : Hid (s.opn = (2, none, s)) := by show _ = _; rw [Ds.opn, if_neg hu, if_pos h6]
      have e6 : ((s.D.length : Nat) : Int) < 6 := by omega
      generalize hX : s.opn = X at *
      clear H hX
      go_enter Try.func15, Try.ntmps15
      go_wp2_with fail
      refine KB.out.mono ?_
      rintro e w1 ⟨rfl, rfl⟩
      go_wp2_with fail
      refine KU.out.mono ?_
      rintro e w1 ⟨rfl, rfl⟩
      go_wp2_with fail
      refine KB.out.mono ?_
      rintro e w1 ⟨rfl, rfl⟩
      go_wp2_with fail
      go_ret2
      exact ⟨F, by rw [HX.out]; exact HD.out.more (by omega), Step.refl F _, .inr ⟨by rw [HX.out]; simp, by rw [HX.out]; rfl⟩⟩
    · have HX : Hid (s.opn = ((s.fob s.am).1, (s.fob s.am).2.1.map (fun x => ⟨s.am, x.1, x.2.1, x.2.2, [], false⟩), (s.fob s.am).2.2)) := by show _ = _; rw [Ds.opn, if_neg hu, if_neg h6]
      have ham : s.am = (s.D.length - 2) / 2 := rfl
      have e6 : ¬ ((s.D.length : Nat) : Int) < 6 := by omega
      have KF : Hid (∀ u bl, Below w.heap.size w u → LgC u bl bd s.am 0 0 0 (.slice none 0 0) (.slice none 0 0) (.slice none 0 0) false → ¬ F bl → Calls Try.prog 33 #[.pointer (some ⟨bl, 0, none⟩)] u (FobSaid u F bl bd N s.am (s.fob s.am))) := fun u bl hb hl hf => fob_is u F bd N s (H.keep hb) hNN hup bl s.am (by omega) (by omega) (by omega) hl hf
      have td : Int.tdiv (((s.D.length : Nat) : Int) - 2) 2 = ((s.am : Nat) : Int) := by rw [Int.tdiv_eq_ediv_of_nonneg (by omega)]; omega
      have ham2 : s.am ≤ 2047 := by omega
      generalize hX : s.opn = X at *
      generalize s.fob s.am = Y at *
      generalize s.am = m at *
      have B1 : Hid (Below w.heap.size w (w.alloc (lgO bd m 0 0 0 (.slice none 0 0) (.slice none 0 0) (.slice none 0 0) false))) := gB_alloc w _
      have L1 : Hid (LgC (w.alloc (lgO bd m 0 0 0 (.slice none 0 0) (.slice none 0 0) (.slice none 0 0) false)) w.heap.size bd m 0 0 0 (.slice none 0 0) (.slice none 0 0) (.slice none 0 0) false) := heap_alloc_new w _
      have NF : Hid (¬ F w.heap.size) := fun e => by have := HD.out.lt _ e; omega
      have Z1 : Hid ((w.alloc (lgO bd m 0 0 0 (.slice none 0 0) (.slice none 0 0) (.slice none 0 0) false)).heap.size = w.heap.size + 1) := by show _ = _; simp
      obtain ⟨W1, hW1⟩ : ∃ W1, W1 = w.alloc (lgO bd m 0 0 0 (.slice none 0 0) (.slice none 0 0) (.slice none 0 0) false) := ⟨_, rfl⟩
      rw [← hW1] at B1 L1 Z1
      have HW1 : Hid (w.alloc (lgO bd m 0 0 0 (.slice none 0 0) (.slice none 0 0) (.slice none 0 0) false) = W1) := hW1.symm
      have K2 : Hid (Calls Try.prog 33 #[.pointer (some ⟨w.heap.size, 0, none⟩)] (w.alloc (lgO bd m 0 0 0 (.slice none 0 0) (.slice none 0 0) (.slice none 0 0) false)) (FobSaid W1 F w.heap.size bd N m Y)) := by rw [HW1.out]; exact KF.out W1 _ B1.out L1.out NF.out
      clear H hX hW1 ham
      go_enter Try.func15, Try.ntmps15
      go_wp2_with fail
      refine KB.out.mono ?_
      rintro e w1 ⟨rfl, rfl⟩
      go_wp2_with fail
      refine KU.out.mono ?_
      rintro e w1 ⟨rfl, rfl⟩
      go_wp2_with fail
      refine KB.out.mono ?_
      rintro e w1 ⟨rfl, rfl⟩
      go_wp2_with fail
      refine KB.out.mono ?_
      rintro e w1 ⟨rfl, rfl⟩
      go_wp2_with fail
      refine K2.out.mono ?_
      rintro e w3 ⟨rfl, F3, hd3, hs3, hy3⟩
      have D3 : Hid (Dk w3 F3 bd (N + 2) Y.2.2) := hd3
      have S3 : Hid (StepL F F3 w1.heap.size W1 w3) := hs3
      have T3 : Hid (Step F F3 w1 w3) := by
        have hz := Z1.out
        refine ⟨⟨hs3.off.os.trans B1.out.os, hs3.off.tape.trans B1.out.tape, hs3.off.output.trans B1.out.output, Nat.le_trans B1.out.size hs3.off.size, fun k hk hn => ?_⟩, fun k hk => ?_⟩
        · refine (hs3.off.block k (by omega) (fun e => e.elim hn fun e2 => ?_)).trans (B1.out.block k hk)
          have e3 : k = w1.heap.size := e2
          omega
        · rcases hs3.sub k hk with e | e
          · exact .inl e
          · exact .inr (by omega)
      have Y3 : Hid (Y.1 = 0 → ∃ no ar R vr, Y.2.1 = some (no, ar, R) ∧ LgC w3 w1.heap.size bd m no ar (joinL R).length vr (.slice none 0 0) (.slice none 0 0) false ∧ RowsS w3 W1.heap.size vr R ∧ 1 ≤ no ∧ no ≤ 1152921504606846976 ∧ ar ≤ 1 ∧ (joinL R).length ≤ 64 * m ∧ (∀ B ∈ R, IsBytes B ∧ B.length ≤ 4096) ∧ ∀ k, vr.ownBlock = some k → ¬ F3 k) := hy3
      clear hd3 hs3 hy3
      by_cases h0 : Y.1 = 0
      · rw [h0]
        go_wp2_with fail
        go_ret2
        obtain ⟨no, ar, R, vr, hy, hl, hr, n1, n2, n3, n4, n5, n6⟩ := Y3.out h0
        have hz := Z1.out
        refine ⟨F3, by rw [HX.out]; exact D3.out, T3.out, .inl ⟨by rw [HX.out]; exact h0, w1.heap.size, Lf w1.heap.size vr (.slice none 0 0) (.slice none 0 0), ⟨m, no, ar, R, [], false⟩, by rw [HX.out, hy]; rfl, rfl, ⟨vr, _, _, ⟨hl, hr.base (Nat.zero_le _), RowsS.nil _ _, World.ownsRow_nil _ _ _ _, fun k _ e => by cases e⟩, fun k => Iff.rfl⟩, ⟨ham2, by show no ≤ _; omega, n3, by show (joinL R).length + 0 ≤ 64 * m; omega, n5, fun B hB => by cases hB⟩, n1, fun k hk => ?_, fun k hk hf => ?_⟩⟩
        · rcases hk with rfl | hk | hk | hk
          · exact Nat.le_refl _
          · have := (hr.own k hk).1; omega
          · cases hk
          · cases hk
        · rcases hk with rfl | hk | hk | hk
          · rcases S3.out.sub _ hf with e | e
            · exact NF.out e
            · omega
          · exact n6 k hk hf
          · cases hk
          · cases hk
      · have e9 : (Y.1 == 0) = false := by rw [beq_eq_false_iff_ne]; exact h0
        go_wp2_with fail
        go_ret2
        exact ⟨F3, by rw [HX.out]; exact D3.out, T3.out, .inr ⟨by rw [HX.out]; exact h0, by rw [HX.out]; rfl⟩⟩
end Go.Proofs.Ytchnbfdfcjahpaa
namespace Go.Proofs.Ytchnbfdfcjahpaa
open Go.ChangeShapes Go.WideShapes Go.ChangeAt Go.RowKit Go.Deep Go.Maps
set_option linter.unusedVariables false
/-- a block's bytes; blocks one behind the other -/
def bAt (D : List (List Int)) (i : Nat) : List Int := D[i]?.getD []
def catD (D : List (List Int)) : Nat → Nat → List Int
  | _, 0 => []
  | i, k + 1 => bAt D i ++ catD D (i + 1) k
theorem cur_nil {s : Ds} (h : ∀ i, s.W i = []) (i : Nat) : s.cur i = bAt s.D i := by
  unfold Ds.cur bAt
  rw [h]
  rfl
theorem cat_nil {s : Ds} (h : ∀ i, s.W i = []) : ∀ (k i : Nat), s.cat i k = catD s.D i k
  | 0, i => rfl
  | k + 1, i => by rw [Ds.cat, catD, cur_nil h, cat_nil h k]
theorem catD_add (D : List (List Int)) : ∀ (a b i : Nat), catD D i (a + b) = catD D i a ++ catD D (i + a) b
  | 0, b, i => by rw [Nat.zero_add, Nat.add_zero]; rfl
  | a + 1, b, i => by
    rw [show a + 1 + b = (a + b) + 1 by omega, catD, catD, catD_add D a b (i + 1), List.append_assoc, show i + 1 + a = i + (a + 1) by omega]
theorem catD_len {D : List (List Int)} (h : Is64 D) : ∀ (k i : Nat), i + k ≤ D.length → (catD D i k).length = 64 * k
  | 0, i, _ => rfl
  | k + 1, i, hk => by
    have e : bAt D i = D[i]'(by omega) := by unfold bAt; rw [List.getElem?_eq_getElem (by omega)]; rfl
    rw [catD, List.length_append, catD_len h k (i + 1) (by omega), e, (h _ (List.getElem_mem _)).1]
    omega
theorem catD_same {D E : List (List Int)} : ∀ (k i : Nat), (∀ j, i ≤ j → j < i + k → E[j]? = D[j]?) → catD E i k = catD D i k
  | 0, i, _ => rfl
  | k + 1, i, h => by
    rw [catD, catD, catD_same k (i + 1) (fun j h1 h2 => h j (by omega) (by omega)), bAt, h i (by omega) (by omega)]
    rfl
/-- a log lies on blocks -/
structure Lies (D : List (List Int)) (m no ar : Nat) (R : List (List Int)) : Prop where
  hd : D[no % 2]? = some (hdB no ar (joinL R).length)
  oth : ∀ b, D[(no + 1) % 2]? = some b → hdOk m ((no + 1) % 2) b = true → hN b < no
  log : (catD D (2 + ar * m) (((joinL R).length + 63) / 64)).take (joinL R).length = joinL R
/-- numbers that a log may have -/
structure Nums (D : List (List Int)) (m no ar : Nat) (R : List (List Int)) : Prop where
  is64 : Is64 D
  len : 6 ≤ D.length ∧ D.length ≤ 4096
  mm : m = (D.length - 2) / 2
  nn : 1 ≤ no ∧ no ≤ 1152921504606846976
  aa : ar ≤ 1
  ln : (joinL R).length ≤ 64 * m
  rb : ∀ B ∈ R, IsBytes B ∧ B.length ≤ 4096
theorem opn_lies {s : Ds} {no ar : Nat} {R : List (List Int)} (hu : s.up = true) (hW : ∀ i, s.W i = []) (hn : Nums s.D s.am no ar R) (h : Lies s.D s.am no ar R) : s.opn = (0, some ⟨s.am, no, ar, R, [], false⟩, s) := by
  have h6 : ¬ s.D.length < 6 := by have := hn.len; omega
  have hm : s.am ≤ 4096 := by have := hn.len; have := hn.mm; unfold Ds.am; omega
  have hok := hd_ok s.am no ar (joinL R).length hn.nn.1 hn.nn.2 hn.aa hn.ln hm
  have hnum := hd_nums no ar (joinL R).length (by have := hn.nn; omega) (by have := hn.ln; omega)
  have hown : bAt s.D (no % 2) = hdB no ar (joinL R).length := by unfold bAt; rw [h.hd]; rfl
  have hoth : hdOk s.am ((no + 1) % 2) (bAt s.D ((no + 1) % 2)) = true → hN (bAt s.D ((no + 1) % 2)) < no := by
    intro e
    have hl : (no + 1) % 2 < s.D.length := by have := hn.len; omega
    have e2 : s.D[(no + 1) % 2]? = some (bAt s.D ((no + 1) % 2)) := by unfold bAt; rw [List.getElem?_eq_getElem hl]; rfl
    exact h.oth _ e2 e
  have hpk : pkJ s.am (s.cur 0) (s.cur 1) 2 = (no, ar, (joinL R).length) := by
    rw [cur_nil hW, cur_nil hW]
    show (if hdOk s.am 1 (bAt s.D 1) = true ∧ (pk1 s.am (bAt s.D 0)).1 < hN (bAt s.D 1) then (hN (bAt s.D 1), hA (bAt s.D 1), hL (bAt s.D 1)) else pk1 s.am (bAt s.D 0)) = _
    rcases (by omega : no % 2 = 0 ∨ no % 2 = 1) with e | e
    · have e1 : (no + 1) % 2 = 1 := by omega
      rw [e] at hown hok
      rw [e1] at hoth
      have p1 : pk1 s.am (bAt s.D 0) = (no, ar, (joinL R).length) := by rw [pk1, hown, if_pos hok, hnum.1, hnum.2.1, hnum.2.2]
      rw [p1, if_neg]
      intro hc
      have := hoth hc.1
      have h2 := hc.2
      simp only at h2
      omega
    · have e1 : (no + 1) % 2 = 0 := by omega
      rw [e] at hown hok
      rw [e1] at hoth
      have p1 : (pk1 s.am (bAt s.D 0)).1 < no := by
        rw [pk1]
        by_cases hc : hdOk s.am 0 (bAt s.D 0) = true
        · rw [if_pos hc]; exact hoth hc
        · rw [if_neg hc]; have := hn.nn.1; show 0 < no; omega
      rw [hown, hnum.1, hnum.2.1, hnum.2.2, if_pos ⟨hok, p1⟩]
  have hz : ¬ (s.cur 0 = List.replicate 64 0 ∧ s.cur 1 = List.replicate 64 0) := by
    rintro ⟨z0, z1⟩
    rw [cur_nil hW] at z0 z1
    rcases (by omega : no % 2 = 0 ∨ no % 2 = 1) with e | e
    · rw [e, z0] at hown; exact hd_zero _ _ _ hown.symm
    · rw [e, z1] at hown; exact hd_zero _ _ _ hown.symm
  have hlog : s.log s.am ar (joinL R).length = joinL R := by rw [Ds.log, cat_nil hW]; exact h.log
  have hal := al_join R (joinL R).length rfl (fun B hB => (hn.rb B hB).2)
  have hf : fndE s s.am (no, ar, (joinL R).length) = 0 := by
    unfold fndE
    rw [if_neg (by have := hn.nn.1; show ¬ no = 0; omega)]
    show (if (al (joinL R).length (s.log s.am ar (joinL R).length)).2.2 ≠ 0 then (6 : Int) else 0) = 0
    rw [hlog, hal, if_neg (by simp)]
  rw [Ds.opn, if_neg (by rw [hu]; simp), if_neg h6, Ds.fob, if_neg hz, hpk, if_pos hf]
  show ((0 : Int), some _, s) = _
  rw [hlog, hal]
/-- writes, one behind the other -/
def app : List (Option (Nat × List Int)) → List (List Int) → List (List Int)
  | [], D => D
  | some p :: r, D => app r (D.set p.1 p.2)
  | none :: r, D => app r D
theorem app_len : ∀ (A : List (Option (Nat × List Int))) (D : List (List Int)), (app A D).length = D.length
  | [], D => rfl
  | some p :: r, D => by rw [app, app_len r, List.length_set]
  | none :: r, D => by rw [app, app_len r]
/-- the writes of bytes: where they go -/
theorem app_wops_off : ∀ (n at_ : Nat) (B : List Int) (D : List (List Int)), B.length ≤ n → ∀ j, (j < at_ ∨ at_ + (B.length + 63) / 64 ≤ j) → (app (wops at_ B) D)[j]? = D[j]?
  | 0, at_, B, D, hn, j, hj => by
    have : B = [] := List.length_eq_zero_iff.1 (by omega)
    subst this
    rfl
  | n + 1, at_, B, D, hn, j, hj => by
    by_cases h : B = []
    · subst h; rfl
    · have hl : 0 < B.length := List.length_pos_iff.2 h
      rw [wops_cons _ _ h, app, app_wops_off n (at_ + 1) (B.drop 64) _ (by simp; omega) j (by simp; omega), List.getElem?_set_ne (by show at_ ≠ j; omega)]
theorem app_wops_cat : ∀ (n at_ : Nat) (B : List Int) (D : List (List Int)), B.length ≤ n → at_ + (B.length + 63) / 64 ≤ D.length → (catD (app (wops at_ B) D) at_ ((B.length + 63) / 64)).take B.length = B
  | 0, at_, B, D, hn, hf => by
    have : B = [] := List.length_eq_zero_iff.1 (by omega)
    subst this
    rfl
  | n + 1, at_, B, D, hn, hf => by
    by_cases h : B = []
    · subst h; rfl
    · have hl : 0 < B.length := List.length_pos_iff.2 h
      have hd : (B.drop 64).length = B.length - 64 := List.length_drop
      have e1 : (B.length + 63) / 64 = ((B.drop 64).length + 63) / 64 + 1 := by rw [hd]; omega
      have hb : bAt (app (wops (at_ + 1) (B.drop 64)) (D.set at_ (pad64 (B.take 64)))) at_ = pad64 (B.take 64) := by
        unfold bAt
        rw [app_wops_off _ (at_ + 1) (B.drop 64) _ (Nat.le_refl _) at_ (.inl (by omega)), List.getElem?_set_self (by omega)]
        rfl
      rw [wops_cons _ _ h, app, e1, catD, hb]
      by_cases h64 : B.length ≤ 64
      · have ht : B.take 64 = B := List.take_of_length_le h64
        rw [ht, pad64, List.append_assoc, List.take_append_of_le_length (Nat.le_refl _), List.take_of_length_le (Nat.le_refl _)]
      · have hp : pad64 (B.take 64) = B.take 64 := by unfold pad64; rw [show (B.take 64).length = 64 by rw [List.length_take]; omega]; simp
        have hlt : (B.take 64).length = 64 := by rw [List.length_take]; omega
        rw [hp, List.take_append, List.take_of_length_le (by omega), hlt]
        have ih := app_wops_cat n (at_ + 1) (B.drop 64) (D.set at_ (B.take 64)) (by omega) (by rw [List.length_set]; omega)
        rw [hd] at ih
        rw [hd, ih, List.take_append_drop]
theorem Is64.app : ∀ (A : List (Option (Nat × List Int))) (D : List (List Int)), Is64 D → (∀ p, some p ∈ A → p.2.length = 64 ∧ IsBytes p.2) → Is64 (app A D)
  | [], D, h, _ => h
  | some p :: r, D, h, hA => by
    refine Is64.app r _ (fun x hx => ?_) (fun q hq => hA q (List.mem_cons_of_mem _ hq))
    rcases List.mem_or_eq_of_mem_set hx with e | e
    · exact h x e
    · rw [e]; exact hA p (List.mem_cons_self ..)
  | none :: r, D, h, hA => Is64.app r D h (fun q hq => hA q (List.mem_cons_of_mem _ hq))
theorem wops_mem : ∀ (n at_ : Nat) (B : List Int), B.length ≤ n → IsBytes B → ∀ p, some p ∈ wops at_ B → (at_ ≤ p.1 ∧ p.1 < at_ + (B.length + 63) / 64) ∧ p.2.length = 64 ∧ IsBytes p.2
  | 0, at_, B, hn, hb, p, hp => by
    have : B = [] := List.length_eq_zero_iff.1 (by omega)
    subst this
    cases hp
  | n + 1, at_, B, hn, hb, p, hp => by
    by_cases h : B = []
    · subst h; cases hp
    · have hl : 0 < B.length := List.length_pos_iff.2 h
      rw [wops_cons _ _ h] at hp
      rcases List.mem_cons.1 hp with e | e
      · obtain rfl := Option.some.inj e
        refine ⟨⟨Nat.le_refl _, ?_⟩, pad64_len (by rw [List.length_take]; omega), pad64_bytes (bytes_of_mem fun x hx => bytes_mem hb x (List.mem_of_mem_take hx))⟩
        show at_ < _
        omega
      · have := wops_mem n (at_ + 1) (B.drop 64) (by simp; omega) (bytes_of_mem fun x hx => bytes_mem hb x (List.mem_of_mem_drop hx)) p e
        rw [List.length_drop] at this
        refine ⟨⟨by omega, by omega⟩, this.2⟩
theorem wops_some : ∀ (n at_ : Nat) (B : List Int), B.length ≤ n → none ∉ wops at_ B
  | 0, at_, B, hn, h => by
    have : B = [] := List.length_eq_zero_iff.1 (by omega)
    subst this
    cases h
  | n + 1, at_, B, hn, h => by
    by_cases hB : B = []
    · subst hB; cases h
    · rw [wops_cons _ _ hB] at h
      rcases List.mem_cons.1 h with e | e
      · cases e
      · exact wops_some n (at_ + 1) (B.drop 64) (by have : 0 < B.length := List.length_pos_iff.2 hB; simp; omega) e
end Go.Proofs.Ytchnbfdfcjahpaa
namespace Go.Proofs.Ytchnbfdfcjahpaa
open Go.ChangeShapes Go.WideShapes Go.ChangeAt Go.RowKit Go.Deep Go.Maps
set_option linter.unusedVariables false
theorem flD_wr (D : List (List Int)) (W : Int → List (List Int)) (i : Nat) (C : List Int) : flD D (fun j => if j = (i : Int) then W j ++ [C] else W j) = (flD D W).set i C := by
  apply List.ext_getElem?
  intro k
  by_cases hk : k = i
  · subst hk
    by_cases hl : k < D.length
    · rw [List.getElem?_set_self (by rw [flD_len]; exact hl), flD_at _ _ _ _ (List.getElem?_eq_getElem hl)]
      simp [lastOf]
    · rw [List.getElem?_eq_none (by rw [flD_len]; omega), List.getElem?_eq_none (by rw [List.length_set, flD_len]; omega)]
  · rw [List.getElem?_set_ne (fun e => hk e.symm)]
    have hne : ¬ ((k : Int) = (i : Int)) := by omega
    simp only [flD, List.getElem?_mapIdx, if_neg hne]
theorem wr_ok {s : Ds} {i : Nat} {C : List Int} (hu : s.up = true) (hf : s.fu = -1) (hi : i < s.D.length) (hC : C.length = 64) : s.wr (i : Int) C = (0, ⟨s.D, fun j => if j = (i : Int) then s.W j ++ [C] else s.W j, true, s.dn + 1, -1⟩) := by
  unfold Ds.wr
  rw [if_neg (by rw [hu]; simp [rdyAt]; omega), if_neg (by simpa using hC), if_neg (by rw [hf]; omega), hf]
  rfl
theorem fl_ok {s : Ds} (hu : s.up = true) (hf : s.fu = -1) : s.fl = (0, ⟨flD s.D s.W, fun _ => [], true, s.dn + 1, -1⟩) := by
  unfold Ds.fl
  rw [if_neg (by simp [hu]), if_neg (by rw [hf]; omega), hf]
  rfl
theorem run_free : ∀ (A : List (Option (Nat × List Int))) (s : Ds), none ∉ A → (∀ p, some p ∈ A → p.1 < s.D.length ∧ p.2.length = 64) → s.up = true → s.fu = -1 → ∃ s', s.run A = (0, s') ∧ s'.up = true ∧ s'.fu = -1 ∧ s'.D = s.D ∧ flD s'.D s'.W = app A (flD s.D s.W)
  | [], s, _, _, hu, hf => ⟨s, rfl, hu, hf, rfl, rfl⟩
  | none :: r, s, hn, _, _, _ => absurd (List.mem_cons_self ..) hn
  | some p :: r, s, hn, hA, hu, hf => by
    obtain ⟨h1, h2⟩ := hA p (List.mem_cons_self ..)
    have e := wr_ok hu hf h1 h2
    obtain ⟨s', g1, g2, g3, g4, g5⟩ := run_free r ⟨s.D, fun j => if j = (p.1 : Int) then s.W j ++ [p.2] else s.W j, true, s.dn + 1, -1⟩ (fun h => hn (List.mem_cons_of_mem _ h)) (fun q hq => hA q (List.mem_cons_of_mem _ hq)) rfl rfl
    refine ⟨s', ?_, g2, g3, g4, ?_⟩
    · rw [Ds.run_cons]
      show (if (s.wr (p.1 : Int) p.2).1 ≠ 0 then s.wr (p.1 : Int) p.2 else (s.wr (p.1 : Int) p.2).2.run r) = _
      rw [e, if_neg (by simp)]
      exact g1
    · rw [g5]
      show app r (flD s.D fun j => if j = (p.1 : Int) then s.W j ++ [p.2] else s.W j) = _
      rw [flD_wr]
      rfl
/-- up, no fuse, nothing waits -/
structure Free (s : Ds) : Prop where
  up : s.up = true
  fu : s.fu = -1
  W : ∀ i, s.W i = []
theorem run_flush {s : Ds} {A : List (Option (Nat × List Int))} (h : Free s) (hn : none ∉ A) (hA : ∀ p, some p ∈ A → p.1 < s.D.length ∧ p.2.length = 64) : ∃ s', s.run (A ++ [none]) = (0, s') ∧ Free s' ∧ s'.D = app A s.D := by
  obtain ⟨s1, g1, g2, g3, g4, g5⟩ := run_free A s hn hA h.up h.fu
  have e := fl_ok g2 g3
  refine ⟨⟨flD s1.D s1.W, fun _ => [], true, s1.dn + 1, -1⟩, ?_, ⟨rfl, rfl, fun _ => rfl⟩, ?_⟩
  · rw [Ds.run_app, g1, if_neg (by simp)]
    show s1.run [none] = _
    rw [Ds.run_cons]
    show (if s1.fl.1 ≠ 0 then s1.fl else s1.fl.2.run []) = _
    rw [e, if_neg (by simp)]
    rfl
  · show flD s1.D s1.W = _
    rw [g5, flD_nil s.D s.W (fun i _ => h.W _)]
theorem mops_free {s : Ds} (h : Free s) (m no ar fr : Nat) (B : List Int) (hB : IsBytes B) (hf : 2 + ar * m + fr + (B.length + 63) / 64 ≤ s.D.length) (h2 : 2 ≤ s.D.length) : ∃ s', s.run (mops m no ar fr B) = (0, s') ∧ Free s' ∧ s'.D = (app (wops (2 + ar * m + fr) B) s.D).set ((no + 1) % 2) (hdB (no + 1) ar (64 * fr + B.length)) := by
  obtain ⟨s1, g1, g2, g3⟩ := run_flush (A := wops (2 + ar * m + fr) B) h (wops_some _ _ B (Nat.le_refl _)) (fun p hp => by have := wops_mem B.length (2 + ar * m + fr) B (Nat.le_refl _) hB p hp; exact ⟨by omega, this.2.1⟩)
  have hl : s1.D.length = s.D.length := by rw [g3, app_len]
  obtain ⟨s2, k1, k2, k3⟩ := run_flush (A := [some ((no + 1) % 2, hdB (no + 1) ar (64 * fr + B.length))]) g2 (by simp) (fun p hp => by
    have : p = ((no + 1) % 2, hdB (no + 1) ar (64 * fr + B.length)) := by simpa using hp
    subst this
    exact ⟨by show (no + 1) % 2 < _; omega, hdB_len _ _ _⟩)
  refine ⟨s2, ?_, k2, ?_⟩
  · unfold mops
    rw [Ds.run_app, g1, if_neg (by simp)]
    exact k1
  · rw [k3, g3]
    rfl
/-- a log of which nothing is lost, and its disk -/
structure Gd (s : Ds) (l : Lg) : Prop where
  free : Free s
  nums : Nums s.D s.am l.no l.ar l.R
  lies : Lies s.D s.am l.no l.ar l.R
  am : l.m = s.am
  lost : l.lost = false
  room : l.ln + (joinL l.W).length ≤ 64 * l.m
  wb : ∀ B ∈ l.W, IsBytes B ∧ B.length ≤ 4096
theorem gd_open {s : Ds} {l : Lg} (h : Gd s l) : s.opn = (0, some { l with W := [] }, s) := by
  rw [opn_lies h.free.up h.free.W h.nums h.lies, ← h.am]
  have := h.lost
  cases l
  simp_all
theorem bAt_get {D : List (List Int)} {i : Nat} (h : i < D.length) : D[i]? = some (bAt D i) := by unfold bAt; rw [List.getElem?_eq_getElem h]; rfl
theorem gd_new (n : Nat) (h6 : 6 ≤ n) (hn : n ≤ 4096) : ∃ s', (Ds.new n).opn = (0, some ⟨(n - 2) / 2, 1, 0, [], [], false⟩, s') ∧ Gd s' ⟨(n - 2) / 2, 1, 0, [], [], false⟩ ∧ s'.D.length = n := by
  have hl : (Ds.new n).D.length = n := by simp [Ds.new, noughts]
  have hz : ∀ i, i < n → (Ds.new n).cur i = List.replicate 64 0 := fun i hi => by
    rw [cur_nil (fun _ => rfl), bAt]
    show ((noughts n)[i]?).getD [] = _
    unfold noughts
    rw [List.getElem?_replicate, if_pos hi]
    rfl
  have hfree : Free (Ds.new n) := ⟨rfl, rfl, fun _ => rfl⟩
  obtain ⟨s1, k1, k2, k3⟩ := run_flush (A := [some (1, hdB 1 0 0)]) hfree (by simp) (fun p hp => by
    have : p = (1, hdB 1 0 0) := by simpa using hp
    subst this
    exact ⟨by show 1 < _; omega, hdB_len _ _ _⟩)
  have hl1 : s1.D.length = n := by rw [k3, app_len, hl]
  have ham : s1.am = (n - 2) / 2 := by unfold Ds.am; rw [hl1]
  have hD : s1.D = (noughts n).set 1 (hdB 1 0 0) := k3
  refine ⟨s1, ?_, ⟨k2, ?_, ?_, ham.symm, rfl, by show 0 + 0 ≤ _; omega, fun B hB => by cases hB⟩, hl1⟩
  · have k1' : (Ds.new n).run [some (1, hdB 1 0 0), none] = (0, s1) := k1
    have ham0 : (Ds.new n).am = (n - 2) / 2 := by unfold Ds.am; rw [hl]
    rw [Ds.opn, if_neg (by simp [Ds.new]), if_neg (by omega), Ds.fob, if_pos ⟨hz 0 (by omega), hz 1 (by omega)⟩, k1', if_pos rfl, ham0]
    rfl
  · rw [ham]
    refine ⟨?_, ⟨by omega, by omega⟩, by rw [hl1], ⟨by show 1 ≤ 1; omega, by show 1 ≤ 1152921504606846976; omega⟩, by show 0 ≤ 1; omega, by show 0 ≤ _; omega, fun B hB => by cases hB⟩
    rw [hD]
    intro x hx
    rcases List.mem_or_eq_of_mem_set hx with e | e
    · have : x = List.replicate 64 0 := List.eq_of_mem_replicate (show x ∈ List.replicate n (List.replicate 64 0) from e)
      rw [this]
      exact ⟨by simp, zeros_bytes _⟩
    · rw [e]; exact ⟨hdB_len _ _ _, hdB_bytes _ _ _ (by omega)⟩
  · rw [hD]
    refine ⟨?_, fun b hb hk => ?_, rfl⟩
    · show ((noughts n).set 1 (hdB 1 0 0))[1 % 2]? = some (hdB 1 0 0)
      rw [show 1 % 2 = 1 from rfl, List.getElem?_set_self (by simp [noughts]; omega)]
    · replace hb : ((noughts n).set 1 (hdB 1 0 0))[(1 + 1) % 2]? = some b := hb
      have e : ((noughts n).set 1 (hdB 1 0 0))[0]? = some (List.replicate 64 0) := by
        rw [List.getElem?_set_ne (by omega)]
        unfold noughts
        rw [List.getElem?_replicate, if_pos (by omega)]
        rfl
      have hb' : ((noughts n).set 1 (hdB 1 0 0))[0]? = some b := hb
      rw [e] at hb'
      obtain rfl := Option.some.inj hb'
      rw [zero_no] at hk
      cases hk
theorem gd_sync {s : Ds} {l : Lg} (h : Gd s l) (hno : l.no < 1152921504606846976) (hW : l.W ≠ []) : ∃ s', l.sync s = (0, { l with no := l.no + 1, R := l.R ++ l.W, W := [] }, s') ∧ Gd s' { l with no := l.no + 1, R := l.R ++ l.W, W := [] } ∧ s'.D.length = s.D.length := by
  have hn := h.nums
  have hlen := hn.len
  have hmm := hn.mm
  have hroom := h.room
  rw [h.am] at hroom
  have har : l.ar * s.am ≤ s.am := by have := hn.aa; rcases (by omega : l.ar = 0 ∨ l.ar = 1) with e | e <;> rw [e] <;> omega
  have hjl : IsBytes (joinL l.W) := joinL_bytes _ fun B hB => (h.wb B hB).1
  have hlnm : l.ln ≤ 64 * s.am := by omega
  -- the bytes of the log: whole blocks, and the part of the last
  have hcl : (catD s.D (2 + l.ar * s.am) ((l.ln + 63) / 64)).length = 64 * ((l.ln + 63) / 64) := catD_len hn.is64 _ _ (by omega)
  have hq : (catD s.D (2 + l.ar * s.am) (l.ln / 64)).length = 64 * (l.ln / 64) := catD_len hn.is64 _ _ (by omega)
  have hpart : l.part s = (catD s.D (2 + l.ar * s.am + l.ln / 64) ((l.ln % 64 + 63) / 64)).take (l.ln % 64) := by unfold Lg.part; rw [cat_nil h.free.W, h.am]
  have hlog : joinL l.R = catD s.D (2 + l.ar * s.am) (l.ln / 64) ++ l.part s := by
    have e1 : (l.ln + 63) / 64 = l.ln / 64 + (l.ln % 64 + 63) / 64 := by omega
    have g := h.lies.log
    have e2 : (joinL l.R).length = l.ln := rfl
    rw [e2, e1, catD_add, List.take_append, hq, show l.ln - 64 * (l.ln / 64) = l.ln % 64 by omega, List.take_of_length_le (by rw [hq]; omega)] at g
    rw [hpart]
    exact g.symm
  have hpl : (l.part s).length = l.ln % 64 := by
    have := congrArg List.length hlog
    rw [List.length_append, hq] at this
    have e2 : (joinL l.R).length = l.ln := rfl
    omega
  have hpb : IsBytes (l.part s) := by
    have hb : IsBytes (joinL l.R) := joinL_bytes _ fun B hB => (hn.rb B hB).1
    rw [hlog] at hb
    exact bytes_of_mem fun x hx => bytes_mem hb x (List.mem_append_right _ hx)
  have hBl : (l.part s ++ joinL l.W).length = l.ln % 64 + (joinL l.W).length := by rw [List.length_append, hpl]
  obtain ⟨s', k1, k2, k3⟩ := mops_free h.free l.m l.no l.ar (l.ln / 64) (l.part s ++ joinL l.W) (bytes_app hpb hjl) (by rw [hBl, h.am]; omega) (by omega)
  rw [hBl, h.am] at k3
  have hlD : s'.D.length = s.D.length := by rw [k3, List.length_set, app_len]
  have ham' : s'.am = s.am := by unfold Ds.am; rw [hlD]
  have eln : (joinL (l.R ++ l.W)).length = l.ln + (joinL l.W).length := by rw [joinL_app, List.length_append]; rfl
  have e64 : 64 * (l.ln / 64) + (l.ln % 64 + (joinL l.W).length) = l.ln + (joinL l.W).length := by omega
  rw [e64] at k3
  have hoff : ∀ j, 2 ≤ j → s'.D[j]? = (app (wops (2 + l.ar * s.am + l.ln / 64) (l.part s ++ joinL l.W)) s.D)[j]? := fun j hj => by rw [k3, List.getElem?_set_ne (by omega)]
  refine ⟨s', ?_, ⟨k2, ⟨?_, by rw [hlD]; exact hlen, by rw [ham', hlD]; exact hmm, ⟨by show 1 ≤ l.no + 1; omega, by show l.no + 1 ≤ _; omega⟩, hn.aa, by show (joinL (l.R ++ l.W)).length ≤ 64 * s'.am; rw [eln, ham']; omega, fun B hB => ?_⟩, ⟨?_, fun b hb hk => ?_, ?_⟩, by show l.m = s'.am; rw [ham', h.am], h.lost, by show (joinL (l.R ++ l.W)).length + 0 ≤ 64 * l.m; rw [eln, h.am]; omega, fun B hB => by cases hB⟩, hlD⟩
  · unfold Lg.sync
    rw [if_neg (by rw [h.lost]; simp), if_neg hW, if_neg (by rw [h.free.up]; simp), k1, if_pos rfl]
  · rw [k3]
    intro x hx
    rcases List.mem_or_eq_of_mem_set hx with e | e
    · exact Is64.app _ _ hn.is64 (fun p hp => (wops_mem _ _ _ (Nat.le_refl _) (bytes_app hpb hjl) p hp).2) x e
    · rw [e]; exact ⟨hdB_len _ _ _, hdB_bytes _ _ _ (by have := hn.aa; omega)⟩
  · rcases List.mem_append.1 hB with e | e
    · exact hn.rb B e
    · exact h.wb B e
  · show s'.D[(l.no + 1) % 2]? = some (hdB (l.no + 1) l.ar (joinL (l.R ++ l.W)).length)
    rw [k3, List.getElem?_set_self (by rw [app_len]; omega), eln]
  · have hb' : s'.D[(l.no + 1 + 1) % 2]? = some b := hb
    rw [k3, List.getElem?_set_ne (by omega), app_wops_off _ _ _ _ (Nat.le_refl _) _ (.inl (by omega)), show (l.no + 1 + 1) % 2 = l.no % 2 by omega, h.lies.hd] at hb'
    obtain rfl := Option.some.inj hb'
    rw [(hd_nums l.no l.ar (joinL l.R).length (by omega) (by have e2 : (joinL l.R).length = l.ln := rfl; omega)).1]
    show l.no < l.no + 1
    omega
  · show (catD s'.D (2 + l.ar * s'.am) (((joinL (l.R ++ l.W)).length + 63) / 64)).take (joinL (l.R ++ l.W)).length = joinL (l.R ++ l.W)
    rw [ham', eln, joinL_app]
    have e1 : (l.ln + (joinL l.W).length + 63) / 64 = l.ln / 64 + ((l.part s ++ joinL l.W).length + 63) / 64 := by rw [hBl]; omega
    rw [e1, catD_add, catD_same _ _ (fun j h1 h2 => (hoff j (by omega)).trans (app_wops_off _ _ _ _ (Nat.le_refl _) j (.inl (by omega)))), List.take_append, hq, show l.ln + (joinL l.W).length - 64 * (l.ln / 64) = (l.part s ++ joinL l.W).length by rw [hBl]; omega, List.take_of_length_le (by rw [hq]; omega), catD_same _ _ (fun j h1 h2 => hoff j (by omega)), app_wops_cat _ _ _ _ (Nat.le_refl _) (by rw [hBl]; omega), ← List.append_assoc, ← hlog]
theorem gd_reset {s : Ds} {l : Lg} (h : Gd s l) (hno : l.no < 1152921504606846976) (hW : l.W = []) (recs : List (List Int)) (hb : ∀ B ∈ recs, IsBytes B) (hf : (frO recs (64 * l.m)).2 = 0) : ∃ s', l.reset s recs = (0, { l with no := l.no + 1, ar := 1 - l.ar, R := recs, W := [] }, s') ∧ Gd s' { l with no := l.no + 1, ar := 1 - l.ar, R := recs, W := [] } ∧ s'.D.length = s.D.length := by
  have hn := h.nums
  have hlen := hn.len
  have hmm := hn.mm
  obtain ⟨f1, f2, f3⟩ := frO_ok hf
  rw [h.am] at f2
  have har : (1 - l.ar) * s.am ≤ s.am := by have := hn.aa; rcases (by omega : l.ar = 0 ∨ l.ar = 1) with e | e <;> rw [e] <;> omega
  have hjl : IsBytes (joinL recs) := joinL_bytes _ hb
  obtain ⟨s', k1, k2, k3⟩ := mops_free h.free l.m l.no (1 - l.ar) 0 (joinL recs) hjl (by rw [h.am]; omega) (by omega)
  rw [h.am] at k3
  have hlD : s'.D.length = s.D.length := by rw [k3, List.length_set, app_len]
  have ham' : s'.am = s.am := by unfold Ds.am; rw [hlD]
  rw [show 64 * 0 + (joinL recs).length = (joinL recs).length by omega, Nat.add_zero] at k3
  have hoff : ∀ j, 2 ≤ j → s'.D[j]? = (app (wops (2 + (1 - l.ar) * s.am) (joinL recs)) s.D)[j]? := fun j hj => by rw [k3, List.getElem?_set_ne (by omega)]
  refine ⟨s', ?_, ⟨k2, ⟨?_, by rw [hlD]; exact hlen, by rw [ham', hlD]; exact hmm, ⟨by show 1 ≤ l.no + 1; omega, by show l.no + 1 ≤ _; omega⟩, by show 1 - l.ar ≤ 1; omega, by show (joinL recs).length ≤ 64 * s'.am; rw [ham']; omega, fun B hB => ⟨hb B hB, f3 B hB⟩⟩, ⟨?_, fun b hb2 hk => ?_, ?_⟩, by show l.m = s'.am; rw [ham', h.am], h.lost, by show (joinL recs).length + 0 ≤ 64 * l.m; rw [h.am]; omega, fun B hB => by cases hB⟩, hlD⟩
  · unfold Lg.reset
    rw [if_neg (by rw [h.lost]; simp), if_neg (by simpa using hW), if_neg (by simpa using hf), k1, if_pos rfl]
  · rw [k3]
    intro x hx
    rcases List.mem_or_eq_of_mem_set hx with e | e
    · exact Is64.app _ _ hn.is64 (fun p hp => (wops_mem _ _ _ (Nat.le_refl _) hjl p hp).2) x e
    · rw [e]; exact ⟨hdB_len _ _ _, hdB_bytes _ _ _ (by omega)⟩
  · show s'.D[(l.no + 1) % 2]? = some (hdB (l.no + 1) (1 - l.ar) (joinL recs).length)
    rw [k3, List.getElem?_set_self (by rw [app_len]; omega)]
  · have hb' : s'.D[(l.no + 1 + 1) % 2]? = some b := hb2
    rw [k3, List.getElem?_set_ne (by omega), app_wops_off _ _ _ _ (Nat.le_refl _) _ (.inl (by omega)), show (l.no + 1 + 1) % 2 = l.no % 2 by omega, h.lies.hd] at hb'
    obtain rfl := Option.some.inj hb'
    rw [(hd_nums l.no l.ar (joinL l.R).length (by omega) (by have := hn.ln; omega)).1]
    show l.no < l.no + 1
    omega
  · show (catD s'.D (2 + (1 - l.ar) * s'.am) (((joinL recs).length + 63) / 64)).take (joinL recs).length = joinL recs
    rw [ham', catD_same _ _ (fun j h1 h2 => hoff j (by omega)), app_wops_cat _ _ _ _ (Nat.le_refl _) (by omega)]
theorem gd_add {s : Ds} {l : Lg} (h : Gd s l) (rec : List Int) (hB : IsBytes rec) : Gd s (l.add rec).2 := by
  have hok : l.Ok l.no := ⟨by have := h.nums.len; have := h.nums.mm; rw [h.am]; omega, by omega, h.nums.aa, h.room, h.nums.rb, h.wb⟩
  have h2 := Lg.add_ok hok hB
  unfold Lg.add at h2 ⊢
  rw [if_neg (by rw [h.lost]; simp)] at h2 ⊢
  split
  · exact h
  · rename_i hx
    rw [if_neg hx] at h2
    exact ⟨h.free, h.nums, h.lies, h.am, h.lost, h2.room, h2.wb⟩
theorem crD_nil (keep : List Int) (D : List (List Int)) (W : Int → List (List Int)) (h : ∀ i, W i = []) : crD keep D W = D := by
  have : wb D.length W = [] := by
    apply List.eq_nil_iff_forall_not_mem.2
    intro i hi
    exact (mem_wb.1 hi).2 (h _)
  rw [crD, this]
  rfl
theorem gd_crash {s : Ds} {l : Lg} (h : Gd s l) (keep : List Int) : Gd (s.cr keep) l := by
  have e : (s.cr keep).D = s.D := crD_nil keep s.D s.W h.free.W
  have ea : (s.cr keep).am = s.am := by unfold Ds.am; rw [e]
  exact ⟨⟨rfl, rfl, fun _ => rfl⟩, by rw [ea, e]; exact h.nums, by rw [ea, e]; exact h.lies, by rw [ea]; exact h.am, h.lost, h.room, h.wb⟩
theorem gd_drop {s : Ds} {l : Lg} (h : Gd s l) : Gd s { l with W := [] } := ⟨h.free, h.nums, h.lies, h.am, h.lost, by have := h.room; show l.ln + 0 ≤ 64 * l.m; omega, fun B hB => by cases hB⟩
end Go.Proofs.Ytchnbfdfcjahpaa
namespace Go.Proofs.Ytchnbfdfcjahpaa
open Go.ChangeShapes Go.WideShapes Go.ChangeAt Go.RowKit Go.Deep Go.Maps
set_option linter.unusedVariables false
theorem strs_ne {A B : List Int} (ha : IsBytes A) (hb : IsBytes B) (h : A ≠ B) : ((strOfNums A).toList == (strOfNums B).toList) = false := by
  rw [str_eq A B (bytes_mem ha) (bytes_mem hb), decide_eq_false h]
theorem list_ext_getD {l k : List (List Int)} (hl : l.length = k.length) (h : ∀ i, i < l.length → l.getD i [] = k.getD i []) : l = k := by
  apply List.ext_getElem hl
  intro i h1 h2
  have := h i h1
  rwa [List.getD_eq_getElem?_getD, List.getD_eq_getElem?_getD, List.getElem?_eq_getElem h1, List.getElem?_eq_getElem h2] at this
set_option maxHeartbeats 1000000 in
theorem wsame_is (w : World) (a b : Option Addr) (n m c d : Nat) (l k : List (List Int)) (hn : l.length = n) (hm : k.length = m) (hn2 : n ≤ 1000000) (hm2 : m ≤ 1000000) (hl : InS w a l) (hk : InS w b k) (lb : ∀ B ∈ l, IsBytes B) (kb : ∀ B ∈ k, IsBytes B) :
    Calls Try.prog 19 #[.slice a n c, .slice b m d] w fun e w' => e = .returned (.bool (decide (l = k))) ∧ Below w.heap.size w w' := by
  by_cases hnm : n = m
  · subst hnm
    have HL : Hid (InS w a l) := hl
    have HK : Hid (InS w b k) := hk
    have LB : Hid (∀ B ∈ l, IsBytes B) := lb
    have KB : Hid (∀ B ∈ k, IsBytes B) := kb
    obtain ⟨R, hR⟩ : ∃ R, R = decide (l = k) := ⟨_, rfl⟩
    rw [← hR]
    have HR : Hid (R = decide (l = k)) := hR
    clear hl hk lb kb hR
    go_enter Try.func19, Try.ntmps19
    go_wp2_with fail
    go_loopg [5] n (fun g i wr => ∃ j : Nat, j ≤ n ∧ g = n - j ∧ i = .int .i64 (j : Int) ∧ Hid (Below w.heap.size w wr) ∧ Hid (∀ i, i < j → l.getD i [] = k.getD i []))
    case atStart => exact ⟨0, Nat.zero_le _, rfl, rfl, Below.refl _ _, fun i hi => absurd hi (Nat.not_lt_zero _)⟩
    case round =>
      obtain ⟨j, hj, rfl, rfl, HB, HS⟩ := hrel
      by_cases hlt : j < n
      · have i1 : (j : Int) < (n : Int) := by omega
        obtain ⟨g1, o1, rfl, hc1⟩ : ∃ g off, a = some ⟨g, off, none⟩ ∧ ∀ i, i < l.length → w.cell? ⟨g, off + i, none⟩ = some (.string (strOfNums (l.getD i []))) := by
          rcases HL.out with rfl | h
          · simp at hn; omega
          · exact h
        obtain ⟨g2, o2, rfl, hc2⟩ : ∃ g off, b = some ⟨g, off, none⟩ ∧ ∀ i, i < k.length → w.cell? ⟨g, off + i, none⟩ = some (.string (strOfNums (k.getD i []))) := by
          rcases HK.out with rfl | h
          · simp at hm; omega
          · exact h
        have c1 := hc1 j (by omega)
        have c2 := hc2 j (by omega)
        have k1 : wr.cell? ⟨g1, o1 + j, none⟩ = some (.string (strOfNums (l.getD j []))) := (HB.out.cell (p := ⟨g1, o1 + j, none⟩) (World.block_lt_of_cell? _ _ c1)).trans c1
        have k2 : wr.cell? ⟨g2, o2 + j, none⟩ = some (.string (strOfNums (k.getD j []))) := (HB.out.cell (p := ⟨g2, o2 + j, none⟩) (World.block_lt_of_cell? _ _ c2)).trans c2
        have m1 : l.getD j [] ∈ l := by rw [List.getD_eq_getElem?_getD, List.getElem?_eq_getElem (by omega)]; exact List.getElem_mem _
        have m2 : k.getD j [] ∈ k := by rw [List.getD_eq_getElem?_getD, List.getElem?_eq_getElem (by omega)]; exact List.getElem_mem _
        clear hc1 hc2 c1 c2
        by_cases he : l.getD j [] = k.getD j []
        · have HS2 : Hid (∀ i, i < j + 1 → l.getD i [] = k.getD i []) := fun i hi => by
            by_cases h : i = j
            · rw [h]; exact he
            · exact HS.out i (by omega)
          rw [he] at k1
          generalize strOfNums (k.getD j []) = X at *
          clear he m1 m2
          go_wp2_with fail
          go_quiet (fail)
          go_wp2_with fail
          go_roundg (n - (j + 1))
          case measure => omega
          case rel => exact ⟨j + 1, by omega, rfl, by go_num, HB.out.trans (below_drewN (Below.refl _ _) _ |>.mono HB.out.size), HS2⟩
        · have hb := strs_ne (LB.out _ m1) (KB.out _ m2) he
          have HR2 : Hid (R = false) := by
            show _ = _
            rw [HR.out, decide_eq_false]
            intro e
            exact he (by rw [e])
          generalize strOfNums (k.getD j []) = X at *
          generalize strOfNums (l.getD j []) = Y at *
          clear he m1 m2
          go_wp2_with fail
          go_quiet (fail)
          go_wp2_with fail
          go_ret
          exact ⟨by rw [HR2.out]; rfl, HB.out.trans (below_drewN (Below.refl _ _) _ |>.mono HB.out.size)⟩
      · have e : j = n := by omega
        subst e
        have i1 : ¬ (j : Int) < (j : Int) := by omega
        have HR2 : Hid (R = true) := by
          show _ = _
          rw [HR.out, decide_eq_true (list_ext_getD (by omega) (fun i hi => HS.out i (by omega)))]
        go_wp2_with fail
        go_ret
        exact ⟨by rw [HR2.out]; rfl, HB.out⟩
  · have e1 : ((n : Int) == (m : Int)) = false := by rw [beq_eq_false_iff_ne]; omega
    have hne : decide (l = k) = false := decide_eq_false fun e => hnm (by rw [← hn, ← hm, e])
    rw [hne]
    go_enter Try.func19, Try.ntmps19
    go_wp2_with fail
    go_ret
    exact ⟨rfl, Below.refl _ _⟩
end Go.Proofs.Ytchnbfdfcjahpaa
namespace Go.Proofs.Ytchnbfdfcjahpaa
open Go.ChangeShapes Go.WideShapes Go.ChangeAt Go.RowKit Go.Deep Go.Maps
set_option linter.unusedVariables false
/-- in block bd the disk s, in block bl the log l of it, all made since w; the blocks P are neither's -/
structure Wl (w wr : World) (P : Nat → Prop) (bd bl N : Nat) (s : Ds) (l : Lg) : Prop where
  ex : ∃ F G, Dk wr F bd N s ∧ Lm wr G bl bd l ∧ (∀ k, G k → ¬ F k) ∧ (∀ k, F k → w.heap.size ≤ k) ∧ (∀ k, G k → w.heap.size ≤ k) ∧ ∀ k, P k → k < wr.heap.size ∧ ¬ F k ∧ ¬ G k
  ok : l.Ok N
  bel : Below w.heap.size w wr
/-- in block bd the disk s alone -/
structure Wd (w wr : World) (P : Nat → Prop) (bd N : Nat) (s : Ds) : Prop where
  ex : ∃ F, Dk wr F bd N s ∧ (∀ k, F k → w.heap.size ≤ k) ∧ ∀ k, P k → k < wr.heap.size ∧ ¬ F k
  bel : Below w.heap.size w wr
theorem Wl.disk {w wr : World} {P : Nat → Prop} {bd bl N : Nat} {s : Ds} {l : Lg} (h : Wl w wr P bd bl N s l) : Wd w wr P bd N s := by
  obtain ⟨F, G, d, _, _, f, _, p⟩ := h.ex
  exact ⟨⟨F, d, f, fun k hk => ⟨(p k hk).1, (p k hk).2.1⟩⟩, h.bel⟩
theorem Wl.more {w wr : World} {P : Nat → Prop} {bd bl N N' : Nat} {s : Ds} {l : Lg} (h : Wl w wr P bd bl N s l) (hN : N ≤ N') : Wl w wr P bd bl N' s l := by
  obtain ⟨F, G, d, r⟩ := h.ex
  exact ⟨⟨F, G, d.more hN, r⟩, h.ok.more hN, h.bel⟩
theorem Wd.more {w wr : World} {P : Nat → Prop} {bd N N' : Nat} {s : Ds} (h : Wd w wr P bd N s) (hN : N ≤ N') : Wd w wr P bd N' s := by
  obtain ⟨F, d, r⟩ := h.ex
  exact ⟨⟨F, d.more hN, r⟩, h.bel⟩
theorem Wl.less {w wr : World} {P Q : Nat → Prop} {bd bl N : Nat} {s : Ds} {l : Lg} (h : Wl w wr P bd bl N s l) (hQ : ∀ k, Q k → P k) : Wl w wr Q bd bl N s l := by
  obtain ⟨F, G, a1, a2, a3, a4, a5, a6⟩ := h.ex
  exact ⟨⟨F, G, a1, a2, a3, a4, a5, fun k hk => a6 k (hQ k hk)⟩, h.ok, h.bel⟩
/-- whatever was made since is neither's -/
theorem Wl.keep {w wr w' : World} {P : Nat → Prop} {bd bl N : Nat} {s : Ds} {l : Lg} (h : Wl w wr P bd bl N s l) (hb : Below wr.heap.size wr w') : Wl w w' (fun k => P k ∨ (wr.heap.size ≤ k ∧ k < w'.heap.size)) bd bl N s l := by
  obtain ⟨F, G, a1, a2, a3, a4, a5, a6⟩ := h.ex
  refine ⟨⟨F, G, a1.keep hb, a2.keep hb, a3, a4, a5, fun k hk => ?_⟩, h.ok, h.bel.trans (hb.mono h.bel.size)⟩
  rcases hk with hk | ⟨k1, k2⟩
  · have := a6 k hk
    exact ⟨Nat.lt_of_lt_of_le this.1 hb.size, this.2⟩
  · exact ⟨k2, fun e => by have := a1.lt k e; omega, fun e => by have := a2.lt k e; omega⟩
theorem Wd.keep {w wr w' : World} {P : Nat → Prop} {bd N : Nat} {s : Ds} (h : Wd w wr P bd N s) (hb : Below wr.heap.size wr w') : Wd w w' (fun k => P k ∨ (wr.heap.size ≤ k ∧ k < w'.heap.size)) bd N s := by
  obtain ⟨F, a1, a2, a3⟩ := h.ex
  refine ⟨⟨F, a1.keep hb, a2, fun k hk => ?_⟩, h.bel.trans (hb.mono h.bel.size)⟩
  rcases hk with hk | ⟨k1, k2⟩
  · exact ⟨Nat.lt_of_lt_of_le (a3 k hk).1 hb.size, (a3 k hk).2⟩
  · exact ⟨k2, fun e => by have := a1.lt k e; omega⟩
theorem Wl.keep0 {w wr w' : World} {P : Nat → Prop} {bd bl N : Nat} {s : Ds} {l : Lg} (h : Wl w wr P bd bl N s l) (hb : Below wr.heap.size wr w') : Wl w w' P bd bl N s l := (h.keep hb).less fun _ hk => .inl hk
theorem Wl.stepB {w wr w' : World} {P : Nat → Prop} {bd bl N' : Nat} {s' : Ds} {l' : Lg} {F F' G G' : Nat → Prop} (hB : Below w.heap.size w wr) (hF : ∀ k, F k → w.heap.size ≤ k) (hG : ∀ k, G k → w.heap.size ≤ k) (hP : ∀ k, P k → k < wr.heap.size ∧ ¬ F k ∧ ¬ G k) (hd : Dk w' F' bd N' s') (hl : Lm w' G' bl bd l') (hs : StepB F F' G G' wr w') (hx : ∀ k, G' k → ¬ F' k) (hok : l'.Ok N') : Wl w w' P bd bl N' s' l' ∧ ∀ k, P k → w'.heap[k]? = wr.heap[k]? := by
  refine ⟨⟨⟨F', G', hd, hl, hx, fun k hk => ?_, fun k hk => ?_, fun k hk => ⟨Nat.lt_of_lt_of_le (hP k hk).1 hs.off.size, fun e => ?_, fun e => ?_⟩⟩, hok, hB.trans (hs.off.below (fun k hk => hk.elim (hF k) (hG k)) hB.size)⟩, fun k hk => hs.off.block k (hP k hk).1 (fun e => e.elim (hP k hk).2.1 (hP k hk).2.2)⟩
  · rcases hs.sub k hk with e | e
    · exact hF k e
    · exact Nat.le_trans hB.size e
  · rcases hs.sug k hk with e | e
    · exact hG k e
    · exact Nat.le_trans hB.size e
  · rcases hs.sub k e with e | e
    · exact (hP k hk).2.1 e
    · have := (hP k hk).1; omega
  · rcases hs.sug k e with e | e
    · exact (hP k hk).2.2 e
    · have := (hP k hk).1; omega
theorem sync_ok {l : Lg} {s : Ds} {N : Nat} (h : l.Ok N) : (l.sync s).2.1.Ok (N + 2100) := by
  unfold Lg.sync
  split
  · exact h.more (by omega)
  · split
    · exact h.more (by omega)
    · split
      · exact ⟨h.m, by have := h.no; show l.no ≤ _; omega, h.ar, h.room, h.rb, h.wb⟩
      · split
        · refine ⟨h.m, by have := h.no; show l.no + 1 ≤ _; omega, h.ar, ?_, fun B hB => ?_, fun B hB => by cases hB⟩
          · show (joinL (l.R ++ l.W)).length + 0 ≤ 64 * l.m
            have e : (joinL (l.R ++ l.W)).length = l.ln + (joinL l.W).length := by rw [joinL_app, List.length_append]; rfl
            have := h.room
            omega
          · rcases List.mem_append.1 hB with e | e
            · exact h.rb B e
            · exact h.wb B e
        · exact ⟨h.m, by have := h.no; show l.no ≤ _; omega, h.ar, h.room, h.rb, h.wb⟩
theorem reset_ok {l : Lg} {s : Ds} {N : Nat} (h : l.Ok N) {recs : List (List Int)} (hb : ∀ B ∈ recs, IsBytes B) : (l.reset s recs).2.1.Ok (N + 2100) := by
  unfold Lg.reset
  split
  · exact h.more (by omega)
  · split
    · exact h.more (by omega)
    · split
      · exact h.more (by omega)
      · rename_i h3
        split
        · obtain ⟨f1, f2, f3⟩ := frO_ok (show (frO recs (64 * l.m)).2 = 0 by simpa using h3)
          exact ⟨h.m, by have := h.no; show l.no + 1 ≤ _; omega, by show 1 - l.ar ≤ 1; omega, by show (joinL recs).length + 0 ≤ 64 * l.m; omega, fun B hB => ⟨hb B hB, f3 B hB⟩, fun B hB => by cases hB⟩
        · exact ⟨h.m, by have := h.no; show l.no ≤ _; omega, h.ar, h.room, h.rb, h.wb⟩
theorem wl_add {w wr : World} {P : Nat → Prop} {bd bl N : Nat} {s : Ds} {l : Lg} (T : Wl w wr P bd bl N s l) (rec : List Int) (hB : IsBytes rec) : Calls Try.prog 8 #[.pointer (some ⟨bl, 0, none⟩), .string (strOfNums rec)] wr fun e w' => e = .returned (.int .i64 (l.add rec).1) ∧ Wl w w' P bd bl N s (l.add rec).2 ∧ ∀ k, P k → w'.heap[k]? = wr.heap[k]? := by
  obtain ⟨F, G, a1, a2, a3, a4, a5, a6⟩ := T.ex
  refine (add_is wr G bl bd N l a2 T.ok rec hB).mono ?_
  rintro e w' ⟨rfl, G', hl, hs⟩
  exact ⟨rfl, Wl.stepB T.bel a4 a5 a6 (a1.apartL hs a3) hl hs.toBG (fun k hk hf => by
    rcases hs.sub k hk with e | e
    · exact a3 k e hf
    · have := a1.lt k hf; omega) (Lg.add_ok T.ok hB)⟩
theorem wl_sync {w wr : World} {P : Nat → Prop} {bd bl N : Nat} {s : Ds} {l : Lg} (T : Wl w wr P bd bl N s l) (hfit : 2 + l.ar * l.m + l.m ≤ s.D.length) (hN : N + 3000 < 999900) : Calls Try.prog 9 #[.pointer (some ⟨bl, 0, none⟩)] wr fun e w' => e = .returned (.int .i64 (l.sync s).1) ∧ Wl w w' P bd bl (N + 2100) (l.sync s).2.2 (l.sync s).2.1 ∧ ∀ k, P k → w'.heap[k]? = wr.heap[k]? := by
  obtain ⟨F, G, a1, a2, a3, a4, a5, a6⟩ := T.ex
  refine (sync_is wr F G bl bd N s l a1 a2 T.ok a3 hfit hN).mono ?_
  rintro e w' ⟨rfl, F', G', hd, hl, hs, hx⟩
  exact ⟨rfl, Wl.stepB T.bel a4 a5 a6 hd hl hs hx (sync_ok T.ok)⟩
theorem wl_reset {w wr : World} {P : Nat → Prop} {bd bl N : Nat} {s : Ds} {l : Lg} (T : Wl w wr P bd bl N s l) (hN : N + 3000 < 999900) (a : Option Addr) (n c : Nat) (recs : List (List Int)) (hn : recs.length = n) (hn2 : n ≤ 1000000) (hin : InS wr a recs) (ha : a = none → n = 0 ∧ c = 0) (hB : ∀ B ∈ recs, IsBytes B) (hx : ∀ x, a = some x → recs ≠ [] → P x.block ∨ x.block < w.heap.size) : Calls Try.prog 10 #[.pointer (some ⟨bl, 0, none⟩), .slice a n c] wr fun e w' => e = .returned (.int .i64 (l.reset s recs).1) ∧ Wl w w' P bd bl (N + 2100) (l.reset s recs).2.2 (l.reset s recs).2.1 ∧ ∀ k, P k → w'.heap[k]? = wr.heap[k]? := by
  obtain ⟨F, G, a1, a2, a3, a4, a5, a6⟩ := T.ex
  refine (reset_is wr F G bl bd N s l a1 a2 T.ok a3 hN a n c recs hn hn2 hin ha hB (fun x hx2 hne => ?_)).mono ?_
  · rcases hx x hx2 hne with h | h
    · exact (a6 _ h).2
    · exact ⟨fun e => by have := a4 _ e; omega, fun e => by have := a5 _ e; omega⟩
  · rintro e w' ⟨rfl, F', G', hd, hl, hs, hx⟩
    exact ⟨rfl, Wl.stepB T.bel a4 a5 a6 hd hl hs hx (reset_ok T.ok hB)⟩
theorem wl_room {w wr : World} {P : Nat → Prop} {bd bl N : Nat} {s : Ds} {l : Lg} (T : Wl w wr P bd bl N s l) : Calls Try.prog 14 #[.pointer (some ⟨bl, 0, none⟩)] wr fun e w' => e = .returned (.int .i64 (l.room : Nat)) ∧ Below wr.heap.size wr w' := by
  obtain ⟨F, G, a1, a2, _⟩ := T.ex
  exact wroom_is wr G bl bd N l a2 T.ok
theorem wl_records {w wr : World} {P : Nat → Prop} {bd bl N : Nat} {s : Ds} {l : Lg} (T : Wl w wr P bd bl N s l) : Calls Try.prog 11 #[.pointer (some ⟨bl, 0, none⟩)] wr fun e w' => ∃ v, e = .returned v ∧ RowsS w' wr.heap.size v l.R ∧ Below wr.heap.size wr w' := by
  obtain ⟨F, G, a1, a2, _⟩ := T.ex
  exact wrecords_is wr G bl bd N l a2 T.ok
theorem wl_waiting {w wr : World} {P : Nat → Prop} {bd bl N : Nat} {s : Ds} {l : Lg} (T : Wl w wr P bd bl N s l) : Calls Try.prog 12 #[.pointer (some ⟨bl, 0, none⟩)] wr fun e w' => e = .returned (.int .i64 (l.W.length : Nat)) ∧ w' = wr := by
  obtain ⟨F, G, a1, a2, _⟩ := T.ex
  exact wwaiting_is wr G bl bd l a2
theorem wl_used {w wr : World} {P : Nat → Prop} {bd bl N : Nat} {s : Ds} {l : Lg} (T : Wl w wr P bd bl N s l) : Calls Try.prog 13 #[.pointer (some ⟨bl, 0, none⟩)] wr fun e w' => e = .returned (.int .i64 (l.ln : Nat)) ∧ w' = wr := by
  obtain ⟨F, G, a1, a2, _⟩ := T.ex
  exact wused_is wr G bl bd l a2
theorem wd_blocks {w wr : World} {P : Nat → Prop} {bd N : Nat} {s : Ds} (T : Wd w wr P bd N s) : Calls Try.prog 24 #[.pointer (some ⟨bd, 0, none⟩)] wr fun e w' => e = .returned (.int .i64 (s.D.length : Int)) ∧ w' = wr := by
  obtain ⟨F, a1, _⟩ := T.ex
  exact dk_blocks wr F bd N s a1
theorem wd_new (n : Nat) (h1 : 1 ≤ n) (h2 : n ≤ 4096) (w wr : World) (hb : Below w.heap.size w wr) : Calls Try.prog 22 #[.int .i64 (n : Int)] wr fun e w' => ∃ b, e = .returned (.tuple #[.pointer (some ⟨b, 0, none⟩), .int .i64 0]) ∧ Wd w w' (fun k => k < wr.heap.size) b 0 (Ds.new n) ∧ Below wr.heap.size wr w' := by
  refine (dk_new n h1 h2 wr).mono ?_
  rintro e w' ⟨b, F, rfl, hd, hb2, hF⟩
  exact ⟨b, rfl, ⟨⟨F, hd, fun k hk => Nat.le_trans hb.size (hF k hk), fun k hk => ⟨Nat.lt_of_lt_of_le hk hb2.size, fun e => by have := hF k e; omega⟩⟩, hb.trans (hb2.mono hb.size)⟩, hb2⟩
/-- Open of a disk: the log is new -/
theorem wd_open {w wr : World} {P : Nat → Prop} {bd N : Nat} {s : Ds} (T : Wd w wr P bd N s) (hN : N < 999998) : Calls Try.prog 15 #[.pointer (some ⟨bd, 0, none⟩)] wr fun e w' => (∀ k, P k → w'.heap[k]? = wr.heap[k]?) ∧ wr.heap.size ≤ w'.heap.size ∧ ((s.opn.1 = 0 ∧ ∃ bl l, s.opn.2.1 = some l ∧ e = .returned (.tuple #[.pointer (some ⟨bl, 0, none⟩), .int .i64 0]) ∧ Wl w w' P bd bl (N + 2) s.opn.2.2 l ∧ 1 ≤ l.no) ∨ (s.opn.1 ≠ 0 ∧ e = .returned (.tuple #[.pointer none, .int .i64 s.opn.1]) ∧ Wd w w' P bd (N + 2) s.opn.2.2)) := by
  obtain ⟨F, a1, a2, a3⟩ := T.ex
  refine (open_is wr F bd N s a1 hN).mono ?_
  rintro e w' ⟨F', hd, hs, hor⟩
  have hF' : ∀ k, F' k → w.heap.size ≤ k := fun k hk => by
    rcases hs.sub k hk with e | e
    · exact a2 k e
    · exact Nat.le_trans T.bel.size e
  have hP' : ∀ k, P k → k < w'.heap.size ∧ ¬ F' k := fun k hk => ⟨Nat.lt_of_lt_of_le (a3 k hk).1 hs.off.size, fun e => by
    rcases hs.sub k e with e | e
    · exact (a3 k hk).2 e
    · have := (a3 k hk).1; omega⟩
  have hbel : Below w.heap.size w w' := T.bel.trans (hs.off.below a2 T.bel.size)
  refine ⟨fun k hk => hs.off.block k (a3 k hk).1 (a3 k hk).2, hs.off.size, ?_⟩
  rcases hor with ⟨h0, bl, G, l, hl, he, hm, hok, hno, hg1, hg2⟩ | ⟨h0, he⟩
  · exact .inl ⟨h0, bl, l, hl, he, ⟨⟨F', G, hd, hm, hg2, hF', fun k hk => Nat.le_trans T.bel.size (hg1 k hk), fun k hk => ⟨(hP' k hk).1, (hP' k hk).2, fun e => by have := hg1 k e; have := (a3 k hk).1; omega⟩⟩, hok.more (by omega), hbel⟩, hno⟩
  · exact .inr ⟨h0, he, ⟨⟨F', hd, hF', hP'⟩, hbel⟩⟩
theorem wd_crash {w wr : World} {P : Nat → Prop} {bd N : Nat} {s : Ds} (T : Wd w wr P bd N s) (hN : N ≤ 1000000) (ka : Option Addr) (kl kc : Nat) (keep : List Int) (hkl : keep.length = kl) (hin : InK wr ka keep) (hk : ∀ x, ka = some x → keep ≠ [] → P x.block ∨ x.block < w.heap.size) : Calls Try.prog 18 #[.pointer (some ⟨bd, 0, none⟩), .slice ka kl kc] wr fun e w' => e = .returned (.int .i64 0) ∧ Wd w w' P bd N (s.cr keep) ∧ (∀ k, P k → w'.heap[k]? = wr.heap[k]?) ∧ wr.heap.size ≤ w'.heap.size := by
  obtain ⟨F, a1, a2, a3⟩ := T.ex
  refine (dk_crash wr F bd N s a1 hN ka kl kc keep hkl hin (fun x hx hne hF => ?_)).mono ?_
  · rcases hk x hx hne with h | h
    · exact (a3 _ h).2 hF
    · have := a2 _ hF; omega
  · rintro e w' ⟨rfl, F', hd, hs⟩
    refine ⟨rfl, ⟨⟨F', hd, fun k hk => ?_, fun k hk => ⟨Nat.lt_of_lt_of_le (a3 k hk).1 hs.off.size, fun e => ?_⟩⟩, T.bel.trans (hs.off.below a2 T.bel.size)⟩, fun k hk => hs.off.block k (a3 k hk).1 (a3 k hk).2, hs.off.size⟩
    · rcases hs.sub k hk with e | e
      · exact a2 k e
      · exact Nat.le_trans T.bel.size e
    · rcases hs.sub k e with e | e
      · exact (a3 k hk).2 e
      · have := (a3 k hk).1; omega
end Go.Proofs.Ytchnbfdfcjahpaa
namespace Go.Proofs.Ytchnbfdfcjahpaa
open Go.ChangeShapes Go.WideShapes Go.ChangeAt Go.RowKit Go.Deep Go.Maps
set_option linter.unusedVariables false
theorem str_x : strOfNums [120] = ⟨#[120]⟩ := rfl
theorem x_bytes : IsBytes [120] := bytes_of_mem fun y hy => by
  have : y = 120 := by simpa using hy
  omega
set_option maxRecDepth 100000 in
set_option maxHeartbeats 4000000 in
theorem works_true (w : World) : Calls Try.prog 16 #[] w fun e w' => e = .returned (.bool true) ∧ Below w.heap.size w w' := by
  obtain ⟨s1, o1, G1, hD1⟩ := gd_new 8 (by omega) (by omega)
  obtain ⟨l1, hl1⟩ : ∃ l1, l1 = (⟨(8 - 2) / 2, 1, 0, [], [], false⟩ : Lg) := ⟨_, rfl⟩
  rw [← hl1] at o1 G1
  have r1 : l1.room = 192 := by rw [hl1]; rfl
  have a1 : l1.add [120] = (0, ⟨3, 1, 0, [], [[120]], false⟩) := by
    have hx : (frO [[120]] l1.room).2 = 0 := by rw [r1, frO_one]; rfl
    unfold Lg.add
    rw [if_neg (by rw [hl1]; simp), if_neg (by rw [hx]; simp), hl1]
    rfl
  have G2 := gd_add G1 [120] x_bytes
  rw [a1] at G2
  obtain ⟨l2, hl2⟩ : ∃ l2, l2 = (⟨3, 1, 0, [], [[120]], false⟩ : Lg) := ⟨_, rfl⟩
  rw [← hl2] at a1 G2
  have r2 : l2.room = 183 := by rw [hl2]; decide +kernel
  obtain ⟨s3, y3, G3, hD3⟩ := gd_sync G2 (by rw [hl2]; decide) (by rw [hl2]; decide)
  obtain ⟨l3, hl3⟩ : ∃ l3, l3 = ({ l2 with no := l2.no + 1, R := l2.R ++ l2.W, W := [] } : Lg) := ⟨_, rfl⟩
  rw [← hl3] at y3 G3
  have G4 := gd_crash G3 []
  have o4 := gd_open G4
  have e4 : ({ l3 with W := [] } : Lg) = l3 := by rw [hl3]
  rw [e4] at o4
  have R4 : l3.R = [[120]] := by rw [hl3, hl2]; rfl
  have U4 : l3.ln = 9 := by rw [hl3, hl2]; decide +kernel
  have fit2 : 2 + l2.ar * l2.m + l2.m ≤ s1.D.length := by rw [hD1, hl2]; decide
  have K1 : Hid (Calls Try.prog 22 #[.int .i64 8] w fun e w' => ∃ b, e = .returned (.tuple #[.pointer (some ⟨b, 0, none⟩), .int .i64 0]) ∧ Wd w w' (fun k => k < w.heap.size) b 0 (Ds.new 8) ∧ Below w.heap.size w w') := wd_new 8 (by omega) (by omega) w w (Below.refl _ _)
  have H1 : Hid ((Ds.new 8).opn = (0, some l1, s1) ∧ l1.room = 192 ∧ l1.add [120] = (0, l2) ∧ l2.room = 183 ∧ l2.sync s1 = (0, l3, s3) ∧ (s3.cr []).opn = (0, some l3, s3.cr []) ∧ l3.R = [[120]] ∧ l3.ln = 9 ∧ 2 + l2.ar * l2.m + l2.m ≤ s1.D.length) := ⟨o1, r1, a1, r2, y3, o4, R4, U4, fit2⟩
  clear o1 r1 a1 r2 y3 o4 R4 U4 fit2 G1 G2 G3 G4 hl1 hl2 hl3 e4 hD1 hD3
  go_enter Try.func16, Try.ntmps16
  go_wp2_with fail
  refine K1.out.mono ?_
  rintro e w1 ⟨bd, rfl, T1, hb1⟩
  have HT1 : Hid (Wd w w1 (fun k => k < w.heap.size) bd 0 (Ds.new 8)) := T1
  clear T1 hb1
  go_wp2_with fail
  refine (wd_open HT1.out (by omega)).mono ?_
  rintro e w2 ⟨_, _, hor⟩
  have h2 : ∃ bl, e = .returned (.tuple #[.pointer (some ⟨bl, 0, none⟩), .int .i64 0]) ∧ Wl w w2 (fun k => k < w.heap.size) bd bl 2 s1 l1 := by
    obtain ⟨o1, _⟩ := H1.out
    rw [o1] at hor
    rcases hor with ⟨_, bl, l, hl, he, hw, _⟩ | ⟨h0, _⟩
    · obtain rfl := Option.some.inj hl
      exact ⟨bl, he, hw⟩
    · exact absurd rfl h0
  obtain ⟨bl, rfl, T2⟩ := h2
  have HT2 : Hid (Wl w w2 (fun k => k < w.heap.size) bd bl 2 s1 l1) := T2
  clear T2 hor
  have KR1 : Hid (Calls Try.prog 14 #[.pointer (some ⟨bl, 0, none⟩)] w2 fun e w' => e = .returned (.int .i64 192) ∧ Below w2.heap.size w2 w') := by
    have k := wl_room HT2.out
    rw [H1.out.2.1] at k
    exact k
  go_wp2_with fail
  refine KR1.out.mono ?_
  rintro e w3 ⟨rfl, hb3⟩
  have HT3 : Hid (Wl w w3 (fun k => k < w.heap.size) bd bl 2 s1 l1) := HT2.out.keep0 hb3
  clear hb3
  have KA : Hid (Calls Try.prog 8 #[.pointer (some ⟨bl, 0, none⟩), .string ⟨#[120]⟩] w3 fun e w' => e = .returned (.int .i64 0) ∧ Wl w w' (fun k => k < w.heap.size) bd bl 2 s1 l2 ∧ ∀ k, k < w.heap.size → w'.heap[k]? = w3.heap[k]?) := by
    have k := wl_add HT3.out [120] x_bytes
    rw [H1.out.2.2.1, str_x] at k
    exact k
  go_wp2_with fail
  refine KA.out.mono ?_
  rintro e w4 ⟨rfl, T4, _⟩
  have HT4 : Hid (Wl w w4 (fun k => k < w.heap.size) bd bl 2 s1 l2) := T4
  clear T4
  have KR2 : Hid (Calls Try.prog 14 #[.pointer (some ⟨bl, 0, none⟩)] w4 fun e w' => e = .returned (.int .i64 183) ∧ Below w4.heap.size w4 w') := by
    have k := wl_room HT4.out
    rw [H1.out.2.2.2.1] at k
    exact k
  go_wp2_with fail
  refine KR2.out.mono ?_
  rintro e w5 ⟨rfl, hb5⟩
  have HT5 : Hid (Wl w w5 (fun k => k < w.heap.size) bd bl 2 s1 l2) := HT4.out.keep0 hb5
  clear hb5
  have KS : Hid (Calls Try.prog 9 #[.pointer (some ⟨bl, 0, none⟩)] w5 fun e w' => e = .returned (.int .i64 0) ∧ Wl w w' (fun k => k < w.heap.size) bd bl 2102 s3 l3 ∧ ∀ k, k < w.heap.size → w'.heap[k]? = w5.heap[k]?) := by
    have k := wl_sync HT5.out H1.out.2.2.2.2.2.2.2.2 (by omega)
    rw [H1.out.2.2.2.2.1] at k
    exact k
  go_wp2_with fail
  refine KS.out.mono ?_
  rintro e w6 ⟨rfl, T6, _⟩
  have HT6 : Hid (Wd w w6 (fun k => k < w.heap.size) bd 2102 s3) := T6.disk
  clear T6
  go_wp2_with fail
  refine (wd_crash HT6.out (by omega) none 0 0 [] rfl (.inl rfl) (fun x hx => by cases hx)).mono ?_
  rintro e w7 ⟨rfl, T7, _, _⟩
  have HT7 : Hid (Wd w w7 (fun k => k < w.heap.size) bd 2102 (s3.cr [])) := T7
  clear T7
  go_wp2_with fail
  refine (wd_open HT7.out (by omega)).mono ?_
  rintro e w8 ⟨_, _, hor⟩
  have h8 : ∃ bl, e = .returned (.tuple #[.pointer (some ⟨bl, 0, none⟩), .int .i64 0]) ∧ Wl w w8 (fun k => k < w.heap.size) bd bl 2104 (s3.cr []) l3 := by
    obtain ⟨_, _, _, _, _, o4, _⟩ := H1.out
    rw [o4] at hor
    rcases hor with ⟨_, bl, l, hl, he, hw, _⟩ | ⟨h0, _⟩
    · obtain rfl := Option.some.inj hl
      exact ⟨bl, he, hw⟩
    · exact absurd rfl h0
  obtain ⟨bm, rfl, T8⟩ := h8
  have HT8 : Hid (Wl w w8 (fun k => k < w.heap.size) bd bm 2104 (s3.cr []) l3) := T8
  clear T8 hor
  have KRec : Hid (Calls Try.prog 11 #[.pointer (some ⟨bm, 0, none⟩)] w8 fun e w' => ∃ v, e = .returned v ∧ RowsS w' w8.heap.size v [[120]] ∧ Below w8.heap.size w8 w') := by
    have k := wl_records HT8.out
    rw [H1.out.2.2.2.2.2.2.1] at k
    exact k
  go_wp2_with fail
  refine KRec.out.mono ?_
  rintro e w9 ⟨v9, rfl, hr9, hb9⟩
  obtain ⟨a9, c9, hv9, _, hi9, _, _⟩ := hr9.slice
  subst hv9
  have HI9 : Hid (InS (w9.alloc (.cells #[.string ⟨#[120]⟩] 9)) a9 [[120]]) := hi9.keep (gB_alloc w9 _)
  have HT9 : Hid (Wl w (w9.alloc (.cells #[.string ⟨#[120]⟩] 9)) (fun k => k < w.heap.size) bd bm 2104 (s3.cr []) l3) := (HT8.out.keep0 hb9).keep0 (gB_alloc w9 _)
  have C9 : Hid (InS (w9.alloc (.cells #[.string ⟨#[120]⟩] 9)) (some ⟨w9.heap.size, 0, none⟩) [[120]]) := one_in (by rw [cell_of_row _ w9.heap.size 0 _ _ (0, 0) (heap_alloc_new w9 _)]; rfl)
  clear hr9 hb9 hi9
  go_wp2_with fail
  refine (wsame_is _ a9 (some ⟨w9.heap.size, 0, none⟩) 1 1 c9 1 [[120]] [[120]] rfl rfl (by omega) (by omega) HI9.out C9.out (fun B hB => by have : B = [120] := (by simpa using hB); rw [this]; exact x_bytes) (fun B hB => by have : B = [120] := (by simpa using hB); rw [this]; exact x_bytes)).mono ?_
  rintro e w10 ⟨rfl, hb10⟩
  have HT10 : Hid (Wl w w10 (fun k => k < w.heap.size) bd bm 2104 (s3.cr []) l3) := HT9.out.keep0 hb10
  clear hb10
  have KU : Hid (Calls Try.prog 13 #[.pointer (some ⟨bm, 0, none⟩)] w10 fun e w' => e = .returned (.int .i64 9) ∧ w' = w10) := by
    have k := wl_used HT10.out
    rw [H1.out.2.2.2.2.2.2.2.1] at k
    exact k
  have ed : decide (([[120]] : List (List Int)) = [[120]]) = true := by decide
  rw [ed]
  go_wp2_with fail
  refine KU.out.mono ?_
  rintro e w11 ⟨rfl, rfl⟩
  go_wp2_with fail
  go_ret
  exact ⟨rfl, HT10.out.bel⟩
end Go.Proofs.Ytchnbfdfcjahpaa
namespace Go.Proofs.Ytchnbfdfcjahpaa
open Go.ChangeShapes Go.WideShapes Go.ChangeAt Go.RowKit Go.Deep Go.Maps
set_option linter.unusedVariables false
/-- a record, cut -/
def cS (B : List Int) : List Int := if 300 < B.length ∧ B.length ≤ 4096 then B.take 300 else if 5000 < B.length then B.take 5000 else B
theorem cS_len (B : List Int) : (cS B).length ≤ 5000 := by
  unfold cS
  split
  · rw [List.length_take]; omega
  · split
    · rw [List.length_take]; omega
    · omega
theorem cS_bytes {B : List Int} (h : IsBytes B) : IsBytes (cS B) := by
  unfold cS
  split
  · exact bytes_of_mem fun x hx => bytes_mem h x (List.mem_of_mem_take hx)
  · split
    · exact bytes_of_mem fun x hx => bytes_mem h x (List.mem_of_mem_take hx)
    · exact h
def smL (l : List (List Int)) : List (List Int) := (l.take 20).map cS
theorem smL_len (l : List (List Int)) : (smL l).length ≤ 20 := by
  unfold smL
  rw [List.length_map, List.length_take]
  omega
theorem smL_bytes {l : List (List Int)} (h : ∀ B ∈ l, IsBytes B) : ∀ B ∈ smL l, IsBytes B ∧ B.length ≤ 5000 := by
  intro B hB
  obtain ⟨C, hC, rfl⟩ := List.mem_map.1 hB
  exact ⟨cS_bytes (h C (List.mem_of_mem_take hC)), cS_len C⟩
theorem str_size (L : List Int) : (strOfNums L).size = L.length := by
  show ((List.map (fun n : Int => UInt8.ofNat n.toNat) L).toArray).size = _
  simp
theorem ext_take (L : List Int) (k : Nat) : (strOfNums L).extract 0 k = strOfNums (L.take k) := by rw [extract_nums]; rfl
theorem sm_step (l : List (List Int)) (j : Nat) (h : j < l.length) : (l.take (j + 1)).map cS = (l.take j).map cS ++ [cS (l.getD j [])] := by
  rw [take_succ_getD l j h, List.map_append]
  rfl
set_option maxRecDepth 100000 in
set_option maxHeartbeats 4000000 in
theorem small_is (w : World) (a : Option Addr) (n c : Nat) (recs : List (List Int)) (hn : recs.length = n) (hn2 : n ≤ 17592186044416) (hz2 : ∀ B ∈ recs, B.length ≤ 140737488355328) (hin : InS w a recs) :
    Calls Try.prog 23 #[.slice a n c] w fun e w' => ∃ v, e = .returned v ∧ RowsS w' w.heap.size v (smL recs) ∧ Below w.heap.size w w' := by
  have HI : Hid (InS w a recs) := hin
  have HZ0 : Hid (∀ B ∈ recs, B.length ≤ 140737488355328) := hz2
  obtain ⟨h, hh⟩ : ∃ h, h = w.heap.size := ⟨_, rfl⟩
  have HH : Hid (h = w.heap.size) := hh
  clear hin hh hz2
  go_enter Try.func23, Try.ntmps23
  go_wp2_with fail
  go_loopg [3, 4] 20 (fun g v i wr => ∃ (j : Nat), j ≤ n ∧ j ≤ 20 ∧ g = 20 - j ∧ i = .int .i64 (j : Int) ∧ Hid (RowsS wr h v ((recs.take j).map cS)) ∧ Hid (Below h w wr))
  case atStart => exact ⟨0, Nat.zero_le _, Nat.zero_le _, rfl, rfl, RowsS.nil _ _, Below.refl _ _⟩
  case round =>
    obtain ⟨j, hj, hj2, rfl, rfl, HO, HBW⟩ := hrel
    have hsz := HBW.out.size
    have HBw : Hid (Below w.heap.size w wr) := by show Below _ _ _; rw [← HH.out]; exact HBW.out
    by_cases hjn : j < n
    · have i1 : (j : Int) < (n : Int) := by omega
      by_cases hj20 : j < 20
      · have i2 : (j : Int) < 20 := by omega
        obtain ⟨g, off, rfl, hcell⟩ : ∃ g off, a = some ⟨g, off, none⟩ ∧ ∀ i, i < recs.length → w.cell? ⟨g, off + i, none⟩ = some (.string (strOfNums (recs.getD i []))) := by
          rcases HI.out with rfl | h
          · simp at hn; omega
          · exact h
        have hcj : wr.cell? ⟨g, off + j, none⟩ = some (.string (strOfNums (recs.getD j []))) := (HBw.out.cell (p := ⟨g, off + j, none⟩) (World.block_lt_of_cell? _ _ (hcell j (by omega)))).trans (hcell j (by omega))
        clear hcell
        have hXl := HZ0.out _ (show recs.getD j [] ∈ recs by rw [List.getD_eq_getElem?_getD, List.getElem?_eq_getElem (by omega)]; exact List.getElem_mem _)
        have HT : Hid ((recs.take (j + 1)).map cS = (recs.take j).map cS ++ [cS (recs.getD j [])]) := sm_step recs j (by omega)
        have hL : ((recs.take j).map cS).length = j := by rw [List.length_map, List.length_take]; omega
        have HL : Hid (((recs.take j).map cS).length = j) := hL
        generalize recs.getD j [] = X at *
        have hSz := str_size X
        have hE3 := ext_take X 300
        have hE5 := ext_take X 5000
        have HC : Hid (cS X = if 300 < X.length ∧ X.length ≤ 4096 then X.take 300 else if 5000 < X.length then X.take 5000 else X) := rfl
        have h3z := str_size (X.take 300)
        have h5z := str_size (X.take 5000)
        rw [← hE3] at h3z
        rw [List.length_take] at h3z
        have HE3 : Hid ((strOfNums X).extract 0 300 = strOfNums (X.take 300)) := hE3
        have HE5 : Hid ((strOfNums X).extract 0 5000 = strOfNums (X.take 5000)) := hE5
        have hhw : h ≤ wr.heap.size := by rw [HH.out]; exact hsz
        clear hE3 hE5 hL h5z
        obtain ⟨z, hz⟩ : ∃ z, z = X.length := ⟨_, rfl⟩
        rw [← hz] at hSz h3z hXl
        have HZ : Hid (X.length = z) := hz.symm
        have HS0 : Hid (∃ S, S = strOfNums X) := ⟨_, rfl⟩
        clear hz
        by_cases hA : 300 < z ∧ z ≤ 4096
        · have t1 : (300 : Int) < ((strOfNums X).size : Int) := by omega
          have t2 : ((strOfNums X).size : Int) ≤ 4096 := by omega
          have t3 : ((strOfNums X).extract 0 300).size = 300 := by omega
          have t4 : ¬ (5000 : Int) < (((strOfNums X).extract 0 300).size : Int) := by omega
          clear h3z
          have HC2 : Hid (cS X = X.take 300) := by show _ = _; rw [HC.out, HZ.out]; rw [if_pos hA]
          have CI : Hid (InS (wr.alloc (.cells #[.string ((strOfNums X).extract 0 300)] 9)) (some ⟨wr.heap.size, 0, none⟩) [X.take 300]) := one_in (by rw [cell_of_row _ wr.heap.size 0 _ _ (0, 0) (heap_alloc_new wr _)]; first | rfl | (rw [HE3.out]; rfl) | (rw [HE5.out]; rfl))
          have O1 : Hid (RowsS (wr.alloc (.cells #[.string ((strOfNums X).extract 0 300)] 9)) h u3 ((recs.take j).map cS)) := HO.out.keep (gB_alloc wr _)
          have B1 : Hid (Below h w (wr.alloc (.cells #[.string ((strOfNums X).extract 0 300)] 9))) := HBW.out.trans ((gB_alloc wr _).mono hhw)
          have Z1 : Hid (h ≤ (wr.alloc (.cells #[.string ((strOfNums X).extract 0 300)] 9)).heap.size) := by
            show _ ≤ _
            rw [show (wr.alloc (.cells #[.string ((strOfNums X).extract 0 300)] 9)).heap.size = wr.heap.size + 1 by simp]
            omega
          go_wp2_with (at_builtin; refine appTL rfl (.tmp 35) (.tmp 37) rfl h _ ((recs.take j).map cS) rfl O1.out ⟨wr.heap.size, 0, none⟩ 1 1 [X.take 300] rfl rfl CI.out (by rw [HL.out]; omega) Z1.out ?_; intro v2 w2 r2 g2 o2; have R2 : Hid (RowsS w2 h v2 ((recs.take j).map cS ++ [X.take 300])) := r2; have G2 : Hid (Below h w w2) := B1.out.grown g2 Z1.out (fun k hk => (O1.out.own k hk).1); clear r2 g2 o2)
          go_roundg (20 - (j + 1))
          case measure => omega
          case rel => exact ⟨j + 1, by omega, by omega, rfl, by go_num, by rw [HT.out, HC2.out]; exact R2.out, G2.out⟩
        · by_cases hB : 5000 < z
          · have t1 : (300 : Int) < ((strOfNums X).size : Int) := by omega
            have t2 : ¬ ((strOfNums X).size : Int) ≤ 4096 := by omega
            have t4 : (5000 : Int) < ((strOfNums X).size : Int) := by omega
            have HC2 : Hid (cS X = X.take 5000) := by show _ = _; rw [HC.out, HZ.out]; rw [if_neg hA, if_pos hB]
            have CI : Hid (InS (wr.alloc (.cells #[.string ((strOfNums X).extract 0 5000)] 9)) (some ⟨wr.heap.size, 0, none⟩) [X.take 5000]) := one_in (by rw [cell_of_row _ wr.heap.size 0 _ _ (0, 0) (heap_alloc_new wr _)]; first | rfl | (rw [HE3.out]; rfl) | (rw [HE5.out]; rfl))
            have O1 : Hid (RowsS (wr.alloc (.cells #[.string ((strOfNums X).extract 0 5000)] 9)) h u3 ((recs.take j).map cS)) := HO.out.keep (gB_alloc wr _)
            have B1 : Hid (Below h w (wr.alloc (.cells #[.string ((strOfNums X).extract 0 5000)] 9))) := HBW.out.trans ((gB_alloc wr _).mono hhw)
            have Z1 : Hid (h ≤ (wr.alloc (.cells #[.string ((strOfNums X).extract 0 5000)] 9)).heap.size) := by
              show _ ≤ _
              rw [show (wr.alloc (.cells #[.string ((strOfNums X).extract 0 5000)] 9)).heap.size = wr.heap.size + 1 by simp]
              omega
            go_wp2_with (at_builtin; refine appTL rfl (.tmp 35) (.tmp 37) rfl h _ ((recs.take j).map cS) rfl O1.out ⟨wr.heap.size, 0, none⟩ 1 1 [X.take 5000] rfl rfl CI.out (by rw [HL.out]; omega) Z1.out ?_; intro v2 w2 r2 g2 o2; have R2 : Hid (RowsS w2 h v2 ((recs.take j).map cS ++ [X.take 5000])) := r2; have G2 : Hid (Below h w w2) := B1.out.grown g2 Z1.out (fun k hk => (O1.out.own k hk).1); clear r2 g2 o2)
            go_roundg (20 - (j + 1))
            case measure => omega
            case rel => exact ⟨j + 1, by omega, by omega, rfl, by go_num, by rw [HT.out, HC2.out]; exact R2.out, G2.out⟩
          · by_cases hD : 300 < z
            · have t1 : (300 : Int) < ((strOfNums X).size : Int) := by omega
              have t2 : ¬ ((strOfNums X).size : Int) ≤ 4096 := by omega
              have t4 : ¬ (5000 : Int) < ((strOfNums X).size : Int) := by omega
              have HC2 : Hid (cS X = X) := by show _ = _; rw [HC.out, HZ.out]; rw [if_neg hA, if_neg hB]
              have CI : Hid (InS (wr.alloc (.cells #[.string (strOfNums X)] 9)) (some ⟨wr.heap.size, 0, none⟩) [X]) := one_in (by rw [cell_of_row _ wr.heap.size 0 _ _ (0, 0) (heap_alloc_new wr _)]; first | rfl | (rw [HE3.out]; rfl) | (rw [HE5.out]; rfl))
              have O1 : Hid (RowsS (wr.alloc (.cells #[.string (strOfNums X)] 9)) h u3 ((recs.take j).map cS)) := HO.out.keep (gB_alloc wr _)
              have B1 : Hid (Below h w (wr.alloc (.cells #[.string (strOfNums X)] 9))) := HBW.out.trans ((gB_alloc wr _).mono hhw)
              have Z1 : Hid (h ≤ (wr.alloc (.cells #[.string (strOfNums X)] 9)).heap.size) := by
                show _ ≤ _
                rw [show (wr.alloc (.cells #[.string (strOfNums X)] 9)).heap.size = wr.heap.size + 1 by simp]
                omega
              go_wp2_with (at_builtin; refine appTL rfl (.tmp 35) (.tmp 37) rfl h _ ((recs.take j).map cS) rfl O1.out ⟨wr.heap.size, 0, none⟩ 1 1 [X] rfl rfl CI.out (by rw [HL.out]; omega) Z1.out ?_; intro v2 w2 r2 g2 o2; have R2 : Hid (RowsS w2 h v2 ((recs.take j).map cS ++ [X])) := r2; have G2 : Hid (Below h w w2) := B1.out.grown g2 Z1.out (fun k hk => (O1.out.own k hk).1); clear r2 g2 o2)
              go_roundg (20 - (j + 1))
              case measure => omega
              case rel => exact ⟨j + 1, by omega, by omega, rfl, by go_num, by rw [HT.out, HC2.out]; exact R2.out, G2.out⟩
            · have t1 : ¬ (300 : Int) < ((strOfNums X).size : Int) := by omega
              have t4 : ¬ (5000 : Int) < ((strOfNums X).size : Int) := by omega
              have HC2 : Hid (cS X = X) := by show _ = _; rw [HC.out, HZ.out]; rw [if_neg hA, if_neg hB]
              have CI : Hid (InS (wr.alloc (.cells #[.string (strOfNums X)] 9)) (some ⟨wr.heap.size, 0, none⟩) [X]) := one_in (by rw [cell_of_row _ wr.heap.size 0 _ _ (0, 0) (heap_alloc_new wr _)]; first | rfl | (rw [HE3.out]; rfl) | (rw [HE5.out]; rfl))
              have O1 : Hid (RowsS (wr.alloc (.cells #[.string (strOfNums X)] 9)) h u3 ((recs.take j).map cS)) := HO.out.keep (gB_alloc wr _)
              have B1 : Hid (Below h w (wr.alloc (.cells #[.string (strOfNums X)] 9))) := HBW.out.trans ((gB_alloc wr _).mono hhw)
              have Z1 : Hid (h ≤ (wr.alloc (.cells #[.string (strOfNums X)] 9)).heap.size) := by
                show _ ≤ _
                rw [show (wr.alloc (.cells #[.string (strOfNums X)] 9)).heap.size = wr.heap.size + 1 by simp]
                omega
              go_wp2_with (at_builtin; refine appTL rfl (.tmp 35) (.tmp 37) rfl h _ ((recs.take j).map cS) rfl O1.out ⟨wr.heap.size, 0, none⟩ 1 1 [X] rfl rfl CI.out (by rw [HL.out]; omega) Z1.out ?_; intro v2 w2 r2 g2 o2; have R2 : Hid (RowsS w2 h v2 ((recs.take j).map cS ++ [X])) := r2; have G2 : Hid (Below h w w2) := B1.out.grown g2 Z1.out (fun k hk => (O1.out.own k hk).1); clear r2 g2 o2)
              go_roundg (20 - (j + 1))
              case measure => omega
              case rel => exact ⟨j + 1, by omega, by omega, rfl, by go_num, by rw [HT.out, HC2.out]; exact R2.out, G2.out⟩
      · have i2 : ¬ (j : Int) < 20 := by omega
        have HT : Hid ((recs.take j).map cS = smL recs) := by
          show _ = _
          have : j = 20 := by omega
          rw [this]; rfl
        go_wp2_with fail
        go_ret
        exact ⟨_, rfl, by rw [← HT.out, ← HH.out]; exact HO.out, HBw.out⟩
    · have i1 : ¬ (j : Int) < (n : Int) := by omega
      have HT : Hid ((recs.take j).map cS = smL recs) := by
        show _ = _
        unfold smL
        rw [List.take_of_length_le (by omega), List.take_of_length_le (by omega)]
      go_wp2_with fail
      go_ret
      exact ⟨_, rfl, by rw [← HT.out, ← HH.out]; exact HO.out, HBw.out⟩
end Go.Proofs.Ytchnbfdfcjahpaa
namespace Go.Proofs.Ytchnbfdfcjahpaa
open Go.ChangeShapes Go.WideShapes Go.ChangeAt Go.RowKit Go.Deep
set_option linter.unusedVariables false
theorem mem_weightsAll {H : Type} {P : Program} {e : TypeId} {q : Nat} : ∀ {l : List (DataW H)} {d : DataW H}, d ∈ l → q ∈ d.weights P e → q ∈ DataW.weightsAll P e l
  | [], _, h, _ => by cases h
  | x :: r, d, h, hq => by
    rw [DataW.weightsAll]
    rcases List.mem_cons.1 h with rfl | h
    · exact List.mem_append_left _ hq
    · exact List.mem_append_right _ (mem_weightsAll h hq)
theorem bytesT : Try.prog.bytesOf 9 = 16 := by kernel_rfl
theorem cellsT : Try.prog.cellsOf 9 = 1 := by kernel_rfl
/-- a slice of texts that came in: what it holds, with what its reach bounds -/
theorem open_texts {H : Type} {enc : TypeId × Value → H} {W : World} {fuel : Nat} {a : Option Addr} {len cap : Nat} {x : DataW H × List MemPlace} (h : DataW.trod enc Try.prog W 0 (fun _ => true) true fuel 27 [.slice a len cap] = some x) (hw : ∀ q ∈ x.1.weights Try.prog 27, q ≤ 140737488351232) :
    ∃ l, l.length = len ∧ InS W a l ∧ len ≤ 17592186044416 ∧ ∀ B ∈ l, IsBytes B ∧ B.length ≤ 140737488351232 := by
  rcases open_strings Try.underlying27 Try.underlying9 cellsT h with ⟨hcs, hx⟩ | ⟨a', len', cap', ss, hcs, _, hl, hm, hz, hx, hcell, hsz⟩
  · simp only [List.cons.injEq, and_true, Value.slice.injEq] at hcs
    obtain ⟨rfl, rfl, rfl⟩ := hcs
    exact ⟨[], rfl, .inl rfl, by omega, fun B hB => by cases hB⟩
  · simp only [List.cons.injEq, and_true, Value.slice.injEq] at hcs
    obtain ⟨rfl, rfl, rfl⟩ := hcs
    have hzl : ss.length = cap := by simpa using hz
    subst hx
    have htl : (ss.take len).length = len := by rw [List.length_take]; omega
    refine ⟨(ss.take len).map sN, by rw [List.length_map, htl], ?_, ?_, ?_⟩
    · by_cases h0 : len = 0
      · left
        subst h0
        rfl
      · right
        have hc0 := hcell 0 (by omega)
        obtain ⟨b, off, spot⟩ := a'
        have hspot : spot = none := by simpa [Addr.add] using World.cell?_spot hc0
        subst hspot
        refine ⟨b, off, rfl, fun i hi => ?_⟩
        rw [List.length_map, htl] at hi
        have hci := hcell i (by omega)
        rw [add_plain] at hci
        rw [hci]
        have hi2 : i < ss.length := by omega
        have hi3 : i < (ss.take len).length := by omega
        rw [List.getD_eq_getElem?_getD, List.getD_eq_getElem?_getD, List.getElem?_map, List.getElem?_eq_getElem hi3, List.getElem?_eq_getElem hi2, List.getElem_take]
        show some (Value.string ss[i]) = some (Value.string (strOfNums (sN ss[i])))
        rw [sN_str]
    · have hq := hw (((ss.take len).length + (ss.drop len).length) * 16) (by
        simp only [DataW.weights, Try.underlying27, bytesT, strs, List.length_map]
        exact List.mem_cons_self)
      rw [htl, List.length_drop] at hq
      omega
    · intro B hB
      obtain ⟨S, hS, rfl⟩ := List.mem_map.1 hB
      refine ⟨sN_bytes S, ?_⟩
      rw [sN_len]
      refine hw _ ?_
      simp only [DataW.weights, Try.underlying27]
      refine List.mem_cons_of_mem _ (List.mem_append_left _ (mem_weightsAll (d := .lit (.string S.data.toList)) ?_ ?_))
      · exact List.mem_map.2 ⟨S, hS, rfl⟩
      · simp [DataW.weights]
end Go.Proofs.Ytchnbfdfcjahpaa
namespace Go.Proofs.Ytchnbfdfcjahpaa
open Go.ChangeShapes Go.WideShapes Go.ChangeAt Go.RowKit Go.Deep Go.Maps
set_option linter.unusedVariables false
theorem mod_in20 (x : Int) : ∃ r : Nat, Int.tmod (Int.tmod x 20 + 20) 20 = (r : Int) ∧ r < 20 ∧ -20 < Int.tmod x 20 ∧ Int.tmod x 20 < 20 := by
  have g : -20 < Int.tmod x 20 ∧ Int.tmod x 20 < 20 := by
    rcases Int.le_total 0 x with g | g
    · rw [Int.tmod_eq_emod_of_nonneg g]
      omega
    · have e : x.tmod 20 = -((-x).tmod 20) := by rw [Int.neg_tmod, Int.neg_neg]
      rw [e, Int.tmod_eq_emod_of_nonneg (by omega)]
      omega
  have e := Int.tmod_eq_emod_of_nonneg (a := Int.tmod x 20 + 20) (b := 20) (by omega)
  have h0 := Int.emod_nonneg (Int.tmod x 20 + 20) (show (20 : Int) ≠ 0 by omega)
  have h1 := Int.emod_lt_of_pos (Int.tmod x 20 + 20) (show (0 : Int) < 20 by omega)
  exact ⟨(Int.tmod (Int.tmod x 20 + 20) 20).toNat, by rw [e]; omega, by rw [e]; omega, g⟩
/-- a new log with what waits -/
def lgW (M : Nat) (W : List (List Int)) : Lg := ⟨M, 1, 0, [], W, false⟩
theorem lgW_room (M : Nat) (W : List (List Int)) : (lgW M W).room = 64 * M - (joinL W).length := rfl
theorem lgW_big (M : Nat) (W : List (List Int)) (X : List Int) (h : 4096 < X.length) : (lgW M W).add X = (3, lgW M W) := by
  unfold Lg.add
  rw [if_neg (by simp [lgW]), frO_one, if_pos h]
  rfl
theorem lgW_full (M : Nat) (W : List (List Int)) (X : List Int) (h : ¬ 4096 < X.length) (h2 : (lgW M W).room < 8 + X.length) : (lgW M W).add X = (7, lgW M W) := by
  unfold Lg.add
  rw [if_neg (by simp [lgW]), frO_one, if_neg h, if_pos h2]
  rfl
theorem lgW_fits (M : Nat) (W : List (List Int)) (X : List Int) (h : ¬ 4096 < X.length) (h2 : ¬ (lgW M W).room < 8 + X.length) : (lgW M W).add X = (0, lgW M (W ++ [X])) := by
  unfold Lg.add
  rw [if_neg (by simp [lgW]), frO_one, if_neg h, if_neg h2]
  rfl
theorem lgW_more (M : Nat) (W : List (List Int)) (X : List Int) : (lgW M (W ++ [X])).room = (lgW M W).room - (8 + X.length) := by
  rw [lgW_room, lgW_room, joinL_snoc, List.length_append, frameL_length]
  omega
theorem lgW_sync {s : Ds} {M : Nat} {W : List (List Int)} (h : Gd s (lgW M W)) : ∃ l' s', (lgW M W).sync s = (0, l', s') ∧ l'.room = (lgW M W).room ∧ l'.W = [] ∧ l'.R = W ∧ l'.ln + (lgW M W).room = 64 * M ∧ s'.D.length = s.D.length := by
  have hr : (joinL W).length ≤ 64 * M := by
    have h1 := h.room
    have h2 : (lgW M W).ln + (joinL (lgW M W).W).length = (joinL W).length := by show 0 + (joinL W).length = _; omega
    have h3 : (lgW M W).m = M := rfl
    omega
  by_cases hW : W = []
  · subst hW
    refine ⟨lgW M [], s, ?_, rfl, rfl, rfl, ?_, rfl⟩
    · unfold Lg.sync
      rw [if_neg (by simp [lgW]), if_pos (show (lgW M []).W = [] from rfl)]
    · rw [lgW_room]; show 0 + (64 * M - 0) = _; omega
  · obtain ⟨s', e, _, hD⟩ := gd_sync h (by show 1 < 1152921504606846976; omega) hW
    refine ⟨_, s', e, ?_, rfl, rfl, ?_, hD⟩
    · rw [lgW_room]
      show 64 * M - (joinL ([] ++ W)).length - 0 = _
      rfl
    · rw [lgW_room]
      show (joinL ([] ++ W)).length + (64 * M - (joinL W).length) = _
      rw [List.nil_append]; omega
set_option maxRecDepth 100000 in
set_option maxHeartbeats 8000000 in
theorem walRoom_walk (a0 : Option Addr) (len0 cap0 : Nat) (L0 : List (List Int)) (x0 : Int) (w : World) (hn : L0.length = len0) (hin : InS w a0 L0) (hn2 : len0 ≤ 17592186044416) (hB : ∀ B ∈ L0, IsBytes B ∧ B.length ≤ 140737488351232) (hx0 : (Lit.int .i64 x0).wf = true) :
    Calls Try.prog 6 #[.slice a0 len0 cap0, .int .i64 x0] w fun e w' => e = .returned (.bool true) ∧ Below w.heap.size w w' := by
  have KWK : Hid (∀ w, Calls Try.prog 16 #[] w fun e w' => e = .returned (.bool true) ∧ Below w.heap.size w w') := works_true
  obtain ⟨r, hr, hr20, hm1, hm2⟩ := mod_in20 x0
  have hx1 := wf_i64 hx0
  have s1 : IntKind.i64.wrap (Int.tmod x0 20) = Int.tmod x0 20 := by rw [IntKind.wrap_i64]; omega
  have s2 : IntKind.i64.wrap (Int.tmod x0 20 + 20) = Int.tmod x0 20 + 20 := by rw [IntKind.wrap_i64]; omega
  have s3 : IntKind.i64.wrap (r : Int) = (r : Int) := by rw [IntKind.wrap_i64]; omega
  obtain ⟨n, hnr⟩ : ∃ n, n = 6 + r := ⟨_, rfl⟩
  have hnr2 : 6 + (r : Int) = (n : Int) := by omega
  obtain ⟨s, ho, G0, hD⟩ := gd_new n (by omega) (by omega)
  obtain ⟨M, hM⟩ : ∃ M, M = (n - 2) / 2 := ⟨_, rfl⟩
  rw [← hM] at ho G0
  have HO : Hid ((Ds.new n).opn = (0, some (lgW M []), s)) := ho
  have HG0 : Hid (Gd s (lgW M [])) := G0
  have HD : Hid (s.D.length = n) := hD
  have hn25 : 6 ≤ n ∧ n ≤ 25 := by omega
  have hMn : M ≤ 11 ∧ 2 + M ≤ n := by omega
  have HQ : Hid (Int.tdiv ((n : Int) - 2) 2 = (M : Int)) := by show _ = _; rw [Int.tdiv_eq_ediv_of_nonneg (by omega)]; omega
  have K1 : Hid (Calls Try.prog 22 #[.int .i64 (6 + (r : Int))] w fun e w' => ∃ b, e = .returned (.tuple #[.pointer (some ⟨b, 0, none⟩), .int .i64 0]) ∧ Wd w w' (fun k => k < w.heap.size) b 0 (Ds.new n) ∧ Below w.heap.size w w') := by rw [hnr2]; exact wd_new n (by omega) (by omega) w w (Below.refl _ _)
  have HI0 : Hid (InS w a0 L0) := hin
  have HB0 : Hid (∀ B ∈ L0, IsBytes B ∧ B.length ≤ 140737488351232) := hB
  clear hin hB ho G0 hD hM hx0 hx1 hnr hnr2
  go_enter Try.func6, Try.ntmps6
  go_wp2_with fail
  refine K1.out.mono ?_
  rintro e w1 ⟨bd, rfl, T1, hb1⟩
  have HT1 : Hid (Wd w w1 (fun k => k < w.heap.size) bd 0 (Ds.new n)) := T1
  clear T1 hb1 s1 s2 s3 hr hm1 hm2 hr20
  go_wp2_with fail
  refine (wd_open HT1.out (by omega)).mono ?_
  rintro e w2 ⟨_, _, hor⟩
  have h2 : ∃ bl, e = .returned (.tuple #[.pointer (some ⟨bl, 0, none⟩), .int .i64 0]) ∧ Wl w w2 (fun k => k < w.heap.size) bd bl 2 s (lgW M []) := by
    rw [HO.out] at hor
    rcases hor with ⟨_, bl, l, hl, he, hw, _⟩ | ⟨h0, _⟩
    · obtain rfl := Option.some.inj hl
      exact ⟨bl, he, hw⟩
    · exact absurd rfl h0
  obtain ⟨bl, rfl, T2⟩ := h2
  have HT2 : Hid (Wl w w2 (fun k => k < w.heap.size) bd bl 2 s (lgW M [])) := T2
  clear T2 hor
  have KS : Hid (Calls Try.prog 23 #[.slice a0 len0 cap0] w2 fun e w' => ∃ v, e = .returned v ∧ RowsS w' w2.heap.size v (smL L0) ∧ Below w2.heap.size w2 w') := small_is w2 a0 len0 cap0 L0 hn hn2 (fun B hB => by have := (HB0.out B hB).2; omega) (HI0.out.kept fun x hx hne => HT2.out.bel.block _ (HI0.out.lt x hx hne))
  go_wp2_with fail
  refine KS.out.mono ?_
  rintro e w3 ⟨v3, rfl, hr3, hb3⟩
  obtain ⟨a3, c3, rfl, _, hi3, _, _⟩ := hr3.slice
  have hP3 : ∀ x, a3 = some x → smL L0 ≠ [] → w2.heap.size ≤ x.block ∧ x.block < w3.heap.size := fun x hx hne => ⟨by subst hx; exact (hr3.own x.block rfl).1, hi3.lt x hx hne⟩
  obtain ⟨P, hPe⟩ : ∃ P : Nat → Prop, P = fun k => k < w.heap.size ∨ (w2.heap.size ≤ k ∧ k < w3.heap.size) := ⟨_, rfl⟩
  have HP : Hid (∀ x, a3 = some x → smL L0 ≠ [] → P x.block) := fun x hx hne => by rw [hPe]; exact .inr (hP3 x hx hne)
  have HT3 : Hid (Wl w w3 P bd bl 2 s (lgW M [])) := by rw [hPe]; exact HT2.out.keep hb3
  have HI3 : Hid (InS w3 a3 (smL L0)) := hi3
  have HLB : Hid (∀ B ∈ smL L0, IsBytes B ∧ B.length ≤ 5000) := smL_bytes fun B hB => (HB0.out B hB).1
  have hq20 := smL_len L0
  obtain ⟨q, hq⟩ : ∃ q, q = (smL L0).length := ⟨_, rfl⟩
  rw [← hq] at hq20 ⊢
  have HQ2 : Hid ((smL L0).length = q) := hq.symm
  clear hr3 hb3 hi3 hP3 hPe hq
  generalize smL L0 = Y at *
  go_wp2_with fail
  go_loopg [9, 40] 20 (fun g u i wr => ∃ (j : Nat) (W : List (List Int)), j ≤ q ∧ g = 20 - j ∧ i = .int .i64 (j : Int) ∧ u = .int .i64 (W.length : Int) ∧ W.length ≤ j ∧ Hid (Gd s (lgW M W)) ∧ Hid (Wl w wr P bd bl 2 s (lgW M W)) ∧ Hid (InS wr a3 Y))
  case atStart => exact ⟨0, [], Nat.zero_le _, rfl, rfl, rfl, Nat.le_refl _, HG0.out, HT3.out, HI3.out⟩
  case round =>
    obtain ⟨j, W, hj, rfl, rfl, rfl, hWj, HG, HT, HI⟩ := hrel
    by_cases hjq : j < q
    · have i1 : (j : Int) < (q : Int) := by omega
      have hY := HQ2.out
      obtain ⟨g3, off, rfl, hcell⟩ : ∃ g off, a3 = some ⟨g, off, none⟩ ∧ ∀ i, i < Y.length → wr.cell? ⟨g, off + i, none⟩ = some (.string (strOfNums (Y.getD i []))) := by
        rcases HI.out with rfl | h
        · simp at hY; omega
        · exact h
      have hcj := hcell j (by omega)
      have hmem : Y.getD j [] ∈ Y := by
        rw [List.getD_eq_getElem?_getD, List.getElem?_eq_getElem (by omega)]
        exact List.getElem_mem _
      obtain ⟨hXb, hXl⟩ := HLB.out _ hmem
      have hPg : P g3 := HP.out ⟨g3, off, none⟩ rfl (fun e => by rw [e] at hY; simp at hY; omega)
      have HPg : Hid (P g3) := hPg
      generalize Y.getD j [] = X at *
      have HXb : Hid (IsBytes X) := hXb
      have hSz := str_size X
      obtain ⟨z, hz⟩ : ∃ z, z = X.length := ⟨_, rfl⟩
      rw [← hz] at hSz hXl
      have HZ : Hid (X.length = z) := hz.symm
      obtain ⟨R, hR⟩ : ∃ R, R = (lgW M W).room := ⟨_, rfl⟩
      have HR : Hid ((lgW M W).room = R) := hR.symm
      have hR2 : R ≤ 704 := by rw [hR, lgW_room]; omega
      have KR : Hid (Calls Try.prog 14 #[.pointer (some ⟨bl, 0, none⟩)] wr fun e w' => e = .returned (.int .i64 (R : Int)) ∧ Below wr.heap.size wr w') := by
        have k := wl_room HT.out
        rw [HR.out] at k
        exact k
      have HC0 : Hid (wr.cell? ⟨g3, off + j, none⟩ = some (.string (strOfNums X))) := hcj
      clear hcell hmem hXb hz hR hPg hY hcj
      go_wp2_with fail
      refine KR.out.mono ?_
      rintro e wa ⟨rfl, hba⟩
      have HTa : Hid (Wl w wa P bd bl 2 s (lgW M W)) := HT.out.keep0 hba
      have HIa : Hid (InS wa (some ⟨g3, off, none⟩) Y) := HI.out.keep hba
      have ca : wa.cell? ⟨g3, off + j, none⟩ = some (.string (strOfNums X)) := (hba.cell (p := ⟨g3, off + j, none⟩) (World.block_lt_of_cell? _ _ HC0.out)).trans HC0.out
      have HCa : Hid (wa.cell? ⟨g3, off + j, none⟩ = some (.string (strOfNums X))) := ca
      clear hba
      by_cases hbig : 4096 < z
      · have t1 : (4096 : Int) < (z : Int) := by omega
        have KA : Hid (Calls Try.prog 8 #[.pointer (some ⟨bl, 0, none⟩), .string (strOfNums X)] wa fun e w' => e = .returned (.int .i64 3) ∧ Wl w w' P bd bl 2 s (lgW M (W)) ∧ ∀ k, P k → w'.heap[k]? = wa.heap[k]?) := by
          have k := wl_add HTa.out X HXb.out
          rw [lgW_big M W X (by rw [HZ.out]; exact hbig)] at k
          exact k
        have HG2 : Hid (Gd s (lgW M (W))) := by
          have k := gd_add HG.out X HXb.out
          rw [lgW_big M W X (by rw [HZ.out]; exact hbig)] at k
          exact k
        have HR2 : Hid ((lgW M (W)).room = R) := by
          exact HR.out
        go_wp2_with fail
        refine KA.out.mono ?_
        rintro e wb ⟨rfl, hTb, hkb⟩
        have HTb : Hid (Wl w wb P bd bl 2 s (lgW M (W))) := hTb
        have HIb : Hid (InS wb (some ⟨g3, off, none⟩) Y) := HIa.out.kept fun x hx _ => by obtain rfl := Option.some.inj hx; exact hkb _ HPg.out
        have cb : wb.cell? ⟨g3, off + j, none⟩ = some (.string (strOfNums X)) := (World.cell?_of_block (a := ⟨g3, off + j, none⟩) (hkb g3 HPg.out)).trans HCa.out
        clear hTb hkb ca
        have KR2 : Hid (Calls Try.prog 14 #[.pointer (some ⟨bl, 0, none⟩)] wb fun e w' => e = .returned (.int .i64 ((R : Nat) : Int)) ∧ Below wb.heap.size wb w') := by
          have k := wl_room HTb.out
          rw [HR2.out] at k
          exact k
        go_wp2_with fail
        refine KR2.out.mono ?_
        rintro e wc ⟨rfl, hbc⟩
        have HTc : Hid (Wl w wc P bd bl 2 s (lgW M (W))) := HTb.out.keep0 hbc
        have HIc : Hid (InS wc (some ⟨g3, off, none⟩) Y) := HIb.out.keep hbc
        clear hbc cb
        have KW : Hid (Calls Try.prog 12 #[.pointer (some ⟨bl, 0, none⟩)] wc fun e w' => e = .returned (.int .i64 ((W.length : Int))) ∧ w' = wc) := by
          have k := wl_waiting HTc.out
          have el : (((lgW M (W)).W.length : Nat) : Int) = (W.length : Int) := by show (((W).length : Nat) : Int) = _; simp
          rw [el] at k
          exact k
        have KU : Hid (Calls Try.prog 13 #[.pointer (some ⟨bl, 0, none⟩)] wc fun e w' => e = .returned (.int .i64 0) ∧ w' = wc) := wl_used HTc.out
        go_wp2_with fail
        refine KW.out.mono ?_
        rintro e wd ⟨rfl, rfl⟩
        go_wp2_with fail
        refine KU.out.mono ?_
        rintro e we ⟨rfl, rfl⟩
        go_wp2_with fail
        go_roundg (20 - (j + 1))
        case measure => omega
        case rel => exact ⟨j + 1, W, by omega, rfl, by go_num, by rfl, by omega, HG2.out, HTc.out, HIc.out⟩
      · have t1 : ¬ (4096 : Int) < (z : Int) := by omega
        by_cases hfull : R < 8 + z
        · have t2 : (R : Int) < (z : Int) + 8 := by omega
          have KA : Hid (Calls Try.prog 8 #[.pointer (some ⟨bl, 0, none⟩), .string (strOfNums X)] wa fun e w' => e = .returned (.int .i64 7) ∧ Wl w w' P bd bl 2 s (lgW M (W)) ∧ ∀ k, P k → w'.heap[k]? = wa.heap[k]?) := by
            have k := wl_add HTa.out X HXb.out
            rw [lgW_full M W X (by rw [HZ.out]; exact hbig) (by rw [HR.out, HZ.out]; exact hfull)] at k
            exact k
          have HG2 : Hid (Gd s (lgW M (W))) := by
            have k := gd_add HG.out X HXb.out
            rw [lgW_full M W X (by rw [HZ.out]; exact hbig) (by rw [HR.out, HZ.out]; exact hfull)] at k
            exact k
          have HR2 : Hid ((lgW M (W)).room = R) := by
            exact HR.out
          go_wp2_with fail
          refine KA.out.mono ?_
          rintro e wb ⟨rfl, hTb, hkb⟩
          have HTb : Hid (Wl w wb P bd bl 2 s (lgW M (W))) := hTb
          have HIb : Hid (InS wb (some ⟨g3, off, none⟩) Y) := HIa.out.kept fun x hx _ => by obtain rfl := Option.some.inj hx; exact hkb _ HPg.out
          have cb : wb.cell? ⟨g3, off + j, none⟩ = some (.string (strOfNums X)) := (World.cell?_of_block (a := ⟨g3, off + j, none⟩) (hkb g3 HPg.out)).trans HCa.out
          clear hTb hkb ca
          have KR2 : Hid (Calls Try.prog 14 #[.pointer (some ⟨bl, 0, none⟩)] wb fun e w' => e = .returned (.int .i64 ((R : Nat) : Int)) ∧ Below wb.heap.size wb w') := by
            have k := wl_room HTb.out
            rw [HR2.out] at k
            exact k
          go_wp2_with fail
          refine KR2.out.mono ?_
          rintro e wc ⟨rfl, hbc⟩
          have HTc : Hid (Wl w wc P bd bl 2 s (lgW M (W))) := HTb.out.keep0 hbc
          have HIc : Hid (InS wc (some ⟨g3, off, none⟩) Y) := HIb.out.keep hbc
          clear hbc cb
          have KW : Hid (Calls Try.prog 12 #[.pointer (some ⟨bl, 0, none⟩)] wc fun e w' => e = .returned (.int .i64 ((W.length : Int))) ∧ w' = wc) := by
            have k := wl_waiting HTc.out
            have el : (((lgW M (W)).W.length : Nat) : Int) = (W.length : Int) := by show (((W).length : Nat) : Int) = _; simp
            rw [el] at k
            exact k
          have KU : Hid (Calls Try.prog 13 #[.pointer (some ⟨bl, 0, none⟩)] wc fun e w' => e = .returned (.int .i64 0) ∧ w' = wc) := wl_used HTc.out
          go_wp2_with fail
          refine KW.out.mono ?_
          rintro e wd ⟨rfl, rfl⟩
          go_wp2_with fail
          refine KU.out.mono ?_
          rintro e we ⟨rfl, rfl⟩
          go_wp2_with fail
          go_roundg (20 - (j + 1))
          case measure => omega
          case rel => exact ⟨j + 1, W, by omega, rfl, by go_num, by rfl, by omega, HG2.out, HTc.out, HIc.out⟩
        · have t2 : ¬ (R : Int) < (z : Int) + 8 := by omega
          have KA : Hid (Calls Try.prog 8 #[.pointer (some ⟨bl, 0, none⟩), .string (strOfNums X)] wa fun e w' => e = .returned (.int .i64 0) ∧ Wl w w' P bd bl 2 s (lgW M (W ++ [X])) ∧ ∀ k, P k → w'.heap[k]? = wa.heap[k]?) := by
            have k := wl_add HTa.out X HXb.out
            rw [lgW_fits M W X (by rw [HZ.out]; exact hbig) (by rw [HR.out, HZ.out]; exact hfull)] at k
            exact k
          have HG2 : Hid (Gd s (lgW M (W ++ [X]))) := by
            have k := gd_add HG.out X HXb.out
            rw [lgW_fits M W X (by rw [HZ.out]; exact hbig) (by rw [HR.out, HZ.out]; exact hfull)] at k
            exact k
          have HR2 : Hid ((lgW M (W ++ [X])).room = R - (8 + z)) := by
            show _ = _; rw [lgW_more, HR.out, HZ.out]
          go_wp2_with fail
          refine KA.out.mono ?_
          rintro e wb ⟨rfl, hTb, hkb⟩
          have HTb : Hid (Wl w wb P bd bl 2 s (lgW M (W ++ [X]))) := hTb
          have HIb : Hid (InS wb (some ⟨g3, off, none⟩) Y) := HIa.out.kept fun x hx _ => by obtain rfl := Option.some.inj hx; exact hkb _ HPg.out
          have cb : wb.cell? ⟨g3, off + j, none⟩ = some (.string (strOfNums X)) := (World.cell?_of_block (a := ⟨g3, off + j, none⟩) (hkb g3 HPg.out)).trans HCa.out
          clear hTb hkb ca
          have KR2 : Hid (Calls Try.prog 14 #[.pointer (some ⟨bl, 0, none⟩)] wb fun e w' => e = .returned (.int .i64 ((R - (8 + z) : Nat) : Int)) ∧ Below wb.heap.size wb w') := by
            have k := wl_room HTb.out
            rw [HR2.out] at k
            exact k
          have hsub : ((R - (8 + z) : Nat) : Int) = (R : Int) - ((z : Int) + 8) := by omega
          rw [hsub] at KR2
          clear hsub
          go_wp2_with fail
          refine KR2.out.mono ?_
          rintro e wc ⟨rfl, hbc⟩
          have HTc : Hid (Wl w wc P bd bl 2 s (lgW M (W ++ [X]))) := HTb.out.keep0 hbc
          have HIc : Hid (InS wc (some ⟨g3, off, none⟩) Y) := HIb.out.keep hbc
          clear hbc cb
          have KW : Hid (Calls Try.prog 12 #[.pointer (some ⟨bl, 0, none⟩)] wc fun e w' => e = .returned (.int .i64 ((W.length : Int) + 1)) ∧ w' = wc) := by
            have k := wl_waiting HTc.out
            have el : (((lgW M (W ++ [X])).W.length : Nat) : Int) = (W.length : Int) + 1 := by show (((W ++ [X]).length : Nat) : Int) = _; simp
            rw [el] at k
            exact k
          have KU : Hid (Calls Try.prog 13 #[.pointer (some ⟨bl, 0, none⟩)] wc fun e w' => e = .returned (.int .i64 0) ∧ w' = wc) := wl_used HTc.out
          go_wp2_with fail
          refine KW.out.mono ?_
          rintro e wd ⟨rfl, rfl⟩
          go_wp2_with fail
          refine KU.out.mono ?_
          rintro e we ⟨rfl, rfl⟩
          go_wp2_with fail
          go_roundg (20 - (j + 1))
          case measure => omega
          case rel => exact ⟨j + 1, W ++ [X], by omega, rfl, by go_num, by simp, by simp; omega, HG2.out, HTc.out, HIc.out⟩
    · have e : j = q := by omega
      subst e
      have i1 : ¬ (j : Int) < (j : Int) := by omega
      obtain ⟨l', s', hsy, hro, hw', hR', hln, hDl⟩ := lgW_sync HG.out
      obtain ⟨R, hR⟩ : ∃ R, R = (lgW M W).room := ⟨_, rfl⟩
      rw [← hR] at hro hln
      have hR2 : R ≤ 704 := by omega
      have HR : Hid ((lgW M W).room = R) := hR.symm
      have HS : Hid ((lgW M W).sync s = (0, l', s') ∧ l'.room = R ∧ l'.W = [] ∧ l'.R = W ∧ s'.D.length = n) := ⟨hsy, hro, hw', hR', by rw [hDl]; exact HD.out⟩
      have HLN : Hid ((l'.ln : Int) = (M : Int) * 64 - (R : Int)) := by show _ = _; omega
      have hfit : 2 + (lgW M W).ar * (lgW M W).m + (lgW M W).m ≤ s.D.length := by rw [HD.out]; show 2 + 0 * M + M ≤ n; omega
      have HF : Hid (2 + (lgW M W).ar * (lgW M W).m + (lgW M W).m ≤ s.D.length) := hfit
      clear hsy hro hw' hR' hln hDl hR hfit
      have KR : Hid (Calls Try.prog 14 #[.pointer (some ⟨bl, 0, none⟩)] wr fun e w' => e = .returned (.int .i64 (R : Int)) ∧ Below wr.heap.size wr w') := by
        have k := wl_room HT.out
        rw [HR.out] at k
        exact k
      go_wp2_with fail
      refine KR.out.mono ?_
      rintro e wa ⟨rfl, hba⟩
      have HTa : Hid (Wl w wa P bd bl 2 s (lgW M W)) := HT.out.keep0 hba
      clear hba
      have KSy : Hid (Calls Try.prog 9 #[.pointer (some ⟨bl, 0, none⟩)] wa fun e w' => e = .returned (.int .i64 0) ∧ Wl w w' P bd bl 2102 s' l' ∧ ∀ k, P k → w'.heap[k]? = wa.heap[k]?) := by
        have k := wl_sync HTa.out HF.out (by omega)
        rw [HS.out.1] at k
        exact k
      go_wp2_with fail
      refine KSy.out.mono ?_
      rintro e wb ⟨rfl, hTb, _⟩
      have HTb : Hid (Wl w wb P bd bl 2102 s' l') := hTb
      clear hTb
      have KR2 : Hid (Calls Try.prog 14 #[.pointer (some ⟨bl, 0, none⟩)] wb fun e w' => e = .returned (.int .i64 (R : Int)) ∧ Below wb.heap.size wb w') := by
        have k := wl_room HTb.out
        rw [HS.out.2.1] at k
        exact k
      go_wp2_with fail
      refine KR2.out.mono ?_
      rintro e wc ⟨rfl, hbc⟩
      have HTc : Hid (Wl w wc P bd bl 2102 s' l') := HTb.out.keep0 hbc
      clear hbc
      have KW : Hid (Calls Try.prog 12 #[.pointer (some ⟨bl, 0, none⟩)] wc fun e w' => e = .returned (.int .i64 0) ∧ w' = wc) := by
        have k := wl_waiting HTc.out
        rw [HS.out.2.2.1] at k
        exact k
      go_wp2_with fail
      refine KW.out.mono ?_
      rintro e wd ⟨rfl, rfl⟩
      have KC : Hid (Calls Try.prog 11 #[.pointer (some ⟨bl, 0, none⟩)] wd fun e w' => ∃ v, e = .returned v ∧ RowsS w' wd.heap.size v W ∧ Below wd.heap.size wd w') := by
        have k := wl_records HTc.out
        rw [HS.out.2.2.2.1] at k
        exact k
      go_wp2_with fail
      refine KC.out.mono ?_
      rintro e we ⟨ve, rfl, hre, hbe⟩
      obtain ⟨ae, ce, rfl, _⟩ := hre.slice
      have HTe : Hid (Wl w we P bd bl 2102 s' l') := HTc.out.keep0 hbe
      clear hre hbe
      have KU : Hid (Calls Try.prog 13 #[.pointer (some ⟨bl, 0, none⟩)] we fun e w' => e = .returned (.int .i64 ((M : Int) * 64 - (R : Int))) ∧ w' = we) := by
        have k := wl_used HTe.out
        rw [HLN.out] at k
        exact k
      have KB : Hid (Calls Try.prog 24 #[.pointer (some ⟨bd, 0, none⟩)] we fun e w' => e = .returned (.int .i64 (n : Int)) ∧ w' = we) := by
        have k := wd_blocks HTe.out.disk
        rw [HS.out.2.2.2.2] at k
        exact k
      go_wp2_with fail
      refine KU.out.mono ?_
      rintro e wf ⟨rfl, rfl⟩
      go_wp2_with fail
      refine KB.out.mono ?_
      rintro e wg ⟨rfl, rfl⟩
      have hqq := HQ.out
      go_wp2_with fail
      refine (KWK.out _).mono ?_
      rintro e wh ⟨rfl, hbh⟩
      have HTh : Hid (Wl w wh P bd bl 2102 s' l') := HTe.out.keep0 hbh
      clear hbh
      go_wp2_with fail
      go_ret
      exact ⟨rfl, HTh.out.bel⟩
end Go.Proofs.Ytchnbfdfcjahpaa
