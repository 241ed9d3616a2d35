/- The walk of CrcParts. -/
import Derived.Test.YtbeeekmhnigelaaCrcL
namespace Go.Proofs.Ytbeeekmhnigelaa
open Go.ChangeShapes Go.WideShapes Go.ChangeAt Go.RowKit Go.Deep
set_option linter.unusedVariables false
theorem tmodN (x : Int) (n : Nat) (h : 0 < n) : -(n : Int) < x.tmod n ∧ x.tmod n < n := by
  rcases Int.le_total 0 x with g | g
  · rw [Int.tmod_eq_emod_of_nonneg g]
    have := Int.emod_nonneg x (show (n : Int) ≠ 0 by omega)
    have := Int.emod_lt_of_pos x (show (0 : Int) < n by omega)
    omega
  · have e : x.tmod n = -((-x).tmod n) := by rw [Int.neg_tmod, Int.neg_neg]
    rw [e, Int.tmod_eq_emod_of_nonneg (by omega)]
    have := Int.emod_nonneg (-x) (show (n : Int) ≠ 0 by omega)
    have := Int.emod_lt_of_pos (-x) (show (0 : Int) < n by omega)
    omega
theorem cutN (x : Int) (r : Nat) (hb : r ≤ 1000000) : ∃ n : Nat, n ≤ r ∧ (wrap64 (wrap64 (x.tmod ((r : Int) + 1) + r) + 1)).tmod ((r : Int) + 1) = n := by
  have g := tmodN x (r + 1) (by omega)
  have c : ((r + 1 : Nat) : Int) = (r : Int) + 1 := by omega
  rw [c] at g
  have e1 : wrap64 (x.tmod ((r : Int) + 1) + r) = x.tmod ((r : Int) + 1) + r := by unfold wrap64; omega
  have e2 : wrap64 (x.tmod ((r : Int) + 1) + r + 1) = x.tmod ((r : Int) + 1) + r + 1 := by unfold wrap64; omega
  rw [e1, e2, Int.tmod_eq_emod_of_nonneg (by omega)]
  have h0 := Int.emod_nonneg (x.tmod ((r : Int) + 1) + r + 1) (show (r : Int) + 1 ≠ 0 by omega)
  have h1 := Int.emod_lt_of_pos (x.tmod ((r : Int) + 1) + r + 1) (show (0 : Int) < (r : Int) + 1 by omega)
  exact ⟨((x.tmod ((r : Int) + 1) + r + 1) % ((r : Int) + 1)).toNat, by omega, by omega⟩
/-- what came in, as a row of integers, where it has any -/
theorem IsRow.row {k : IntKind} {w : World} {a : Option Addr} {len cap : Nat} {zs : List Int} (h : IsRow k w a len cap zs) (h0 : 0 < len) :
    ∃ b off, a = some ⟨b, off, none⟩ ∧ b < w.heap.size ∧ ∀ i, i < len → w.cell? ⟨b, off + i, none⟩ = some (.int k (zs.getD i 0)) := by
  rcases h with ⟨rfl, rfl, rfl, rfl⟩ | ⟨x, rfl, hl, hm, hz, hcell, hwz⟩
  · omega
  · obtain ⟨b, off, spot⟩ := x
    have hc := hcell 0 (by omega)
    have hspot : spot = none := by simpa [Addr.add] using World.cell?_spot hc
    subst hspot
    refine ⟨b, off, rfl, ?_, fun i hi => ?_⟩
    · rw [add_plain] at hc
      exact World.block_lt_of_cell? _ _ hc
    · have := hcell i (by omega)
      rwa [add_plain] at this
theorem Holds.drop {w : World} {a : Option Addr} {L : List Int} (h : Holds w a L) (n : Nat) : Holds w (a.map fun x => x.add n) (L.drop n) := by
  rcases h with rfl | ⟨b, off, rfl, hc⟩
  · exact .inl (by simp)
  · refine .inr ⟨b, off + n, by simp [add_plain], fun i hi => ?_⟩
    rw [List.length_drop] at hi
    rw [Nat.add_assoc, hc (n + i) (by omega)]
    simp [List.getD]
theorem add_block (x : Addr) (n : Nat) : (x.add n).block = x.block := by unfold Addr.add; split <;> rfl
set_option maxHeartbeats 2000000 in
theorem parts_long (a : Option Addr) (len cap : Nat) (L : List Int) (u : Option Addr) (lc cc : Nat) (zs : List Int) (w : World) (hlen : 2000 < len) (hlc : len ≤ cap) (hcm : cap ≤ 140737488351232) (hl : L.length = 2000)
    (hh : Holds w a L) (hlt : ∀ x, a = some x → L ≠ [] → x.block < w.heap.size) (hb : IsBytes L) (hz : IsRow .i64 w u lc cc zs) (hlc2 : lc ≤ cc) (hcm2 : cc ≤ 140737488351232) :
    Calls Try.prog 5 #[.slice a len cap, .slice u lc cc] w fun e w' => e = .returned (.bool true) ∧ Below w.heap.size w w' := by
  have HL : Hid (Holds w a L) := hh
  have HT : Hid (∀ x, a = some x → L ≠ [] → x.block < w.heap.size) := hlt
  have HB : Hid (IsBytes L) := hb
  have HZ : Hid (IsRow .i64 w u lc cc zs) := hz
  clear hh hlt hb hz
  have k0 : Hid (∀ W : World, Calls Try.prog 9 #[.slice none 0 0] W fun e w' => e = .returned (.int .u32 0) ∧ w' = W) := fun W => by
    have := sum_is [] 0 none 0 rfl (by decide) bytes_nil W (.inl rfl)
    rwa [cmore_nil 0 (by decide)] at this
  have l1 : (2000 : Int) < len := by omega
  have l2 : (2000 : Int) ≤ cap := by omega
  obtain ⟨N, hN⟩ : ∃ N, N = w.heap.size := ⟨_, rfl⟩
  have HNN : Hid (N = w.heap.size) := hN
  clear hN
  go_enter Try.func5, Try.ntmps5
  go_wp2_with (go_at_call 9; refine (k0.out _).mono ?_; rintro e w' ⟨rfl, hw⟩; obtain rfl := hw.symm; clear hw)
  go_loopg [5, 6, 7, 8] (lc + 21) (fun gh s j rest i wr => ∃ (q p c' : Nat) (a' : Option Addr), gh = lc + 21 - q ∧ q ≤ 21 ∧ q ≤ lc + 1 ∧ i = .int .i64 q ∧ p ≤ 2000 ∧ rest = .slice a' (2000 - p) c' ∧ 2000 - p ≤ c' ∧ c' ≤ 140737488351232 ∧ s = .int .u32 (cmore 0 (L.take p) : Nat) ∧ j = .int .u32 (cmore 0 (L.take p) : Nat) ∧ Hid (q = lc + 1 ∨ q = 21 → p = 2000) ∧ Hid (Below N w wr) ∧ Hid (Holds w a' (L.drop p)) ∧ Hid (∀ x, a' = some x → L.drop p ≠ [] → x.block < w.heap.size))
  case atStart => exact ⟨0, 0, cap, a, rfl, by omega, by omega, rfl, by omega, rfl, by omega, hcm, by rw [List.take_zero, cmore_nil 0 (by decide)]; rfl, by rw [List.take_zero, cmore_nil 0 (by decide)]; rfl, fun h => by omega, by rw [HNN.out]; exact Below.refl _ _, HL, fun x hx h => HT.out x hx h⟩
  case round =>
    obtain ⟨q, p, c', a', rfl, hq21, hql, rfl, hp, rfl, hrc, hc', rfl, rfl, HP, HBW, HH, HHT⟩ := hrel
    obtain ⟨r, hr⟩ : ∃ r, r = 2000 - p := ⟨_, rfl⟩
    rw [← hr] at hrc ⊢
    have HR : Hid (r = 2000 - p) := hr
    have r2 : r ≤ 2000 := by omega
    clear hr
    by_cases hin : q ≤ lc ∧ q ≤ 20
    · have g1 : decide ((q : Int) ≤ lc) = true := by simp; omega
      have g2 : decide ((q : Int) ≤ 20) = true := by simp; omega
      by_cases hcut : q < lc ∧ q < 20
      · have g3 : decide ((q : Int) < lc) = true := by simp; omega
        have g4 : decide ((q : Int) < 20) = true := by simp; omega
        obtain ⟨bz, oz, rfl, hbz, hcz⟩ := HZ.out.row (by omega)
        have cz := hcz q (by omega)
        generalize zs.getD q 0 = z at *
        have cz2 : wr.cell? ⟨bz, oz + q, none⟩ = some (.int .i64 z) := (HBW.out.cell (p := ⟨bz, oz + q, none⟩) (by rw [HNN.out]; exact hbz)).trans cz
        obtain ⟨n, hn, en⟩ := cutN z r (by omega)
        clear hcz cz
        have i1 : (q : Int) < lc := by omega
        have PL : ((L.drop p).take n).length = n := by rw [List.length_take, List.length_drop]; have := HR.out; omega
        have PB : ∀ x ∈ (L.drop p).take n, 0 ≤ x ∧ x ≤ 255 := fun x hx => bytes_mem HB.out x (List.mem_of_mem_drop (List.mem_of_mem_take hx))
        have TB : ∀ x ∈ L.take p, 0 ≤ x ∧ x ≤ 255 := fun x hx => bytes_mem HB.out x (List.mem_of_mem_take hx)
        have EM : cmore (cmore 0 (L.take p)) ((L.drop p).take n) = cmore 0 (L.take (p + n)) := by rw [List.take_add, cmore_append 0 _ _ (by decide) TB]
        have EJ := cmore_join (cmore 0 (L.take p)) ((L.drop p).take n) (cmore_lt _ _) PB
        rw [EM, PL] at EJ
        have HW0 : Holds wr a' ((L.drop p).take n) := (HH.out.below (by rw [← HNN.out]; exact HBW.out) HHT.out).take n
        have kM : Hid (∀ c : Nat, Calls Try.prog 11 #[.int .u32 (cmore 0 (L.take p) : Nat), .slice a' n c] wr fun e w' => e = .returned (.int .u32 (cmore 0 (L.take (p + n)) : Nat)) ∧ w' = wr) := fun c => by rw [← EM]; exact more_is _ (cmore_lt _ _) _ n a' c PL (by omega) (bytes_of_mem PB) wr HW0
        have kS : Hid (∀ c : Nat, Calls Try.prog 9 #[.slice a' n c] wr fun e w' => e = .returned (.int .u32 (cmore 0 ((L.drop p).take n) : Nat)) ∧ w' = wr) := fun c => sum_is _ n a' c PL (by omega) (bytes_of_mem PB) wr HW0
        have kJ : Hid (Calls Try.prog 13 #[.int .u32 (cmore 0 (L.take p) : Nat), .int .u32 (cmore 0 ((L.drop p).take n) : Nat), .int .i64 n] wr fun e w' => e = .returned (.tuple #[.int .u32 (cmore 0 (L.take (p + n)) : Nat), .int .i64 0]) ∧ Below wr.heap.size wr w') := by rw [← EJ]; exact join_ok _ _ n (cmore_lt _ _) (cmore_lt _ _) (by omega) wr
        clear PL PB TB EM EJ HW0
        obtain ⟨X2, hX2⟩ : ∃ x, x = cmore 0 (L.take (p + n)) := ⟨_, rfl⟩
        have HX2 : Hid (X2 = cmore 0 (L.take (p + n))) := hX2
        rw [← hX2] at kM kJ
        clear hX2
        generalize cmore 0 (L.take p) = X at *
        generalize cmore 0 ((L.drop p).take n) = Y at *
        by_cases hful : n = c'
        · subst hful
          have hrn : r = n := by omega
          subst hrn
          go_wp2_with fail
          refine (kM.out _).mono ?_
          rintro e w' ⟨rfl, hw⟩; obtain rfl := hw.symm; clear hw
          go_wp2_with fail
          refine (kS.out _).mono ?_
          rintro e w' ⟨rfl, hw⟩; obtain rfl := hw.symm; clear hw
          go_wp2_with fail
          refine kJ.out.mono ?_
          rintro e w2 ⟨rfl, hb2⟩
          have HB2 : Hid (Below wr.heap.size wr w2) := hb2
          clear hb2
          go_wp2_with fail
          go_roundg (lc + 21 - (q + 1))
          case measure => omega
          case rel =>
            have hR := HR.out
            have hB : Below N w w2 := HBW.out.trans (HB2.out.mono (by have := HBW.out.size; rw [HNN.out]; exact this))
            have hnil : L.drop (p + r) = [] := List.drop_eq_nil_of_le (by omega)
            exact ⟨q + 1, p + r, 0, a', by omega, by omega, by omega, by go_num, by omega, by rw [show 2000 - (p + r) = 0 by omega], by omega, by omega, by rw [HX2.out], by rw [HX2.out], fun _ => by omega, hB, .inl hnil, fun x _ h => absurd hnil h⟩
        · have i4 : n < c' := by omega
          go_wp2_with fail
          refine (kM.out _).mono ?_
          rintro e w' ⟨rfl, hw⟩; obtain rfl := hw.symm; clear hw
          go_wp2_with fail
          refine (kS.out _).mono ?_
          rintro e w' ⟨rfl, hw⟩; obtain rfl := hw.symm; clear hw
          go_wp2_with fail
          refine kJ.out.mono ?_
          rintro e w2 ⟨rfl, hb2⟩
          have HB2 : Hid (Below wr.heap.size wr w2) := hb2
          clear hb2
          go_wp2_with fail
          go_roundg (lc + 21 - (q + 1))
          case measure => omega
          case rel =>
            have hR := HR.out
            have hB : Below N w w2 := HBW.out.trans (HB2.out.mono (by have := HBW.out.size; rw [HNN.out]; exact this))
            skip
            exact ⟨q + 1, p + n, c' - n, a'.map (fun x => x.add n), by omega, by omega, by omega, by go_num, by omega, by rw [show 2000 - (p + n) = r - n by omega], by omega, by omega, by rw [HX2.out], by rw [HX2.out], fun h => by omega, hB, by show Holds w _ _; rw [← List.drop_drop]; exact HH.out.drop n, by intro x hx hne; cases a' with | none => simp at hx | some y => (simp only [Option.map_some, Option.some.injEq] at hx; subst hx; rw [add_block]; exact HHT.out y rfl (fun e => hne (by rw [← List.drop_drop, e, List.drop_nil])))⟩
      · have en : r ≤ r := Nat.le_refl r
        obtain ⟨n, hnr⟩ : ∃ n, n = r := ⟨_, rfl⟩
        subst hnr
        by_cases hq : q < lc
        · have g3 : decide ((q : Int) < lc) = true := by simp; omega
          have g4 : decide ((q : Int) < 20) = false := by simp; omega
          have PL : ((L.drop p).take n).length = n := by rw [List.length_take, List.length_drop]; have := HR.out; omega
          have PB : ∀ x ∈ (L.drop p).take n, 0 ≤ x ∧ x ≤ 255 := fun x hx => bytes_mem HB.out x (List.mem_of_mem_drop (List.mem_of_mem_take hx))
          have TB : ∀ x ∈ L.take p, 0 ≤ x ∧ x ≤ 255 := fun x hx => bytes_mem HB.out x (List.mem_of_mem_take hx)
          have EM : cmore (cmore 0 (L.take p)) ((L.drop p).take n) = cmore 0 (L.take (p + n)) := by rw [List.take_add, cmore_append 0 _ _ (by decide) TB]
          have EJ := cmore_join (cmore 0 (L.take p)) ((L.drop p).take n) (cmore_lt _ _) PB
          rw [EM, PL] at EJ
          have HW0 : Holds wr a' ((L.drop p).take n) := (HH.out.below (by rw [← HNN.out]; exact HBW.out) HHT.out).take n
          have kM : Hid (∀ c : Nat, Calls Try.prog 11 #[.int .u32 (cmore 0 (L.take p) : Nat), .slice a' n c] wr fun e w' => e = .returned (.int .u32 (cmore 0 (L.take (p + n)) : Nat)) ∧ w' = wr) := fun c => by rw [← EM]; exact more_is _ (cmore_lt _ _) _ n a' c PL (by omega) (bytes_of_mem PB) wr HW0
          have kS : Hid (∀ c : Nat, Calls Try.prog 9 #[.slice a' n c] wr fun e w' => e = .returned (.int .u32 (cmore 0 ((L.drop p).take n) : Nat)) ∧ w' = wr) := fun c => sum_is _ n a' c PL (by omega) (bytes_of_mem PB) wr HW0
          have kJ : Hid (Calls Try.prog 13 #[.int .u32 (cmore 0 (L.take p) : Nat), .int .u32 (cmore 0 ((L.drop p).take n) : Nat), .int .i64 n] wr fun e w' => e = .returned (.tuple #[.int .u32 (cmore 0 (L.take (p + n)) : Nat), .int .i64 0]) ∧ Below wr.heap.size wr w') := by rw [← EJ]; exact join_ok _ _ n (cmore_lt _ _) (cmore_lt _ _) (by omega) wr
          clear PL PB TB EM EJ HW0
          obtain ⟨X2, hX2⟩ : ∃ x, x = cmore 0 (L.take (p + n)) := ⟨_, rfl⟩
          have HX2 : Hid (X2 = cmore 0 (L.take (p + n))) := hX2
          rw [← hX2] at kM kJ
          clear hX2
          generalize cmore 0 (L.take p) = X at *
          generalize cmore 0 ((L.drop p).take n) = Y at *
          by_cases hful : n = c'
          · subst hful
            go_wp2_with fail
            refine (kM.out _).mono ?_
            rintro e w' ⟨rfl, hw⟩; obtain rfl := hw.symm; clear hw
            go_wp2_with fail
            refine (kS.out _).mono ?_
            rintro e w' ⟨rfl, hw⟩; obtain rfl := hw.symm; clear hw
            go_wp2_with fail
            refine kJ.out.mono ?_
            rintro e w2 ⟨rfl, hb2⟩
            have HB2 : Hid (Below wr.heap.size wr w2) := hb2
            clear hb2
            go_wp2_with fail
            go_roundg (lc + 21 - (q + 1))
            case measure => omega
            case rel =>
              have hR := HR.out
              have hB : Below N w w2 := HBW.out.trans (HB2.out.mono (by have := HBW.out.size; rw [HNN.out]; exact this))
              have hnil : L.drop (p + n) = [] := List.drop_eq_nil_of_le (by omega)
              exact ⟨q + 1, p + n, 0, a', by omega, by omega, by omega, by go_num, by omega, by rw [show 2000 - (p + n) = 0 by omega], by omega, by omega, by rw [HX2.out], by rw [HX2.out], fun _ => by omega, hB, .inl hnil, fun x _ h => absurd hnil h⟩
          · have i4 : n < c' := by omega
            go_wp2_with fail
            refine (kM.out _).mono ?_
            rintro e w' ⟨rfl, hw⟩; obtain rfl := hw.symm; clear hw
            go_wp2_with fail
            refine (kS.out _).mono ?_
            rintro e w' ⟨rfl, hw⟩; obtain rfl := hw.symm; clear hw
            go_wp2_with fail
            refine kJ.out.mono ?_
            rintro e w2 ⟨rfl, hb2⟩
            have HB2 : Hid (Below wr.heap.size wr w2) := hb2
            clear hb2
            go_wp2_with fail
            go_roundg (lc + 21 - (q + 1))
            case measure => omega
            case rel =>
              have hR := HR.out
              have hB : Below N w w2 := HBW.out.trans (HB2.out.mono (by have := HBW.out.size; rw [HNN.out]; exact this))
              skip
              exact ⟨q + 1, p + n, c' - n, a'.map (fun x => x.add n), by omega, by omega, by omega, by go_num, by omega, by rw [show 2000 - (p + n) = 0 by omega], by omega, by omega, by rw [HX2.out], by rw [HX2.out], fun _ => by omega, hB, by show Holds w _ _; rw [← List.drop_drop]; exact HH.out.drop n, by intro x hx hne; cases a' with | none => simp at hx | some y => (simp only [Option.map_some, Option.some.injEq] at hx; subst hx; rw [add_block]; exact HHT.out y rfl (fun e => hne (by rw [← List.drop_drop, e, List.drop_nil])))⟩
        · have g3 : decide ((q : Int) < lc) = false := by simp; omega
          have PL : ((L.drop p).take n).length = n := by rw [List.length_take, List.length_drop]; have := HR.out; omega
          have PB : ∀ x ∈ (L.drop p).take n, 0 ≤ x ∧ x ≤ 255 := fun x hx => bytes_mem HB.out x (List.mem_of_mem_drop (List.mem_of_mem_take hx))
          have TB : ∀ x ∈ L.take p, 0 ≤ x ∧ x ≤ 255 := fun x hx => bytes_mem HB.out x (List.mem_of_mem_take hx)
          have EM : cmore (cmore 0 (L.take p)) ((L.drop p).take n) = cmore 0 (L.take (p + n)) := by rw [List.take_add, cmore_append 0 _ _ (by decide) TB]
          have EJ := cmore_join (cmore 0 (L.take p)) ((L.drop p).take n) (cmore_lt _ _) PB
          rw [EM, PL] at EJ
          have HW0 : Holds wr a' ((L.drop p).take n) := (HH.out.below (by rw [← HNN.out]; exact HBW.out) HHT.out).take n
          have kM : Hid (∀ c : Nat, Calls Try.prog 11 #[.int .u32 (cmore 0 (L.take p) : Nat), .slice a' n c] wr fun e w' => e = .returned (.int .u32 (cmore 0 (L.take (p + n)) : Nat)) ∧ w' = wr) := fun c => by rw [← EM]; exact more_is _ (cmore_lt _ _) _ n a' c PL (by omega) (bytes_of_mem PB) wr HW0
          have kS : Hid (∀ c : Nat, Calls Try.prog 9 #[.slice a' n c] wr fun e w' => e = .returned (.int .u32 (cmore 0 ((L.drop p).take n) : Nat)) ∧ w' = wr) := fun c => sum_is _ n a' c PL (by omega) (bytes_of_mem PB) wr HW0
          have kJ : Hid (Calls Try.prog 13 #[.int .u32 (cmore 0 (L.take p) : Nat), .int .u32 (cmore 0 ((L.drop p).take n) : Nat), .int .i64 n] wr fun e w' => e = .returned (.tuple #[.int .u32 (cmore 0 (L.take (p + n)) : Nat), .int .i64 0]) ∧ Below wr.heap.size wr w') := by rw [← EJ]; exact join_ok _ _ n (cmore_lt _ _) (cmore_lt _ _) (by omega) wr
          clear PL PB TB EM EJ HW0
          obtain ⟨X2, hX2⟩ : ∃ x, x = cmore 0 (L.take (p + n)) := ⟨_, rfl⟩
          have HX2 : Hid (X2 = cmore 0 (L.take (p + n))) := hX2
          rw [← hX2] at kM kJ
          clear hX2
          generalize cmore 0 (L.take p) = X at *
          generalize cmore 0 ((L.drop p).take n) = Y at *
          by_cases hful : n = c'
          · subst hful
            go_wp2_with fail
            refine (kM.out _).mono ?_
            rintro e w' ⟨rfl, hw⟩; obtain rfl := hw.symm; clear hw
            go_wp2_with fail
            refine (kS.out _).mono ?_
            rintro e w' ⟨rfl, hw⟩; obtain rfl := hw.symm; clear hw
            go_wp2_with fail
            refine kJ.out.mono ?_
            rintro e w2 ⟨rfl, hb2⟩
            have HB2 : Hid (Below wr.heap.size wr w2) := hb2
            clear hb2
            go_wp2_with fail
            go_roundg (lc + 21 - (q + 1))
            case measure => omega
            case rel =>
              have hR := HR.out
              have hB : Below N w w2 := HBW.out.trans (HB2.out.mono (by have := HBW.out.size; rw [HNN.out]; exact this))
              have hnil : L.drop (p + n) = [] := List.drop_eq_nil_of_le (by omega)
              exact ⟨q + 1, p + n, 0, a', by omega, by omega, by omega, by go_num, by omega, by rw [show 2000 - (p + n) = 0 by omega], by omega, by omega, by rw [HX2.out], by rw [HX2.out], fun _ => by omega, hB, .inl hnil, fun x _ h => absurd hnil h⟩
          · have i4 : n < c' := by omega
            go_wp2_with fail
            refine (kM.out _).mono ?_
            rintro e w' ⟨rfl, hw⟩; obtain rfl := hw.symm; clear hw
            go_wp2_with fail
            refine (kS.out _).mono ?_
            rintro e w' ⟨rfl, hw⟩; obtain rfl := hw.symm; clear hw
            go_wp2_with fail
            refine kJ.out.mono ?_
            rintro e w2 ⟨rfl, hb2⟩
            have HB2 : Hid (Below wr.heap.size wr w2) := hb2
            clear hb2
            go_wp2_with fail
            go_roundg (lc + 21 - (q + 1))
            case measure => omega
            case rel =>
              have hR := HR.out
              have hB : Below N w w2 := HBW.out.trans (HB2.out.mono (by have := HBW.out.size; rw [HNN.out]; exact this))
              skip
              exact ⟨q + 1, p + n, c' - n, a'.map (fun x => x.add n), by omega, by omega, by omega, by go_num, by omega, by rw [show 2000 - (p + n) = 0 by omega], by omega, by omega, by rw [HX2.out], by rw [HX2.out], fun _ => by omega, hB, by show Holds w _ _; rw [← List.drop_drop]; exact HH.out.drop n, by intro x hx hne; cases a' with | none => simp at hx | some y => (simp only [Option.map_some, Option.some.injEq] at hx; subst hx; rw [add_block]; exact HHT.out y rfl (fun e => hne (by rw [← List.drop_drop, e, List.drop_nil])))⟩
    · have hpM := HP.out (by omega)
      have r0 : r = 0 := by have := HR.out; omega
      subst r0
      have hLp : L.take p = L := List.take_of_length_le (by omega)
      rw [hLp]
      have kb : Hid (∀ W : World, W = wr → Calls Try.prog 9 #[.slice a 2000 cap] W fun e w' => e = .returned (.int .u32 (cmore 0 L : Nat)) ∧ w' = W) := fun W h => by subst h; exact sum_is L 2000 a cap hl (by omega) HB.out _ (HL.out.below (by rw [← HNN.out]; exact HBW.out) HT.out)
      clear hLp
      generalize cmore 0 L = X at *
      by_cases hq : q ≤ lc
      · have g1 : decide ((q : Int) ≤ lc) = true := by simp; omega
        have g2 : decide ((q : Int) ≤ 20) = false := by simp; omega
        go_wp2_with (first | (go_at_call 9; refine (kb.out _ rfl).mono ?_; rintro e w' ⟨rfl, hw⟩; obtain rfl := hw.symm; clear hw) | (go_at_call 12; refine (works_true _).mono ?_; rintro e w4 ⟨rfl, hwk⟩; have HW : Hid (Below wr.heap.size wr w4) := hwk; clear hwk))
        go_ret
        exact ⟨rfl, by rw [← HNN.out]; exact HBW.out.trans (HW.out.mono (by have := HBW.out.size; rw [HNN.out]; exact this))⟩
      · have g1 : decide ((q : Int) ≤ lc) = false := by simp; omega
        go_wp2_with (first | (go_at_call 9; refine (kb.out _ rfl).mono ?_; rintro e w' ⟨rfl, hw⟩; obtain rfl := hw.symm; clear hw) | (go_at_call 12; refine (works_true _).mono ?_; rintro e w4 ⟨rfl, hwk⟩; have HW : Hid (Below wr.heap.size wr w4) := hwk; clear hwk))
        go_ret
        exact ⟨rfl, by rw [← HNN.out]; exact HBW.out.trans (HW.out.mono (by have := HBW.out.size; rw [HNN.out]; exact this))⟩
set_option maxHeartbeats 2000000 in
theorem parts_short (a : Option Addr) (len cap : Nat) (L : List Int) (u : Option Addr) (lc cc : Nat) (zs : List Int) (w : World) (hm : len ≤ 2000) (hlc : len ≤ cap) (hcm : cap ≤ 140737488351232) (hl : L.length = len)
    (hh : Holds w a L) (hlt : ∀ x, a = some x → L ≠ [] → x.block < w.heap.size) (hb : IsBytes L) (hz : IsRow .i64 w u lc cc zs) (hlc2 : lc ≤ cc) (hcm2 : cc ≤ 140737488351232) :
    Calls Try.prog 5 #[.slice a len cap, .slice u lc cc] w fun e w' => e = .returned (.bool true) ∧ Below w.heap.size w w' := by
  have HL : Hid (Holds w a L) := hh
  have HT : Hid (∀ x, a = some x → L ≠ [] → x.block < w.heap.size) := hlt
  have HB : Hid (IsBytes L) := hb
  have HZ : Hid (IsRow .i64 w u lc cc zs) := hz
  clear hh hlt hb hz
  have k0 : Hid (∀ W : World, Calls Try.prog 9 #[.slice none 0 0] W fun e w' => e = .returned (.int .u32 0) ∧ w' = W) := fun W => by
    have := sum_is [] 0 none 0 rfl (by decide) bytes_nil W (.inl rfl)
    rwa [cmore_nil 0 (by decide)] at this
  have l1 : ¬ ((2000 : Int) < len) := by omega
  obtain ⟨N, hN⟩ : ∃ N, N = w.heap.size := ⟨_, rfl⟩
  have HNN : Hid (N = w.heap.size) := hN
  clear hN
  go_enter Try.func5, Try.ntmps5
  go_wp2_with (go_at_call 9; refine (k0.out _).mono ?_; rintro e w' ⟨rfl, hw⟩; obtain rfl := hw.symm; clear hw)
  go_loopg [5, 6, 7, 8] (lc + 21) (fun gh s j rest i wr => ∃ (q p c' : Nat) (a' : Option Addr), gh = lc + 21 - q ∧ q ≤ 21 ∧ q ≤ lc + 1 ∧ i = .int .i64 q ∧ p ≤ len ∧ rest = .slice a' (len - p) c' ∧ len - p ≤ c' ∧ c' ≤ 140737488351232 ∧ s = .int .u32 (cmore 0 (L.take p) : Nat) ∧ j = .int .u32 (cmore 0 (L.take p) : Nat) ∧ Hid (q = lc + 1 ∨ q = 21 → p = len) ∧ Hid (Below N w wr) ∧ Hid (Holds w a' (L.drop p)) ∧ Hid (∀ x, a' = some x → L.drop p ≠ [] → x.block < w.heap.size))
  case atStart => exact ⟨0, 0, cap, a, rfl, by omega, by omega, rfl, by omega, rfl, by omega, hcm, by rw [List.take_zero, cmore_nil 0 (by decide)]; rfl, by rw [List.take_zero, cmore_nil 0 (by decide)]; rfl, fun h => by omega, by rw [HNN.out]; exact Below.refl _ _, HL, fun x hx h => HT.out x hx h⟩
  case round =>
    obtain ⟨q, p, c', a', rfl, hq21, hql, rfl, hp, rfl, hrc, hc', rfl, rfl, HP, HBW, HH, HHT⟩ := hrel
    obtain ⟨r, hr⟩ : ∃ r, r = len - p := ⟨_, rfl⟩
    rw [← hr] at hrc ⊢
    have HR : Hid (r = len - p) := hr
    have r2 : r ≤ 2000 := by omega
    clear hr
    by_cases hin : q ≤ lc ∧ q ≤ 20
    · have g1 : decide ((q : Int) ≤ lc) = true := by simp; omega
      have g2 : decide ((q : Int) ≤ 20) = true := by simp; omega
      by_cases hcut : q < lc ∧ q < 20
      · have g3 : decide ((q : Int) < lc) = true := by simp; omega
        have g4 : decide ((q : Int) < 20) = true := by simp; omega
        obtain ⟨bz, oz, rfl, hbz, hcz⟩ := HZ.out.row (by omega)
        have cz := hcz q (by omega)
        generalize zs.getD q 0 = z at *
        have cz2 : wr.cell? ⟨bz, oz + q, none⟩ = some (.int .i64 z) := (HBW.out.cell (p := ⟨bz, oz + q, none⟩) (by rw [HNN.out]; exact hbz)).trans cz
        obtain ⟨n, hn, en⟩ := cutN z r (by omega)
        clear hcz cz
        have i1 : (q : Int) < lc := by omega
        have PL : ((L.drop p).take n).length = n := by rw [List.length_take, List.length_drop]; have := HR.out; omega
        have PB : ∀ x ∈ (L.drop p).take n, 0 ≤ x ∧ x ≤ 255 := fun x hx => bytes_mem HB.out x (List.mem_of_mem_drop (List.mem_of_mem_take hx))
        have TB : ∀ x ∈ L.take p, 0 ≤ x ∧ x ≤ 255 := fun x hx => bytes_mem HB.out x (List.mem_of_mem_take hx)
        have EM : cmore (cmore 0 (L.take p)) ((L.drop p).take n) = cmore 0 (L.take (p + n)) := by rw [List.take_add, cmore_append 0 _ _ (by decide) TB]
        have EJ := cmore_join (cmore 0 (L.take p)) ((L.drop p).take n) (cmore_lt _ _) PB
        rw [EM, PL] at EJ
        have HW0 : Holds wr a' ((L.drop p).take n) := (HH.out.below (by rw [← HNN.out]; exact HBW.out) HHT.out).take n
        have kM : Hid (∀ c : Nat, Calls Try.prog 11 #[.int .u32 (cmore 0 (L.take p) : Nat), .slice a' n c] wr fun e w' => e = .returned (.int .u32 (cmore 0 (L.take (p + n)) : Nat)) ∧ w' = wr) := fun c => by rw [← EM]; exact more_is _ (cmore_lt _ _) _ n a' c PL (by omega) (bytes_of_mem PB) wr HW0
        have kS : Hid (∀ c : Nat, Calls Try.prog 9 #[.slice a' n c] wr fun e w' => e = .returned (.int .u32 (cmore 0 ((L.drop p).take n) : Nat)) ∧ w' = wr) := fun c => sum_is _ n a' c PL (by omega) (bytes_of_mem PB) wr HW0
        have kJ : Hid (Calls Try.prog 13 #[.int .u32 (cmore 0 (L.take p) : Nat), .int .u32 (cmore 0 ((L.drop p).take n) : Nat), .int .i64 n] wr fun e w' => e = .returned (.tuple #[.int .u32 (cmore 0 (L.take (p + n)) : Nat), .int .i64 0]) ∧ Below wr.heap.size wr w') := by rw [← EJ]; exact join_ok _ _ n (cmore_lt _ _) (cmore_lt _ _) (by omega) wr
        clear PL PB TB EM EJ HW0
        obtain ⟨X2, hX2⟩ : ∃ x, x = cmore 0 (L.take (p + n)) := ⟨_, rfl⟩
        have HX2 : Hid (X2 = cmore 0 (L.take (p + n))) := hX2
        rw [← hX2] at kM kJ
        clear hX2
        generalize cmore 0 (L.take p) = X at *
        generalize cmore 0 ((L.drop p).take n) = Y at *
        by_cases hful : n = c'
        · subst hful
          have hrn : r = n := by omega
          subst hrn
          go_wp2_with fail
          refine (kM.out _).mono ?_
          rintro e w' ⟨rfl, hw⟩; obtain rfl := hw.symm; clear hw
          go_wp2_with fail
          refine (kS.out _).mono ?_
          rintro e w' ⟨rfl, hw⟩; obtain rfl := hw.symm; clear hw
          go_wp2_with fail
          refine kJ.out.mono ?_
          rintro e w2 ⟨rfl, hb2⟩
          have HB2 : Hid (Below wr.heap.size wr w2) := hb2
          clear hb2
          go_wp2_with fail
          go_roundg (lc + 21 - (q + 1))
          case measure => omega
          case rel =>
            have hR := HR.out
            have hB : Below N w w2 := HBW.out.trans (HB2.out.mono (by have := HBW.out.size; rw [HNN.out]; exact this))
            have hnil : L.drop (p + r) = [] := List.drop_eq_nil_of_le (by omega)
            exact ⟨q + 1, p + r, 0, a', by omega, by omega, by omega, by go_num, by omega, by rw [show len - (p + r) = 0 by omega], by omega, by omega, by rw [HX2.out], by rw [HX2.out], fun _ => by omega, hB, .inl hnil, fun x _ h => absurd hnil h⟩
        · have i4 : n < c' := by omega
          go_wp2_with fail
          refine (kM.out _).mono ?_
          rintro e w' ⟨rfl, hw⟩; obtain rfl := hw.symm; clear hw
          go_wp2_with fail
          refine (kS.out _).mono ?_
          rintro e w' ⟨rfl, hw⟩; obtain rfl := hw.symm; clear hw
          go_wp2_with fail
          refine kJ.out.mono ?_
          rintro e w2 ⟨rfl, hb2⟩
          have HB2 : Hid (Below wr.heap.size wr w2) := hb2
          clear hb2
          go_wp2_with fail
          go_roundg (lc + 21 - (q + 1))
          case measure => omega
          case rel =>
            have hR := HR.out
            have hB : Below N w w2 := HBW.out.trans (HB2.out.mono (by have := HBW.out.size; rw [HNN.out]; exact this))
            skip
            exact ⟨q + 1, p + n, c' - n, a'.map (fun x => x.add n), by omega, by omega, by omega, by go_num, by omega, by rw [show len - (p + n) = r - n by omega], by omega, by omega, by rw [HX2.out], by rw [HX2.out], fun h => by omega, hB, by show Holds w _ _; rw [← List.drop_drop]; exact HH.out.drop n, by intro x hx hne; cases a' with | none => simp at hx | some y => (simp only [Option.map_some, Option.some.injEq] at hx; subst hx; rw [add_block]; exact HHT.out y rfl (fun e => hne (by rw [← List.drop_drop, e, List.drop_nil])))⟩
      · have en : r ≤ r := Nat.le_refl r
        obtain ⟨n, hnr⟩ : ∃ n, n = r := ⟨_, rfl⟩
        subst hnr
        by_cases hq : q < lc
        · have g3 : decide ((q : Int) < lc) = true := by simp; omega
          have g4 : decide ((q : Int) < 20) = false := by simp; omega
          have PL : ((L.drop p).take n).length = n := by rw [List.length_take, List.length_drop]; have := HR.out; omega
          have PB : ∀ x ∈ (L.drop p).take n, 0 ≤ x ∧ x ≤ 255 := fun x hx => bytes_mem HB.out x (List.mem_of_mem_drop (List.mem_of_mem_take hx))
          have TB : ∀ x ∈ L.take p, 0 ≤ x ∧ x ≤ 255 := fun x hx => bytes_mem HB.out x (List.mem_of_mem_take hx)
          have EM : cmore (cmore 0 (L.take p)) ((L.drop p).take n) = cmore 0 (L.take (p + n)) := by rw [List.take_add, cmore_append 0 _ _ (by decide) TB]
          have EJ := cmore_join (cmore 0 (L.take p)) ((L.drop p).take n) (cmore_lt _ _) PB
          rw [EM, PL] at EJ
          have HW0 : Holds wr a' ((L.drop p).take n) := (HH.out.below (by rw [← HNN.out]; exact HBW.out) HHT.out).take n
          have kM : Hid (∀ c : Nat, Calls Try.prog 11 #[.int .u32 (cmore 0 (L.take p) : Nat), .slice a' n c] wr fun e w' => e = .returned (.int .u32 (cmore 0 (L.take (p + n)) : Nat)) ∧ w' = wr) := fun c => by rw [← EM]; exact more_is _ (cmore_lt _ _) _ n a' c PL (by omega) (bytes_of_mem PB) wr HW0
          have kS : Hid (∀ c : Nat, Calls Try.prog 9 #[.slice a' n c] wr fun e w' => e = .returned (.int .u32 (cmore 0 ((L.drop p).take n) : Nat)) ∧ w' = wr) := fun c => sum_is _ n a' c PL (by omega) (bytes_of_mem PB) wr HW0
          have kJ : Hid (Calls Try.prog 13 #[.int .u32 (cmore 0 (L.take p) : Nat), .int .u32 (cmore 0 ((L.drop p).take n) : Nat), .int .i64 n] wr fun e w' => e = .returned (.tuple #[.int .u32 (cmore 0 (L.take (p + n)) : Nat), .int .i64 0]) ∧ Below wr.heap.size wr w') := by rw [← EJ]; exact join_ok _ _ n (cmore_lt _ _) (cmore_lt _ _) (by omega) wr
          clear PL PB TB EM EJ HW0
          obtain ⟨X2, hX2⟩ : ∃ x, x = cmore 0 (L.take (p + n)) := ⟨_, rfl⟩
          have HX2 : Hid (X2 = cmore 0 (L.take (p + n))) := hX2
          rw [← hX2] at kM kJ
          clear hX2
          generalize cmore 0 (L.take p) = X at *
          generalize cmore 0 ((L.drop p).take n) = Y at *
          by_cases hful : n = c'
          · subst hful
            go_wp2_with fail
            refine (kM.out _).mono ?_
            rintro e w' ⟨rfl, hw⟩; obtain rfl := hw.symm; clear hw
            go_wp2_with fail
            refine (kS.out _).mono ?_
            rintro e w' ⟨rfl, hw⟩; obtain rfl := hw.symm; clear hw
            go_wp2_with fail
            refine kJ.out.mono ?_
            rintro e w2 ⟨rfl, hb2⟩
            have HB2 : Hid (Below wr.heap.size wr w2) := hb2
            clear hb2
            go_wp2_with fail
            go_roundg (lc + 21 - (q + 1))
            case measure => omega
            case rel =>
              have hR := HR.out
              have hB : Below N w w2 := HBW.out.trans (HB2.out.mono (by have := HBW.out.size; rw [HNN.out]; exact this))
              have hnil : L.drop (p + n) = [] := List.drop_eq_nil_of_le (by omega)
              exact ⟨q + 1, p + n, 0, a', by omega, by omega, by omega, by go_num, by omega, by rw [show len - (p + n) = 0 by omega], by omega, by omega, by rw [HX2.out], by rw [HX2.out], fun _ => by omega, hB, .inl hnil, fun x _ h => absurd hnil h⟩
          · have i4 : n < c' := by omega
            go_wp2_with fail
            refine (kM.out _).mono ?_
            rintro e w' ⟨rfl, hw⟩; obtain rfl := hw.symm; clear hw
            go_wp2_with fail
            refine (kS.out _).mono ?_
            rintro e w' ⟨rfl, hw⟩; obtain rfl := hw.symm; clear hw
            go_wp2_with fail
            refine kJ.out.mono ?_
            rintro e w2 ⟨rfl, hb2⟩
            have HB2 : Hid (Below wr.heap.size wr w2) := hb2
            clear hb2
            go_wp2_with fail
            go_roundg (lc + 21 - (q + 1))
            case measure => omega
            case rel =>
              have hR := HR.out
              have hB : Below N w w2 := HBW.out.trans (HB2.out.mono (by have := HBW.out.size; rw [HNN.out]; exact this))
              skip
              exact ⟨q + 1, p + n, c' - n, a'.map (fun x => x.add n), by omega, by omega, by omega, by go_num, by omega, by rw [show len - (p + n) = 0 by omega], by omega, by omega, by rw [HX2.out], by rw [HX2.out], fun _ => by omega, hB, by show Holds w _ _; rw [← List.drop_drop]; exact HH.out.drop n, by intro x hx hne; cases a' with | none => simp at hx | some y => (simp only [Option.map_some, Option.some.injEq] at hx; subst hx; rw [add_block]; exact HHT.out y rfl (fun e => hne (by rw [← List.drop_drop, e, List.drop_nil])))⟩
        · have g3 : decide ((q : Int) < lc) = false := by simp; omega
          have PL : ((L.drop p).take n).length = n := by rw [List.length_take, List.length_drop]; have := HR.out; omega
          have PB : ∀ x ∈ (L.drop p).take n, 0 ≤ x ∧ x ≤ 255 := fun x hx => bytes_mem HB.out x (List.mem_of_mem_drop (List.mem_of_mem_take hx))
          have TB : ∀ x ∈ L.take p, 0 ≤ x ∧ x ≤ 255 := fun x hx => bytes_mem HB.out x (List.mem_of_mem_take hx)
          have EM : cmore (cmore 0 (L.take p)) ((L.drop p).take n) = cmore 0 (L.take (p + n)) := by rw [List.take_add, cmore_append 0 _ _ (by decide) TB]
          have EJ := cmore_join (cmore 0 (L.take p)) ((L.drop p).take n) (cmore_lt _ _) PB
          rw [EM, PL] at EJ
          have HW0 : Holds wr a' ((L.drop p).take n) := (HH.out.below (by rw [← HNN.out]; exact HBW.out) HHT.out).take n
          have kM : Hid (∀ c : Nat, Calls Try.prog 11 #[.int .u32 (cmore 0 (L.take p) : Nat), .slice a' n c] wr fun e w' => e = .returned (.int .u32 (cmore 0 (L.take (p + n)) : Nat)) ∧ w' = wr) := fun c => by rw [← EM]; exact more_is _ (cmore_lt _ _) _ n a' c PL (by omega) (bytes_of_mem PB) wr HW0
          have kS : Hid (∀ c : Nat, Calls Try.prog 9 #[.slice a' n c] wr fun e w' => e = .returned (.int .u32 (cmore 0 ((L.drop p).take n) : Nat)) ∧ w' = wr) := fun c => sum_is _ n a' c PL (by omega) (bytes_of_mem PB) wr HW0
          have kJ : Hid (Calls Try.prog 13 #[.int .u32 (cmore 0 (L.take p) : Nat), .int .u32 (cmore 0 ((L.drop p).take n) : Nat), .int .i64 n] wr fun e w' => e = .returned (.tuple #[.int .u32 (cmore 0 (L.take (p + n)) : Nat), .int .i64 0]) ∧ Below wr.heap.size wr w') := by rw [← EJ]; exact join_ok _ _ n (cmore_lt _ _) (cmore_lt _ _) (by omega) wr
          clear PL PB TB EM EJ HW0
          obtain ⟨X2, hX2⟩ : ∃ x, x = cmore 0 (L.take (p + n)) := ⟨_, rfl⟩
          have HX2 : Hid (X2 = cmore 0 (L.take (p + n))) := hX2
          rw [← hX2] at kM kJ
          clear hX2
          generalize cmore 0 (L.take p) = X at *
          generalize cmore 0 ((L.drop p).take n) = Y at *
          by_cases hful : n = c'
          · subst hful
            go_wp2_with fail
            refine (kM.out _).mono ?_
            rintro e w' ⟨rfl, hw⟩; obtain rfl := hw.symm; clear hw
            go_wp2_with fail
            refine (kS.out _).mono ?_
            rintro e w' ⟨rfl, hw⟩; obtain rfl := hw.symm; clear hw
            go_wp2_with fail
            refine kJ.out.mono ?_
            rintro e w2 ⟨rfl, hb2⟩
            have HB2 : Hid (Below wr.heap.size wr w2) := hb2
            clear hb2
            go_wp2_with fail
            go_roundg (lc + 21 - (q + 1))
            case measure => omega
            case rel =>
              have hR := HR.out
              have hB : Below N w w2 := HBW.out.trans (HB2.out.mono (by have := HBW.out.size; rw [HNN.out]; exact this))
              have hnil : L.drop (p + n) = [] := List.drop_eq_nil_of_le (by omega)
              exact ⟨q + 1, p + n, 0, a', by omega, by omega, by omega, by go_num, by omega, by rw [show len - (p + n) = 0 by omega], by omega, by omega, by rw [HX2.out], by rw [HX2.out], fun _ => by omega, hB, .inl hnil, fun x _ h => absurd hnil h⟩
          · have i4 : n < c' := by omega
            go_wp2_with fail
            refine (kM.out _).mono ?_
            rintro e w' ⟨rfl, hw⟩; obtain rfl := hw.symm; clear hw
            go_wp2_with fail
            refine (kS.out _).mono ?_
            rintro e w' ⟨rfl, hw⟩; obtain rfl := hw.symm; clear hw
            go_wp2_with fail
            refine kJ.out.mono ?_
            rintro e w2 ⟨rfl, hb2⟩
            have HB2 : Hid (Below wr.heap.size wr w2) := hb2
            clear hb2
            go_wp2_with fail
            go_roundg (lc + 21 - (q + 1))
            case measure => omega
            case rel =>
              have hR := HR.out
              have hB : Below N w w2 := HBW.out.trans (HB2.out.mono (by have := HBW.out.size; rw [HNN.out]; exact this))
              skip
              exact ⟨q + 1, p + n, c' - n, a'.map (fun x => x.add n), by omega, by omega, by omega, by go_num, by omega, by rw [show len - (p + n) = 0 by omega], by omega, by omega, by rw [HX2.out], by rw [HX2.out], fun _ => by omega, hB, by show Holds w _ _; rw [← List.drop_drop]; exact HH.out.drop n, by intro x hx hne; cases a' with | none => simp at hx | some y => (simp only [Option.map_some, Option.some.injEq] at hx; subst hx; rw [add_block]; exact HHT.out y rfl (fun e => hne (by rw [← List.drop_drop, e, List.drop_nil])))⟩
    · have hpM := HP.out (by omega)
      have r0 : r = 0 := by have := HR.out; omega
      subst r0
      have hLp : L.take p = L := List.take_of_length_le (by omega)
      rw [hLp]
      have kb : Hid (∀ W : World, W = wr → Calls Try.prog 9 #[.slice a len cap] W fun e w' => e = .returned (.int .u32 (cmore 0 L : Nat)) ∧ w' = W) := fun W h => by subst h; exact sum_is L len a cap hl (by omega) HB.out _ (HL.out.below (by rw [← HNN.out]; exact HBW.out) HT.out)
      clear hLp
      generalize cmore 0 L = X at *
      by_cases hq : q ≤ lc
      · have g1 : decide ((q : Int) ≤ lc) = true := by simp; omega
        have g2 : decide ((q : Int) ≤ 20) = false := by simp; omega
        go_wp2_with (first | (go_at_call 9; refine (kb.out _ rfl).mono ?_; rintro e w' ⟨rfl, hw⟩; obtain rfl := hw.symm; clear hw) | (go_at_call 12; refine (works_true _).mono ?_; rintro e w4 ⟨rfl, hwk⟩; have HW : Hid (Below wr.heap.size wr w4) := hwk; clear hwk))
        go_ret
        exact ⟨rfl, by rw [← HNN.out]; exact HBW.out.trans (HW.out.mono (by have := HBW.out.size; rw [HNN.out]; exact this))⟩
      · have g1 : decide ((q : Int) ≤ lc) = false := by simp; omega
        go_wp2_with (first | (go_at_call 9; refine (kb.out _ rfl).mono ?_; rintro e w' ⟨rfl, hw⟩; obtain rfl := hw.symm; clear hw) | (go_at_call 12; refine (works_true _).mono ?_; rintro e w4 ⟨rfl, hwk⟩; have HW : Hid (Below wr.heap.size wr w4) := hwk; clear hwk))
        go_ret
        exact ⟨rfl, by rw [← HNN.out]; exact HBW.out.trans (HW.out.mono (by have := HBW.out.size; rw [HNN.out]; exact this))⟩
theorem crcParts_walk (a : Option Addr) (len cap : Nat) (za : List Int) (u : Option Addr) (lc cc : Nat) (zs : List Int) (w : World) (w0 : IsRow .u8 w a len cap za) (w1 : IsRow .i64 w u lc cc zs) :
    Calls Try.prog 5 #[.slice a len cap, .slice u lc cc] w fun e w' => e = .returned (.bool true) ∧ Below w.heap.size w w' := by
  obtain ⟨L, hL, hlen, hh, hb, hcap, hreach, hlt, hlc, hcm⟩ := w0.holds
  have hz : lc ≤ cc ∧ cc ≤ 140737488351232 := by
    rcases w1 with ⟨_, rfl, rfl, _⟩ | ⟨x, _, hl, hm, _⟩
    · omega
    · exact ⟨hl, hm⟩
  by_cases h1 : 2000 < len
  · exact parts_long a len cap (L.take 2000) u lc cc zs w h1 hlc hcm (by rw [List.length_take]; omega) (hh.take 2000) (fun x hx hne => hlt x hx (fun e => hne (by rw [e]; rfl))) (bytes_of_mem fun x hx => bytes_mem hb x (List.mem_of_mem_take hx)) w1 hz.1 hz.2
  · exact parts_short a len cap L u lc cc zs w (by omega) hlc hcm hlen hh hlt hb w1 hz.1 hz.2
end Go.Proofs.Ytbeeekmhnigelaa
