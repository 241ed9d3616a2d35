/- findOrBegin. Open. A log on a disk's blocks, plainly: what is opened, what a Sync and a Reset leave where nothing is lost. A log that nothing is lost of, plainly. -/
import Derived.Test.YtcindeechmpalaaGreatMgKc18
namespace Go.Proofs.YtcindeechmpalaaGreat
open Go.ChangeShapes Go.WideShapes Go.ChangeAt Go.RowKit Go.Deep Go.Maps
set_option linter.unusedVariables false
/-- findOrBegin, plainly: whether both blocks are noughts, what is found or begun -/
def Ds.fob (s : Ds) (m : Nat) : Int × Option (Nat × Nat × List (List Int)) × Ds :=
  if s.cur 0 = List.replicate 64 0 ∧ s.cur 1 = List.replicate 64 0 then
    (if (s.run [some (1, hdB 1 0 0), none]).1 = 0 then (0, some (1, 0, []), (s.run [some (1, hdB 1 0 0), none]).2) else ((s.run [some (1, hdB 1 0 0), none]).1, none, (s.run [some (1, hdB 1 0 0), none]).2))
  else (if fndE s m (pkJ m (s.cur 0) (s.cur 1) 2) = 0 then (0, some ((pkJ m (s.cur 0) (s.cur 1) 2).1, (pkJ m (s.cur 0) (s.cur 1) 2).2.1, (al (pkJ m (s.cur 0) (s.cur 1) 2).2.2 (s.log m (pkJ m (s.cur 0) (s.cur 1) 2).2.1 (pkJ m (s.cur 0) (s.cur 1) 2).2.2)).1), s) else (fndE s m (pkJ m (s.cur 0) (s.cur 1) 2), none, s))
theorem log_len {w : World} {F : Nat → Prop} {bd N : Nat} {s : Ds} (H : Dk w F bd N s) (m ar ln : Nat) (har : ar ≤ 1) (hln : ln ≤ 64 * m) (hD : 2 + 2 * m ≤ s.D.length) : (s.log m ar ln).length = ln ∧ IsBytes (s.log m ar ln) := by
  have : ar * m ≤ m := by rcases (by omega : ar = 0 ∨ ar = 1) with rfl | rfl <;> omega
  have c := cat_64 H ((ln + 63) / 64) (2 + ar * m) (by omega)
  unfold Ds.log
  exact ⟨by rw [List.length_take, c.1]; omega, bytes_of_mem fun x hx => bytes_mem c.2 x (List.mem_of_mem_take hx)⟩
/-- what findOrBegin leaves in memory -/
def FobSaid (w : World) (F : Nat → Prop) (bl bd N m : Nat) (X : Int × Option (Nat × Nat × List (List Int)) × Ds) (e : Ending) (w' : World) : Prop :=
  e = .returned (.int .i64 X.1) ∧ ∃ F', Dk w' F' bd (N + 2) X.2.2 ∧ StepL F F' bl w w' ∧ (X.1 = 0 → ∃ no ar R vr, X.2.1 = some (no, ar, R) ∧ LgC w' bl bd m no ar (joinL R).length vr (.slice none 0 0) (.slice none 0 0) false ∧ RowsS w' w.heap.size vr R ∧ 1 ≤ no ∧ no ≤ 1152921504606846976 ∧ ar ≤ 1 ∧ (joinL R).length ≤ 64 * m ∧ (∀ B ∈ R, IsBytes B ∧ B.length ≤ 4096) ∧ ∀ k, vr.ownBlock = some k → ¬ F' k)
set_option maxRecDepth 100000 in
set_option maxHeartbeats 4000000 in
theorem fob_is (w : World) (F : Nat → Prop) (bd N : Nat) (s : Ds) (H : Dk w F bd N s) (hNN : N < 999998) (hu : s.up = true) (bl m : Nat) (hm : m ≤ 2047) (hm2 : 2 ≤ m) (hD : 2 + 2 * m ≤ s.D.length) (hlg : LgC w bl bd m 0 0 0 (.slice none 0 0) (.slice none 0 0) (.slice none 0 0) false) (hF : ¬ F bl) :
    Calls Tryz.prog 71 #[.pointer (some ⟨bl, 0, none⟩)] w (FobSaid w F bl bd N m (s.fob m)) := by
  obtain ⟨h0, h0b⟩ := cur_64 H 0 (by omega)
  obtain ⟨h1, h1b⟩ := cur_64 H 1 (by omega)
  obtain ⟨X, hX⟩ : ∃ X, X = s.fob m := ⟨_, rfl⟩
  rw [← hX]
  have HX : Hid (X = s.fob m) := hX
  have HD : Hid (Dk w F bd N s) := H
  have HL : Hid (LgC w bl bd m 0 0 0 (.slice none 0 0) (.slice none 0 0) (.slice none 0 0) false) := hlg
  have HF : Hid (¬ F bl) := hF
  have hblw := hlg.lt
  have KR : Hid (∀ (u : World) (j : Nat), j < 2 → Below w.heap.size w u → Calls Tryz.prog 102 #[.pointer (some ⟨bd, 0, none⟩), .int .i64 (j : Int)] u fun e w' => ∃ g c, e = .returned (.tuple #[.slice (some ⟨g, 0, none⟩) 64 c, .int .i64 0]) ∧ Owned w' u.heap.size (.slice (some ⟨g, 0, none⟩) 64 c) (bJ (s.cur 0) (s.cur 1) j) ∧ Below u.heap.size u w') := fun u j hj hb => by
    have e : s.cur j = bJ (s.cur 0) (s.cur 1) j := by rcases (by omega : j = 0 ∨ j = 1) with rfl | rfl <;> rfl
    refine (dk_read u F bd N s (H.keep hb) (by omega) (j : Int)).mono ?_
    rintro e2 w' ⟨a, n, c, he, hl, ho, hb⟩
    rw [Ds.rd_up s hu j (by omega)] at he hl ho
    obtain rfl : 64 = n := (cur_64 H j (by omega)).1.symm.trans hl
    obtain ⟨g, hg⟩ := Owned.some ho (by omega)
    subst hg
    rw [e] at ho
    exact ⟨g, c, he, ho, hb⟩
  have TS : Hid (∀ j, j < 2 → splice (tw (s.cur 0) (s.cur 1) j) (j * 64) (bJ (s.cur 0) (s.cur 1) j) = tw (s.cur 0) (s.cur 1) (j + 1)) := fun j hj => by rw [Nat.mul_comm]; exact tw_step _ _ h0 h1 j hj
  have TL : Hid (∀ j, (tw (s.cur 0) (s.cur 1) j).length = 128) := fun j => tw_len _ _ h0 h1 j
  have JL : Hid (∀ j, (bJ (s.cur 0) (s.cur 1) j).length = 64) := fun j => bJ_len h0 h1 j
  have TZ : Hid (tw (s.cur 0) (s.cur 1) 0 = List.replicate 64 0 ++ List.replicate 64 0) := rfl
  have T2 : Hid (tw (s.cur 0) (s.cur 1) 2 = s.cur 0 ++ s.cur 1) := rfl
  have KF : Hid (∀ u, Below w.heap.size w u → Calls Tryz.prog 104 #[.pointer (some ⟨bl, 0, none⟩), .agg (bk (s.cur 0 ++ s.cur 1))] u (FndSaid u s m bl bd (pkJ m (s.cur 0) (s.cur 1) 2))) := fun u hb => find_is u F bd N s (H.keep hb) (by omega) hu bl m hm hD (hlg.keep hb) hF _ _ ⟨h0, h0b⟩ ⟨h1, h1b⟩
  have PB := pkJ_b m (s.cur 0) (s.cur 1) 2 (Nat.le_refl _)
  have HPB : Hid ((pkJ m (s.cur 0) (s.cur 1) 2).1 ≤ 1152921504606846976 ∧ (pkJ m (s.cur 0) (s.cur 1) 2).2.1 ≤ 1 ∧ (pkJ m (s.cur 0) (s.cur 1) 2).2.2 ≤ 64 * m) := PB
  have KW : Hid (∀ u, Below w.heap.size w u → Calls Tryz.prog 103 #[.pointer (some ⟨bl, 0, none⟩), .agg #[.int .u64 1, .int .i64 0, .int .i64 0]] u fun e w' => e = .returned (.int .i64 (s.run [some (1, hdB 1 0 0), none]).1) ∧ ∃ F', Dk w' F' bd (N + 2) (s.run [some (1, hdB 1 0 0), none]).2 ∧ StepL F F' bl u w' ∧
      (((s.run [some (1, hdB 1 0 0), none]).1 = 0 ∧ LgC w' bl bd m 1 0 0 (.slice none 0 0) (.slice none 0 0) (.slice none 0 0) false) ∨ ((s.run [some (1, hdB 1 0 0), none]).1 ≠ 0 ∧ LgC w' bl bd m 0 0 0 (.slice none 0 0) (.slice none 0 0) (.slice none 0 0) false))) := fun u hb => writeHead_is u F bd N s (H.keep hb) hNN bl m 0 0 0 _ _ _ false (hlg.keep hb) hF 1 0 0 (by omega) (by omega) (by omega)
  obtain ⟨TW, hTW⟩ : ∃ TW, TW = tw (s.cur 0) (s.cur 1) := ⟨_, rfl⟩
  obtain ⟨BJ, hBJ⟩ : ∃ BJ, BJ = bJ (s.cur 0) (s.cur 1) := ⟨_, rfl⟩
  rw [← hTW] at TS TL TZ T2
  rw [← hBJ] at TS KR JL
  have B0 : Hid (Below w.heap.size w (w.alloc (.cells hz128 161))) := gB_alloc w _
  have K0 : Hid (Bk2 (w.alloc (.cells hz128 161)) w.heap.size (TW 0)) := by
    show _ = _
    rw [TZ.out, ← hz128_is]
    exact heap_alloc_new w _
  clear hTW hBJ hX H hlg hF PB
  go_enter Tryz.func71, Tryz.ntmps71
  go_wp2_with fail
  go_loopg [7] 2 (fun g i wr => ∃ j : Nat, j ≤ 2 ∧ g = 2 - j ∧ i = .int .i64 (j : Int) ∧ Hid (Bk2 wr w.heap.size (TW j)) ∧ Hid (Below w.heap.size w wr))
  case atStart => exact ⟨0, Nat.zero_le _, rfl, rfl, K0.out, B0.out⟩
  case round =>
    obtain ⟨j, hj, rfl, rfl, HK, HB⟩ := hrel
    have hsz := HB.out.size
    by_cases hlt : j < 2
    · have i1 : (j : Int) < 2 := by omega
      have c0 := (HL.out.keep HB.out).cells.c0
      go_wp2_with fail
      refine (KR.out wr j hlt HB.out).mono ?_
      rintro e w2 ⟨g, c, rfl, ho, hb⟩
      have O2 : Hid (Owned w2 wr.heap.size (.slice (some ⟨g, 0, none⟩) 64 c) (BJ j)) := ho
      have HK2 : Hid (Bk2 w2 w.heap.size (TW j)) := HK.out.keep hb
      have HB2 : Hid (Below w.heap.size w w2) := HB.out.trans (hb.mono HB.out.size)
      clear ho hb c0
      go_wp2_with (refine copyB2 rfl (.tmp 24) (.tmp 25) rfl w.heap.size (j * 64) 64 64 (TW j) rfl HK2.out _ 64 c (BJ j) rfl (JL.out j) O2.out.holds.1 (by decide) (by rw [TL.out]; omega) ?_; intro w3 hk3 hg3 hs3; have HK3 : Hid (Bk2 w3 w.heap.size (TW (j + 1))) := (by rw [TS.out j hlt] at hk3; exact hk3); have HB3 : Hid (Below w.heap.size w w3) := (HB2.out.grown hg3 HB2.out.size (fun k e => Nat.le_of_eq (Option.some.inj e))); clear hk3 hg3 hs3)
      go_roundg (2 - (j + 1))
      case measure => omega
      case rel => exact ⟨j + 1, by omega, rfl, by go_num, HK3, HB3⟩
    · have e : j = 2 := by omega
      subst e
      have i1 : ¬ ((2 : Nat) : Int) < 2 := by omega
      rw [T2.out] at HK
      clear TS TL TZ T2 JL KR
      have hlen : (s.cur 0 ++ s.cur 1).length = 128 := by rw [List.length_append, h0, h1]
      have HSZ : Hid ((Tryz.prog.info? 161).map (·.size) = some (bk (s.cur 0 ++ s.cur 1)).size) := by show _ = _; rw [bk_size, hlen]; kernel_rfl
      have HKK : Hid (wr.heap[w.heap.size]? = some (.cells (bk (s.cur 0 ++ s.cur 1)) 161)) := HK.out
      have g9 := guard_two
      have hzz : Tryz.zeroCells161 = hz128 := by kernel_rfl
      have e9 : ∀ u, (Op.equalIn 10000 161 (.agg (bk (s.cur 0 ++ s.cur 1))) (.agg Tryz.zeroCells161)).run Tryz.prog u = .ok (decide (s.cur 0 = List.replicate 64 0) && decide (s.cur 1 = List.replicate 64 0)) u := fun u => by rw [hzz, hz128_is, ← all_two]; exact equal_two 9997 _ _ _ _ h0 h1 (by simp) (by simp) u
      clear hlen hzz
      have BW : Hid (Below w.heap.size w wr) := HB.out
      by_cases hz : s.cur 0 = List.replicate 64 0 ∧ s.cur 1 = List.replicate 64 0
      · have HX2 : Hid (X = if (s.run [some (1, hdB 1 0 0), none]).1 = 0 then (0, some (1, 0, []), (s.run [some (1, hdB 1 0 0), none]).2) else ((s.run [some (1, hdB 1 0 0), none]).1, none, (s.run [some (1, hdB 1 0 0), none]).2)) := by show _ = _; rw [HX.out, Ds.fob, if_pos hz]
        have eb : (decide (s.cur 0 = List.replicate 64 0) && decide (s.cur 1 = List.replicate 64 0)) = true := by rw [decide_eq_true hz.1, decide_eq_true hz.2]; rfl
        rw [eb] at e9
        clear eb hz KF HPB
        generalize bk (s.cur 0 ++ s.cur 1) = BB at *
        generalize s.run [some (1, hdB 1 0 0), none] = R at *
        go_wp2_with (refine wpList_load_row rfl 161 (.tmp 3) rfl w.heap.size rfl 161 BB (0, 0) _ HKK.out Tryz.underlying161 rfl HSZ.out ?_)
        refine (KW.out wr BW.out).mono ?_
        rintro e w3 ⟨rfl, F3, hd3, hs3, hor⟩
        have D3 : Hid (Dk w3 F3 bd (N + 2) R.2) := hd3
        have S3 : Hid (StepL F F3 bl w w3) := StepL.trans (G := F) ⟨Off.ofBelow _ BW.out, fun _ hk => .inl hk⟩ hs3
        have OR : Hid ((R.1 = 0 ∧ LgC w3 bl bd m 1 0 0 (.slice none 0 0) (.slice none 0 0) (.slice none 0 0) false) ∨ (R.1 ≠ 0 ∧ LgC w3 bl bd m 0 0 0 (.slice none 0 0) (.slice none 0 0) (.slice none 0 0) false)) := hor
        clear hd3 hs3 hor
        go_wp2_with fail
        go_ret
        rcases OR.out with ⟨h1, hl⟩ | ⟨h1, hl⟩
        · rw [if_pos h1] at HX2
          refine ⟨by rw [HX2.out, h1]; rfl, F3, by rw [HX2.out]; exact D3.out, S3.out, fun _ => ⟨1, 0, [], .slice none 0 0, by rw [HX2.out], hl, RowsS.nil _ _, by omega, by omega, by omega, Nat.zero_le _, (fun B hB => by cases hB), fun k hk => by cases hk⟩⟩
        · rw [if_neg h1] at HX2
          exact ⟨by rw [HX2.out]; rfl, F3, by rw [HX2.out]; exact D3.out, S3.out, fun e => by rw [HX2.out] at e; exact absurd e h1⟩
      · have HX2 : Hid (X = if fndE s m (pkJ m (s.cur 0) (s.cur 1) 2) = 0 then (0, some ((pkJ m (s.cur 0) (s.cur 1) 2).1, (pkJ m (s.cur 0) (s.cur 1) 2).2.1, (al (pkJ m (s.cur 0) (s.cur 1) 2).2.2 (s.log m (pkJ m (s.cur 0) (s.cur 1) 2).2.1 (pkJ m (s.cur 0) (s.cur 1) 2).2.2)).1), s) else (fndE s m (pkJ m (s.cur 0) (s.cur 1) 2), none, s)) := by show _ = _; rw [HX.out, Ds.fob, if_neg hz]
        have eb : (decide (s.cur 0 = List.replicate 64 0) && decide (s.cur 1 = List.replicate 64 0)) = false := by
          rw [Bool.and_eq_false_iff]
          by_cases h : s.cur 0 = List.replicate 64 0
          · exact .inr (decide_eq_false fun e => hz ⟨h, e⟩)
          · exact .inl (decide_eq_false h)
        rw [eb] at e9
        have KF2 : Hid (Calls Tryz.prog 104 #[.pointer (some ⟨bl, 0, none⟩), .agg (bk (s.cur 0 ++ s.cur 1))] wr (FndSaid wr s m bl bd (pkJ m (s.cur 0) (s.cur 1) 2))) := KF.out wr BW.out
        clear eb hz KW KF
        generalize bk (s.cur 0 ++ s.cur 1) = BB at *
        generalize pkJ m (s.cur 0) (s.cur 1) 2 = pk at *
        go_wp2_with (refine wpList_load_row rfl 161 (.tmp 3) rfl w.heap.size rfl 161 BB (0, 0) _ HKK.out Tryz.underlying161 rfl HSZ.out ?_)
        refine KF2.out.mono ?_
        rintro e w3 ⟨rfl, ho3, hy3⟩
        have O3 : Hid (Off (fun k => k = bl) wr w3) := ho3
        have Y3 : Hid (fndE s m pk = 0 → ∃ vr, LgC w3 bl bd m pk.1 pk.2.1 pk.2.2 vr (.slice none 0 0) (.slice none 0 0) false ∧ RowsS w3 wr.heap.size vr (al pk.2.2 (s.log m pk.2.1 pk.2.2)).1) := hy3
        have D3 : Hid (Dk w3 F bd N s) := (HD.out.keep BW.out).apart ho3 (fun k hk e => HF.out (e ▸ hk))
        have S3 : Hid (StepL F F bl w w3) := ⟨(Off.ofBelow _ BW.out).trans ho3 (fun k hk => .inl (.inr hk)), fun _ hk => .inl hk⟩
        clear ho3 hy3
        go_wp2_with fail
        go_ret
        by_cases hf : fndE s m pk = 0
        · rw [if_pos hf] at HX2
          obtain ⟨vr, hl, hr⟩ := Y3.out hf
          obtain ⟨lg1, lg2⟩ := log_len HD.out m pk.2.1 pk.2.2 HPB.out.2.1 HPB.out.2.2 hD
          have hal : (al pk.2.2 (s.log m pk.2.1 pk.2.2)).2.2 = 0 := by
            unfold fndE at hf
            by_cases h1 : pk.1 = 0
            · rw [if_pos h1] at hf; cases hf
            · rw [if_neg h1] at hf
              by_cases h2 : (al pk.2.2 (s.log m pk.2.1 pk.2.2)).2.2 ≠ 0
              · rw [if_pos h2] at hf; cases hf
              · omega
          obtain ⟨i1, i2⟩ := al_inv _ _ lg2 (by omega) hal
          have hp0 : 1 ≤ pk.1 := by
            unfold fndE at hf
            by_cases h1 : pk.1 = 0
            · rw [if_pos h1] at hf; cases hf
            · omega
          refine ⟨by rw [HX2.out, hf]; rfl, F, by rw [HX2.out]; exact D3.out.more (by omega), S3.out, fun _ => ⟨pk.1, pk.2.1, _, vr, by rw [HX2.out], ?_, hr.base BW.out.size, hp0, HPB.out.1, HPB.out.2.1, by rw [i1, lg1]; exact HPB.out.2.2, i2, fun k hk hf => by have h1 := (hr.own k hk).1; have h2 := HD.out.lt k hf; have h3 := BW.out.size; omega⟩⟩
          rw [i1, lg1]
          exact hl
        · rw [if_neg hf] at HX2
          exact ⟨by rw [HX2.out]; rfl, F, by rw [HX2.out]; exact D3.out.more (by omega), S3.out, fun e => by rw [HX2.out] at e; exact absurd e hf⟩
end Go.Proofs.YtcindeechmpalaaGreat
namespace Go.Proofs.YtcindeechmpalaaGreat
open Go.ChangeShapes Go.WideShapes Go.ChangeAt Go.RowKit Go.Deep Go.Maps
set_option linter.unusedVariables false
/-- Open, plainly -/
def Ds.am (s : Ds) : Nat := (s.D.length - 2) / 2
def Ds.opn (s : Ds) : Int × Option Lg × Ds :=
  if s.up = false then (15, none, s)
  else if s.D.length < 6 then (2, none, s)
  else ((s.fob s.am).1, (s.fob s.am).2.1.map (fun x => ⟨s.am, x.1, x.2.1, x.2.2, [], false⟩), (s.fob s.am).2.2)
def OpnSaid (w : World) (F : Nat → Prop) (bd N : Nat) (X : Int × Option Lg × Ds) (e : Ending) (w' : World) : Prop :=
  ∃ F', Dk w' F' bd (N + 2) X.2.2 ∧ Step F F' w w' ∧
    ((X.1 = 0 ∧ ∃ bl G l, X.2.1 = some l ∧ e = .returned (.tuple #[.pointer (some ⟨bl, 0, none⟩), .int .i64 0]) ∧ Lm w' G bl bd l ∧ l.Ok N ∧ 1 ≤ l.no ∧ (∀ k, G k → w.heap.size ≤ k) ∧ ∀ k, G k → ¬ F' k) ∨
     (X.1 ≠ 0 ∧ e = .returned (.tuple #[.pointer none, .int .i64 X.1])))
set_option maxRecDepth 100000 in
set_option maxHeartbeats 4000000 in
theorem open_is (w : World) (F : Nat → Prop) (bd N : Nat) (s : Ds) (H : Dk w F bd N s) (hNN : N < 999998) : Calls Tryz.prog 37 #[.pointer (some ⟨bd, 0, none⟩)] w (OpnSaid w F bd N s.opn) := by
  have hD := H.is64.2.2
  have KB : Hid (Calls Tryz.prog 70 #[.pointer (some ⟨bd, 0, none⟩)] w fun e w' => e = .returned (.int .i64 (s.D.length : Int)) ∧ w' = w) := dk_blocks w F bd N s H
  have KU : Hid (Calls Tryz.prog 34 #[.pointer (some ⟨bd, 0, none⟩)] w fun e w' => e = .returned (.bool s.up) ∧ w' = w) := dk_up w F bd N s H
  have HD : Hid (Dk w F bd N s) := H
  have hne : ((s.D.length : Nat) : Int) ≠ 0 := by omega
  have hne2 : (((s.D.length : Nat) : Int) == 0) = false := by rw [beq_eq_false_iff_ne]; exact hne
  by_cases hu : s.up = false
  · have HX : Hid (s.opn = (15, none, s)) := by show _ = _; rw [Ds.opn, if_pos hu]
    rw [hu] at KU
    generalize hX : s.opn = X at *
    clear H hX
    go_enter Tryz.func37, Tryz.ntmps37
    go_wp2_with fail
    refine KB.out.mono ?_
    rintro e w1 ⟨rfl, rfl⟩
    go_wp2_with fail
    refine KU.out.mono ?_
    rintro e w1 ⟨rfl, rfl⟩
    go_wp2_with fail
    go_ret2
    exact ⟨F, by rw [HX.out]; exact HD.out.more (by omega), Step.refl F _, .inr ⟨by rw [HX.out]; simp, by rw [HX.out]; rfl⟩⟩
  · have hup : s.up = true := by simpa using hu
    rw [hup] at KU
    by_cases h6 : s.D.length < 6
    · have HX : Hid (s.opn = (2, none, s)) := by show _ = _; rw [Ds.opn, if_neg hu, if_pos h6]
      have e6 : ((s.D.length : Nat) : Int) < 6 := by omega
      generalize hX : s.opn = X at *
      clear H hX
      go_enter Tryz.func37, Tryz.ntmps37
      go_wp2_with fail
      refine KB.out.mono ?_
      rintro e w1 ⟨rfl, rfl⟩
      go_wp2_with fail
      refine KU.out.mono ?_
      rintro e w1 ⟨rfl, rfl⟩
      go_wp2_with fail
      refine KB.out.mono ?_
      rintro e w1 ⟨rfl, rfl⟩
      go_wp2_with fail
      go_ret2
      exact ⟨F, by rw [HX.out]; exact HD.out.more (by omega), Step.refl F _, .inr ⟨by rw [HX.out]; simp, by rw [HX.out]; rfl⟩⟩
    · have HX : Hid (s.opn = ((s.fob s.am).1, (s.fob s.am).2.1.map (fun x => ⟨s.am, x.1, x.2.1, x.2.2, [], false⟩), (s.fob s.am).2.2)) := by show _ = _; rw [Ds.opn, if_neg hu, if_neg h6]
      have ham : s.am = (s.D.length - 2) / 2 := rfl
      have e6 : ¬ ((s.D.length : Nat) : Int) < 6 := by omega
      have KF : Hid (∀ u bl, Below w.heap.size w u → LgC u bl bd s.am 0 0 0 (.slice none 0 0) (.slice none 0 0) (.slice none 0 0) false → ¬ F bl → Calls Tryz.prog 71 #[.pointer (some ⟨bl, 0, none⟩)] u (FobSaid u F bl bd N s.am (s.fob s.am))) := fun u bl hb hl hf => fob_is u F bd N s (H.keep hb) hNN hup bl s.am (by omega) (by omega) (by omega) hl hf
      have td : Int.tdiv (((s.D.length : Nat) : Int) - 2) 2 = ((s.am : Nat) : Int) := by rw [Int.tdiv_eq_ediv_of_nonneg (by omega)]; omega
      have ham2 : s.am ≤ 2047 := by omega
      generalize hX : s.opn = X at *
      generalize s.fob s.am = Y at *
      generalize s.am = m at *
      have B1 : Hid (Below w.heap.size w (w.alloc (lgO bd m 0 0 0 (.slice none 0 0) (.slice none 0 0) (.slice none 0 0) false))) := gB_alloc w _
      have L1 : Hid (LgC (w.alloc (lgO bd m 0 0 0 (.slice none 0 0) (.slice none 0 0) (.slice none 0 0) false)) w.heap.size bd m 0 0 0 (.slice none 0 0) (.slice none 0 0) (.slice none 0 0) false) := heap_alloc_new w _
      have NF : Hid (¬ F w.heap.size) := fun e => by have := HD.out.lt _ e; omega
      have Z1 : Hid ((w.alloc (lgO bd m 0 0 0 (.slice none 0 0) (.slice none 0 0) (.slice none 0 0) false)).heap.size = w.heap.size + 1) := by show _ = _; simp
      obtain ⟨W1, hW1⟩ : ∃ W1, W1 = w.alloc (lgO bd m 0 0 0 (.slice none 0 0) (.slice none 0 0) (.slice none 0 0) false) := ⟨_, rfl⟩
      rw [← hW1] at B1 L1 Z1
      have HW1 : Hid (w.alloc (lgO bd m 0 0 0 (.slice none 0 0) (.slice none 0 0) (.slice none 0 0) false) = W1) := hW1.symm
      have K2 : Hid (Calls Tryz.prog 71 #[.pointer (some ⟨w.heap.size, 0, none⟩)] (w.alloc (lgO bd m 0 0 0 (.slice none 0 0) (.slice none 0 0) (.slice none 0 0) false)) (FobSaid W1 F w.heap.size bd N m Y)) := by rw [HW1.out]; exact KF.out W1 _ B1.out L1.out NF.out
      clear H hX hW1 ham
      go_enter Tryz.func37, Tryz.ntmps37
      go_wp2_with fail
      refine KB.out.mono ?_
      rintro e w1 ⟨rfl, rfl⟩
      go_wp2_with fail
      refine KU.out.mono ?_
      rintro e w1 ⟨rfl, rfl⟩
      go_wp2_with fail
      refine KB.out.mono ?_
      rintro e w1 ⟨rfl, rfl⟩
      go_wp2_with fail
      refine KB.out.mono ?_
      rintro e w1 ⟨rfl, rfl⟩
      go_wp2_with fail
      refine K2.out.mono ?_
      rintro e w3 ⟨rfl, F3, hd3, hs3, hy3⟩
      have D3 : Hid (Dk w3 F3 bd (N + 2) Y.2.2) := hd3
      have S3 : Hid (StepL F F3 w1.heap.size W1 w3) := hs3
      have T3 : Hid (Step F F3 w1 w3) := by
        have hz := Z1.out
        refine ⟨⟨hs3.off.os.trans B1.out.os, hs3.off.tape.trans B1.out.tape, hs3.off.output.trans B1.out.output, Nat.le_trans B1.out.size hs3.off.size, fun k hk hn => ?_⟩, fun k hk => ?_⟩
        · refine (hs3.off.block k (by omega) (fun e => e.elim hn fun e2 => ?_)).trans (B1.out.block k hk)
          have e3 : k = w1.heap.size := e2
          omega
        · rcases hs3.sub k hk with e | e
          · exact .inl e
          · exact .inr (by omega)
      have Y3 : Hid (Y.1 = 0 → ∃ no ar R vr, Y.2.1 = some (no, ar, R) ∧ LgC w3 w1.heap.size bd m no ar (joinL R).length vr (.slice none 0 0) (.slice none 0 0) false ∧ RowsS w3 W1.heap.size vr R ∧ 1 ≤ no ∧ no ≤ 1152921504606846976 ∧ ar ≤ 1 ∧ (joinL R).length ≤ 64 * m ∧ (∀ B ∈ R, IsBytes B ∧ B.length ≤ 4096) ∧ ∀ k, vr.ownBlock = some k → ¬ F3 k) := hy3
      clear hd3 hs3 hy3
      by_cases h0 : Y.1 = 0
      · rw [h0]
        go_wp2_with fail
        go_ret2
        obtain ⟨no, ar, R, vr, hy, hl, hr, n1, n2, n3, n4, n5, n6⟩ := Y3.out h0
        have hz := Z1.out
        refine ⟨F3, by rw [HX.out]; exact D3.out, T3.out, .inl ⟨by rw [HX.out]; exact h0, w1.heap.size, Lf w1.heap.size vr (.slice none 0 0) (.slice none 0 0), ⟨m, no, ar, R, [], false⟩, by rw [HX.out, hy]; rfl, rfl, ⟨vr, _, _, ⟨hl, hr.base (Nat.zero_le _), RowsS.nil _ _, World.ownsRow_nil _ _ _ _, fun k _ e => by cases e⟩, fun k => Iff.rfl⟩, ⟨ham2, by show no ≤ _; omega, n3, by show (joinL R).length + 0 ≤ 64 * m; omega, n5, fun B hB => by cases hB⟩, n1, fun k hk => ?_, fun k hk hf => ?_⟩⟩
        · rcases hk with rfl | hk | hk | hk
          · exact Nat.le_refl _
          · have := (hr.own k hk).1; omega
          · cases hk
          · cases hk
        · rcases hk with rfl | hk | hk | hk
          · rcases S3.out.sub _ hf with e | e
            · exact NF.out e
            · omega
          · exact n6 k hk hf
          · cases hk
          · cases hk
      · have e9 : (Y.1 == 0) = false := by rw [beq_eq_false_iff_ne]; exact h0
        go_wp2_with fail
        go_ret2
        exact ⟨F3, by rw [HX.out]; exact D3.out, T3.out, .inr ⟨by rw [HX.out]; exact h0, by rw [HX.out]; rfl⟩⟩
end Go.Proofs.YtcindeechmpalaaGreat
namespace Go.Proofs.YtcindeechmpalaaGreat
open Go.ChangeShapes Go.WideShapes Go.ChangeAt Go.RowKit Go.Deep Go.Maps
set_option linter.unusedVariables false
/-- a block's bytes; blocks one behind the other -/
def bAt (D : List (List Int)) (i : Nat) : List Int := D[i]?.getD []
def catD (D : List (List Int)) : Nat → Nat → List Int
  | _, 0 => []
  | i, k + 1 => bAt D i ++ catD D (i + 1) k
theorem cur_nil {s : Ds} (h : ∀ i, s.W i = []) (i : Nat) : s.cur i = bAt s.D i := by
  unfold Ds.cur bAt
  rw [h]
  rfl
theorem cat_nil {s : Ds} (h : ∀ i, s.W i = []) : ∀ (k i : Nat), s.cat i k = catD s.D i k
  | 0, i => rfl
  | k + 1, i => by rw [Ds.cat, catD, cur_nil h, cat_nil h k]
theorem catD_add (D : List (List Int)) : ∀ (a b i : Nat), catD D i (a + b) = catD D i a ++ catD D (i + a) b
  | 0, b, i => by rw [Nat.zero_add, Nat.add_zero]; rfl
  | a + 1, b, i => by
    rw [show a + 1 + b = (a + b) + 1 by omega, catD, catD, catD_add D a b (i + 1), List.append_assoc, show i + 1 + a = i + (a + 1) by omega]
theorem catD_len {D : List (List Int)} (h : Is64 D) : ∀ (k i : Nat), i + k ≤ D.length → (catD D i k).length = 64 * k
  | 0, i, _ => rfl
  | k + 1, i, hk => by
    have e : bAt D i = D[i]'(by omega) := by unfold bAt; rw [List.getElem?_eq_getElem (by omega)]; rfl
    rw [catD, List.length_append, catD_len h k (i + 1) (by omega), e, (h _ (List.getElem_mem _)).1]
    omega
theorem catD_same {D E : List (List Int)} : ∀ (k i : Nat), (∀ j, i ≤ j → j < i + k → E[j]? = D[j]?) → catD E i k = catD D i k
  | 0, i, _ => rfl
  | k + 1, i, h => by
    rw [catD, catD, catD_same k (i + 1) (fun j h1 h2 => h j (by omega) (by omega)), bAt, h i (by omega) (by omega)]
    rfl
/-- a log lies on blocks -/
structure Lies (D : List (List Int)) (m no ar : Nat) (R : List (List Int)) : Prop where
  hd : D[no % 2]? = some (hdB no ar (joinL R).length)
  oth : ∀ b, D[(no + 1) % 2]? = some b → hdOk m ((no + 1) % 2) b = true → hN b < no
  log : (catD D (2 + ar * m) (((joinL R).length + 63) / 64)).take (joinL R).length = joinL R
/-- numbers that a log may have -/
structure Nums (D : List (List Int)) (m no ar : Nat) (R : List (List Int)) : Prop where
  is64 : Is64 D
  len : 6 ≤ D.length ∧ D.length ≤ 4096
  mm : m = (D.length - 2) / 2
  nn : 1 ≤ no ∧ no ≤ 1152921504606846976
  aa : ar ≤ 1
  ln : (joinL R).length ≤ 64 * m
  rb : ∀ B ∈ R, IsBytes B ∧ B.length ≤ 4096
theorem opn_lies {s : Ds} {no ar : Nat} {R : List (List Int)} (hu : s.up = true) (hW : ∀ i, s.W i = []) (hn : Nums s.D s.am no ar R) (h : Lies s.D s.am no ar R) : s.opn = (0, some ⟨s.am, no, ar, R, [], false⟩, s) := by
  have h6 : ¬ s.D.length < 6 := by have := hn.len; omega
  have hm : s.am ≤ 4096 := by have := hn.len; have := hn.mm; unfold Ds.am; omega
  have hok := hd_ok s.am no ar (joinL R).length hn.nn.1 hn.nn.2 hn.aa hn.ln hm
  have hnum := hd_nums no ar (joinL R).length (by have := hn.nn; omega) (by have := hn.ln; omega)
  have hown : bAt s.D (no % 2) = hdB no ar (joinL R).length := by unfold bAt; rw [h.hd]; rfl
  have hoth : hdOk s.am ((no + 1) % 2) (bAt s.D ((no + 1) % 2)) = true → hN (bAt s.D ((no + 1) % 2)) < no := by
    intro e
    have hl : (no + 1) % 2 < s.D.length := by have := hn.len; omega
    have e2 : s.D[(no + 1) % 2]? = some (bAt s.D ((no + 1) % 2)) := by unfold bAt; rw [List.getElem?_eq_getElem hl]; rfl
    exact h.oth _ e2 e
  have hpk : pkJ s.am (s.cur 0) (s.cur 1) 2 = (no, ar, (joinL R).length) := by
    rw [cur_nil hW, cur_nil hW]
    show (if hdOk s.am 1 (bAt s.D 1) = true ∧ (pk1 s.am (bAt s.D 0)).1 < hN (bAt s.D 1) then (hN (bAt s.D 1), hA (bAt s.D 1), hL (bAt s.D 1)) else pk1 s.am (bAt s.D 0)) = _
    rcases (by omega : no % 2 = 0 ∨ no % 2 = 1) with e | e
    · have e1 : (no + 1) % 2 = 1 := by omega
      rw [e] at hown hok
      rw [e1] at hoth
      have p1 : pk1 s.am (bAt s.D 0) = (no, ar, (joinL R).length) := by rw [pk1, hown, if_pos hok, hnum.1, hnum.2.1, hnum.2.2]
      rw [p1, if_neg]
      intro hc
      have := hoth hc.1
      have h2 := hc.2
      simp only at h2
      omega
    · have e1 : (no + 1) % 2 = 0 := by omega
      rw [e] at hown hok
      rw [e1] at hoth
      have p1 : (pk1 s.am (bAt s.D 0)).1 < no := by
        rw [pk1]
        by_cases hc : hdOk s.am 0 (bAt s.D 0) = true
        · rw [if_pos hc]; exact hoth hc
        · rw [if_neg hc]; have := hn.nn.1; show 0 < no; omega
      rw [hown, hnum.1, hnum.2.1, hnum.2.2, if_pos ⟨hok, p1⟩]
  have hz : ¬ (s.cur 0 = List.replicate 64 0 ∧ s.cur 1 = List.replicate 64 0) := by
    rintro ⟨z0, z1⟩
    rw [cur_nil hW] at z0 z1
    rcases (by omega : no % 2 = 0 ∨ no % 2 = 1) with e | e
    · rw [e, z0] at hown; exact hd_zero _ _ _ hown.symm
    · rw [e, z1] at hown; exact hd_zero _ _ _ hown.symm
  have hlog : s.log s.am ar (joinL R).length = joinL R := by rw [Ds.log, cat_nil hW]; exact h.log
  have hal := al_join R (joinL R).length rfl (fun B hB => (hn.rb B hB).2)
  have hf : fndE s s.am (no, ar, (joinL R).length) = 0 := by
    unfold fndE
    rw [if_neg (by have := hn.nn.1; show ¬ no = 0; omega)]
    show (if (al (joinL R).length (s.log s.am ar (joinL R).length)).2.2 ≠ 0 then (6 : Int) else 0) = 0
    rw [hlog, hal, if_neg (by simp)]
  rw [Ds.opn, if_neg (by rw [hu]; simp), if_neg h6, Ds.fob, if_neg hz, hpk, if_pos hf]
  show ((0 : Int), some _, s) = _
  rw [hlog, hal]
/-- writes, one behind the other -/
def app : List (Option (Nat × List Int)) → List (List Int) → List (List Int)
  | [], D => D
  | some p :: r, D => app r (D.set p.1 p.2)
  | none :: r, D => app r D
theorem app_len : ∀ (A : List (Option (Nat × List Int))) (D : List (List Int)), (app A D).length = D.length
  | [], D => rfl
  | some p :: r, D => by rw [app, app_len r, List.length_set]
  | none :: r, D => by rw [app, app_len r]
/-- the writes of bytes: where they go -/
theorem app_wops_off : ∀ (n at_ : Nat) (B : List Int) (D : List (List Int)), B.length ≤ n → ∀ j, (j < at_ ∨ at_ + (B.length + 63) / 64 ≤ j) → (app (wops at_ B) D)[j]? = D[j]?
  | 0, at_, B, D, hn, j, hj => by
    have : B = [] := List.length_eq_zero_iff.1 (by omega)
    subst this
    rfl
  | n + 1, at_, B, D, hn, j, hj => by
    by_cases h : B = []
    · subst h; rfl
    · have hl : 0 < B.length := List.length_pos_iff.2 h
      rw [wops_cons _ _ h, app, app_wops_off n (at_ + 1) (B.drop 64) _ (by simp; omega) j (by simp; omega), List.getElem?_set_ne (by show at_ ≠ j; omega)]
theorem app_wops_cat : ∀ (n at_ : Nat) (B : List Int) (D : List (List Int)), B.length ≤ n → at_ + (B.length + 63) / 64 ≤ D.length → (catD (app (wops at_ B) D) at_ ((B.length + 63) / 64)).take B.length = B
  | 0, at_, B, D, hn, hf => by
    have : B = [] := List.length_eq_zero_iff.1 (by omega)
    subst this
    rfl
  | n + 1, at_, B, D, hn, hf => by
    by_cases h : B = []
    · subst h; rfl
    · have hl : 0 < B.length := List.length_pos_iff.2 h
      have hd : (B.drop 64).length = B.length - 64 := List.length_drop
      have e1 : (B.length + 63) / 64 = ((B.drop 64).length + 63) / 64 + 1 := by rw [hd]; omega
      have hb : bAt (app (wops (at_ + 1) (B.drop 64)) (D.set at_ (pad64 (B.take 64)))) at_ = pad64 (B.take 64) := by
        unfold bAt
        rw [app_wops_off _ (at_ + 1) (B.drop 64) _ (Nat.le_refl _) at_ (.inl (by omega)), List.getElem?_set_self (by omega)]
        rfl
      rw [wops_cons _ _ h, app, e1, catD, hb]
      by_cases h64 : B.length ≤ 64
      · have ht : B.take 64 = B := List.take_of_length_le h64
        rw [ht, pad64, List.append_assoc, List.take_append_of_le_length (Nat.le_refl _), List.take_of_length_le (Nat.le_refl _)]
      · have hp : pad64 (B.take 64) = B.take 64 := by unfold pad64; rw [show (B.take 64).length = 64 by rw [List.length_take]; omega]; simp
        have hlt : (B.take 64).length = 64 := by rw [List.length_take]; omega
        rw [hp, List.take_append, List.take_of_length_le (by omega), hlt]
        have ih := app_wops_cat n (at_ + 1) (B.drop 64) (D.set at_ (B.take 64)) (by omega) (by rw [List.length_set]; omega)
        rw [hd] at ih
        rw [hd, ih, List.take_append_drop]
theorem Is64.app : ∀ (A : List (Option (Nat × List Int))) (D : List (List Int)), Is64 D → (∀ p, some p ∈ A → p.2.length = 64 ∧ IsBytes p.2) → Is64 (app A D)
  | [], D, h, _ => h
  | some p :: r, D, h, hA => by
    refine Is64.app r _ (fun x hx => ?_) (fun q hq => hA q (List.mem_cons_of_mem _ hq))
    rcases List.mem_or_eq_of_mem_set hx with e | e
    · exact h x e
    · rw [e]; exact hA p (List.mem_cons_self ..)
  | none :: r, D, h, hA => Is64.app r D h (fun q hq => hA q (List.mem_cons_of_mem _ hq))
theorem wops_mem : ∀ (n at_ : Nat) (B : List Int), B.length ≤ n → IsBytes B → ∀ p, some p ∈ wops at_ B → (at_ ≤ p.1 ∧ p.1 < at_ + (B.length + 63) / 64) ∧ p.2.length = 64 ∧ IsBytes p.2
  | 0, at_, B, hn, hb, p, hp => by
    have : B = [] := List.length_eq_zero_iff.1 (by omega)
    subst this
    cases hp
  | n + 1, at_, B, hn, hb, p, hp => by
    by_cases h : B = []
    · subst h; cases hp
    · have hl : 0 < B.length := List.length_pos_iff.2 h
      rw [wops_cons _ _ h] at hp
      rcases List.mem_cons.1 hp with e | e
      · obtain rfl := Option.some.inj e
        refine ⟨⟨Nat.le_refl _, ?_⟩, pad64_len (by rw [List.length_take]; omega), pad64_bytes (bytes_of_mem fun x hx => bytes_mem hb x (List.mem_of_mem_take hx))⟩
        show at_ < _
        omega
      · have := wops_mem n (at_ + 1) (B.drop 64) (by simp; omega) (bytes_of_mem fun x hx => bytes_mem hb x (List.mem_of_mem_drop hx)) p e
        rw [List.length_drop] at this
        refine ⟨⟨by omega, by omega⟩, this.2⟩
theorem wops_some : ∀ (n at_ : Nat) (B : List Int), B.length ≤ n → none ∉ wops at_ B
  | 0, at_, B, hn, h => by
    have : B = [] := List.length_eq_zero_iff.1 (by omega)
    subst this
    cases h
  | n + 1, at_, B, hn, h => by
    by_cases hB : B = []
    · subst hB; cases h
    · rw [wops_cons _ _ hB] at h
      rcases List.mem_cons.1 h with e | e
      · cases e
      · exact wops_some n (at_ + 1) (B.drop 64) (by have : 0 < B.length := List.length_pos_iff.2 hB; simp; omega) e
end Go.Proofs.YtcindeechmpalaaGreat
namespace Go.Proofs.YtcindeechmpalaaGreat
open Go.ChangeShapes Go.WideShapes Go.ChangeAt Go.RowKit Go.Deep Go.Maps
set_option linter.unusedVariables false
theorem flD_wr (D : List (List Int)) (W : Int → List (List Int)) (i : Nat) (C : List Int) : flD D (fun j => if j = (i : Int) then W j ++ [C] else W j) = (flD D W).set i C := by
  apply List.ext_getElem?
  intro k
  by_cases hk : k = i
  · subst hk
    by_cases hl : k < D.length
    · rw [List.getElem?_set_self (by rw [flD_len]; exact hl), flD_at _ _ _ _ (List.getElem?_eq_getElem hl)]
      simp [lastOf]
    · rw [List.getElem?_eq_none (by rw [flD_len]; omega), List.getElem?_eq_none (by rw [List.length_set, flD_len]; omega)]
  · rw [List.getElem?_set_ne (fun e => hk e.symm)]
    have hne : ¬ ((k : Int) = (i : Int)) := by omega
    simp only [flD, List.getElem?_mapIdx, if_neg hne]
theorem wr_ok {s : Ds} {i : Nat} {C : List Int} (hu : s.up = true) (hf : s.fu = -1) (hi : i < s.D.length) (hC : C.length = 64) : s.wr (i : Int) C = (0, ⟨s.D, fun j => if j = (i : Int) then s.W j ++ [C] else s.W j, true, s.dn + 1, -1⟩) := by
  unfold Ds.wr
  rw [if_neg (by rw [hu]; simp [rdyAt]; omega), if_neg (by simpa using hC), if_neg (by rw [hf]; omega), hf]
  rfl
theorem fl_ok {s : Ds} (hu : s.up = true) (hf : s.fu = -1) : s.fl = (0, ⟨flD s.D s.W, fun _ => [], true, s.dn + 1, -1⟩) := by
  unfold Ds.fl
  rw [if_neg (by simp [hu]), if_neg (by rw [hf]; omega), hf]
  rfl
theorem run_free : ∀ (A : List (Option (Nat × List Int))) (s : Ds), none ∉ A → (∀ p, some p ∈ A → p.1 < s.D.length ∧ p.2.length = 64) → s.up = true → s.fu = -1 → ∃ s', s.run A = (0, s') ∧ s'.up = true ∧ s'.fu = -1 ∧ s'.D = s.D ∧ flD s'.D s'.W = app A (flD s.D s.W)
  | [], s, _, _, hu, hf => ⟨s, rfl, hu, hf, rfl, rfl⟩
  | none :: r, s, hn, _, _, _ => absurd (List.mem_cons_self ..) hn
  | some p :: r, s, hn, hA, hu, hf => by
    obtain ⟨h1, h2⟩ := hA p (List.mem_cons_self ..)
    have e := wr_ok hu hf h1 h2
    obtain ⟨s', g1, g2, g3, g4, g5⟩ := run_free r ⟨s.D, fun j => if j = (p.1 : Int) then s.W j ++ [p.2] else s.W j, true, s.dn + 1, -1⟩ (fun h => hn (List.mem_cons_of_mem _ h)) (fun q hq => hA q (List.mem_cons_of_mem _ hq)) rfl rfl
    refine ⟨s', ?_, g2, g3, g4, ?_⟩
    · rw [Ds.run_cons]
      show (if (s.wr (p.1 : Int) p.2).1 ≠ 0 then s.wr (p.1 : Int) p.2 else (s.wr (p.1 : Int) p.2).2.run r) = _
      rw [e, if_neg (by simp)]
      exact g1
    · rw [g5]
      show app r (flD s.D fun j => if j = (p.1 : Int) then s.W j ++ [p.2] else s.W j) = _
      rw [flD_wr]
      rfl
/-- up, no fuse, nothing waits -/
structure Free (s : Ds) : Prop where
  up : s.up = true
  fu : s.fu = -1
  W : ∀ i, s.W i = []
theorem run_flush {s : Ds} {A : List (Option (Nat × List Int))} (h : Free s) (hn : none ∉ A) (hA : ∀ p, some p ∈ A → p.1 < s.D.length ∧ p.2.length = 64) : ∃ s', s.run (A ++ [none]) = (0, s') ∧ Free s' ∧ s'.D = app A s.D := by
  obtain ⟨s1, g1, g2, g3, g4, g5⟩ := run_free A s hn hA h.up h.fu
  have e := fl_ok g2 g3
  refine ⟨⟨flD s1.D s1.W, fun _ => [], true, s1.dn + 1, -1⟩, ?_, ⟨rfl, rfl, fun _ => rfl⟩, ?_⟩
  · rw [Ds.run_app, g1, if_neg (by simp)]
    show s1.run [none] = _
    rw [Ds.run_cons]
    show (if s1.fl.1 ≠ 0 then s1.fl else s1.fl.2.run []) = _
    rw [e, if_neg (by simp)]
    rfl
  · show flD s1.D s1.W = _
    rw [g5, flD_nil s.D s.W (fun i _ => h.W _)]
theorem mops_free {s : Ds} (h : Free s) (m no ar fr : Nat) (B : List Int) (hB : IsBytes B) (hf : 2 + ar * m + fr + (B.length + 63) / 64 ≤ s.D.length) (h2 : 2 ≤ s.D.length) : ∃ s', s.run (mops m no ar fr B) = (0, s') ∧ Free s' ∧ s'.D = (app (wops (2 + ar * m + fr) B) s.D).set ((no + 1) % 2) (hdB (no + 1) ar (64 * fr + B.length)) := by
  obtain ⟨s1, g1, g2, g3⟩ := run_flush (A := wops (2 + ar * m + fr) B) h (wops_some _ _ B (Nat.le_refl _)) (fun p hp => by have := wops_mem B.length (2 + ar * m + fr) B (Nat.le_refl _) hB p hp; exact ⟨by omega, this.2.1⟩)
  have hl : s1.D.length = s.D.length := by rw [g3, app_len]
  obtain ⟨s2, k1, k2, k3⟩ := run_flush (A := [some ((no + 1) % 2, hdB (no + 1) ar (64 * fr + B.length))]) g2 (by simp) (fun p hp => by
    have : p = ((no + 1) % 2, hdB (no + 1) ar (64 * fr + B.length)) := by simpa using hp
    subst this
    exact ⟨by show (no + 1) % 2 < _; omega, hdB_len _ _ _⟩)
  refine ⟨s2, ?_, k2, ?_⟩
  · unfold mops
    rw [Ds.run_app, g1, if_neg (by simp)]
    exact k1
  · rw [k3, g3]
    rfl
/-- a log of which nothing is lost, and its disk -/
structure Gd (s : Ds) (l : Lg) : Prop where
  free : Free s
  nums : Nums s.D s.am l.no l.ar l.R
  lies : Lies s.D s.am l.no l.ar l.R
  am : l.m = s.am
  lost : l.lost = false
  room : l.ln + (joinL l.W).length ≤ 64 * l.m
  wb : ∀ B ∈ l.W, IsBytes B ∧ B.length ≤ 4096
theorem gd_open {s : Ds} {l : Lg} (h : Gd s l) : s.opn = (0, some { l with W := [] }, s) := by
  rw [opn_lies h.free.up h.free.W h.nums h.lies, ← h.am]
  have := h.lost
  cases l
  simp_all
theorem bAt_get {D : List (List Int)} {i : Nat} (h : i < D.length) : D[i]? = some (bAt D i) := by unfold bAt; rw [List.getElem?_eq_getElem h]; rfl
theorem gd_new (n : Nat) (h6 : 6 ≤ n) (hn : n ≤ 4096) : ∃ s', (Ds.new n).opn = (0, some ⟨(n - 2) / 2, 1, 0, [], [], false⟩, s') ∧ Gd s' ⟨(n - 2) / 2, 1, 0, [], [], false⟩ ∧ s'.D.length = n := by
  have hl : (Ds.new n).D.length = n := by simp [Ds.new, noughts]
  have hz : ∀ i, i < n → (Ds.new n).cur i = List.replicate 64 0 := fun i hi => by
    rw [cur_nil (fun _ => rfl), bAt]
    show ((noughts n)[i]?).getD [] = _
    unfold noughts
    rw [List.getElem?_replicate, if_pos hi]
    rfl
  have hfree : Free (Ds.new n) := ⟨rfl, rfl, fun _ => rfl⟩
  obtain ⟨s1, k1, k2, k3⟩ := run_flush (A := [some (1, hdB 1 0 0)]) hfree (by simp) (fun p hp => by
    have : p = (1, hdB 1 0 0) := by simpa using hp
    subst this
    exact ⟨by show 1 < _; omega, hdB_len _ _ _⟩)
  have hl1 : s1.D.length = n := by rw [k3, app_len, hl]
  have ham : s1.am = (n - 2) / 2 := by unfold Ds.am; rw [hl1]
  have hD : s1.D = (noughts n).set 1 (hdB 1 0 0) := k3
  refine ⟨s1, ?_, ⟨k2, ?_, ?_, ham.symm, rfl, by show 0 + 0 ≤ _; omega, fun B hB => by cases hB⟩, hl1⟩
  · have k1' : (Ds.new n).run [some (1, hdB 1 0 0), none] = (0, s1) := k1
    have ham0 : (Ds.new n).am = (n - 2) / 2 := by unfold Ds.am; rw [hl]
    rw [Ds.opn, if_neg (by simp [Ds.new]), if_neg (by omega), Ds.fob, if_pos ⟨hz 0 (by omega), hz 1 (by omega)⟩, k1', if_pos rfl, ham0]
    rfl
  · rw [ham]
    refine ⟨?_, ⟨by omega, by omega⟩, by rw [hl1], ⟨by show 1 ≤ 1; omega, by show 1 ≤ 1152921504606846976; omega⟩, by show 0 ≤ 1; omega, by show 0 ≤ _; omega, fun B hB => by cases hB⟩
    rw [hD]
    intro x hx
    rcases List.mem_or_eq_of_mem_set hx with e | e
    · have : x = List.replicate 64 0 := List.eq_of_mem_replicate (show x ∈ List.replicate n (List.replicate 64 0) from e)
      rw [this]
      exact ⟨by simp, zeros_bytes _⟩
    · rw [e]; exact ⟨hdB_len _ _ _, hdB_bytes _ _ _ (by omega)⟩
  · rw [hD]
    refine ⟨?_, fun b hb hk => ?_, rfl⟩
    · show ((noughts n).set 1 (hdB 1 0 0))[1 % 2]? = some (hdB 1 0 0)
      rw [show 1 % 2 = 1 from rfl, List.getElem?_set_self (by simp [noughts]; omega)]
    · replace hb : ((noughts n).set 1 (hdB 1 0 0))[(1 + 1) % 2]? = some b := hb
      have e : ((noughts n).set 1 (hdB 1 0 0))[0]? = some (List.replicate 64 0) := by
        rw [List.getElem?_set_ne (by omega)]
        unfold noughts
        rw [List.getElem?_replicate, if_pos (by omega)]
        rfl
      have hb' : ((noughts n).set 1 (hdB 1 0 0))[0]? = some b := hb
      rw [e] at hb'
      obtain rfl := Option.some.inj hb'
      rw [zero_no] at hk
      cases hk
theorem gd_sync {s : Ds} {l : Lg} (h : Gd s l) (hno : l.no < 1152921504606846976) (hW : l.W ≠ []) : ∃ s', l.sync s = (0, { l with no := l.no + 1, R := l.R ++ l.W, W := [] }, s') ∧ Gd s' { l with no := l.no + 1, R := l.R ++ l.W, W := [] } ∧ s'.D.length = s.D.length := by
  have hn := h.nums
  have hlen := hn.len
  have hmm := hn.mm
  have hroom := h.room
  rw [h.am] at hroom
  have har : l.ar * s.am ≤ s.am := by have := hn.aa; rcases (by omega : l.ar = 0 ∨ l.ar = 1) with e | e <;> rw [e] <;> omega
  have hjl : IsBytes (joinL l.W) := joinL_bytes _ fun B hB => (h.wb B hB).1
  have hlnm : l.ln ≤ 64 * s.am := by omega
  -- the bytes of the log: whole blocks, and the part of the last
  have hcl : (catD s.D (2 + l.ar * s.am) ((l.ln + 63) / 64)).length = 64 * ((l.ln + 63) / 64) := catD_len hn.is64 _ _ (by omega)
  have hq : (catD s.D (2 + l.ar * s.am) (l.ln / 64)).length = 64 * (l.ln / 64) := catD_len hn.is64 _ _ (by omega)
  have hpart : l.part s = (catD s.D (2 + l.ar * s.am + l.ln / 64) ((l.ln % 64 + 63) / 64)).take (l.ln % 64) := by unfold Lg.part; rw [cat_nil h.free.W, h.am]
  have hlog : joinL l.R = catD s.D (2 + l.ar * s.am) (l.ln / 64) ++ l.part s := by
    have e1 : (l.ln + 63) / 64 = l.ln / 64 + (l.ln % 64 + 63) / 64 := by omega
    have g := h.lies.log
    have e2 : (joinL l.R).length = l.ln := rfl
    rw [e2, e1, catD_add, List.take_append, hq, show l.ln - 64 * (l.ln / 64) = l.ln % 64 by omega, List.take_of_length_le (by rw [hq]; omega)] at g
    rw [hpart]
    exact g.symm
  have hpl : (l.part s).length = l.ln % 64 := by
    have := congrArg List.length hlog
    rw [List.length_append, hq] at this
    have e2 : (joinL l.R).length = l.ln := rfl
    omega
  have hpb : IsBytes (l.part s) := by
    have hb : IsBytes (joinL l.R) := joinL_bytes _ fun B hB => (hn.rb B hB).1
    rw [hlog] at hb
    exact bytes_of_mem fun x hx => bytes_mem hb x (List.mem_append_right _ hx)
  have hBl : (l.part s ++ joinL l.W).length = l.ln % 64 + (joinL l.W).length := by rw [List.length_append, hpl]
  obtain ⟨s', k1, k2, k3⟩ := mops_free h.free l.m l.no l.ar (l.ln / 64) (l.part s ++ joinL l.W) (bytes_app hpb hjl) (by rw [hBl, h.am]; omega) (by omega)
  rw [hBl, h.am] at k3
  have hlD : s'.D.length = s.D.length := by rw [k3, List.length_set, app_len]
  have ham' : s'.am = s.am := by unfold Ds.am; rw [hlD]
  have eln : (joinL (l.R ++ l.W)).length = l.ln + (joinL l.W).length := by rw [joinL_app, List.length_append]; rfl
  have e64 : 64 * (l.ln / 64) + (l.ln % 64 + (joinL l.W).length) = l.ln + (joinL l.W).length := by omega
  rw [e64] at k3
  have hoff : ∀ j, 2 ≤ j → s'.D[j]? = (app (wops (2 + l.ar * s.am + l.ln / 64) (l.part s ++ joinL l.W)) s.D)[j]? := fun j hj => by rw [k3, List.getElem?_set_ne (by omega)]
  refine ⟨s', ?_, ⟨k2, ⟨?_, by rw [hlD]; exact hlen, by rw [ham', hlD]; exact hmm, ⟨by show 1 ≤ l.no + 1; omega, by show l.no + 1 ≤ _; omega⟩, hn.aa, by show (joinL (l.R ++ l.W)).length ≤ 64 * s'.am; rw [eln, ham']; omega, fun B hB => ?_⟩, ⟨?_, fun b hb hk => ?_, ?_⟩, by show l.m = s'.am; rw [ham', h.am], h.lost, by show (joinL (l.R ++ l.W)).length + 0 ≤ 64 * l.m; rw [eln, h.am]; omega, fun B hB => by cases hB⟩, hlD⟩
  · unfold Lg.sync
    rw [if_neg (by rw [h.lost]; simp), if_neg hW, if_neg (by rw [h.free.up]; simp), k1, if_pos rfl]
  · rw [k3]
    intro x hx
    rcases List.mem_or_eq_of_mem_set hx with e | e
    · exact Is64.app _ _ hn.is64 (fun p hp => (wops_mem _ _ _ (Nat.le_refl _) (bytes_app hpb hjl) p hp).2) x e
    · rw [e]; exact ⟨hdB_len _ _ _, hdB_bytes _ _ _ (by have := hn.aa; omega)⟩
  · rcases List.mem_append.1 hB with e | e
    · exact hn.rb B e
    · exact h.wb B e
  · show s'.D[(l.no + 1) % 2]? = some (hdB (l.no + 1) l.ar (joinL (l.R ++ l.W)).length)
    rw [k3, List.getElem?_set_self (by rw [app_len]; omega), eln]
  · have hb' : s'.D[(l.no + 1 + 1) % 2]? = some b := hb
    rw [k3, List.getElem?_set_ne (by omega), app_wops_off _ _ _ _ (Nat.le_refl _) _ (.inl (by omega)), show (l.no + 1 + 1) % 2 = l.no % 2 by omega, h.lies.hd] at hb'
    obtain rfl := Option.some.inj hb'
    rw [(hd_nums l.no l.ar (joinL l.R).length (by omega) (by have e2 : (joinL l.R).length = l.ln := rfl; omega)).1]
    show l.no < l.no + 1
    omega
  · show (catD s'.D (2 + l.ar * s'.am) (((joinL (l.R ++ l.W)).length + 63) / 64)).take (joinL (l.R ++ l.W)).length = joinL (l.R ++ l.W)
    rw [ham', eln, joinL_app]
    have e1 : (l.ln + (joinL l.W).length + 63) / 64 = l.ln / 64 + ((l.part s ++ joinL l.W).length + 63) / 64 := by rw [hBl]; omega
    rw [e1, catD_add, catD_same _ _ (fun j h1 h2 => (hoff j (by omega)).trans (app_wops_off _ _ _ _ (Nat.le_refl _) j (.inl (by omega)))), List.take_append, hq, show l.ln + (joinL l.W).length - 64 * (l.ln / 64) = (l.part s ++ joinL l.W).length by rw [hBl]; omega, List.take_of_length_le (by rw [hq]; omega), catD_same _ _ (fun j h1 h2 => hoff j (by omega)), app_wops_cat _ _ _ _ (Nat.le_refl _) (by rw [hBl]; omega), ← List.append_assoc, ← hlog]
theorem gd_reset {s : Ds} {l : Lg} (h : Gd s l) (hno : l.no < 1152921504606846976) (hW : l.W = []) (recs : List (List Int)) (hb : ∀ B ∈ recs, IsBytes B) (hf : (frO recs (64 * l.m)).2 = 0) : ∃ s', l.reset s recs = (0, { l with no := l.no + 1, ar := 1 - l.ar, R := recs, W := [] }, s') ∧ Gd s' { l with no := l.no + 1, ar := 1 - l.ar, R := recs, W := [] } ∧ s'.D.length = s.D.length := by
  have hn := h.nums
  have hlen := hn.len
  have hmm := hn.mm
  obtain ⟨f1, f2, f3⟩ := frO_ok hf
  rw [h.am] at f2
  have har : (1 - l.ar) * s.am ≤ s.am := by have := hn.aa; rcases (by omega : l.ar = 0 ∨ l.ar = 1) with e | e <;> rw [e] <;> omega
  have hjl : IsBytes (joinL recs) := joinL_bytes _ hb
  obtain ⟨s', k1, k2, k3⟩ := mops_free h.free l.m l.no (1 - l.ar) 0 (joinL recs) hjl (by rw [h.am]; omega) (by omega)
  rw [h.am] at k3
  have hlD : s'.D.length = s.D.length := by rw [k3, List.length_set, app_len]
  have ham' : s'.am = s.am := by unfold Ds.am; rw [hlD]
  rw [show 64 * 0 + (joinL recs).length = (joinL recs).length by omega, Nat.add_zero] at k3
  have hoff : ∀ j, 2 ≤ j → s'.D[j]? = (app (wops (2 + (1 - l.ar) * s.am) (joinL recs)) s.D)[j]? := fun j hj => by rw [k3, List.getElem?_set_ne (by omega)]
  refine ⟨s', ?_, ⟨k2, ⟨?_, by rw [hlD]; exact hlen, by rw [ham', hlD]; exact hmm, ⟨by show 1 ≤ l.no + 1; omega, by show l.no + 1 ≤ _; omega⟩, by show 1 - l.ar ≤ 1; omega, by show (joinL recs).length ≤ 64 * s'.am; rw [ham']; omega, fun B hB => ⟨hb B hB, f3 B hB⟩⟩, ⟨?_, fun b hb2 hk => ?_, ?_⟩, by show l.m = s'.am; rw [ham', h.am], h.lost, by show (joinL recs).length + 0 ≤ 64 * l.m; rw [h.am]; omega, fun B hB => by cases hB⟩, hlD⟩
  · unfold Lg.reset
    rw [if_neg (by rw [h.lost]; simp), if_neg (by simpa using hW), if_neg (by simpa using hf), k1, if_pos rfl]
  · rw [k3]
    intro x hx
    rcases List.mem_or_eq_of_mem_set hx with e | e
    · exact Is64.app _ _ hn.is64 (fun p hp => (wops_mem _ _ _ (Nat.le_refl _) hjl p hp).2) x e
    · rw [e]; exact ⟨hdB_len _ _ _, hdB_bytes _ _ _ (by omega)⟩
  · show s'.D[(l.no + 1) % 2]? = some (hdB (l.no + 1) (1 - l.ar) (joinL recs).length)
    rw [k3, List.getElem?_set_self (by rw [app_len]; omega)]
  · have hb' : s'.D[(l.no + 1 + 1) % 2]? = some b := hb2
    rw [k3, List.getElem?_set_ne (by omega), app_wops_off _ _ _ _ (Nat.le_refl _) _ (.inl (by omega)), show (l.no + 1 + 1) % 2 = l.no % 2 by omega, h.lies.hd] at hb'
    obtain rfl := Option.some.inj hb'
    rw [(hd_nums l.no l.ar (joinL l.R).length (by omega) (by have := hn.ln; omega)).1]
    show l.no < l.no + 1
    omega
  · show (catD s'.D (2 + (1 - l.ar) * s'.am) (((joinL recs).length + 63) / 64)).take (joinL recs).length = joinL recs
    rw [ham', catD_same _ _ (fun j h1 h2 => hoff j (by omega)), app_wops_cat _ _ _ _ (Nat.le_refl _) (by omega)]
theorem gd_add {s : Ds} {l : Lg} (h : Gd s l) (rec : List Int) (hB : IsBytes rec) : Gd s (l.add rec).2 := by
  have hok : l.Ok l.no := ⟨by have := h.nums.len; have := h.nums.mm; rw [h.am]; omega, by omega, h.nums.aa, h.room, h.nums.rb, h.wb⟩
  have h2 := Lg.add_ok hok hB
  unfold Lg.add at h2 ⊢
  rw [if_neg (by rw [h.lost]; simp)] at h2 ⊢
  split
  · exact h
  · rename_i hx
    rw [if_neg hx] at h2
    exact ⟨h.free, h.nums, h.lies, h.am, h.lost, h2.room, h2.wb⟩
theorem crD_nil (keep : List Int) (D : List (List Int)) (W : Int → List (List Int)) (h : ∀ i, W i = []) : crD keep D W = D := by
  have : wb D.length W = [] := by
    apply List.eq_nil_iff_forall_not_mem.2
    intro i hi
    exact (mem_wb.1 hi).2 (h _)
  rw [crD, this]
  rfl
theorem gd_crash {s : Ds} {l : Lg} (h : Gd s l) (keep : List Int) : Gd (s.cr keep) l := by
  have e : (s.cr keep).D = s.D := crD_nil keep s.D s.W h.free.W
  have ea : (s.cr keep).am = s.am := by unfold Ds.am; rw [e]
  exact ⟨⟨rfl, rfl, fun _ => rfl⟩, by rw [ea, e]; exact h.nums, by rw [ea, e]; exact h.lies, by rw [ea]; exact h.am, h.lost, h.room, h.wb⟩
theorem gd_drop {s : Ds} {l : Lg} (h : Gd s l) : Gd s { l with W := [] } := ⟨h.free, h.nums, h.lies, h.am, h.lost, by have := h.room; show l.ln + 0 ≤ 64 * l.m; omega, fun B hB => by cases hB⟩
end Go.Proofs.YtcindeechmpalaaGreat
