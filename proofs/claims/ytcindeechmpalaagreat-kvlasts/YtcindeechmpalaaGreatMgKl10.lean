/- read: bytes of a log's area. Contract of frame.All. writeBytes. Written by gen_wb.py. writeHead, move. Written by gen_wh.py. -/
import Derived.Test.YtcindeechmpalaaGreatMgKl9
import Derived.Test.YtcindeechmpalaaGreatMgKl2
namespace Go.Proofs.YtcindeechmpalaaGreat
open Go.ChangeShapes Go.WideShapes Go.ChangeAt Go.RowKit Go.Deep Go.Maps
set_option linter.unusedVariables false
theorem wread_down (w : World) (F : Nat → Prop) (bd N : Nat) (s : Ds) (H : Dk w F bd N s) (hN : N ≤ 1000000) (hu : s.up = false) (bl m ar : Nat) (hm : m ≤ 4096) (ha : ar ≤ 1)
    (c0 : w.cell? ⟨bl, 0, none⟩ = some (.pointer (some ⟨bd, 0, none⟩))) (c1 : w.cell? ⟨bl, 1, none⟩ = some (.int .i64 (m : Int))) (c3 : w.cell? ⟨bl, 3, none⟩ = some (.int .i64 (ar : Int)))
    (fr n : Nat) (hf : fr ≤ 1000000) (hn : n ≤ 1000000) (h0 : 0 < n) :
    Calls Tryz.prog 111 #[.pointer (some ⟨bl, 0, none⟩), .int .i64 (fr : Int), .int .i64 (n : Int)] w fun e w' => e = .returned (.tuple #[.slice none 0 0, .int .i64 15]) ∧ Below w.heap.size w w' := by
  have KS : Hid (Calls Tryz.prog 116 #[.pointer (some ⟨bl, 0, none⟩), .int .i64 (ar : Int)] w fun e w' => e = .returned (.int .i64 ((2 + ar * m : Nat) : Int)) ∧ w' = w) := wstart_is w bl m hm c1 ar ha
  have hsm : 2 + ar * m ≤ 5000 := by rcases (by omega : ar = 0 ∨ ar = 1) with rfl | rfl <;> omega
  have KR : Hid (∀ i : Int, Calls Tryz.prog 102 #[.pointer (some ⟨bd, 0, none⟩), .int .i64 i] w fun e w' => ∃ a n c, e = .returned (.tuple #[.slice a n c, .int .i64 15]) ∧ Below w.heap.size w w') := fun i => by
    refine (dk_read w F bd N s H hN i).mono ?_
    rintro e w' ⟨a, n, c, he, _, _, hb⟩
    rw [Ds.rd_down s hu] at he
    exact ⟨a, n, c, he, hb⟩
  generalize 2 + ar * m = st at *
  have e1 : (0 : Int) < (n : Int) := by omega
  clear c1
  go_enter Tryz.func111, Tryz.ntmps111
  go_wp2_with fail
  refine KS.out.mono ?_
  rintro e w1 ⟨rfl, rfl⟩
  go_wp2_with fail
  go_loopg [8, 9] 1 (fun g v i wr => v = .slice none 0 0 ∧ i = .int .i64 ((st : Int) + fr) ∧ wr = w1)
  case atStart => exact ⟨rfl, rfl, rfl⟩
  case round =>
    obtain ⟨rfl, rfl, rfl⟩ := hrel
    go_wp2_with fail
    refine (KR.out _).mono ?_
    rintro e w2 ⟨a, n', c, rfl, hb⟩
    have HB : Hid (Below wr.heap.size wr w2) := hb
    clear hb
    go_wp2_with fail
    go_ret2
    exact ⟨rfl, HB.out⟩
theorem wread_zero (w : World) (F : Nat → Prop) (bd N : Nat) (s : Ds) (H : Dk w F bd N s) (bl m ar : Nat) (hm : m ≤ 4096) (ha : ar ≤ 1)
    (c0 : w.cell? ⟨bl, 0, none⟩ = some (.pointer (some ⟨bd, 0, none⟩))) (c1 : w.cell? ⟨bl, 1, none⟩ = some (.int .i64 (m : Int))) (c3 : w.cell? ⟨bl, 3, none⟩ = some (.int .i64 (ar : Int))) (fr : Nat) (hf : fr ≤ 1000000) :
    Calls Tryz.prog 111 #[.pointer (some ⟨bl, 0, none⟩), .int .i64 (fr : Int), .int .i64 ((0 : Nat) : Int)] w fun e w' => e = .returned (.tuple #[.slice none 0 0, .int .i64 0]) ∧ Below w.heap.size w w' := by
  have KS : Hid (Calls Tryz.prog 116 #[.pointer (some ⟨bl, 0, none⟩), .int .i64 (ar : Int)] w fun e w' => e = .returned (.int .i64 ((2 + ar * m : Nat) : Int)) ∧ w' = w) := wstart_is w bl m hm c1 ar ha
  have hsm : 2 + ar * m ≤ 5000 := by rcases (by omega : ar = 0 ∨ ar = 1) with rfl | rfl <;> omega
  generalize 2 + ar * m = st at *
  clear c1
  go_enter Tryz.func111, Tryz.ntmps111
  go_wp2_with fail
  refine KS.out.mono ?_
  rintro e w1 ⟨rfl, rfl⟩
  go_wp2_with fail
  go_loopg [8, 9] 1 (fun g v i wr => v = .slice none 0 0 ∧ i = .int .i64 ((st : Int) + fr) ∧ wr = w1)
  case atStart => exact ⟨rfl, rfl, rfl⟩
  case round =>
    obtain ⟨rfl, rfl, rfl⟩ := hrel
    go_wp2_with fail
    go_ret2
    exact ⟨rfl, Below.refl _ _⟩
set_option maxHeartbeats 1000000 in
theorem wread_is (w : World) (F : Nat → Prop) (bd N : Nat) (s : Ds) (H : Dk w F bd N s) (hN : N ≤ 1000000) (hu : s.up = true) (bl m ar : Nat) (hm : m ≤ 4096) (ha : ar ≤ 1)
    (c0 : w.cell? ⟨bl, 0, none⟩ = some (.pointer (some ⟨bd, 0, none⟩))) (c1 : w.cell? ⟨bl, 1, none⟩ = some (.int .i64 (m : Int))) (c3 : w.cell? ⟨bl, 3, none⟩ = some (.int .i64 (ar : Int)))
    (fr n : Nat) (hn : n ≤ 1000000) (hfit : 2 + ar * m + fr + (n + 63) / 64 ≤ s.D.length) :
    Calls Tryz.prog 111 #[.pointer (some ⟨bl, 0, none⟩), .int .i64 (fr : Int), .int .i64 (n : Int)] w fun e w' => ∃ a, e = .returned (.tuple #[.slice a n n, .int .i64 0]) ∧ Holds w' a ((s.cat (2 + ar * m + fr) ((n + 63) / 64)).take n) ∧ (a = none → n = 0) ∧ (∀ x, a = some x → w.heap.size ≤ x.block ∧ x.block < w'.heap.size) ∧ Below w.heap.size w w' := by
  have KS : Hid (Calls Tryz.prog 116 #[.pointer (some ⟨bl, 0, none⟩), .int .i64 (ar : Int)] w fun e w' => e = .returned (.int .i64 ((2 + ar * m : Nat) : Int)) ∧ w' = w) := wstart_is w bl m hm c1 ar ha
  have hD := H.is64.2.2
  have hsm : 2 + ar * m ≤ 5000 := by rcases (by omega : ar = 0 ∨ ar = 1) with rfl | rfl <;> omega
  have HD : Hid (Dk w F bd N s) := H
  have hbl := World.block_lt_of_cell? _ _ c0
  generalize 2 + ar * m = st at *
  obtain ⟨q, hq⟩ : ∃ q, q = (n + 63) / 64 := ⟨_, rfl⟩
  have HQ : Hid (q = (n + 63) / 64) := hq
  have KR : Hid (∀ (wr : World) (j : Nat), j < q → Below w.heap.size w wr → Calls Tryz.prog 102 #[.pointer (some ⟨bd, 0, none⟩), .int .i64 ((st : Int) + fr + j)] wr fun e w' => ∃ a c, e = .returned (.tuple #[.slice a 64 c, .int .i64 0]) ∧ Owned w' wr.heap.size (.slice a 64 c) (s.cur (st + fr + j)) ∧ Below wr.heap.size wr w') := fun wr j hj hb => by
    have hi : st + fr + j < s.D.length := by omega
    have e : ((st : Int) + fr + j) = ((st + fr + j : Nat) : Int) := by omega
    rw [e]
    refine (dk_read wr F bd N s (H.keep hb) hN _).mono ?_
    rintro e w' ⟨a, n, c, he, hl, ho, hb⟩
    rw [Ds.rd_up s hu _ hi] at he hl ho
    obtain rfl : 64 = n := (cur_64 H _ hi).1.symm.trans hl
    exact ⟨a, c, he, ho, hb⟩
  have CL : Hid (∀ j, j ≤ q → (s.cat (st + fr) j).length = 64 * j) := fun j hj => (cat_64 H j (st + fr) (by omega)).1
  have hq1 : q ≤ 15626 := by omega
  have HW : Hid (w.cell? ⟨bl, 0, none⟩ = some (.pointer (some ⟨bd, 0, none⟩))) := c0
  rw [← hq]
  clear hq c1 H c0
  obtain ⟨h, hh⟩ : ∃ h, h = w.heap.size := ⟨_, rfl⟩
  have HH : Hid (h = w.heap.size) := hh
  clear hh
  have c0 := HW.out
  go_enter Tryz.func111, Tryz.ntmps111
  go_wp2_with fail
  refine KS.out.mono ?_
  rintro e w1 ⟨rfl, rfl⟩
  clear c0 c3 KS
  go_wp2_with fail
  go_loopg [8, 9] (q + 1) (fun g v i wr => ∃ (j : Nat) (a : Option Addr) (c : Nat), j ≤ q ∧ g = q + 1 - j ∧ v = .slice a (64 * j) c ∧ i = .int .i64 ((st : Int) + fr + j) ∧ Hid (Owned wr h v (s.cat (st + fr) j)) ∧ Hid (Below h w1 wr))
  case atStart => exact ⟨0, none, 0, Nat.zero_le _, rfl, rfl, by simp, World.ownsRow_nil _ _ _ _, Below.refl _ _⟩
  case round =>
    obtain ⟨j, a, c, hj, rfl, rfl, rfl, HO, HB⟩ := hrel
    have hsz := HB.out.size
    have HBw : Hid (Below w1.heap.size w1 wr) := by show Below _ _ _; rw [← HH.out]; exact HB.out
    by_cases hlt : 64 * j < n
    · have hjq : j < q := by have := HQ.out; omega
      have i1 : (64 * (j : Int)) < (n : Int) := by omega
      have c0 : wr.cell? ⟨bl, 0, none⟩ = some (.pointer (some ⟨bd, 0, none⟩)) := (HBw.out.cell (p := ⟨bl, 0, none⟩) hbl).trans HW.out
      have K := KR.out wr j hjq HBw.out
      have K2 : Hid (Calls Tryz.prog 102 #[.pointer (some ⟨bd, 0, none⟩), .int .i64 ((st : Int) + fr + j)] wr fun e w' => ∃ a c, e = .returned (.tuple #[.slice a 64 c, .int .i64 0]) ∧ Owned w' wr.heap.size (.slice a 64 c) (s.cur (st + fr + j)) ∧ Below wr.heap.size wr w') := K
      clear K
      go_wp2_with fail
      refine K2.out.mono ?_
      rintro e w2 ⟨a2, c2, rfl, ho2, hb2⟩
      have hs2 := hb2.size
      have O1 : Hid (Owned w2 h (.slice a (64 * j) c) (s.cat (st + fr) j)) := HO.out.below hb2 (Owned.lt' HO.out)
      have O2 : Hid (Holds w2 a2 (s.cur (st + fr + j)) ∧ (s.cur (st + fr + j)).length = 64 ∧ (a2 = none → c2 = 0)) := ho2.holds
      have B2 : Hid (Below h w1 w2) := HB.out.trans (hb2.mono (by rw [HH.out]; exact hsz))
      have HC : Hid (s.cat (st + fr) (j + 1) = s.cat (st + fr) j ++ s.cur (st + fr + j)) := Ds.cat_snoc s j (st + fr)
      have hl1 := CL.out j hj
      have HL1 : Hid ((s.cat (st + fr) j).length = 64 * j) := hl1
      have hhw : h ≤ w2.heap.size := by rw [HH.out]; omega
      clear ho2 hb2 HO HB HBw K2 hl1 c0
      go_wp2_with (at_builtin; refine append_bytes rfl (.tmp 39) (.tmp 40) rfl h _ (s.cat (st + fr) j) rfl O1.out _ _ _ (s.cur (st + fr + j)) rfl O2.out.2.1 O2.out.1 O2.out.2.2 (64 * (j + 1)) (by rw [HL1.out]; omega) (by omega) hhw ?_; intro a3 c3 w3 hown3 hbel3; have O3 : Hid (Owned w3 h (.slice a3 (64 * (j + 1)) c3) (s.cat (st + fr) (j + 1))) := (by rw [HC.out]; exact hown3); have B3 : Hid (Below h w1 w3) := (B2.out.trans hbel3); clear hown3 hbel3)
      go_roundg (q + 1 - (j + 1))
      case measure => omega
      case rel => exact ⟨j + 1, a3, c3, by omega, rfl, rfl, by go_num, O3, B3⟩
    · have hjq : j = q := by have := HQ.out; omega
      subst hjq
      have i1 : ¬ (64 * (j : Int)) < (n : Int) := by omega
      have hcap := HO.out.cap
      have hlt' := Owned.lt_size HO.out
      have HO2 := HO.out.holds
      have hblk := Owned.block HO.out
      have j1 : (0 : Int) ≤ (n : Int) := by omega
      have j2 : (n : Int) ≤ (c : Int) := by have := HQ.out; omega
      have j3 : n ≤ c := by omega
      go_wp2_with fail
      go_ret2
      exact ⟨a, rfl, HO2.1.take n, fun e => by have := HO2.2.2 e; omega, fun x e => ⟨by rw [← HH.out]; exact hblk x.block (by rw [e]; rfl), hlt' x e⟩, by rw [← HH.out]; exact HB.out⟩
end Go.Proofs.YtcindeechmpalaaGreat
namespace Go.Proofs.YtcindeechmpalaaGreat
open Go.ChangeShapes Go.WideShapes Go.ChangeAt Go.RowKit Go.Deep
set_option linter.unusedVariables false
/-- All's answer of bytes -/
def AllSaid (w : World) (n : Nat) (L : List Int) (e : Ending) (w' : World) : Prop :=
  ∃ v vs, e = .returned (.tuple #[v, .int .i64 (al n L).2.1, .int .i64 (al n L).2.2]) ∧ Rows2 w' w.heap.size v vs ∧ Bods w' w.heap.size vs (al n L).1 w'.heap.size ∧ Below w.heap.size w w'
theorem drop_ne (L : List Int) (p : Nat) (h : p < L.length) : L.drop p ≠ [] := by
  intro e
  have := congrArg List.length e
  rw [List.length_drop] at this
  simp at this
  omega
set_option maxHeartbeats 1000000 in
theorem all_is (w : World) (n c : Nat) (a : Option Addr) (L : List Int) (hl : L.length = n) (hB : IsBytes L) (hh : Holds w a L) (hlt : ∀ x, a = some x → L ≠ [] → x.block < w.heap.size) (hnc : n ≤ c) (hc : c ≤ 9223372036854775807) (hn : n ≤ 1099511627776) :
    Calls Tryz.prog 132 #[.slice a n c] w (AllSaid w n L) := by
  have HL : Hid (Holds w a L) := hh
  have HT : Hid (∀ x, a = some x → L ≠ [] → x.block < w.heap.size) := hlt
  have HB : Hid (IsBytes L) := hB
  clear hh hlt hB
  go_enter Tryz.func132, Tryz.ntmps132
  go_wp2
  obtain ⟨h, hh⟩ : ∃ h, h = w.heap.size := ⟨_, rfl⟩
  have HH : Hid (h = w.heap.size) := hh
  clear hh
  go_loopg [2, 3] n (fun gh v i wr => ∃ (p f : Nat) (Bs : List (List Int)) (vs : List Value), p ≤ n ∧ n ≤ p + f ∧ gh = n - p ∧ i = .int .i64 p ∧ 8 * Bs.length ≤ p ∧ Hid (Rows2 wr h v vs) ∧ Hid (Bods wr h vs Bs wr.heap.size) ∧ Hid (Below h w wr) ∧ Hid (al n L = (Bs ++ (al f (L.drop p)).1, p + (al f (L.drop p)).2.1, (al f (L.drop p)).2.2)))
  case atStart => exact ⟨0, n, [], [], Nat.zero_le _, by omega, rfl, rfl, by simp, World.ownsRow_nil _ _ _ _, by show h ≤ w.heap.size; rw [HH.out]; exact Nat.le_refl _, Below.refl _ _, by show _ = _; simp⟩
  case round =>
    obtain ⟨p, f, Bs, vs, hp, hf, rfl, rfl, hk, HR, HBo, HBW, HA⟩ := hrel
    by_cases hpn : p < n
    · obtain ⟨b, off, rfl, hcell⟩ : ∃ b off, a = some ⟨b, off, none⟩ ∧ ∀ i, i < L.length → w.cell? ⟨b, off + i, none⟩ = some (.int .u8 (L.getD i 0)) := by
        rcases HL.out with rfl | g
        · simp at hl; omega
        · exact g
      clear hcell
      have i1 : ((p : Int) < (n : Int)) := by omega
      have i2 : ¬ c = p := by omega
      have hbw : b < w.heap.size := HT.out _ rfl (fun e => by subst e; simp at hl; omega)
      have hsz := HBW.out.size
      have HP : Hid (Holds wr (some ⟨b, off + p, none⟩) (L.drop p)) := by
        have h1 := (HL.out.below (show Below w.heap.size w wr by rw [← HH.out]; exact HBW.out) HT.out).drop p
        show Holds _ _ _
        simpa [add_plain] using h1
      have hld : (L.drop p).length = n - p := by rw [List.length_drop, hl]
      have hbd : IsBytes (L.drop p) := bytes_of_mem fun x hx => bytes_mem HB.out x (List.mem_of_mem_drop hx)
      have KR : Hid (Calls Tryz.prog 163 #[.slice (some ⟨b, off + p, none⟩) (n - p) (c - p)] wr (ReadSaid wr (L.drop p))) :=
        read_is wr (n - p) (c - p) _ (L.drop p) hld hbd HP.out (fun x hx _ => by simp at hx; subst hx; show b < _; omega) (by omega) (by omega) (by omega)
      have hne : L.drop p ≠ [] := drop_ne L p (by omega)
      obtain ⟨f', rfl⟩ : ∃ f', f = f' + 1 := ⟨f - 1, by omega⟩
      have n1 : ((p : Int)).toNat = p := by omega
      go_wp2_with fail
      refine KR.out.mono ?_
      rintro e w1 ⟨a1, m, rfl, hm, ho1, hb1⟩
      have hs1 := hb1.size
      have B1 : Hid (Below h w w1) := HBW.out.trans (hb1.mono (by rw [HH.out]; exact hsz))
      by_cases he : (rd (L.drop p)).2.2 = 0
      · have hal := HA.out
        rw [al_step f' _ hne he] at hal
        obtain ⟨r1, r2, r3⟩ := rd_ok _ he
        rw [hld] at r2
        have O1 : Hid (Owned w1 wr.heap.size (.slice a1 m m) (rd (L.drop p)).1) := ho1
        have R1 : Hid (Rows2 (w1.alloc (.cells #[.slice a1 m m] 86)) h u2 vs) := (HR.out.below hb1 HR.out.lt).below ((Below.refl w1.heap.size w1).alloc (Nat.le_refl _) _) (fun k hk => Nat.lt_of_lt_of_le (HR.out.lt k hk) hs1)
        have D1 : Hid (Bods w1 h vs Bs wr.heap.size) := HBo.out.below hb1 (Nat.le_refl _)
        have LT1 : Hid (∀ k, Value.ownBlock (.slice a1 m m) = some k → k < w1.heap.size) := Owned.lt' ho1
        rw [List.drop_drop] at hal
        have HAL : Hid (al n L = (Bs ++ (rd (L.drop p)).1 :: (al f' (L.drop (p + (rd (L.drop p)).2.1))).1, p + ((rd (L.drop p)).2.1 + (al f' (L.drop (p + (rd (L.drop p)).2.1))).2.1), (al f' (L.drop (p + (rd (L.drop p)).2.1))).2.2)) := hal
        have HM : Hid ((rd (L.drop p)).1.length = m) := hm
        have C1 : Hid ((w1.alloc (.cells #[.slice a1 m m] 86)).cell? ⟨w1.heap.size, 0, none⟩ = some (.slice a1 m m)) := by
          show _ = _
          rw [cell_of_row _ w1.heap.size 0 _ _ (0, 0) (heap_alloc_new w1 _)]
          rfl
        have hvl : vs.length = Bs.length := HBo.out.len
        have hhw : h ≤ w1.heap.size := by rw [HH.out]; omega
        have hhr : h ≤ wr.heap.size := by rw [HH.out]; omega
        rw [he]
        generalize (rd (L.drop p)).2.1 = k at *
        generalize (rd (L.drop p)).1 = B at *
        clear hal HA ho1 hb1 HR HBo HBW KR hm he hne hbd HP
        go_wp2_with (at_builtin; refine append_row rfl (.tmp 25) (.tmp 27) rfl h _ vs rfl R1.out ⟨w1.heap.size, 0, none⟩ (.slice a1 m m) rfl rfl C1.out (by omega) (by simp; omega) ?_; intro v3 w3 hr3 hb3 hk3; have R3 : Hid (Rows2 w3 h v3 (vs ++ [.slice a1 m m])) := hr3; have B3 : Hid (Below h (w1.alloc (.cells #[.slice a1 m m] 86)) w3) := hb3; have K3 : Hid (∀ g cur, g < (w1.alloc (.cells #[.slice a1 m m] 86)).heap.size → (w1.alloc (.cells #[.slice a1 m m] 86)).heap[g]? = some (.cells cur 5 (0, 0)) → w3.heap[g]? = (w1.alloc (.cells #[.slice a1 m m] 86)).heap[g]?) := hk3; clear hr3 hb3 hk3)
        go_roundg (n - (p + k))
        case measure => omega
        case rel =>
          have al1 : Below w1.heap.size w1 (w1.alloc (.cells #[.slice a1 m m] 86)) := (Below.refl _ _).alloc (Nat.le_refl _) _
          have hs3 := B3.out.size
          have hs1' : (w1.alloc (.cells #[.slice a1 m m] 86)).heap.size = w1.heap.size + 1 := by simp
          have keep : ∀ g cur, g < w1.heap.size → w1.heap[g]? = some (.cells cur 5 (0, 0)) → w3.heap[g]? = w1.heap[g]? := by
            intro g cur hg hgc
            have e1 := al1.block g hg
            rw [K3.out g cur (by omega) (e1.trans hgc), e1]
          have d3 : Bods w3 h vs Bs wr.heap.size := D1.out.same (fun g cur _ g2 hgc => keep g cur (by omega) hgc)
          have o3 : Owned w3 wr.heap.size (.slice a1 m m) B := owned_same O1.out LT1.out (fun g cur _ g2 hgc => keep g cur g2 hgc)
          refine ⟨p + k, f', Bs ++ [B], vs ++ [.slice a1 m m], by omega, by omega, rfl, by go_num, by simp; omega, R3, ?_, ?_, ?_⟩
          · exact d3.snoc (a := a1) (by rw [HM.out]) o3 (fun j hj => Nat.lt_of_lt_of_le (LT1.out j hj) (by omega)) (by omega)
          · exact B1.out.trans ((al1.mono hhw).trans B3.out)
          · show _ = _
            rw [HAL.out]
            simp [Nat.add_assoc]
      · have hal := HA.out
        rw [al_bad f' _ hne he] at hal
        have HAL : Hid (al n L = (Bs ++ [], p + 0, (rd (L.drop p)).2.2)) := hal
        have R1 : Hid (Rows2 w1 h u2 vs) := HR.out.below hb1 HR.out.lt
        have D1 : Hid (Bods w1 h vs Bs w1.heap.size) := by
          have d := HBo.out.below hb1 (Nat.le_refl _)
          exact Bods.weaken hs1 d
        have e9 : (((rd (L.drop p)).2.2 : Nat) : Int) ≠ 0 := by omega
        generalize (rd (L.drop p)).2.2 = E at *
        clear hal HA ho1 hb1 HR HBo HBW KR hm he hne hbd HP
        go_wp2
        go_ret3
        refine ⟨u2, vs, ?_, ?_, ?_, ?_⟩
        · rw [HAL.out]; rfl
        · rw [← HH.out]; exact R1.out
        · rw [HAL.out, ← HH.out, List.append_nil]; exact D1.out
        · rw [← HH.out]; exact B1.out
    · have e : p = n := by omega
      subst e
      have i1 : ¬ ((p : Int) < (p : Int)) := by omega
      have hal := HA.out
      rw [List.drop_of_length_le (by omega), al_nil] at hal
      have HAL : Hid (al p L = (Bs ++ [], p + 0, 0)) := hal
      clear hal HA
      go_wp2
      go_ret3
      refine ⟨u2, vs, ?_, ?_, ?_, ?_⟩
      · rw [HAL.out]; rfl
      · rw [← HH.out]; exact HR.out
      · rw [HAL.out, ← HH.out, List.append_nil]; exact HBo.out
      · rw [← HH.out]; exact HBW.out
end Go.Proofs.YtcindeechmpalaaGreat
namespace Go.Proofs.YtcindeechmpalaaGreat
open Go.ChangeShapes Go.WideShapes Go.ChangeAt Go.RowKit Go.Deep Go.Maps
set_option linter.unusedVariables false
theorem Dk.stepW {w w' : World} {F : Nat → Prop} {b N : Nat} {s : Ds} (H : Dk w F b N s) (hb : Below w.heap.size w w') : Dk w' F b N s ∧ Step F F w w' := ⟨H.keep hb, Off.ofBelow F hb, fun _ hk => .inl hk⟩
theorem Step.trans {F G H : Nat → Prop} {w w1 w2 : World} (h : Step F G w w1) (k : Step G H w1 w2) : Step F H w w2 := by
  refine ⟨h.off.trans k.off (fun i hi => ?_), fun i hi => ?_⟩
  · rcases h.sub i hi with e | e
    · exact .inl e
    · exact .inr e
  · rcases k.sub i hi with e | e
    · exact h.sub i e
    · exact .inr (Nat.le_trans h.off.size e)
/-- bytes that are nobody's stay -/
theorem Holds.step {w w' : World} {a : Option Addr} {L : List Int} {F F' : Nat → Prop} (h : Holds w a L) (hs : Step F F' w w') (hlt : ∀ x, a = some x → L ≠ [] → x.block < w.heap.size ∧ ¬ F x.block) : Holds w' a L := by
  rcases h with rfl | ⟨b, off, rfl, hc⟩
  · exact .inl rfl
  · refine .inr ⟨b, off, rfl, fun i hi => ?_⟩
    have hne : L ≠ [] := fun e => by subst e; simp at hi
    have := hlt _ rfl hne
    rw [World.cell?_of_block (a := ⟨b, off + i, none⟩) (hs.off.block b this.1 this.2)]
    exact hc i hi
theorem cell_step {w w' : World} {F F' : Nat → Prop} {b i : Nat} {v : Value} (hs : Step F F' w w') (hF : ¬ F b) (h : w.cell? ⟨b, i, none⟩ = some v) : w'.cell? ⟨b, i, none⟩ = some v := (World.cell?_of_block (a := ⟨b, i, none⟩) (hs.off.block b (World.block_lt_of_cell? _ _ h) hF)).trans h
set_option maxRecDepth 100000 in
set_option maxHeartbeats 4000000 in
theorem writeBytes_is (w : World) (F : Nat → Prop) (bd N : Nat) (s : Ds) (H : Dk w F bd N s) (bl : Nat) (hF : ¬ F bl) (c0 : w.cell? ⟨bl, 0, none⟩ = some (.pointer (some ⟨bd, 0, none⟩))) (at_ : Nat) (hat : at_ ≤ 1000000)
    (a : Option Addr) (n c : Nat) (B : List Int) (hn : B.length = n) (hB : IsBytes B) (hh : Holds w a B) (hlt : ∀ x, a = some x → B ≠ [] → x.block < w.heap.size ∧ ¬ F x.block) (hc : n ≤ c ∧ c ≤ 9223372036854775807) (hN : N + (n + 63) / 64 < 1000000) :
    Calls Tryz.prog 115 #[.pointer (some ⟨bl, 0, none⟩), .int .i64 (at_ : Int), .slice a n c] w fun e w' => e = .returned (.int .i64 (s.run (wops at_ B ++ [none])).1) ∧ ∃ F', Dk w' F' bd (N + (n + 63) / 64 + 1) (s.run (wops at_ B ++ [none])).2 ∧ Step F F' w w' := by
  have HD : Hid (Dk w F bd N s) := H
  have HC : Hid (w.cell? ⟨bl, 0, none⟩ = some (.pointer (some ⟨bd, 0, none⟩))) := c0
  have HB : Hid (IsBytes B) := hB
  have HL : Hid (Holds w a B) := hh
  have HT : Hid (∀ x, a = some x → B ≠ [] → x.block < w.heap.size ∧ ¬ F x.block) := hlt
  have HF : Hid (¬ F bl) := hF
  obtain ⟨R, hR⟩ : ∃ R, R = s.run (wops at_ B ++ [none]) := ⟨_, rfl⟩
  rw [← hR]
  have HR : Hid (R = s.run (wops at_ B ++ [none])) := hR
  clear H c0 hB hh hlt hR hF
  go_enter Tryz.func115, Tryz.ntmps115
  go_wp2_with fail
  go_loopg [1, 7] (n + 64) (fun g v i wr => ∃ (j : Nat) (F1 : Nat → Prop) (s1 : Ds), 64 * j ≤ n + 63 ∧ g = n + 64 - 64 * j ∧ v = .int .i64 ((at_ : Int) + j) ∧ i = .int .i64 (64 * (j : Int)) ∧ Hid (Dk wr F1 bd (N + j) s1) ∧ Hid (Step F F1 w wr) ∧ Hid (R = s1.run (wops (at_ + j) (B.drop (64 * j)) ++ [none])))
  case atStart => exact ⟨0, F, s, by omega, by omega, by simp, by simp, HD, Step.refl F w, by show _ = _; simpa using HR.out⟩
  case round =>
    obtain ⟨j, F1, s1, hj, rfl, rfl, rfl, HD1, HS1, HR1⟩ := hrel
    have HF1 : Hid (¬ F1 bl) := fun e => by
      rcases HS1.out.sub bl e with h1 | h1
      · exact HF.out h1
      · have := World.block_lt_of_cell? _ _ HC.out; exact absurd this (by show ¬ bl < w.heap.size; omega)
    have c0 : wr.cell? ⟨bl, 0, none⟩ = some (.pointer (some ⟨bd, 0, none⟩)) := cell_step HS1.out HF.out HC.out
    by_cases hlt : 64 * j < n
    · obtain ⟨g, off, rfl, hcell⟩ : ∃ b off, a = some ⟨b, off, none⟩ ∧ ∀ i, i < B.length → w.cell? ⟨b, off + i, none⟩ = some (.int .u8 (B.getD i 0)) := by
        rcases HL.out with rfl | h
        · simp at hn; omega
        · exact h
      clear hcell
      have hne : B ≠ [] := fun e => by subst e; simp at hn; omega
      have hg := HT.out _ rfl hne
      have hgF1 : ¬ F1 g := fun e => by
        rcases HS1.out.sub g e with h1 | h1
        · exact hg.2 h1
        · have := hg.1; exact absurd h1 (by show ¬ w.heap.size ≤ g; have : g < w.heap.size := hg.1; omega)
      have hgw : g < wr.heap.size := Nat.lt_of_lt_of_le hg.1 HS1.out.off.size
      have hdn : (B.drop (64 * j)).length = n - 64 * j := by rw [List.length_drop, hn]
      have hdne : B.drop (64 * j) ≠ [] := drop_ne B (64 * j) (by omega)
      obtain ⟨z, hz⟩ : ∃ z, z = min 64 (n - 64 * j) := ⟨_, rfl⟩
      have hzl : ((B.drop (64 * j)).take 64).length = z := by rw [List.length_take, hdn, hz]
      have hz1 : 0 < z ∧ z ≤ 64 := by omega
      have hzz : 64 * j + z ≤ n ∧ (z = 64 ∨ 64 * j + z = n) := by omega
      have HP : Hid (Holds wr (some ⟨g, off + 64 * j, none⟩) ((B.drop (64 * j)).take 64)) := by
        have h1 := ((HL.out.step HS1.out HT.out).drop (64 * j)).take 64
        show Holds _ _ _
        simpa [add_plain] using h1
      have hpb : IsBytes ((B.drop (64 * j)).take 64) := bytes_of_mem fun x hx => bytes_mem HB.out x (List.mem_of_mem_drop (List.mem_of_mem_take hx))
      have hpad : pad64 ((B.drop (64 * j)).take 64) = (B.drop (64 * j)).take 64 ++ List.replicate (64 - z) 0 := by unfold pad64; rw [hzl]
      have h64 : (pad64 ((B.drop (64 * j)).take 64)).length = 64 := pad64_len (by omega)
      have hpb2 := pad64_bytes hpb
      have HR2 : Hid (R = if (s1.wr ((at_ + j : Nat) : Int) (pad64 ((B.drop (64 * j)).take 64))).1 ≠ 0 then s1.wr ((at_ + j : Nat) : Int) (pad64 ((B.drop (64 * j)).take 64)) else (s1.wr ((at_ + j : Nat) : Int) (pad64 ((B.drop (64 * j)).take 64))).2.run (wops (at_ + (j + 1)) (B.drop (64 * (j + 1))) ++ [none])) := by
        show _ = _
        rw [HR1.out, wops_cons _ _ hdne, List.cons_append, Ds.run_cons, List.drop_drop]
        rfl
      have HZ : Hid (((B.drop (64 * j)).take 64).length = z) := hzl
      have KW : Hid (∀ (u : World) (x : Addr) (cp : Nat), Dk u F1 bd (N + j) s1 → Holds u (some x) (pad64 ((B.drop (64 * j)).take 64)) → (x.block = g ∨ wr.heap.size ≤ x.block) → Calls Tryz.prog 128 #[.pointer (some ⟨bd, 0, none⟩), .int .i64 ((at_ : Int) + j), .slice (some x) 64 cp] u fun e w' => e = .returned (.int .i64 (s1.wr ((at_ + j : Nat) : Int) (pad64 ((B.drop (64 * j)).take 64))).1) ∧ ∃ F', Dk w' F' bd (N + j + 1) (s1.wr ((at_ + j : Nat) : Int) (pad64 ((B.drop (64 * j)).take 64))).2 ∧ Step F1 F' u w') := fun u x cp hd hh hx => by
        have e : ((at_ : Int) + j) = ((at_ + j : Nat) : Int) := by omega
        rw [e]
        refine dk_write u F1 bd (N + j) s1 hd (by omega) _ (some x) 64 cp _ h64 hpb2 hh (fun y hy _ hyb => ?_)
        obtain rfl := Option.some.inj hy
        rcases hx with h1 | h1
        · exact hgF1 (by rw [← h1, hyb]; exact hd.b)
        · have := HD1.out.lt bd HD1.out.b; omega
      have HPAD : Hid (pad64 ((B.drop (64 * j)).take 64) = (B.drop (64 * j)).take 64 ++ List.replicate (64 - z) 0) := hpad
      have e64 : (64 : Int) - (z : Int) = ((64 - z : Nat) : Int) := by omega
      have E64 : Hid ((64 : Int) - (z : Int) = ((64 - z : Nat) : Int)) := e64
      clear hpad hpb hpb2 h64 hdn hzl hne e64 hz
      generalize pad64 ((B.drop (64 * j)).take 64) = X at *
      generalize (B.drop (64 * j)).take 64 = Y at *
      obtain ⟨sw, hsw⟩ : ∃ sw, sw = s1.wr ((at_ + j : Nat) : Int) X := ⟨_, rfl⟩
      rw [← hsw] at KW HR2
      clear hsw HR1
      have i1 : (64 * (j : Int)) < (n : Int) := by omega
      have i2 : ¬ c = 64 * j := by omega
      have i3 : (64 * (j : Int)) ≤ (64 * (j : Int)) + z := by omega
      have mn : min (64 * (j : Int) + 64) (n : Int) = 64 * (j : Int) + z := by omega
      have i4 : (64 * (j : Int)) + z ≤ (c : Int) := by omega
      have n1 : (64 * (j : Int)).toNat = 64 * j := by omega
      have n2 : (64 * (j : Int) + z).toNat = 64 * j + z := by omega
      have n3 : 64 * j + z - 64 * j = z := by omega
      have i5 : ¬ 64 * j + z = 64 * j := by omega
      go_wp2_with fail
      refine wp_region_noPanic ?_
      refine wp_region_held_drew (S := (fun u : World => u.cell? ⟨bl, 0, none⟩ = some (.pointer (some ⟨bd, 0, none⟩)))) (by kernel_rfl) ?hSaw (fun hHeld => ?restaw)
      case hSaw => exact c0
      case restaw =>
      have DR : Hid (Below wr.heap.size wr wr.drew) := below_drewN (Below.refl _ _) 1
      generalize World.drew wr = u0 at hHeld DR ⊢
      refine wpAnyH_take (i := 0) (v := .pointer (some ⟨bl, 0, none⟩)) rfl (by kernel_rfl) (by kernel_rfl) (by kernel_rfl) (fun _ _ _ h => h) (Or.inl ⟨by kernel_rfl, ?hy0⟩) hHeld ?rest0
      case hy0 => (intro u hSu; clear hSu; go_simp; try with_reducible rfl)
      case rest0 =>
      try simp only [Act.put, List.setIfInBounds_toArray, List.set_cons_zero, List.set_cons_succ, List.getElem_toArray, List.getElem_cons_zero]
      refine wpAnyH_take (i := 1) (v := .pointer (some ⟨bl, 0, none⟩)) rfl (by kernel_rfl) (by kernel_rfl) (by kernel_rfl) (fun _ _ _ h => h) (Or.inl ⟨by kernel_rfl, ?hy1⟩) hHeld ?rest1
      case hy1 => (intro u hSu; clear hSu; go_simp; try with_reducible rfl)
      case rest1 =>
      try simp only [Act.put, List.setIfInBounds_toArray, List.set_cons_zero, List.set_cons_succ, List.getElem_toArray, List.getElem_cons_zero, List.getElem_cons_succ]
      refine wpAnyH_take (i := 2) (v := .pointer (some ⟨bl, 0, none⟩)) rfl (by kernel_rfl) (by kernel_rfl) (by kernel_rfl) (fun _ _ _ h => h) (Or.inl ⟨by kernel_rfl, ?hy2⟩) hHeld ?rest2
      case hy2 => (intro u hSu; clear hSu; go_simp; try with_reducible rfl)
      case rest2 =>
      try simp only [Act.put, List.setIfInBounds_toArray, List.set_cons_zero, List.set_cons_succ, List.getElem_toArray, List.getElem_cons_zero, List.getElem_cons_succ]
      refine wpAnyH_take (i := 3) (v := .pointer (some ⟨bd, 0, none⟩)) rfl (by kernel_rfl) (by kernel_rfl) (by kernel_rfl) (fun _ _ _ h => h) (Or.inl ⟨by kernel_rfl, ?hy3⟩) hHeld ?rest3
      case hy3 => (intro u hSu; go_simp; try with_reducible rfl)
      case rest3 =>
      try simp only [Act.put, List.setIfInBounds_toArray, List.set_cons_zero, List.set_cons_succ, List.getElem_toArray, List.getElem_cons_zero, List.getElem_cons_succ]
      refine wpAnyH_take (i := 4) (v := .int .i64 ((at_ : Int) + j)) rfl (by kernel_rfl) (by kernel_rfl) (by kernel_rfl) (fun _ _ _ h => h) (Or.inl ⟨by kernel_rfl, ?hy4⟩) hHeld ?rest4
      case hy4 => (intro u hSu; clear hSu; go_simp; try with_reducible rfl)
      case rest4 =>
      try simp only [Act.put, List.setIfInBounds_toArray, List.set_cons_zero, List.set_cons_succ, List.getElem_toArray, List.getElem_cons_zero, List.getElem_cons_succ]
      refine wpAnyH_take (i := 5) (v := .slice (some ⟨g, off + 64 * j, none⟩) z z) rfl (by kernel_rfl) (by kernel_rfl) (by kernel_rfl) (fun _ _ _ h => h) (Or.inl ⟨by kernel_rfl, ?hy5⟩) hHeld ?rest5
      case hy5 => (intro u hSu; clear hSu; go_simp; try with_reducible rfl)
      case rest5 =>
      try simp only [Act.put, List.setIfInBounds_toArray, List.set_cons_zero, List.set_cons_succ, List.getElem_toArray, List.getElem_cons_zero, List.getElem_cons_succ]
      refine wpAnyH_take (i := 6) (v := .slice (some ⟨g, off + 64 * j, none⟩) z z) rfl (by kernel_rfl) (by kernel_rfl) (by kernel_rfl) (fun _ _ _ h => h) (Or.inl ⟨by kernel_rfl, ?hy6⟩) hHeld ?rest6
      case hy6 => (intro u hSu; clear hSu; go_simp; try with_reducible rfl)
      case rest6 =>
      try simp only [Act.put, List.setIfInBounds_toArray, List.set_cons_zero, List.set_cons_succ, List.getElem_toArray, List.getElem_cons_zero, List.getElem_cons_succ]
      refine wpAnyH_take (i := 7) (v := .int .i64 (z : Int)) rfl (by kernel_rfl) (by kernel_rfl) (by kernel_rfl) (fun _ _ _ h => h) (Or.inl ⟨by kernel_rfl, ?hy7⟩) hHeld ?rest7
      case hy7 => (intro u hSu; clear hSu; go_simp; try with_reducible rfl)
      case rest7 =>
      try simp only [Act.put, List.setIfInBounds_toArray, List.set_cons_zero, List.set_cons_succ, List.getElem_toArray, List.getElem_cons_zero, List.getElem_cons_succ]
      refine wpAnyH_take (i := 8) (v := .int .i64 ((64 : Int) - (z : Int))) rfl (by kernel_rfl) (by kernel_rfl) (by kernel_rfl) (fun _ _ _ h => h) (Or.inl ⟨by kernel_rfl, ?hy8⟩) hHeld ?rest8
      case hy8 => (intro u hSu; clear hSu; go_simp; rw [IntKind.wrap_i64]; omega)
      case rest8 =>
      try simp only [Act.put, List.setIfInBounds_toArray, List.set_cons_zero, List.set_cons_succ, List.getElem_toArray, List.getElem_cons_zero, List.getElem_cons_succ]
      refine wpAnyH_ready (rs := [9]) (by kernel_rfl) (by simp) ?_
      refine AllReadyH.cons rfl (fun K hK => ?_) AllReadyH.nil
      refine appZ (.tmp 32) (.tmp 35) rfl ⟨g, off + 64 * j, none⟩ z (64 - z) Y rfl (congrArg (Value.int .i64) E64.out) HZ.out (HP.out.below DR.out (fun x hx _ => by cases hx; exact hgw)) (by omega) hz1.1 ?_
      intro a2 c2 u1 hh1 hb1 hat1
      have B1 : Hid (Below wr.heap.size wr u1) := DR.out.trans (hb1.mono DR.out.size)
      have A1 : Hid (Holds u1 (some a2) X) := by show Holds _ _ _; rw [HPAD.out]; exact hh1
      have L1 : Hid (a2.block = g ∨ wr.heap.size ≤ a2.block) := by
        rcases hat1 with e | e
        · left; rw [e]
        · right; have := DR.out.size; omega
      have C1 : u1.cell? ⟨bl, 0, none⟩ = some (.pointer (some ⟨bd, 0, none⟩)) := (B1.out.cell (p := ⟨bl, 0, none⟩) (World.block_lt_of_cell? _ _ c0)).trans c0
      clear hh1 hb1 hat1
      refine hK.out _ _ ?hS9 (fun hHeld => ?rest9)
      case hS9 => exact C1
      clear hK K
      try simp only [Act.put, List.setIfInBounds_toArray, List.set_cons_zero, List.set_cons_succ, List.getElem_toArray, List.getElem_cons_zero, List.getElem_cons_succ]
      refine wpAnyH_ready (rs := [10]) (by kernel_rfl) (by simp) ?_
      refine AllReadyH.cons rfl (fun K hK => ?_) AllReadyH.nil
      go_simp
      refine (KW.out u1 a2 c2 (HD1.out.keep B1.out) A1.out L1.out).mono ?_
      rintro e u2 ⟨rfl, F2, hd2, hs2⟩
      have D2 : Hid (Dk u2 F2 bd (N + j + 1) sw.2) := hd2
      have S2 : Hid (Step F F2 w u2) := HS1.out.trans ((HD1.out.stepW B1.out).2.trans hs2)
      have C2 : u2.cell? ⟨bl, 0, none⟩ = some (.pointer (some ⟨bd, 0, none⟩)) := cell_step hs2 HF1.out C1
      clear hd2 hs2
      go_wp2_with fail
      refine hK.out _ _ ?hS10 (fun hHeld => ?rest10)
      case hS10 => exact C2
      clear hK K
      try simp only [Act.put, List.setIfInBounds_toArray, List.set_cons_zero, List.set_cons_succ, List.getElem_toArray, List.getElem_cons_zero, List.getElem_cons_succ]
      refine wpAnyH_take (i := 11) (v := .int .i64 sw.1) rfl (by kernel_rfl) (by kernel_rfl) (by kernel_rfl) (fun _ _ _ h => h) (Or.inl ⟨by kernel_rfl, ?hy11⟩) hHeld ?rest11
      case hy11 => (intro u hSu; clear hSu; go_simp; try with_reducible rfl)
      case rest11 =>
      try simp only [Act.put, List.setIfInBounds_toArray, List.set_cons_zero, List.set_cons_succ, List.getElem_toArray, List.getElem_cons_zero, List.getElem_cons_succ]
      refine wpAnyH_done (by kernel_rfl) ?_ _
      refine NoPanic.normal ?_
      clear hHeld
      by_cases he : sw.1 = 0
      · have HR3 : Hid (R = sw.2.run (wops (at_ + (j + 1)) (B.drop (64 * (j + 1))) ++ [none])) := by show _ = _; rw [HR2.out, if_neg (by simpa using he)]
        rw [he]
        go_wp2_with fail
        go_roundg (n + 64 - 64 * (j + 1))
        case measure => omega
        case rel => exact ⟨j + 1, F2, sw.2, by omega, by omega, by go_num, by go_num, by show Dk _ _ _ _ _; rw [← Nat.add_assoc]; exact D2.out, S2, HR3⟩
      · have HR3 : Hid (R = sw) := by show _ = _; rw [HR2.out, if_pos he]
        have e9 : (sw.1 == 0) = false := by rw [beq_eq_false_iff_ne]; exact he
        go_wp2_with fail
        go_ret
        exact ⟨by rw [HR3.out]; rfl, F2, by rw [HR3.out]; exact D2.out.more (by omega), S2.out⟩
    · have hne : B.drop (64 * j) = [] := List.drop_of_length_le (by omega)
      have HR2 : Hid (R = s1.fl) := by
        show _ = _
        rw [HR1.out, hne, wops_nil, List.nil_append, Ds.run_cons]
        show (if s1.fl.1 ≠ 0 then s1.fl else (0, s1.fl.2)) = s1.fl
        by_cases h : s1.fl.1 = 0
        · rw [if_neg (by simpa using h), ← h]
        · rw [if_pos h]
      have i1 : ¬ (64 * (j : Int)) < (n : Int) := by omega
      have KF : Hid (Calls Tryz.prog 130 #[.pointer (some ⟨bd, 0, none⟩)] wr fun e w' => e = .returned (.int .i64 (s1.fl).1) ∧ ∃ F', Dk w' F' bd (N + j + 1) (s1.fl).2 ∧ Step F1 F' wr w') := dk_flush wr F1 bd (N + j) s1 HD1.out (by omega)
      generalize s1.fl = sw at *
      clear hne HR1
      go_wp2_with fail
      refine KF.out.mono ?_
      rintro e u2 ⟨rfl, F2, hd2, hs2⟩
      have D2 : Hid (Dk u2 F2 bd (N + j + 1) sw.2) := hd2
      have S2 : Hid (Step F F2 w u2) := HS1.out.trans hs2
      clear hd2 hs2
      go_wp2_with fail
      go_ret
      exact ⟨by rw [HR2.out]; rfl, F2, by rw [HR2.out]; exact D2.out.more (by omega), S2.out⟩
end Go.Proofs.YtcindeechmpalaaGreat
namespace Go.Proofs.YtcindeechmpalaaGreat
open Go.ChangeShapes Go.WideShapes Go.ChangeAt Go.RowKit Go.Deep Go.Maps
set_option linter.unusedVariables false
theorem heap_setCell_same {w : World} {g i : Nat} {cs : Array Value} {t : TypeId} {fr : Nat × Nat} (v : Value) (h : w.heap[g]? = some (.cells cs t fr)) : (w.setCell ⟨g, i, none⟩ v).heap[g]? = some (.cells (cs.setIfInBounds i v) t fr) := by
  have hlt := (Array.getElem?_eq_some_iff.1 h).1
  have hv := (Array.getElem?_eq_some_iff.1 h).2
  unfold World.setCell
  rw [Array.getElem?_eq_getElem (by simpa using hlt), Array.getElem_modify]
  simp [hv]
/-- what a call of a log may change: its disk's blocks, its own -/
structure StepL (F F' : Nat → Prop) (bl : Nat) (w w' : World) : Prop where
  off : Off (fun k => F k ∨ k = bl) w w'
  sub : ∀ k, F' k → F k ∨ w.heap.size ≤ k
theorem Step.toL {F F' : Nat → Prop} {bl : Nat} {w w' : World} (h : Step F F' w w') : StepL F F' bl w w' := ⟨⟨h.off.os, h.off.tape, h.off.output, h.off.size, fun k hk hn => h.off.block k hk (fun e => hn (.inl e))⟩, h.sub⟩
theorem StepL.trans {F G H : Nat → Prop} {bl : Nat} {w w1 w2 : World} (h : StepL F G bl w w1) (k : StepL G H bl w1 w2) : StepL F H bl w w2 := by
  refine ⟨h.off.trans k.off (fun i hi => ?_), fun i hi => ?_⟩
  · rcases hi with hi | hi
    · rcases h.sub i hi with e | e
      · exact .inl (.inl e)
      · exact .inr e
    · exact .inl (.inr hi)
  · rcases k.sub i hi with e | e
    · exact h.sub i e
    · exact .inr (Nat.le_trans h.off.size e)
theorem StepL.set (F : Nat → Prop) (bl i : Nat) (w : World) (v : Value) : StepL F F bl w (w.setCell ⟨bl, i, none⟩ v) := ⟨(Off.refl _ w).grown (grown_setCell w bl i v) (fun k e => .inl (.inr (Option.some.inj e).symm)), fun _ hk => .inl hk⟩
theorem Dk.setL {w : World} {F : Nat → Prop} {b N : Nat} {s : Ds} (H : Dk w F b N s) (bl i : Nat) (v : Value) (hF : ¬ F bl) : Dk (w.setCell ⟨bl, i, none⟩ v) F b N s := H.grown (grown_setCell w bl i v) (fun k e hk => hF (Option.some.inj e ▸ hk))
theorem LgC.step {w w' : World} {F F' : Nat → Prop} {bl bd m no ar ln : Nat} {vr vw vf : Value} {lost : Bool} (h : LgC w bl bd m no ar ln vr vw vf lost) (hs : Step F F' w w') (hF : ¬ F bl) : LgC w' bl bd m no ar ln vr vw vf lost := (hs.off.block bl h.lt hF).trans h
theorem LgC.keep {w w' : World} {bl bd m no ar ln : Nat} {vr vw vf : Value} {lost : Bool} (h : LgC w bl bd m no ar ln vr vw vf lost) (hb : Below w.heap.size w w') : LgC w' bl bd m no ar ln vr vw vf lost := (hb.block bl h.lt).trans h
theorem LgC.setHead {w : World} {bl bd m no ar ln : Nat} {vr vw vf : Value} {lost : Bool} (h : LgC w bl bd m no ar ln vr vw vf lost) (no' ar' ln' : Nat) :
    LgC (((w.setCell ⟨bl, 2, none⟩ (.int .u64 (no' : Int))).setCell ⟨bl, 3, none⟩ (.int .i64 (ar' : Int))).setCell ⟨bl, 4, none⟩ (.int .i64 (ln' : Int))) bl bd m no' ar' ln' vr vw vf lost := heap_setCell_same _ (heap_setCell_same _ (heap_setCell_same _ h))
theorem LgC.setLost {w : World} {bl bd m no ar ln : Nat} {vr vw vf : Value} {lost : Bool} (h : LgC w bl bd m no ar ln vr vw vf lost) (x : Bool) : LgC (w.setCell ⟨bl, 8, none⟩ (.bool x)) bl bd m no ar ln vr vw vf x := heap_setCell_same _ h
theorem notF {F F' : Nat → Prop} {w w' : World} {bl : Nat} (hs : Step F F' w w') (hF : ¬ F bl) (hl : bl < w.heap.size) : ¬ F' bl := fun e => by
  rcases hs.sub bl e with h | h
  · exact hF h
  · omega
theorem storeBlk {ops : Array Oper} {rest : List Oper} {o : Oper} {a : Act} {w : World} {Q : Exit → Act → World → Prop} (hgd : o.guard = none) (x y : Operand) (ho : o.op = .store 160 x y)
    (g : Nat) (hx : a.eval x = .pointer (some ⟨g, 0, none⟩)) (X : List Int) (hy : a.eval y = .agg (bk X)) (old : Array Value) (hg : w.heap[g]? = some (.cells old 160)) (hX : X.length = 64) (hold : old.size = 64)
    (h : ∀ w', Bk w' g X → w.grownBy w' (some g) → w'.heap.size = w.heap.size → wpList Tryz.prog ops Q rest (a.put o.dst undef) w') : wpList Tryz.prog ops Q (o :: rest) a w :=
  wpList_store_row hgd 160 x y ho g (bk X) hx hy 160 old hg (sizeBl _ hX) (by rw [bk_size, hX, hold]) (bk_one _) (h _ (setRow_heap _ _ _ _ _ _ hg) (grown_setRow w g _) (by simp [World.setRow]))
set_option maxRecDepth 100000 in
set_option maxHeartbeats 4000000 in
theorem writeHead_is (w : World) (F : Nat → Prop) (bd N : Nat) (s : Ds) (H : Dk w F bd N s) (hN : N < 999998) (bl m no0 ar0 ln0 : Nat) (vr vw vf : Value) (lost : Bool) (hL : LgC w bl bd m no0 ar0 ln0 vr vw vf lost) (hF : ¬ F bl)
    (no ar ln : Nat) (hno : no < 18446744073709551616) (har : ar ≤ 1) (hln : ln < 4294967296) :
    Calls Tryz.prog 103 #[.pointer (some ⟨bl, 0, none⟩), .agg #[.int .u64 (no : Int), .int .i64 (ar : Int), .int .i64 (ln : Int)]] w fun e w' => e = .returned (.int .i64 (s.run [some (no % 2, hdB no ar ln), none]).1) ∧ ∃ F', Dk w' F' bd (N + 2) (s.run [some (no % 2, hdB no ar ln), none]).2 ∧ StepL F F' bl w w' ∧
      (((s.run [some (no % 2, hdB no ar ln), none]).1 = 0 ∧ LgC w' bl bd m no ar ln vr vw vf lost) ∨ ((s.run [some (no % 2, hdB no ar ln), none]).1 ≠ 0 ∧ LgC w' bl bd m no0 ar0 ln0 vr vw vf lost)) := by
  have HD : Hid (Dk w F bd N s) := H
  have HL : Hid (LgC w bl bd m no0 ar0 ln0 vr vw vf lost) := hL
  have HF : Hid (¬ F bl) := hF
  obtain ⟨R, hR⟩ : ∃ R, R = s.run [some (no % 2, hdB no ar ln), none] := ⟨_, rfl⟩
  rw [← hR]
  have HR : Hid (R = if (s.wr ((no % 2 : Nat) : Int) (hdB no ar ln)).1 ≠ 0 then s.wr ((no % 2 : Nat) : Int) (hdB no ar ln) else (s.wr ((no % 2 : Nat) : Int) (hdB no ar ln)).2.fl) := by
    show _ = _
    rw [hR, Ds.run_cons]
    show (if (s.wr ((no % 2 : Nat) : Int) (hdB no ar ln)).1 ≠ 0 then s.wr ((no % 2 : Nat) : Int) (hdB no ar ln) else (s.wr ((no % 2 : Nat) : Int) (hdB no ar ln)).2.run [none]) = _
    have e : ∀ x : Ds, x.run [none] = x.fl := fun x => by
      rw [Ds.run_cons]
      show (if x.fl.1 ≠ 0 then x.fl else (0, x.fl.2)) = x.fl
      by_cases h : x.fl.1 = 0
      · rw [if_neg (by simpa using h), ← h]
      · rw [if_pos h]
    rw [e]
  have K0 : Hid (Calls Tryz.prog 127 #[.agg #[.int .u64 (no : Int), .int .i64 (ar : Int), .int .i64 (ln : Int)]] (w.alloc (.cells #[.int .u64 (no : Int), .int .i64 (ar : Int), .int .i64 (ln : Int)] 125)) fun e w' => e = .returned (.agg (bk (hdB no ar ln))) ∧ Below (w.alloc (.cells #[.int .u64 (no : Int), .int .i64 (ar : Int), .int .i64 (ln : Int)] 125)).heap.size (w.alloc (.cells #[.int .u64 (no : Int), .int .i64 (ar : Int), .int .i64 (ln : Int)] 125)) w') := bytes_is no ar ln hno har hln _
  have KP : Hid (∀ u, Calls Tryz.prog 129 #[.int .u64 (no : Int)] u fun e w' => e = .returned (.int .i64 ((no % 2 : Nat) : Int)) ∧ w' = u) := fun u => placeOf_is u no hno
  have HB : Hid (IsBytes (hdB no ar ln)) := hdB_bytes no ar ln (by omega)
  have h64 := hdB_len no ar ln
  generalize hdB no ar ln = X at *
  have HX : Hid (X.length = 64) := h64
  obtain ⟨q, hq⟩ : ∃ q, q = no % 2 := ⟨_, rfl⟩
  rw [← hq] at HR KP
  clear H hL hF hR h64 hq
  have Z0 : Hid ((w.alloc (.cells #[.int .u64 (no : Int), .int .i64 (ar : Int), .int .i64 (ln : Int)] 125)).heap[w.heap.size]? = some (.cells #[.int .u64 (no : Int), .int .i64 (ar : Int), .int .i64 (ln : Int)] 125)) := heap_alloc_new w _
  have BZ : Hid (Below w.heap.size w (w.alloc (.cells #[.int .u64 (no : Int), .int .i64 (ar : Int), .int .i64 (ln : Int)] 125))) := gB_alloc w _
  have SZ : Hid ((w.alloc (.cells #[.int .u64 (no : Int), .int .i64 (ar : Int), .int .i64 (ln : Int)] 125)).heap.size = w.heap.size + 1) := by show _ = _; simp
  go_enter Tryz.func103, Tryz.ntmps103
  go_wp2_with (refine wpList_load_row rfl 125 (.tmp 3) rfl w.heap.size rfl 125 #[.int .u64 (no : Int), .int .i64 (ar : Int), .int .i64 (ln : Int)] (0, 0) _ Z0.out Tryz.underlying125 rfl size3H ?_)
  refine K0.out.mono ?_
  rintro e w1 ⟨rfl, hb1⟩
  generalize (w.alloc (.cells #[.int .u64 (no : Int), .int .i64 (ar : Int), .int .i64 (ln : Int)] 125)) = w0 at *
  have Z1 : Hid (w1.heap[w.heap.size]? = some (.cells #[.int .u64 (no : Int), .int .i64 (ar : Int), .int .i64 (ln : Int)] 125)) := (hb1.block _ (by have := SZ.out; omega)).trans Z0.out
  have B1 : Hid (Below w.heap.size w w1) := BZ.out.trans (hb1.mono BZ.out.size)
  have S1 : Hid (w.heap.size + 1 ≤ w1.heap.size) := by have h1 := SZ.out; have h2 := hb1.size; show _ ≤ _; omega
  clear hb1 K0 Z0 BZ SZ
  have Y1 : Hid ((w1.alloc (.cells hz64 160)).heap[w1.heap.size]? = some (.cells hz64 160)) := heap_alloc_new w1 _
  go_wp2_with (refine storeBlk rfl (.tmp 5) (.tmp 9) rfl w1.heap.size rfl X rfl hz64 Y1.out HX.out rfl ?_; intro w2 kx hg2 hs2; have BW : Hid (Below w1.heap.size w1 w2) := ((gB_alloc w1 (.cells hz64 160)).grown hg2 (by simp) (fun k e => Nat.le_of_eq (Option.some.inj e))); have KX : Hid (Bk w2 w1.heap.size X) := kx; have YS : Hid (w2.heap.size = w1.heap.size + 1) := (by show _ = _; rw [hs2, World.size_alloc]); clear Y1 kx hg2 hs2; skip)
  have B2 : Hid (Below w.heap.size w w2) := B1.out.trans (BW.out.mono B1.out.size)
  have Z2 : Hid (w2.heap[w.heap.size]? = some (.cells #[.int .u64 (no : Int), .int .i64 (ar : Int), .int .i64 (ln : Int)] 125)) := (BW.out.block _ (by have := S1.out; omega)).trans Z1.out
  have L2 := (HL.out.keep B2.out).cells
  have c0 := L2.c0
  have z0 : w2.cell? ⟨w.heap.size, 0, none⟩ = some (.int .u64 (no : Int)) := by simp [World.cell?, Z2.out]
  have hblw := HL.out.lt
  have KW : Hid (∀ u, Below w2.heap.size w2 u → Calls Tryz.prog 128 #[.pointer (some ⟨bd, 0, none⟩), .int .i64 (q : Int), .slice (some ⟨w1.heap.size, 0, none⟩) 64 64] u fun e w' => e = .returned (.int .i64 (s.wr (q : Int) X).1) ∧ ∃ F', Dk w' F' bd (N + 1) (s.wr (q : Int) X).2 ∧ Step F F' u w') := fun u hu => by
    refine dk_write u F bd N s (HD.out.keep (B2.out.trans (hu.mono B2.out.size))) (by omega) _ (some ⟨w1.heap.size, 0, none⟩) 64 64 X HX.out HB.out (KX.out.keep hu).holds (fun y hy _ hyb => ?_)
    obtain rfl := Option.some.inj hy
    have h1 := HD.out.lt bd HD.out.b
    have h2 := S1.out
    have h3 : w1.heap.size = bd := hyb
    omega
  obtain ⟨sw, hsw⟩ : ∃ sw, sw = s.wr (q : Int) X := ⟨_, rfl⟩
  rw [← hsw] at KW HR
  clear hsw L2 Z1 B1 BW
  refine wp_region_noPanic ?_
  refine wp_region_held_drew (S := (fun u : World => u.cell? ⟨bl, 0, none⟩ = some (.pointer (some ⟨bd, 0, none⟩)) ∧ u.cell? ⟨w.heap.size, 0, none⟩ = some (.int .u64 (no : Int)))) (by kernel_rfl) ?hSaw (fun hHeld => ?restaw)
  case hSaw => exact ⟨c0, z0⟩
  case restaw =>
  have DR : Hid (Below w2.heap.size w2 w2.drew) := below_drewN (Below.refl _ _) 1
  generalize World.drew w2 = u0 at hHeld DR ⊢
  refine wpAnyH_take (i := 0) (v := .pointer (some ⟨bl, 0, none⟩)) rfl (by kernel_rfl) (by kernel_rfl) (by kernel_rfl) (fun _ _ _ h => h) (Or.inl ⟨by kernel_rfl, ?hy0⟩) hHeld ?rest0
  case hy0 => (intro u hSu; clear hSu; go_simp; try with_reducible rfl)
  case rest0 =>
  try simp only [Act.put, List.setIfInBounds_toArray, List.set_cons_zero, List.set_cons_succ, List.getElem_toArray, List.getElem_cons_zero]
  refine wpAnyH_take (i := 1) (v := .pointer (some ⟨bl, 0, none⟩)) rfl (by kernel_rfl) (by kernel_rfl) (by kernel_rfl) (fun _ _ _ h => h) (Or.inl ⟨by kernel_rfl, ?hy1⟩) hHeld ?rest1
  case hy1 => (intro u hSu; clear hSu; go_simp; try with_reducible rfl)
  case rest1 =>
  try simp only [Act.put, List.setIfInBounds_toArray, List.set_cons_zero, List.set_cons_succ, List.getElem_toArray, List.getElem_cons_zero, List.getElem_cons_succ]
  refine wpAnyH_take (i := 2) (v := .pointer (some ⟨bl, 0, none⟩)) rfl (by kernel_rfl) (by kernel_rfl) (by kernel_rfl) (fun _ _ _ h => h) (Or.inl ⟨by kernel_rfl, ?hy2⟩) hHeld ?rest2
  case hy2 => (intro u hSu; clear hSu; go_simp; try with_reducible rfl)
  case rest2 =>
  try simp only [Act.put, List.setIfInBounds_toArray, List.set_cons_zero, List.set_cons_succ, List.getElem_toArray, List.getElem_cons_zero, List.getElem_cons_succ]
  refine wpAnyH_take (i := 3) (v := .pointer (some ⟨bd, 0, none⟩)) rfl (by kernel_rfl) (by kernel_rfl) (by kernel_rfl) (fun _ _ _ h => h) (Or.inl ⟨by kernel_rfl, ?hy3⟩) hHeld ?rest3
  case hy3 => (intro u hSu; have hS1 := hSu.1; clear hSu; go_simp; try with_reducible rfl)
  case rest3 =>
  try simp only [Act.put, List.setIfInBounds_toArray, List.set_cons_zero, List.set_cons_succ, List.getElem_toArray, List.getElem_cons_zero, List.getElem_cons_succ]
  refine wpAnyH_take (i := 4) (v := .pointer (some ⟨w.heap.size, 0, none⟩)) rfl (by kernel_rfl) (by kernel_rfl) (by kernel_rfl) (fun _ _ _ h => h) (Or.inl ⟨by kernel_rfl, ?hy4⟩) hHeld ?rest4
  case hy4 => (intro u hSu; clear hSu; go_simp; try with_reducible rfl)
  case rest4 =>
  try simp only [Act.put, List.setIfInBounds_toArray, List.set_cons_zero, List.set_cons_succ, List.getElem_toArray, List.getElem_cons_zero, List.getElem_cons_succ]
  refine wpAnyH_take (i := 5) (v := .int .u64 (no : Int)) rfl (by kernel_rfl) (by kernel_rfl) (by kernel_rfl) (fun _ _ _ h => h) (Or.inl ⟨by kernel_rfl, ?hy5⟩) hHeld ?rest5
  case hy5 => (intro u hSu; have hS1 := hSu.2; clear hSu; go_simp; try with_reducible rfl)
  case rest5 =>
  try simp only [Act.put, List.setIfInBounds_toArray, List.set_cons_zero, List.set_cons_succ, List.getElem_toArray, List.getElem_cons_zero, List.getElem_cons_succ]
  refine wpAnyH_take (i := 7) (v := .slice (some ⟨w1.heap.size, 0, none⟩) 64 64) rfl (by kernel_rfl) (by kernel_rfl) (by kernel_rfl) (fun _ _ _ h => h) (Or.inl ⟨by kernel_rfl, ?hy7⟩) hHeld ?rest7
  case hy7 => (intro u hSu; clear hSu; go_simp; try with_reducible rfl)
  case rest7 =>
  try simp only [Act.put, List.setIfInBounds_toArray, List.set_cons_zero, List.set_cons_succ, List.getElem_toArray, List.getElem_cons_zero, List.getElem_cons_succ]
  refine wpAnyH_ready (rs := [6]) (by kernel_rfl) (by simp) ?_
  refine AllReadyH.cons rfl (fun K hK => ?_) AllReadyH.nil
  go_simp; refine (KP.out _).mono ?_; rintro e w' ⟨rfl, hw⟩; obtain rfl := hw.symm; clear hw; go_wp2_with fail
  refine hK.out _ _ ?hS6w (fun hHeld => ?rest6w)
  case hS6w => exact hHeld
  clear hK K
  try simp only [Act.put, List.setIfInBounds_toArray, List.set_cons_zero, List.set_cons_succ, List.getElem_toArray, List.getElem_cons_zero, List.getElem_cons_succ]
  refine wpAnyH_ready (rs := [8]) (by kernel_rfl) (by simp) ?_
  refine AllReadyH.cons rfl (fun K hK => ?_) AllReadyH.nil
  go_simp
  refine (KW.out _ DR.out).mono ?_
  rintro e u2 ⟨rfl, F2, hd2, hs2⟩
  have D2 : Hid (Dk u2 F2 bd (N + 1) sw.2) := hd2
  have B3 : Hid (Below w.heap.size w u0) := B2.out.trans (DR.out.mono B2.out.size)
  have hz0 : w.heap.size < u0.heap.size := by have h1 := DR.out.size; have h2 := YS.out; have h3 := S1.out; omega
  have hFz : ¬ F w.heap.size := fun e => by have := HD.out.lt _ e; omega
  have S2 : Hid (Step F F2 w u2) := (HD.out.stepW (by have h := B3.out; exact h)).2.trans hs2
  have Z3 : Hid (u2.heap[w.heap.size]? = some (.cells #[.int .u64 (no : Int), .int .i64 (ar : Int), .int .i64 (ln : Int)] 125)) := (hs2.off.block _ hz0 hFz).trans ((DR.out.block _ (by have h2 := YS.out; have h3 := S1.out; omega)).trans Z2.out)
  have C2 : u2.cell? ⟨bl, 0, none⟩ = some (.pointer (some ⟨bd, 0, none⟩)) ∧ u2.cell? ⟨w.heap.size, 0, none⟩ = some (.int .u64 (no : Int)) := ⟨cell_step hs2 HF.out hHeld.1, cell_step hs2 hFz hHeld.2⟩
  have NF : Hid (¬ F2 w.heap.size) := notF hs2 hFz hz0
  clear hd2 hs2 hFz
  go_wp2_with fail
  refine hK.out _ _ ?hS8 (fun hHeld => ?rest8)
  case hS8 => exact C2
  clear hK K
  try simp only [Act.put, List.setIfInBounds_toArray, List.set_cons_zero, List.set_cons_succ, List.getElem_toArray, List.getElem_cons_zero, List.getElem_cons_succ]
  refine wpAnyH_take (i := 9) (v := .int .i64 sw.1) rfl (by kernel_rfl) (by kernel_rfl) (by kernel_rfl) (fun _ _ _ h => h) (Or.inl ⟨by kernel_rfl, ?hy9⟩) hHeld ?rest9
  case hy9 => (intro u hSu; clear hSu; go_simp; try with_reducible rfl)
  case rest9 =>
  try simp only [Act.put, List.setIfInBounds_toArray, List.set_cons_zero, List.set_cons_succ, List.getElem_toArray, List.getElem_cons_zero, List.getElem_cons_succ]
  refine wpAnyH_done (by kernel_rfl) ?_ _
  refine NoPanic.normal ?_
  clear hHeld c0 z0
  have LG : Hid (LgC u2 bl bd m no0 ar0 ln0 vr vw vf lost) := HL.out.step S2.out HF.out
  have hF2 : ¬ F2 bl := notF S2.out HF.out hblw
  have HF2 : Hid (¬ F2 bl) := hF2
  by_cases he : sw.1 = 0
  · have HR3 : Hid (R = sw.2.fl) := by show _ = _; rw [HR.out, if_neg (by simpa using he)]
    have KF : Hid (Calls Tryz.prog 130 #[.pointer (some ⟨bd, 0, none⟩)] u2 fun e w' => e = .returned (.int .i64 (sw.2.fl).1) ∧ ∃ F', Dk w' F' bd (N + 1 + 1) (sw.2.fl).2 ∧ Step F2 F' u2 w') := dk_flush u2 F2 bd (N + 1) sw.2 D2.out (by omega)
    generalize sw.2.fl = sf at *
    have c0 := C2.1
    rw [he]
    go_wp2_with fail
    refine KF.out.mono ?_
    rintro e u3 ⟨rfl, F3, hd3, hs3⟩
    have D3 : Hid (Dk u3 F3 bd (N + 2) sf.2) := hd3
    have S3 : Hid (Step F F3 w u3) := S2.out.trans hs3
    have LG3 : Hid (LgC u3 bl bd m no0 ar0 ln0 vr vw vf lost) := LG.out.step hs3 HF2.out
    have Z4 : Hid (u3.heap[w.heap.size]? = some (.cells #[.int .u64 (no : Int), .int .i64 (ar : Int), .int .i64 (ln : Int)] 125)) := by
      have hz2 := (Array.getElem?_eq_some_iff.1 Z3.out).1
      exact (hs3.off.block _ hz2 NF.out).trans Z3.out
    clear hd3 hs3
    by_cases hf : sf.1 = 0
    · rw [hf]
      have L9 := LG3.out.cells
      have k2 := L9.c2
      have k3 := L9.c3
      have k4 := L9.c4
      have f2 := L9.f 2
      have f3 := L9.f 3
      have f4 := L9.f 4
      clear L9
      go_wp2_with (refine wpList_load_row rfl 125 (.tmp 3) rfl w.heap.size rfl 125 #[.int .u64 (no : Int), .int .i64 (ar : Int), .int .i64 (ln : Int)] (0, 0) _ Z4.out Tryz.underlying125 rfl size3H ?_)
      go_ret
      have g3 : ¬ F3 bl := notF S3.out HF.out hblw
      refine ⟨by rw [HR3.out, hf]; rfl, F3, ?_, ?_, .inl ⟨by rw [HR3.out, hf], LG3.out.setHead no ar ln⟩⟩
      · rw [HR3.out]
        exact ((D3.out.setL bl 2 _ g3).setL bl 3 _ g3).setL bl 4 _ g3
      · exact (((S3.out.toL).trans (StepL.set F3 bl 2 _ _)).trans (StepL.set F3 bl 3 _ _)).trans (StepL.set F3 bl 4 _ _)
    · have e9 : (sf.1 == 0) = false := by rw [beq_eq_false_iff_ne]; exact hf
      go_wp2_with fail
      go_ret
      exact ⟨by rw [HR3.out]; rfl, F3, by rw [HR3.out]; exact D3.out, S3.out.toL, .inr ⟨by rw [HR3.out]; exact hf, LG3.out⟩⟩
  · have HR3 : Hid (R = sw) := by show _ = _; rw [HR.out, if_pos he]
    have e9 : (sw.1 == 0) = false := by rw [beq_eq_false_iff_ne]; exact he
    go_wp2_with fail
    go_ret
    exact ⟨by rw [HR3.out]; rfl, F2, by rw [HR3.out]; exact D2.out.more (by omega), S2.out.toL, .inr ⟨by rw [HR3.out]; exact he, LG.out⟩⟩
end Go.Proofs.YtcindeechmpalaaGreat
