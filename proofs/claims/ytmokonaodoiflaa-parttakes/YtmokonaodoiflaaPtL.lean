/- few (law16; gen_ptl.py). -/
import Derived.Test.YtmokonaodoiflaaPtH
import Derived.Laws.Tables
namespace Go.Proofs.Ytmokonaodoiflaa
open Go.ChangeShapes Go.WideShapes Go.ChangeAt Go.RowKit Go.Deep Go.Maps
set_option linter.unusedVariables false
set_option linter.unusedSimpArgs false
theorem size6M : (Try.prog.info? 27).map (·.size) = some 6 := by kernel_rfl
theorem size3P : (Try.prog.info? 24).map (·.size) = some 3 := by kernel_rfl
theorem results_pm {fn : Func} {p q : Tmp} (h : fn.results = #[.cell p 24, .cell q 27]) (tmps : Array Value) (w : World) (g g2 : Nat) (D E : Array Value) (hD : D.size = 3) (hE : E.size = 6)
    (hp : tmps.getD p undef = .pointer (some ⟨g, 0, none⟩)) (hq : tmps.getD q undef = .pointer (some ⟨g2, 0, none⟩)) (hg : w.heap[g]? = some (.cells D 24)) (hg2 : w.heap[g2]? = some (.cells E 27)) :
    (results fn tmps).run Try.prog w = .ok (.tuple #[.agg D, .agg E]) w := by
  have hp' : tmps[p]?.getD undef = .pointer (some ⟨g, 0, none⟩) := by simpa using hp
  have hq' : tmps[q]?.getD undef = .pointer (some ⟨g2, 0, none⟩) := by simpa using hq
  simp [results, h, hp', hq', asAddr, run_loadVar_row w g 24 24 D (0, 0) _ hg Try.underlying24 rfl (by rw [hD]; exact size3P), run_loadVar_row w g2 27 27 E (0, 0) _ hg2 Try.underlying27 rfl (by rw [hE]; exact size6M)]
theorem heap_four (w : World) (o1 o2 o3 o4 : Obj) : ((((w.alloc o1).alloc o2).alloc o3).alloc o4).heap[w.heap.size]? = some o1 ∧ ((((w.alloc o1).alloc o2).alloc o3).alloc o4).heap[w.heap.size + 1]? = some o2 ∧ ((((w.alloc o1).alloc o2).alloc o3).alloc o4).heap[w.heap.size + 2]? = some o3 ∧ ((((w.alloc o1).alloc o2).alloc o3).alloc o4).heap[w.heap.size + 3]? = some o4 ∧ ((((w.alloc o1).alloc o2).alloc o3).alloc o4).heap.size = w.heap.size + 4 := by
  have s1 : (w.alloc o1).heap.size = w.heap.size + 1 := by simp
  have s2 : ((w.alloc o1).alloc o2).heap.size = w.heap.size + 2 := by simp
  have s3 : (((w.alloc o1).alloc o2).alloc o3).heap.size = w.heap.size + 3 := by simp
  have e2 := heap_alloc_new (w.alloc o1) o2
  have e3 := heap_alloc_new ((w.alloc o1).alloc o2) o3
  have e4 := heap_alloc_new (((w.alloc o1).alloc o2).alloc o3) o4
  rw [s1] at e2
  rw [s2] at e3
  rw [s3] at e4
  refine ⟨?_, ?_, ?_, e4, by simp⟩
  · exact (Below.heap_alloc _ _ _ (by omega)).trans ((Below.heap_alloc _ _ _ (by omega)).trans ((Below.heap_alloc _ _ _ (by omega)).trans (heap_alloc_new w o1)))
  · exact (Below.heap_alloc _ _ _ (by omega)).trans ((Below.heap_alloc _ _ _ (by omega)).trans e2)
  · exact (Below.heap_alloc _ _ _ (by omega)).trans e3
/-- what few tells -/
def FwSaid (w w' : World) (r s : Int) (k f t x : Int) (y : Bool) (D : List Int) (L : List Pk) (e : Ending) : Prop :=
  ∃ Vd V M, e = .returned (.tuple #[.agg #[.int .i64 r, .int .i64 s, Vd], .agg #[.int .i64 k, .int .i64 f, .int .i64 t, .int .i64 x, .bool y, V]]) ∧ OwnZ w' w.heap.size Vd (D.take 100) ∧ Few w' w.heap.size V L M ∧ M.length = min L.length 20 ∧ Below w.heap.size w w'
set_option maxRecDepth 100000 in
set_option maxHeartbeats 8000000 in
theorem fewp_small (w : World) (r s : Int) (ad : Option Addr) (nd cd : Nat) (D : List Int) (hnd : D.length = nd) (hD : InZ w ad D) (hda : ad = none → nd = 0 ∧ cd = 0) (hdc : nd ≤ cd) (k f t x : Int) (y : Bool) (a : Option Addr) (n c : Nat) (L : List Pk) (hn : L.length = n) (hL : InPk w a L) (hc : n ≤ c) (hnl : ∀ x ∈ L, x.la = none → x.ln = 0 ∧ x.lc = 0) (hq : nd ≤ 100) :
    Calls Try.prog 9 #[.agg #[.int .i64 r, .int .i64 s, .slice ad nd cd], .agg #[.int .i64 k, .int .i64 f, .int .i64 t, .int .i64 x, .bool y, .slice a n c]] w (fun e w' => FwSaid w w' r s k f t x y D L e) := by
  have d0 : decide ((100 : Int) < (nd : Int)) = false := by rw [decide_eq_false_iff_not]; omega
  have d00 : decide (100 < nd) = false := by rw [decide_eq_false_iff_not]; omega
  obtain ⟨qq, hqq⟩ : ∃ qq : Nat, qq = nd := ⟨_, rfl⟩
  obtain ⟨W5, hW5⟩ : ∃ W5, W5 = ((((w.alloc (.cells #[.int .i64 r, .int .i64 s, .slice ad nd cd] 24)).alloc (.cells #[.int .i64 k, .int .i64 f, .int .i64 t, .int .i64 x, .bool y, .slice a n c] 27)).alloc (.cells #[.int .i64 0, .int .i64 0, .slice none 0 0] 24)).alloc (.cells #[.int .i64 0, .int .i64 0, .int .i64 0, .int .i64 0, .bool false, .slice none 0 0] 27)).alloc (.cells #[] 3) := ⟨_, rfl⟩
  have HE5 : Hid (W5 = ((((w.alloc (.cells #[.int .i64 r, .int .i64 s, .slice ad nd cd] 24)).alloc (.cells #[.int .i64 k, .int .i64 f, .int .i64 t, .int .i64 x, .bool y, .slice a n c] 27)).alloc (.cells #[.int .i64 0, .int .i64 0, .slice none 0 0] 24)).alloc (.cells #[.int .i64 0, .int .i64 0, .int .i64 0, .int .i64 0, .bool false, .slice none 0 0] 27)).alloc (.cells #[] 3)) := hW5
  obtain ⟨f1, f2, f3, f4, f5⟩ := heap_four w (.cells #[.int .i64 r, .int .i64 s, .slice ad nd cd] 24) (.cells #[.int .i64 k, .int .i64 f, .int .i64 t, .int .i64 x, .bool y, .slice a n c] 27) (.cells #[.int .i64 0, .int .i64 0, .slice none 0 0] 24) (.cells #[.int .i64 0, .int .i64 0, .int .i64 0, .int .i64 0, .bool false, .slice none 0 0] 27)
  have hb4 : Below w.heap.size w ((((w.alloc (.cells #[.int .i64 r, .int .i64 s, .slice ad nd cd] 24)).alloc (.cells #[.int .i64 k, .int .i64 f, .int .i64 t, .int .i64 x, .bool y, .slice a n c] 27)).alloc (.cells #[.int .i64 0, .int .i64 0, .slice none 0 0] 24)).alloc (.cells #[.int .i64 0, .int .i64 0, .int .i64 0, .int .i64 0, .bool false, .slice none 0 0] 27)) := ((((Below.refl _ _).alloc (Nat.le_refl _) _).alloc (by simp) _).alloc (by simp; omega) _).alloc (by simp; omega) _
  have g1 : W5.heap[w.heap.size]? = some (.cells #[.int .i64 r, .int .i64 s, .slice ad nd cd] 24) := by rw [hW5]; exact (Below.heap_alloc _ _ _ (by omega)).trans f1
  have g2 : W5.heap[w.heap.size + 1]? = some (.cells #[.int .i64 k, .int .i64 f, .int .i64 t, .int .i64 x, .bool y, .slice a n c] 27) := by rw [hW5]; exact (Below.heap_alloc _ _ _ (by omega)).trans f2
  have g3 : W5.heap[w.heap.size + 2]? = some (.cells #[.int .i64 0, .int .i64 0, .slice none 0 0] 24) := by rw [hW5]; exact (Below.heap_alloc _ _ _ (by omega)).trans f3
  have g4 : W5.heap[w.heap.size + 3]? = some (.cells #[.int .i64 0, .int .i64 0, .int .i64 0, .int .i64 0, .bool false, .slice none 0 0] 27) := by rw [hW5]; exact (Below.heap_alloc _ _ _ (by omega)).trans f4
  have g5 : W5.heap.size = w.heap.size + 5 := by rw [hW5]; simp
  have hb5 : Below w.heap.size w W5 := by rw [hW5]; exact hb4.alloc (by omega) _
  have hOE : OwnZ W5 (w.heap.size + 4) (.slice (some ⟨w.heap.size + 4, 0, none⟩) 0 0) [] := by
    have := World.ownsRow_made (e := 3) (size := 1) (base := w.heap.size + 4) ((((w.alloc (.cells #[.int .i64 r, .int .i64 s, .slice ad nd cd] 24)).alloc (.cells #[.int .i64 k, .int .i64 f, .int .i64 t, .int .i64 x, .bool y, .slice a n c] 27)).alloc (.cells #[.int .i64 0, .int .i64 0, .slice none 0 0] 24)).alloc (.cells #[.int .i64 0, .int .i64 0, .int .i64 0, .int .i64 0, .bool false, .slice none 0 0] 27)) #[] 0 (by simp) (by simp) (by simp)
    rw [f5, ← hW5] at this
    exact this
  have OE : Hid (OwnZ W5 (w.heap.size + 4) (.slice (some ⟨w.heap.size + 4, 0, none⟩) 0 0) []) := hOE
  obtain ⟨DT, hDT⟩ : ∃ DT, DT = D.take 100 := ⟨_, rfl⟩
  have HDT : Hid (DT = D.take 100) := hDT
  have HD5 : Hid (DT.length = nd ∧ InZ W5 ad DT ∧ (ad = none → nd = 0 ∧ cd = 0) ∧ ([] : List Int).length + nd ≤ 17592186044416 ∧ w.heap.size + 4 ≤ W5.heap.size) := ⟨by rw [hDT, List.length_take]; omega, by rw [hDT]; exact (hD.keep hb5).take 100, (fun e => by have := hda e; omega), by rw [List.length_nil]; omega, by omega⟩
  have HG : Hid (W5.heap[w.heap.size]? = some (.cells #[.int .i64 r, .int .i64 s, .slice ad nd cd] 24) ∧ W5.heap[w.heap.size + 1]? = some (.cells #[.int .i64 k, .int .i64 f, .int .i64 t, .int .i64 x, .bool y, .slice a n c] 27) ∧ W5.heap[w.heap.size + 2]? = some (.cells #[.int .i64 0, .int .i64 0, .slice none 0 0] 24) ∧ W5.heap[w.heap.size + 3]? = some (.cells #[.int .i64 0, .int .i64 0, .int .i64 0, .int .i64 0, .bool false, .slice none 0 0] 27) ∧ W5.heap.size = w.heap.size + 5 ∧ Below w.heap.size w W5) := ⟨g1, g2, g3, g4, g5, hb5⟩
  have HL0 : Hid (InPk w a L ∧ L.length = n) := ⟨hL, hn⟩
  have HNL : Hid (∀ x ∈ L, x.la = none → x.ln = 0 ∧ x.lc = 0) := hnl
  clear hW5 f1 f2 f3 f4 f5 hb4 g1 g2 g3 g4 g5 hb5 hOE hnd hD hda hdc hn hL hnl hqq hq hDT
  go_enter Try.func9, Try.ntmps9
  go_upto_region 4 with (at_builtin; rw [← HE5.out]; refine append_ints rfl (.tmp 17) (.tmp 19) rfl (w.heap.size + 4) _ [] rfl OE.out ad nd cd DT rfl HD5.out.1 HD5.out.2.1 HD5.out.2.2.1 HD5.out.2.2.2.1 HD5.out.2.2.2.2 ?_; intro v5 u5 o5 g5; have O5 : Hid (OwnZ u5 (w.heap.size + 4) v5 DT) := o5; have G5 : Hid (W5.grownBy u5 (some (w.heap.size + 4))) := g5; obtain ⟨a5, c5, rfl, i5, l5, m5', n5, p5⟩ := O5.out.slice; rw [HD5.out.1] at O5 l5 ⊢; have p1 : u5.heap[w.heap.size]? = some (.cells #[.int .i64 r, .int .i64 s, .slice ad nd cd] 24) := (G5.out.block w.heap.size (by have := HG.out.2.2.2.2.1; omega) (by show ¬ some w.heap.size = some (w.heap.size + 4); simp)).trans HG.out.1; have PB : Hid (u5.heap[w.heap.size]? = some (.cells #[.int .i64 r, .int .i64 s, .slice ad nd cd] 24)) := p1; have fz := frozen_blk p1 2; have cz : u5.cell? ⟨w.heap.size, 2, none⟩ = some (.slice ad nd cd) := (by rw [cell_of_row _ w.heap.size 2 _ _ (0, 0) p1]; rfl); clear o5 g5 p1 i5 l5 m5' n5 p5)
  obtain ⟨m5, hm5⟩ : ∃ m5 : Nat, m5 = nd := ⟨_, rfl⟩
  rw [← hm5] at O5 ⊢
  have hsz5 : w.heap.size + 5 ≤ u5.heap.size := by have := G5.out.size; have := HG.out.2.2.2.2.1; omega
  have keep5 : ∀ k, k < w.heap.size + 4 → u5.heap[k]? = W5.heap[k]? := fun k hk => G5.out.block k (by have := HG.out.2.2.2.2.1; omega) (by simp; omega)
  have u1 : (u5.setCell ⟨w.heap.size, 2, none⟩ (.slice a5 m5 c5)).heap[w.heap.size]? = some (.cells #[.int .i64 r, .int .i64 s, .slice a5 m5 c5] 24) := setCell_blk (i := 2) (.slice a5 m5 c5) PB.out
  have off5 : ∀ k, k ≠ w.heap.size → (u5.setCell ⟨w.heap.size, 2, none⟩ (.slice a5 m5 c5)).heap[k]? = u5.heap[k]? := fun k hk => set_off u5 w.heap.size 2 k _ hk
  have u2 : (u5.setCell ⟨w.heap.size, 2, none⟩ (.slice a5 m5 c5)).heap[w.heap.size + 1]? = some (.cells #[.int .i64 k, .int .i64 f, .int .i64 t, .int .i64 x, .bool y, .slice a n c] 27) := (off5 _ (by omega)).trans ((keep5 _ (by omega)).trans HG.out.2.1)
  have u3 : (u5.setCell ⟨w.heap.size, 2, none⟩ (.slice a5 m5 c5)).heap[w.heap.size + 2]? = some (.cells #[.int .i64 0, .int .i64 0, .slice none 0 0] 24) := (off5 _ (by omega)).trans ((keep5 _ (by omega)).trans HG.out.2.2.1)
  have u4 : (u5.setCell ⟨w.heap.size, 2, none⟩ (.slice a5 m5 c5)).heap[w.heap.size + 3]? = some (.cells #[.int .i64 0, .int .i64 0, .int .i64 0, .int .i64 0, .bool false, .slice none 0 0] 27) := (off5 _ (by omega)).trans ((keep5 _ (by omega)).trans HG.out.2.2.2.1)
  have oU : OwnZ (u5.setCell ⟨w.heap.size, 2, none⟩ (.slice a5 m5 c5)) (w.heap.size + 4) (.slice a5 m5 c5) DT := O5.out.kept fun k hk => off5 k (by have := (O5.out.own k hk).1; omega)
  have sU : (u5.setCell ⟨w.heap.size, 2, none⟩ (.slice a5 m5 c5)).heap.size = u5.heap.size := by simp [World.setCell]
  have bU : Below w.heap.size w (u5.setCell ⟨w.heap.size, 2, none⟩ (.slice a5 m5 c5)) := (HG.out.2.2.2.2.2.grown G5.out (by have := HG.out.2.2.2.2.1; omega) (fun k hk => by cases hk; omega)).grown (grown_setCell u5 w.heap.size 2 _) (by omega) (fun k hk => by cases hk; exact Nat.le_refl _)
  generalize u5.setCell ⟨w.heap.size, 2, none⟩ (.slice a5 m5 c5) = U at *
  obtain ⟨z, hzz⟩ : ∃ z, z = U.heap.size := ⟨_, rfl⟩
  have HU : Hid (U.heap[w.heap.size]? = some (.cells #[.int .i64 r, .int .i64 s, .slice a5 m5 c5] 24) ∧ U.heap[w.heap.size + 1]? = some (.cells #[.int .i64 k, .int .i64 f, .int .i64 t, .int .i64 x, .bool y, .slice a n c] 27) ∧ U.heap[w.heap.size + 2]? = some (.cells #[.int .i64 0, .int .i64 0, .slice none 0 0] 24) ∧ U.heap[w.heap.size + 3]? = some (.cells #[.int .i64 0, .int .i64 0, .int .i64 0, .int .i64 0, .bool false, .slice none 0 0] 27) ∧ OwnZ U (w.heap.size + 4) (.slice a5 m5 c5) DT ∧ Below w.heap.size w U) := ⟨u1, u2, u3, u4, oU, bU⟩
  have HZ : Hid (z = U.heap.size ∧ w.heap.size + 5 ≤ U.heap.size) := ⟨hzz, by omega⟩
  have KC : Hid (∀ W, Below z U W → W.cell? ⟨w.heap.size + 1, 5, none⟩ = some (.slice a n c)) := fun W hW => by
    rw [cell_of_row _ (w.heap.size + 1) 5 _ _ (0, 0) ((hW.block _ (by omega)).trans u2)]; rfl
  have KL : Hid (∀ W, Below z U W → InPk W a L) := fun W hW => (HL0.out.1.keep bU).keep (by rw [← hzz]; exact hW)
  have HLN : Hid (L.length = n) := HL0.out.2
  obtain ⟨nn, hnn⟩ : ∃ nn, nn = min n 20 := ⟨_, rfl⟩
  have HNN : Hid (nn = min n 20) := hnn
  have hn1 : nn ≤ n := by omega
  have hn2 : nn ≤ 20 := by omega
  clear hm5 hsz5 keep5 u1 off5 u2 u3 u4 oU sU bU hzz O5 G5 PB HE5 OE HD5 HG fz cz hnn
  go_wp2_with fail
  go_loopg [6, 7] nn (fun g V i wr => ∃ (j : Nat) (M : List Pk), j ≤ nn ∧ g = nn - j ∧ i = .int .i64 (j : Int) ∧ Hid (Few wr z V L M ∧ M.length = j ∧ Below z U wr))
  case atStart => exact ⟨0, [], Nat.zero_le _, rfl, rfl, ⟨OwnPk.nil _ _, (fun i y hy => by simp at hy), fun x hx => by simp at hx⟩, rfl, Below.refl _ _⟩
  case round =>
    obtain ⟨j, M, hj, rfl, rfl, RW⟩ := hrel
    have HB : Hid (Below z U wr) := RW.out.2.2
    have cm := KC.out _ HB.out
    by_cases hlt0 : j < nn
    · have hlt : j < n := by omega
      have j1 : decide ((j : Int) < (n : Int)) = true := by rw [decide_eq_true_eq]; omega
      have j2 : decide ((j : Int) < 20) = true := by rw [decide_eq_true_eq]; omega
      have j3 : decide (j < 20) = true := by rw [decide_eq_true_eq]; omega
      obtain ⟨x', hx⟩ : ∃ x, L[j]? = some x := ⟨L[j]'(by rw [HLN.out]; exact hlt), by simp [HLN.out, hlt]⟩
      obtain ⟨b, off, rfl, hbw, hpc, hok⟩ := (KL.out _ HB.out).at hx
      obtain ⟨c0, c1, c2, c3⟩ := hpc
      have ri : IntKind.i64.wrap ((j : Int) + 1) = (j : Int) + 1 := by rw [IntKind.wrap_i64]; omega
      have HX : Hid (L[j]? = some x' ∧ PkOk wr x') := ⟨hx, hok⟩
      have hle := hok.le
      have hbg := hok.big
      clear hx hok
      obtain ⟨po, pN, pV, pl, pa, pn, pc⟩ := x'
      simp only at c0 c1 c2 c3 hle hbg
      obtain ⟨SN, hSN⟩ : ∃ S, S = tx pN := ⟨_, rfl⟩
      obtain ⟨SV, hSV⟩ : ∃ S, S = tx pV := ⟨_, rfl⟩
      have HS : Hid (SN = tx pN ∧ SV = tx pV) := ⟨hSN, hSV⟩
      rw [← hSN] at c1
      rw [← hSV] at c2
      generalize u6 = V at *
      clear hSN hSV
      by_cases h20 : 20 < pn
      · have d1 : decide ((20 : Int) < (pn : Int)) = true := by rw [decide_eq_true_eq]; omega
        have d2 : decide (20 < pn) = true := by rw [decide_eq_true_eq]; omega
        have q1 : (20 : Int) ≤ (pc : Int) := by omega
        have HQ : Hid ((pl.take 20).length = 20 ∧ InR ((wr.alloc (.cells #[.int .i64 po, .string SN, .string SV, .slice pa 20 pc] 42)).alloc (.cells #[] 46)) pa (pl.take 20) ∧ Dgs (pl.take 20) ∧ (pa = none → 20 = 0 ∧ pc = 0)) := by
          obtain ⟨hx, hok⟩ := HX.out
          refine ⟨?_, ?_, fun x hx => hok.dg x (List.mem_of_mem_take hx), ?_⟩
          · have := hok.len; rw [List.length_take]; simp only at this; omega
          · refine InR.keep (InR.keep ?_ (below1 wr _)) (below1 _ _)
            rcases hok.inr with e | ⟨b1, o1, e1, e2, e3⟩
            · simp only at e; rw [e]; exact .inl rfl
            · exact .inr ⟨b1, o1, e1, e2, fun i x hi => e3 i x (by rw [List.getElem?_take] at hi; split at hi <;> simp_all)⟩
          · intro e; have := HNL.out _ (List.mem_of_getElem? hx) e; simp only at this; omega
        have OE : Hid (OwnR ((wr.alloc (.cells #[.int .i64 po, .string SN, .string SV, .slice pa 20 pc] 42)).alloc (.cells #[] 46)) (wr.heap.size + 1) (.slice (some ⟨wr.heap.size + 1, 0, none⟩) 0 0) []) := by
          have := World.ownsRow_made (e := 46) (size := 33) (base := wr.heap.size + 1) (wr.alloc (.cells #[.int .i64 po, .string SN, .string SV, .slice pa 20 pc] 42)) #[] 0 (by simp) (by simp) (by simp)
          rw [show (wr.alloc (.cells #[.int .i64 po, .string SN, .string SV, .slice pa 20 pc] 42)).heap.size = wr.heap.size + 1 by simp] at this
          exact this
        have Z3 : Hid (20 ≤ 3518437208883 ∧ wr.heap.size + 1 ≤ ((wr.alloc (.cells #[.int .i64 po, .string SN, .string SV, .slice pa 20 pc] 42)).alloc (.cells #[] 46)).heap.size) := ⟨by omega, by simp⟩
        have P3 : Hid (((wr.alloc (.cells #[.int .i64 po, .string SN, .string SV, .slice pa 20 pc] 42)).alloc (.cells #[] 46)).heap[wr.heap.size]? = some (.cells #[.int .i64 po, .string SN, .string SV, .slice pa 20 pc] 42)) := (Below.heap_alloc _ _ _ (by simp)).trans (heap_alloc_new wr _)
        have HSZ : Hid (((wr.alloc (.cells #[.int .i64 po, .string SN, .string SV, .slice pa 20 pc] 42)).alloc (.cells #[] 46)).heap.size = wr.heap.size + 2) := by show _ = _; simp
        have BW : Hid (∀ k, k < wr.heap.size → ((wr.alloc (.cells #[.int .i64 po, .string SN, .string SV, .slice pa 20 pc] 42)).alloc (.cells #[] 46)).heap[k]? = wr.heap[k]?) := fun k hk => (Below.heap_alloc _ _ _ (by simp; omega)).trans (Below.heap_alloc _ _ _ hk)
        have EV : Hid (((wr.alloc (.cells #[.int .i64 po, .string SN, .string SV, .slice pa 20 pc] 42)).alloc (.cells #[] 46)).os = wr.os ∧ ((wr.alloc (.cells #[.int .i64 po, .string SN, .string SV, .slice pa 20 pc] 42)).alloc (.cells #[] 46)).tape = wr.tape ∧ ((wr.alloc (.cells #[.int .i64 po, .string SN, .string SV, .slice pa 20 pc] 42)).alloc (.cells #[] 46)).output = wr.output) := ⟨rfl, rfl, rfl⟩
        obtain ⟨W3, hW3⟩ : ∃ W3, W3 = ((wr.alloc (.cells #[.int .i64 po, .string SN, .string SV, .slice pa 20 pc] 42)).alloc (.cells #[] 46)) := ⟨_, rfl⟩
        simp only [← hW3] at HQ OE Z3 P3 HSZ BW EV
        have HW3 : Hid (W3 = ((wr.alloc (.cells #[.int .i64 po, .string SN, .string SV, .slice pa 20 pc] 42)).alloc (.cells #[] 46))) := hW3
        clear hW3
        go_upto_region 12 with (at_builtin; rw [← HW3.out]; refine appR rfl (.tmp 49) (.tmp 52) rfl (wr.heap.size + 1) _ rfl OE.out pa 20 pc (pl.take 20) rfl HQ.out.1 HQ.out.2.1 HQ.out.2.2.2 HQ.out.2.2.1 Z3.out.1 Z3.out.2 ?_; intro v5 u5 o5 g5; have O5 : Hid (OwnR u5 (wr.heap.size + 1) v5 (pl.take 20)) := o5; obtain ⟨a5, c5, rfl, i5, l5, m5, n5⟩ := OwnR.slice o5 HQ.out.2.2.1; have I5 : Hid (InR u5 a5 (pl.take 20)) := i5; have G5 : Hid (W3.grownBy u5 (some (wr.heap.size + 1))) := g5; have q5 : u5.heap[wr.heap.size]? = some (.cells #[.int .i64 po, .string SN, .string SV, .slice pa 20 pc] 42) := (g5.block wr.heap.size (by rw [HSZ.out]; omega) (by show ¬ some wr.heap.size = some (wr.heap.size + 1); simp)).trans P3.out; have Q5 : Hid (u5.heap[wr.heap.size]? = some (.cells #[.int .i64 po, .string SN, .string SV, .slice pa 20 pc] 42)) := q5; have fz := frozen_blk q5 3; have e0 : u5.cell? ⟨wr.heap.size, 0, none⟩ = some (.int .i64 po) := (by rw [cell_of_row _ wr.heap.size 0 _ _ (0, 0) q5]; rfl); have e1 : u5.cell? ⟨wr.heap.size, 1, none⟩ = some (.string SN) := (by rw [cell_of_row _ wr.heap.size 1 _ _ (0, 0) q5]; rfl); have e2 : u5.cell? ⟨wr.heap.size, 2, none⟩ = some (.string SV) := (by rw [cell_of_row _ wr.heap.size 2 _ _ (0, 0) q5]; rfl); have e3 : u5.cell? ⟨wr.heap.size, 3, none⟩ = some (.slice pa 20 pc) := (by rw [cell_of_row _ wr.heap.size 3 _ _ (0, 0) q5]; rfl); rw [HQ.out.1] at l5 ⊢; clear o5 i5 g5 q5)
        have q6 := setCell_blk (i := 3) (.slice a5 20 c5) Q5.out
        have b6 : ∀ k, k < wr.heap.size → (u5.setCell ⟨wr.heap.size, 3, none⟩ (.slice a5 20 c5)).heap[k]? = wr.heap[k]? := fun k hk => by
          rw [set_off u5 wr.heap.size 3 k _ (by omega), G5.out.block k (by rw [HSZ.out]; omega) (by simp; omega)]
          exact BW.out k hk
        have z6 : (u5.setCell ⟨wr.heap.size, 3, none⟩ (.slice a5 20 c5)).heap.size = u5.heap.size := by simp [World.setCell]
        have hz5 : wr.heap.size + 2 ≤ u5.heap.size := by have := G5.out.size; rw [HSZ.out] at this; exact this
        have y6 : ∀ k, wr.heap.size < k → (u5.setCell ⟨wr.heap.size, 3, none⟩ (.slice a5 20 c5)).heap[k]? = u5.heap[k]? := fun k hk => set_off u5 wr.heap.size 3 k _ (by omega)
        have v6 : (u5.setCell ⟨wr.heap.size, 3, none⟩ (.slice a5 20 c5)).os = wr.os ∧ (u5.setCell ⟨wr.heap.size, 3, none⟩ (.slice a5 20 c5)).tape = wr.tape ∧ (u5.setCell ⟨wr.heap.size, 3, none⟩ (.slice a5 20 c5)).output = wr.output := ⟨G5.out.os.trans EV.out.1, G5.out.tape.trans EV.out.2.1, G5.out.output.trans EV.out.2.2⟩
        generalize u5.setCell ⟨wr.heap.size, 3, none⟩ (.slice a5 20 c5) = U6 at *
        have H6 : Hid ((∀ k, k < wr.heap.size → U6.heap[k]? = wr.heap[k]?) ∧ U6.heap.size = u5.heap.size ∧ wr.heap.size + 2 ≤ u5.heap.size ∧ (∀ k, wr.heap.size < k → U6.heap[k]? = u5.heap[k]?) ∧ (U6.os = wr.os ∧ U6.tape = wr.tape ∧ U6.output = wr.output)) := ⟨b6, z6, hz5, y6, v6⟩
        have r0 : U6.cell? ⟨wr.heap.size, 0, none⟩ = some (.int .i64 po) := by rw [cell_of_row _ wr.heap.size 0 _ _ (0, 0) q6]; rfl
        have r1 : U6.cell? ⟨wr.heap.size, 1, none⟩ = some (.string SN) := by rw [cell_of_row _ wr.heap.size 1 _ _ (0, 0) q6]; rfl
        have r2 : U6.cell? ⟨wr.heap.size, 2, none⟩ = some (.string SV) := by rw [cell_of_row _ wr.heap.size 2 _ _ (0, 0) q6]; rfl
        have r3 : U6.cell? ⟨wr.heap.size, 3, none⟩ = some (.slice a5 20 c5) := by rw [cell_of_row _ wr.heap.size 3 _ _ (0, 0) q6]; rfl
        have L5 : Hid (20 ≤ c5 ∧ c5 ≤ 9223372036854775807 ∧ (a5 = none → c5 = 0)) := ⟨l5, m5, n5⟩
        clear q6 b6 z6 hz5 y6 v6 l5 m5 n5 fz e0 e1 e2 e3 c0 c1 c2 c3 cm
        have hzw : z ≤ wr.heap.size := by have := HB.out.size; have := HZ.out.1; omega
        have S6 : Below z U U6 := ⟨H6.out.2.2.2.2.1.trans HB.out.os, H6.out.2.2.2.2.2.1.trans HB.out.tape, H6.out.2.2.2.2.2.2.trans HB.out.output, by have := HB.out.size; have := H6.out.2.1; have := H6.out.2.2.1; omega, fun k hk => (H6.out.1 k (by omega)).trans (HB.out.block k hk)⟩
        have S7 : Hid (Below z U (U6.alloc (.cells #[.int .i64 po, .string SN, .string SV, .slice a5 20 c5] 42))) := S6.alloc (by have := H6.out.2.1; have := H6.out.2.2.1; omega) _
        have hb7 : ∀ k, k < wr.heap.size → (U6.alloc (.cells #[.int .i64 po, .string SN, .string SV, .slice a5 20 c5] 42)).heap[k]? = wr.heap[k]? := fun k hk => (Below.heap_alloc _ _ _ (by have := H6.out.2.1; have := H6.out.2.2.1; omega)).trans (H6.out.1 k hk)
        have O7 : Hid (OwnPk (U6.alloc (.cells #[.int .i64 po, .string SN, .string SV, .slice a5 20 c5] 42)) z V M) := RW.out.1.1.kept fun k hk => hb7 k (RW.out.1.1.own k hk).2
        have hy7 : ∀ q, a5 = some q → wr.heap.size + 1 ≤ q.block ∧ (U6.alloc (.cells #[.int .i64 po, .string SN, .string SV, .slice a5 20 c5] 42)).heap[q.block]? = u5.heap[q.block]? ∧ ∃ cs, u5.heap[q.block]? = some (.cells cs 46) := fun q hq => by
          obtain ⟨h1, h2, h3⟩ := O5.out.at q hq
          exact ⟨h1, (Below.heap_alloc _ _ _ (by have := H6.out.2.1; omega)).trans (H6.out.2.2.2.1 _ (by omega)), h3⟩
        have hs7 : (U6.alloc (.cells #[.int .i64 po, .string SN, .string SV, .slice a5 20 c5] 42)).heap.size = u5.heap.size + 1 := by simp [H6.out.2.1]
        have FS : Hid (∀ v8 u8, OwnPk u8 z v8 (M ++ [⟨po, pN, pV, pl.take 20, a5, 20, c5⟩]) → (U6.alloc (.cells #[.int .i64 po, .string SN, .string SV, .slice a5 20 c5] 42)).grownBy u8 V.ownBlock → Few u8 z v8 L (M ++ [⟨po, pN, pV, pl.take 20, a5, 20, c5⟩]) ∧ Below z U u8) := fun v8 u8 o8 g8 => by
          refine ⟨few_more RW.out.1 RW.out.2.1 HX.out.1 ⟨rfl, rfl, rfl, rfl⟩ ⟨I5.out.kept (by omega) (fun q hq _ => (hy7 q hq).2.1), HQ.out.1, L5.out.1, by have := Z3.out.1; simp only; omega, HQ.out.2.2.1, HX.out.2.sn, HX.out.2.sv⟩ ?_ (fun e => (by have e0 := L5.out.2.2 e; have e1 := L5.out.1; exact ⟨by simp only; omega, e0⟩)) (by have := H6.out.2.2.1; omega) hb7 o8 g8, S7.out.grown g8 (by have := H6.out.2.2.1; omega) (fun k hk => (RW.out.1.1.own k hk).1)⟩
          intro q hq
          obtain ⟨h1, h2, cs, h3⟩ := hy7 q hq
          exact ⟨by omega, by omega, cs, h2.trans h3⟩
        clear S6 hb7 hy7 hs7 hzw
        have P7 : Hid ((U6.alloc (.cells #[.int .i64 po, .string SN, .string SV, .slice a5 20 c5] 42)).heap[U6.heap.size]? = some (.cells (pkC ⟨po, pN, pV, pl.take 20, a5, 20, c5⟩) 42)) := by
          have := heap_alloc_new U6 (.cells #[.int .i64 po, .string SN, .string SV, .slice a5 20 c5] 42)
          unfold pkC
          simp only
          rw [← HS.out.1, ← HS.out.2]
          exact this
        have N7 : Hid (M.length ≤ 1000000000 ∧ z ≤ (U6.alloc (.cells #[.int .i64 po, .string SN, .string SV, .slice a5 20 c5] 42)).heap.size) := ⟨by have := RW.out.2.1; omega, by have := S7.out.size; have := HZ.out.1; omega⟩
        go_wp2_with (at_builtin; refine append_pack rfl (.tmp 56) (.tmp 58) rfl z _ M rfl O7.out U6.heap.size 1 _ rfl P7.out N7.out.1 N7.out.2 ?_; intro v8 u8 o8 g8; have F8 : Hid (Few u8 z v8 L (M ++ [⟨po, pN, pV, pl.take 20, a5, 20, c5⟩]) ∧ Below z U u8) := FS.out v8 u8 o8 g8; clear o8 g8)
        go_roundg (nn - (j + 1))
        case measure => omega
        case rel => exact ⟨j + 1, M ++ [⟨po, pN, pV, pl.take 20, a5, 20, c5⟩], by omega, rfl, rfl, F8.out.1, by rw [List.length_append, RW.out.2.1]; rfl, F8.out.2⟩
      · have d1 : decide ((20 : Int) < (pn : Int)) = false := by rw [decide_eq_false_iff_not]; omega
        have d2 : decide (20 < pn) = false := by rw [decide_eq_false_iff_not]; omega
        have HQ : Hid ((pl.take 20).length = pn ∧ InR ((wr.alloc (.cells #[.int .i64 po, .string SN, .string SV, .slice pa pn pc] 42)).alloc (.cells #[] 46)) pa (pl.take 20) ∧ Dgs (pl.take 20) ∧ (pa = none → pn = 0 ∧ pc = 0)) := by
          obtain ⟨hx, hok⟩ := HX.out
          refine ⟨?_, ?_, fun x hx => hok.dg x (List.mem_of_mem_take hx), ?_⟩
          · have := hok.len; rw [List.length_take]; simp only at this; omega
          · refine InR.keep (InR.keep ?_ (below1 wr _)) (below1 _ _)
            rcases hok.inr with e | ⟨b1, o1, e1, e2, e3⟩
            · simp only at e; rw [e]; exact .inl rfl
            · exact .inr ⟨b1, o1, e1, e2, fun i x hi => e3 i x (by rw [List.getElem?_take] at hi; split at hi <;> simp_all)⟩
          · intro e; have := HNL.out _ (List.mem_of_getElem? hx) e; simp only at this; omega
        have OE : Hid (OwnR ((wr.alloc (.cells #[.int .i64 po, .string SN, .string SV, .slice pa pn pc] 42)).alloc (.cells #[] 46)) (wr.heap.size + 1) (.slice (some ⟨wr.heap.size + 1, 0, none⟩) 0 0) []) := by
          have := World.ownsRow_made (e := 46) (size := 33) (base := wr.heap.size + 1) (wr.alloc (.cells #[.int .i64 po, .string SN, .string SV, .slice pa pn pc] 42)) #[] 0 (by simp) (by simp) (by simp)
          rw [show (wr.alloc (.cells #[.int .i64 po, .string SN, .string SV, .slice pa pn pc] 42)).heap.size = wr.heap.size + 1 by simp] at this
          exact this
        have Z3 : Hid (pn ≤ 3518437208883 ∧ wr.heap.size + 1 ≤ ((wr.alloc (.cells #[.int .i64 po, .string SN, .string SV, .slice pa pn pc] 42)).alloc (.cells #[] 46)).heap.size) := ⟨by omega, by simp⟩
        have P3 : Hid (((wr.alloc (.cells #[.int .i64 po, .string SN, .string SV, .slice pa pn pc] 42)).alloc (.cells #[] 46)).heap[wr.heap.size]? = some (.cells #[.int .i64 po, .string SN, .string SV, .slice pa pn pc] 42)) := (Below.heap_alloc _ _ _ (by simp)).trans (heap_alloc_new wr _)
        have HSZ : Hid (((wr.alloc (.cells #[.int .i64 po, .string SN, .string SV, .slice pa pn pc] 42)).alloc (.cells #[] 46)).heap.size = wr.heap.size + 2) := by show _ = _; simp
        have BW : Hid (∀ k, k < wr.heap.size → ((wr.alloc (.cells #[.int .i64 po, .string SN, .string SV, .slice pa pn pc] 42)).alloc (.cells #[] 46)).heap[k]? = wr.heap[k]?) := fun k hk => (Below.heap_alloc _ _ _ (by simp; omega)).trans (Below.heap_alloc _ _ _ hk)
        have EV : Hid (((wr.alloc (.cells #[.int .i64 po, .string SN, .string SV, .slice pa pn pc] 42)).alloc (.cells #[] 46)).os = wr.os ∧ ((wr.alloc (.cells #[.int .i64 po, .string SN, .string SV, .slice pa pn pc] 42)).alloc (.cells #[] 46)).tape = wr.tape ∧ ((wr.alloc (.cells #[.int .i64 po, .string SN, .string SV, .slice pa pn pc] 42)).alloc (.cells #[] 46)).output = wr.output) := ⟨rfl, rfl, rfl⟩
        obtain ⟨W3, hW3⟩ : ∃ W3, W3 = ((wr.alloc (.cells #[.int .i64 po, .string SN, .string SV, .slice pa pn pc] 42)).alloc (.cells #[] 46)) := ⟨_, rfl⟩
        simp only [← hW3] at HQ OE Z3 P3 HSZ BW EV
        have HW3 : Hid (W3 = ((wr.alloc (.cells #[.int .i64 po, .string SN, .string SV, .slice pa pn pc] 42)).alloc (.cells #[] 46))) := hW3
        clear hW3
        go_upto_region 12 with (at_builtin; rw [← HW3.out]; refine appR rfl (.tmp 49) (.tmp 52) rfl (wr.heap.size + 1) _ rfl OE.out pa pn pc (pl.take 20) rfl HQ.out.1 HQ.out.2.1 HQ.out.2.2.2 HQ.out.2.2.1 Z3.out.1 Z3.out.2 ?_; intro v5 u5 o5 g5; have O5 : Hid (OwnR u5 (wr.heap.size + 1) v5 (pl.take 20)) := o5; obtain ⟨a5, c5, rfl, i5, l5, m5, n5⟩ := OwnR.slice o5 HQ.out.2.2.1; have I5 : Hid (InR u5 a5 (pl.take 20)) := i5; have G5 : Hid (W3.grownBy u5 (some (wr.heap.size + 1))) := g5; have q5 : u5.heap[wr.heap.size]? = some (.cells #[.int .i64 po, .string SN, .string SV, .slice pa pn pc] 42) := (g5.block wr.heap.size (by rw [HSZ.out]; omega) (by show ¬ some wr.heap.size = some (wr.heap.size + 1); simp)).trans P3.out; have Q5 : Hid (u5.heap[wr.heap.size]? = some (.cells #[.int .i64 po, .string SN, .string SV, .slice pa pn pc] 42)) := q5; have fz := frozen_blk q5 3; have e0 : u5.cell? ⟨wr.heap.size, 0, none⟩ = some (.int .i64 po) := (by rw [cell_of_row _ wr.heap.size 0 _ _ (0, 0) q5]; rfl); have e1 : u5.cell? ⟨wr.heap.size, 1, none⟩ = some (.string SN) := (by rw [cell_of_row _ wr.heap.size 1 _ _ (0, 0) q5]; rfl); have e2 : u5.cell? ⟨wr.heap.size, 2, none⟩ = some (.string SV) := (by rw [cell_of_row _ wr.heap.size 2 _ _ (0, 0) q5]; rfl); have e3 : u5.cell? ⟨wr.heap.size, 3, none⟩ = some (.slice pa pn pc) := (by rw [cell_of_row _ wr.heap.size 3 _ _ (0, 0) q5]; rfl); rw [HQ.out.1] at l5 ⊢; clear o5 i5 g5 q5)
        have q6 := setCell_blk (i := 3) (.slice a5 pn c5) Q5.out
        have b6 : ∀ k, k < wr.heap.size → (u5.setCell ⟨wr.heap.size, 3, none⟩ (.slice a5 pn c5)).heap[k]? = wr.heap[k]? := fun k hk => by
          rw [set_off u5 wr.heap.size 3 k _ (by omega), G5.out.block k (by rw [HSZ.out]; omega) (by simp; omega)]
          exact BW.out k hk
        have z6 : (u5.setCell ⟨wr.heap.size, 3, none⟩ (.slice a5 pn c5)).heap.size = u5.heap.size := by simp [World.setCell]
        have hz5 : wr.heap.size + 2 ≤ u5.heap.size := by have := G5.out.size; rw [HSZ.out] at this; exact this
        have y6 : ∀ k, wr.heap.size < k → (u5.setCell ⟨wr.heap.size, 3, none⟩ (.slice a5 pn c5)).heap[k]? = u5.heap[k]? := fun k hk => set_off u5 wr.heap.size 3 k _ (by omega)
        have v6 : (u5.setCell ⟨wr.heap.size, 3, none⟩ (.slice a5 pn c5)).os = wr.os ∧ (u5.setCell ⟨wr.heap.size, 3, none⟩ (.slice a5 pn c5)).tape = wr.tape ∧ (u5.setCell ⟨wr.heap.size, 3, none⟩ (.slice a5 pn c5)).output = wr.output := ⟨G5.out.os.trans EV.out.1, G5.out.tape.trans EV.out.2.1, G5.out.output.trans EV.out.2.2⟩
        generalize u5.setCell ⟨wr.heap.size, 3, none⟩ (.slice a5 pn c5) = U6 at *
        have H6 : Hid ((∀ k, k < wr.heap.size → U6.heap[k]? = wr.heap[k]?) ∧ U6.heap.size = u5.heap.size ∧ wr.heap.size + 2 ≤ u5.heap.size ∧ (∀ k, wr.heap.size < k → U6.heap[k]? = u5.heap[k]?) ∧ (U6.os = wr.os ∧ U6.tape = wr.tape ∧ U6.output = wr.output)) := ⟨b6, z6, hz5, y6, v6⟩
        have r0 : U6.cell? ⟨wr.heap.size, 0, none⟩ = some (.int .i64 po) := by rw [cell_of_row _ wr.heap.size 0 _ _ (0, 0) q6]; rfl
        have r1 : U6.cell? ⟨wr.heap.size, 1, none⟩ = some (.string SN) := by rw [cell_of_row _ wr.heap.size 1 _ _ (0, 0) q6]; rfl
        have r2 : U6.cell? ⟨wr.heap.size, 2, none⟩ = some (.string SV) := by rw [cell_of_row _ wr.heap.size 2 _ _ (0, 0) q6]; rfl
        have r3 : U6.cell? ⟨wr.heap.size, 3, none⟩ = some (.slice a5 pn c5) := by rw [cell_of_row _ wr.heap.size 3 _ _ (0, 0) q6]; rfl
        have L5 : Hid (pn ≤ c5 ∧ c5 ≤ 9223372036854775807 ∧ (a5 = none → c5 = 0)) := ⟨l5, m5, n5⟩
        clear q6 b6 z6 hz5 y6 v6 l5 m5 n5 fz e0 e1 e2 e3 c0 c1 c2 c3 cm
        have hzw : z ≤ wr.heap.size := by have := HB.out.size; have := HZ.out.1; omega
        have S6 : Below z U U6 := ⟨H6.out.2.2.2.2.1.trans HB.out.os, H6.out.2.2.2.2.2.1.trans HB.out.tape, H6.out.2.2.2.2.2.2.trans HB.out.output, by have := HB.out.size; have := H6.out.2.1; have := H6.out.2.2.1; omega, fun k hk => (H6.out.1 k (by omega)).trans (HB.out.block k hk)⟩
        have S7 : Hid (Below z U (U6.alloc (.cells #[.int .i64 po, .string SN, .string SV, .slice a5 pn c5] 42))) := S6.alloc (by have := H6.out.2.1; have := H6.out.2.2.1; omega) _
        have hb7 : ∀ k, k < wr.heap.size → (U6.alloc (.cells #[.int .i64 po, .string SN, .string SV, .slice a5 pn c5] 42)).heap[k]? = wr.heap[k]? := fun k hk => (Below.heap_alloc _ _ _ (by have := H6.out.2.1; have := H6.out.2.2.1; omega)).trans (H6.out.1 k hk)
        have O7 : Hid (OwnPk (U6.alloc (.cells #[.int .i64 po, .string SN, .string SV, .slice a5 pn c5] 42)) z V M) := RW.out.1.1.kept fun k hk => hb7 k (RW.out.1.1.own k hk).2
        have hy7 : ∀ q, a5 = some q → wr.heap.size + 1 ≤ q.block ∧ (U6.alloc (.cells #[.int .i64 po, .string SN, .string SV, .slice a5 pn c5] 42)).heap[q.block]? = u5.heap[q.block]? ∧ ∃ cs, u5.heap[q.block]? = some (.cells cs 46) := fun q hq => by
          obtain ⟨h1, h2, h3⟩ := O5.out.at q hq
          exact ⟨h1, (Below.heap_alloc _ _ _ (by have := H6.out.2.1; omega)).trans (H6.out.2.2.2.1 _ (by omega)), h3⟩
        have hs7 : (U6.alloc (.cells #[.int .i64 po, .string SN, .string SV, .slice a5 pn c5] 42)).heap.size = u5.heap.size + 1 := by simp [H6.out.2.1]
        have FS : Hid (∀ v8 u8, OwnPk u8 z v8 (M ++ [⟨po, pN, pV, pl.take 20, a5, pn, c5⟩]) → (U6.alloc (.cells #[.int .i64 po, .string SN, .string SV, .slice a5 pn c5] 42)).grownBy u8 V.ownBlock → Few u8 z v8 L (M ++ [⟨po, pN, pV, pl.take 20, a5, pn, c5⟩]) ∧ Below z U u8) := fun v8 u8 o8 g8 => by
          refine ⟨few_more RW.out.1 RW.out.2.1 HX.out.1 ⟨rfl, rfl, rfl, rfl⟩ ⟨I5.out.kept (by omega) (fun q hq _ => (hy7 q hq).2.1), HQ.out.1, L5.out.1, by have := Z3.out.1; simp only; omega, HQ.out.2.2.1, HX.out.2.sn, HX.out.2.sv⟩ ?_ (fun e => (by have e0 := L5.out.2.2 e; have e1 := L5.out.1; exact ⟨by simp only; omega, e0⟩)) (by have := H6.out.2.2.1; omega) hb7 o8 g8, S7.out.grown g8 (by have := H6.out.2.2.1; omega) (fun k hk => (RW.out.1.1.own k hk).1)⟩
          intro q hq
          obtain ⟨h1, h2, cs, h3⟩ := hy7 q hq
          exact ⟨by omega, by omega, cs, h2.trans h3⟩
        clear S6 hb7 hy7 hs7 hzw
        have P7 : Hid ((U6.alloc (.cells #[.int .i64 po, .string SN, .string SV, .slice a5 pn c5] 42)).heap[U6.heap.size]? = some (.cells (pkC ⟨po, pN, pV, pl.take 20, a5, pn, c5⟩) 42)) := by
          have := heap_alloc_new U6 (.cells #[.int .i64 po, .string SN, .string SV, .slice a5 pn c5] 42)
          unfold pkC
          simp only
          rw [← HS.out.1, ← HS.out.2]
          exact this
        have N7 : Hid (M.length ≤ 1000000000 ∧ z ≤ (U6.alloc (.cells #[.int .i64 po, .string SN, .string SV, .slice a5 pn c5] 42)).heap.size) := ⟨by have := RW.out.2.1; omega, by have := S7.out.size; have := HZ.out.1; omega⟩
        go_wp2_with (at_builtin; refine append_pack rfl (.tmp 56) (.tmp 58) rfl z _ M rfl O7.out U6.heap.size 1 _ rfl P7.out N7.out.1 N7.out.2 ?_; intro v8 u8 o8 g8; have F8 : Hid (Few u8 z v8 L (M ++ [⟨po, pN, pV, pl.take 20, a5, pn, c5⟩]) ∧ Below z U u8) := FS.out v8 u8 o8 g8; clear o8 g8)
        go_roundg (nn - (j + 1))
        case measure => omega
        case rel => exact ⟨j + 1, M ++ [⟨po, pN, pV, pl.take 20, a5, pn, c5⟩], by omega, rfl, rfl, F8.out.1, by rw [List.length_append, RW.out.2.1]; rfl, F8.out.2⟩
    · have j1 : (decide ((j : Int) < (n : Int)) = false) ∨ (decide ((j : Int) < (n : Int)) = true ∧ decide ((j : Int) < 20) = false) := by
        by_cases hjn : j < n
        · right
          refine ⟨by rw [decide_eq_true_eq]; omega, by rw [decide_eq_false_iff_not]; have := HNN.out; omega⟩
        · left
          rw [decide_eq_false_iff_not]; omega
      obtain ⟨a9, c9, e9, _⟩ := RW.out.1.1.slice (fun x hx => (RW.out.1.2.2 x hx).1)
      obtain ⟨m9, hm9⟩ : ∃ m9, m9 = M.length := ⟨_, rfl⟩
      rw [← hm9] at e9
      have HM9 : Hid (M.length = m9) := hm9.symm
      have t1 := (HB.out.block (w.heap.size + 1) (by have := HZ.out; omega)).trans HU.out.2.1
      have fz := frozen_blk t1 5
      have T1 : Hid (wr.heap[w.heap.size + 1]? = some (.cells #[.int .i64 k, .int .i64 f, .int .i64 t, .int .i64 x, .bool y, .slice a n c] 27)) := t1
      clear t1 hm9
      subst e9
      rcases j1 with j1 | ⟨j1, j2⟩
      · have j1n : decide (j < n) = false := by rw [decide_eq_false_iff_not]; have := of_decide_eq_false j1; omega
        have j1m : ¬ (j : Int) < (n : Int) := of_decide_eq_false j1
        go_upto_region 14 with fail
        have y2 : (wr.setCell ⟨w.heap.size + 1, 5, none⟩ (.slice a9 m9 c9)).heap[w.heap.size + 1]? = some (.cells #[.int .i64 k, .int .i64 f, .int .i64 t, .int .i64 x, .bool y, .slice a9 m9 c9] 27) := setCell_blk (i := 5) (.slice a9 m9 c9) T1.out
        have offY : ∀ k, k ≠ w.heap.size + 1 → (wr.setCell ⟨w.heap.size + 1, 5, none⟩ (.slice a9 m9 c9)).heap[k]? = wr.heap[k]? := fun k hk => set_off wr (w.heap.size + 1) 5 k _ hk
        have hzz := HZ.out
        have y1 : (wr.setCell ⟨w.heap.size + 1, 5, none⟩ (.slice a9 m9 c9)).heap[w.heap.size]? = some (.cells #[.int .i64 r, .int .i64 s, .slice a5 m5 c5] 24) := (offY _ (by omega)).trans ((HB.out.block _ (by omega)).trans HU.out.1)
        have y3 : (wr.setCell ⟨w.heap.size + 1, 5, none⟩ (.slice a9 m9 c9)).heap[w.heap.size + 2]? = some (.cells #[.int .i64 0, .int .i64 0, .slice none 0 0] 24) := (offY _ (by omega)).trans ((HB.out.block _ (by omega)).trans HU.out.2.2.1)
        have y4 : (wr.setCell ⟨w.heap.size + 1, 5, none⟩ (.slice a9 m9 c9)).heap[w.heap.size + 3]? = some (.cells #[.int .i64 0, .int .i64 0, .int .i64 0, .int .i64 0, .bool false, .slice none 0 0] 27) := (offY _ (by omega)).trans ((HB.out.block _ (by omega)).trans HU.out.2.2.2.1)
        have sY : (wr.setCell ⟨w.heap.size + 1, 5, none⟩ (.slice a9 m9 c9)).heap.size = wr.heap.size := by simp [World.setCell]
        have vY : (wr.setCell ⟨w.heap.size + 1, 5, none⟩ (.slice a9 m9 c9)).os = wr.os ∧ (wr.setCell ⟨w.heap.size + 1, 5, none⟩ (.slice a9 m9 c9)).tape = wr.tape ∧ (wr.setCell ⟨w.heap.size + 1, 5, none⟩ (.slice a9 m9 c9)).output = wr.output := ⟨rfl, rfl, rfl⟩
        generalize wr.setCell ⟨w.heap.size + 1, 5, none⟩ (.slice a9 m9 c9) = Y at *
        have HY : Hid (Y.heap[w.heap.size]? = some (.cells #[.int .i64 r, .int .i64 s, .slice a5 m5 c5] 24) ∧ Y.heap[w.heap.size + 1]? = some (.cells #[.int .i64 k, .int .i64 f, .int .i64 t, .int .i64 x, .bool y, .slice a9 m9 c9] 27) ∧ Y.heap[w.heap.size + 2]? = some (.cells #[.int .i64 0, .int .i64 0, .slice none 0 0] 24) ∧ Y.heap[w.heap.size + 3]? = some (.cells #[.int .i64 0, .int .i64 0, .int .i64 0, .int .i64 0, .bool false, .slice none 0 0] 27) ∧ (∀ k, k ≠ w.heap.size + 1 → Y.heap[k]? = wr.heap[k]?) ∧ Y.heap.size = wr.heap.size ∧ (Y.os = wr.os ∧ Y.tape = wr.tape ∧ Y.output = wr.output)) := ⟨y1, y2, y3, y4, offY, sY, vY⟩
        clear y1 y2 y3 y4 offY sY vY hzz fz cm
        have KY : Hid (∀ W : World, W.heap[w.heap.size]? = some (.cells #[.int .i64 r, .int .i64 s, .slice a5 m5 c5] 24) → W.cell? ⟨w.heap.size, 0, none⟩ = some (.int .i64 r) ∧ W.cell? ⟨w.heap.size, 1, none⟩ = some (.int .i64 s) ∧ W.cell? ⟨w.heap.size, 2, none⟩ = some (.slice a5 m5 c5)) := fun W p1 => by
          refine ⟨?_, ?_, ?_⟩
          · rw [cell_of_row _ w.heap.size 0 _ _ (0, 0) p1]; rfl
          · rw [cell_of_row _ w.heap.size 1 _ _ (0, 0) p1]; rfl
          · rw [cell_of_row _ w.heap.size 2 _ _ (0, 0) p1]; rfl
        have KX : Hid (∀ W : World, W.heap[w.heap.size + 1]? = some (.cells #[.int .i64 k, .int .i64 f, .int .i64 t, .int .i64 x, .bool y, .slice a9 m9 c9] 27) → W.cell? ⟨w.heap.size + 1, 0, none⟩ = some (.int .i64 k) ∧ W.cell? ⟨w.heap.size + 1, 1, none⟩ = some (.int .i64 f) ∧ W.cell? ⟨w.heap.size + 1, 2, none⟩ = some (.int .i64 t) ∧ W.cell? ⟨w.heap.size + 1, 3, none⟩ = some (.int .i64 x) ∧ W.cell? ⟨w.heap.size + 1, 4, none⟩ = some (.bool y) ∧ W.cell? ⟨w.heap.size + 1, 5, none⟩ = some (.slice a9 m9 c9)) := fun W p1 => by
          refine ⟨?_, ?_, ?_, ?_, ?_, ?_⟩
          · rw [cell_of_row _ (w.heap.size + 1) 0 _ _ (0, 0) p1]; rfl
          · rw [cell_of_row _ (w.heap.size + 1) 1 _ _ (0, 0) p1]; rfl
          · rw [cell_of_row _ (w.heap.size + 1) 2 _ _ (0, 0) p1]; rfl
          · rw [cell_of_row _ (w.heap.size + 1) 3 _ _ (0, 0) p1]; rfl
          · rw [cell_of_row _ (w.heap.size + 1) 4 _ _ (0, 0) p1]; rfl
          · rw [cell_of_row _ (w.heap.size + 1) 5 _ _ (0, 0) p1]; rfl
        refine wp_region_noPanic ?_
        refine wp_region_held_drew (S := (fun W : World => W.heap[w.heap.size]? = some (.cells #[.int .i64 r, .int .i64 s, .slice a5 m5 c5] 24) ∧ W.heap[w.heap.size + 1]? = some (.cells #[.int .i64 k, .int .i64 f, .int .i64 t, .int .i64 x, .bool y, .slice a9 m9 c9] 27))) (by kernel_rfl) ?hSaf (fun hHeld => ?restaf)
        case hSaf => exact ⟨HY.out.1, HY.out.2.1⟩
        case restaf =>
          refine wpAnyH_take (i := 0) (v := .agg #[.int .i64 r, .int .i64 s, .slice a5 m5 c5]) rfl (by kernel_rfl) (by kernel_rfl) (by kernel_rfl) (fun _ _ _ h => h) (Or.inl ⟨by kernel_rfl, ?hy0f⟩) hHeld ?rest0f
          case hy0f => (intro w' hSw; (try dsimp only at hSw); obtain ⟨q0, q1, q2⟩ := KY.out _ hSw.1; go_simp; try with_reducible rfl)
          try simp only [Act.put, List.setIfInBounds_toArray, List.set_cons_zero, List.set_cons_succ, List.getElem_toArray, List.getElem_cons_zero, List.getElem_cons_succ]
          refine wpAnyH_take (i := 1) (v := .agg #[.int .i64 k, .int .i64 f, .int .i64 t, .int .i64 x, .bool y, .slice a9 m9 c9]) rfl (by kernel_rfl) (by kernel_rfl) (by kernel_rfl) (fun _ _ _ h => h) (Or.inl ⟨by kernel_rfl, ?hy1f⟩) hHeld ?rest1f
          case hy1f => (intro w' hSw; (try dsimp only at hSw); obtain ⟨q0, q1, q2, q3, q4, q5⟩ := KX.out _ hSw.2; go_simp; try with_reducible rfl)
          try simp only [Act.put, List.setIfInBounds_toArray, List.set_cons_zero, List.set_cons_succ, List.getElem_toArray, List.getElem_cons_zero, List.getElem_cons_succ]
          have SS : Hid (∀ W : World, ∀ q C, q ≠ w.heap.size → q ≠ w.heap.size + 1 → W.heap[w.heap.size]? = some (.cells #[.int .i64 r, .int .i64 s, .slice a5 m5 c5] 24) ∧ W.heap[w.heap.size + 1]? = some (.cells #[.int .i64 k, .int .i64 f, .int .i64 t, .int .i64 x, .bool y, .slice a9 m9 c9] 27) → (W.setRow q C).heap[w.heap.size]? = some (.cells #[.int .i64 r, .int .i64 s, .slice a5 m5 c5] 24) ∧ (W.setRow q C).heap[w.heap.size + 1]? = some (.cells #[.int .i64 k, .int .i64 f, .int .i64 t, .int .i64 x, .bool y, .slice a9 m9 c9] 27)) := fun W q C h1 h2 h => ⟨(setRow_other _ _ _ _ (fun e => h1 e.symm)).trans h.1, (setRow_other _ _ _ _ (fun e => h2 e.symm)).trans h.2⟩
          have YD : Hid (Y.drew.heap[w.heap.size + 1 + 1]? = some (.cells #[.int .i64 0, .int .i64 0, .slice none 0 0] 24) ∧ (Y.drew.setRow (w.heap.size + 1 + 1) #[.int .i64 r, .int .i64 s, .slice a5 m5 c5]).heap[w.heap.size + 1 + 1 + 1]? = some (.cells #[.int .i64 0, .int .i64 0, .int .i64 0, .int .i64 0, .bool false, .slice none 0 0] 27)) := ⟨HY.out.2.2.1, (setRow_other _ _ _ _ (by omega)).trans HY.out.2.2.2.1⟩
          refine wpAnyH_ready (rs := [2]) (by kernel_rfl) (by simp) ?_
          refine AllReadyH.cons rfl (fun K hK => ?_) AllReadyH.nil
          rw [if_pos (by kernel_rfl)]; refine wp_store_row 24 (.tmp 4) (.tmp 62) rfl (w.heap.size + 1 + 1) #[.int .i64 r, .int .i64 s, .slice a5 m5 c5] rfl rfl 24 #[.int .i64 0, .int .i64 0, .slice none 0 0] YD.out.1 size3P rfl (by simp [Value.oneCell']) ?_
          refine hK.out _ _ ?hS2f (fun hHeld => ?rest2f)
          case hS2f => exact SS.out _ _ _ (by omega) (by omega) hHeld
          clear hK K
          refine wpAnyH_ready (rs := [3]) (by kernel_rfl) (by simp) ?_
          refine AllReadyH.cons rfl (fun K hK => ?_) AllReadyH.nil
          rw [if_pos (by kernel_rfl)]; refine wp_store_row 27 (.tmp 5) (.tmp 63) rfl (w.heap.size + 1 + 1 + 1) #[.int .i64 k, .int .i64 f, .int .i64 t, .int .i64 x, .bool y, .slice a9 m9 c9] rfl rfl 27 #[.int .i64 0, .int .i64 0, .int .i64 0, .int .i64 0, .bool false, .slice none 0 0] YD.out.2 size6M rfl (by simp [Value.oneCell']) ?_
          refine hK.out _ _ ?hS3f (fun hHeld => ?rest3f)
          case hS3f => exact SS.out _ _ _ (by omega) (by omega) hHeld
          clear hK K
          refine wpAnyH_done (by kernel_rfl) ?_ _
          refine NoPanic.normal ?_
          go_wp2_with fail
          refine bodyPost_ret (results_pm rfl _ _ (w.heap.size + 1 + 1) (w.heap.size + 1 + 1 + 1) #[.int .i64 r, .int .i64 s, .slice a5 m5 c5] #[.int .i64 k, .int .i64 f, .int .i64 t, .int .i64 x, .bool y, .slice a9 m9 c9] rfl rfl rfl rfl ((setRow_other _ _ _ _ (by omega)).trans (setRow_heap _ _ _ _ _ _ YD.out.1)) (setRow_heap _ _ _ _ _ _ YD.out.2)) rfl ?_
          have oY : ∀ q, q ≠ w.heap.size + 1 → q ≠ w.heap.size + 2 → q ≠ w.heap.size + 3 → ((Y.drew.setRow (w.heap.size + 1 + 1) #[.int .i64 r, .int .i64 s, .slice a5 m5 c5]).setRow (w.heap.size + 1 + 1 + 1) #[.int .i64 k, .int .i64 f, .int .i64 t, .int .i64 x, .bool y, .slice a9 m9 c9]).heap[q]? = wr.heap[q]? := fun q h1 h2 h3 => (setRow_other _ _ _ _ (by omega)).trans ((setRow_other _ _ _ _ (by omega)).trans (HY.out.2.2.2.2.1 q h1))
          have sz : ((Y.drew.setRow (w.heap.size + 1 + 1) #[.int .i64 r, .int .i64 s, .slice a5 m5 c5]).setRow (w.heap.size + 1 + 1 + 1) #[.int .i64 k, .int .i64 f, .int .i64 t, .int .i64 x, .bool y, .slice a9 m9 c9]).heap.size = wr.heap.size := by rw [setRow_size, setRow_size]; exact HY.out.2.2.2.2.2.1
          have hzz := HZ.out
          have hbs := HB.out.size
          refine ⟨_, _, M, rfl, ?_, ?_, ?_, ?_⟩
          · rw [← HDT.out]
            refine OwnZ.base ?_ (Nat.le_add_right w.heap.size 4)
            exact HU.out.2.2.2.2.1.kept fun k hk => by
              have h1 := HU.out.2.2.2.2.1.own k hk
              exact (oY k (by omega) (by omega) (by omega)).trans (HB.out.block k (by omega))
          · have := few_end (w' := (Y.drew.setRow (w.heap.size + 1 + 1) #[.int .i64 r, .int .i64 s, .slice a5 m5 c5]).setRow (w.heap.size + 1 + 1 + 1) #[.int .i64 k, .int .i64 f, .int .i64 t, .int .i64 x, .bool y, .slice a9 m9 c9]) RW.out.1 (show w.heap.size ≤ z by omega) (by rw [sz]; exact Nat.le_refl _) (fun q hq => oY q (by omega) (by omega) (by omega))
            exact this
          · rw [HLN.out, ← HNN.out]; have := RW.out.2.1; omega
          · exact HU.out.2.2.2.2.2.trans ⟨HY.out.2.2.2.2.2.2.1.trans HB.out.os, HY.out.2.2.2.2.2.2.2.1.trans HB.out.tape, HY.out.2.2.2.2.2.2.2.2.trans HB.out.output, by rw [sz]; exact hbs, fun q hq => (oY q (by omega) (by omega) (by omega)).trans (HB.out.block q (by omega))⟩
      · have j2n : decide (j < 20) = false := by rw [decide_eq_false_iff_not]; have := of_decide_eq_false j2; omega
        have j1n : decide (j < n) = true := by rw [decide_eq_true_eq]; have := of_decide_eq_true j1; omega
        go_upto_region 14 with fail
        have y2 : (wr.setCell ⟨w.heap.size + 1, 5, none⟩ (.slice a9 m9 c9)).heap[w.heap.size + 1]? = some (.cells #[.int .i64 k, .int .i64 f, .int .i64 t, .int .i64 x, .bool y, .slice a9 m9 c9] 27) := setCell_blk (i := 5) (.slice a9 m9 c9) T1.out
        have offY : ∀ k, k ≠ w.heap.size + 1 → (wr.setCell ⟨w.heap.size + 1, 5, none⟩ (.slice a9 m9 c9)).heap[k]? = wr.heap[k]? := fun k hk => set_off wr (w.heap.size + 1) 5 k _ hk
        have hzz := HZ.out
        have y1 : (wr.setCell ⟨w.heap.size + 1, 5, none⟩ (.slice a9 m9 c9)).heap[w.heap.size]? = some (.cells #[.int .i64 r, .int .i64 s, .slice a5 m5 c5] 24) := (offY _ (by omega)).trans ((HB.out.block _ (by omega)).trans HU.out.1)
        have y3 : (wr.setCell ⟨w.heap.size + 1, 5, none⟩ (.slice a9 m9 c9)).heap[w.heap.size + 2]? = some (.cells #[.int .i64 0, .int .i64 0, .slice none 0 0] 24) := (offY _ (by omega)).trans ((HB.out.block _ (by omega)).trans HU.out.2.2.1)
        have y4 : (wr.setCell ⟨w.heap.size + 1, 5, none⟩ (.slice a9 m9 c9)).heap[w.heap.size + 3]? = some (.cells #[.int .i64 0, .int .i64 0, .int .i64 0, .int .i64 0, .bool false, .slice none 0 0] 27) := (offY _ (by omega)).trans ((HB.out.block _ (by omega)).trans HU.out.2.2.2.1)
        have sY : (wr.setCell ⟨w.heap.size + 1, 5, none⟩ (.slice a9 m9 c9)).heap.size = wr.heap.size := by simp [World.setCell]
        have vY : (wr.setCell ⟨w.heap.size + 1, 5, none⟩ (.slice a9 m9 c9)).os = wr.os ∧ (wr.setCell ⟨w.heap.size + 1, 5, none⟩ (.slice a9 m9 c9)).tape = wr.tape ∧ (wr.setCell ⟨w.heap.size + 1, 5, none⟩ (.slice a9 m9 c9)).output = wr.output := ⟨rfl, rfl, rfl⟩
        generalize wr.setCell ⟨w.heap.size + 1, 5, none⟩ (.slice a9 m9 c9) = Y at *
        have HY : Hid (Y.heap[w.heap.size]? = some (.cells #[.int .i64 r, .int .i64 s, .slice a5 m5 c5] 24) ∧ Y.heap[w.heap.size + 1]? = some (.cells #[.int .i64 k, .int .i64 f, .int .i64 t, .int .i64 x, .bool y, .slice a9 m9 c9] 27) ∧ Y.heap[w.heap.size + 2]? = some (.cells #[.int .i64 0, .int .i64 0, .slice none 0 0] 24) ∧ Y.heap[w.heap.size + 3]? = some (.cells #[.int .i64 0, .int .i64 0, .int .i64 0, .int .i64 0, .bool false, .slice none 0 0] 27) ∧ (∀ k, k ≠ w.heap.size + 1 → Y.heap[k]? = wr.heap[k]?) ∧ Y.heap.size = wr.heap.size ∧ (Y.os = wr.os ∧ Y.tape = wr.tape ∧ Y.output = wr.output)) := ⟨y1, y2, y3, y4, offY, sY, vY⟩
        clear y1 y2 y3 y4 offY sY vY hzz fz cm
        have KY : Hid (∀ W : World, W.heap[w.heap.size]? = some (.cells #[.int .i64 r, .int .i64 s, .slice a5 m5 c5] 24) → W.cell? ⟨w.heap.size, 0, none⟩ = some (.int .i64 r) ∧ W.cell? ⟨w.heap.size, 1, none⟩ = some (.int .i64 s) ∧ W.cell? ⟨w.heap.size, 2, none⟩ = some (.slice a5 m5 c5)) := fun W p1 => by
          refine ⟨?_, ?_, ?_⟩
          · rw [cell_of_row _ w.heap.size 0 _ _ (0, 0) p1]; rfl
          · rw [cell_of_row _ w.heap.size 1 _ _ (0, 0) p1]; rfl
          · rw [cell_of_row _ w.heap.size 2 _ _ (0, 0) p1]; rfl
        have KX : Hid (∀ W : World, W.heap[w.heap.size + 1]? = some (.cells #[.int .i64 k, .int .i64 f, .int .i64 t, .int .i64 x, .bool y, .slice a9 m9 c9] 27) → W.cell? ⟨w.heap.size + 1, 0, none⟩ = some (.int .i64 k) ∧ W.cell? ⟨w.heap.size + 1, 1, none⟩ = some (.int .i64 f) ∧ W.cell? ⟨w.heap.size + 1, 2, none⟩ = some (.int .i64 t) ∧ W.cell? ⟨w.heap.size + 1, 3, none⟩ = some (.int .i64 x) ∧ W.cell? ⟨w.heap.size + 1, 4, none⟩ = some (.bool y) ∧ W.cell? ⟨w.heap.size + 1, 5, none⟩ = some (.slice a9 m9 c9)) := fun W p1 => by
          refine ⟨?_, ?_, ?_, ?_, ?_, ?_⟩
          · rw [cell_of_row _ (w.heap.size + 1) 0 _ _ (0, 0) p1]; rfl
          · rw [cell_of_row _ (w.heap.size + 1) 1 _ _ (0, 0) p1]; rfl
          · rw [cell_of_row _ (w.heap.size + 1) 2 _ _ (0, 0) p1]; rfl
          · rw [cell_of_row _ (w.heap.size + 1) 3 _ _ (0, 0) p1]; rfl
          · rw [cell_of_row _ (w.heap.size + 1) 4 _ _ (0, 0) p1]; rfl
          · rw [cell_of_row _ (w.heap.size + 1) 5 _ _ (0, 0) p1]; rfl
        refine wp_region_noPanic ?_
        refine wp_region_held_drew (S := (fun W : World => W.heap[w.heap.size]? = some (.cells #[.int .i64 r, .int .i64 s, .slice a5 m5 c5] 24) ∧ W.heap[w.heap.size + 1]? = some (.cells #[.int .i64 k, .int .i64 f, .int .i64 t, .int .i64 x, .bool y, .slice a9 m9 c9] 27))) (by kernel_rfl) ?hSag (fun hHeld => ?restag)
        case hSag => exact ⟨HY.out.1, HY.out.2.1⟩
        case restag =>
          refine wpAnyH_take (i := 0) (v := .agg #[.int .i64 r, .int .i64 s, .slice a5 m5 c5]) rfl (by kernel_rfl) (by kernel_rfl) (by kernel_rfl) (fun _ _ _ h => h) (Or.inl ⟨by kernel_rfl, ?hy0g⟩) hHeld ?rest0g
          case hy0g => (intro w' hSw; (try dsimp only at hSw); obtain ⟨q0, q1, q2⟩ := KY.out _ hSw.1; go_simp; try with_reducible rfl)
          try simp only [Act.put, List.setIfInBounds_toArray, List.set_cons_zero, List.set_cons_succ, List.getElem_toArray, List.getElem_cons_zero, List.getElem_cons_succ]
          refine wpAnyH_take (i := 1) (v := .agg #[.int .i64 k, .int .i64 f, .int .i64 t, .int .i64 x, .bool y, .slice a9 m9 c9]) rfl (by kernel_rfl) (by kernel_rfl) (by kernel_rfl) (fun _ _ _ h => h) (Or.inl ⟨by kernel_rfl, ?hy1g⟩) hHeld ?rest1g
          case hy1g => (intro w' hSw; (try dsimp only at hSw); obtain ⟨q0, q1, q2, q3, q4, q5⟩ := KX.out _ hSw.2; go_simp; try with_reducible rfl)
          try simp only [Act.put, List.setIfInBounds_toArray, List.set_cons_zero, List.set_cons_succ, List.getElem_toArray, List.getElem_cons_zero, List.getElem_cons_succ]
          have SS : Hid (∀ W : World, ∀ q C, q ≠ w.heap.size → q ≠ w.heap.size + 1 → W.heap[w.heap.size]? = some (.cells #[.int .i64 r, .int .i64 s, .slice a5 m5 c5] 24) ∧ W.heap[w.heap.size + 1]? = some (.cells #[.int .i64 k, .int .i64 f, .int .i64 t, .int .i64 x, .bool y, .slice a9 m9 c9] 27) → (W.setRow q C).heap[w.heap.size]? = some (.cells #[.int .i64 r, .int .i64 s, .slice a5 m5 c5] 24) ∧ (W.setRow q C).heap[w.heap.size + 1]? = some (.cells #[.int .i64 k, .int .i64 f, .int .i64 t, .int .i64 x, .bool y, .slice a9 m9 c9] 27)) := fun W q C h1 h2 h => ⟨(setRow_other _ _ _ _ (fun e => h1 e.symm)).trans h.1, (setRow_other _ _ _ _ (fun e => h2 e.symm)).trans h.2⟩
          have YD : Hid (Y.drew.heap[w.heap.size + 1 + 1]? = some (.cells #[.int .i64 0, .int .i64 0, .slice none 0 0] 24) ∧ (Y.drew.setRow (w.heap.size + 1 + 1) #[.int .i64 r, .int .i64 s, .slice a5 m5 c5]).heap[w.heap.size + 1 + 1 + 1]? = some (.cells #[.int .i64 0, .int .i64 0, .int .i64 0, .int .i64 0, .bool false, .slice none 0 0] 27)) := ⟨HY.out.2.2.1, (setRow_other _ _ _ _ (by omega)).trans HY.out.2.2.2.1⟩
          refine wpAnyH_ready (rs := [2]) (by kernel_rfl) (by simp) ?_
          refine AllReadyH.cons rfl (fun K hK => ?_) AllReadyH.nil
          rw [if_pos (by kernel_rfl)]; refine wp_store_row 24 (.tmp 4) (.tmp 62) rfl (w.heap.size + 1 + 1) #[.int .i64 r, .int .i64 s, .slice a5 m5 c5] rfl rfl 24 #[.int .i64 0, .int .i64 0, .slice none 0 0] YD.out.1 size3P rfl (by simp [Value.oneCell']) ?_
          refine hK.out _ _ ?hS2g (fun hHeld => ?rest2g)
          case hS2g => exact SS.out _ _ _ (by omega) (by omega) hHeld
          clear hK K
          refine wpAnyH_ready (rs := [3]) (by kernel_rfl) (by simp) ?_
          refine AllReadyH.cons rfl (fun K hK => ?_) AllReadyH.nil
          rw [if_pos (by kernel_rfl)]; refine wp_store_row 27 (.tmp 5) (.tmp 63) rfl (w.heap.size + 1 + 1 + 1) #[.int .i64 k, .int .i64 f, .int .i64 t, .int .i64 x, .bool y, .slice a9 m9 c9] rfl rfl 27 #[.int .i64 0, .int .i64 0, .int .i64 0, .int .i64 0, .bool false, .slice none 0 0] YD.out.2 size6M rfl (by simp [Value.oneCell']) ?_
          refine hK.out _ _ ?hS3g (fun hHeld => ?rest3g)
          case hS3g => exact SS.out _ _ _ (by omega) (by omega) hHeld
          clear hK K
          refine wpAnyH_done (by kernel_rfl) ?_ _
          refine NoPanic.normal ?_
          go_wp2_with fail
          refine bodyPost_ret (results_pm rfl _ _ (w.heap.size + 1 + 1) (w.heap.size + 1 + 1 + 1) #[.int .i64 r, .int .i64 s, .slice a5 m5 c5] #[.int .i64 k, .int .i64 f, .int .i64 t, .int .i64 x, .bool y, .slice a9 m9 c9] rfl rfl rfl rfl ((setRow_other _ _ _ _ (by omega)).trans (setRow_heap _ _ _ _ _ _ YD.out.1)) (setRow_heap _ _ _ _ _ _ YD.out.2)) rfl ?_
          have oY : ∀ q, q ≠ w.heap.size + 1 → q ≠ w.heap.size + 2 → q ≠ w.heap.size + 3 → ((Y.drew.setRow (w.heap.size + 1 + 1) #[.int .i64 r, .int .i64 s, .slice a5 m5 c5]).setRow (w.heap.size + 1 + 1 + 1) #[.int .i64 k, .int .i64 f, .int .i64 t, .int .i64 x, .bool y, .slice a9 m9 c9]).heap[q]? = wr.heap[q]? := fun q h1 h2 h3 => (setRow_other _ _ _ _ (by omega)).trans ((setRow_other _ _ _ _ (by omega)).trans (HY.out.2.2.2.2.1 q h1))
          have sz : ((Y.drew.setRow (w.heap.size + 1 + 1) #[.int .i64 r, .int .i64 s, .slice a5 m5 c5]).setRow (w.heap.size + 1 + 1 + 1) #[.int .i64 k, .int .i64 f, .int .i64 t, .int .i64 x, .bool y, .slice a9 m9 c9]).heap.size = wr.heap.size := by rw [setRow_size, setRow_size]; exact HY.out.2.2.2.2.2.1
          have hzz := HZ.out
          have hbs := HB.out.size
          refine ⟨_, _, M, rfl, ?_, ?_, ?_, ?_⟩
          · rw [← HDT.out]
            refine OwnZ.base ?_ (Nat.le_add_right w.heap.size 4)
            exact HU.out.2.2.2.2.1.kept fun k hk => by
              have h1 := HU.out.2.2.2.2.1.own k hk
              exact (oY k (by omega) (by omega) (by omega)).trans (HB.out.block k (by omega))
          · have := few_end (w' := (Y.drew.setRow (w.heap.size + 1 + 1) #[.int .i64 r, .int .i64 s, .slice a5 m5 c5]).setRow (w.heap.size + 1 + 1 + 1) #[.int .i64 k, .int .i64 f, .int .i64 t, .int .i64 x, .bool y, .slice a9 m9 c9]) RW.out.1 (show w.heap.size ≤ z by omega) (by rw [sz]; exact Nat.le_refl _) (fun q hq => oY q (by omega) (by omega) (by omega))
            exact this
          · rw [HLN.out, ← HNN.out]; have := RW.out.2.1; omega
          · exact HU.out.2.2.2.2.2.trans ⟨HY.out.2.2.2.2.2.2.1.trans HB.out.os, HY.out.2.2.2.2.2.2.2.1.trans HB.out.tape, HY.out.2.2.2.2.2.2.2.2.trans HB.out.output, by rw [sz]; exact hbs, fun q hq => (oY q (by omega) (by omega) (by omega)).trans (HB.out.block q (by omega))⟩
set_option maxRecDepth 100000 in
set_option maxHeartbeats 8000000 in
theorem fewp_big (w : World) (r s : Int) (ad : Option Addr) (nd cd : Nat) (D : List Int) (hnd : D.length = nd) (hD : InZ w ad D) (hda : ad = none → nd = 0 ∧ cd = 0) (hdc : nd ≤ cd) (k f t x : Int) (y : Bool) (a : Option Addr) (n c : Nat) (L : List Pk) (hn : L.length = n) (hL : InPk w a L) (hc : n ≤ c) (hnl : ∀ x ∈ L, x.la = none → x.ln = 0 ∧ x.lc = 0) (hq : 100 < nd) :
    Calls Try.prog 9 #[.agg #[.int .i64 r, .int .i64 s, .slice ad nd cd], .agg #[.int .i64 k, .int .i64 f, .int .i64 t, .int .i64 x, .bool y, .slice a n c]] w (fun e w' => FwSaid w w' r s k f t x y D L e) := by
  have d0 : decide ((100 : Int) < (nd : Int)) = true := by rw [decide_eq_true_eq]; omega
  have d00 : decide (100 < nd) = true := by rw [decide_eq_true_eq]; omega
  have q0 : (100 : Int) ≤ (cd : Int) := by omega
  obtain ⟨qq, hqq⟩ : ∃ qq : Nat, qq = 100 := ⟨_, rfl⟩
  obtain ⟨W5, hW5⟩ : ∃ W5, W5 = ((((w.alloc (.cells #[.int .i64 r, .int .i64 s, .slice ad 100 cd] 24)).alloc (.cells #[.int .i64 k, .int .i64 f, .int .i64 t, .int .i64 x, .bool y, .slice a n c] 27)).alloc (.cells #[.int .i64 0, .int .i64 0, .slice none 0 0] 24)).alloc (.cells #[.int .i64 0, .int .i64 0, .int .i64 0, .int .i64 0, .bool false, .slice none 0 0] 27)).alloc (.cells #[] 3) := ⟨_, rfl⟩
  have HE5 : Hid (W5 = ((((w.alloc (.cells #[.int .i64 r, .int .i64 s, .slice ad 100 cd] 24)).alloc (.cells #[.int .i64 k, .int .i64 f, .int .i64 t, .int .i64 x, .bool y, .slice a n c] 27)).alloc (.cells #[.int .i64 0, .int .i64 0, .slice none 0 0] 24)).alloc (.cells #[.int .i64 0, .int .i64 0, .int .i64 0, .int .i64 0, .bool false, .slice none 0 0] 27)).alloc (.cells #[] 3)) := hW5
  obtain ⟨f1, f2, f3, f4, f5⟩ := heap_four w (.cells #[.int .i64 r, .int .i64 s, .slice ad 100 cd] 24) (.cells #[.int .i64 k, .int .i64 f, .int .i64 t, .int .i64 x, .bool y, .slice a n c] 27) (.cells #[.int .i64 0, .int .i64 0, .slice none 0 0] 24) (.cells #[.int .i64 0, .int .i64 0, .int .i64 0, .int .i64 0, .bool false, .slice none 0 0] 27)
  have hb4 : Below w.heap.size w ((((w.alloc (.cells #[.int .i64 r, .int .i64 s, .slice ad 100 cd] 24)).alloc (.cells #[.int .i64 k, .int .i64 f, .int .i64 t, .int .i64 x, .bool y, .slice a n c] 27)).alloc (.cells #[.int .i64 0, .int .i64 0, .slice none 0 0] 24)).alloc (.cells #[.int .i64 0, .int .i64 0, .int .i64 0, .int .i64 0, .bool false, .slice none 0 0] 27)) := ((((Below.refl _ _).alloc (Nat.le_refl _) _).alloc (by simp) _).alloc (by simp; omega) _).alloc (by simp; omega) _
  have g1 : W5.heap[w.heap.size]? = some (.cells #[.int .i64 r, .int .i64 s, .slice ad 100 cd] 24) := by rw [hW5]; exact (Below.heap_alloc _ _ _ (by omega)).trans f1
  have g2 : W5.heap[w.heap.size + 1]? = some (.cells #[.int .i64 k, .int .i64 f, .int .i64 t, .int .i64 x, .bool y, .slice a n c] 27) := by rw [hW5]; exact (Below.heap_alloc _ _ _ (by omega)).trans f2
  have g3 : W5.heap[w.heap.size + 2]? = some (.cells #[.int .i64 0, .int .i64 0, .slice none 0 0] 24) := by rw [hW5]; exact (Below.heap_alloc _ _ _ (by omega)).trans f3
  have g4 : W5.heap[w.heap.size + 3]? = some (.cells #[.int .i64 0, .int .i64 0, .int .i64 0, .int .i64 0, .bool false, .slice none 0 0] 27) := by rw [hW5]; exact (Below.heap_alloc _ _ _ (by omega)).trans f4
  have g5 : W5.heap.size = w.heap.size + 5 := by rw [hW5]; simp
  have hb5 : Below w.heap.size w W5 := by rw [hW5]; exact hb4.alloc (by omega) _
  have hOE : OwnZ W5 (w.heap.size + 4) (.slice (some ⟨w.heap.size + 4, 0, none⟩) 0 0) [] := by
    have := World.ownsRow_made (e := 3) (size := 1) (base := w.heap.size + 4) ((((w.alloc (.cells #[.int .i64 r, .int .i64 s, .slice ad 100 cd] 24)).alloc (.cells #[.int .i64 k, .int .i64 f, .int .i64 t, .int .i64 x, .bool y, .slice a n c] 27)).alloc (.cells #[.int .i64 0, .int .i64 0, .slice none 0 0] 24)).alloc (.cells #[.int .i64 0, .int .i64 0, .int .i64 0, .int .i64 0, .bool false, .slice none 0 0] 27)) #[] 0 (by simp) (by simp) (by simp)
    rw [f5, ← hW5] at this
    exact this
  have OE : Hid (OwnZ W5 (w.heap.size + 4) (.slice (some ⟨w.heap.size + 4, 0, none⟩) 0 0) []) := hOE
  obtain ⟨DT, hDT⟩ : ∃ DT, DT = D.take 100 := ⟨_, rfl⟩
  have HDT : Hid (DT = D.take 100) := hDT
  have HD5 : Hid (DT.length = 100 ∧ InZ W5 ad DT ∧ (ad = none → 100 = 0 ∧ cd = 0) ∧ ([] : List Int).length + 100 ≤ 17592186044416 ∧ w.heap.size + 4 ≤ W5.heap.size) := ⟨by rw [hDT, List.length_take]; omega, by rw [hDT]; exact (hD.keep hb5).take 100, (fun e => by have := hda e; omega), by rw [List.length_nil]; omega, by omega⟩
  have HG : Hid (W5.heap[w.heap.size]? = some (.cells #[.int .i64 r, .int .i64 s, .slice ad 100 cd] 24) ∧ W5.heap[w.heap.size + 1]? = some (.cells #[.int .i64 k, .int .i64 f, .int .i64 t, .int .i64 x, .bool y, .slice a n c] 27) ∧ W5.heap[w.heap.size + 2]? = some (.cells #[.int .i64 0, .int .i64 0, .slice none 0 0] 24) ∧ W5.heap[w.heap.size + 3]? = some (.cells #[.int .i64 0, .int .i64 0, .int .i64 0, .int .i64 0, .bool false, .slice none 0 0] 27) ∧ W5.heap.size = w.heap.size + 5 ∧ Below w.heap.size w W5) := ⟨g1, g2, g3, g4, g5, hb5⟩
  have HL0 : Hid (InPk w a L ∧ L.length = n) := ⟨hL, hn⟩
  have HNL : Hid (∀ x ∈ L, x.la = none → x.ln = 0 ∧ x.lc = 0) := hnl
  clear hW5 f1 f2 f3 f4 f5 hb4 g1 g2 g3 g4 g5 hb5 hOE hnd hD hda hdc hn hL hnl hqq hq hDT
  go_enter Try.func9, Try.ntmps9
  go_upto_region 4 with (at_builtin; rw [← HE5.out]; refine append_ints rfl (.tmp 17) (.tmp 19) rfl (w.heap.size + 4) _ [] rfl OE.out ad 100 cd DT rfl HD5.out.1 HD5.out.2.1 HD5.out.2.2.1 HD5.out.2.2.2.1 HD5.out.2.2.2.2 ?_; intro v5 u5 o5 g5; have O5 : Hid (OwnZ u5 (w.heap.size + 4) v5 DT) := o5; have G5 : Hid (W5.grownBy u5 (some (w.heap.size + 4))) := g5; obtain ⟨a5, c5, rfl, i5, l5, m5', n5, p5⟩ := O5.out.slice; rw [HD5.out.1] at O5 l5 ⊢; have p1 : u5.heap[w.heap.size]? = some (.cells #[.int .i64 r, .int .i64 s, .slice ad 100 cd] 24) := (G5.out.block w.heap.size (by have := HG.out.2.2.2.2.1; omega) (by show ¬ some w.heap.size = some (w.heap.size + 4); simp)).trans HG.out.1; have PB : Hid (u5.heap[w.heap.size]? = some (.cells #[.int .i64 r, .int .i64 s, .slice ad 100 cd] 24)) := p1; have fz := frozen_blk p1 2; have cz : u5.cell? ⟨w.heap.size, 2, none⟩ = some (.slice ad 100 cd) := (by rw [cell_of_row _ w.heap.size 2 _ _ (0, 0) p1]; rfl); clear o5 g5 p1 i5 l5 m5' n5 p5)
  obtain ⟨m5, hm5⟩ : ∃ m5 : Nat, m5 = 100 := ⟨_, rfl⟩
  rw [← hm5] at O5 ⊢
  have hsz5 : w.heap.size + 5 ≤ u5.heap.size := by have := G5.out.size; have := HG.out.2.2.2.2.1; omega
  have keep5 : ∀ k, k < w.heap.size + 4 → u5.heap[k]? = W5.heap[k]? := fun k hk => G5.out.block k (by have := HG.out.2.2.2.2.1; omega) (by simp; omega)
  have u1 : (u5.setCell ⟨w.heap.size, 2, none⟩ (.slice a5 m5 c5)).heap[w.heap.size]? = some (.cells #[.int .i64 r, .int .i64 s, .slice a5 m5 c5] 24) := setCell_blk (i := 2) (.slice a5 m5 c5) PB.out
  have off5 : ∀ k, k ≠ w.heap.size → (u5.setCell ⟨w.heap.size, 2, none⟩ (.slice a5 m5 c5)).heap[k]? = u5.heap[k]? := fun k hk => set_off u5 w.heap.size 2 k _ hk
  have u2 : (u5.setCell ⟨w.heap.size, 2, none⟩ (.slice a5 m5 c5)).heap[w.heap.size + 1]? = some (.cells #[.int .i64 k, .int .i64 f, .int .i64 t, .int .i64 x, .bool y, .slice a n c] 27) := (off5 _ (by omega)).trans ((keep5 _ (by omega)).trans HG.out.2.1)
  have u3 : (u5.setCell ⟨w.heap.size, 2, none⟩ (.slice a5 m5 c5)).heap[w.heap.size + 2]? = some (.cells #[.int .i64 0, .int .i64 0, .slice none 0 0] 24) := (off5 _ (by omega)).trans ((keep5 _ (by omega)).trans HG.out.2.2.1)
  have u4 : (u5.setCell ⟨w.heap.size, 2, none⟩ (.slice a5 m5 c5)).heap[w.heap.size + 3]? = some (.cells #[.int .i64 0, .int .i64 0, .int .i64 0, .int .i64 0, .bool false, .slice none 0 0] 27) := (off5 _ (by omega)).trans ((keep5 _ (by omega)).trans HG.out.2.2.2.1)
  have oU : OwnZ (u5.setCell ⟨w.heap.size, 2, none⟩ (.slice a5 m5 c5)) (w.heap.size + 4) (.slice a5 m5 c5) DT := O5.out.kept fun k hk => off5 k (by have := (O5.out.own k hk).1; omega)
  have sU : (u5.setCell ⟨w.heap.size, 2, none⟩ (.slice a5 m5 c5)).heap.size = u5.heap.size := by simp [World.setCell]
  have bU : Below w.heap.size w (u5.setCell ⟨w.heap.size, 2, none⟩ (.slice a5 m5 c5)) := (HG.out.2.2.2.2.2.grown G5.out (by have := HG.out.2.2.2.2.1; omega) (fun k hk => by cases hk; omega)).grown (grown_setCell u5 w.heap.size 2 _) (by omega) (fun k hk => by cases hk; exact Nat.le_refl _)
  generalize u5.setCell ⟨w.heap.size, 2, none⟩ (.slice a5 m5 c5) = U at *
  obtain ⟨z, hzz⟩ : ∃ z, z = U.heap.size := ⟨_, rfl⟩
  have HU : Hid (U.heap[w.heap.size]? = some (.cells #[.int .i64 r, .int .i64 s, .slice a5 m5 c5] 24) ∧ U.heap[w.heap.size + 1]? = some (.cells #[.int .i64 k, .int .i64 f, .int .i64 t, .int .i64 x, .bool y, .slice a n c] 27) ∧ U.heap[w.heap.size + 2]? = some (.cells #[.int .i64 0, .int .i64 0, .slice none 0 0] 24) ∧ U.heap[w.heap.size + 3]? = some (.cells #[.int .i64 0, .int .i64 0, .int .i64 0, .int .i64 0, .bool false, .slice none 0 0] 27) ∧ OwnZ U (w.heap.size + 4) (.slice a5 m5 c5) DT ∧ Below w.heap.size w U) := ⟨u1, u2, u3, u4, oU, bU⟩
  have HZ : Hid (z = U.heap.size ∧ w.heap.size + 5 ≤ U.heap.size) := ⟨hzz, by omega⟩
  have KC : Hid (∀ W, Below z U W → W.cell? ⟨w.heap.size + 1, 5, none⟩ = some (.slice a n c)) := fun W hW => by
    rw [cell_of_row _ (w.heap.size + 1) 5 _ _ (0, 0) ((hW.block _ (by omega)).trans u2)]; rfl
  have KL : Hid (∀ W, Below z U W → InPk W a L) := fun W hW => (HL0.out.1.keep bU).keep (by rw [← hzz]; exact hW)
  have HLN : Hid (L.length = n) := HL0.out.2
  obtain ⟨nn, hnn⟩ : ∃ nn, nn = min n 20 := ⟨_, rfl⟩
  have HNN : Hid (nn = min n 20) := hnn
  have hn1 : nn ≤ n := by omega
  have hn2 : nn ≤ 20 := by omega
  clear hm5 hsz5 keep5 u1 off5 u2 u3 u4 oU sU bU hzz O5 G5 PB HE5 OE HD5 HG fz cz hnn
  go_wp2_with fail
  go_loopg [6, 7] nn (fun g V i wr => ∃ (j : Nat) (M : List Pk), j ≤ nn ∧ g = nn - j ∧ i = .int .i64 (j : Int) ∧ Hid (Few wr z V L M ∧ M.length = j ∧ Below z U wr))
  case atStart => exact ⟨0, [], Nat.zero_le _, rfl, rfl, ⟨OwnPk.nil _ _, (fun i y hy => by simp at hy), fun x hx => by simp at hx⟩, rfl, Below.refl _ _⟩
  case round =>
    obtain ⟨j, M, hj, rfl, rfl, RW⟩ := hrel
    have HB : Hid (Below z U wr) := RW.out.2.2
    have cm := KC.out _ HB.out
    by_cases hlt0 : j < nn
    · have hlt : j < n := by omega
      have j1 : decide ((j : Int) < (n : Int)) = true := by rw [decide_eq_true_eq]; omega
      have j2 : decide ((j : Int) < 20) = true := by rw [decide_eq_true_eq]; omega
      have j3 : decide (j < 20) = true := by rw [decide_eq_true_eq]; omega
      obtain ⟨x', hx⟩ : ∃ x, L[j]? = some x := ⟨L[j]'(by rw [HLN.out]; exact hlt), by simp [HLN.out, hlt]⟩
      obtain ⟨b, off, rfl, hbw, hpc, hok⟩ := (KL.out _ HB.out).at hx
      obtain ⟨c0, c1, c2, c3⟩ := hpc
      have ri : IntKind.i64.wrap ((j : Int) + 1) = (j : Int) + 1 := by rw [IntKind.wrap_i64]; omega
      have HX : Hid (L[j]? = some x' ∧ PkOk wr x') := ⟨hx, hok⟩
      have hle := hok.le
      have hbg := hok.big
      clear hx hok
      obtain ⟨po, pN, pV, pl, pa, pn, pc⟩ := x'
      simp only at c0 c1 c2 c3 hle hbg
      obtain ⟨SN, hSN⟩ : ∃ S, S = tx pN := ⟨_, rfl⟩
      obtain ⟨SV, hSV⟩ : ∃ S, S = tx pV := ⟨_, rfl⟩
      have HS : Hid (SN = tx pN ∧ SV = tx pV) := ⟨hSN, hSV⟩
      rw [← hSN] at c1
      rw [← hSV] at c2
      generalize u6 = V at *
      clear hSN hSV
      by_cases h20 : 20 < pn
      · have d1 : decide ((20 : Int) < (pn : Int)) = true := by rw [decide_eq_true_eq]; omega
        have d2 : decide (20 < pn) = true := by rw [decide_eq_true_eq]; omega
        have q1 : (20 : Int) ≤ (pc : Int) := by omega
        have HQ : Hid ((pl.take 20).length = 20 ∧ InR ((wr.alloc (.cells #[.int .i64 po, .string SN, .string SV, .slice pa 20 pc] 42)).alloc (.cells #[] 46)) pa (pl.take 20) ∧ Dgs (pl.take 20) ∧ (pa = none → 20 = 0 ∧ pc = 0)) := by
          obtain ⟨hx, hok⟩ := HX.out
          refine ⟨?_, ?_, fun x hx => hok.dg x (List.mem_of_mem_take hx), ?_⟩
          · have := hok.len; rw [List.length_take]; simp only at this; omega
          · refine InR.keep (InR.keep ?_ (below1 wr _)) (below1 _ _)
            rcases hok.inr with e | ⟨b1, o1, e1, e2, e3⟩
            · simp only at e; rw [e]; exact .inl rfl
            · exact .inr ⟨b1, o1, e1, e2, fun i x hi => e3 i x (by rw [List.getElem?_take] at hi; split at hi <;> simp_all)⟩
          · intro e; have := HNL.out _ (List.mem_of_getElem? hx) e; simp only at this; omega
        have OE : Hid (OwnR ((wr.alloc (.cells #[.int .i64 po, .string SN, .string SV, .slice pa 20 pc] 42)).alloc (.cells #[] 46)) (wr.heap.size + 1) (.slice (some ⟨wr.heap.size + 1, 0, none⟩) 0 0) []) := by
          have := World.ownsRow_made (e := 46) (size := 33) (base := wr.heap.size + 1) (wr.alloc (.cells #[.int .i64 po, .string SN, .string SV, .slice pa 20 pc] 42)) #[] 0 (by simp) (by simp) (by simp)
          rw [show (wr.alloc (.cells #[.int .i64 po, .string SN, .string SV, .slice pa 20 pc] 42)).heap.size = wr.heap.size + 1 by simp] at this
          exact this
        have Z3 : Hid (20 ≤ 3518437208883 ∧ wr.heap.size + 1 ≤ ((wr.alloc (.cells #[.int .i64 po, .string SN, .string SV, .slice pa 20 pc] 42)).alloc (.cells #[] 46)).heap.size) := ⟨by omega, by simp⟩
        have P3 : Hid (((wr.alloc (.cells #[.int .i64 po, .string SN, .string SV, .slice pa 20 pc] 42)).alloc (.cells #[] 46)).heap[wr.heap.size]? = some (.cells #[.int .i64 po, .string SN, .string SV, .slice pa 20 pc] 42)) := (Below.heap_alloc _ _ _ (by simp)).trans (heap_alloc_new wr _)
        have HSZ : Hid (((wr.alloc (.cells #[.int .i64 po, .string SN, .string SV, .slice pa 20 pc] 42)).alloc (.cells #[] 46)).heap.size = wr.heap.size + 2) := by show _ = _; simp
        have BW : Hid (∀ k, k < wr.heap.size → ((wr.alloc (.cells #[.int .i64 po, .string SN, .string SV, .slice pa 20 pc] 42)).alloc (.cells #[] 46)).heap[k]? = wr.heap[k]?) := fun k hk => (Below.heap_alloc _ _ _ (by simp; omega)).trans (Below.heap_alloc _ _ _ hk)
        have EV : Hid (((wr.alloc (.cells #[.int .i64 po, .string SN, .string SV, .slice pa 20 pc] 42)).alloc (.cells #[] 46)).os = wr.os ∧ ((wr.alloc (.cells #[.int .i64 po, .string SN, .string SV, .slice pa 20 pc] 42)).alloc (.cells #[] 46)).tape = wr.tape ∧ ((wr.alloc (.cells #[.int .i64 po, .string SN, .string SV, .slice pa 20 pc] 42)).alloc (.cells #[] 46)).output = wr.output) := ⟨rfl, rfl, rfl⟩
        obtain ⟨W3, hW3⟩ : ∃ W3, W3 = ((wr.alloc (.cells #[.int .i64 po, .string SN, .string SV, .slice pa 20 pc] 42)).alloc (.cells #[] 46)) := ⟨_, rfl⟩
        simp only [← hW3] at HQ OE Z3 P3 HSZ BW EV
        have HW3 : Hid (W3 = ((wr.alloc (.cells #[.int .i64 po, .string SN, .string SV, .slice pa 20 pc] 42)).alloc (.cells #[] 46))) := hW3
        clear hW3
        go_upto_region 12 with (at_builtin; rw [← HW3.out]; refine appR rfl (.tmp 49) (.tmp 52) rfl (wr.heap.size + 1) _ rfl OE.out pa 20 pc (pl.take 20) rfl HQ.out.1 HQ.out.2.1 HQ.out.2.2.2 HQ.out.2.2.1 Z3.out.1 Z3.out.2 ?_; intro v5 u5 o5 g5; have O5 : Hid (OwnR u5 (wr.heap.size + 1) v5 (pl.take 20)) := o5; obtain ⟨a5, c5, rfl, i5, l5, m5, n5⟩ := OwnR.slice o5 HQ.out.2.2.1; have I5 : Hid (InR u5 a5 (pl.take 20)) := i5; have G5 : Hid (W3.grownBy u5 (some (wr.heap.size + 1))) := g5; have q5 : u5.heap[wr.heap.size]? = some (.cells #[.int .i64 po, .string SN, .string SV, .slice pa 20 pc] 42) := (g5.block wr.heap.size (by rw [HSZ.out]; omega) (by show ¬ some wr.heap.size = some (wr.heap.size + 1); simp)).trans P3.out; have Q5 : Hid (u5.heap[wr.heap.size]? = some (.cells #[.int .i64 po, .string SN, .string SV, .slice pa 20 pc] 42)) := q5; have fz := frozen_blk q5 3; have e0 : u5.cell? ⟨wr.heap.size, 0, none⟩ = some (.int .i64 po) := (by rw [cell_of_row _ wr.heap.size 0 _ _ (0, 0) q5]; rfl); have e1 : u5.cell? ⟨wr.heap.size, 1, none⟩ = some (.string SN) := (by rw [cell_of_row _ wr.heap.size 1 _ _ (0, 0) q5]; rfl); have e2 : u5.cell? ⟨wr.heap.size, 2, none⟩ = some (.string SV) := (by rw [cell_of_row _ wr.heap.size 2 _ _ (0, 0) q5]; rfl); have e3 : u5.cell? ⟨wr.heap.size, 3, none⟩ = some (.slice pa 20 pc) := (by rw [cell_of_row _ wr.heap.size 3 _ _ (0, 0) q5]; rfl); rw [HQ.out.1] at l5 ⊢; clear o5 i5 g5 q5)
        have q6 := setCell_blk (i := 3) (.slice a5 20 c5) Q5.out
        have b6 : ∀ k, k < wr.heap.size → (u5.setCell ⟨wr.heap.size, 3, none⟩ (.slice a5 20 c5)).heap[k]? = wr.heap[k]? := fun k hk => by
          rw [set_off u5 wr.heap.size 3 k _ (by omega), G5.out.block k (by rw [HSZ.out]; omega) (by simp; omega)]
          exact BW.out k hk
        have z6 : (u5.setCell ⟨wr.heap.size, 3, none⟩ (.slice a5 20 c5)).heap.size = u5.heap.size := by simp [World.setCell]
        have hz5 : wr.heap.size + 2 ≤ u5.heap.size := by have := G5.out.size; rw [HSZ.out] at this; exact this
        have y6 : ∀ k, wr.heap.size < k → (u5.setCell ⟨wr.heap.size, 3, none⟩ (.slice a5 20 c5)).heap[k]? = u5.heap[k]? := fun k hk => set_off u5 wr.heap.size 3 k _ (by omega)
        have v6 : (u5.setCell ⟨wr.heap.size, 3, none⟩ (.slice a5 20 c5)).os = wr.os ∧ (u5.setCell ⟨wr.heap.size, 3, none⟩ (.slice a5 20 c5)).tape = wr.tape ∧ (u5.setCell ⟨wr.heap.size, 3, none⟩ (.slice a5 20 c5)).output = wr.output := ⟨G5.out.os.trans EV.out.1, G5.out.tape.trans EV.out.2.1, G5.out.output.trans EV.out.2.2⟩
        generalize u5.setCell ⟨wr.heap.size, 3, none⟩ (.slice a5 20 c5) = U6 at *
        have H6 : Hid ((∀ k, k < wr.heap.size → U6.heap[k]? = wr.heap[k]?) ∧ U6.heap.size = u5.heap.size ∧ wr.heap.size + 2 ≤ u5.heap.size ∧ (∀ k, wr.heap.size < k → U6.heap[k]? = u5.heap[k]?) ∧ (U6.os = wr.os ∧ U6.tape = wr.tape ∧ U6.output = wr.output)) := ⟨b6, z6, hz5, y6, v6⟩
        have r0 : U6.cell? ⟨wr.heap.size, 0, none⟩ = some (.int .i64 po) := by rw [cell_of_row _ wr.heap.size 0 _ _ (0, 0) q6]; rfl
        have r1 : U6.cell? ⟨wr.heap.size, 1, none⟩ = some (.string SN) := by rw [cell_of_row _ wr.heap.size 1 _ _ (0, 0) q6]; rfl
        have r2 : U6.cell? ⟨wr.heap.size, 2, none⟩ = some (.string SV) := by rw [cell_of_row _ wr.heap.size 2 _ _ (0, 0) q6]; rfl
        have r3 : U6.cell? ⟨wr.heap.size, 3, none⟩ = some (.slice a5 20 c5) := by rw [cell_of_row _ wr.heap.size 3 _ _ (0, 0) q6]; rfl
        have L5 : Hid (20 ≤ c5 ∧ c5 ≤ 9223372036854775807 ∧ (a5 = none → c5 = 0)) := ⟨l5, m5, n5⟩
        clear q6 b6 z6 hz5 y6 v6 l5 m5 n5 fz e0 e1 e2 e3 c0 c1 c2 c3 cm
        have hzw : z ≤ wr.heap.size := by have := HB.out.size; have := HZ.out.1; omega
        have S6 : Below z U U6 := ⟨H6.out.2.2.2.2.1.trans HB.out.os, H6.out.2.2.2.2.2.1.trans HB.out.tape, H6.out.2.2.2.2.2.2.trans HB.out.output, by have := HB.out.size; have := H6.out.2.1; have := H6.out.2.2.1; omega, fun k hk => (H6.out.1 k (by omega)).trans (HB.out.block k hk)⟩
        have S7 : Hid (Below z U (U6.alloc (.cells #[.int .i64 po, .string SN, .string SV, .slice a5 20 c5] 42))) := S6.alloc (by have := H6.out.2.1; have := H6.out.2.2.1; omega) _
        have hb7 : ∀ k, k < wr.heap.size → (U6.alloc (.cells #[.int .i64 po, .string SN, .string SV, .slice a5 20 c5] 42)).heap[k]? = wr.heap[k]? := fun k hk => (Below.heap_alloc _ _ _ (by have := H6.out.2.1; have := H6.out.2.2.1; omega)).trans (H6.out.1 k hk)
        have O7 : Hid (OwnPk (U6.alloc (.cells #[.int .i64 po, .string SN, .string SV, .slice a5 20 c5] 42)) z V M) := RW.out.1.1.kept fun k hk => hb7 k (RW.out.1.1.own k hk).2
        have hy7 : ∀ q, a5 = some q → wr.heap.size + 1 ≤ q.block ∧ (U6.alloc (.cells #[.int .i64 po, .string SN, .string SV, .slice a5 20 c5] 42)).heap[q.block]? = u5.heap[q.block]? ∧ ∃ cs, u5.heap[q.block]? = some (.cells cs 46) := fun q hq => by
          obtain ⟨h1, h2, h3⟩ := O5.out.at q hq
          exact ⟨h1, (Below.heap_alloc _ _ _ (by have := H6.out.2.1; omega)).trans (H6.out.2.2.2.1 _ (by omega)), h3⟩
        have hs7 : (U6.alloc (.cells #[.int .i64 po, .string SN, .string SV, .slice a5 20 c5] 42)).heap.size = u5.heap.size + 1 := by simp [H6.out.2.1]
        have FS : Hid (∀ v8 u8, OwnPk u8 z v8 (M ++ [⟨po, pN, pV, pl.take 20, a5, 20, c5⟩]) → (U6.alloc (.cells #[.int .i64 po, .string SN, .string SV, .slice a5 20 c5] 42)).grownBy u8 V.ownBlock → Few u8 z v8 L (M ++ [⟨po, pN, pV, pl.take 20, a5, 20, c5⟩]) ∧ Below z U u8) := fun v8 u8 o8 g8 => by
          refine ⟨few_more RW.out.1 RW.out.2.1 HX.out.1 ⟨rfl, rfl, rfl, rfl⟩ ⟨I5.out.kept (by omega) (fun q hq _ => (hy7 q hq).2.1), HQ.out.1, L5.out.1, by have := Z3.out.1; simp only; omega, HQ.out.2.2.1, HX.out.2.sn, HX.out.2.sv⟩ ?_ (fun e => (by have e0 := L5.out.2.2 e; have e1 := L5.out.1; exact ⟨by simp only; omega, e0⟩)) (by have := H6.out.2.2.1; omega) hb7 o8 g8, S7.out.grown g8 (by have := H6.out.2.2.1; omega) (fun k hk => (RW.out.1.1.own k hk).1)⟩
          intro q hq
          obtain ⟨h1, h2, cs, h3⟩ := hy7 q hq
          exact ⟨by omega, by omega, cs, h2.trans h3⟩
        clear S6 hb7 hy7 hs7 hzw
        have P7 : Hid ((U6.alloc (.cells #[.int .i64 po, .string SN, .string SV, .slice a5 20 c5] 42)).heap[U6.heap.size]? = some (.cells (pkC ⟨po, pN, pV, pl.take 20, a5, 20, c5⟩) 42)) := by
          have := heap_alloc_new U6 (.cells #[.int .i64 po, .string SN, .string SV, .slice a5 20 c5] 42)
          unfold pkC
          simp only
          rw [← HS.out.1, ← HS.out.2]
          exact this
        have N7 : Hid (M.length ≤ 1000000000 ∧ z ≤ (U6.alloc (.cells #[.int .i64 po, .string SN, .string SV, .slice a5 20 c5] 42)).heap.size) := ⟨by have := RW.out.2.1; omega, by have := S7.out.size; have := HZ.out.1; omega⟩
        go_wp2_with (at_builtin; refine append_pack rfl (.tmp 56) (.tmp 58) rfl z _ M rfl O7.out U6.heap.size 1 _ rfl P7.out N7.out.1 N7.out.2 ?_; intro v8 u8 o8 g8; have F8 : Hid (Few u8 z v8 L (M ++ [⟨po, pN, pV, pl.take 20, a5, 20, c5⟩]) ∧ Below z U u8) := FS.out v8 u8 o8 g8; clear o8 g8)
        go_roundg (nn - (j + 1))
        case measure => omega
        case rel => exact ⟨j + 1, M ++ [⟨po, pN, pV, pl.take 20, a5, 20, c5⟩], by omega, rfl, rfl, F8.out.1, by rw [List.length_append, RW.out.2.1]; rfl, F8.out.2⟩
      · have d1 : decide ((20 : Int) < (pn : Int)) = false := by rw [decide_eq_false_iff_not]; omega
        have d2 : decide (20 < pn) = false := by rw [decide_eq_false_iff_not]; omega
        have HQ : Hid ((pl.take 20).length = pn ∧ InR ((wr.alloc (.cells #[.int .i64 po, .string SN, .string SV, .slice pa pn pc] 42)).alloc (.cells #[] 46)) pa (pl.take 20) ∧ Dgs (pl.take 20) ∧ (pa = none → pn = 0 ∧ pc = 0)) := by
          obtain ⟨hx, hok⟩ := HX.out
          refine ⟨?_, ?_, fun x hx => hok.dg x (List.mem_of_mem_take hx), ?_⟩
          · have := hok.len; rw [List.length_take]; simp only at this; omega
          · refine InR.keep (InR.keep ?_ (below1 wr _)) (below1 _ _)
            rcases hok.inr with e | ⟨b1, o1, e1, e2, e3⟩
            · simp only at e; rw [e]; exact .inl rfl
            · exact .inr ⟨b1, o1, e1, e2, fun i x hi => e3 i x (by rw [List.getElem?_take] at hi; split at hi <;> simp_all)⟩
          · intro e; have := HNL.out _ (List.mem_of_getElem? hx) e; simp only at this; omega
        have OE : Hid (OwnR ((wr.alloc (.cells #[.int .i64 po, .string SN, .string SV, .slice pa pn pc] 42)).alloc (.cells #[] 46)) (wr.heap.size + 1) (.slice (some ⟨wr.heap.size + 1, 0, none⟩) 0 0) []) := by
          have := World.ownsRow_made (e := 46) (size := 33) (base := wr.heap.size + 1) (wr.alloc (.cells #[.int .i64 po, .string SN, .string SV, .slice pa pn pc] 42)) #[] 0 (by simp) (by simp) (by simp)
          rw [show (wr.alloc (.cells #[.int .i64 po, .string SN, .string SV, .slice pa pn pc] 42)).heap.size = wr.heap.size + 1 by simp] at this
          exact this
        have Z3 : Hid (pn ≤ 3518437208883 ∧ wr.heap.size + 1 ≤ ((wr.alloc (.cells #[.int .i64 po, .string SN, .string SV, .slice pa pn pc] 42)).alloc (.cells #[] 46)).heap.size) := ⟨by omega, by simp⟩
        have P3 : Hid (((wr.alloc (.cells #[.int .i64 po, .string SN, .string SV, .slice pa pn pc] 42)).alloc (.cells #[] 46)).heap[wr.heap.size]? = some (.cells #[.int .i64 po, .string SN, .string SV, .slice pa pn pc] 42)) := (Below.heap_alloc _ _ _ (by simp)).trans (heap_alloc_new wr _)
        have HSZ : Hid (((wr.alloc (.cells #[.int .i64 po, .string SN, .string SV, .slice pa pn pc] 42)).alloc (.cells #[] 46)).heap.size = wr.heap.size + 2) := by show _ = _; simp
        have BW : Hid (∀ k, k < wr.heap.size → ((wr.alloc (.cells #[.int .i64 po, .string SN, .string SV, .slice pa pn pc] 42)).alloc (.cells #[] 46)).heap[k]? = wr.heap[k]?) := fun k hk => (Below.heap_alloc _ _ _ (by simp; omega)).trans (Below.heap_alloc _ _ _ hk)
        have EV : Hid (((wr.alloc (.cells #[.int .i64 po, .string SN, .string SV, .slice pa pn pc] 42)).alloc (.cells #[] 46)).os = wr.os ∧ ((wr.alloc (.cells #[.int .i64 po, .string SN, .string SV, .slice pa pn pc] 42)).alloc (.cells #[] 46)).tape = wr.tape ∧ ((wr.alloc (.cells #[.int .i64 po, .string SN, .string SV, .slice pa pn pc] 42)).alloc (.cells #[] 46)).output = wr.output) := ⟨rfl, rfl, rfl⟩
        obtain ⟨W3, hW3⟩ : ∃ W3, W3 = ((wr.alloc (.cells #[.int .i64 po, .string SN, .string SV, .slice pa pn pc] 42)).alloc (.cells #[] 46)) := ⟨_, rfl⟩
        simp only [← hW3] at HQ OE Z3 P3 HSZ BW EV
        have HW3 : Hid (W3 = ((wr.alloc (.cells #[.int .i64 po, .string SN, .string SV, .slice pa pn pc] 42)).alloc (.cells #[] 46))) := hW3
        clear hW3
        go_upto_region 12 with (at_builtin; rw [← HW3.out]; refine appR rfl (.tmp 49) (.tmp 52) rfl (wr.heap.size + 1) _ rfl OE.out pa pn pc (pl.take 20) rfl HQ.out.1 HQ.out.2.1 HQ.out.2.2.2 HQ.out.2.2.1 Z3.out.1 Z3.out.2 ?_; intro v5 u5 o5 g5; have O5 : Hid (OwnR u5 (wr.heap.size + 1) v5 (pl.take 20)) := o5; obtain ⟨a5, c5, rfl, i5, l5, m5, n5⟩ := OwnR.slice o5 HQ.out.2.2.1; have I5 : Hid (InR u5 a5 (pl.take 20)) := i5; have G5 : Hid (W3.grownBy u5 (some (wr.heap.size + 1))) := g5; have q5 : u5.heap[wr.heap.size]? = some (.cells #[.int .i64 po, .string SN, .string SV, .slice pa pn pc] 42) := (g5.block wr.heap.size (by rw [HSZ.out]; omega) (by show ¬ some wr.heap.size = some (wr.heap.size + 1); simp)).trans P3.out; have Q5 : Hid (u5.heap[wr.heap.size]? = some (.cells #[.int .i64 po, .string SN, .string SV, .slice pa pn pc] 42)) := q5; have fz := frozen_blk q5 3; have e0 : u5.cell? ⟨wr.heap.size, 0, none⟩ = some (.int .i64 po) := (by rw [cell_of_row _ wr.heap.size 0 _ _ (0, 0) q5]; rfl); have e1 : u5.cell? ⟨wr.heap.size, 1, none⟩ = some (.string SN) := (by rw [cell_of_row _ wr.heap.size 1 _ _ (0, 0) q5]; rfl); have e2 : u5.cell? ⟨wr.heap.size, 2, none⟩ = some (.string SV) := (by rw [cell_of_row _ wr.heap.size 2 _ _ (0, 0) q5]; rfl); have e3 : u5.cell? ⟨wr.heap.size, 3, none⟩ = some (.slice pa pn pc) := (by rw [cell_of_row _ wr.heap.size 3 _ _ (0, 0) q5]; rfl); rw [HQ.out.1] at l5 ⊢; clear o5 i5 g5 q5)
        have q6 := setCell_blk (i := 3) (.slice a5 pn c5) Q5.out
        have b6 : ∀ k, k < wr.heap.size → (u5.setCell ⟨wr.heap.size, 3, none⟩ (.slice a5 pn c5)).heap[k]? = wr.heap[k]? := fun k hk => by
          rw [set_off u5 wr.heap.size 3 k _ (by omega), G5.out.block k (by rw [HSZ.out]; omega) (by simp; omega)]
          exact BW.out k hk
        have z6 : (u5.setCell ⟨wr.heap.size, 3, none⟩ (.slice a5 pn c5)).heap.size = u5.heap.size := by simp [World.setCell]
        have hz5 : wr.heap.size + 2 ≤ u5.heap.size := by have := G5.out.size; rw [HSZ.out] at this; exact this
        have y6 : ∀ k, wr.heap.size < k → (u5.setCell ⟨wr.heap.size, 3, none⟩ (.slice a5 pn c5)).heap[k]? = u5.heap[k]? := fun k hk => set_off u5 wr.heap.size 3 k _ (by omega)
        have v6 : (u5.setCell ⟨wr.heap.size, 3, none⟩ (.slice a5 pn c5)).os = wr.os ∧ (u5.setCell ⟨wr.heap.size, 3, none⟩ (.slice a5 pn c5)).tape = wr.tape ∧ (u5.setCell ⟨wr.heap.size, 3, none⟩ (.slice a5 pn c5)).output = wr.output := ⟨G5.out.os.trans EV.out.1, G5.out.tape.trans EV.out.2.1, G5.out.output.trans EV.out.2.2⟩
        generalize u5.setCell ⟨wr.heap.size, 3, none⟩ (.slice a5 pn c5) = U6 at *
        have H6 : Hid ((∀ k, k < wr.heap.size → U6.heap[k]? = wr.heap[k]?) ∧ U6.heap.size = u5.heap.size ∧ wr.heap.size + 2 ≤ u5.heap.size ∧ (∀ k, wr.heap.size < k → U6.heap[k]? = u5.heap[k]?) ∧ (U6.os = wr.os ∧ U6.tape = wr.tape ∧ U6.output = wr.output)) := ⟨b6, z6, hz5, y6, v6⟩
        have r0 : U6.cell? ⟨wr.heap.size, 0, none⟩ = some (.int .i64 po) := by rw [cell_of_row _ wr.heap.size 0 _ _ (0, 0) q6]; rfl
        have r1 : U6.cell? ⟨wr.heap.size, 1, none⟩ = some (.string SN) := by rw [cell_of_row _ wr.heap.size 1 _ _ (0, 0) q6]; rfl
        have r2 : U6.cell? ⟨wr.heap.size, 2, none⟩ = some (.string SV) := by rw [cell_of_row _ wr.heap.size 2 _ _ (0, 0) q6]; rfl
        have r3 : U6.cell? ⟨wr.heap.size, 3, none⟩ = some (.slice a5 pn c5) := by rw [cell_of_row _ wr.heap.size 3 _ _ (0, 0) q6]; rfl
        have L5 : Hid (pn ≤ c5 ∧ c5 ≤ 9223372036854775807 ∧ (a5 = none → c5 = 0)) := ⟨l5, m5, n5⟩
        clear q6 b6 z6 hz5 y6 v6 l5 m5 n5 fz e0 e1 e2 e3 c0 c1 c2 c3 cm
        have hzw : z ≤ wr.heap.size := by have := HB.out.size; have := HZ.out.1; omega
        have S6 : Below z U U6 := ⟨H6.out.2.2.2.2.1.trans HB.out.os, H6.out.2.2.2.2.2.1.trans HB.out.tape, H6.out.2.2.2.2.2.2.trans HB.out.output, by have := HB.out.size; have := H6.out.2.1; have := H6.out.2.2.1; omega, fun k hk => (H6.out.1 k (by omega)).trans (HB.out.block k hk)⟩
        have S7 : Hid (Below z U (U6.alloc (.cells #[.int .i64 po, .string SN, .string SV, .slice a5 pn c5] 42))) := S6.alloc (by have := H6.out.2.1; have := H6.out.2.2.1; omega) _
        have hb7 : ∀ k, k < wr.heap.size → (U6.alloc (.cells #[.int .i64 po, .string SN, .string SV, .slice a5 pn c5] 42)).heap[k]? = wr.heap[k]? := fun k hk => (Below.heap_alloc _ _ _ (by have := H6.out.2.1; have := H6.out.2.2.1; omega)).trans (H6.out.1 k hk)
        have O7 : Hid (OwnPk (U6.alloc (.cells #[.int .i64 po, .string SN, .string SV, .slice a5 pn c5] 42)) z V M) := RW.out.1.1.kept fun k hk => hb7 k (RW.out.1.1.own k hk).2
        have hy7 : ∀ q, a5 = some q → wr.heap.size + 1 ≤ q.block ∧ (U6.alloc (.cells #[.int .i64 po, .string SN, .string SV, .slice a5 pn c5] 42)).heap[q.block]? = u5.heap[q.block]? ∧ ∃ cs, u5.heap[q.block]? = some (.cells cs 46) := fun q hq => by
          obtain ⟨h1, h2, h3⟩ := O5.out.at q hq
          exact ⟨h1, (Below.heap_alloc _ _ _ (by have := H6.out.2.1; omega)).trans (H6.out.2.2.2.1 _ (by omega)), h3⟩
        have hs7 : (U6.alloc (.cells #[.int .i64 po, .string SN, .string SV, .slice a5 pn c5] 42)).heap.size = u5.heap.size + 1 := by simp [H6.out.2.1]
        have FS : Hid (∀ v8 u8, OwnPk u8 z v8 (M ++ [⟨po, pN, pV, pl.take 20, a5, pn, c5⟩]) → (U6.alloc (.cells #[.int .i64 po, .string SN, .string SV, .slice a5 pn c5] 42)).grownBy u8 V.ownBlock → Few u8 z v8 L (M ++ [⟨po, pN, pV, pl.take 20, a5, pn, c5⟩]) ∧ Below z U u8) := fun v8 u8 o8 g8 => by
          refine ⟨few_more RW.out.1 RW.out.2.1 HX.out.1 ⟨rfl, rfl, rfl, rfl⟩ ⟨I5.out.kept (by omega) (fun q hq _ => (hy7 q hq).2.1), HQ.out.1, L5.out.1, by have := Z3.out.1; simp only; omega, HQ.out.2.2.1, HX.out.2.sn, HX.out.2.sv⟩ ?_ (fun e => (by have e0 := L5.out.2.2 e; have e1 := L5.out.1; exact ⟨by simp only; omega, e0⟩)) (by have := H6.out.2.2.1; omega) hb7 o8 g8, S7.out.grown g8 (by have := H6.out.2.2.1; omega) (fun k hk => (RW.out.1.1.own k hk).1)⟩
          intro q hq
          obtain ⟨h1, h2, cs, h3⟩ := hy7 q hq
          exact ⟨by omega, by omega, cs, h2.trans h3⟩
        clear S6 hb7 hy7 hs7 hzw
        have P7 : Hid ((U6.alloc (.cells #[.int .i64 po, .string SN, .string SV, .slice a5 pn c5] 42)).heap[U6.heap.size]? = some (.cells (pkC ⟨po, pN, pV, pl.take 20, a5, pn, c5⟩) 42)) := by
          have := heap_alloc_new U6 (.cells #[.int .i64 po, .string SN, .string SV, .slice a5 pn c5] 42)
          unfold pkC
          simp only
          rw [← HS.out.1, ← HS.out.2]
          exact this
        have N7 : Hid (M.length ≤ 1000000000 ∧ z ≤ (U6.alloc (.cells #[.int .i64 po, .string SN, .string SV, .slice a5 pn c5] 42)).heap.size) := ⟨by have := RW.out.2.1; omega, by have := S7.out.size; have := HZ.out.1; omega⟩
        go_wp2_with (at_builtin; refine append_pack rfl (.tmp 56) (.tmp 58) rfl z _ M rfl O7.out U6.heap.size 1 _ rfl P7.out N7.out.1 N7.out.2 ?_; intro v8 u8 o8 g8; have F8 : Hid (Few u8 z v8 L (M ++ [⟨po, pN, pV, pl.take 20, a5, pn, c5⟩]) ∧ Below z U u8) := FS.out v8 u8 o8 g8; clear o8 g8)
        go_roundg (nn - (j + 1))
        case measure => omega
        case rel => exact ⟨j + 1, M ++ [⟨po, pN, pV, pl.take 20, a5, pn, c5⟩], by omega, rfl, rfl, F8.out.1, by rw [List.length_append, RW.out.2.1]; rfl, F8.out.2⟩
    · have j1 : (decide ((j : Int) < (n : Int)) = false) ∨ (decide ((j : Int) < (n : Int)) = true ∧ decide ((j : Int) < 20) = false) := by
        by_cases hjn : j < n
        · right
          refine ⟨by rw [decide_eq_true_eq]; omega, by rw [decide_eq_false_iff_not]; have := HNN.out; omega⟩
        · left
          rw [decide_eq_false_iff_not]; omega
      obtain ⟨a9, c9, e9, _⟩ := RW.out.1.1.slice (fun x hx => (RW.out.1.2.2 x hx).1)
      obtain ⟨m9, hm9⟩ : ∃ m9, m9 = M.length := ⟨_, rfl⟩
      rw [← hm9] at e9
      have HM9 : Hid (M.length = m9) := hm9.symm
      have t1 := (HB.out.block (w.heap.size + 1) (by have := HZ.out; omega)).trans HU.out.2.1
      have fz := frozen_blk t1 5
      have T1 : Hid (wr.heap[w.heap.size + 1]? = some (.cells #[.int .i64 k, .int .i64 f, .int .i64 t, .int .i64 x, .bool y, .slice a n c] 27)) := t1
      clear t1 hm9
      subst e9
      rcases j1 with j1 | ⟨j1, j2⟩
      · have j1n : decide (j < n) = false := by rw [decide_eq_false_iff_not]; have := of_decide_eq_false j1; omega
        have j1m : ¬ (j : Int) < (n : Int) := of_decide_eq_false j1
        go_upto_region 14 with fail
        have y2 : (wr.setCell ⟨w.heap.size + 1, 5, none⟩ (.slice a9 m9 c9)).heap[w.heap.size + 1]? = some (.cells #[.int .i64 k, .int .i64 f, .int .i64 t, .int .i64 x, .bool y, .slice a9 m9 c9] 27) := setCell_blk (i := 5) (.slice a9 m9 c9) T1.out
        have offY : ∀ k, k ≠ w.heap.size + 1 → (wr.setCell ⟨w.heap.size + 1, 5, none⟩ (.slice a9 m9 c9)).heap[k]? = wr.heap[k]? := fun k hk => set_off wr (w.heap.size + 1) 5 k _ hk
        have hzz := HZ.out
        have y1 : (wr.setCell ⟨w.heap.size + 1, 5, none⟩ (.slice a9 m9 c9)).heap[w.heap.size]? = some (.cells #[.int .i64 r, .int .i64 s, .slice a5 m5 c5] 24) := (offY _ (by omega)).trans ((HB.out.block _ (by omega)).trans HU.out.1)
        have y3 : (wr.setCell ⟨w.heap.size + 1, 5, none⟩ (.slice a9 m9 c9)).heap[w.heap.size + 2]? = some (.cells #[.int .i64 0, .int .i64 0, .slice none 0 0] 24) := (offY _ (by omega)).trans ((HB.out.block _ (by omega)).trans HU.out.2.2.1)
        have y4 : (wr.setCell ⟨w.heap.size + 1, 5, none⟩ (.slice a9 m9 c9)).heap[w.heap.size + 3]? = some (.cells #[.int .i64 0, .int .i64 0, .int .i64 0, .int .i64 0, .bool false, .slice none 0 0] 27) := (offY _ (by omega)).trans ((HB.out.block _ (by omega)).trans HU.out.2.2.2.1)
        have sY : (wr.setCell ⟨w.heap.size + 1, 5, none⟩ (.slice a9 m9 c9)).heap.size = wr.heap.size := by simp [World.setCell]
        have vY : (wr.setCell ⟨w.heap.size + 1, 5, none⟩ (.slice a9 m9 c9)).os = wr.os ∧ (wr.setCell ⟨w.heap.size + 1, 5, none⟩ (.slice a9 m9 c9)).tape = wr.tape ∧ (wr.setCell ⟨w.heap.size + 1, 5, none⟩ (.slice a9 m9 c9)).output = wr.output := ⟨rfl, rfl, rfl⟩
        generalize wr.setCell ⟨w.heap.size + 1, 5, none⟩ (.slice a9 m9 c9) = Y at *
        have HY : Hid (Y.heap[w.heap.size]? = some (.cells #[.int .i64 r, .int .i64 s, .slice a5 m5 c5] 24) ∧ Y.heap[w.heap.size + 1]? = some (.cells #[.int .i64 k, .int .i64 f, .int .i64 t, .int .i64 x, .bool y, .slice a9 m9 c9] 27) ∧ Y.heap[w.heap.size + 2]? = some (.cells #[.int .i64 0, .int .i64 0, .slice none 0 0] 24) ∧ Y.heap[w.heap.size + 3]? = some (.cells #[.int .i64 0, .int .i64 0, .int .i64 0, .int .i64 0, .bool false, .slice none 0 0] 27) ∧ (∀ k, k ≠ w.heap.size + 1 → Y.heap[k]? = wr.heap[k]?) ∧ Y.heap.size = wr.heap.size ∧ (Y.os = wr.os ∧ Y.tape = wr.tape ∧ Y.output = wr.output)) := ⟨y1, y2, y3, y4, offY, sY, vY⟩
        clear y1 y2 y3 y4 offY sY vY hzz fz cm
        have KY : Hid (∀ W : World, W.heap[w.heap.size]? = some (.cells #[.int .i64 r, .int .i64 s, .slice a5 m5 c5] 24) → W.cell? ⟨w.heap.size, 0, none⟩ = some (.int .i64 r) ∧ W.cell? ⟨w.heap.size, 1, none⟩ = some (.int .i64 s) ∧ W.cell? ⟨w.heap.size, 2, none⟩ = some (.slice a5 m5 c5)) := fun W p1 => by
          refine ⟨?_, ?_, ?_⟩
          · rw [cell_of_row _ w.heap.size 0 _ _ (0, 0) p1]; rfl
          · rw [cell_of_row _ w.heap.size 1 _ _ (0, 0) p1]; rfl
          · rw [cell_of_row _ w.heap.size 2 _ _ (0, 0) p1]; rfl
        have KX : Hid (∀ W : World, W.heap[w.heap.size + 1]? = some (.cells #[.int .i64 k, .int .i64 f, .int .i64 t, .int .i64 x, .bool y, .slice a9 m9 c9] 27) → W.cell? ⟨w.heap.size + 1, 0, none⟩ = some (.int .i64 k) ∧ W.cell? ⟨w.heap.size + 1, 1, none⟩ = some (.int .i64 f) ∧ W.cell? ⟨w.heap.size + 1, 2, none⟩ = some (.int .i64 t) ∧ W.cell? ⟨w.heap.size + 1, 3, none⟩ = some (.int .i64 x) ∧ W.cell? ⟨w.heap.size + 1, 4, none⟩ = some (.bool y) ∧ W.cell? ⟨w.heap.size + 1, 5, none⟩ = some (.slice a9 m9 c9)) := fun W p1 => by
          refine ⟨?_, ?_, ?_, ?_, ?_, ?_⟩
          · rw [cell_of_row _ (w.heap.size + 1) 0 _ _ (0, 0) p1]; rfl
          · rw [cell_of_row _ (w.heap.size + 1) 1 _ _ (0, 0) p1]; rfl
          · rw [cell_of_row _ (w.heap.size + 1) 2 _ _ (0, 0) p1]; rfl
          · rw [cell_of_row _ (w.heap.size + 1) 3 _ _ (0, 0) p1]; rfl
          · rw [cell_of_row _ (w.heap.size + 1) 4 _ _ (0, 0) p1]; rfl
          · rw [cell_of_row _ (w.heap.size + 1) 5 _ _ (0, 0) p1]; rfl
        refine wp_region_noPanic ?_
        refine wp_region_held_drew (S := (fun W : World => W.heap[w.heap.size]? = some (.cells #[.int .i64 r, .int .i64 s, .slice a5 m5 c5] 24) ∧ W.heap[w.heap.size + 1]? = some (.cells #[.int .i64 k, .int .i64 f, .int .i64 t, .int .i64 x, .bool y, .slice a9 m9 c9] 27))) (by kernel_rfl) ?hSaf (fun hHeld => ?restaf)
        case hSaf => exact ⟨HY.out.1, HY.out.2.1⟩
        case restaf =>
          refine wpAnyH_take (i := 0) (v := .agg #[.int .i64 r, .int .i64 s, .slice a5 m5 c5]) rfl (by kernel_rfl) (by kernel_rfl) (by kernel_rfl) (fun _ _ _ h => h) (Or.inl ⟨by kernel_rfl, ?hy0f⟩) hHeld ?rest0f
          case hy0f => (intro w' hSw; (try dsimp only at hSw); obtain ⟨q0, q1, q2⟩ := KY.out _ hSw.1; go_simp; try with_reducible rfl)
          try simp only [Act.put, List.setIfInBounds_toArray, List.set_cons_zero, List.set_cons_succ, List.getElem_toArray, List.getElem_cons_zero, List.getElem_cons_succ]
          refine wpAnyH_take (i := 1) (v := .agg #[.int .i64 k, .int .i64 f, .int .i64 t, .int .i64 x, .bool y, .slice a9 m9 c9]) rfl (by kernel_rfl) (by kernel_rfl) (by kernel_rfl) (fun _ _ _ h => h) (Or.inl ⟨by kernel_rfl, ?hy1f⟩) hHeld ?rest1f
          case hy1f => (intro w' hSw; (try dsimp only at hSw); obtain ⟨q0, q1, q2, q3, q4, q5⟩ := KX.out _ hSw.2; go_simp; try with_reducible rfl)
          try simp only [Act.put, List.setIfInBounds_toArray, List.set_cons_zero, List.set_cons_succ, List.getElem_toArray, List.getElem_cons_zero, List.getElem_cons_succ]
          have SS : Hid (∀ W : World, ∀ q C, q ≠ w.heap.size → q ≠ w.heap.size + 1 → W.heap[w.heap.size]? = some (.cells #[.int .i64 r, .int .i64 s, .slice a5 m5 c5] 24) ∧ W.heap[w.heap.size + 1]? = some (.cells #[.int .i64 k, .int .i64 f, .int .i64 t, .int .i64 x, .bool y, .slice a9 m9 c9] 27) → (W.setRow q C).heap[w.heap.size]? = some (.cells #[.int .i64 r, .int .i64 s, .slice a5 m5 c5] 24) ∧ (W.setRow q C).heap[w.heap.size + 1]? = some (.cells #[.int .i64 k, .int .i64 f, .int .i64 t, .int .i64 x, .bool y, .slice a9 m9 c9] 27)) := fun W q C h1 h2 h => ⟨(setRow_other _ _ _ _ (fun e => h1 e.symm)).trans h.1, (setRow_other _ _ _ _ (fun e => h2 e.symm)).trans h.2⟩
          have YD : Hid (Y.drew.heap[w.heap.size + 1 + 1]? = some (.cells #[.int .i64 0, .int .i64 0, .slice none 0 0] 24) ∧ (Y.drew.setRow (w.heap.size + 1 + 1) #[.int .i64 r, .int .i64 s, .slice a5 m5 c5]).heap[w.heap.size + 1 + 1 + 1]? = some (.cells #[.int .i64 0, .int .i64 0, .int .i64 0, .int .i64 0, .bool false, .slice none 0 0] 27)) := ⟨HY.out.2.2.1, (setRow_other _ _ _ _ (by omega)).trans HY.out.2.2.2.1⟩
          refine wpAnyH_ready (rs := [2]) (by kernel_rfl) (by simp) ?_
          refine AllReadyH.cons rfl (fun K hK => ?_) AllReadyH.nil
          rw [if_pos (by kernel_rfl)]; refine wp_store_row 24 (.tmp 4) (.tmp 62) rfl (w.heap.size + 1 + 1) #[.int .i64 r, .int .i64 s, .slice a5 m5 c5] rfl rfl 24 #[.int .i64 0, .int .i64 0, .slice none 0 0] YD.out.1 size3P rfl (by simp [Value.oneCell']) ?_
          refine hK.out _ _ ?hS2f (fun hHeld => ?rest2f)
          case hS2f => exact SS.out _ _ _ (by omega) (by omega) hHeld
          clear hK K
          refine wpAnyH_ready (rs := [3]) (by kernel_rfl) (by simp) ?_
          refine AllReadyH.cons rfl (fun K hK => ?_) AllReadyH.nil
          rw [if_pos (by kernel_rfl)]; refine wp_store_row 27 (.tmp 5) (.tmp 63) rfl (w.heap.size + 1 + 1 + 1) #[.int .i64 k, .int .i64 f, .int .i64 t, .int .i64 x, .bool y, .slice a9 m9 c9] rfl rfl 27 #[.int .i64 0, .int .i64 0, .int .i64 0, .int .i64 0, .bool false, .slice none 0 0] YD.out.2 size6M rfl (by simp [Value.oneCell']) ?_
          refine hK.out _ _ ?hS3f (fun hHeld => ?rest3f)
          case hS3f => exact SS.out _ _ _ (by omega) (by omega) hHeld
          clear hK K
          refine wpAnyH_done (by kernel_rfl) ?_ _
          refine NoPanic.normal ?_
          go_wp2_with fail
          refine bodyPost_ret (results_pm rfl _ _ (w.heap.size + 1 + 1) (w.heap.size + 1 + 1 + 1) #[.int .i64 r, .int .i64 s, .slice a5 m5 c5] #[.int .i64 k, .int .i64 f, .int .i64 t, .int .i64 x, .bool y, .slice a9 m9 c9] rfl rfl rfl rfl ((setRow_other _ _ _ _ (by omega)).trans (setRow_heap _ _ _ _ _ _ YD.out.1)) (setRow_heap _ _ _ _ _ _ YD.out.2)) rfl ?_
          have oY : ∀ q, q ≠ w.heap.size + 1 → q ≠ w.heap.size + 2 → q ≠ w.heap.size + 3 → ((Y.drew.setRow (w.heap.size + 1 + 1) #[.int .i64 r, .int .i64 s, .slice a5 m5 c5]).setRow (w.heap.size + 1 + 1 + 1) #[.int .i64 k, .int .i64 f, .int .i64 t, .int .i64 x, .bool y, .slice a9 m9 c9]).heap[q]? = wr.heap[q]? := fun q h1 h2 h3 => (setRow_other _ _ _ _ (by omega)).trans ((setRow_other _ _ _ _ (by omega)).trans (HY.out.2.2.2.2.1 q h1))
          have sz : ((Y.drew.setRow (w.heap.size + 1 + 1) #[.int .i64 r, .int .i64 s, .slice a5 m5 c5]).setRow (w.heap.size + 1 + 1 + 1) #[.int .i64 k, .int .i64 f, .int .i64 t, .int .i64 x, .bool y, .slice a9 m9 c9]).heap.size = wr.heap.size := by rw [setRow_size, setRow_size]; exact HY.out.2.2.2.2.2.1
          have hzz := HZ.out
          have hbs := HB.out.size
          refine ⟨_, _, M, rfl, ?_, ?_, ?_, ?_⟩
          · rw [← HDT.out]
            refine OwnZ.base ?_ (Nat.le_add_right w.heap.size 4)
            exact HU.out.2.2.2.2.1.kept fun k hk => by
              have h1 := HU.out.2.2.2.2.1.own k hk
              exact (oY k (by omega) (by omega) (by omega)).trans (HB.out.block k (by omega))
          · have := few_end (w' := (Y.drew.setRow (w.heap.size + 1 + 1) #[.int .i64 r, .int .i64 s, .slice a5 m5 c5]).setRow (w.heap.size + 1 + 1 + 1) #[.int .i64 k, .int .i64 f, .int .i64 t, .int .i64 x, .bool y, .slice a9 m9 c9]) RW.out.1 (show w.heap.size ≤ z by omega) (by rw [sz]; exact Nat.le_refl _) (fun q hq => oY q (by omega) (by omega) (by omega))
            exact this
          · rw [HLN.out, ← HNN.out]; have := RW.out.2.1; omega
          · exact HU.out.2.2.2.2.2.trans ⟨HY.out.2.2.2.2.2.2.1.trans HB.out.os, HY.out.2.2.2.2.2.2.2.1.trans HB.out.tape, HY.out.2.2.2.2.2.2.2.2.trans HB.out.output, by rw [sz]; exact hbs, fun q hq => (oY q (by omega) (by omega) (by omega)).trans (HB.out.block q (by omega))⟩
      · have j2n : decide (j < 20) = false := by rw [decide_eq_false_iff_not]; have := of_decide_eq_false j2; omega
        have j1n : decide (j < n) = true := by rw [decide_eq_true_eq]; have := of_decide_eq_true j1; omega
        go_upto_region 14 with fail
        have y2 : (wr.setCell ⟨w.heap.size + 1, 5, none⟩ (.slice a9 m9 c9)).heap[w.heap.size + 1]? = some (.cells #[.int .i64 k, .int .i64 f, .int .i64 t, .int .i64 x, .bool y, .slice a9 m9 c9] 27) := setCell_blk (i := 5) (.slice a9 m9 c9) T1.out
        have offY : ∀ k, k ≠ w.heap.size + 1 → (wr.setCell ⟨w.heap.size + 1, 5, none⟩ (.slice a9 m9 c9)).heap[k]? = wr.heap[k]? := fun k hk => set_off wr (w.heap.size + 1) 5 k _ hk
        have hzz := HZ.out
        have y1 : (wr.setCell ⟨w.heap.size + 1, 5, none⟩ (.slice a9 m9 c9)).heap[w.heap.size]? = some (.cells #[.int .i64 r, .int .i64 s, .slice a5 m5 c5] 24) := (offY _ (by omega)).trans ((HB.out.block _ (by omega)).trans HU.out.1)
        have y3 : (wr.setCell ⟨w.heap.size + 1, 5, none⟩ (.slice a9 m9 c9)).heap[w.heap.size + 2]? = some (.cells #[.int .i64 0, .int .i64 0, .slice none 0 0] 24) := (offY _ (by omega)).trans ((HB.out.block _ (by omega)).trans HU.out.2.2.1)
        have y4 : (wr.setCell ⟨w.heap.size + 1, 5, none⟩ (.slice a9 m9 c9)).heap[w.heap.size + 3]? = some (.cells #[.int .i64 0, .int .i64 0, .int .i64 0, .int .i64 0, .bool false, .slice none 0 0] 27) := (offY _ (by omega)).trans ((HB.out.block _ (by omega)).trans HU.out.2.2.2.1)
        have sY : (wr.setCell ⟨w.heap.size + 1, 5, none⟩ (.slice a9 m9 c9)).heap.size = wr.heap.size := by simp [World.setCell]
        have vY : (wr.setCell ⟨w.heap.size + 1, 5, none⟩ (.slice a9 m9 c9)).os = wr.os ∧ (wr.setCell ⟨w.heap.size + 1, 5, none⟩ (.slice a9 m9 c9)).tape = wr.tape ∧ (wr.setCell ⟨w.heap.size + 1, 5, none⟩ (.slice a9 m9 c9)).output = wr.output := ⟨rfl, rfl, rfl⟩
        generalize wr.setCell ⟨w.heap.size + 1, 5, none⟩ (.slice a9 m9 c9) = Y at *
        have HY : Hid (Y.heap[w.heap.size]? = some (.cells #[.int .i64 r, .int .i64 s, .slice a5 m5 c5] 24) ∧ Y.heap[w.heap.size + 1]? = some (.cells #[.int .i64 k, .int .i64 f, .int .i64 t, .int .i64 x, .bool y, .slice a9 m9 c9] 27) ∧ Y.heap[w.heap.size + 2]? = some (.cells #[.int .i64 0, .int .i64 0, .slice none 0 0] 24) ∧ Y.heap[w.heap.size + 3]? = some (.cells #[.int .i64 0, .int .i64 0, .int .i64 0, .int .i64 0, .bool false, .slice none 0 0] 27) ∧ (∀ k, k ≠ w.heap.size + 1 → Y.heap[k]? = wr.heap[k]?) ∧ Y.heap.size = wr.heap.size ∧ (Y.os = wr.os ∧ Y.tape = wr.tape ∧ Y.output = wr.output)) := ⟨y1, y2, y3, y4, offY, sY, vY⟩
        clear y1 y2 y3 y4 offY sY vY hzz fz cm
        have KY : Hid (∀ W : World, W.heap[w.heap.size]? = some (.cells #[.int .i64 r, .int .i64 s, .slice a5 m5 c5] 24) → W.cell? ⟨w.heap.size, 0, none⟩ = some (.int .i64 r) ∧ W.cell? ⟨w.heap.size, 1, none⟩ = some (.int .i64 s) ∧ W.cell? ⟨w.heap.size, 2, none⟩ = some (.slice a5 m5 c5)) := fun W p1 => by
          refine ⟨?_, ?_, ?_⟩
          · rw [cell_of_row _ w.heap.size 0 _ _ (0, 0) p1]; rfl
          · rw [cell_of_row _ w.heap.size 1 _ _ (0, 0) p1]; rfl
          · rw [cell_of_row _ w.heap.size 2 _ _ (0, 0) p1]; rfl
        have KX : Hid (∀ W : World, W.heap[w.heap.size + 1]? = some (.cells #[.int .i64 k, .int .i64 f, .int .i64 t, .int .i64 x, .bool y, .slice a9 m9 c9] 27) → W.cell? ⟨w.heap.size + 1, 0, none⟩ = some (.int .i64 k) ∧ W.cell? ⟨w.heap.size + 1, 1, none⟩ = some (.int .i64 f) ∧ W.cell? ⟨w.heap.size + 1, 2, none⟩ = some (.int .i64 t) ∧ W.cell? ⟨w.heap.size + 1, 3, none⟩ = some (.int .i64 x) ∧ W.cell? ⟨w.heap.size + 1, 4, none⟩ = some (.bool y) ∧ W.cell? ⟨w.heap.size + 1, 5, none⟩ = some (.slice a9 m9 c9)) := fun W p1 => by
          refine ⟨?_, ?_, ?_, ?_, ?_, ?_⟩
          · rw [cell_of_row _ (w.heap.size + 1) 0 _ _ (0, 0) p1]; rfl
          · rw [cell_of_row _ (w.heap.size + 1) 1 _ _ (0, 0) p1]; rfl
          · rw [cell_of_row _ (w.heap.size + 1) 2 _ _ (0, 0) p1]; rfl
          · rw [cell_of_row _ (w.heap.size + 1) 3 _ _ (0, 0) p1]; rfl
          · rw [cell_of_row _ (w.heap.size + 1) 4 _ _ (0, 0) p1]; rfl
          · rw [cell_of_row _ (w.heap.size + 1) 5 _ _ (0, 0) p1]; rfl
        refine wp_region_noPanic ?_
        refine wp_region_held_drew (S := (fun W : World => W.heap[w.heap.size]? = some (.cells #[.int .i64 r, .int .i64 s, .slice a5 m5 c5] 24) ∧ W.heap[w.heap.size + 1]? = some (.cells #[.int .i64 k, .int .i64 f, .int .i64 t, .int .i64 x, .bool y, .slice a9 m9 c9] 27))) (by kernel_rfl) ?hSag (fun hHeld => ?restag)
        case hSag => exact ⟨HY.out.1, HY.out.2.1⟩
        case restag =>
          refine wpAnyH_take (i := 0) (v := .agg #[.int .i64 r, .int .i64 s, .slice a5 m5 c5]) rfl (by kernel_rfl) (by kernel_rfl) (by kernel_rfl) (fun _ _ _ h => h) (Or.inl ⟨by kernel_rfl, ?hy0g⟩) hHeld ?rest0g
          case hy0g => (intro w' hSw; (try dsimp only at hSw); obtain ⟨q0, q1, q2⟩ := KY.out _ hSw.1; go_simp; try with_reducible rfl)
          try simp only [Act.put, List.setIfInBounds_toArray, List.set_cons_zero, List.set_cons_succ, List.getElem_toArray, List.getElem_cons_zero, List.getElem_cons_succ]
          refine wpAnyH_take (i := 1) (v := .agg #[.int .i64 k, .int .i64 f, .int .i64 t, .int .i64 x, .bool y, .slice a9 m9 c9]) rfl (by kernel_rfl) (by kernel_rfl) (by kernel_rfl) (fun _ _ _ h => h) (Or.inl ⟨by kernel_rfl, ?hy1g⟩) hHeld ?rest1g
          case hy1g => (intro w' hSw; (try dsimp only at hSw); obtain ⟨q0, q1, q2, q3, q4, q5⟩ := KX.out _ hSw.2; go_simp; try with_reducible rfl)
          try simp only [Act.put, List.setIfInBounds_toArray, List.set_cons_zero, List.set_cons_succ, List.getElem_toArray, List.getElem_cons_zero, List.getElem_cons_succ]
          have SS : Hid (∀ W : World, ∀ q C, q ≠ w.heap.size → q ≠ w.heap.size + 1 → W.heap[w.heap.size]? = some (.cells #[.int .i64 r, .int .i64 s, .slice a5 m5 c5] 24) ∧ W.heap[w.heap.size + 1]? = some (.cells #[.int .i64 k, .int .i64 f, .int .i64 t, .int .i64 x, .bool y, .slice a9 m9 c9] 27) → (W.setRow q C).heap[w.heap.size]? = some (.cells #[.int .i64 r, .int .i64 s, .slice a5 m5 c5] 24) ∧ (W.setRow q C).heap[w.heap.size + 1]? = some (.cells #[.int .i64 k, .int .i64 f, .int .i64 t, .int .i64 x, .bool y, .slice a9 m9 c9] 27)) := fun W q C h1 h2 h => ⟨(setRow_other _ _ _ _ (fun e => h1 e.symm)).trans h.1, (setRow_other _ _ _ _ (fun e => h2 e.symm)).trans h.2⟩
          have YD : Hid (Y.drew.heap[w.heap.size + 1 + 1]? = some (.cells #[.int .i64 0, .int .i64 0, .slice none 0 0] 24) ∧ (Y.drew.setRow (w.heap.size + 1 + 1) #[.int .i64 r, .int .i64 s, .slice a5 m5 c5]).heap[w.heap.size + 1 + 1 + 1]? = some (.cells #[.int .i64 0, .int .i64 0, .int .i64 0, .int .i64 0, .bool false, .slice none 0 0] 27)) := ⟨HY.out.2.2.1, (setRow_other _ _ _ _ (by omega)).trans HY.out.2.2.2.1⟩
          refine wpAnyH_ready (rs := [2]) (by kernel_rfl) (by simp) ?_
          refine AllReadyH.cons rfl (fun K hK => ?_) AllReadyH.nil
          rw [if_pos (by kernel_rfl)]; refine wp_store_row 24 (.tmp 4) (.tmp 62) rfl (w.heap.size + 1 + 1) #[.int .i64 r, .int .i64 s, .slice a5 m5 c5] rfl rfl 24 #[.int .i64 0, .int .i64 0, .slice none 0 0] YD.out.1 size3P rfl (by simp [Value.oneCell']) ?_
          refine hK.out _ _ ?hS2g (fun hHeld => ?rest2g)
          case hS2g => exact SS.out _ _ _ (by omega) (by omega) hHeld
          clear hK K
          refine wpAnyH_ready (rs := [3]) (by kernel_rfl) (by simp) ?_
          refine AllReadyH.cons rfl (fun K hK => ?_) AllReadyH.nil
          rw [if_pos (by kernel_rfl)]; refine wp_store_row 27 (.tmp 5) (.tmp 63) rfl (w.heap.size + 1 + 1 + 1) #[.int .i64 k, .int .i64 f, .int .i64 t, .int .i64 x, .bool y, .slice a9 m9 c9] rfl rfl 27 #[.int .i64 0, .int .i64 0, .int .i64 0, .int .i64 0, .bool false, .slice none 0 0] YD.out.2 size6M rfl (by simp [Value.oneCell']) ?_
          refine hK.out _ _ ?hS3g (fun hHeld => ?rest3g)
          case hS3g => exact SS.out _ _ _ (by omega) (by omega) hHeld
          clear hK K
          refine wpAnyH_done (by kernel_rfl) ?_ _
          refine NoPanic.normal ?_
          go_wp2_with fail
          refine bodyPost_ret (results_pm rfl _ _ (w.heap.size + 1 + 1) (w.heap.size + 1 + 1 + 1) #[.int .i64 r, .int .i64 s, .slice a5 m5 c5] #[.int .i64 k, .int .i64 f, .int .i64 t, .int .i64 x, .bool y, .slice a9 m9 c9] rfl rfl rfl rfl ((setRow_other _ _ _ _ (by omega)).trans (setRow_heap _ _ _ _ _ _ YD.out.1)) (setRow_heap _ _ _ _ _ _ YD.out.2)) rfl ?_
          have oY : ∀ q, q ≠ w.heap.size + 1 → q ≠ w.heap.size + 2 → q ≠ w.heap.size + 3 → ((Y.drew.setRow (w.heap.size + 1 + 1) #[.int .i64 r, .int .i64 s, .slice a5 m5 c5]).setRow (w.heap.size + 1 + 1 + 1) #[.int .i64 k, .int .i64 f, .int .i64 t, .int .i64 x, .bool y, .slice a9 m9 c9]).heap[q]? = wr.heap[q]? := fun q h1 h2 h3 => (setRow_other _ _ _ _ (by omega)).trans ((setRow_other _ _ _ _ (by omega)).trans (HY.out.2.2.2.2.1 q h1))
          have sz : ((Y.drew.setRow (w.heap.size + 1 + 1) #[.int .i64 r, .int .i64 s, .slice a5 m5 c5]).setRow (w.heap.size + 1 + 1 + 1) #[.int .i64 k, .int .i64 f, .int .i64 t, .int .i64 x, .bool y, .slice a9 m9 c9]).heap.size = wr.heap.size := by rw [setRow_size, setRow_size]; exact HY.out.2.2.2.2.2.1
          have hzz := HZ.out
          have hbs := HB.out.size
          refine ⟨_, _, M, rfl, ?_, ?_, ?_, ?_⟩
          · rw [← HDT.out]
            refine OwnZ.base ?_ (Nat.le_add_right w.heap.size 4)
            exact HU.out.2.2.2.2.1.kept fun k hk => by
              have h1 := HU.out.2.2.2.2.1.own k hk
              exact (oY k (by omega) (by omega) (by omega)).trans (HB.out.block k (by omega))
          · have := few_end (w' := (Y.drew.setRow (w.heap.size + 1 + 1) #[.int .i64 r, .int .i64 s, .slice a5 m5 c5]).setRow (w.heap.size + 1 + 1 + 1) #[.int .i64 k, .int .i64 f, .int .i64 t, .int .i64 x, .bool y, .slice a9 m9 c9]) RW.out.1 (show w.heap.size ≤ z by omega) (by rw [sz]; exact Nat.le_refl _) (fun q hq => oY q (by omega) (by omega) (by omega))
            exact this
          · rw [HLN.out, ← HNN.out]; have := RW.out.2.1; omega
          · exact HU.out.2.2.2.2.2.trans ⟨HY.out.2.2.2.2.2.2.1.trans HB.out.os, HY.out.2.2.2.2.2.2.2.1.trans HB.out.tape, HY.out.2.2.2.2.2.2.2.2.trans HB.out.output, by rw [sz]; exact hbs, fun q hq => (oY q (by omega) (by omega) (by omega)).trans (HB.out.block q (by omega))⟩
theorem fewp_is (w : World) (r s : Int) (ad : Option Addr) (nd cd : Nat) (D : List Int) (hnd : D.length = nd) (hD : InZ w ad D) (hda : ad = none → nd = 0 ∧ cd = 0) (hdc : nd ≤ cd) (k f t x : Int) (y : Bool) (a : Option Addr) (n c : Nat) (L : List Pk) (hn : L.length = n) (hL : InPk w a L) (hc : n ≤ c) (hnl : ∀ x ∈ L, x.la = none → x.ln = 0 ∧ x.lc = 0) :
    Calls Try.prog 9 #[.agg #[.int .i64 r, .int .i64 s, .slice ad nd cd], .agg #[.int .i64 k, .int .i64 f, .int .i64 t, .int .i64 x, .bool y, .slice a n c]] w (fun e w' => FwSaid w w' r s k f t x y D L e) := by
  by_cases hq : nd ≤ 100
  · exact fewp_small w r s ad nd cd D hnd hD hda hdc k f t x y a n c L hn hL hc hnl hq
  · exact fewp_big w r s ad nd cd D hnd hD hda hdc k f t x y a n c L hn hL hc hnl (by omega)
end Go.Proofs.Ytmokonaodoiflaa
