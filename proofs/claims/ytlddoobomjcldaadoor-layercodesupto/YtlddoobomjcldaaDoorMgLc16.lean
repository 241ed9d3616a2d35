/- sha.Sum at a slice of whatever capacity. layer.Id. The law's own works. The document's own rot and table. -/
import Derived.Test.YtlddoobomjcldaaDoorMgLc15
import Derived.Test.YtlddoobomjcldaaDoorMgLc4
namespace Go.Proofs.YtlddoobomjcldaaDoor
open Go.ChangeShapes Go.WideShapes Go.ChangeAt Go.RowKit Go.Deep
set_option linter.unusedVariables false
theorem sum_any (B : List Int) (a : Option Addr) (n cap : Nat) (w : World) (hB : B.length = n) (hb : IsBytes B) (hc : n ≤ cap) (hcm : cap ≤ 9223372036854775807) (hnm : n ≤ 1152921504606846000) (hh : Holds w a B)
    (hf : ∀ x, a = some x → B ≠ [] → x.block < w.heap.size) (hk : KIs w) :
    Calls Tryd.prog 36 #[.slice a n cap] w fun e w' => e = .returned (.agg (u8s (shaL B))) ∧ Below w.heap.size w w' := by
  have HK : Hid (KIs w) := hk
  have HB : Hid (IsBytes B) := hb
  have HH : Hid (Holds w a B) := hh
  have HF : Hid (∀ x, a = some x → B ≠ [] → x.block < w.heap.size) := hf
  have hz24 := (zero_of_info zero24_info).1
  clear hk hb hh hf
  go_enter Tryd.func36, Tryd.ntmps36
  go_wp2_with (go_at_call 56; refine (new_is _).mono ?_; rintro e w1 ⟨g, rfl, hg, hH1, hb1⟩; have HH1 : Hid (HashAt w1 g []) := hH1; have HB1 : Hid (Below (w.alloc (.cells z32 35)).heap.size (w.alloc (.cells z32 35)) w1) := hb1; have HG : Hid ((w.alloc (.cells z32 35)).heap.size ≤ g) := hg; clear hH1 hb1 hg)
  have hsz : (w.alloc (.cells z32 35)).heap.size = w.heap.size + 1 := by simp
  have hg1 : w.heap.size + 1 ≤ g := by have := HG.out; omega
  have BW1 : Hid (Below w.heap.size w w1) := ((Below.refl _ _).alloc (Nat.le_refl _) _).trans (HB1.out.mono (by rw [hsz]; omega))
  have HZ1 : Hid (w1.heap[w.heap.size]? = some (.cells z32 35)) := (HB1.out.block _ (by rw [hsz]; omega)).trans (heap_alloc_last w _)
  have HK1 : Hid (KIs w1) := HK.out.below BW1.out HK.out.pos
  clear HB1 HG hsz hz24
  refine (write_any g [] B a n cap w1 hB HB.out hc hcm (by omega) (by simp) (HH.out.below BW1.out HF.out) (fun x hx hne => by have := HF.out x hx hne; omega) HH1.out HK1.out).mono ?_
  rintro e w2 ⟨rfl, hH2, hO2⟩
  rw [List.nil_append] at hH2
  have HH2 : Hid (HashAt w2 g B) := hH2
  have BW2 : Hid (Below w.heap.size w w2) := BW1.out.trans (hO2.below _ (by omega) BW1.out.size)
  have HZ2 : Hid (w2.heap[w.heap.size]? = some (.cells z32 35)) := (hO2.block _ (lt_of_heap HZ1.out) (by omega)).trans HZ1.out
  have HK2 : Hid (KIs w2) := HK.out.below BW2.out HK.out.pos
  clear hH2 hO2
  go_wp2_with fail
  refine (sumH_is g B w2 HH2.out HK2.out (by omega)).mono ?_
  rintro e w3 ⟨rfl, hb3⟩
  have HZ3 : Hid (w3.heap[w.heap.size]? = some (.cells z32 35)) := (hb3.block _ (lt_of_heap HZ2.out)).trans HZ2.out
  have BW3 : Hid (Below w.heap.size w w3) := BW2.out.trans (hb3.mono BW2.out.size)
  have hsl := shaL_len B
  clear hb3
  go_wp2_with (refine wpList_store_row rfl 35 (.tmp 2) (.tmp 9) rfl w.heap.size (u8s (shaL B)) rfl rfl 35 z32 HZ3.out (size32l _ hsl) (by rw [z32_size, u8s_size, hsl]) (u8s_one _) ?_)
  refine bodyPost_ret (results_cell_row rfl _ _ w.heap.size 35 (u8s (shaL B)) (0, 0) _ rfl (setRow_heap _ _ _ _ _ _ HZ3.out) Tryd.underlying35 rfl (size32l _ hsl)) rfl ⟨rfl, ?_⟩
  exact below_setRow BW3.out (Nat.le_refl _) _
end Go.Proofs.YtlddoobomjcldaaDoor
namespace Go.Proofs.YtlddoobomjcldaaDoor
open Go.ChangeShapes Go.WideShapes Go.ChangeAt Go.RowKit Go.Deep
set_option linter.unusedVariables false
theorem results_dg {fn : Func} {p q : Tmp} (h : fn.results = #[.cell p 35, .tmp q]) (tmps : Array Value) (w : World) (g : Nat) (D : Array Value) (hD : D.size = 32)
    (hp : tmps.getD p undef = .pointer (some ⟨g, 0, none⟩)) (v : Value) (hq : tmps.getD q undef = v) (hg : w.heap[g]? = some (.cells D 35)) :
    (results fn tmps).run Tryd.prog w = .ok (.tuple #[.agg D, v]) w := by
  have hp' : tmps[p]?.getD undef = .pointer (some ⟨g, 0, none⟩) := by simpa using hp
  have hq' : tmps[q]?.getD undef = v := by simpa using hq
  simp [results, h, hp', hq', asAddr, run_loadVar_row w g 35 35 D (0, 0) _ hg Tryd.underlying35 rfl (by rw [hD]; exact size32)]
theorem z32_one : z32.all (·.oneCell') = true := by kernel_rfl
theorem enc_len {l : List En} (h : (chk l).2 = 0) : (enc l).length ≤ 100000 := by
  obtain ⟨h1, h2, h3⟩ := (chk_iff l).1 h
  have q1 := ees_len h2
  have q2 := (vr_len l.length).2
  simp only [enc, List.length_append, List.length_cons, List.length_nil]
  omega
set_option maxRecDepth 100000 in
set_option maxHeartbeats 4000000 in
theorem id_bad (l : List En) (n : Nat) (hn : l.length = n) (hn62 : n ≤ 4611686018427387904) (hf : Fit l) (a : Option Addr) (c : Nat) (w : World) (hl : InE w a l) (hc : (chk l).2 ≠ 0) :
    Calls Tryd.prog 12 #[.slice a n c] w fun e w' => e = .returned (.tuple #[.agg z32, .int .i64 (chk l).2]) ∧ Below w.heap.size w w' := by
  have B0 : Below w.heap.size w (w.alloc (.cells z32 35)) := (Below.refl _ _).alloc (Nat.le_refl _) _
  have hs0 : (w.alloc (.cells z32 35)).heap.size = w.heap.size + 1 := by simp
  have HZ0 : (w.alloc (.cells z32 35)).heap[w.heap.size]? = some (.cells z32 35) := heap_alloc_new w _
  have hz24 := (zero_of_info zero24_info).1
  have HB0 : Hid (Below w.heap.size w (w.alloc (.cells z32 35))) := B0
  have HZ : Hid ((w.alloc (.cells z32 35)).heap[w.heap.size]? = some (.cells z32 35)) := HZ0
  have K : Hid (Calls Tryd.prog 7 #[.slice a n c] (w.alloc (.cells z32 35)) fun e w' => e = .returned (.tuple #[.slice none 0 0, .int .i64 (chk l).2]) ∧ Below (w.alloc (.cells z32 35)).heap.size (w.alloc (.cells z32 35)) w') := encode_bad l n hn hn62 hf a c _ (hl.keep B0) hc
  generalize (chk l).2 = r at *
  clear hn hf hl B0 HZ0
  go_enter Tryd.func12, Tryd.ntmps12
  go_wp2_with fail
  refine K.out.mono ?_
  rintro e w1 ⟨rfl, hb1⟩
  have B1 : Hid (Below w.heap.size w w1) := HB0.out.trans (hb1.mono (by rw [hs0]; omega))
  have Z1 : Hid (w1.heap[w.heap.size]? = some (.cells z32 35)) := (hb1.block _ (by rw [hs0]; omega)).trans HZ.out
  clear hb1 K HB0 HZ
  go_wp2_with (refine wpList_store_row rfl 35 (.tmp 2) (.tmp 13) rfl w.heap.size z32 rfl rfl 35 z32 Z1.out (by rw [z32_size]; exact size32) rfl z32_one ?_)
  refine bodyPost_ret (results_dg rfl _ _ w.heap.size z32 z32_size rfl _ rfl (setRow_heap _ _ _ _ _ _ Z1.out)) rfl ⟨?_, ?_⟩
  · rfl
  · exact below_setRow B1.out (Nat.le_refl _) _
set_option maxRecDepth 100000 in
set_option maxHeartbeats 4000000 in
theorem id_ok (l : List En) (n : Nat) (hn : l.length = n) (hf : Fit l) (a : Option Addr) (c : Nat) (w : World) (hl : InE w a l) (hc : (chk l).2 = 0) (hk : KIs w) :
    Calls Tryd.prog 12 #[.slice a n c] w fun e w' => e = .returned (.tuple #[.agg (u8s (shaL (enc l))), .int .i64 0]) ∧ Below w.heap.size w w' := by
  have B0 : Below w.heap.size w (w.alloc (.cells z32 35)) := (Below.refl _ _).alloc (Nat.le_refl _) _
  have hs0 : (w.alloc (.cells z32 35)).heap.size = w.heap.size + 1 := by simp
  have HZ0 : (w.alloc (.cells z32 35)).heap[w.heap.size]? = some (.cells z32 35) := heap_alloc_new w _
  have hz24 := (zero_of_info zero24_info).1
  have HB0 : Hid (Below w.heap.size w (w.alloc (.cells z32 35))) := B0
  have HZ : Hid ((w.alloc (.cells z32 35)).heap[w.heap.size]? = some (.cells z32 35)) := HZ0
  have K : Hid (Calls Tryd.prog 7 #[.slice a n c] (w.alloc (.cells z32 35)) fun e w' => ∃ v, e = .returned (.tuple #[v, .int .i64 0]) ∧ Owned w' (w.alloc (.cells z32 35)).heap.size v (enc l) ∧ Below (w.alloc (.cells z32 35)).heap.size (w.alloc (.cells z32 35)) w') := encode_ok l n hn hf a c _ (hl.keep B0) hc
  have HBy : Hid (IsBytes (enc l)) := vr_bytes' l hc
  have HLn : Hid ((enc l).length ≤ 100000) := enc_len hc
  have HK : Hid (KIs w) := hk
  generalize enc l = E at *
  obtain ⟨S, hS⟩ : ∃ S, S = shaL E := ⟨_, rfl⟩
  rw [← hS]
  have HS : Hid (S = shaL E) := hS
  have hsl : S.length = 32 := by rw [hS]; exact shaL_len E
  clear hn hf hl B0 HZ0 hc hk hS
  go_enter Tryd.func12, Tryd.ntmps12
  go_wp2_with fail
  refine K.out.mono ?_
  rintro e w1 ⟨v, rfl, ho, hb1⟩
  have B1 : Hid (Below w.heap.size w w1) := HB0.out.trans (hb1.mono (by rw [hs0]; omega))
  have Z1 : Hid (w1.heap[w.heap.size]? = some (.cells z32 35)) := (hb1.block _ (by rw [hs0]; omega)).trans HZ.out
  obtain ⟨a1, c1, rfl, _, hh1, hm1, hc1⟩ := ho.slice
  have KS : Hid (Calls Tryd.prog 36 #[.slice a1 E.length c1] w1 fun e w' => e = .returned (.agg (u8s S)) ∧ Below w1.heap.size w1 w') := by
    rw [HS.out]
    exact sum_any E a1 E.length c1 w1 rfl HBy.out hc1 (by simp only [maxLen] at hm1; omega) (by have := HLn.out; omega) hh1 (fun x hx _ => ho.lt_size x hx) (HK.out.below B1.out HK.out.pos)
  clear hb1 K HB0 HZ ho hh1 hm1
  go_wp2_with fail
  refine KS.out.mono ?_
  rintro e w2 ⟨rfl, hb2⟩
  have B2 : Hid (Below w.heap.size w w2) := B1.out.trans (hb2.mono B1.out.size)
  have Z2 : Hid (w2.heap[w.heap.size]? = some (.cells z32 35)) := (hb2.block _ (lt_of_heap Z1.out)).trans Z1.out
  clear hb2 KS
  go_wp2_with (refine wpList_store_row rfl 35 (.tmp 2) (.tmp 16) rfl w.heap.size (u8s S) rfl rfl 35 z32 Z2.out (size32l _ hsl) (by rw [z32_size, u8s_size, hsl]) (u8s_one _) ?_)
  refine bodyPost_ret (results_dg rfl _ _ w.heap.size (u8s S) (by rw [u8s_size, hsl]) rfl _ rfl (setRow_heap _ _ _ _ _ _ Z2.out)) rfl ⟨?_, ?_⟩
  · rfl
  · exact below_setRow B2.out (Nat.le_refl _) _
end Go.Proofs.YtlddoobomjcldaaDoor
namespace Go.Proofs.YtlddoobomjcldaaDoor
open Go.ChangeShapes Go.WideShapes Go.ChangeAt Go.RowKit Go.Deep
set_option linter.unusedVariables false
def exE : En := ([97, 47, 98], 1, 420, [104, 105])
theorem exE_ok : (chk [exE]).2 = 0 := by decide +kernel
theorem exE_enc : enc [exE] = [86, 76, 1, 1, 1, 1, 164, 3, 97, 47, 98, 2, 104, 105] := by decide +kernel
theorem exE_str : strOfNums [86, 76, 1, 1, 1, 1, 164, 3, 97, 47, 98, 2, 104, 105] = ⟨#[86, 76, 1, 1, 1, 1, 164, 3, 97, 47, 98, 2, 104, 105]⟩ := by
  apply ByteArray.ext
  simp [strOfNums]
theorem InE.one (w : World) (x : En) : InE (w.alloc (.cells (ec (tx x.p) x.k x.m (tx x.b)) 64)) (some ⟨w.heap.size, 0, none⟩) [x] := by
  refine .inr ⟨w.heap.size, 0, rfl, by simp, fun i y hy => ?_⟩
  have hi : i = 0 := by
    have := (List.getElem?_eq_some_iff.1 hy).1
    simpa using this
  subst hi
  simp at hy
  subst hy
  obtain ⟨h0, h1, h2, h3⟩ := ec_cells (heap_alloc_new w (.cells (ec (tx x.p) x.k x.m (tx x.b)) 64))
  exact ⟨h0, h1, h2, h3⟩
set_option maxRecDepth 100000 in
theorem works_is (w : World) : Calls Tryd.prog 15 #[] w fun e w' => e = .returned (.bool true) ∧ Below w.heap.size w w' := by
  have K : Hid (Calls Tryd.prog 7 #[.slice (some ⟨w.heap.size, 0, none⟩) 1 1] (w.alloc (.cells #[.string ⟨#[97, 47, 98]⟩, .int .i64 1, .int .i64 420, .string ⟨#[104, 105]⟩] 64)) fun e w' => ∃ v, e = .returned (.tuple #[v, .int .i64 0]) ∧ Owned w' (w.heap.size + 1) v (enc [exE]) ∧ Below (w.heap.size + 1) (w.alloc (.cells #[.string ⟨#[97, 47, 98]⟩, .int .i64 1, .int .i64 420, .string ⟨#[104, 105]⟩] 64)) w') := by
    have := encode_ok [exE] 1 rfl (fun x hx => by simp at hx; subst hx; decide) (some ⟨w.heap.size, 0, none⟩) 1 _ (InE.one w exE) exE_ok
    rw [World.size_alloc] at this
    exact this
  rw [exE_enc] at K
  go_enter Tryd.func15, Tryd.ntmps15
  go_wp2_with fail
  refine K.out.mono ?_
  rintro e w1 ⟨v, rfl, ho, hb⟩
  obtain ⟨a, c, rfl, _, hh, _⟩ := ho.slice
  have cs := conv_str hh 14 c rfl
  rw [exE_str] at cs
  have B1 : Hid (Below w.heap.size w w1) := ((Below.refl w.heap.size w).alloc (Nat.le_refl _) _).trans (hb.mono (by omega))
  clear hb hh ho K
  go_wp2_with fail
  go_ret
  exact ⟨rfl, B1.out⟩
end Go.Proofs.YtlddoobomjcldaaDoor
namespace Go.Proofs.YtlddoobomjcldaaDoor
open Go.ChangeShapes Go.WideShapes Go.ChangeAt Go.RowKit Go.Deep
set_option linter.unusedVariables false
theorem rotS (x n : Nat) : (((x : Int) / 2 ^ n) + (x : Int) * 2 ^ (32 - n)) % 4294967296 = ((rotr x n : Nat) : Int) := by
  unfold rotr ad
  rw [Nat.add_mod_mod]
  simp
theorem rrot_is (x n : Nat) (hx : x < 4294967296) (hn : n ∈ [2, 6, 7, 11, 13, 17, 18, 19, 22, 25]) (w : World) :
    Calls Tryd.prog 38 #[.int .u32 x, .int .u64 (n : Int)] w fun e w' => e = .returned (.int .u32 (rotr x n : Nat)) ∧ w' = w := by
  have k : Hid (∀ n, (((x : Int) / 2 ^ n) + (x : Int) * 2 ^ (32 - n)) % 4294967296 = ((rotr x n : Nat) : Int)) := fun n => rotS x n
  simp only [List.mem_cons, List.not_mem_nil, or_false] at hn
  rcases hn with rfl | rfl | rfl | rfl | rfl | rfl | rfl | rfl | rfl | rfl
  · go_enter Tryd.func38, Tryd.ntmps38
    go_wp2
    go_ret
    refine ⟨?_, rfl⟩
    have h := k.out 2
    simp at h
    refine congrArg (fun z => Ending.returned (.int .u32 z)) ?_
    omega
  · go_enter Tryd.func38, Tryd.ntmps38
    go_wp2
    go_ret
    refine ⟨?_, rfl⟩
    have h := k.out 6
    simp at h
    refine congrArg (fun z => Ending.returned (.int .u32 z)) ?_
    omega
  · go_enter Tryd.func38, Tryd.ntmps38
    go_wp2
    go_ret
    refine ⟨?_, rfl⟩
    have h := k.out 7
    simp at h
    refine congrArg (fun z => Ending.returned (.int .u32 z)) ?_
    omega
  · go_enter Tryd.func38, Tryd.ntmps38
    go_wp2
    go_ret
    refine ⟨?_, rfl⟩
    have h := k.out 11
    simp at h
    refine congrArg (fun z => Ending.returned (.int .u32 z)) ?_
    omega
  · go_enter Tryd.func38, Tryd.ntmps38
    go_wp2
    go_ret
    refine ⟨?_, rfl⟩
    have h := k.out 13
    simp at h
    refine congrArg (fun z => Ending.returned (.int .u32 z)) ?_
    omega
  · go_enter Tryd.func38, Tryd.ntmps38
    go_wp2
    go_ret
    refine ⟨?_, rfl⟩
    have h := k.out 17
    simp at h
    refine congrArg (fun z => Ending.returned (.int .u32 z)) ?_
    omega
  · go_enter Tryd.func38, Tryd.ntmps38
    go_wp2
    go_ret
    refine ⟨?_, rfl⟩
    have h := k.out 18
    simp at h
    refine congrArg (fun z => Ending.returned (.int .u32 z)) ?_
    omega
  · go_enter Tryd.func38, Tryd.ntmps38
    go_wp2
    go_ret
    refine ⟨?_, rfl⟩
    have h := k.out 19
    simp at h
    refine congrArg (fun z => Ending.returned (.int .u32 z)) ?_
    omega
  · go_enter Tryd.func38, Tryd.ntmps38
    go_wp2
    go_ret
    refine ⟨?_, rfl⟩
    have h := k.out 22
    simp at h
    refine congrArg (fun z => Ending.returned (.int .u32 z)) ?_
    omega
  · go_enter Tryd.func38, Tryd.ntmps38
    go_wp2
    go_ret
    refine ⟨?_, rfl⟩
    have h := k.out 25
    simp at h
    refine congrArg (fun z => Ending.returned (.int .u32 z)) ?_
    omega
set_option maxRecDepth 100000 in
theorem table_is (w : World) : Calls Tryd.prog 37 #[] w fun e w' => e = .returned (.slice (some ⟨w.heap.size, 0, none⟩) 64 64) ∧ w' = w.alloc (.cells (u32s kT) 76) := by
  go_enter Tryd.func37, Tryd.ntmps37
  go_wp2
  go_ret
  exact ⟨rfl, rfl⟩
end Go.Proofs.YtlddoobomjcldaaDoor
