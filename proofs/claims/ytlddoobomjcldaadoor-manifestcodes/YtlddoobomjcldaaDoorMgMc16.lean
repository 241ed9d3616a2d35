/- manifest.Id. A manifest that came in, opened. A manifest that came in, opened; how great it may be. The document's Size of a manifest. References held against each other; the document's Same of manifests. -/
import Derived.Test.YtlddoobomjcldaaDoorMgMc10
import Derived.Test.YtlddoobomjcldaaDoorMgMc15
import Derived.Test.YtlddoobomjcldaaDoorMgMc5
import Derived.Deep.Slices
import Derived.Deep.Strs
import Derived.OpenShut
import Derived.ChangeSame
import Derived.SizedLaws
namespace Go.Proofs.YtlddoobomjcldaaDoor
open Go.ChangeShapes Go.WideShapes Go.ChangeAt Go.RowKit Go.Deep Go.Maps
set_option linter.unusedVariables false
theorem results_dgM {fn : Func} {p q : Tmp} (h : fn.results = #[.cell p 35, .tmp q]) (tmps : Array Value) (w : World) (g : Nat) (D : Array Value) (hD : D.size = 32)
    (hp : tmps.getD p undef = .pointer (some ⟨g, 0, none⟩)) (v : Value) (hq : tmps.getD q undef = v) (hg : w.heap[g]? = some (.cells D 35)) :
    (results fn tmps).run Tryd.prog w = .ok (.tuple #[.agg D, v]) w := by
  have hp' : tmps[p]?.getD undef = .pointer (some ⟨g, 0, none⟩) := by simpa using hp
  have hq' : tmps[q]?.getD undef = v := by simpa using hq
  simp [results, h, hp', hq', asAddr, run_loadVar_row w g 35 35 D (0, 0) _ hg Tryd.underlying35 rfl (by rw [hD]; exact size32)]
theorem z32_oneM : z32.all (·.oneCell') = true := by kernel_rfl
theorem mel_lenI : ∀ (l : List Rf), Dgs l → (mel l).length ≤ l.length * 37
  | [], _ => by simp [mel]
  | x :: r, h => by
    have := mel_lenI r (fun y hy => h y (by simp [hy]))
    have h1 := (h x (by simp)).1
    have h2 := (vz_len x.2).2
    simp only [mel, List.length_append, List.length_cons]
    omega
theorem menc_short {m : Mf} (h : mchk m = 0) (hd : Dgs m.2.2) : (menc m).length ≤ 1000 := by
  obtain ⟨⟨n1, n2⟩, h2, h3, h4⟩ := mchk_ok h
  have l1 := nmOk_len n1
  have l2 := nmOk_len n2
  have v1 := (vr_len m.1.length).2
  have v2 := (vr_len m.2.1.length).2
  have e1 := mel_lenI _ hd
  unfold menc
  simp only [List.length_append, List.length_cons, List.length_nil, nm_length]
  omega
/-- the world behind Id's first rows -/
def idW (w : World) (m : Mf) (a : Option Addr) (n c : Nat) : World := (w.alloc (.cells #[.string (tx m.1), .string (tx m.2.1), .slice a n c] 44)).alloc (.cells z32 35)
theorem idW_is (w : World) (m : Mf) (a : Option Addr) (n c : Nat) : Below w.heap.size w (idW w m a n c) ∧ (idW w m a n c).heap.size = w.heap.size + 2 ∧ (idW w m a n c).heap[w.heap.size + 1]? = some (.cells z32 35) := by
  refine ⟨((Below.refl _ _).alloc (Nat.le_refl _) _).alloc (by simp) _, by simp [idW], ?_⟩
  have := heap_alloc_new (w.alloc (.cells #[.string (tx m.1), .string (tx m.2.1), .slice a n c] 44)) (.cells z32 35)
  unfold idW
  simpa using this
set_option maxRecDepth 100000 in
set_option maxHeartbeats 4000000 in
theorem mid_bad (m : Mf) (n : Nat) (hn : m.2.2.length = n) (hn62 : n ≤ 4611686018427387904) (hf : FitM m) (a : Option Addr) (c : Nat) (w : World) (hl : InR w a m.2.2) (hc : mchk m ≠ 0) :
    Calls Tryd.prog 21 #[mv m a n c] w fun e w' => e = .returned (.tuple #[.agg z32, .int .i64 (mchk m)]) ∧ Below w.heap.size w w' := by
  obtain ⟨B0, hs0, HZ0⟩ := idW_is w m a n c
  have hz24 := (zero_of_info zero24_info).1
  have HB0 : Hid (Below w.heap.size w (idW w m a n c)) := B0
  have HZ : Hid ((idW w m a n c).heap[w.heap.size + 1]? = some (.cells z32 35)) := HZ0
  have K : Hid (Calls Tryd.prog 16 #[mv m a n c] (idW w m a n c) fun e w' => e = .returned (.tuple #[.slice none 0 0, .int .i64 (mchk m)]) ∧ Below (idW w m a n c).heap.size (idW w m a n c) w') := mencode_bad m n hn hn62 hf a c _ (hl.keep B0) hc
  have HW : Hid (idW w m a n c = (w.alloc (.cells #[.string (tx m.1), .string (tx m.2.1), .slice a n c] 44)).alloc (.cells z32 35)) := rfl
  unfold mv at *
  generalize mchk m = r at *
  generalize idW w m a n c = W at *
  generalize tx m.1 = SN at *
  generalize tx m.2.1 = SV at *
  clear hn hf hl B0 HZ0
  go_enter Tryd.func21, Tryd.ntmps21
  go_wp2_with fail
  rw [← HW.out]
  refine K.out.mono ?_
  rintro e w1 ⟨rfl, hb1⟩
  have B1 : Hid (Below w.heap.size w w1) := HB0.out.trans (hb1.mono (by rw [hs0]; omega))
  have Z1 : Hid (w1.heap[w.heap.size + 1]? = some (.cells z32 35)) := (hb1.block _ (by rw [hs0]; omega)).trans HZ.out
  clear hb1 K HB0 HZ HW
  go_wp2_with (refine wpList_store_row rfl 35 (.tmp 2) (.tmp 13) rfl (w.heap.size + 1) z32 rfl rfl 35 z32 Z1.out (by rw [z32_size]; exact size32) rfl z32_oneM ?_)
  refine bodyPost_ret (results_dgM rfl _ _ (w.heap.size + 1) z32 z32_size rfl _ rfl (setRow_heap _ _ _ _ _ _ Z1.out)) rfl ⟨?_, ?_⟩
  · rfl
  · exact below_setRow B1.out (Nat.le_succ _) _
set_option maxRecDepth 100000 in
set_option maxHeartbeats 4000000 in
theorem mid_ok (m : Mf) (n : Nat) (hn : m.2.2.length = n) (hf : FitM m) (a : Option Addr) (c : Nat) (w : World) (hl : InR w a m.2.2) (hc : mchk m = 0) (hk : KIs w) :
    Calls Tryd.prog 21 #[mv m a n c] w fun e w' => e = .returned (.tuple #[.agg (u8s (shaL (menc m))), .int .i64 0]) ∧ Below w.heap.size w w' := by
  obtain ⟨B0, hs0, HZ0⟩ := idW_is w m a n c
  have hz24 := (zero_of_info zero24_info).1
  have HB0 : Hid (Below w.heap.size w (idW w m a n c)) := B0
  have HZ : Hid ((idW w m a n c).heap[w.heap.size + 1]? = some (.cells z32 35)) := HZ0
  have K : Hid (Calls Tryd.prog 16 #[mv m a n c] (idW w m a n c) fun e w' => ∃ v, e = .returned (.tuple #[v, .int .i64 0]) ∧ Owned w' (idW w m a n c).heap.size v (menc m) ∧ Below (idW w m a n c).heap.size (idW w m a n c) w') := mencode_ok m n hn hf a c _ (hl.keep B0) hc
  have HW : Hid (idW w m a n c = (w.alloc (.cells #[.string (tx m.1), .string (tx m.2.1), .slice a n c] 44)).alloc (.cells z32 35)) := rfl
  have HBy : Hid (IsBytes (menc m)) := menc_bytes hc hf.2.2
  have HLn : Hid ((menc m).length ≤ 1000) := menc_short hc hf.2.2
  have HK : Hid (KIs w) := hk
  unfold mv at *
  generalize menc m = E at *
  obtain ⟨S, hS⟩ : ∃ S, S = shaL E := ⟨_, rfl⟩
  rw [← hS]
  have HS : Hid (S = shaL E) := hS
  have hsl : S.length = 32 := by rw [hS]; exact shaL_len E
  generalize idW w m a n c = W at *
  generalize tx m.1 = SN at *
  generalize tx m.2.1 = SV at *
  clear hn hf hl B0 HZ0 hc hk hS
  go_enter Tryd.func21, Tryd.ntmps21
  go_wp2_with fail
  rw [← HW.out]
  refine K.out.mono ?_
  rintro e w1 ⟨v, rfl, ho, hb1⟩
  have B1 : Hid (Below w.heap.size w w1) := HB0.out.trans (hb1.mono (by rw [hs0]; omega))
  have Z1 : Hid (w1.heap[w.heap.size + 1]? = some (.cells z32 35)) := (hb1.block _ (by rw [hs0]; omega)).trans HZ.out
  obtain ⟨a1, c1, rfl, _, hh1, hm1, hc1⟩ := ho.slice
  have KS : Hid (Calls Tryd.prog 36 #[.slice a1 E.length c1] w1 fun e w' => e = .returned (.agg (u8s S)) ∧ Below w1.heap.size w1 w') := by
    rw [HS.out]
    exact sum_any E a1 E.length c1 w1 rfl HBy.out hc1 (by simp only [maxLen] at hm1; omega) (by have := HLn.out; omega) hh1 (fun x hx _ => ho.lt_size x hx) (HK.out.below B1.out HK.out.pos)
  clear hb1 K HB0 HZ ho hh1 hm1 HW
  go_wp2_with fail
  refine KS.out.mono ?_
  rintro e w2 ⟨rfl, hb2⟩
  have B2 : Hid (Below w.heap.size w w2) := B1.out.trans (hb2.mono B1.out.size)
  have Z2 : Hid (w2.heap[w.heap.size + 1]? = some (.cells z32 35)) := (hb2.block _ (lt_of_heap Z1.out)).trans Z1.out
  clear hb2 KS
  go_wp2_with (refine wpList_store_row rfl 35 (.tmp 2) (.tmp 16) rfl (w.heap.size + 1) (u8s S) rfl rfl 35 z32 Z2.out (size32l _ hsl) (by rw [z32_size, u8s_size, hsl]) (u8s_one _) ?_)
  refine bodyPost_ret (results_dgM rfl _ _ (w.heap.size + 1) (u8s S) (by rw [u8s_size, hsl]) rfl _ rfl (setRow_heap _ _ _ _ _ _ Z2.out)) rfl ⟨?_, ?_⟩
  · rfl
  · exact below_setRow B2.out (Nat.le_succ _) _
end Go.Proofs.YtlddoobomjcldaaDoor
namespace Go.Proofs.YtlddoobomjcldaaDoor
open Go.ChangeShapes Go.WideShapes Go.ChangeAt Go.RowKit Go.Deep Go.Maps
set_option linter.unusedVariables false
theorem cellsR : Tryd.prog.cellsOf 80 = 33 := by kernel_rfl
theorem cellsMf : Tryd.prog.cellsOf 44 = 3 := by kernel_rfl
theorem cellsI64 : Tryd.prog.cellsOf 3 = 1 := by kernel_rfl
theorem cellsStr : Tryd.prog.cellsOf 9 = 1 := by kernel_rfl
theorem cellsRs : Tryd.prog.cellsOf 42 = 1 := by kernel_rfl
theorem bytesR : Tryd.prog.bytesOf 80 = 40 := by kernel_rfl
/-- the number in a cell -/
def nuv (v : Value) : Int := match v with | .int _ x => x | _ => 0
theorem open_ref {H : Type} {enc : TypeId × Value → H} {W : World} {sp : Nat → Bool} {fuel : Nat} {cs : List Value} {x : DataW H × List MemPlace} (h : DataW.trod enc Tryd.prog W 0 sp true fuel 80 cs = some x) :
    ∃ q : Rf, cs = rcl q ∧ q.1.length = 32 ∧ IsBytes q.1 := by
  obtain ⟨y0, y1, n, hxy, hlen, g0, g1⟩ := trod_struct2 Tryd.underlying80 h
  rw [cellsR] at hlen
  simp only [cellsDg, cellsI64, List.drop_zero] at g0 g1
  obtain ⟨xs, m, rfl, hx, hl2, hxl, hel⟩ := DataW.trod_array Tryd.underlying35 g0
  obtain ⟨z, e1, _, _⟩ := DataW.trod_int Tryd.underlying3 g1
  have hone : ∀ i, i < 32 → ∃ x : Int, cs[i]? = some (.int .u8 x) ∧ (Lit.int .u8 x).wf = true := by
    intro i hi
    have h1 := hel i hi
    rw [cellsU8, Nat.mul_one] at h1
    have hxi : xs[i]? = some xs[i] := List.getElem?_eq_getElem (by omega)
    rw [hxi] at h1
    obtain ⟨x, e1, _, e3⟩ := DataW.trod_int Tryd.underlying5 h1
    refine ⟨x, ?_, e3⟩
    have := congrArg (·[0]?) e1
    simpa [List.getElem?_take, List.getElem?_drop, hi] using this
  refine ⟨((cs.take 32).map nuv, z), ?_, by simp [hlen], ?_⟩
  · unfold rcl
    apply List.ext_getElem?
    intro i
    by_cases hi : i < 32
    · obtain ⟨x, e, _⟩ := hone i hi
      rw [List.getElem?_append_left (by simp [hlen]; omega), e]
      simp [hi, e, nuv]
    · rw [List.getElem?_append_right (by simp [hlen]; omega)]
      have hl3 : ((cs.take 32).map nuv |>.map (Value.int .u8)).length = 32 := by simp [hlen]
      rw [hl3]
      by_cases h32 : i = 32
      · subst h32
        have := congrArg (·[0]?) e1
        simpa [List.getElem?_take, List.getElem?_drop] using this
      · rw [List.getElem?_eq_none (by omega), List.getElem?_eq_none (by simp; omega)]
  · intro i hi
    have hi' : i < 32 := by simp [hlen] at hi; omega
    obtain ⟨x, e, hw⟩ := hone i hi'
    have := wf_u8 hw
    simp only [List.getD, List.getElem?_map, List.getElem?_take, hi', if_true, e, Option.map_some, Option.getD_some, nuv]
    exact this
theorem open_refs {H : Type} {enc : TypeId × Value → H} {W : World} {fuel : Nat} {a : Option Addr} {len cap : Nat} {x : DataW H × List MemPlace} (h : DataW.trod enc Tryd.prog W 0 (fun _ => true) true fuel 42 [.slice a len cap] = some x) :
    ∃ l : List Rf, l.length = len ∧ len ≤ cap ∧ (a = none → cap = 0) ∧ cap ≤ 9223372036854775807 ∧ InR W a l ∧ Dgs l ∧ (l = [] ∨ ∃ xs sp, x.1 = .slice xs sp ∧ xs.length = len) := by
  rcases open_slice Tryd.underlying42 h with ⟨hcs, hx⟩ | ⟨a', len', cap', m, n, D, Pl, hcs, _, hl, hm, hmm, hx, hel⟩
  · simp only [List.cons.injEq, and_true, Value.slice.injEq] at hcs
    obtain ⟨rfl, rfl, rfl⟩ := hcs
    exact ⟨[], rfl, Nat.le_refl _, fun _ => rfl, by omega, .inl rfl, fun x hx => by simp at hx, .inl rfl⟩
  · simp only [List.cons.injEq, and_true, Value.slice.injEq] at hcs
    obtain ⟨rfl, rfl, rfl⟩ := hcs
    have hmc : m = cap := by simpa using hmm
    subst hmc hx
    have each : ∀ i, i < len → ∃ q : Rf, W.cells? 0 (a'.add (i * 33)) 33 = some (rcl q) ∧ q.1.length = 32 ∧ IsBytes q.1 := by
      intro i hi
      obtain ⟨cs', h1, h2⟩ := hel i (by omega)
      rw [cellsR] at h1
      obtain ⟨q, hq, h3, h4⟩ := open_ref h2
      exact ⟨q, by rw [← hq]; exact h1, h3, h4⟩
    obtain ⟨q, hq⟩ := choose_lt each
    simp only [maxLen] at hm
    refine ⟨(List.range len).map q, by simp, hl, (fun h => by simp at h), by omega, ?_, ?_, ?_⟩
    · by_cases h0 : len = 0
      · left; subst h0; rfl
      · right
        have hsp : ∀ i, i < len → ∀ k v, (rcl (q i))[k]? = some v → W.cell? (a'.add (i * 33 + k)) = some v := by
          intro i hi k v hv
          obtain ⟨h1, h2, _⟩ := hq i hi
          obtain ⟨_, hlen, hcell⟩ := World.cells?_some h1
          have hk : k < 33 := by
            have := (List.getElem?_eq_some_iff.1 hv).1
            rwa [rcl_len h2] at this
          have e := hcell k (by omega)
          rw [add_add] at e
          rw [e, hv]
        obtain ⟨b, off, spot⟩ := a'
        obtain ⟨v0, hv0⟩ : ∃ v0, (rcl (q 0))[0]? = some v0 := ⟨_, List.getElem?_eq_getElem (by rw [rcl_len (hq 0 (by omega)).2.1]; omega)⟩
        have hc : W.cell? ((⟨b, off, spot⟩ : Addr).add 0) = some v0 := hsp 0 (by omega) 0 _ hv0
        have hspot : spot = none := by simpa [Addr.add] using World.cell?_spot hc
        subst hspot
        rw [Addr.add_mid] at hc
        refine ⟨b, off, rfl, World.block_lt_of_cell? _ _ hc, fun i x hx => ?_⟩
        have hi : i < len := by
          have := (List.getElem?_eq_some_iff.1 hx).1
          simpa using this
        have hxq : x = q i := by simpa [hi] using hx.symm
        subst hxq
        intro k v hv
        have := hsp i hi k v hv
        rw [Addr.add_mid] at this
        rwa [show off + i * 33 + k = off + (i * 33 + k) by omega]
    · intro x hx
      simp only [List.mem_map, List.mem_range] at hx
      obtain ⟨i, hi, rfl⟩ := hx
      exact (hq i hi).2
    · right
      exact ⟨_, _, rfl, by simp⟩
end Go.Proofs.YtlddoobomjcldaaDoor
namespace Go.Proofs.YtlddoobomjcldaaDoor
open Go.ChangeShapes Go.WideShapes Go.ChangeAt Go.RowKit Go.Deep Go.Maps
set_option linter.unusedVariables false
theorem list3M {α : Type} {l : List α} (h : l.length = 3) : ∃ v0 v1 v2, l = [v0, v1, v2] := by
  match l, h with
  | [v0, v1, v2], _ => exact ⟨v0, v1, v2, rfl⟩
set_option maxRecDepth 100000 in
theorem open_manifest {H : Type} {enc : TypeId × Value → H} {W : World} {base : Nat} {v : Value} {d : DataW H} {p : List MemPlace}
    (hv : Value.okWide Tryd.prog W .any base 44 v) (h : DataW.Trod enc Tryd.prog W 0 (fun _ => true) true 44 v d p) :
    ∃ (m : Mf) (n : Nat) (a : Option Addr) (c : Nat) (d2 : DataW H), v = mv m a n c ∧ m.2.2.length = n ∧ n ≤ c ∧ (a = none → c = 0) ∧ c ≤ 9223372036854775807 ∧ InR W a m.2.2 ∧ Dgs m.2.2 ∧ d = .agg [.lit (.string m.1), .lit (.string m.2.1), d2] ∧ (m.2.2 = [] ∨ ∃ xs sp, d2 = .slice xs sp ∧ xs.length = n) := by
  obtain ⟨cs, rfl, hz, _⟩ : ∃ cs, v = .agg cs ∧ cs.size = Tryd.prog.cellsOf 44 ∧ Row.okWide Tryd.prog W .any base 44 cs := by
    simpa [Value.okWide, Tryd.underlying44] using hv
  obtain ⟨fuel, hf⟩ := h
  obtain ⟨y0, y1, y2, n, hx, hlen, g0, g1, g2⟩ := trod_struct3 Tryd.underlying44 hf
  have hcl : (Value.agg cs).cells.toList = cs.toList := rfl
  rw [hcl] at hlen g0 g1 g2
  rw [cellsMf] at hlen
  obtain ⟨v0, v1, v2, hcs⟩ := list3M hlen
  rw [hcs] at g0 g1 g2
  simp [cellsStr, cellsRs] at g0 g1 g2
  obtain ⟨s0, e0, rfl, _⟩ := DataW.trod_string Tryd.underlying9 g0
  obtain ⟨s1, e1, rfl, _⟩ := DataW.trod_string Tryd.underlying9 g1
  simp only [List.cons.injEq, and_true] at e0 e1
  subst e0 e1
  obtain ⟨a, len, cap, rfl⟩ : ∃ a len cap, v2 = .slice a len cap := by
    rcases open_slice Tryd.underlying42 g2 with ⟨h1, _⟩ | ⟨a', len', cap', _, _, _, _, h1, _⟩
    · simp only [List.cons.injEq, and_true] at h1; exact ⟨_, _, _, h1⟩
    · simp only [List.cons.injEq, and_true] at h1; exact ⟨_, _, _, h1⟩
  obtain ⟨l, k1, k2, k3, k4, k5, k6, k7⟩ := open_refs g2
  refine ⟨(s0.data.toList, s1.data.toList, l), len, a, cap, y2.1, ?_, k1, k2, k3, k4, k5, k6, ?_, k7⟩
  · have q0 : tx s0.data.toList = s0 := (tx_mk s0).symm
    have q1 : tx s1.data.toList = s1 := (tx_mk s1).symm
    have e : cs = #[.string s0, .string s1, .slice a len cap] := Array.ext' hcs
    rw [e]
    unfold mv
    simp only [q0, q1]
  · have := congrArg Prod.fst hx
    simpa using this
theorem fitM_of {H : Type} {ts : List TypeId} {ds : List (DataW H)} (h : (DataW.weightsEach Tryd.prog ts ds).all (· ≤ reachBytes) = true) {j : Nat} {m : Mf} {n : Nat} {d d2 : DataW H}
    (ht : ts[j]? = some 44) (hd : ds[j]? = some d) (hdd : d = .agg [.lit (.string m.1), .lit (.string m.2.1), d2]) (hn : m.2.2.length = n) (h2 : m.2.2 = [] ∨ ∃ xs sp, d2 = .slice xs sp ∧ xs.length = n) :
    m.1.length ≤ 140737488351232 ∧ m.2.1.length ≤ 140737488351232 ∧ n * 40 ≤ 140737488351232 := by
  have hu := Tryd.underlying44
  have hu2 := Tryd.underlying42
  subst hdd
  have key : ∀ k ∈ (DataW.agg [.lit (.string m.1), .lit (.string m.2.1), d2] : DataW H).weights Tryd.prog 44, k ≤ reachBytes := fun k hk => of_decide_eq_true (List.all_eq_true.1 h _ (DataW.weights_mem_each ht hd _ hk))
  have hr : reachBytes = 140737488351232 := by decide
  rw [← hr]
  refine ⟨key _ (by simp [DataW.weights, DataW.weightsEach, hu]), key _ (by simp [DataW.weights, DataW.weightsEach, hu]), ?_⟩
  rcases h2 with h2 | ⟨xs, sp, rfl, hxl⟩
  · rw [h2] at hn
    simp at hn
    subst hn
    simp
  · have := key ((xs.length + sp.length) * Tryd.prog.bytesOf 80) (by simp [DataW.weights, DataW.weightsEach, hu, hu2])
    rw [bytesR] at this
    omega
end Go.Proofs.YtlddoobomjcldaaDoor
namespace Go.Proofs.YtlddoobomjcldaaDoor
open Go.ChangeShapes Go.WideShapes Go.ChangeAt Go.RowKit Go.Deep Go.Maps
set_option linter.unusedVariables false
end Go.Proofs.YtlddoobomjcldaaDoor
namespace Go.Proofs.YtlddoobomjcldaaDoor
open Go.ChangeShapes Go.WideShapes Go.ChangeAt Go.RowKit Go.Deep Go.Maps
set_option linter.unusedVariables false
theorem sizeDg_run (w : World) : (sizeOf 35).run Tryd.prog w = .ok 32 w := by
  cases hq : Tryd.prog.info? 35 with
  | none => have := sizeDg; rw [hq] at this; simp at this
  | some i =>
    have := sizeDg
    rw [hq] at this
    simp at this
    simp [sizeOf, typeInfo, hq, this]
theorem rcl_part (x : Rf) (hx : x.1.length = 32) (w : World) : (part 35 (rcl x).toArray 0).run Tryd.prog w = .ok (.agg (u8s x.1)) w := by
  have e : (rcl x).toArray.extract 0 (0 + 32) = u8s x.1 := by
    unfold rcl u8s
    simp [hx]
  simp only [part, isAgg, Sem.run_bind, run_underlying Tryd.underlying35, Result.andThen_ok, Sem.run_pure, if_true, sizeDg_run, e]
theorem rcl_part2 (x : Rf) (hx : x.1.length = 32) (w : World) : (part 3 (rcl x).toArray 32).run Tryd.prog w = .ok (.int .i64 x.2) w := by
  have e : (rcl x).toArray[32]? = some (.int .i64 x.2) := by
    unfold rcl
    simp [hx]
  simp [part, isAgg, run_underlying Tryd.underlying3, e]
theorem equal_ref (d : Nat) (x y : Rf) (hx : x.1.length = 32) (hy : y.1.length = 32) (w : World) : (Op.equalIn (d + 3) 80 (.agg (rcl x).toArray) (.agg (rcl y).toArray)).run Tryd.prog w = .ok (decide (x = y)) w := by
  rw [run_equalIn_struct w (d + 2) 80 _ _ (by simp [Program.fieldsOf, Tryd.underlying80]) (by kernel_rfl)]
  have ex : decide (x = y) = (decide (x.1 = y.1) && decide (x.2 = y.2)) := by
    obtain ⟨a, b⟩ := x
    obtain ⟨c, e⟩ := y
    rw [Bool.eq_iff_iff]
    simp
  rw [ex]
  simp only [Program.fieldsOf, Tryd.underlying80, Op.eqFields]
  simp [rcl_part x hx, rcl_part y hy, rcl_part2 x hx, rcl_part2 y hy, equal_digest d x.1 y.1 hx hy, run_equalIn_int w (d + 1) 3 .i64 .i64 _ _ Tryd.underlying3]
  by_cases h1 : x.1 = y.1 <;> by_cases h2 : x.2 = y.2 <;> simp [h1, h2]
theorem guardR : Tryd.prog.eqGuardType Tryd.prog.depth 80 = false := by kernel_rfl
theorem two_boxes {w : World} {a b : Obj} : ((w.alloc a).alloc b).heap[w.heap.size]? = some a ∧ ((w.alloc a).alloc b).heap[w.heap.size + 1]? = some b ∧ w.heap.size + 1 < ((w.alloc a).alloc b).heap.size ∧ Below w.heap.size w ((w.alloc a).alloc b) := by
  have e1 : (w.alloc a).heap.size = w.heap.size + 1 := by simp
  have h1 : Below w.heap.size w (w.alloc a) := (Below.refl _ _).alloc (Nat.le_refl _) _
  have h2 : Below (w.heap.size + 1) (w.alloc a) ((w.alloc a).alloc b) := (Below.refl _ _).alloc (by omega) _
  refine ⟨(h2.block _ (by omega)).trans (heap_alloc_new w a), ?_, by simp, h1.trans (h2.mono (by omega))⟩
  have := heap_alloc_new (w.alloc a) b
  rwa [e1] at this
set_option maxRecDepth 100000 in
set_option maxHeartbeats 8000000 in
theorem rmsame_is (m1 m2 : Mf) (n1 n2 c1 c2 : Nat) (a1 a2 : Option Addr) (w : World) (hn1 : m1.2.2.length = n1) (hn2 : m2.2.2.length = n2) (hb1 : n1 ≤ 140737488355328) (hb2 : n2 ≤ 140737488355328) (hd1 : Dgs m1.2.2) (hd2 : Dgs m2.2.2) (hi1 : InR w a1 m1.2.2) (hi2 : InR w a2 m2.2.2) :
    Calls Tryd.prog 22 #[mv m1 a1 n1 c1, mv m2 a2 n2 c2] w fun e w' => e = .returned (.bool (decide (m1 = m2))) ∧ Below w.heap.size w w' := by
  obtain ⟨N1, V1, l1⟩ := m1
  obtain ⟨N2, V2, l2⟩ := m2
  simp only at *
  obtain ⟨r, hr⟩ : ∃ r, r = decide ((N1, V1, l1) = (N2, V2, l2)) := ⟨_, rfl⟩
  have HR : Hid (r = (decide (N1 = N2) && (decide (V1 = V2) && decide (l1 = l2)))) := by
    show _ = _
    rw [hr, Bool.eq_iff_iff]
    simp
  rw [← hr]
  clear hr
  unfold mv
  simp only
  have tN := tx_eq N1 N2
  have tV := tx_eq V1 V2
  obtain ⟨W0, hW0⟩ : ∃ W0, W0 = (w.alloc (.cells #[.string (tx N1), .string (tx V1), .slice a1 n1 c1] 44)).alloc (.cells #[.string (tx N2), .string (tx V2), .slice a2 n2 c2] 44) := ⟨_, rfl⟩
  obtain ⟨ga, gb, hlt0, hB⟩ := two_boxes (w := w) (a := .cells #[.string (tx N1), .string (tx V1), .slice a1 n1 c1] 44) (b := .cells #[.string (tx N2), .string (tx V2), .slice a2 n2 c2] 44)
  rw [← hW0] at ga gb hlt0 hB
  have B0 : Hid (Below w.heap.size w W0) := hB
  have I1 : Hid (InR W0 a1 l1) := hi1.keep B0.out
  have I2 : Hid (InR W0 a2 l2) := hi2.keep B0.out
  have D1 : Hid (Dgs l1) := hd1
  have D2 : Hid (Dgs l2) := hd2
  have H1 : Hid (l1.length = n1) := hn1
  have H2 : Hid (l2.length = n2) := hn2
  have x0 : W0.cell? ⟨w.heap.size, 0, none⟩ = some (.string (tx N1)) := by rw [cell_of_row W0 _ 0 _ _ _ ga]; rfl
  have x1 : W0.cell? ⟨w.heap.size, 1, none⟩ = some (.string (tx V1)) := by rw [cell_of_row W0 _ 1 _ _ _ ga]; rfl
  have x2 : W0.cell? ⟨w.heap.size, 2, none⟩ = some (.slice a1 n1 c1) := by rw [cell_of_row W0 _ 2 _ _ _ ga]; rfl
  have y0 : W0.cell? ⟨w.heap.size + 1, 0, none⟩ = some (.string (tx N2)) := by rw [cell_of_row W0 _ 0 _ _ _ gb]; rfl
  have y1 : W0.cell? ⟨w.heap.size + 1, 1, none⟩ = some (.string (tx V2)) := by rw [cell_of_row W0 _ 1 _ _ _ gb]; rfl
  have y2 : W0.cell? ⟨w.heap.size + 1, 2, none⟩ = some (.slice a2 n2 c2) := by rw [cell_of_row W0 _ 2 _ _ _ gb]; rfl
  have X2 : Hid (W0.cell? ⟨w.heap.size, 2, none⟩ = some (.slice a1 n1 c1)) := x2
  have Y2 : Hid (W0.cell? ⟨w.heap.size + 1, 2, none⟩ = some (.slice a2 n2 c2)) := y2
  have HW0 : Hid ((w.alloc (.cells #[.string (tx N1), .string (tx V1), .slice a1 n1 c1] 44)).alloc (.cells #[.string (tx N2), .string (tx V2), .slice a2 n2 c2] 44) = W0) := hW0.symm
  clear hi1 hi2 hd1 hd2 hn1 hn2 hW0 ga gb hB
  have HB2 : Hid (Below w.heap.size w ((w.alloc (.cells #[.string (tx N1), .string (tx V1), .slice a1 n1 c1] 44)).alloc (.cells #[.string (tx N2), .string (tx V2), .slice a2 n2 c2] 44))) := by rw [HW0.out]; exact B0
  by_cases hN : N1 = N2
  · rw [decide_eq_true hN] at tN
    by_cases hV : V1 = V2
    · rw [decide_eq_true hV] at tV
      have HR2 : Hid (r = decide (l1 = l2)) := by show _ = _; rw [HR.out, decide_eq_true hN, decide_eq_true hV]; rfl
      clear HR hN hV
      by_cases hne : n1 = n2
      · subst hne
        have e0 : ((n1 : Int) != (n1 : Int)) = false := by simp
        clear x0 x1 x2 y0 y1 y2 HB2
        go_enter Tryd.func22, Tryd.ntmps22
        go_wp2_with fail
        rw [HW0.out]
        go_loopg [5] n1 (fun g i wr => ∃ (j : Nat), j ≤ n1 ∧ g = n1 - j ∧ i = .int .i64 j ∧ Hid (l1.take j = l2.take j) ∧ Hid (Below W0.heap.size W0 wr))
        case atStart => exact ⟨0, Nat.zero_le _, rfl, rfl, rfl, Below.refl _ _⟩
        case round =>
          obtain ⟨j, hj, rfl, rfl, HT, HW⟩ := hrel
          have d1 : wr.cell? ⟨w.heap.size, 2, none⟩ = some (.slice a1 n1 c1) := (HW.out.cell (p := ⟨w.heap.size, 2, none⟩) (Nat.lt_of_succ_lt hlt0)).trans X2.out
          have d2 : wr.cell? ⟨w.heap.size + 1, 2, none⟩ = some (.slice a2 n1 c2) := (HW.out.cell (p := ⟨w.heap.size + 1, 2, none⟩) hlt0).trans Y2.out
          have HBB : Hid (Below w.heap.size w wr) := B0.out.trans (HW.out.mono B0.out.size)
          by_cases hlt : j < n1
          · have j1 : (j : Int) < (n1 : Int) := by omega
            obtain ⟨x, hx⟩ : ∃ x, l1[j]? = some x := ⟨l1[j]'(by rw [H1.out]; exact hlt), by simp [H1.out, hlt]⟩
            obtain ⟨y, hy⟩ : ∃ y, l2[j]? = some y := ⟨l2[j]'(by rw [H2.out]; exact hlt), by simp [H2.out, hlt]⟩
            obtain ⟨b1, o1, rfl, hbw1, hr1⟩ := I1.out.at hx
            obtain ⟨b2, o2, rfl, hbw2, hr2⟩ := I2.out.at hy
            have hx32 := (D1.out x (List.mem_of_getElem? hx)).1
            have hy32 := (D2.out y (List.mem_of_getElem? hy)).1
            have RX : Hid (wr.rangeAt b1 (o1 + j * 33) (rcl x)) := rangeAt_below hr1 HW.out hbw1
            have RY : Hid (wr.rangeAt b2 (o2 + j * 33) (rcl y)) := rangeAt_below hr2 HW.out hbw2
            have HLX : Hid ((rcl x).length = 33) := rcl_len hx32
            have HLY : Hid ((rcl y).length = 33) := rcl_len hy32
            have hq : ∀ w, (Op.equalIn 10000 80 (.agg (rcl x).toArray) (.agg (rcl y).toArray)).run Tryd.prog w = .ok (decide (x = y)) w := equal_ref 9997 x y hx32 hy32
            have hgd := guardR
            have HX : Hid (l1[j]? = some x) := hx
            have HY : Hid (l2[j]? = some y) := hy
            clear hx hy hr1 hr2 hx32 hy32
            generalize hEX : rcl x = EX at *
            generalize hEY : rcl y = EY at *
            clear hEX hEY
            by_cases hxy : x = y
            · rw [decide_eq_true hxy] at hq
              have HT2 : Hid (l1.take (j + 1) = l2.take (j + 1)) := by
                show _ = _
                obtain ⟨q1, e1⟩ := List.getElem?_eq_some_iff.1 HX.out
                obtain ⟨q2, e2⟩ := List.getElem?_eq_some_iff.1 HY.out
                rw [List.take_succ_eq_append_getElem q1, List.take_succ_eq_append_getElem q2, HT.out, e1, e2, hxy]
              clear hxy HX HY
              go_wp2_with fail
              refine wp_region_noPanic ?_
              refine wp_region_held_drew (S := (fun W : World => W.cell? ⟨w.heap.size, 2, none⟩ = some (.slice (some ⟨b1, o1, none⟩) n1 c1) ∧ W.cell? ⟨w.heap.size + 1, 2, none⟩ = some (.slice (some ⟨b2, o2, none⟩) n1 c2) ∧ W.rangeAt b1 (o1 + j * 33) EX ∧ W.rangeAt b2 (o2 + j * 33) EY)) (by kernel_rfl) ?hSaa (fun hHeld => ?restaa)
              case hSaa => exact ⟨d1, d2, RX.out, RY.out⟩
              case restaa =>
              refine wpAnyH_take (i := 0) (v := ?v0a) rfl (by kernel_rfl) (by kernel_rfl) (by kernel_rfl) (fun _ _ _ h => h) (Or.inl ⟨by rfl, ?hy0a⟩) hHeld ?rest0a
              case hy0a => (intro w hSw; (try dsimp only at hSw); go_simp; try with_reducible rfl)
              try simp only [Act.put, List.setIfInBounds_toArray, List.set_cons_zero, List.set_cons_succ, List.getElem_toArray, List.getElem_cons_zero]
              refine wpAnyH_take (i := 1) (v := ?v1a) rfl (by kernel_rfl) (by kernel_rfl) (by kernel_rfl) (fun _ _ _ h => h) (Or.inl ⟨by rfl, ?hy1a⟩) hHeld ?rest1a
              case hy1a => (intro w hSw; (try dsimp only at hSw); go_simp; try with_reducible rfl)
              try simp only [Act.put, List.setIfInBounds_toArray, List.set_cons_zero, List.set_cons_succ, List.getElem_toArray, List.getElem_cons_zero, List.getElem_cons_succ]
              refine wpAnyH_take (i := 2) (v := ?v2a) rfl (by kernel_rfl) (by kernel_rfl) (by kernel_rfl) (fun _ _ _ h => h) (Or.inl ⟨by rfl, ?hy2a⟩) hHeld ?rest2a
              case hy2a => (intro w hSw; (try dsimp only at hSw); go_simp; try with_reducible rfl)
              try simp only [Act.put, List.setIfInBounds_toArray, List.set_cons_zero, List.set_cons_succ, List.getElem_toArray, List.getElem_cons_zero, List.getElem_cons_succ]
              refine wpAnyH_take (i := 3) (v := ?v3a) rfl (by kernel_rfl) (by kernel_rfl) (by kernel_rfl) (fun _ _ _ h => h) (Or.inl ⟨by rfl, ?hy3a⟩) hHeld ?rest3a
              case hy3a => (intro w hSw; (try dsimp only at hSw); go_simp; try with_reducible rfl)
              try simp only [Act.put, List.setIfInBounds_toArray, List.set_cons_zero, List.set_cons_succ, List.getElem_toArray, List.getElem_cons_zero, List.getElem_cons_succ]
              refine wpAnyH_take (i := 4) (v := .agg EX.toArray) rfl (by kernel_rfl) (by kernel_rfl) (by kernel_rfl) (fun _ _ _ h => h) (yieldsIf_load_mid (by rfl) 80 (.tmp 37) rfl b1 (o1 + j * 33) rfl EX _ (fun w h => h.2.2.1) Tryd.underlying80 rfl (by rw [HLX.out]; exact size33)) hHeld ?rest4a
              case rest4a =>
              try simp only [Act.put, List.setIfInBounds_toArray, List.set_cons_zero, List.set_cons_succ, List.getElem_toArray, List.getElem_cons_zero, List.getElem_cons_succ]
              refine wpAnyH_take (i := 5) (v := ?v5a) rfl (by kernel_rfl) (by kernel_rfl) (by kernel_rfl) (fun _ _ _ h => h) (Or.inl ⟨by rfl, ?hy5a⟩) hHeld ?rest5a
              case hy5a => (intro w hSw; (try dsimp only at hSw); go_simp; try with_reducible rfl)
              try simp only [Act.put, List.setIfInBounds_toArray, List.set_cons_zero, List.set_cons_succ, List.getElem_toArray, List.getElem_cons_zero, List.getElem_cons_succ]
              refine wpAnyH_take (i := 6) (v := ?v6a) rfl (by kernel_rfl) (by kernel_rfl) (by kernel_rfl) (fun _ _ _ h => h) (Or.inl ⟨by rfl, ?hy6a⟩) hHeld ?rest6a
              case hy6a => (intro w hSw; (try dsimp only at hSw); go_simp; try with_reducible rfl)
              try simp only [Act.put, List.setIfInBounds_toArray, List.set_cons_zero, List.set_cons_succ, List.getElem_toArray, List.getElem_cons_zero, List.getElem_cons_succ]
              refine wpAnyH_take (i := 7) (v := ?v7a) rfl (by kernel_rfl) (by kernel_rfl) (by kernel_rfl) (fun _ _ _ h => h) (Or.inl ⟨by rfl, ?hy7a⟩) hHeld ?rest7a
              case hy7a => (intro w hSw; (try dsimp only at hSw); go_simp; try with_reducible rfl)
              try simp only [Act.put, List.setIfInBounds_toArray, List.set_cons_zero, List.set_cons_succ, List.getElem_toArray, List.getElem_cons_zero, List.getElem_cons_succ]
              refine wpAnyH_take (i := 8) (v := ?v8a) rfl (by kernel_rfl) (by kernel_rfl) (by kernel_rfl) (fun _ _ _ h => h) (Or.inl ⟨by rfl, ?hy8a⟩) hHeld ?rest8a
              case hy8a => (intro w hSw; (try dsimp only at hSw); go_simp; try with_reducible rfl)
              try simp only [Act.put, List.setIfInBounds_toArray, List.set_cons_zero, List.set_cons_succ, List.getElem_toArray, List.getElem_cons_zero, List.getElem_cons_succ]
              refine wpAnyH_take (i := 9) (v := .agg EY.toArray) rfl (by kernel_rfl) (by kernel_rfl) (by kernel_rfl) (fun _ _ _ h => h) (yieldsIf_load_mid (by rfl) 80 (.tmp 42) rfl b2 (o2 + j * 33) rfl EY _ (fun w h => h.2.2.2) Tryd.underlying80 rfl (by rw [HLY.out]; exact size33)) hHeld ?rest9a
              case rest9a =>
              try simp only [Act.put, List.setIfInBounds_toArray, List.set_cons_zero, List.set_cons_succ, List.getElem_toArray, List.getElem_cons_zero, List.getElem_cons_succ]
              refine wpAnyH_take (i := 10) (v := ?v10a) rfl (by kernel_rfl) (by kernel_rfl) (by kernel_rfl) (fun _ _ _ h => h) (Or.inl ⟨by rfl, ?hy10a⟩) hHeld ?rest10a
              case hy10a => (intro w hSw; (try dsimp only at hSw); go_simp; try with_reducible rfl)
              try simp only [Act.put, List.setIfInBounds_toArray, List.set_cons_zero, List.set_cons_succ, List.getElem_toArray, List.getElem_cons_zero, List.getElem_cons_succ]
              refine wpAnyH_done (by kernel_rfl) ?_ _
              refine NoPanic.normal ?_
              go_wp2_with fail
              go_roundg (n1 - (j + 1))
              case measure => omega
              case rel => exact ⟨j + 1, by omega, rfl, by go_num, HT2, below_drewM HW.out⟩
            · rw [decide_eq_false hxy] at hq
              have HF : Hid (r = false) := by
                show _ = _
                rw [HR2.out, decide_eq_false_iff_not]
                intro e
                subst e
                exact hxy (Option.some.inj (HX.out.symm.trans HY.out))
              clear hxy HX HY
              go_wp2_with fail
              refine wp_region_noPanic ?_
              refine wp_region_held_drew (S := (fun W : World => W.cell? ⟨w.heap.size, 2, none⟩ = some (.slice (some ⟨b1, o1, none⟩) n1 c1) ∧ W.cell? ⟨w.heap.size + 1, 2, none⟩ = some (.slice (some ⟨b2, o2, none⟩) n1 c2) ∧ W.rangeAt b1 (o1 + j * 33) EX ∧ W.rangeAt b2 (o2 + j * 33) EY)) (by kernel_rfl) ?hSab (fun hHeld => ?restab)
              case hSab => exact ⟨d1, d2, RX.out, RY.out⟩
              case restab =>
              refine wpAnyH_take (i := 0) (v := ?v0b) rfl (by kernel_rfl) (by kernel_rfl) (by kernel_rfl) (fun _ _ _ h => h) (Or.inl ⟨by rfl, ?hy0b⟩) hHeld ?rest0b
              case hy0b => (intro w hSw; (try dsimp only at hSw); go_simp; try with_reducible rfl)
              try simp only [Act.put, List.setIfInBounds_toArray, List.set_cons_zero, List.set_cons_succ, List.getElem_toArray, List.getElem_cons_zero]
              refine wpAnyH_take (i := 1) (v := ?v1b) rfl (by kernel_rfl) (by kernel_rfl) (by kernel_rfl) (fun _ _ _ h => h) (Or.inl ⟨by rfl, ?hy1b⟩) hHeld ?rest1b
              case hy1b => (intro w hSw; (try dsimp only at hSw); go_simp; try with_reducible rfl)
              try simp only [Act.put, List.setIfInBounds_toArray, List.set_cons_zero, List.set_cons_succ, List.getElem_toArray, List.getElem_cons_zero, List.getElem_cons_succ]
              refine wpAnyH_take (i := 2) (v := ?v2b) rfl (by kernel_rfl) (by kernel_rfl) (by kernel_rfl) (fun _ _ _ h => h) (Or.inl ⟨by rfl, ?hy2b⟩) hHeld ?rest2b
              case hy2b => (intro w hSw; (try dsimp only at hSw); go_simp; try with_reducible rfl)
              try simp only [Act.put, List.setIfInBounds_toArray, List.set_cons_zero, List.set_cons_succ, List.getElem_toArray, List.getElem_cons_zero, List.getElem_cons_succ]
              refine wpAnyH_take (i := 3) (v := ?v3b) rfl (by kernel_rfl) (by kernel_rfl) (by kernel_rfl) (fun _ _ _ h => h) (Or.inl ⟨by rfl, ?hy3b⟩) hHeld ?rest3b
              case hy3b => (intro w hSw; (try dsimp only at hSw); go_simp; try with_reducible rfl)
              try simp only [Act.put, List.setIfInBounds_toArray, List.set_cons_zero, List.set_cons_succ, List.getElem_toArray, List.getElem_cons_zero, List.getElem_cons_succ]
              refine wpAnyH_take (i := 4) (v := .agg EX.toArray) rfl (by kernel_rfl) (by kernel_rfl) (by kernel_rfl) (fun _ _ _ h => h) (yieldsIf_load_mid (by rfl) 80 (.tmp 37) rfl b1 (o1 + j * 33) rfl EX _ (fun w h => h.2.2.1) Tryd.underlying80 rfl (by rw [HLX.out]; exact size33)) hHeld ?rest4b
              case rest4b =>
              try simp only [Act.put, List.setIfInBounds_toArray, List.set_cons_zero, List.set_cons_succ, List.getElem_toArray, List.getElem_cons_zero, List.getElem_cons_succ]
              refine wpAnyH_take (i := 5) (v := ?v5b) rfl (by kernel_rfl) (by kernel_rfl) (by kernel_rfl) (fun _ _ _ h => h) (Or.inl ⟨by rfl, ?hy5b⟩) hHeld ?rest5b
              case hy5b => (intro w hSw; (try dsimp only at hSw); go_simp; try with_reducible rfl)
              try simp only [Act.put, List.setIfInBounds_toArray, List.set_cons_zero, List.set_cons_succ, List.getElem_toArray, List.getElem_cons_zero, List.getElem_cons_succ]
              refine wpAnyH_take (i := 6) (v := ?v6b) rfl (by kernel_rfl) (by kernel_rfl) (by kernel_rfl) (fun _ _ _ h => h) (Or.inl ⟨by rfl, ?hy6b⟩) hHeld ?rest6b
              case hy6b => (intro w hSw; (try dsimp only at hSw); go_simp; try with_reducible rfl)
              try simp only [Act.put, List.setIfInBounds_toArray, List.set_cons_zero, List.set_cons_succ, List.getElem_toArray, List.getElem_cons_zero, List.getElem_cons_succ]
              refine wpAnyH_take (i := 7) (v := ?v7b) rfl (by kernel_rfl) (by kernel_rfl) (by kernel_rfl) (fun _ _ _ h => h) (Or.inl ⟨by rfl, ?hy7b⟩) hHeld ?rest7b
              case hy7b => (intro w hSw; (try dsimp only at hSw); go_simp; try with_reducible rfl)
              try simp only [Act.put, List.setIfInBounds_toArray, List.set_cons_zero, List.set_cons_succ, List.getElem_toArray, List.getElem_cons_zero, List.getElem_cons_succ]
              refine wpAnyH_take (i := 8) (v := ?v8b) rfl (by kernel_rfl) (by kernel_rfl) (by kernel_rfl) (fun _ _ _ h => h) (Or.inl ⟨by rfl, ?hy8b⟩) hHeld ?rest8b
              case hy8b => (intro w hSw; (try dsimp only at hSw); go_simp; try with_reducible rfl)
              try simp only [Act.put, List.setIfInBounds_toArray, List.set_cons_zero, List.set_cons_succ, List.getElem_toArray, List.getElem_cons_zero, List.getElem_cons_succ]
              refine wpAnyH_take (i := 9) (v := .agg EY.toArray) rfl (by kernel_rfl) (by kernel_rfl) (by kernel_rfl) (fun _ _ _ h => h) (yieldsIf_load_mid (by rfl) 80 (.tmp 42) rfl b2 (o2 + j * 33) rfl EY _ (fun w h => h.2.2.2) Tryd.underlying80 rfl (by rw [HLY.out]; exact size33)) hHeld ?rest9b
              case rest9b =>
              try simp only [Act.put, List.setIfInBounds_toArray, List.set_cons_zero, List.set_cons_succ, List.getElem_toArray, List.getElem_cons_zero, List.getElem_cons_succ]
              refine wpAnyH_take (i := 10) (v := ?v10b) rfl (by kernel_rfl) (by kernel_rfl) (by kernel_rfl) (fun _ _ _ h => h) (Or.inl ⟨by rfl, ?hy10b⟩) hHeld ?rest10b
              case hy10b => (intro w hSw; (try dsimp only at hSw); go_simp; try with_reducible rfl)
              try simp only [Act.put, List.setIfInBounds_toArray, List.set_cons_zero, List.set_cons_succ, List.getElem_toArray, List.getElem_cons_zero, List.getElem_cons_succ]
              refine wpAnyH_done (by kernel_rfl) ?_ _
              refine NoPanic.normal ?_
              go_wp2_with fail
              go_ret
              exact ⟨by rw [HF.out]; rfl, (by first | exact below_drewM HBB.out | exact HBB.out)⟩
          · have e : j = n1 := by omega
            subst e
            have j1 : ¬ (j : Int) < (j : Int) := by omega
            have HF : Hid (r = true) := by
              show _ = _
              rw [HR2.out, decide_eq_true_iff]
              have := HT.out
              rwa [List.take_of_length_le (by rw [H1.out]; omega), List.take_of_length_le (by rw [H2.out]; omega)] at this
            go_wp2_with fail
            go_ret
            exact ⟨by rw [HF.out]; rfl, HBB.out⟩
      · have e0 : ((n1 : Int) != (n2 : Int)) = true := by simp; omega
        have HF : Hid (r = false) := by
          show _ = _
          rw [HR2.out, decide_eq_false_iff_not]
          intro e
          exact hne (by rw [← H1.out, ← H2.out, e])
        clear x0 x1 x2 y0 y1 y2 HW0
        go_enter Tryd.func22, Tryd.ntmps22
        go_wp2_with fail
        go_ret
        exact ⟨by rw [HF.out]; rfl, HB2.out⟩
    · rw [decide_eq_false hV] at tV
      have HF : Hid (r = false) := by show _ = _; rw [HR.out, decide_eq_false hV]; simp
      clear x0 x1 x2 y0 y1 y2 HW0 hN hV HR
      go_enter Tryd.func22, Tryd.ntmps22
      go_wp2_with fail
      go_ret
      exact ⟨by rw [HF.out]; rfl, HB2.out⟩
  · rw [decide_eq_false hN] at tN
    have HF : Hid (r = false) := by show _ = _; rw [HR.out, decide_eq_false hN]; simp
    clear x0 x1 x2 y0 y1 y2 HW0 hN HR
    go_enter Tryd.func22, Tryd.ntmps22
    go_wp2_with fail
    go_ret
    exact ⟨by rw [HF.out]; rfl, HB2.out⟩
end Go.Proofs.YtlddoobomjcldaaDoor
