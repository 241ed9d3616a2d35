/- manifest.appendText, Size, Encode. -/
import Derived.Test.YtlddoobomjcldaaDoorManH
import Derived.Test.YtlddoobomjcldaaDoorNumV1
import Derived.Lib.SlBytesConst
namespace Go.Proofs.YtlddoobomjcldaaDoor
open Go.ChangeShapes Go.WideShapes Go.ChangeAt Go.RowKit Go.Deep Go.Maps
set_option linter.unusedVariables false
set_option maxRecDepth 100000 in
set_option maxHeartbeats 4000000 in
theorem appendTextM_is (t : Tx) (ht : t.length < 16384) (base : Nat) (v : Value) (A : List Int) (w : World) (ho : Owned w base v A) (hA : A.length ≤ 1000000) (hb : base ≤ w.heap.size) :
    Calls Tryd.prog 39 #[v, .string (tx t)] w fun e w' => ∃ v', e = .returned v' ∧ Owned w' base v' (A ++ (vr t.length ++ nm t)) ∧ Gr w w' v.ownBlock v'.ownBlock := by
  have hs := tx_size t
  obtain ⟨a, c, rfl, _⟩ := ho.slice
  have HO : Hid (Owned w base (.slice a A.length c) A) := ho
  clear ho
  go_enter Tryd.func39, Tryd.ntmps39
  go_wp2_with fail
  refine (var_any (t.length : Nat) (by omega) (by omega) _).mono ?_
  rintro e w1 ⟨n, hsev, rfl, hw⟩
  obtain rfl := hw.symm
  clear hw
  have HV : Hid (varL n (t.length : Nat) = vr t.length) := vr_sev _ _ ht hsev
  have h9 := hsev.1
  have H1 : Hid (Holds (w.alloc (.cells ((varL n (t.length : Nat)).map (Value.int .u8)).toArray 5)) (some ⟨w.heap.size, 0, none⟩) (varL n (t.length : Nat))) := holds_laid _ _ _
  have hlv := varL_length n (t.length : Nat)
  have O1 : Hid (Owned (w.alloc (.cells ((varL n (t.length : Nat)).map (Value.int .u8)).toArray 5)) base (.slice a A.length c) A) := HO.out.alloc _
  have G1 : Hid (Gr w (w.alloc (.cells ((varL n (t.length : Nat)).map (Value.int .u8)).toArray 5)) (Value.ownBlock (.slice a A.length c)) (Value.ownBlock (.slice a A.length c))) := Gr.alloc _ _ _
  have hb1 : base ≤ (w.alloc (.cells ((varL n (t.length : Nat)).map (Value.int .u8)).toArray 5)).heap.size := by simp; omega
  clear HO hsev
  generalize (w.alloc (.cells ((varL n (t.length : Nat)).map (Value.int .u8)).toArray 5)) = w1 at *
  generalize varL n (t.length : Nat) = L at *
  go_wp2_with (first | (at_builtin; refine appB rfl (.tmp 5) (.tmp 9) rfl base _ A rfl O1.out (some ⟨w.heap.size, 0, none⟩) (n + 1) (n + 1) L rfl hlv H1.out (by simp) (by omega) hb1 ?_; intro v2 w2 ho2 hb2; have O2 : Hid (Owned w2 base v2 (A ++ L)) := ho2; have G2 : Hid (Gr w1 w2 (Value.ownBlock (.slice a A.length c)) v2.ownBlock) := hb2; clear ho2 hb2) | (at_builtin; refine appS rfl (.tmp 11) (.tmp 12) rfl base _ (A ++ L) rfl O2.out t rfl (by simp; omega) (by have := G2.out.1.size; omega) ?_; intro v3 w3 ho3 hb3; have O3 : Hid (Owned w3 base v3 (A ++ L ++ nm t)) := ho3; have G3 : Hid (Gr w2 w3 v2.ownBlock v3.ownBlock) := hb3; clear ho3 hb3))
  go_ret
  refine ⟨_, rfl, ?_, G1.out.trans (G2.out.trans G3.out)⟩
  rw [← HV.out, ← List.append_assoc]
  exact O3.out
/-- where the slice has no room -/
theorem appendTextM_head (t : Tx) (ht : t.length < 16384) (g : Addr) (A : List Int) (q : Nat) (hq : A.length = q) (w : World) (hA : Holds w (some g) A) (hg : g.block < w.heap.size) (h6 : q ≤ 1000000) :
    Calls Tryd.prog 39 #[.slice (some g) q q, .string (tx t)] w fun e w' => ∃ v', e = .returned v' ∧ Owned w' w.heap.size v' (A ++ (vr t.length ++ nm t)) ∧ Below w.heap.size w w' := by
  have hs := tx_size t
  have HA : Hid (Holds w (some g) A) := hA
  have HQ : Hid (A.length = q) := hq
  clear hA hq
  go_enter Tryd.func39, Tryd.ntmps39
  go_wp2_with fail
  refine (var_any (t.length : Nat) (by omega) (by omega) _).mono ?_
  rintro e w1 ⟨n, hsev, rfl, hw⟩
  obtain rfl := hw.symm
  clear hw
  have HV : Hid (varL n (t.length : Nat) = vr t.length) := vr_sev _ _ ht hsev
  have h9 := hsev.1
  have H1 : Hid (Holds (w.alloc (.cells ((varL n (t.length : Nat)).map (Value.int .u8)).toArray 5)) (some ⟨w.heap.size, 0, none⟩) (varL n (t.length : Nat))) := holds_laid _ _ _
  have hlv := varL_length n (t.length : Nat)
  have B1 : Hid (Below w.heap.size w (w.alloc (.cells ((varL n (t.length : Nat)).map (Value.int .u8)).toArray 5))) := (Below.refl _ _).alloc (Nat.le_refl _) _
  have A1 : Hid (Holds (w.alloc (.cells ((varL n (t.length : Nat)).map (Value.int .u8)).toArray 5)) (some g) A) := HA.out.below B1.out (fun x hx _ => by cases hx; exact hg)
  clear HA hsev
  generalize (w.alloc (.cells ((varL n (t.length : Nat)).map (Value.int .u8)).toArray 5)) = w1 at *
  generalize varL n (t.length : Nat) = L at *
  go_wp2_with (first | (at_builtin; refine append_grow rfl (.tmp 5) (.tmp 9) rfl A q HQ.out g rfl A1.out ⟨w.heap.size, 0, none⟩ (n + 1) (n + 1) L rfl hlv H1.out (by omega) (by omega) ?_; intro v2 w2 ho2 hb2; have O2 : Hid (Owned w2 w1.heap.size v2 (A ++ L)) := ho2; have B2 : Hid (Below w.heap.size w w2) := B1.out.trans (hb2.mono B1.out.size); have hs2 := hb2.size; clear ho2 hb2) | (at_builtin; refine appS rfl (.tmp 11) (.tmp 12) rfl w1.heap.size _ (A ++ L) rfl O2.out t rfl (by simp [HQ.out, hlv]; omega) hs2 ?_; intro v3 w3 ho3 hb3; have O3 : Hid (Owned w3 w1.heap.size v3 (A ++ L ++ nm t)) := ho3; have G3 : Hid (Gr w2 w3 v2.ownBlock v3.ownBlock) := hb3; clear ho3 hb3))
  go_ret
  refine ⟨_, rfl, ?_, B2.out.trans (G3.out.below w.heap.size B2.out.size (fun k hk => Nat.le_trans B1.out.size (O2.out.own k hk).1))⟩
  rw [← HV.out, ← List.append_assoc]
  exact O3.out.base B1.out.size
theorem ssz_take {l : List Rf} {j : Nat} {x : Rf} (h : l[j]? = some x) : ssz (l.take (j + 1)) = ssz (l.take j) + x.2 := by
  have key : ∀ (l : List Rf) (x : Rf), ssz (l ++ [x]) = ssz l + x.2 := by
    intro l x
    induction l with
    | nil => simp [ssz]
    | cons y l ih => simp only [List.cons_append, ssz, ih]; omega
  obtain ⟨hj, e⟩ := List.getElem?_eq_some_iff.1 h
  rw [List.take_succ_eq_append_getElem hj, e, key]
theorem ssz_bd {l : List Rf} (h : ∀ x ∈ l, 0 ≤ x.2 ∧ x.2 ≤ 2147483647) : ∀ j, j ≤ l.length → 0 ≤ ssz (l.take j) ∧ ssz (l.take j) ≤ 2147483647 * (j : Int)
  | 0, _ => by simp [ssz]
  | j + 1, hj => by
    have h1 := ssz_bd h j (by omega)
    obtain ⟨x, hx⟩ : ∃ x, l[j]? = some x := ⟨_, List.getElem?_eq_getElem (by omega)⟩
    rw [ssz_take hx]
    have := h x (List.mem_of_getElem? hx)
    omega
theorem mel_take {l : List Rf} {j : Nat} {x : Rf} (h : l[j]? = some x) : mel (l.take (j + 1)) = mel (l.take j) ++ (x.1 ++ vz x.2) := by
  obtain ⟨hj, e⟩ := List.getElem?_eq_some_iff.1 h
  rw [List.take_succ_eq_append_getElem hj, e, mel_snoc]
theorem mel_len {l : List Rf} (hd : Dgs l) : (mel l).length ≤ 37 * l.length := by
  induction l with
  | nil => simp [mel]
  | cons x l ih =>
    have h1 := (hd x (by simp)).1
    have h2 := (vz_len x.2).2
    have := ih (fun y hy => hd y (by simp [hy]))
    simp only [mel, List.length_append, List.length_cons]
    omega
end Go.Proofs.YtlddoobomjcldaaDoor
