/- The answers of Encode, Id and Decode of a layer, each in one form. LayerCodes's walk. A slice of entries that came in, opened; how great its texts may be. From the condition on the listed tables to what the walks ask of the numbers k (the table k stands second on the list). -/
import Derived.Test.YtlddoobomjcldaaDoorMgLc10
import Derived.Test.YtlddoobomjcldaaDoorMgLc16
import Derived.Test.YtlddoobomjcldaaDoorMgLc3
import Derived.Test.YtlddoobomjcldaaDoorMgLc18
import Derived.Test.YtlddoobomjcldaaDoorMgLc15
import Derived.Test.YtlddoobomjcldaaDoorMgLc2
import Derived.Deep.Slices
import Derived.Lib.SmallJoins
import Derived.ChangeSame
import Derived.SizedLaws
import Derived.Test.YtlddoobomjcldaaDoorMgLc13
import Derived.Test.YtlddoobomjcldaaDoorCards
import Derived.Test.YtlddoobomjcldaaDoorTie
import Derived.ProofKit
import Derived.LaidMore
import Derived.OpenShut
import Derived.Stop.Joined
import Derived.Stop.LaidErr
import Derived.Lib.LaidTab
import Derived.MakeChecks
import Derived.SevenTiedAt
namespace Go.Proofs.YtlddoobomjcldaaDoor
open Go.ChangeShapes Go.WideShapes Go.ChangeAt Go.RowKit Go.Deep
set_option linter.unusedVariables false
/-- a layer's bytes, or none -/
def encE (l : List En) : List Int := if (chk l).2 = 0 then enc l else []
/-- their sum, or noughts -/
def dgE (l : List En) : List Int := if (chk l).2 = 0 then shaL (enc l) else List.replicate 32 0
theorem z32_u8sE : z32 = u8s (List.replicate 32 0) := by kernel_rfl
theorem dgE_len (l : List En) : (dgE l).length = 32 := by
  unfold dgE
  split
  · exact shaL_len _
  · simp
theorem encE_bytes (l : List En) : IsBytes (encE l) := by
  unfold encE
  split
  · rename_i h
    exact vr_bytes' l h
  · exact bytes_of_mem (by simp)
theorem encE_short (l : List En) : (encE l).length ≤ 100000 := by
  unfold encE
  split
  · rename_i h
    exact enc_len h
  · simp
theorem encode_all (l : List En) (n : Nat) (hn : l.length = n) (hn2 : n ≤ 200) (hf : Fit l) (a : Option Addr) (c : Nat) (w : World) (hl : InE w a l) :
    Calls Tryd.prog 7 #[.slice a n c] w fun e w' => ∃ a1 c1, e = .returned (.tuple #[.slice a1 (encE l).length c1, .int .i64 (chk l).2]) ∧ Holds w' a1 (encE l) ∧ (∀ x, a1 = some x → encE l ≠ [] → x.block < w'.heap.size) ∧ Below w.heap.size w w' := by
  unfold encE
  by_cases hc : (chk l).2 = 0
  · rw [if_pos hc]
    refine (encode_ok l n hn hf a c w hl hc).mono ?_
    rintro e w' ⟨v, rfl, ho, hb⟩
    obtain ⟨a1, c1, rfl, _, hh, _, _⟩ := ho.slice
    exact ⟨a1, c1, by rw [hc], hh, fun x hx _ => ho.lt_size x hx, hb⟩
  · rw [if_neg hc]
    refine (encode_bad l n hn (by omega) hf a c w hl hc).mono ?_
    rintro e w' ⟨rfl, hb⟩
    exact ⟨none, 0, rfl, .inl rfl, (fun x hx => by cases hx), hb⟩
theorem rencode_all (l : List En) (n : Nat) (hn : l.length = n) (hn2 : n ≤ 200) (hf : Brief l) (a : Option Addr) (c : Nat) (w : World) (hl : InE w a l) :
    Calls Tryd.prog 9 #[.slice a n c] w fun e w' => e = .returned (.tuple #[.string (strOfNums (encE l)), .int .i64 (chk l).2]) ∧ Below w.heap.size w w' := by
  unfold encE
  by_cases hc : (chk l).2 = 0
  · rw [if_pos hc, hc]
    exact rencode_ok l n hn hf a c w hl hc
  · rw [if_neg hc]
    exact rencode_bad l n hn hn2 hf a c w hl hc
theorem id_all (l : List En) (n : Nat) (hn : l.length = n) (hn2 : n ≤ 200) (hf : Fit l) (a : Option Addr) (c : Nat) (w : World) (hl : InE w a l) (hk : KIs w) :
    Calls Tryd.prog 12 #[.slice a n c] w fun e w' => e = .returned (.tuple #[.agg (u8s (dgE l)), .int .i64 (chk l).2]) ∧ Below w.heap.size w w' := by
  unfold dgE
  by_cases hc : (chk l).2 = 0
  · rw [if_pos hc, hc]
    exact id_ok l n hn hf a c w hl hc hk
  · rw [if_neg hc, ← z32_u8sE]
    exact id_bad l n hn (by omega) hf a c w hl hc
/-- the layer that bytes are, or the empty one -/
def deE (L : List Int) : List En := (dec L).getD []
def deKE (L : List Int) : Int := if (dec L).isSome then 0 else 5
theorem deE_few {L : List Int} (hb : IsBytes L) : (deE L).length ≤ 64 := by
  unfold deE
  cases hd : dec L with
  | none => exact Nat.zero_le _
  | some m => exact ((chk_iff m).1 (dec_some hb hd).1).1
theorem DSaid.all {w w' : World} {L : List Int} {e : Ending} (h : DSaid w L e w') : ∃ a c, e = .returned (.tuple #[.slice a (deE L).length c, .int .i64 (deKE L)]) ∧ InE w' a (deE L) ∧ Below w.heap.size w w' := by
  obtain ⟨hbe, hm⟩ := h
  unfold deE deKE at *
  cases hd : dec L with
  | none =>
    rw [hd] at hm
    exact ⟨none, 0, hm, .inl rfl, hbe⟩
  | some m =>
    rw [hd] at hm
    obtain ⟨v, rfl, ho⟩ := hm
    obtain ⟨a, c, rfl, hi, _⟩ := ho.slice
    exact ⟨a, c, rfl, hi, hbe⟩
theorem cell_ltE {w : World} {p : Addr} {v : Value} (h : w.cell? p = some v) : p.block < w.heap.size := by
  rcases Nat.lt_or_ge p.block w.heap.size with h1 | h1
  · exact h1
  · exfalso
    unfold World.cell? at h
    rw [Array.getElem?_eq_none h1] at h
    simp at h
theorem heapKeep {w w' : World} {b : Nat} {o : Obj} (h : w.heap[b]? = some o) (hb : Below w.heap.size w w') : w'.heap[b]? = some o := (hb.block b (Array.getElem?_eq_some_iff.1 h).1).trans h
end Go.Proofs.YtlddoobomjcldaaDoor
namespace Go.Proofs.YtlddoobomjcldaaDoor
open Go.ChangeShapes Go.WideShapes Go.ChangeAt Go.RowKit Go.Deep
set_option linter.unusedVariables false
theorem InE.takeC {w : World} {a : Option Addr} {l : List En} (h : InE w a l) (k : Nat) : InE w a (l.take k) := by
  rcases h with e | ⟨b, off, h1, h2, h3⟩
  · subst e; left; simp
  · refine .inr ⟨b, off, h1, h2, fun i x hx => h3 i x ?_⟩
    rw [List.getElem?_take] at hx
    split at hx
    · exact hx
    · simp at hx
theorem cut200C (N : Nat) (l : List En) (hn : l.length = N) : (l.take 200).length = if 200 < N then 200 else N := by
  rw [List.length_take, hn]
  split <;> omega
set_option maxRecDepth 100000 in
set_option maxHeartbeats 16000000 in
theorem codes0 (l : List En) (n : Nat) (hn : l.length = n) (hn2 : n ≤ 200) (hf : Brief l) (a : Option Addr) (N c : Nat) (hN : N ≤ 140737488355328) (hnN : n = if 200 < N then 200 else N) (hc : N ≤ c) (hca : a = none → c = 0) (b : Option Addr) (nb cb : Nat) (L : List Int) (hlL : L.length = nb) (hB : IsBytes L) (hnone : b = none → cb = 0) (hnb : nb ≤ 1048576) (hnc : nb ≤ cb) (hc47 : cb ≤ 140737488351232) (w : World) (hh : Holds w b L) (hl : InE w a l) (hk : KIs w) (hlt : ∀ x, b = some x → L ≠ [] → x.block < w.heap.size) :
    Calls Tryd.prog 3 #[.slice a N c, .slice b nb cb] w fun e w' => e = .returned (.bool true) ∧ Below w.heap.size w w' := by
  have hft : Fit l := fun x hx => by have := hf x hx; omega
  have KW : Hid (∀ w, Calls Tryd.prog 15 #[] w fun e w' => e = .returned (.bool true) ∧ Below w.heap.size w w') := works_is
  have HI : ∀ w', Below w.heap.size w w' → InE w' a l := fun w' hb => hl.keep hb
  have KO : Hid (Calls Tryd.prog 8 #[.slice a n c] w fun e w' => ∃ a' c', e = .returned (.slice (some a') n c') ∧ n ≤ c' ∧ InE w' (some a') l ∧ Below w.heap.size w w') := ownE_is l n hn hn2 a c w hl hca
  have KE : Hid (∀ w' a' c', InE w' a' l → Calls Tryd.prog 7 #[.slice a' n c'] w' fun e w'' => ∃ a1 c1, e = .returned (.tuple #[.slice a1 (encE l).length c1, .int .i64 (chk l).2]) ∧ Holds w'' a1 (encE l) ∧ (∀ x, a1 = some x → encE l ≠ [] → x.block < w''.heap.size) ∧ Below w'.heap.size w' w'') := fun w' a' c' hi => encode_all l n hn hn2 hft a' c' w' hi
  have KRE : Hid (∀ w', Below w.heap.size w w' → Calls Tryd.prog 9 #[.slice a n c] w' fun e w'' => e = .returned (.tuple #[.string (strOfNums (encE l)), .int .i64 (chk l).2]) ∧ Below w'.heap.size w' w'') := fun w' hb => rencode_all l n hn hn2 hf a c w' (HI w' hb)
  have KI : Hid (∀ w', Below w.heap.size w w' → Calls Tryd.prog 12 #[.slice a n c] w' fun e w'' => e = .returned (.tuple #[.agg (u8s (dgE l)), .int .i64 (chk l).2]) ∧ Below w'.heap.size w' w'') := fun w' hb => id_all l n hn hn2 hft a c w' (HI w' hb) (hk.below hb hk.pos)
  have KD : Hid (∀ w' a1 c1 base, Owned w' base (.slice a1 nb c1) L → Calls Tryd.prog 10 #[.slice a1 nb c1] w' fun e w'' => ∃ a c, e = .returned (.tuple #[.slice a (deE L).length c, .int .i64 (deKE L)]) ∧ InE w'' a (deE L) ∧ Below w'.heap.size w' w'') := fun w' a1 c1 base ho => (decode_is w' nb c1 a1 L hlL hB ho.holds.1 (fun x hx _ => ho.lt_size x hx) ho.cap.1 ho.cap.2 (by omega)).mono fun e w'' h => h.all
  have KRD : Hid (∀ w', Calls Tryd.prog 11 #[.string (strOfNums L)] w' fun e w'' => ∃ a c, e = .returned (.tuple #[.slice a (deE L).length c, .int .i64 (deKE L)]) ∧ InE w'' a (deE L) ∧ Below w'.heap.size w' w'') := fun w' => (rdecodeE_is L nb hlL hB hnb w').mono fun e w'' h => h.all
  have hq8 := deE_few hB
  obtain ⟨q, hq⟩ : ∃ q, q = deE L := ⟨_, rfl⟩
  rw [← hq] at KD KRD hq8
  have KS : Hid (∀ w' a' c' a2 c2, InE w' a' q → InE w' a2 q → Calls Tryd.prog 14 #[.slice a' q.length c', .slice a2 q.length c2] w' fun e w'' => e = .returned (.bool true) ∧ Below w'.heap.size w' w'') := fun w' a' c' a2 c2 hi hj => by
    have := sameE_is q q q.length q.length c' c2 a' a2 w' rfl rfl (by omega) (by omega) hi hj
    rw [decide_eq_true rfl] at this
    exact this
  have HHo : Hid (∀ w', Below w.heap.size w w' → Holds w' b L) := fun w' hb => hh.below hb hlt
  have hE := encE_bytes l
  have hEs := encE_short l
  obtain ⟨E, hEE⟩ : ∃ E, E = encE l := ⟨_, rfl⟩
  rw [← hEE] at KE KRE hE hEs
  obtain ⟨D, hDD⟩ : ∃ D, D = dgE l := ⟨_, rfl⟩
  rw [← hDD] at KI
  have hD32 : D.length = 32 := by rw [hDD]; exact dgE_len l
  have KSU : Hid (∀ w' a1 c1, Holds w' (some a1) E → a1.block < w'.heap.size → Calls Tryd.prog 13 #[.slice (some a1) E.length c1] w' fun e w'' => e = .returned (.agg (u8s (shaL E))) ∧ Below w'.heap.size w' w'') := fun w' a1 c1 hh hlt => rsum_is E (some a1) E.length c1 w' rfl hE (by omega) hh (fun h => by cases h) (fun x hx _ => by cases hx; exact hlt)
  have HED : Hid ((chk l).2 = 0 → shaL E = D) := fun h => by rw [hEE, hDD]; unfold encE dgE; rw [if_pos h, if_pos h]
  have HNE : Hid ((chk l).2 = 0 → E ≠ []) := fun h e => by rw [hEE] at e; unfold encE at e; rw [if_pos h] at e; simp [enc] at e
  have HED2 : Hid ((chk l).2 ≠ 0 → u8s D = z32) := fun h => by rw [hDD]; unfold dgE; rw [if_neg h, z32_u8sE]
  have hez : ∀ w, (Op.equalIn 10000 35 (.agg (u8s D)) (.agg (u8s D))).run Tryd.prog w = .ok true w := fun w => by
    have := eq_digest D D hD32 hD32 w
    simpa using this
  have hse : ((strOfNums E).toList == (strOfNums E).toList) = true := by simp
  have CB : Hid (∀ w, ∃ c1 w', (convert 9 23 (.string (strOfNums E))).run Tryd.prog w = .ok (.slice (some ⟨w.heap.size, 0, none⟩) E.length c1) w' ∧ Holds w' (some ⟨w.heap.size, 0, none⟩) E ∧ Below w.heap.size w w') := fun w => conv_bytes E hE E.length rfl w
  have hz24 := (zero_of_info zero24_info).1
  have HSz : Hid (∀ {D' : List Int}, D'.length = 32 → z32.size = (u8s D').size) := fun h => by rw [z32_size, u8s_size, h]
  have HSz2 : Hid (∀ {D' : List Int}, D'.length = 32 → (Tryd.prog.info? 35).map (·.size) = some (u8s D').size) := fun h => size32l _ h
  clear hf hft hl hn HI hh hq hEE hDD
  generalize hrr : (chk l).2 = r at *
  obtain ⟨SE, hSE⟩ : ∃ SE, SE = strOfNums E := ⟨_, rfl⟩
  rw [← hSE] at KRE hse CB
  have HSE : Hid (SE = strOfNums E) := hSE
  clear hSE hlt
  obtain ⟨SL, hSL⟩ : ∃ SL, SL = strOfNums L := ⟨_, rfl⟩
  rw [← hSL] at KRD
  have HSL : Hid (SL = strOfNums L) := hSL
  obtain ⟨dk, hdk⟩ : ∃ dk, dk = deKE L := ⟨_, rfl⟩
  rw [← hdk] at KD KRD
  clear hSL hdk
  by_cases h200 : 200 < N
  · have e1 : (200 : Int) < (N : Int) := by omega
    rw [if_pos h200] at hnN
    subst hnN
    have e2 : (200 : Int) ≤ (c : Int) := by omega
    obtain ⟨m, hm⟩ : ∃ m : Nat, m = 200 := ⟨_, rfl⟩
    go_enter Tryd.func3, Tryd.ntmps3
    go_wp2_with fail
    refine KO.out.mono ?_
    rintro e w1 ⟨a1, c1, rfl, _, hi1, hb1⟩
    have B1 : Hid (Below w.heap.size w w1) := hb1
    have I1 : Hid (InE w1 (some a1) l) := hi1
    clear hb1 hi1 KO
    go_wp2_with fail
    refine (KE.out _ _ _ I1.out).mono ?_
    rintro e w2 ⟨a2, c2, rfl, hh2, hl2, hb2⟩
    have B2 : Hid (Below w.heap.size w w2) := B1.out.trans (hb2.mono B1.out.size)
    have H2 : Hid (∀ w', Below w2.heap.size w2 w' → Holds w' a2 E) := fun w' hb => hh2.below hb hl2
    clear hb2 hh2 hl2 KE I1
    generalize hel : E.length = ne at *
    go_wp2_with fail
    refine (KRE.out _ B2.out).mono ?_
    rintro e w3 ⟨rfl, hb3⟩
    have C3 : Hid (Below w2.heap.size w2 w3) := hb3
    have B3 : Hid (Below w.heap.size w w3) := B2.out.trans (hb3.mono B2.out.size)
    have O3 : Hid (Owned (w3.alloc (.cells #[] 5)) w3.heap.size (.slice (some ⟨w3.heap.size, 0, none⟩) 0 0) []) := owned_empty w3 w3.heap.size (Nat.le_refl _)
    have H3 : Hid (Holds (w3.alloc (.cells #[] 5)) b L) := HHo.out _ (B3.out.alloc B3.out.size _)
    clear hb3 KRE
    go_wp2_with (at_builtin; refine append_bytes rfl (.tmp 33) (.tmp 34) rfl w3.heap.size _ [] rfl O3.out b nb cb L rfl hlL H3.out hnone nb (by simp) (by omega) (by simp) ?_; intro a4 c4 w4 ho4 hb4; have O4 : Hid (Owned w4 w3.heap.size (.slice a4 nb c4) L) := ho4; have C4 : Hid (Below w3.heap.size w3 w4) := ((Below.refl w3.heap.size w3).alloc (Nat.le_refl _) _).trans hb4; clear ho4 hb4)
    refine (KD.out _ _ _ _ O4.out).mono ?_
    rintro e w5 ⟨a5, c5, rfl, hi5, hb5⟩
    have C5 : Hid (Below w3.heap.size w3 w5) := C4.out.trans (hb5.mono C4.out.size)
    have I5 : Hid (InE w5 a5 q) := hi5
    have B5 : Hid (Below w.heap.size w w5) := B3.out.trans (C5.out.mono B3.out.size)
    have cs := conv_str (HHo.out _ B5.out) nb cb hlL
    rw [← HSL.out] at cs
    clear hi5 hb5 KD O4 C4 O3 H3
    go_wp2_with fail
    clear cs
    refine (KRD.out _).mono ?_
    rintro e W8 ⟨a7, c7, rfl, hi7, hb7⟩
    have J8 : Hid (InE W8 a7 q) := hi7
    have I8 : Hid (InE W8 a5 q) := I5.out.keep hb7
    have B8 : Hid (Below w.heap.size w W8) := B5.out.trans (hb7.mono B5.out.size)
    have D8 : Hid (Below w3.heap.size w3 W8) := C5.out.trans (hb7.mono C5.out.size)
    clear hi7 hb7 KRD I5 B5 C5
    go_wp2_with fail
    refine (KI.out _ B8.out).mono ?_
    rintro e w9 ⟨rfl, hb9⟩
    have Z9 : Hid ((w9.alloc (.cells z32 35)).heap[w9.heap.size]? = some (.cells z32 35)) := heap_alloc_new w9 _
    have C9 : Below w9.heap.size w9 ((w9.alloc (.cells z32 35)).setRow w9.heap.size (u8s D)) := below_setRow ((Below.refl _ _).alloc (Nat.le_refl _) _) (Nat.le_refl _) _
    have G9 : ((w9.alloc (.cells z32 35)).setRow w9.heap.size (u8s D)).heap[w9.heap.size]? = some (.cells (u8s D) 35) := setRow_heap _ _ _ _ _ _ Z9.out
    obtain ⟨W10, hW10⟩ : ∃ W10, W10 = (w9.alloc (.cells z32 35)).setRow w9.heap.size (u8s D) := ⟨_, rfl⟩
    rw [← hW10] at C9 G9
    have HW10 : Hid ((w9.alloc (.cells z32 35)).setRow w9.heap.size (u8s D) = W10) := hW10.symm
    have C10 : Hid (Below W8.heap.size W8 W10) := hb9.trans (C9.mono hb9.size)
    have Z10 : Hid ((W10.alloc (.cells z32 35)).heap[W10.heap.size]? = some (.cells z32 35)) := heap_alloc_new W10 _
    have C11 : Below W10.heap.size W10 ((W10.alloc (.cells z32 35)).setRow W10.heap.size z32) := below_setRow ((Below.refl _ _).alloc (Nat.le_refl _) _) (Nat.le_refl _) _
    have G11 : ((W10.alloc (.cells z32 35)).setRow W10.heap.size z32).heap[W10.heap.size]? = some (.cells z32 35) := setRow_heap _ _ _ _ _ _ Z10.out
    obtain ⟨W11, hW11⟩ : ∃ W11, W11 = (W10.alloc (.cells z32 35)).setRow W10.heap.size z32 := ⟨_, rfl⟩
    rw [← hW11] at C11 G11
    have HW11 : Hid ((W10.alloc (.cells z32 35)).setRow W10.heap.size z32 = W11) := hW11.symm
    have D11 : Hid (Below W8.heap.size W8 W11) := C10.out.trans (C11.mono C10.out.size)
    have GD : Hid (W11.heap[w9.heap.size]? = some (.cells (u8s D) 35)) := heapKeep G9 C11
    have GZ : Hid (W11.heap[W10.heap.size]? = some (.cells z32 35)) := G11
    have hne : w9.heap.size < W10.heap.size := (Array.getElem?_eq_some_iff.1 G9).1
    have hWW : W8.heap.size ≤ W10.heap.size := C10.out.size
    clear hb9 C9 G9 hW10 KI C11 G11 hW11 C10
    by_cases hr0 : r = 0
    · subst hr0
      have HS : Hid (shaL E = D) := HED.out rfl
      obtain ⟨c12, w12, hcv, hh12, hb12⟩ := CB.out W11
      have KQ : Hid (Calls Tryd.prog 13 #[.slice (some ⟨W11.heap.size, 0, none⟩) ne c12] w12 fun e w'' => e = .returned (.agg (u8s D)) ∧ Below w12.heap.size w12 w'') := by
        have := KSU.out w12 ⟨W11.heap.size, 0, none⟩ c12 hh12 (by
          rcases hh12 with e | ⟨b', o', e', hcell⟩
          · exact absurd e (HNE.out rfl)
          · cases e'
            exact cell_ltE (p := ⟨W11.heap.size, 0 + 0, none⟩) (hcell 0 (List.length_pos_iff.2 (HNE.out rfl))))
        rw [HS.out] at this
        exact this
      have D12 : Hid (Below W11.heap.size W11 w12) := hb12
      clear hh12 hb12 CB KSU
      go_wp2_with (first | (refine wpList_store_row rfl 35 (.tmp 13) (.tmp 48) rfl w9.heap.size (u8s D) rfl rfl 35 z32 Z9.out (HSz2.out hD32) (HSz.out hD32) (u8s_one _) ?_; rw [HW10.out]) | (refine wpList_store_row rfl 35 (.tmp 15) (.tmp 50) rfl W10.heap.size z32 rfl rfl 35 z32 Z10.out (by rw [z32_size]; exact size32) rfl z32_one ?_; rw [HW11.out]))
      refine KQ.out.mono ?_
      rintro e w13 ⟨rfl, hb13⟩
      have D13 : Below W11.heap.size W11 w13 := D12.out.trans (hb13.mono D12.out.size)
      have GD13 : w13.heap[w9.heap.size]? = some (.cells (u8s D) 35) := heapKeep GD.out D13
      have GZ13 : Hid (w13.heap[W10.heap.size]? = some (.cells z32 35)) := heapKeep GZ.out D13
      have W14f : Below W10.heap.size w13 (w13.setRow W10.heap.size (u8s D)) := below_setRow (Below.refl _ _) (Nat.le_refl _) _
      obtain ⟨W14, hW14⟩ : ∃ W14, W14 = w13.setRow W10.heap.size (u8s D) := ⟨_, rfl⟩
      have GZT : Hid (W14.heap[W10.heap.size]? = some (.cells (u8s D) 35)) := by show _ = _; rw [hW14]; exact setRow_heap _ _ _ _ _ _ GZ13.out
      rw [← hW14] at W14f
      have GDT : Hid (W14.heap[w9.heap.size]? = some (.cells (u8s D) 35)) := (W14f.block _ hne).trans GD13
      have ET : Hid (Below W8.heap.size W8 W14) := (D11.out.trans (D13.mono D11.out.size)).trans (W14f.mono hWW)
      have HW14 : Hid (w13.setRow W10.heap.size (u8s D) = W14) := hW14.symm
      clear W14f hW14 GD13 D13 hb13 KQ D12 GD GZ Z9 Z10 hcv
      have IT : Hid (InE W14 a5 q) := I8.out.keep ET.out
      have JT : Hid (InE W14 a7 q) := J8.out.keep ET.out
      have csx := conv_str (H2.out W14 ((C3.out.trans (D8.out.mono C3.out.size)).trans (ET.out.mono (Nat.le_trans C3.out.size D8.out.size)))) ne c2 hel
      rw [← HSE.out] at csx
      have BT : Hid (Below w.heap.size w W14) := B8.out.trans (ET.out.mono B8.out.size)
      clear H2 C3 D8 I8 J8
      go_wp2_with (refine wpList_store_row rfl 35 (.tmp 15) (.tmp 55) rfl W10.heap.size (u8s D) rfl rfl 35 z32 GZ13.out (HSz2.out hD32) (HSz.out hD32) (u8s_one _) ?_; rw [HW14.out])
      refine (KS.out _ _ _ _ _ IT.out JT.out).mono ?_
      rintro e w16 ⟨rfl, hb16⟩
      have GD16 : Hid (w16.heap[w9.heap.size]? = some (.cells (u8s D) 35)) := heapKeep GDT.out hb16
      have GZ16 : Hid (w16.heap[W10.heap.size]? = some (.cells (u8s D) 35)) := heapKeep GZT.out hb16
      have B16 : Hid (Below w.heap.size w w16) := BT.out.trans (hb16.mono BT.out.size)
      clear hb16 KS csx
      go_wp2_with (first | (refine wpList_load_row_g 35 (.tmp 13) rfl rfl w9.heap.size rfl 35 (u8s D) (0, 0) 32 5 GD16.out Tryd.underlying35 (HSz2.out hD32) ?_) | (refine wpList_load_row_g 35 (.tmp 15) rfl rfl W10.heap.size rfl 35 (u8s D) (0, 0) 32 5 GZ16.out Tryd.underlying35 (HSz2.out hD32) ?_))
      refine (KW.out _).mono ?_
      rintro e w17 ⟨rfl, hb17⟩
      have B17 : Hid (Below w.heap.size w w17) := B16.out.trans (hb17.mono B16.out.size)
      clear hb17
      go_wp2_with fail
      go_ret
      exact ⟨rfl, B17.out⟩
    · have hr1 : (r == 0) = false := by simp [hr0]
      have hzd : u8s D = z32 := HED2.out hr0
      have GDT : Hid (W11.heap[w9.heap.size]? = some (.cells (u8s D) 35)) := GD
      have GZT : Hid (W11.heap[W10.heap.size]? = some (.cells (u8s D) 35)) := by show _ = _; rw [hzd]; exact GZ.out
      have ET : Hid (Below W8.heap.size W8 W11) := D11
      clear GD GZ CB KSU hzd
      have IT : Hid (InE W11 a5 q) := I8.out.keep ET.out
      have JT : Hid (InE W11 a7 q) := J8.out.keep ET.out
      have csx := conv_str (H2.out W11 ((C3.out.trans (D8.out.mono C3.out.size)).trans (ET.out.mono (Nat.le_trans C3.out.size D8.out.size)))) ne c2 hel
      rw [← HSE.out] at csx
      have BT : Hid (Below w.heap.size w W11) := B8.out.trans (ET.out.mono B8.out.size)
      clear H2 C3 D8 I8 J8
      go_wp2_with (first | (refine wpList_store_row rfl 35 (.tmp 13) (.tmp 48) rfl w9.heap.size (u8s D) rfl rfl 35 z32 Z9.out (HSz2.out hD32) (HSz.out hD32) (u8s_one _) ?_; rw [HW10.out]) | (refine wpList_store_row rfl 35 (.tmp 15) (.tmp 50) rfl W10.heap.size z32 rfl rfl 35 z32 Z10.out (by rw [z32_size]; exact size32) rfl z32_one ?_; rw [HW11.out]))
      refine (KS.out _ _ _ _ _ IT.out JT.out).mono ?_
      rintro e w16 ⟨rfl, hb16⟩
      have GD16 : Hid (w16.heap[w9.heap.size]? = some (.cells (u8s D) 35)) := heapKeep GDT.out hb16
      have GZ16 : Hid (w16.heap[W10.heap.size]? = some (.cells (u8s D) 35)) := heapKeep GZT.out hb16
      have B16 : Hid (Below w.heap.size w w16) := BT.out.trans (hb16.mono BT.out.size)
      clear hb16 KS csx
      go_wp2_with (first | (refine wpList_load_row_g 35 (.tmp 13) rfl rfl w9.heap.size rfl 35 (u8s D) (0, 0) 32 5 GD16.out Tryd.underlying35 (HSz2.out hD32) ?_) | (refine wpList_load_row_g 35 (.tmp 15) rfl rfl W10.heap.size rfl 35 (u8s D) (0, 0) 32 5 GZ16.out Tryd.underlying35 (HSz2.out hD32) ?_))
      refine (KW.out _).mono ?_
      rintro e w17 ⟨rfl, hb17⟩
      have B17 : Hid (Below w.heap.size w w17) := B16.out.trans (hb17.mono B16.out.size)
      clear hb17
      go_wp2_with fail
      go_ret
      exact ⟨rfl, B17.out⟩
  · have e1 : ¬ (200 : Int) < (N : Int) := by omega
    rw [if_neg h200] at hnN
    subst hnN
    go_enter Tryd.func3, Tryd.ntmps3
    go_wp2_with fail
    refine KO.out.mono ?_
    rintro e w1 ⟨a1, c1, rfl, _, hi1, hb1⟩
    have B1 : Hid (Below w.heap.size w w1) := hb1
    have I1 : Hid (InE w1 (some a1) l) := hi1
    clear hb1 hi1 KO
    go_wp2_with fail
    refine (KE.out _ _ _ I1.out).mono ?_
    rintro e w2 ⟨a2, c2, rfl, hh2, hl2, hb2⟩
    have B2 : Hid (Below w.heap.size w w2) := B1.out.trans (hb2.mono B1.out.size)
    have H2 : Hid (∀ w', Below w2.heap.size w2 w' → Holds w' a2 E) := fun w' hb => hh2.below hb hl2
    clear hb2 hh2 hl2 KE I1
    generalize hel : E.length = ne at *
    go_wp2_with fail
    refine (KRE.out _ B2.out).mono ?_
    rintro e w3 ⟨rfl, hb3⟩
    have C3 : Hid (Below w2.heap.size w2 w3) := hb3
    have B3 : Hid (Below w.heap.size w w3) := B2.out.trans (hb3.mono B2.out.size)
    have O3 : Hid (Owned (w3.alloc (.cells #[] 5)) w3.heap.size (.slice (some ⟨w3.heap.size, 0, none⟩) 0 0) []) := owned_empty w3 w3.heap.size (Nat.le_refl _)
    have H3 : Hid (Holds (w3.alloc (.cells #[] 5)) b L) := HHo.out _ (B3.out.alloc B3.out.size _)
    clear hb3 KRE
    go_wp2_with (at_builtin; refine append_bytes rfl (.tmp 33) (.tmp 34) rfl w3.heap.size _ [] rfl O3.out b nb cb L rfl hlL H3.out hnone nb (by simp) (by omega) (by simp) ?_; intro a4 c4 w4 ho4 hb4; have O4 : Hid (Owned w4 w3.heap.size (.slice a4 nb c4) L) := ho4; have C4 : Hid (Below w3.heap.size w3 w4) := ((Below.refl w3.heap.size w3).alloc (Nat.le_refl _) _).trans hb4; clear ho4 hb4)
    refine (KD.out _ _ _ _ O4.out).mono ?_
    rintro e w5 ⟨a5, c5, rfl, hi5, hb5⟩
    have C5 : Hid (Below w3.heap.size w3 w5) := C4.out.trans (hb5.mono C4.out.size)
    have I5 : Hid (InE w5 a5 q) := hi5
    have B5 : Hid (Below w.heap.size w w5) := B3.out.trans (C5.out.mono B3.out.size)
    have cs := conv_str (HHo.out _ B5.out) nb cb hlL
    rw [← HSL.out] at cs
    clear hi5 hb5 KD O4 C4 O3 H3
    go_wp2_with fail
    clear cs
    refine (KRD.out _).mono ?_
    rintro e W8 ⟨a7, c7, rfl, hi7, hb7⟩
    have J8 : Hid (InE W8 a7 q) := hi7
    have I8 : Hid (InE W8 a5 q) := I5.out.keep hb7
    have B8 : Hid (Below w.heap.size w W8) := B5.out.trans (hb7.mono B5.out.size)
    have D8 : Hid (Below w3.heap.size w3 W8) := C5.out.trans (hb7.mono C5.out.size)
    clear hi7 hb7 KRD I5 B5 C5
    go_wp2_with fail
    refine (KI.out _ B8.out).mono ?_
    rintro e w9 ⟨rfl, hb9⟩
    have Z9 : Hid ((w9.alloc (.cells z32 35)).heap[w9.heap.size]? = some (.cells z32 35)) := heap_alloc_new w9 _
    have C9 : Below w9.heap.size w9 ((w9.alloc (.cells z32 35)).setRow w9.heap.size (u8s D)) := below_setRow ((Below.refl _ _).alloc (Nat.le_refl _) _) (Nat.le_refl _) _
    have G9 : ((w9.alloc (.cells z32 35)).setRow w9.heap.size (u8s D)).heap[w9.heap.size]? = some (.cells (u8s D) 35) := setRow_heap _ _ _ _ _ _ Z9.out
    obtain ⟨W10, hW10⟩ : ∃ W10, W10 = (w9.alloc (.cells z32 35)).setRow w9.heap.size (u8s D) := ⟨_, rfl⟩
    rw [← hW10] at C9 G9
    have HW10 : Hid ((w9.alloc (.cells z32 35)).setRow w9.heap.size (u8s D) = W10) := hW10.symm
    have C10 : Hid (Below W8.heap.size W8 W10) := hb9.trans (C9.mono hb9.size)
    have Z10 : Hid ((W10.alloc (.cells z32 35)).heap[W10.heap.size]? = some (.cells z32 35)) := heap_alloc_new W10 _
    have C11 : Below W10.heap.size W10 ((W10.alloc (.cells z32 35)).setRow W10.heap.size z32) := below_setRow ((Below.refl _ _).alloc (Nat.le_refl _) _) (Nat.le_refl _) _
    have G11 : ((W10.alloc (.cells z32 35)).setRow W10.heap.size z32).heap[W10.heap.size]? = some (.cells z32 35) := setRow_heap _ _ _ _ _ _ Z10.out
    obtain ⟨W11, hW11⟩ : ∃ W11, W11 = (W10.alloc (.cells z32 35)).setRow W10.heap.size z32 := ⟨_, rfl⟩
    rw [← hW11] at C11 G11
    have HW11 : Hid ((W10.alloc (.cells z32 35)).setRow W10.heap.size z32 = W11) := hW11.symm
    have D11 : Hid (Below W8.heap.size W8 W11) := C10.out.trans (C11.mono C10.out.size)
    have GD : Hid (W11.heap[w9.heap.size]? = some (.cells (u8s D) 35)) := heapKeep G9 C11
    have GZ : Hid (W11.heap[W10.heap.size]? = some (.cells z32 35)) := G11
    have hne : w9.heap.size < W10.heap.size := (Array.getElem?_eq_some_iff.1 G9).1
    have hWW : W8.heap.size ≤ W10.heap.size := C10.out.size
    clear hb9 C9 G9 hW10 KI C11 G11 hW11 C10
    by_cases hr0 : r = 0
    · subst hr0
      have HS : Hid (shaL E = D) := HED.out rfl
      obtain ⟨c12, w12, hcv, hh12, hb12⟩ := CB.out W11
      have KQ : Hid (Calls Tryd.prog 13 #[.slice (some ⟨W11.heap.size, 0, none⟩) ne c12] w12 fun e w'' => e = .returned (.agg (u8s D)) ∧ Below w12.heap.size w12 w'') := by
        have := KSU.out w12 ⟨W11.heap.size, 0, none⟩ c12 hh12 (by
          rcases hh12 with e | ⟨b', o', e', hcell⟩
          · exact absurd e (HNE.out rfl)
          · cases e'
            exact cell_ltE (p := ⟨W11.heap.size, 0 + 0, none⟩) (hcell 0 (List.length_pos_iff.2 (HNE.out rfl))))
        rw [HS.out] at this
        exact this
      have D12 : Hid (Below W11.heap.size W11 w12) := hb12
      clear hh12 hb12 CB KSU
      go_wp2_with (first | (refine wpList_store_row rfl 35 (.tmp 13) (.tmp 48) rfl w9.heap.size (u8s D) rfl rfl 35 z32 Z9.out (HSz2.out hD32) (HSz.out hD32) (u8s_one _) ?_; rw [HW10.out]) | (refine wpList_store_row rfl 35 (.tmp 15) (.tmp 50) rfl W10.heap.size z32 rfl rfl 35 z32 Z10.out (by rw [z32_size]; exact size32) rfl z32_one ?_; rw [HW11.out]))
      refine KQ.out.mono ?_
      rintro e w13 ⟨rfl, hb13⟩
      have D13 : Below W11.heap.size W11 w13 := D12.out.trans (hb13.mono D12.out.size)
      have GD13 : w13.heap[w9.heap.size]? = some (.cells (u8s D) 35) := heapKeep GD.out D13
      have GZ13 : Hid (w13.heap[W10.heap.size]? = some (.cells z32 35)) := heapKeep GZ.out D13
      have W14f : Below W10.heap.size w13 (w13.setRow W10.heap.size (u8s D)) := below_setRow (Below.refl _ _) (Nat.le_refl _) _
      obtain ⟨W14, hW14⟩ : ∃ W14, W14 = w13.setRow W10.heap.size (u8s D) := ⟨_, rfl⟩
      have GZT : Hid (W14.heap[W10.heap.size]? = some (.cells (u8s D) 35)) := by show _ = _; rw [hW14]; exact setRow_heap _ _ _ _ _ _ GZ13.out
      rw [← hW14] at W14f
      have GDT : Hid (W14.heap[w9.heap.size]? = some (.cells (u8s D) 35)) := (W14f.block _ hne).trans GD13
      have ET : Hid (Below W8.heap.size W8 W14) := (D11.out.trans (D13.mono D11.out.size)).trans (W14f.mono hWW)
      have HW14 : Hid (w13.setRow W10.heap.size (u8s D) = W14) := hW14.symm
      clear W14f hW14 GD13 D13 hb13 KQ D12 GD GZ Z9 Z10 hcv
      have IT : Hid (InE W14 a5 q) := I8.out.keep ET.out
      have JT : Hid (InE W14 a7 q) := J8.out.keep ET.out
      have csx := conv_str (H2.out W14 ((C3.out.trans (D8.out.mono C3.out.size)).trans (ET.out.mono (Nat.le_trans C3.out.size D8.out.size)))) ne c2 hel
      rw [← HSE.out] at csx
      have BT : Hid (Below w.heap.size w W14) := B8.out.trans (ET.out.mono B8.out.size)
      clear H2 C3 D8 I8 J8
      go_wp2_with (refine wpList_store_row rfl 35 (.tmp 15) (.tmp 55) rfl W10.heap.size (u8s D) rfl rfl 35 z32 GZ13.out (HSz2.out hD32) (HSz.out hD32) (u8s_one _) ?_; rw [HW14.out])
      refine (KS.out _ _ _ _ _ IT.out JT.out).mono ?_
      rintro e w16 ⟨rfl, hb16⟩
      have GD16 : Hid (w16.heap[w9.heap.size]? = some (.cells (u8s D) 35)) := heapKeep GDT.out hb16
      have GZ16 : Hid (w16.heap[W10.heap.size]? = some (.cells (u8s D) 35)) := heapKeep GZT.out hb16
      have B16 : Hid (Below w.heap.size w w16) := BT.out.trans (hb16.mono BT.out.size)
      clear hb16 KS csx
      go_wp2_with (first | (refine wpList_load_row_g 35 (.tmp 13) rfl rfl w9.heap.size rfl 35 (u8s D) (0, 0) 32 5 GD16.out Tryd.underlying35 (HSz2.out hD32) ?_) | (refine wpList_load_row_g 35 (.tmp 15) rfl rfl W10.heap.size rfl 35 (u8s D) (0, 0) 32 5 GZ16.out Tryd.underlying35 (HSz2.out hD32) ?_))
      refine (KW.out _).mono ?_
      rintro e w17 ⟨rfl, hb17⟩
      have B17 : Hid (Below w.heap.size w w17) := B16.out.trans (hb17.mono B16.out.size)
      clear hb17
      go_wp2_with fail
      go_ret
      exact ⟨rfl, B17.out⟩
    · have hr1 : (r == 0) = false := by simp [hr0]
      have hzd : u8s D = z32 := HED2.out hr0
      have GDT : Hid (W11.heap[w9.heap.size]? = some (.cells (u8s D) 35)) := GD
      have GZT : Hid (W11.heap[W10.heap.size]? = some (.cells (u8s D) 35)) := by show _ = _; rw [hzd]; exact GZ.out
      have ET : Hid (Below W8.heap.size W8 W11) := D11
      clear GD GZ CB KSU hzd
      have IT : Hid (InE W11 a5 q) := I8.out.keep ET.out
      have JT : Hid (InE W11 a7 q) := J8.out.keep ET.out
      have csx := conv_str (H2.out W11 ((C3.out.trans (D8.out.mono C3.out.size)).trans (ET.out.mono (Nat.le_trans C3.out.size D8.out.size)))) ne c2 hel
      rw [← HSE.out] at csx
      have BT : Hid (Below w.heap.size w W11) := B8.out.trans (ET.out.mono B8.out.size)
      clear H2 C3 D8 I8 J8
      go_wp2_with (first | (refine wpList_store_row rfl 35 (.tmp 13) (.tmp 48) rfl w9.heap.size (u8s D) rfl rfl 35 z32 Z9.out (HSz2.out hD32) (HSz.out hD32) (u8s_one _) ?_; rw [HW10.out]) | (refine wpList_store_row rfl 35 (.tmp 15) (.tmp 50) rfl W10.heap.size z32 rfl rfl 35 z32 Z10.out (by rw [z32_size]; exact size32) rfl z32_one ?_; rw [HW11.out]))
      refine (KS.out _ _ _ _ _ IT.out JT.out).mono ?_
      rintro e w16 ⟨rfl, hb16⟩
      have GD16 : Hid (w16.heap[w9.heap.size]? = some (.cells (u8s D) 35)) := heapKeep GDT.out hb16
      have GZ16 : Hid (w16.heap[W10.heap.size]? = some (.cells (u8s D) 35)) := heapKeep GZT.out hb16
      have B16 : Hid (Below w.heap.size w w16) := BT.out.trans (hb16.mono BT.out.size)
      clear hb16 KS csx
      go_wp2_with (first | (refine wpList_load_row_g 35 (.tmp 13) rfl rfl w9.heap.size rfl 35 (u8s D) (0, 0) 32 5 GD16.out Tryd.underlying35 (HSz2.out hD32) ?_) | (refine wpList_load_row_g 35 (.tmp 15) rfl rfl W10.heap.size rfl 35 (u8s D) (0, 0) 32 5 GZ16.out Tryd.underlying35 (HSz2.out hD32) ?_))
      refine (KW.out _).mono ?_
      rintro e w17 ⟨rfl, hb17⟩
      have B17 : Hid (Below w.heap.size w w17) := B16.out.trans (hb17.mono B16.out.size)
      clear hb17
      go_wp2_with fail
      go_ret
      exact ⟨rfl, B17.out⟩
theorem layerCodes_walk (a : Option Addr) (N c : Nat) (l : List En) (b : Option Addr) (nb cb : Nat) (zs : List Int) (w : World) (hn : l.length = N) (hc : N ≤ c) (hl : InE w a l) (hf : Fit l) (hN : N ≤ 140737488355328) (hnc : a = none → c = 0) (hw : IsRow .u8 w b nb cb zs) (hk : KIs w) (hB : (∀ x ∈ l, x.p.length ≤ 1048576 ∧ x.b.length ≤ 1048576) ∧ l.length ≤ 1048576) (hnb : nb ≤ 1048576) :
    Calls Tryd.prog 3 #[.slice a N c, .slice b nb cb] w fun e w' => e = .returned (.bool true) ∧ Below w.heap.size w w' := by
  obtain ⟨L, hLe, hlL, hh, hBy, hnone, hn47, hlt, hncb, hc47⟩ := hw.holds
  exact codes0 (l.take 200) _ (cut200C N l hn) (by split <;> omega) (fun x hx => hB.1 x (List.mem_of_mem_take hx)) a N c hN rfl hc hnc b nb cb L hlL hBy hnone hnb hncb hc47 w hh (hl.takeC 200) hk hlt
end Go.Proofs.YtlddoobomjcldaaDoor
namespace Go.Proofs.YtlddoobomjcldaaDoor
open Go.ChangeShapes Go.WideShapes Go.ChangeAt Go.RowKit Go.Deep
set_option linter.unusedVariables false
/-- an entry as data -/
def ed {H : Type} (q : En) : DataW H := .agg [.lit (.string q.p), .lit (.int .i64 q.k), .lit (.int .i64 q.m), .lit (.string q.b)]
theorem cellsE : Tryd.prog.cellsOf 64 = 4 := by kernel_rfl
theorem cellsT : Tryd.prog.cellsOf 9 = 1 := by kernel_rfl
theorem cellsI : Tryd.prog.cellsOf 3 = 1 := by kernel_rfl
theorem bytesE : Tryd.prog.bytesOf 64 = 48 := by kernel_rfl
theorem list4 {α : Type} {l : List α} (h : l.length = 4) : ∃ v0 v1 v2 v3, l = [v0, v1, v2, v3] := by
  match l, h with
  | [v0, v1, v2, v3], _ => exact ⟨v0, v1, v2, v3, rfl⟩
theorem open_entry {H : Type} {enc : TypeId × Value → H} {W : World} {fuel : Nat} {cs : List Value} {x : DataW H × List MemPlace} (h : DataW.trod enc Tryd.prog W 0 (fun _ => true) true fuel 64 cs = some x) :
    ∃ q : En, cs = [.string (tx q.p), .int .i64 q.k, .int .i64 q.m, .string (tx q.b)] ∧ x.1 = ed q := by
  obtain ⟨y0, y1, y2, y3, n, hxy, hlen, g0, g1, g2, g3⟩ := Go.Joins.trod_struct4 Tryd.underlying64 h
  rw [cellsE] at hlen
  obtain ⟨v0, v1, v2, v3, rfl⟩ := list4 hlen
  simp [cellsT, cellsI] at g0 g1 g2 g3
  obtain ⟨s0, e0, rfl, _⟩ := DataW.trod_string Tryd.underlying9 g0
  obtain ⟨n1, e1, rfl, _⟩ := DataW.trod_int Tryd.underlying3 g1
  obtain ⟨n2, e2, rfl, _⟩ := DataW.trod_int Tryd.underlying3 g2
  obtain ⟨s3, e3, rfl, _⟩ := DataW.trod_string Tryd.underlying9 g3
  simp only [List.cons.injEq, and_true] at e0 e1 e2 e3
  subst e0 e1 e2 e3 hxy
  refine ⟨(s0.data.toList, n1, n2, s3.data.toList), ?_, ?_⟩
  · simp only [En.p, En.k, En.m, En.b, ← tx_mk]
  · simp [ed, En.p, En.k, En.m, En.b]
theorem open_entries {H : Type} {enc : TypeId × Value → H} {W : World} {fuel : Nat} {a : Option Addr} {len cap : Nat} {x : DataW H × List MemPlace} (h : DataW.trod enc Tryd.prog W 0 (fun _ => true) true fuel 22 [.slice a len cap] = some x) :
    ∃ l : List En, l.length = len ∧ len ≤ cap ∧ (a = none → cap = 0) ∧ cap ≤ 9223372036854775807 ∧ InE W a l ∧ (l = [] ∨ ∃ sp, x.1 = .slice (l.map ed) sp) := by
  rcases open_slice Tryd.underlying22 h with ⟨hcs, hx⟩ | ⟨a', len', cap', m, n, D, Pl, hcs, _, hl, hm, hmm, hx, hel⟩
  · simp only [List.cons.injEq, and_true, Value.slice.injEq] at hcs
    obtain ⟨rfl, rfl, rfl⟩ := hcs
    exact ⟨[], rfl, Nat.le_refl _, fun _ => rfl, by omega, .inl rfl, .inl rfl⟩
  · simp only [List.cons.injEq, and_true, Value.slice.injEq] at hcs
    obtain ⟨rfl, rfl, rfl⟩ := hcs
    have hmc : m = cap := by simpa using hmm
    subst hmc hx
    have each : ∀ i, i < len → ∃ q : En, ∃ cs', W.cells? 0 (a'.add (i * 4)) 4 = some cs' ∧ cs' = [.string (tx q.p), .int .i64 q.k, .int .i64 q.m, .string (tx q.b)] ∧ D i = ed q := by
      intro i hi
      obtain ⟨cs', h1, h2⟩ := hel i (by omega)
      rw [cellsE] at h1
      obtain ⟨q, hq, hd⟩ := open_entry h2
      exact ⟨q, cs', h1, hq, hd⟩
    obtain ⟨q, hq⟩ := choose_lt each
    simp only [maxLen] at hm
    refine ⟨(List.range len).map q, by simp, hl, (fun h => by simp at h), by omega, ?_, ?_⟩
    · by_cases h0 : len = 0
      · left; subst h0; rfl
      · right
        have hsp : ∀ i, i < len → W.cell? (a'.add (i * 4)) = some (.string (tx (q i).p)) ∧ W.cell? (a'.add (i * 4 + 1)) = some (.int .i64 (q i).k) ∧ W.cell? (a'.add (i * 4 + 2)) = some (.int .i64 (q i).m) ∧ W.cell? (a'.add (i * 4 + 3)) = some (.string (tx (q i).b)) := by
          intro i hi
          obtain ⟨cs', h1, h2, _⟩ := hq i hi
          obtain ⟨_, hlen, hcell⟩ := World.cells?_some h1
          subst h2
          have e0 := hcell 0 (by omega)
          have e1 := hcell 1 (by omega)
          have e2 := hcell 2 (by omega)
          have e3 := hcell 3 (by omega)
          rw [add_add] at e0 e1 e2 e3
          exact ⟨by simpa using e0, by simpa using e1, by simpa using e2, by simpa using e3⟩
        obtain ⟨b, off, spot⟩ := a'
        have hc := (hsp 0 (by omega)).1
        have hspot : spot = none := by simpa [Addr.add] using World.cell?_spot hc
        subst hspot
        rw [add_plain] at hc
        refine ⟨b, off, rfl, World.block_lt_of_cell? _ _ hc, fun i x hx => ?_⟩
        have hi : i < len := by
          have := (List.getElem?_eq_some_iff.1 hx).1
          simpa using this
        have hxq : x = q i := by simpa [hi] using hx.symm
        subst hxq
        have := hsp i hi
        rw [add_plain, add_plain, add_plain, add_plain] at this
        exact this
    · right
      refine ⟨(List.range (m - len)).map fun j => D (len + j), ?_⟩
      show DataW.slice _ _ = DataW.slice _ _
      congr 1
      apply List.ext_getElem
      · simp
      · intro i h1 h2
        have hi : i < len := by simpa using h1
        obtain ⟨_, _, _, h3⟩ := hq i hi
        simp [h3]
theorem weightsAll_in {H : Type} {P : Program} {e : TypeId} : ∀ {l : List (DataW H)} {d : DataW H}, d ∈ l → ∀ n ∈ d.weights P e, n ∈ DataW.weightsAll P e l
  | d' :: r, d, hd, n, hn => by
    simp only [DataW.weightsAll, List.mem_append]
    rcases List.mem_cons.1 hd with rfl | h
    · exact Or.inl hn
    · exact Or.inr (weightsAll_in h n hn)
theorem weights_ed {H : Type} (q : En) : q.p.length ∈ (ed (H := H) q).weights Tryd.prog 64 ∧ q.b.length ∈ (ed (H := H) q).weights Tryd.prog 64 := by
  have hu := Tryd.underlying64
  constructor <;> simp [ed, DataW.weights, DataW.weightsEach, hu]
theorem fit_of {H : Type} {ts : List TypeId} {ds : List (DataW H)} (h : (DataW.weightsEach Tryd.prog ts ds).all (· ≤ reachBytes) = true) {j : Nat} {l : List En} {sp : List (DataW H)} {d : DataW H}
    (ht : ts[j]? = some 22) (hd : ds[j]? = some d) (hl : l = [] ∨ ∃ sp, d = .slice (l.map ed) sp) : Fit l ∧ l.length ≤ 140737488355328 := by
  have hr := reachBytes_lt
  rcases hl with rfl | ⟨sp, rfl⟩
  · exact ⟨fun x hx => by simp at hx, by simp⟩
  · have hu := Tryd.underlying22
    have key : ∀ x ∈ l, ∀ n ∈ (ed (H := H) x).weights Tryd.prog 64, n ≤ reachBytes := by
      intro x hx n hn
      refine of_decide_eq_true (List.all_eq_true.1 h _ (DataW.weights_mem_each ht hd _ ?_))
      simp only [DataW.weights, hu, List.mem_cons, List.mem_append]
      exact Or.inr (Or.inl (weightsAll_in (List.mem_map.2 ⟨x, hx, rfl⟩) _ hn))
    refine ⟨fun x hx => ?_, ?_⟩
    · obtain ⟨w1, w2⟩ := weights_ed (H := H) x
      have h1 := key x hx _ w1
      have h2 := key x hx _ w2
      omega
    · have := sized_slice h ht hd hu
      rw [bytesE, List.length_map] at this
      omega
theorem bulk_in {H : Type} : ∀ {l : List (DataW H)} {d : DataW H}, d ∈ l → Rows.uptoBulk d ≤ Rows.uptoBulkAll l
  | d' :: r, d, hd => by
    simp only [Rows.uptoBulkAll]
    rcases List.mem_cons.1 hd with rfl | h
    · omega
    · have := bulk_in h; omega
theorem bulk_len {H : Type} : ∀ (l : List En), l.length ≤ Rows.uptoBulkAll (l.map (ed (H := H)))
  | [] => by simp
  | x :: r => by
    have := bulk_len (H := H) r
    simp only [List.map_cons, Rows.uptoBulkAll, List.length_cons, ed, Rows.uptoBulk] at this ⊢
    omega
/-- each text, and their number, is within the bulk -/
theorem bulk_of {H : Type} {l : List En} {d : DataW H} (hl : l = [] ∨ ∃ sp, d = .slice (l.map ed) sp) (B : Nat) (hB : Rows.uptoBulk d ≤ B) : (∀ x ∈ l, x.p.length ≤ B ∧ x.b.length ≤ B) ∧ l.length ≤ B := by
  rcases hl with rfl | ⟨sp, rfl⟩
  · exact ⟨fun x hx => by simp at hx, by simp⟩
  · simp only [Rows.uptoBulk] at hB
    refine ⟨fun x hx => ?_, ?_⟩
    · have := bulk_in (List.mem_map.2 ⟨x, hx, rfl⟩ : ed (H := H) x ∈ l.map ed)
      simp only [ed, Rows.uptoBulk, Rows.uptoBulkAll] at this
      omega
    · have := bulk_len (H := H) l
      omega
end Go.Proofs.YtlddoobomjcldaaDoor
namespace Go.Proofs.YtlddoobomjcldaaDoor
open Go.ChangeShapes Go.WideShapes Go.ChangeAt Go.RowKit Go.Deep
set_option linter.unusedVariables false
theorem gK : Tryd.prog.globalNamed "veneer/sha.k" = some 0 := by kernel_rfl
theorem gKType : (Tryd.prog.globals[0]?).map (·.type) = some 129 := by kernel_rfl
theorem cellsK : Tryd.prog.cellsOf 129 = 64 := by kernel_rfl
theorem cells32 : Tryd.prog.cellsOf 76 = 1 := by kernel_rfl
theorem datumK : (Rows.laid_veneer_sha_k : DataW Unit) = Lib.tabData .u32 (kT.map fun x : Nat => (x : Int)) := by kernel_rfl
abbrev laid3 : List (String × DataW Unit) := [("unicode/utf8.acceptRanges", Rows.laid_unicode_utf8_acceptRanges), ("veneer/sha.k", Rows.laid_veneer_sha_k), ("unicode/utf8.first", Rows.laid_unicode_utf8_first)]
theorem k_of_laid {W : World} (h : laidMetH Tryd.prog laid3 W) : KIs W := by
  rw [MakeChecks.laidMetH_plain _ _ _ (by kernel_rfl)] at h
  have h2 := h.tail
  rw [datumK] at h2
  have hT := Lib.tabIs_of_head gK gKType Tryd.underlying129 Tryd.underlying76 cells32 cellsK h2
  intro i hi
  have hl : i < (kT.map fun x : Nat => (x : Int)).length := by
    have : (kT.map fun x : Nat => (x : Int)).length = 64 := by decide
    omega
  rw [hT.cell gK i hl]
  have hk : i < kT.length := by simpa using hl
  simp [List.getD, List.getElem?_eq_getElem hk]
end Go.Proofs.YtlddoobomjcldaaDoor
