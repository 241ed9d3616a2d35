/- The document's cut. The document's Decode. kv.change; how many keys a map has. A frame read is the frame that stands there, plainly. -/
import Derived.Test.YtcindeechmpalaaGreatMgKc15
import Derived.BigQuiet
import Derived.Test.YtcindeechmpalaaGreatMgKc12
import Derived.Test.YtcindeechmpalaaGreatMgKc13
import Derived.Test.YtcindeechmpalaaGreatMgKc2
namespace Go.Proofs.YtcindeechmpalaaGreat
open Go.ChangeShapes Go.WideShapes Go.ChangeAt Go.RowKit Go.Deep
set_option linter.unusedVariables false
set_option linter.unusedSimpArgs false
def cutE (o : Option (List Int × List Int)) : Ending := match o with
  | none => .returned (.tuple #[.string ⟨#[]⟩, .string ⟨#[]⟩, .bool false])
  | some (k, m) => .returned (.tuple #[.string (strOfNums k), .string (strOfNums m), .bool true])
set_option maxRecDepth 100000 in
set_option maxHeartbeats 4000000 in
theorem rcut_is (B : List Int) (hB : IsBytes B) (hl : B.length ≤ 140737488355328) (w : World) : Calls Tryz.prog 68 #[.string (strOfNums B)] w fun e w' => e = cutE (cutB B) ∧ Below w.heap.size w w' := by
  obtain ⟨hv0, hv1, hn0, hn1⟩ := rv_fits hB
  obtain ⟨c, w1, hr, hh, hb1, _, _, _⟩ := conv_bytes3 B hB B.length rfl hl w
  have KR : Hid (Calls Tryz.prog 99 #[.slice (some ⟨w.heap.size, 0, none⟩) B.length c] w1 fun e w' => e = rvEnd (rv B 0 0) ∧ w' = w1) := rreadVar_all B B.length (some ⟨w.heap.size, 0, none⟩) c rfl hl hB w1 hh
  have HC : Hid (cutB B = if (rv B 0 0).2.2 ≠ 0 ∨ (B.length : Int) - (rv B 0 0).2.1 < (rv B 0 0).1 then none else some ((B.drop (rv B 0 0).2.1.toNat).take (rv B 0 0).1.toNat, (B.drop (rv B 0 0).2.1.toNat).drop (rv B 0 0).1.toNat)) := rfl
  obtain ⟨v, hv⟩ : ∃ v : Nat, (rv B 0 0).1 = v := ⟨(rv B 0 0).1.toNat, by omega⟩
  obtain ⟨k, hk⟩ : ∃ k : Nat, (rv B 0 0).2.1 = k := ⟨(rv B 0 0).2.1.toNat, by omega⟩
  obtain ⟨e3, he3⟩ : ∃ e3, (rv B 0 0).2.2 = e3 := ⟨_, rfl⟩
  have HE : Hid (rvEnd (rv B 0 0) = .returned (.tuple #[.int .u64 (v : Int), .int .i64 (k : Int), .int .i64 e3])) := by
    show _ = _
    unfold rvEnd
    rw [hv, hk, he3]
  rw [hv, hk, he3] at HC
  rw [hv] at hv1
  rw [hk] at hn1
  have hkl : k ≤ B.length := by omega
  have HB1 : Hid (Below w.heap.size w w1) := hb1
  have hsz : (strOfNums B).size = B.length := strOfNums_size B
  have HX1 : Hid (v ≤ B.length - k → (strOfNums B).extract k (k + v) = strOfNums ((B.drop k).take v)) := fun h => by
    rw [extract_nums]
    congr 1
    first | (rw [show k + v - k = v by omega]) | (rw [List.drop_take, show k + v - k = v by omega]) | rfl
  have HX2 : Hid (v ≤ B.length - k → (strOfNums B).extract (k + v) (strOfNums B).size = strOfNums ((B.drop k).drop v)) := fun h => by
    rw [extract_nums, hsz, List.drop_drop]
    congr 1
    first | (rw [List.take_of_length_le (by rw [List.length_drop]; omega)]) | (rw [List.take_of_length_le (Nat.le_refl _)])
  have w9 : IntKind.i64.wrap ((B.length : Int) - (k : Int)) = ((B.length - k : Nat) : Int) := by rw [IntKind.wrap_i64]; omega
  have w8 : IntKind.u64.wrap ((B.length - k : Nat) : Int) = ((B.length - k : Nat) : Int) := by rw [IntKind.wrap_u64]; omega
  obtain ⟨X, hX⟩ : ∃ X, cutB B = X := ⟨_, rfl⟩
  rw [hX] at HC ⊢
  clear hB hh hb1 hv hk he3 hX hv0 hn0
  generalize rv B 0 0 = rvv at *
  obtain ⟨q, hq⟩ : ∃ q, B.length - k = q := ⟨_, rfl⟩
  rw [hq] at w9 w8 HX1 HX2
  have HQ : Hid ((B.length : Int) - (k : Int) = (q : Int)) := by show _ = _; omega
  rw [HQ.out] at HC
  have hqk : k + q = B.length := by omega
  clear hq
  obtain ⟨n, hn⟩ : ∃ n, B.length = n := ⟨_, rfl⟩
  rw [hn] at *
  have HTN : Hid (((k : Int)).toNat = k ∧ ((v : Int)).toNat = v) := ⟨by omega, by omega⟩
  rw [HTN.out.1, HTN.out.2] at HC
  clear HTN hn
  generalize hst : strOfNums B = st at *
  clear hst
  by_cases h0 : e3 = 0
  · subst h0
    by_cases h1 : q < v
    · have HX : Hid (X = none) := by show _ = _; rw [HC.out, if_pos (.inr (by omega))]
      have t1 : decide ((q : Int) < (v : Int)) = true := by rw [decide_eq_true_eq]; omega
      have t2 : decide (q < v) = true := by rw [decide_eq_true_eq]; omega
      clear HC HX1 HX2
      go_enter Tryz.func68, Tryz.ntmps68
      go_wp2_with fail
      refine KR.out.mono ?_
      rintro e w2 ⟨he, rfl⟩
      rw [HE.out] at he
      subst he
      go_wp2_with fail
      go_ret3
      exact ⟨by rw [HX.out]; rfl, HB1.out⟩
    · have HX : Hid (cutE X = .returned (.tuple #[.string (st.extract k (k + v)), .string (st.extract (k + v) st.size), .bool true])) := by
        show _ = _
        rw [HC.out, if_neg (by omega)]
        unfold cutE
        simp only
        rw [← HX1.out (by omega), ← HX2.out (by omega)]
      have t1 : decide ((q : Int) < (v : Int)) = false := by rw [decide_eq_false_iff_not]; omega
      have t2 : decide (q < v) = false := by rw [decide_eq_false_iff_not]; omega
      have w7 : IntKind.i64.wrap (v : Int) = (v : Int) := by rw [IntKind.wrap_i64]; omega
      have w6 : IntKind.i64.wrap ((k : Int) + (v : Int)) = ((k + v : Nat) : Int) := by rw [IntKind.wrap_i64]; omega
      have hkv : k + v ≤ st.size := by omega
      clear HC HX1 HX2
      go_enter Tryz.func68, Tryz.ntmps68
      go_wp2_with fail
      refine KR.out.mono ?_
      rintro e w2 ⟨he, rfl⟩
      rw [HE.out] at he
      subst he
      go_wp2_with fail
      go_quiet (fail)
      go_wp2_with fail
      go_ret3
      exact ⟨by rw [HX.out]; first | rfl | (rw [hsz]; rfl), below_drewN HB1.out _⟩
  · have HX : Hid (X = none) := by show _ = _; rw [HC.out, if_pos (.inl h0)]
    have e1 : (e3 != 0) = true := by simp [bne, h0]
    clear HC HX1 HX2
    go_enter Tryz.func68, Tryz.ntmps68
    go_wp2_with fail
    refine KR.out.mono ?_
    rintro e w2 ⟨he, rfl⟩
    rw [HE.out] at he
    subst he
    go_wp2_with fail
    go_ret3
    exact ⟨by rw [HX.out]; rfl, HB1.out⟩
theorem cutB_bytes {B k m : List Int} (hB : IsBytes B) (h : cutB B = some (k, m)) : IsBytes k ∧ IsBytes m ∧ k.length + m.length ≤ B.length := by
  unfold cutB at h
  split at h
  · cases h
  · obtain ⟨rfl, rfl⟩ := Prod.mk.inj (Option.some.inj h)
    refine ⟨take_bytes (drop_bytes hB _) _, drop_bytes (drop_bytes hB _) _, ?_⟩
    simp only [List.length_take, List.length_drop]
    omega
/-- Decode's answer -/
def RdcSaid (base : Nat) (o : Option (List Pt)) (e : Ending) (w' : World) : Prop := match o with
  | some l => ∃ v, e = .returned (.tuple #[v, .int .i64 0]) ∧ OwnP w' base v l
  | none => e = .returned (.tuple #[.slice none 0 0, .int .i64 5])
theorem oneB_len {B : List Int} {x : Pt} {r : List Int} (hB : IsBytes B) (hne : B ≠ []) (h : oneB B = some (x, r)) : IsBytes r ∧ r.length < B.length ∧ x.k.size ≤ B.length ∧ x.v.size ≤ B.length := by
  cases B with
  | nil => exact absurd rfl hne
  | cons b B =>
    have hB' : IsBytes B := bytes_of_mem fun y hy => bytes_mem hB y (by simp [hy])
    unfold oneB at h
    rw [List.tail_cons] at h
    cases hc : cutB B with
    | none => rw [hc] at h; cases h
    | some p =>
      obtain ⟨k, m⟩ := p
      obtain ⟨g1, g2, g3⟩ := cutB_bytes hB' hc
      rw [hc] at h
      simp only at h
      split at h
      · obtain ⟨rfl, rfl⟩ := Prod.mk.inj (Option.some.inj h)
        refine ⟨g2, by rw [List.length_cons]; omega, ?_, ?_⟩
        · show (strOfNums k).size ≤ _
          rw [strOfNums_size, List.length_cons]; omega
        · show 0 ≤ _
          omega
      · cases hd : cutB m with
        | none => rw [hd] at h; cases h
        | some p2 =>
          obtain ⟨v, m2⟩ := p2
          obtain ⟨g4, g5, g6⟩ := cutB_bytes g2 hd
          rw [hd] at h
          simp only at h
          obtain ⟨rfl, rfl⟩ := Prod.mk.inj (Option.some.inj h)
          refine ⟨g5, by rw [List.length_cons]; omega, ?_, ?_⟩
          · show (strOfNums k).size ≤ _
            rw [strOfNums_size, List.length_cons]; omega
          · show (strOfNums v).size ≤ _
            rw [strOfNums_size, List.length_cons]; omega
theorem allB_step {f : Nat} {B : List Int} (h : B ≠ []) : allB (f + 1) B = match oneB B with | none => none | some (x, r) => (allB f r).map (x :: ·) := by rw [allB, if_neg h]; rfl
theorem allB_fuel : ∀ (f g : Nat) (B : List Int), IsBytes B → B.length ≤ f → B.length ≤ g → allB f B = allB g B
  | 0, g, B, _, h1, _ => by
    obtain rfl := List.length_eq_zero_iff.1 (Nat.le_zero.1 h1)
    cases g <;> rfl
  | f + 1, 0, B, _, _, h2 => by
    obtain rfl := List.length_eq_zero_iff.1 (Nat.le_zero.1 h2)
    rfl
  | f + 1, g + 1, B, hB, h1, h2 => by
    by_cases hne : B = []
    · subst hne; rfl
    · rw [allB_step hne, allB_step hne]
      cases ho : oneB B with
      | none => rfl
      | some p =>
        obtain ⟨x, r⟩ := p
        have hr := oneB_len hB hne ho
        show (allB f r).map (x :: ·) = (allB g r).map (x :: ·)
        rw [allB_fuel f g r hr.1 (by omega) (by omega)]
end Go.Proofs.YtcindeechmpalaaGreat
namespace Go.Proofs.YtcindeechmpalaaGreat
open Go.ChangeShapes Go.WideShapes Go.ChangeAt Go.RowKit Go.Deep
set_option linter.unusedVariables false
set_option linter.unusedSimpArgs false
theorem tail_str (b : Int) (r : List Int) : (strOfNums (b :: r)).extract 1 (strOfNums (b :: r)).size = strOfNums r := by
  rw [extract_nums, strOfNums_size, List.take_of_length_le (Nat.le_refl _)]
  rfl
theorem oneB_cons (b : Int) (r : List Int) : oneB (b :: r) = match cutB r with
  | none => none
  | some (k, more) => if b = 1 then some (⟨strOfNums k, ⟨#[]⟩, true⟩, more) else match cutB more with
    | none => none
    | some (v, more2) => some (⟨strOfNums k, strOfNums v, false⟩, more2) := by
  unfold oneB
  rw [List.tail_cons, List.head?_cons]
  cases cutB r with
  | none => rfl
  | some p =>
    by_cases h : b = 1
    · simp [h]
    · simp [h] <;> cases cutB p.2 <;> rfl
set_option maxRecDepth 100000 in
set_option maxHeartbeats 8000000 in
theorem rDecode_is (B : List Int) (hB : IsBytes B) (hl : B.length ≤ 1000000000) (w : World) : Calls Tryz.prog 27 #[.string (strOfNums B)] w fun e w' => RdcSaid w.heap.size (decA B) e w' ∧ Below w.heap.size w w' := by
  have HDE : Hid (decA B = dcB B) := (dcB_eq B).symm
  rw [HDE.out]
  have HBB : Hid (IsBytes B) := hB
  have HDB : Hid (dcB B = if B = [] then none else match allB B.length B.tail with | none => none | some l => if encA l = (0, B) then some l else none) := rfl
  have HRN : Hid (∀ e w', RdcSaid w.heap.size none e w' = (e = .returned (.tuple #[.slice none 0 0, .int .i64 5]))) := fun _ _ => rfl
  have HRS : Hid (∀ l v w', OwnP w' w.heap.size v l → RdcSaid w.heap.size (some l) (.returned (.tuple #[v, .int .i64 0])) w') := fun l v w' h => ⟨v, rfl, h⟩
  cases B with
  | nil =>
    have HX : Hid (dcB [] = none) := rfl
    have es : strOfNums ([] : List Int) = ⟨#[]⟩ := rfl
    rw [HX.out, es]
    clear HDE HDB HRS
    go_enter Tryz.func27, Tryz.ntmps27
    go_wp2_with fail
    go_ret2
    exact ⟨rfl, Below.refl _ _⟩
  | cons b0 B0 =>
    rw [if_neg (by simp), List.tail_cons] at HDB
    obtain ⟨X, hX⟩ : ∃ X, dcB (b0 :: B0) = X := ⟨_, rfl⟩
    rw [hX] at HDB ⊢
    have hB0 : IsBytes B0 := bytes_of_mem fun y hy => bytes_mem hB y (by simp [hy])
    have HT : Hid ((strOfNums (b0 :: B0)).extract 1 (strOfNums (b0 :: B0)).size = strOfNums B0) := tail_str b0 B0
    have hsz : (strOfNums (b0 :: B0)).size = B0.length + 1 := by rw [strOfNums_size, List.length_cons]
    rw [List.length_cons] at hl
    have HFU : Hid (allB (b0 :: B0).length B0 = allB B0.length B0) := allB_fuel _ _ B0 hB0 (by rw [List.length_cons]; omega) (Nat.le_refl _)
    rw [HFU.out] at HDB
    obtain ⟨stB, hstB⟩ : ∃ stB, strOfNums (b0 :: B0) = stB := ⟨_, rfl⟩
    rw [hstB] at HT hsz ⊢
    have HSB : Hid (strOfNums (b0 :: B0) = stB) := hstB
    obtain ⟨st0, hst0⟩ : ∃ st0, strOfNums B0 = st0 := ⟨_, rfl⟩
    rw [hst0] at HT
    have HS0 : Hid (strOfNums B0 = st0) := hst0
    rw [hsz] at HT
    have ht0 : stB.extract 1 (B0.length + 1) = st0 := HT.out
    obtain ⟨nB, hnB⟩ : ∃ nB, B0.length = nB := ⟨_, rfl⟩
    have HNB : Hid (B0.length = nB) := hnB
    rw [hnB] at hsz ht0 hl
    have HB0 : Hid (IsBytes B0) := hB0
    obtain ⟨h, hh⟩ : ∃ h, h = w.heap.size := ⟨_, rfl⟩
    have HH : Hid (h = w.heap.size) := hh
    clear hX hB hB0 HT HFU hstB hst0 hnB hh HDE
    go_enter Tryz.func27, Tryz.ntmps27
    go_wp2_with fail
    go_loopg [4, 5] nB (fun gg V S wr => ∃ (D : List Pt) (r : List Int) (st : ByteArray), gg = r.length ∧ S = .string st ∧ D.length + r.length ≤ nB ∧ Hid (st = strOfNums r ∧ IsBytes r ∧ OwnP wr h V D ∧ allB B0.length B0 = (allB r.length r).map (D ++ ·) ∧ (∀ x ∈ D, x.k.size ≤ nB ∧ x.v.size ≤ nB) ∧ Below h w wr))
    case atStart => exact ⟨[], B0, st0, HNB.out.symm, rfl, by simp [HNB.out], HS0.out.symm, HB0.out, OwnP.nil _ _, by cases allB B0.length B0 <;> simp, fun x hx => (by cases hx), by rw [HH.out]; exact Below.refl _ _⟩
    case round =>
      obtain ⟨D, r, st, rfl, rfl, hDr, RW⟩ := hrel
      have hsw : h ≤ wr.heap.size := by rw [HH.out]; exact RW.out.2.2.2.2.2.size
      cases r with
      | nil =>
        have hse : st = ⟨#[]⟩ := RW.out.1
        subst hse
        have HXL : Hid (X = if encA D = (0, b0 :: B0) then some D else none) := by
          show _ = _
          rw [HDB.out, RW.out.2.2.2.1]
          show (match (some (D ++ [])) with | none => none | some l => if encA l = (0, b0 :: B0) then some l else none) = _
          rw [List.append_nil]
        obtain ⟨aD, cD, hVD, hiD, _⟩ := RW.out.2.2.1.slice
        have KE : Hid (Calls Tryz.prog 25 #[.slice aD D.length cD] wr fun e w' => e = .returned (.tuple #[.string (strOfNums (encA D).2), .int .i64 (encA D).1]) ∧ Below wr.heap.size wr w') := rEncode_is D D.length rfl (by omega) (fun x hx => by have := RW.out.2.2.2.2.1 x hx; omega) aD cD wr hiD
        have HEB : Hid ((encA D).1 = 0 → IsBytes (encA D).2) := fun e => (encA_bytes (B := (encA D).2) (by rw [← e])).1
        have OD : Hid (OwnP wr h (.slice aD D.length cD) D ∧ Below h w wr) := ⟨by rw [← hVD]; exact RW.out.2.2.1, RW.out.2.2.2.2.2⟩
        clear RW hiD
        subst hVD
        generalize encA D = R at *
        obtain ⟨R1, R2⟩ := R
        simp only at KE HEB
        have HCMP : Hid (R1 = 0 → ((strOfNums R2).toList == stB.toList) = decide (R2 = b0 :: B0)) := fun e => by rw [← HSB.out]; exact str_eq R2 (b0 :: B0) (fun x hx => bytes_mem (HEB.out e) x hx) (fun x hx => bytes_mem HBB.out x hx)
        obtain ⟨s2, hs2⟩ : ∃ s2, strOfNums R2 = s2 := ⟨_, rfl⟩
        rw [hs2] at KE HCMP
        have HS2 : Hid (strOfNums R2 = s2) := hs2
        clear hs2
        by_cases h0 : R1 = 0
        · subst h0
          by_cases h1 : R2 = b0 :: B0
          · have HXS : Hid (X = some D) := by show _ = _; rw [HXL.out, if_pos (by rw [h1])]
            have e1 : s2 = stB := by rw [← HS2.out, ← HSB.out, h1]
            clear h1 HCMP HS2
            subst e1
            go_wp2_with fail
            refine KE.out.mono ?_
            rintro e w2 ⟨rfl, hb2⟩
            have F2 : Hid (OwnP w2 w.heap.size (.slice aD D.length cD) D ∧ Below w.heap.size w w2) := by rw [← HH.out]; exact ⟨OD.out.1.keep hb2, OD.out.2.trans (hb2.mono hsw)⟩
            clear hb2
            go_wp2_with fail
            go_ret2
            rw [HXS.out]
            exact ⟨HRS.out _ _ _ F2.out.1, F2.out.2⟩
          · have HXS : Hid (X = none) := by show _ = _; rw [HXL.out, if_neg (fun e => h1 (Prod.mk.inj e).2)]
            have e1 : (s2.toList == stB.toList) = false := by rw [HCMP.out rfl]; simp [h1]
            have e2 : (s2.toList != stB.toList) = true := by simp [bne, e1]
            have e3 : ¬ s2.toList = stB.toList := by simpa using e1
            clear h1 HCMP HS2
            go_wp2_with fail
            refine KE.out.mono ?_
            rintro e w2 ⟨rfl, hb2⟩
            have F2 : Hid (Below w.heap.size w w2) := by rw [← HH.out]; exact OD.out.2.trans (hb2.mono hsw)
            clear hb2
            go_wp2_with fail
            go_ret2
            rw [HXS.out]
            exact ⟨rfl, F2.out⟩
        · have HXS : Hid (X = none) := by show _ = _; rw [HXL.out, if_neg (fun e => h0 (Prod.mk.inj e).1)]
          have e1 : (R1 != 0) = true := by simp [bne, h0]
          have e2 : (R1 == 0) = false := by simp [h0]
          clear HCMP HS2
          go_wp2_with fail
          refine KE.out.mono ?_
          rintro e w2 ⟨rfl, hb2⟩
          have F2 : Hid (Below w.heap.size w w2) := by rw [← HH.out]; exact OD.out.2.trans (hb2.mono hsw)
          clear hb2
          go_wp2_with fail
          go_ret2
          rw [HXS.out]
          exact ⟨rfl, F2.out⟩
      | cons b r =>
        have hrb : IsBytes r := bytes_of_mem fun y hy => bytes_mem RW.out.2.1 y (by simp [hy])
        have hb255 := bytes_mem RW.out.2.1 b (by simp)
        have hidx : ∀ W : World, (Instr.index 9 (.string st) (.int .i64 0)).run Tryz.prog W = .ok (.int .u8 b) W := fun W => by
          rw [RW.out.1]
          exact run_index_nums (b :: r) 0 (by simp) RW.out.2.1 W
        have hst1 : st.size = r.length + 1 := by rw [RW.out.1, strOfNums_size, List.length_cons]
        have ht1 : st.extract 1 (r.length + 1) = strOfNums r := by rw [← hst1, RW.out.1]; exact tail_str b r
        rw [List.length_cons] at hDr
        have KC : Hid (∀ W, Calls Tryz.prog 68 #[.string (strOfNums r)] W fun e w' => e = cutE (cutB r) ∧ Below W.heap.size W w') := fun W => rcut_is r hrb (by omega) W
        have HAL : Hid (allB B0.length B0 = (match oneB (b :: r) with | none => none | some (x, r2) => (allB r.length r2).map (x :: ·)).map (D ++ ·)) := by
          show _ = _
          (rw [RW.out.2.2.2.1, List.length_cons, allB_step (by simp)]) <;> rfl
        have HON : Hid (∀ x r2, oneB (b :: r) = some (x, r2) → IsBytes r2 ∧ r2.length ≤ r.length ∧ x.k.size ≤ r.length + 1 ∧ x.v.size ≤ r.length + 1) := fun x r2 ho => by
          have := oneB_len RW.out.2.1 (by simp) ho
          rw [List.length_cons] at this
          exact ⟨this.1, by omega, this.2.2.1, this.2.2.2⟩
        rw [oneB_cons] at HAL HON
        have RD : Hid (OwnP wr h u4 D ∧ (∀ x ∈ D, x.k.size ≤ nB ∧ x.v.size ≤ nB) ∧ Below h w wr) := ⟨RW.out.2.2.1, RW.out.2.2.2.2.1, RW.out.2.2.2.2.2⟩
        generalize u4 = V at *
        have HOV : Hid (∀ k, V.ownBlock = some k → h ≤ k ∧ k < wr.heap.size) := fun k hk => RD.out.1.own k hk
        obtain ⟨sr, hsr⟩ : ∃ sr, strOfNums r = sr := ⟨_, rfl⟩
        rw [hsr] at ht1 KC
        obtain ⟨m, hm⟩ : ∃ m, r.length = m := ⟨_, rfl⟩
        have HMM : Hid (r.length = m) := hm
        rw [hm] at hst1 ht1 hDr HON HAL
        clear RW hsr hm
        have KM : Hid (∀ k2 m2, cutB r = some (k2, m2) → ∀ W, Calls Tryz.prog 68 #[.string (strOfNums m2)] W fun e w' => e = cutE (cutB m2) ∧ Below W.heap.size W w') := fun k2 m2 hc W => by
          have := cutB_bytes hrb hc
          exact rcut_is m2 this.2.1 (by have := HMM.out; omega) W
        clear hrb
        by_cases hb1 : b = 1
        · subst hb1
          obtain ⟨bx, hbx⟩ : ∃ bx, wr.heap.size = bx := ⟨_, rfl⟩
          obtain ⟨u1, hu1⟩ : ∃ u1, wr.alloc (.cells #[.string ⟨#[]⟩, .string ⟨#[]⟩, .bool true] 45) = u1 := ⟨_, rfl⟩
          have U1E : Hid (wr.alloc (.cells #[.string ⟨#[]⟩, .string ⟨#[]⟩, .bool true] 45) = u1 ∧ wr.heap.size = bx) := ⟨hu1, hbx⟩
          have X1 : Hid (u1.heap[bx]? = some (.cells #[.string ⟨#[]⟩, .string ⟨#[]⟩, .bool true] 45) ∧ bx < u1.heap.size ∧ h ≤ bx) := ⟨by rw [← hu1, ← hbx]; exact heap_alloc_new wr _, by rw [← hu1, ← hbx]; simp, by omega⟩
          have O1 : Hid (OwnP u1 h V D ∧ Below h w u1) := ⟨by rw [← hu1]; exact RD.out.1.keep (below1 _ _), by rw [← hu1]; exact RD.out.2.2.alloc hsw _⟩
          have K1 : Hid (Calls Tryz.prog 68 #[.string sr] u1 fun e w' => e = cutE (cutB r) ∧ Below u1.heap.size u1 w') := KC.out u1
          clear hu1 hbx KC
          go_wp2_with fail
          rw [show World.alloc wr _ = u1 from U1E.out.1, U1E.out.2]
          refine K1.out.mono ?_
          rintro e u3 ⟨he, hb3⟩
          have X3 : Hid (u3.heap[bx]? = some (.cells #[.string ⟨#[]⟩, .string ⟨#[]⟩, .bool true] 45) ∧ bx < u3.heap.size) := ⟨(hb3.block bx X1.out.2.1).trans X1.out.1, Nat.lt_of_lt_of_le X1.out.2.1 hb3.size⟩
          have O3 : Hid (OwnP u3 h V D ∧ Below h w u3) := ⟨O1.out.1.keep hb3, O1.out.2.trans (hb3.mono (by have := X1.out.2; omega))⟩
          clear hb3 K1
          cases hcut : cutB r with
          | none =>
            rw [hcut] at he HAL
            have he2 : e = .returned (.tuple #[.string ⟨#[]⟩, .string ⟨#[]⟩, .bool false]) := he
            subst he2
            clear he hcut
            have BN : Hid (Below h w u3) := O3.out.2
            have HXS : Hid (X = none) := by
              show _ = _
              rw [HDB.out, HAL.out]
              rfl
            go_wp2_with fail
            go_ret2
            rw [HXS.out]
            exact ⟨rfl, by rw [← HH.out]; exact BN.out⟩
          | some p =>
            obtain ⟨k2, m2⟩ := p
            have KM2 := KM.out k2 m2 hcut
            rw [hcut] at he HAL HON
            simp only at HAL HON
            have he2 : e = .returned (.tuple #[.string (strOfNums k2), .string (strOfNums m2), .bool true]) := he
            subst he2
            clear he hcut KM
            have HKM : Hid (∀ W, Calls Tryz.prog 68 #[.string (strOfNums m2)] W fun e w' => e = cutE (cutB m2) ∧ Below W.heap.size W w') := KM2
            clear KM2
            obtain ⟨xk, hxk⟩ : ∃ xk, strOfNums k2 = xk := ⟨_, rfl⟩
            obtain ⟨sm, hsm⟩ : ∃ sm, strOfNums m2 = sm := ⟨_, rfl⟩
            have HSM : Hid (strOfNums m2 = sm) := hsm
            rw [hxk] at HAL HON ⊢
            rw [hsm] at HKM ⊢
            clear hxk hsm
            obtain ⟨p0, p1, p2⟩ := pc_cells (x := ⟨⟨#[]⟩, ⟨#[]⟩, true⟩) X3.out.1
            have fz : ∀ i, u3.frozen? ⟨bx, i, none⟩ = false := fun i => by rw [World.frozen?, X3.out.1]; simp
            obtain ⟨u4, hu4⟩ : ∃ u4, u3.setCell ⟨bx, 0, none⟩ (.string xk) = u4 := ⟨_, rfl⟩
            have X4 : Hid (u4.heap[bx]? = some (.cells #[.string xk, .string ⟨#[]⟩, .bool true] 45) ∧ bx < u4.heap.size) := ⟨by rw [← hu4]; exact pset3 _ X3.out.1, by rw [← hu4]; simp; exact X3.out.2⟩
            have O4 : Hid (OwnP u4 h V D ∧ Below h w u4) := ⟨O3.out.1.kept fun k hk => by rw [← hu4]; exact set_offK _ _ _ _ _ (fun e => by have := (HOV.out k hk).2; have := U1E.out.2; omega), by rw [← hu4]; exact O3.out.2.setCell (p := ⟨bx, 0, none⟩) X1.out.2.2 _⟩
            obtain ⟨r0, r1, r2⟩ := pc_cells (x := ⟨xk, ⟨#[]⟩, true⟩) X4.out.1
            rw [if_pos trivial] at HAL HON
            obtain ⟨u8, hu8⟩ : ∃ u8, u4.alloc (.cells #[.string xk, .string ⟨#[]⟩, .bool true] 45) = u8 := ⟨_, rfl⟩
            have X8 : Hid (u8.heap[u4.heap.size]? = some (.cells (pC ⟨xk, ⟨#[]⟩, true⟩) 45) ∧ h ≤ u8.heap.size) := ⟨by rw [← hu8]; exact heap_alloc_new u4 _, by rw [← hu8]; simp; have := X4.out.2; have := X1.out.2.2; omega⟩
            have O8 : Hid (OwnP u8 h V D ∧ Below h w u8) := ⟨by rw [← hu8]; exact O4.out.1.keep (below1 _ _), by rw [← hu8]; exact O4.out.2.alloc (by have := X4.out.2; have := X1.out.2.2; omega) _⟩
            have HDL : Hid (D.length ≤ 1000000000) := by show _ ≤ _; omega
            have HON2 : Hid (IsBytes m2 ∧ m2.length ≤ m ∧ xk.size ≤ m + 1 ∧ ((⟨#[]⟩ : ByteArray)).size ≤ m + 1) := HON.out ⟨xk, ⟨#[]⟩, true⟩ m2 rfl
            go_wp2_with (at_builtin; refine append_put rfl (.tmp 53) (.tmp 55) rfl h V D rfl O8.out.1 u4.heap.size 1 ⟨xk, ⟨#[]⟩, true⟩ rfl X8.out.1 HDL.out X8.out.2 ?_; intro v9 u9 ho9 hg9; have O9 : Hid (OwnP u9 h v9 (D ++ [⟨xk, ⟨#[]⟩, true⟩]) ∧ Below h w u9) := ⟨ho9, O8.out.2.grown hg9 X8.out.2 (fun k hk => (HOV.out k hk).1)⟩; clear ho9 hg9)
            go_roundg m2.length
            case measure => have := HON2.out.2.1; have := HMM.out; simp only [List.length_cons]; omega
            case rel =>
              refine ⟨D ++ [⟨xk, ⟨#[]⟩, true⟩], m2, sm, rfl, rfl, by rw [List.length_append]; have := HON2.out.2.1; show D.length + 1 + _ ≤ _; omega, HSM.out.symm, HON2.out.1, O9.out.1, ?_, fun y hy => ?_, O9.out.2⟩
              · rw [HAL.out, allB_fuel m m2.length m2 HON2.out.1 HON2.out.2.1 (Nat.le_refl _)]
                cases allB m2.length m2 <;> simp
              · rcases List.mem_append.1 hy with hy | hy
                · exact RD.out.2.1 y hy
                · have hy2 : y = ⟨xk, ⟨#[]⟩, true⟩ := by simpa using hy
                  rw [hy2]
                  have := HON2.out.2.2
                  exact ⟨by show xk.size ≤ nB; omega, by show ((⟨#[]⟩ : ByteArray)).size ≤ nB; omega⟩
        · have e1 : (b == 1) = false := by simp [hb1]
          have e1' : ¬ b = 1 := hb1
          obtain ⟨bx, hbx⟩ : ∃ bx, wr.heap.size = bx := ⟨_, rfl⟩
          obtain ⟨u1, hu1⟩ : ∃ u1, wr.alloc (.cells #[.string ⟨#[]⟩, .string ⟨#[]⟩, .bool false] 45) = u1 := ⟨_, rfl⟩
          have U1E : Hid (wr.alloc (.cells #[.string ⟨#[]⟩, .string ⟨#[]⟩, .bool false] 45) = u1 ∧ wr.heap.size = bx) := ⟨hu1, hbx⟩
          have X1 : Hid (u1.heap[bx]? = some (.cells #[.string ⟨#[]⟩, .string ⟨#[]⟩, .bool false] 45) ∧ bx < u1.heap.size ∧ h ≤ bx) := ⟨by rw [← hu1, ← hbx]; exact heap_alloc_new wr _, by rw [← hu1, ← hbx]; simp, by omega⟩
          have O1 : Hid (OwnP u1 h V D ∧ Below h w u1) := ⟨by rw [← hu1]; exact RD.out.1.keep (below1 _ _), by rw [← hu1]; exact RD.out.2.2.alloc hsw _⟩
          have K1 : Hid (Calls Tryz.prog 68 #[.string sr] u1 fun e w' => e = cutE (cutB r) ∧ Below u1.heap.size u1 w') := KC.out u1
          clear hu1 hbx KC
          go_wp2_with fail
          rw [show World.alloc wr _ = u1 from U1E.out.1, U1E.out.2]
          refine K1.out.mono ?_
          rintro e u3 ⟨he, hb3⟩
          have X3 : Hid (u3.heap[bx]? = some (.cells #[.string ⟨#[]⟩, .string ⟨#[]⟩, .bool false] 45) ∧ bx < u3.heap.size) := ⟨(hb3.block bx X1.out.2.1).trans X1.out.1, Nat.lt_of_lt_of_le X1.out.2.1 hb3.size⟩
          have O3 : Hid (OwnP u3 h V D ∧ Below h w u3) := ⟨O1.out.1.keep hb3, O1.out.2.trans (hb3.mono (by have := X1.out.2; omega))⟩
          clear hb3 K1
          cases hcut : cutB r with
          | none =>
            rw [hcut] at he HAL
            have he2 : e = .returned (.tuple #[.string ⟨#[]⟩, .string ⟨#[]⟩, .bool false]) := he
            subst he2
            clear he hcut
            have BN : Hid (Below h w u3) := O3.out.2
            have HXS : Hid (X = none) := by
              show _ = _
              rw [HDB.out, HAL.out]
              rfl
            go_wp2_with fail
            go_ret2
            rw [HXS.out]
            exact ⟨rfl, by rw [← HH.out]; exact BN.out⟩
          | some p =>
            obtain ⟨k2, m2⟩ := p
            have KM2 := KM.out k2 m2 hcut
            rw [hcut] at he HAL HON
            simp only at HAL HON
            have he2 : e = .returned (.tuple #[.string (strOfNums k2), .string (strOfNums m2), .bool true]) := he
            subst he2
            clear he hcut KM
            have HKM : Hid (∀ W, Calls Tryz.prog 68 #[.string (strOfNums m2)] W fun e w' => e = cutE (cutB m2) ∧ Below W.heap.size W w') := KM2
            clear KM2
            obtain ⟨xk, hxk⟩ : ∃ xk, strOfNums k2 = xk := ⟨_, rfl⟩
            obtain ⟨sm, hsm⟩ : ∃ sm, strOfNums m2 = sm := ⟨_, rfl⟩
            have HSM : Hid (strOfNums m2 = sm) := hsm
            rw [hxk] at HAL HON ⊢
            rw [hsm] at HKM ⊢
            clear hxk hsm
            obtain ⟨p0, p1, p2⟩ := pc_cells (x := ⟨⟨#[]⟩, ⟨#[]⟩, false⟩) X3.out.1
            have fz : ∀ i, u3.frozen? ⟨bx, i, none⟩ = false := fun i => by rw [World.frozen?, X3.out.1]; simp
            obtain ⟨u4, hu4⟩ : ∃ u4, u3.setCell ⟨bx, 0, none⟩ (.string xk) = u4 := ⟨_, rfl⟩
            have X4 : Hid (u4.heap[bx]? = some (.cells #[.string xk, .string ⟨#[]⟩, .bool false] 45) ∧ bx < u4.heap.size) := ⟨by rw [← hu4]; exact pset3 _ X3.out.1, by rw [← hu4]; simp; exact X3.out.2⟩
            have O4 : Hid (OwnP u4 h V D ∧ Below h w u4) := ⟨O3.out.1.kept fun k hk => by rw [← hu4]; exact set_offK _ _ _ _ _ (fun e => by have := (HOV.out k hk).2; have := U1E.out.2; omega), by rw [← hu4]; exact O3.out.2.setCell (p := ⟨bx, 0, none⟩) X1.out.2.2 _⟩
            obtain ⟨r0, r1, r2⟩ := pc_cells (x := ⟨xk, ⟨#[]⟩, false⟩) X4.out.1
            have K4 : Hid (Calls Tryz.prog 68 #[.string sm] u4 fun e w' => e = cutE (cutB m2) ∧ Below u4.heap.size u4 w') := HKM.out u4
            clear HKM
            go_wp2_with fail
            refine K4.out.mono ?_
            rintro e u5 ⟨he, hb5⟩
            have X5 : Hid (u5.heap[bx]? = some (.cells #[.string xk, .string ⟨#[]⟩, .bool false] 45) ∧ bx < u5.heap.size) := ⟨(hb5.block bx X4.out.2).trans X4.out.1, Nat.lt_of_lt_of_le X4.out.2 hb5.size⟩
            have O5 : Hid (OwnP u5 h V D ∧ Below h w u5) := ⟨O4.out.1.keep hb5, O4.out.2.trans (hb5.mono (by have := X4.out.2; have := X1.out.2.2; omega))⟩
            clear hb5 K4 r0 r1 r2 p0 p1 p2 fz hu4
            rw [if_neg hb1] at HAL HON
            cases hcut2 : cutB m2 with
            | none =>
              rw [hcut2] at he HAL
              have he2 : e = .returned (.tuple #[.string ⟨#[]⟩, .string ⟨#[]⟩, .bool false]) := he
              subst he2
              clear he hcut2
              have BN : Hid (Below h w u5) := O5.out.2
              have HXS : Hid (X = none) := by
                show _ = _
                rw [HDB.out, HAL.out]
                rfl
              go_wp2_with fail
              go_ret2
              rw [HXS.out]
              exact ⟨rfl, by rw [← HH.out]; exact BN.out⟩
            | some p =>
              obtain ⟨v2, m3⟩ := p
              rw [hcut2] at he HAL HON
              simp only at HAL HON
              have he2 : e = .returned (.tuple #[.string (strOfNums v2), .string (strOfNums m3), .bool true]) := he
              subst he2
              clear he hcut2
              obtain ⟨xv, hxv⟩ : ∃ xv, strOfNums v2 = xv := ⟨_, rfl⟩
              obtain ⟨sm3, hsm3⟩ : ∃ sm3, strOfNums m3 = sm3 := ⟨_, rfl⟩
              have HSM3 : Hid (strOfNums m3 = sm3) := hsm3
              rw [hxv] at HAL HON ⊢
              rw [hsm3]
              clear hxv hsm3
              obtain ⟨p0, p1, p2⟩ := pc_cells (x := ⟨xk, ⟨#[]⟩, false⟩) X5.out.1
              have fz : ∀ i, u5.frozen? ⟨bx, i, none⟩ = false := fun i => by rw [World.frozen?, X5.out.1]; simp
              obtain ⟨u6, hu6⟩ : ∃ u6, u5.setCell ⟨bx, 1, none⟩ (.string xv) = u6 := ⟨_, rfl⟩
              have X6 : Hid (u6.heap[bx]? = some (.cells #[.string xk, .string xv, .bool false] 45) ∧ bx < u6.heap.size) := ⟨by rw [← hu6]; exact pset31 _ X5.out.1, by rw [← hu6]; simp; exact X5.out.2⟩
              have O6 : Hid (OwnP u6 h V D ∧ Below h w u6) := ⟨O5.out.1.kept fun k hk => by rw [← hu6]; exact set_offK _ _ _ _ _ (fun e => by have := (HOV.out k hk).2; have := U1E.out.2; omega), by rw [← hu6]; exact O5.out.2.setCell (p := ⟨bx, 1, none⟩) X1.out.2.2 _⟩
              obtain ⟨r0, r1, r2⟩ := pc_cells (x := ⟨xk, xv, false⟩) X6.out.1
              obtain ⟨u8, hu8⟩ : ∃ u8, u6.alloc (.cells #[.string xk, .string xv, .bool false] 45) = u8 := ⟨_, rfl⟩
              have X8 : Hid (u8.heap[u6.heap.size]? = some (.cells (pC ⟨xk, xv, false⟩) 45) ∧ h ≤ u8.heap.size) := ⟨by rw [← hu8]; exact heap_alloc_new u6 _, by rw [← hu8]; simp; have := X6.out.2; have := X1.out.2.2; omega⟩
              have O8 : Hid (OwnP u8 h V D ∧ Below h w u8) := ⟨by rw [← hu8]; exact O6.out.1.keep (below1 _ _), by rw [← hu8]; exact O6.out.2.alloc (by have := X6.out.2; have := X1.out.2.2; omega) _⟩
              have HDL : Hid (D.length ≤ 1000000000) := by show _ ≤ _; omega
              have HON2 : Hid (IsBytes m3 ∧ m3.length ≤ m ∧ xk.size ≤ m + 1 ∧ ((xv : ByteArray)).size ≤ m + 1) := HON.out ⟨xk, xv, false⟩ m3 rfl
              go_wp2_with (at_builtin; refine append_put rfl (.tmp 53) (.tmp 55) rfl h V D rfl O8.out.1 u6.heap.size 1 ⟨xk, xv, false⟩ rfl X8.out.1 HDL.out X8.out.2 ?_; intro v9 u9 ho9 hg9; have O9 : Hid (OwnP u9 h v9 (D ++ [⟨xk, xv, false⟩]) ∧ Below h w u9) := ⟨ho9, O8.out.2.grown hg9 X8.out.2 (fun k hk => (HOV.out k hk).1)⟩; clear ho9 hg9)
              go_roundg m3.length
              case measure => have := HON2.out.2.1; have := HMM.out; simp only [List.length_cons]; omega
              case rel =>
                refine ⟨D ++ [⟨xk, xv, false⟩], m3, sm3, rfl, rfl, by rw [List.length_append]; have := HON2.out.2.1; show D.length + 1 + _ ≤ _; omega, HSM3.out.symm, HON2.out.1, O9.out.1, ?_, fun y hy => ?_, O9.out.2⟩
                · rw [HAL.out, allB_fuel m m3.length m3 HON2.out.1 HON2.out.2.1 (Nat.le_refl _)]
                  cases allB m3.length m3 <;> simp
                · rcases List.mem_append.1 hy with hy | hy
                  · exact RD.out.2.1 y hy
                  · have hy2 : y = ⟨xk, xv, false⟩ := by simpa using hy
                    rw [hy2]
                    have := HON2.out.2.2
                    exact ⟨by show xk.size ≤ nB; omega, by show ((xv : ByteArray)).size ≤ nB; omega⟩
end Go.Proofs.YtcindeechmpalaaGreat
namespace Go.Proofs.YtcindeechmpalaaGreat
open Go.ChangeShapes Go.WideShapes Go.ChangeAt Go.RowKit Go.Deep Go.Maps
set_option linter.unusedVariables false
set_option linter.unusedSimpArgs false
/-- a change done -/
def ch1 (T : ByteArray → Option Pt) (x : Pt) : ByteArray → Option Pt := fun q => if q = x.k then (if x.g = true then none else some x) else T q
def chT (T : ByteArray → Option Pt) (l : List Pt) : ByteArray → Option Pt := l.foldl ch1 T
theorem chT_snoc (T : ByteArray → Option Pt) (l : List Pt) (x : Pt) : chT T (l ++ [x]) = ch1 (chT T l) x := by unfold chT; rw [List.foldl_append]; rfl
theorem chT_app (T : ByteArray → Option Pt) (l k : List Pt) : chT T (l ++ k) = chT (chT T l) k := by unfold chT; rw [List.foldl_append]
theorem nodup_le {A : Type} [DecidableEq A] : ∀ (l k : List A), l.Nodup → (∀ x ∈ l, x ∈ k) → l.length ≤ k.length
  | [], _, _, _ => Nat.zero_le _
  | x :: l, k, h, hs => by
    obtain ⟨h1, h2⟩ := List.nodup_cons.1 h
    have hx := hs x (by simp)
    have ih := nodup_le l (k.erase x) h2 (fun y hy => (List.mem_erase_of_ne (fun e => h1 (by rw [← e]; exact hy))).2 (hs y (by simp [hy])))
    rw [List.length_erase_of_mem hx] at ih
    have : 0 < k.length := List.length_pos_of_mem hx
    simp only [List.length_cons]
    omega
theorem pw_monoK {A : Type} {R S : A → A → Prop} : ∀ {l : List A}, (∀ a b, a ∈ l → b ∈ l → R a b → S a b) → l.Pairwise R → l.Pairwise S
  | [], _, _ => List.Pairwise.nil
  | x :: l, h, hp => by
    obtain ⟨h1, h2⟩ := List.pairwise_cons.1 hp
    exact List.pairwise_cons.2 ⟨fun y hy => h x y (by simp) (by simp [hy]) (h1 y hy), pw_monoK (fun a b ha hb => h a b (by simp [ha]) (by simp [hb])) h2⟩
/-- a list of just the keys of a map -/
def Ks (T : ByteArray → Option Pt) (l : List ByteArray) : Prop := l.Nodup ∧ ∀ k, (T k).isSome = true ↔ k ∈ l
def keyK' : Lit → ByteArray
  | .string p => ⟨p.toArray⟩
  | _ => ⟨#[]⟩
theorem keyK'_dL (p : ByteArray) : keyK' (.string (dL p)) = p := by
  unfold keyK' dL
  cases p
  simp
theorem pm_exact {w : World} {b n : Nat} {T : ByteArray → Option Pt} (h : Pm w b n T) (l : List ByteArray) (hl : Ks T l) : ∃ D, w.ownsMap Tryz.prog 9 pR b n D ∧ Maps.size D = l.length := by
  obtain ⟨D, h1, h2⟩ := h
  have ht := h1.tidy lawK
  have H1 := h1
  obtain ⟨es, clock, hb, F, hn, hD⟩ := h1
  obtain ⟨kvs, hk, hap⟩ := ht
  have hkd : kvs = (es.toList.map (Go.WideElems.rg Tryz.prog 9 pR)).foldr DataW.insert [] := by
    rw [hD] at hk
    injection hk with e
    exact e.symm
  have hkey : ∀ kv ∈ kvs, kv.1 = .string (dL (keyK' kv.1)) := fun kv hkv => by
    rw [hkd, mem_sorted, List.mem_map] at hkv
    obtain ⟨x, hx, rfl⟩ := hkv
    obtain ⟨y, hy⟩ := F.reads x hx
    have e : Go.WideElems.rg Tryz.prog 9 pR x = y := Go.WideElems.rg_of hy
    rw [e]
    obtain ⟨p, _, hp⟩ := keyK_inv (Go.WideElems.rd_key hy)
    rw [hp, keyK'_dL]
  have hin : ∀ kv ∈ kvs, (T (keyK' kv.1)).isSome = true := fun kv hkv => by
    rw [← (h2 (keyK' kv.1)).1, hk, Maps.has_eq, List.any_eq_true]
    refine ⟨kv, hkv, ?_⟩
    rw [hkey kv hkv, keyK'_dL, strike_k]
    simp
  have hall : ∀ q, (T q).isSome = true → q ∈ kvs.map (fun kv => keyK' kv.1) := fun q hq => by
    rw [← (h2 q).1, hk, Maps.has_eq, List.any_eq_true] at hq
    obtain ⟨kv, hkv, hs⟩ := hq
    rw [List.mem_map]
    refine ⟨kv, hkv, ?_⟩
    rw [hkey kv hkv, strike_k] at hs
    simpa using hs
  have hnd : (kvs.map (fun kv => keyK' kv.1)).Nodup := by
    rw [List.Nodup, List.pairwise_map]
    refine pw_monoK (fun a b ha hb' hne e => hne ?_) hap
    rw [hkey a ha, hkey b hb', e]
  refine ⟨D, H1, ?_⟩
  rw [hk, Maps.size_eq]
  have a1 := nodup_le (kvs.map (fun kv => keyK' kv.1)) l hnd (fun x hx => by
    obtain ⟨kv, hkv, rfl⟩ := List.mem_map.1 hx
    exact (hl.2 _).1 (hin kv hkv))
  have a2 := nodup_le l (kvs.map (fun kv => keyK' kv.1)) hl.1 (fun x hx => hall x ((hl.2 x).2 hx))
  rw [List.length_map] at a1 a2
  omega
/-- 'v, ok := m[k]' -/
theorem Pm.look2 {w : World} {b n : Nat} {T : ByteArray → Option Pt} (h : Pm w b n T) (p : ByteArray) (hp : p.size ≤ 140737488355328) : (Instr.lookup 65 (.map (some b)) (.string p) true).run Tryz.prog w = .ok (.tuple #[pA ((T p).getD noP), .bool (T p).isSome]) w := by
  obtain ⟨D, h1, h2⟩ := h
  obtain ⟨v, ps, hrun, hv⟩ := h1.look_ok lawK Tryz.underlying65 (zeroPt w) (pR_ag noP) (keyK p hp)
  obtain ⟨x, rfl, hx⟩ := pR_inv hv
  simp only [Prod.mk.injEq] at hx
  rw [h2.at p] at hx
  rw [pD_inj hx.1, ← (h2 p).1]
  exact hrun
set_option maxRecDepth 100000 in
set_option maxHeartbeats 4000000 in
theorem kSet_is (l : List Pt) (n : Nat) (hn : l.length = n) (hn2 : n ≤ 1000000) (hs : ∀ x ∈ l, x.k.size ≤ 140737488355328) (a : Option Addr) (c : Nat) (b N : Nat) (hN : N ≤ 1000000000) (T : ByteArray → Option Pt) (w : World) (hl : InP w a l) (hm : Pm w b N T) (hx : ∀ x, a = some x → l ≠ [] → x.block ≠ b) :
    Calls Tryz.prog 39 #[.map (some b), .slice a n c] w fun e w' => e = .returned (.tuple #[]) ∧ Pm w' b (N + n) (chT T l) ∧ w.grownBy w' (some b) := by
  have HL : Hid (InP w a l) := hl
  have HN : Hid (l.length = n) := hn
  have HM : Hid (Pm w b N T) := hm
  have HX : Hid (∀ x, a = some x → l ≠ [] → x.block ≠ b) := hx
  have HS : Hid (∀ x ∈ l, x.k.size ≤ 140737488355328) := hs
  clear hl hn hm hx hs
  go_enter Tryz.func39, Tryz.ntmps39
  go_wp2_with fail
  go_loopg [8] n (fun gg iv wr => ∃ j : Nat, j ≤ n ∧ gg = n - j ∧ iv = .int .i64 (j : Int) ∧ Hid (Pm wr b (N + j) (chT T (l.take j)) ∧ w.grownBy wr (some b)))
  case atStart => exact ⟨0, Nat.zero_le _, rfl, rfl, HM.out, ⟨rfl, rfl, rfl, Nat.le_refl _, fun _ _ _ => rfl⟩⟩
  case round =>
    obtain ⟨j, hj, rfl, rfl, RW⟩ := hrel
    by_cases hlt : j < n
    · have j1 : decide ((j : Int) < (n : Int)) = true := by rw [decide_eq_true_eq]; omega
      obtain ⟨x, hx⟩ : ∃ x, l[j]? = some x := ⟨l[j]'(by rw [HN.out]; exact hlt), by simp [HN.out, hlt]⟩
      obtain ⟨g, off, rfl, hgw, hpc⟩ := HL.out.at hx
      have hgb : g ≠ b := HX.out _ rfl (fun e => by rw [e] at hx; cases hx)
      obtain ⟨c0, c1, c2⟩ := hpc.kept (RW.out.2.block g hgw (fun e => hgb (Option.some.inj e)))
      have HTK : Hid (chT T (l.take (j + 1)) = ch1 (chT T (l.take j)) x) := by
        show _ = _
        obtain ⟨h1, h2⟩ := List.getElem?_eq_some_iff.1 hx
        rw [List.take_succ_eq_append_getElem h1, h2, chT_snoc]
      have ri : IntKind.i64.wrap ((j : Int) + 1) = (j : Int) + 1 := by rw [IntKind.wrap_i64]; omega
      have HXS : Hid (x.k.size ≤ 140737488355328) := HS.out x (List.mem_of_getElem? hx)
      clear hx hpc hgb
      obtain ⟨xk, xv, xg⟩ := x
      simp only at c0 c1 c2 HXS
      have hxs : xk.size ≤ 140737488355328 := HXS.out
      obtain ⟨u1, hu1⟩ : ∃ u1, wr.alloc (.cells #[.string xk, .string xv, .bool xg] 45) = u1 := ⟨_, rfl⟩
      have M1 : Hid (Pm u1 b (N + j) (chT T (l.take j))) := by rw [← hu1]; exact RW.out.1.keep (below1 _ _)
      have G1 : Hid (w.grownBy u1 (some b)) := by
        have a1 := RW.out.2
        have a2 := below1 wr (.cells #[.string xk, .string xv, .bool xg] 45)
        rw [hu1] at a2
        exact ⟨a2.os.trans a1.os, a2.tape.trans a1.tape, a2.output.trans a1.output, Nat.le_trans a1.size a2.size, fun k hk hr => (a2.block k (Nat.lt_of_lt_of_le hk a1.size)).trans (a1.block k hk hr)⟩
      have X1 : u1.heap[wr.heap.size]? = some (.cells (pC ⟨xk, xv, xg⟩) 45) := by rw [← hu1]; exact heap_alloc_new wr _
      obtain ⟨r0, r1, r2⟩ := pc_cells X1
      simp only at r0 r1 r2
      have U1E : Hid (wr.alloc (.cells #[.string xk, .string xv, .bool xg] 45) = u1) := hu1
      clear RW X1 hu1 r0 r1 r2
      cases xg
      · go_wp2_with (first | (at_mapUpdate; rw [show World.alloc wr _ = u1 from U1E.out]; refine wpList_put_pm rfl (.tmp 17) (.tmp 19) (.tmp 20) rfl b (N + j) _ rfl M1.out (by omega) xk hxs ⟨xk, xv, false⟩ rfl rfl ?_; intro w7 hs7 hg7; have S7 : Hid (Pm w7 b (N + j + 1) (fun q => if q = xk then some ⟨xk, xv, false⟩ else chT T (l.take j) q) ∧ u1.grownBy w7 (some b)) := ⟨hs7, hg7⟩; clear hs7 hg7))
        have RW9 : Hid (Pm w7 b (N + (j + 1)) (chT T (l.take (j + 1))) ∧ w.grownBy w7 (some b)) := by
          have a1 := G1.out
          have a2 := S7.out.2
          refine ⟨?_, ⟨a2.os.trans a1.os, a2.tape.trans a1.tape, a2.output.trans a1.output, Nat.le_trans a1.size a2.size, fun k hk hr => (a2.block k (Nat.lt_of_lt_of_le hk a1.size) hr).trans (a1.block k hk hr)⟩⟩
          rw [HTK.out]
          exact S7.out.1
        go_roundg (n - (j + 1))
        case measure => omega
        case rel => exact ⟨j + 1, by omega, rfl, by simp, RW9⟩
      · go_wp2_with (first | (at_delete; rw [show World.alloc wr _ = u1 from U1E.out]; refine wpList_del_pm rfl (.tmp 14) (.tmp 16) rfl b (N + j) _ rfl M1.out xk hxs rfl ?_; intro w7 hs7 hg7; have S7 : Hid (Pm w7 b (N + j) (fun q => if q = xk then none else chT T (l.take j) q) ∧ u1.grownBy w7 (some b)) := ⟨hs7, hg7⟩; clear hs7 hg7))
        have RW9 : Hid (Pm w7 b (N + (j + 1)) (chT T (l.take (j + 1))) ∧ w.grownBy w7 (some b)) := by
          have a1 := G1.out
          have a2 := S7.out.2
          refine ⟨?_, ⟨a2.os.trans a1.os, a2.tape.trans a1.tape, a2.output.trans a1.output, Nat.le_trans a1.size a2.size, fun k hk hr => (a2.block k (Nat.lt_of_lt_of_le hk a1.size) hr).trans (a1.block k hk hr)⟩⟩
          rw [HTK.out]
          exact S7.out.1.mono (by omega)
        go_roundg (n - (j + 1))
        case measure => omega
        case rel => exact ⟨j + 1, by omega, rfl, by simp, RW9⟩
    · have j1 : decide ((j : Int) < (n : Int)) = false := by rw [decide_eq_false_iff_not]; omega
      have HF : Hid (Pm wr b (N + n) (chT T l) ∧ w.grownBy wr (some b)) := by
        have q := RW.out.1
        rw [List.take_of_length_le (by have := HN.out; omega)] at q
        exact ⟨q.mono (by omega), RW.out.2⟩
      go_wp2_with fail
      go_end0
      exact ⟨rfl, HF.out⟩
end Go.Proofs.YtcindeechmpalaaGreat
namespace Go.Proofs.YtcindeechmpalaaGreat
open Go.ChangeShapes Go.WideShapes Go.ChangeAt Go.RowKit Go.Deep
set_option linter.unusedVariables false
theorem getD_drop (L : List Int) (k i : Nat) : (L.drop k).getD i 0 = L.getD (k + i) 0 := by simp [List.getD]
theorem le4_at (L : List Int) (hb : IsBytes L) (k : Nat) (h : k + 4 ≤ L.length) : le4 (ge4 L k) = (L.drop k).take 4 := by
  have hT : ((L.drop k).take 4).length = 4 := by rw [List.length_take, List.length_drop]; omega
  have hTb : IsBytes ((L.drop k).take 4) := bytes_of_mem fun x hx => bytes_mem hb x (List.mem_of_mem_drop (List.mem_of_mem_take hx))
  have hA : (L.take k).length = k := by rw [List.length_take]; omega
  have := le4_ge4 (L.take k) ((L.drop k).take 4) hT hTb
  rw [hA] at this
  rw [← this]
  congr 1
  have g : ∀ i, i < 4 → (L.take k ++ (L.drop k).take 4).getD (k + i) 0 = L.getD (k + i) 0 := by
    intro i hi
    have e : (L.take k ++ (L.drop k).take 4).getD (k + i) 0 = ((L.drop k).take 4).getD i 0 := by
      simp [List.getD, List.getElem?_append_right, hA]
    rw [e, ← getD_take4 _ i hi, getD_drop]
  have g0 := g 0 (by decide)
  rw [Nat.add_zero] at g0
  unfold ge4
  rw [g0, g 1 (by decide), g 2 (by decide), g 3 (by decide)]
theorem le4_inj (a b : Nat) (ha : a < 4294967296) (hb : b < 4294967296) (h : le4 a = le4 b) : a = b := by
  have e1 := ge4_le4 [] [] a ha
  have e2 := ge4_le4 [] [] b hb
  rw [h] at e1
  rw [e1] at e2
  exact Int.ofNat.inj e2
/-- the frame of the body is what stands there just where the sum is the one that stands there -/
theorem whole_iff (L : List Int) (hb : IsBytes L) (K : Nat) (hK : ge4 L 0 = (K : Int)) (h : 8 + K ≤ L.length) : frameL ((L.drop 4).take K) = L.take (8 + K) ↔ (ge4 L (4 + K)).toNat = cmore 0 (L.take (4 + K)) := by
  have hbl : ((L.drop 4).take K).length = K := by rw [List.length_take, List.length_drop]; omega
  have h4 : le4 (K : Int) = L.take 4 := by
    have := le4_at L hb 0 (by omega)
    rwa [hK, List.drop_zero] at this
  have hh : headL ((L.drop 4).take K) = L.take (4 + K) := by
    rw [headL, hbl, h4, List.take_add]
  have ht : L.take (8 + K) = L.take (4 + K) ++ (L.drop (4 + K)).take 4 := by
    rw [show 8 + K = 4 + K + 4 by omega, List.take_add]
  have g := ge4_range L hb (4 + K) (by omega)
  have hc := cmore_lt 0 (L.take (4 + K))
  have ha := le4_at L hb (4 + K) (by omega)
  rw [frameL, hh, ht, List.append_cancel_left_eq, ← ha]
  obtain ⟨T, hT⟩ : ∃ T : Nat, ge4 L (4 + K) = T := ⟨_, (Int.toNat_of_nonneg g.1).symm⟩
  rw [hT, Int.toNat_natCast]
  constructor
  · intro e
    exact (le4_inj _ _ hc (by omega) e).symm
  · intro e
    rw [e]
end Go.Proofs.YtcindeechmpalaaGreat
