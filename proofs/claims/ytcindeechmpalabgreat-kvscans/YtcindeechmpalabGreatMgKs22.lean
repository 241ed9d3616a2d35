/- kv.fitting, kv.snapshot. maps.Clone at a map of changes, by the library's own contract. kv.write and kv.Do where there is room. a database under changes, plainly; Reset to a snapshot. kv.write, whole. kv.Do, whole. kv.Compact, whole. A database under changes and losses of power, plainly. Changes held against each other; the document's Same. append of a slice of changes; how texts stand, by either word; how many keys. The statements' own 'small' of changes. The statements' own works (veneerlaw11). A slice of changes that came in, opened; how great its texts may be. An array of two that came in. The walk of veneerlaw11.KvScans. -/
import Derived.Test.YtcindeechmpalabGreatMgKs21
import Derived.Test.YtcindeechmpalabGreatMgKs20
import Derived.Shelf.SlMaps.Clone
import Derived.Test.YtcindeechmpalabGreatMgKs3
import Derived.Laws.StructEq
import Derived.Test.YtcindeechmpalabGreatMgKs19
import Derived.Deep.Slices
import Derived.Deep.Strs
import Derived.SizedLaws
import Derived.ChangeSame
import Derived.BigQuiet
namespace Go.Proofs.YtcindeechmpalabGreat
open Go.ChangeShapes Go.WideShapes Go.ChangeAt Go.RowKit Go.Deep Go.Maps
set_option linter.unusedVariables false
set_option linter.unusedSimpArgs false
theorem fitG_at {l : List Pt} {j : Nat} {x : Pt} (h : l[j]? = some x) (sz : Nat) : fitG sz j (l.drop j) = if j = 64 ∨ 4096 < sz + (cB x).length then j else fitG (sz + (cB x).length) (j + 1) (l.drop (j + 1)) := by
  obtain ⟨hj, e⟩ := List.getElem?_eq_some_iff.1 h
  rw [List.drop_eq_getElem_cons hj, e, fitG]
theorem owned_nilK (w : World) (base : Nat) : Owned w base (.slice none 0 0) [] := World.ownsRow_nil _ _ _ _
set_option maxRecDepth 100000 in
set_option maxHeartbeats 4000000 in
theorem kFit_is (l : List Pt) (n : Nat) (hn : l.length = n) (hn2 : n ≤ 1000000000) (hok : ∀ x ∈ l, badP x = false) (a : Option Addr) (c : Nat) (w : World) (hl : InP w a l) :
    Calls Tryz.prog 60 #[.slice a n c] w fun e w' => e = .returned (.int .i64 (fitN l : Nat)) ∧ Below w.heap.size w w' := by
  have HL : Hid (InP w a l) := hl
  have HN : Hid (l.length = n) := hn
  have HO : Hid (∀ x ∈ l, badP x = false) := hok
  have HF : Hid (fitN l = fitG 1 0 l) := rfl
  obtain ⟨R, hR⟩ : ∃ R, fitN l = R := ⟨_, rfl⟩
  rw [hR] at HF ⊢
  clear hl hn hok hR
  go_enter Tryz.func60, Tryz.ntmps60
  go_wp2_with fail
  go_loopg [3, 8] n (fun gg s i wr => ∃ j sz : Nat, j ≤ n ∧ j ≤ 64 ∧ gg = n - j ∧ i = .int .i64 (j : Int) ∧ s = .int .i64 (sz : Int) ∧ sz ≤ 4096 ∧ Hid (R = fitG sz j (l.drop j)) ∧ Hid (Below w.heap.size w wr))
  case atStart => exact ⟨0, 1, Nat.zero_le _, Nat.zero_le _, rfl, rfl, rfl, by omega, by show _ = _; simpa using HF.out, Below.refl _ _⟩
  case round =>
    obtain ⟨j, sz, hj, hj64, rfl, rfl, rfl, hsz, HFJ, HW⟩ := hrel
    clear HF
    by_cases hlt : j < n
    · have j1 : decide ((j : Int) < (n : Int)) = true := by rw [decide_eq_true_eq]; omega
      obtain ⟨x, hx⟩ : ∃ x, l[j]? = some x := ⟨l[j]'(by rw [HN.out]; exact hlt), by simp [HN.out, hlt]⟩
      obtain ⟨b, off, rfl, hbw, hpc⟩ := HL.out.at hx
      obtain ⟨c0, c1, c2⟩ := hpc.kept (HW.out.block b hbw)
      have HX : Hid (badP x = false) := HO.out x (List.mem_of_getElem? hx)
      have hxl := cB_len HX.out
      have HFX : Hid (R = if j = 64 ∨ 4096 < sz + (cB x).length then j else fitG (sz + (cB x).length) (j + 1) (l.drop (j + 1))) := HFJ.out.trans (fitG_at hx sz)
      have ri : IntKind.i64.wrap ((j : Int) + 1) = (j : Int) + 1 := by rw [IntKind.wrap_i64]; omega
      have hsw := HW.out.size
      have KX : Hid (∀ W : World, Calls Tryz.prog 34 #[.slice none 0 0, .agg #[.string x.k, .string x.v, .bool x.g]] W fun e w' => ∃ a' c', e = .returned (.slice a' (cB x).length c') ∧ Below W.heap.size W w') := fun W => by
        refine (kChange_is x HX.out W.heap.size (.slice none 0 0) [] W (owned_nilK _ _) (by simp) (Nat.le_refl _)).mono ?_
        rintro e w' ⟨v', rfl, ho, hg⟩
        obtain ⟨a', c', rfl, _⟩ := ho.slice
        exact ⟨a', c', rfl, hg.below _ (Nat.le_refl _) (fun k hk => by cases hk)⟩
      generalize (cB x).length = q at *
      clear hx hpc HFJ
      obtain ⟨xk, xv, xg⟩ := x
      simp only at c0 c1 c2 KX
      have HW1 : Hid (Below w.heap.size w (wr.alloc (.cells #[.string xk, .string xv, .bool xg] 32))) := HW.out.alloc hsw _
      have rs : IntKind.i64.wrap ((sz : Int) + (q : Int)) = ((sz + q : Nat) : Int) := by rw [IntKind.wrap_i64]; omega
      go_wp2_with fail
      refine (KX.out _).mono ?_
      rintro e w5 ⟨a5, c5, rfl, hb5⟩
      have B5 : Hid (Below w.heap.size w w5) := HW1.out.trans (hb5.mono HW1.out.size)
      clear hb5 HW1
      by_cases h64 : j = 64
      · have HR : Hid (R = 64) := by show _ = _; rw [HFX.out, if_pos (.inl h64), h64]
        clear HFX
        subst h64
        go_wp2_with fail
        go_ret
        exact ⟨by rw [HR.out]; rfl, B5.out⟩
      · have e64 : ((j : Int) == 64) = false := by rw [beq_eq_false_iff_ne]; omega
        by_cases h4 : 4096 < sz + q
        · have e4 : decide ((4096 : Int) < ((sz + q : Nat) : Int)) = true := by rw [decide_eq_true_eq]; omega
          have HR : Hid (R = j) := by show _ = _; rw [HFX.out, if_pos (.inr h4)]
          clear HFX
          go_wp2_with fail
          go_ret
          exact ⟨by rw [HR.out]; rfl, B5.out⟩
        · have e4 : decide ((4096 : Int) < ((sz + q : Nat) : Int)) = false := by rw [decide_eq_false_iff_not]; omega
          have HR : Hid (R = fitG (sz + q) (j + 1) (l.drop (j + 1))) := by show _ = _; rw [HFX.out, if_neg (by omega)]
          clear HFX
          go_wp2_with fail
          go_roundg (n - (j + 1))
          case measure => omega
          case rel => exact ⟨j + 1, sz + q, by omega, by omega, rfl, by simp, by first | rfl | simp, by omega, HR, B5⟩
    · have j1 : decide ((j : Int) < (n : Int)) = false := by rw [decide_eq_false_iff_not]; omega
      have HR : Hid (R = n) := by
        show _ = _
        rw [HFJ.out, List.drop_of_length_le (by rw [HN.out]; omega)]
        show j = n
        omega
      go_wp2_with fail
      go_ret
      exact ⟨by rw [HR.out]; rfl, HW.out⟩
theorem InP.take {w : World} {a : Option Addr} {l : List Pt} (h : InP w a l) (k : Nat) : InP w a (l.take k) := by
  rcases h with h | ⟨b, off, e, h1, h2⟩
  · exact .inl (by rw [h]; simp)
  · refine .inr ⟨b, off, e, h1, fun i x hx => h2 i x ?_⟩
    rw [List.getElem?_take] at hx
    split at hx
    · exact hx
    · cases hx
theorem InP.drop {w : World} {b off : Nat} {l : List Pt} (h : InP w (some ⟨b, off, none⟩) l) (k : Nat) : InP w (some ⟨b, off + k * 3, none⟩) (l.drop k) := by
  rcases h with h | ⟨b', off', e, h1, h2⟩
  · exact .inl (by rw [h]; simp)
  · cases e
    refine .inr ⟨b, off + k * 3, rfl, h1, fun i x hx => ?_⟩
    rw [List.getElem?_drop] at hx
    have := h2 (k + i) x hx
    rw [show off + (k + i) * 3 = off + k * 3 + i * 3 by omega] at this
    exact this
theorem in_one_text {w : World} {B : List Int} : InS (w.alloc (.cells #[.string (strOfNums B)] 9)) (some ⟨w.heap.size, 0, none⟩) [B] := by
  refine .inr ⟨w.heap.size, 0, rfl, fun i hi => ?_⟩
  have hi' : i < 1 := hi
  obtain rfl : i = 0 := by omega
  rw [Nat.zero_add, cell_of_row _ _ 0 _ _ (0, 0) (heap_alloc_new w _)]
  rfl
/-- snapshot's answer: the bytes of the batches of all -/
def SnpSaid (w : World) (L : List Pt) (e : Ending) (w' : World) : Prop := ∃ v, e = .returned v ∧ RowsS w' w.heap.size v ((snapB L).map eB) ∧ w.grownBy w' none
set_option maxRecDepth 100000 in
set_option maxHeartbeats 8000000 in
theorem kSnap_is (w : World) (b n : Nat) (T : ByteArray → Option Pt) (L : List Pt) (hs : Pm w b n T) (hn : n ≤ 1000000000) (hT : AtKey T) (hL : LstP T allK L) (hok : ∀ x ∈ L, badP x = false) :
    Calls Tryz.prog 39 #[.map (some b)] w (SnpSaid w L) := by
  have KR : Hid (Calls Tryz.prog 24 #[.map (some b), .string ⟨#[]⟩, .string ⟨#[]⟩] w fun e w' => ∃ v, e = .returned v ∧ OwnP w' w.heap.size v L ∧ L.length ≤ n ∧ w.grownBy w' none) := by
    refine (kRising_is w b n T hs hn hT ⟨#[]⟩ ⟨#[]⟩).mono ?_
    rintro e w' ⟨v, l, rfl, h1, h2, h3, h4⟩
    rw [inR_all] at h2
    obtain rfl := lst_uniq h2 hL
    exact ⟨v, rfl, h1, h3, h4⟩
  have HO : Hid (∀ x ∈ L, badP x = false) := hok
  have HSP : Hid (∀ v w', RowsS w' w.heap.size v ((snapB L).map eB) → w.grownBy w' none → SnpSaid w L (.returned v) w') := fun v w' h1 h2 => ⟨v, rfl, h1, h2⟩
  generalize hQ : SnpSaid w L = Q at *
  clear hs hT hL hok hQ
  go_enter Tryz.func39, Tryz.ntmps39
  go_wp2_with fail
  refine KR.out.mono ?_
  rintro e w1 ⟨v, rfl, ho, hLn, hg1⟩
  obtain ⟨a, c, rfl, hi, hc1, hc2, hc3, hbl⟩ := ho.slice
  obtain ⟨h, hh⟩ : ∃ h, h = w.heap.size := ⟨_, rfl⟩
  have HH : Hid (h = w.heap.size) := hh
  have I1 : Hid (InP w1 a L) := hi
  have G1 : Hid (Below h w w1) := by rw [hh]; exact ⟨hg1.os, hg1.tape, hg1.output, hg1.size, fun k hk => hg1.block k hk (by simp)⟩
  have HBL : Hid (∀ x, a = some x → x.block < w1.heap.size) := fun x hx => (hbl x hx).2
  obtain ⟨h2, hh2⟩ : ∃ h2, h2 = w1.heap.size := ⟨_, rfl⟩
  have HH2 : Hid (h2 = w1.heap.size ∧ h ≤ h2) := ⟨hh2, by rw [hh, hh2]; exact hg1.size⟩
  clear ho hi hbl hg1 KR hh hh2
  go_wp2_with fail
  go_loopg [3, 4] L.length (fun gg V X wr => ∃ (r : List Pt) (bs : List (List Pt)) (a' : Option Addr) (c' : Nat), gg = r.length ∧ X = .slice a' r.length c' ∧ r.length ≤ c' ∧ c' ≤ 9223372036854775807 ∧ r.length ≤ L.length ∧ bs.length + r.length ≤ L.length ∧ Hid (InP wr a' r ∧ RowsS wr h2 V (bs.map eB) ∧ bs ++ snapB r = snapB L ∧ (∀ x ∈ r, badP x = false) ∧ Below h w wr ∧ h2 ≤ wr.heap.size ∧ (∀ x, a' = some x → x.block < h2)))
  case atStart => exact ⟨L, [], a, c, rfl, rfl, hc1, hc2, Nat.le_refl _, by simp, I1.out, RowsS.nil _ _, rfl, HO.out, G1.out, by rw [HH2.out.1]; exact Nat.le_refl _, by rw [HH2.out.1]; exact HBL.out⟩
  case round =>
    obtain ⟨r, bs, a', c', rfl, rfl, hrc, hc9, hrL, hbr, RW⟩ := hrel
    clear I1 G1
    by_cases hne : r = []
    · subst hne
      have HF : Hid (Q (.returned u3) wr) := by
        obtain ⟨q1, q2, q3, q4, q5, q6, q7⟩ := RW.out
        refine HSP.out _ _ ?_ ?_
        · rw [← q3, show bs ++ snapB [] = bs by rw [show snapB [] = [] from rfl, List.append_nil]]
          exact q2.base (by have := HH2.out; have := HH.out; omega)
        · rw [HH.out] at q5
          exact ⟨q5.os, q5.tape, q5.output, q5.size, fun k hk _ => q5.block k hk⟩
      go_wp2_with fail
      exact HF.out
    · have hp : 0 < r.length := List.length_pos_iff.2 hne
      have d1 : decide ((0 : Int) < (r.length : Int)) = true := by rw [decide_eq_true_eq]; omega
      obtain ⟨f1, f2, f3⟩ := fitN_enc hne RW.out.2.2.2.1
      have KF : Hid (Calls Tryz.prog 60 #[.slice a' r.length c'] wr fun e w' => e = .returned (.int .i64 (fitN r : Nat)) ∧ Below wr.heap.size wr w') := kFit_is r r.length rfl (by omega) RW.out.2.2.2.1 a' c' wr RW.out.1
      have HSC : Hid (snapB r = r.take (fitN r) :: snapB (r.drop (fitN r))) := snapB_cons hne RW.out.2.2.2.1
      obtain ⟨q, hq⟩ : ∃ q, fitN r = q := ⟨_, rfl⟩
      rw [hq] at KF HSC f1 f2 f3
      obtain ⟨g, off, rfl⟩ : ∃ g off, a' = some ⟨g, off, none⟩ := by
        rcases RW.out.1 with e | ⟨g, off, e, _⟩
        · exact absurd e hne
        · exact ⟨g, off, e⟩
      have htl : (r.take q).length = q := by rw [List.length_take]; omega
      have KE : Hid (∀ W, InP W (some ⟨g, off, none⟩) r → Calls Tryz.prog 21 #[.slice (some ⟨g, off, none⟩) q c'] W fun e w' => e = .returned (.tuple #[.string (strOfNums (eB (r.take q))), .int .i64 0]) ∧ Below W.heap.size W w') := fun W hW => by
        have k := kEncode_is (r.take q) q htl (by omega) (fit_ok fun x hx => RW.out.2.2.2.1 x (List.mem_of_mem_take hx)) (some ⟨g, off, none⟩) c' W (hW.take q)
        rw [f1] at k
        exact k
      have HDL : Hid ((r.drop q).length = r.length - q) := List.length_drop
      clear hq f1 htl
      generalize u3 = V at *
      have HOV : Hid (∀ k, V.ownBlock = some k → h2 ≤ k ∧ k < wr.heap.size) := fun k hk => RW.out.2.1.own k hk
      obtain ⟨B, hB⟩ : ∃ B, eB (r.take q) = B := ⟨_, rfl⟩
      rw [hB] at KE
      have HBE : Hid (eB (r.take q) = B) := hB
      clear hB
      go_wp2_with fail
      refine KF.out.mono ?_
      rintro e w2 ⟨rfl, hb2⟩
      have RW2 : Hid (InP w2 (some ⟨g, off, none⟩) r ∧ RowsS w2 h2 V (bs.map eB) ∧ Below h w w2 ∧ h2 ≤ w2.heap.size) := ⟨RW.out.1.keep hb2, RW.out.2.1.keep hb2, RW.out.2.2.2.2.1.trans (hb2.mono (by have := HH2.out; have := RW.out.2.2.2.2.2.1; omega)), Nat.le_trans RW.out.2.2.2.2.2.1 hb2.size⟩
      clear hb2
      go_wp2_with fail
      refine (KE.out w2 RW2.out.1).mono ?_
      rintro e w3 ⟨rfl, hb3⟩
      have RW3 : Hid (InP w3 (some ⟨g, off, none⟩) r ∧ RowsS w3 h2 V (bs.map eB) ∧ Below h w w3 ∧ h2 ≤ w3.heap.size) := ⟨RW2.out.1.keep hb3, RW2.out.2.1.keep hb3, RW2.out.2.2.1.trans (hb3.mono (by have := HH2.out; have := RW2.out.2.2.2; omega)), Nat.le_trans RW2.out.2.2.2 hb3.size⟩
      clear hb3 RW2
      have CI : Hid (InS (w3.alloc (.cells #[.string (strOfNums B)] 9)) (some ⟨w3.heap.size, 0, none⟩) [B]) := in_one_text
      have O4 : Hid (RowsS (w3.alloc (.cells #[.string (strOfNums B)] 9)) h2 V (bs.map eB)) := RW3.out.2.1.keep (below1 _ _)
      have Z4 : Hid (h2 ≤ (w3.alloc (.cells #[.string (strOfNums B)] 9)).heap.size) := by show h2 ≤ _; rw [show (w3.alloc (.cells #[.string (strOfNums B)] 9)).heap.size = w3.heap.size + 1 by simp]; have := RW3.out.2.2.2; omega
      have HBM : Hid ((bs.map eB).length + 1 ≤ 5000000000000) := by show _ ≤ _; rw [List.length_map]; omega
      have fin : ∀ v5 u5, RowsS u5 h2 v5 (bs.map eB ++ [B]) → (w3.alloc (.cells #[.string (strOfNums B)] 9)).grownBy u5 V.ownBlock → RowsS u5 h2 v5 ((bs ++ [r.take q]).map eB) ∧ Below h w u5 ∧ h2 ≤ u5.heap.size ∧ InP u5 (some ⟨g, off, none⟩) r := fun v5 u5 h5 g5 => by
        have hgl : g < h2 := RW.out.2.2.2.2.2.2 _ rfl
        refine ⟨by rw [List.map_append]; show RowsS u5 h2 v5 (bs.map eB ++ [eB (r.take q)]); rw [HBE.out]; exact h5, ?_, Nat.le_trans Z4.out g5.size, ?_⟩
        · have b4 : Below h w (w3.alloc (.cells #[.string (strOfNums B)] 9)) := RW3.out.2.2.1.alloc (by have := HH2.out; have := RW3.out.2.2.2; omega) _
          exact b4.grown g5 (by have := HH2.out; have := Z4.out; omega) (fun k hk => by have := (HOV.out k hk).1; have := HH2.out; omega)
        · refine RW3.out.1.kept (by have := g5.size; have : (w3.alloc (.cells #[.string (strOfNums B)] 9)).heap.size = w3.heap.size + 1 := by simp
                                    omega) fun x hx _ => ?_
          cases hx
          rw [g5.block g (by have := Z4.out; omega) (fun e => by have := (HOV.out g e.symm).1; omega)]
          exact Below.heap_alloc _ _ _ (by have := RW3.out.2.2.2; omega)
      have FIN : Hid (∀ v5 u5, RowsS u5 h2 v5 (bs.map eB ++ [B]) → (w3.alloc (.cells #[.string (strOfNums B)] 9)).grownBy u5 V.ownBlock → RowsS u5 h2 v5 ((bs ++ [r.take q]).map eB) ∧ Below h w u5 ∧ h2 ≤ u5.heap.size ∧ InP u5 (some ⟨g, off, none⟩) r) := fin
      clear fin KE KF
      generalize strOfNums B = st at *
      have q1 : (q : Int) ≤ (r.length : Int) := by omega
      have q2 : (q : Int) ≤ (c' : Int) := by omega
      by_cases hcq : c' = q
      · have hr0 : r.drop q = [] := List.length_eq_zero_iff.1 (by rw [HDL.out]; omega)
        have HR0 : Hid (r.drop q = []) := hr0
        have hrq : r.length = q := by omega
        clear hr0
        subst hcq
        go_wp2_with (at_builtin; refine appTL rfl (.tmp 22) (.tmp 24) rfl h2 _ (bs.map eB) rfl O4.out ⟨w3.heap.size, 0, none⟩ 1 1 [B] rfl rfl CI.out HBM.out Z4.out ?_; intro v5 u5 r5 g5 o5; have F5 : Hid (RowsS u5 h2 v5 ((bs ++ [r.take c']).map eB) ∧ Below h w u5 ∧ h2 ≤ u5.heap.size ∧ InP u5 (some ⟨g, off, none⟩) r) := FIN.out v5 u5 r5 g5; clear r5 g5 o5)
        go_roundg 0
        case measure => omega
        case rel =>
          refine ⟨[], bs ++ [r.take c'], some ⟨g, off, none⟩, 0, rfl, by simp [hrq], by simp, by omega, by simp, by simp; omega, .inl rfl, F5.out.1, ?_, fun x hx => (by cases hx), F5.out.2.1, F5.out.2.2.1, fun x hx => by cases hx; exact (show g < h2 from RW.out.2.2.2.2.2.2 ⟨g, off, none⟩ rfl)⟩
          have := RW.out.2.2.1
          rw [HSC.out, HR0.out] at this
          rw [List.append_assoc]
          exact this
      · go_wp2_with (at_builtin; refine appTL rfl (.tmp 22) (.tmp 24) rfl h2 _ (bs.map eB) rfl O4.out ⟨w3.heap.size, 0, none⟩ 1 1 [B] rfl rfl CI.out HBM.out Z4.out ?_; intro v5 u5 r5 g5 o5; have F5 : Hid (RowsS u5 h2 v5 ((bs ++ [r.take q]).map eB) ∧ Below h w u5 ∧ h2 ≤ u5.heap.size ∧ InP u5 (some ⟨g, off, none⟩) r) := FIN.out v5 u5 r5 g5; clear r5 g5 o5)
        go_roundg (r.length - q)
        case measure => omega
        case rel =>
          refine ⟨r.drop q, bs ++ [r.take q], some ⟨g, off + q * 3, none⟩, c' - q, HDL.out.symm, by rw [HDL.out], by rw [HDL.out]; omega, by omega, by rw [HDL.out]; omega, by rw [HDL.out, List.length_append]; show bs.length + 1 + _ ≤ _; omega, F5.out.2.2.2.drop q, F5.out.1, ?_, fun x hx => RW.out.2.2.2.1 x (List.mem_of_mem_drop hx), F5.out.2.1, F5.out.2.2.1, fun x hx => by cases hx; exact (show g < h2 from RW.out.2.2.2.2.2.2 ⟨g, off, none⟩ rfl)⟩
          have := RW.out.2.2.1
          rw [HSC.out] at this
          rw [List.append_assoc]
          exact this
end Go.Proofs.YtcindeechmpalabGreat
namespace Go.Proofs.YtcindeechmpalabGreat
open Go.Shelf Go.RowKit Go.Lib Go.Maps
set_option linter.unusedVariables false
def clRen : Go.Shelf.Ren := ⟨fun | 5 => 37 | 7 => 58 | n => n, fun | 3 => 32 | 4 => 4 | 20 => 20 | 23 => 50 | 25 => 9 | n => n, fun | n => n⟩
theorem clLays : Go.Proofs.SlLaysW.n5 Tryz.prog clRen := {
  mixed := by kernel_rfl
  f5 := ⟨Tryz.f37.name, by decide, Tryz.func37.trans (congrArg some (by kernel_rfl))⟩
  f7 := Tryz.func58.trans (congrArg some (by kernel_rfl))
  t4 := Tryz.underlying4
  a4 := Tryz.isAgg4
  z4 := Tryz.sizeOf4
  v4 := Tryz.zeroValue4
  t20 := Tryz.underlying20
  a20 := Tryz.isAgg20
  z20 := Tryz.sizeOf20
  v20 := Tryz.zeroValue20
  t23 := Tryz.underlying50
  a23 := Tryz.isAgg50
  z23 := Tryz.sizeOf50
  v23 := Tryz.zeroValue50 }
theorem kClone_is (w : World) (b n : Nat) (T : ByteArray → Option Pt) (h : Pm w b n T) : Calls Tryz.prog 37 #[.map (some b)] w fun e w' => e = .returned (.map (some w.heap.size)) ∧ Pm w' w.heap.size n T ∧ Pm w' b n T ∧ Below w.heap.size w w' := by
  obtain ⟨D, h1, h2⟩ := h
  have hcon := AnyW.maps_Clone_owns clLays 9 pR b n D w h1
  change Calls Tryz.prog 37 _ _ _ at hcon
  refine hcon.mono ?_
  rintro e w' ⟨rfl, a1, a2, a3⟩
  exact ⟨rfl, ⟨D, a1, h2⟩, ⟨D, a2, h2⟩, a3⟩
end Go.Proofs.YtcindeechmpalabGreat
namespace Go.Proofs.YtcindeechmpalabGreat
open Go.ChangeShapes Go.WideShapes Go.ChangeAt Go.RowKit Go.Deep Go.Maps
set_option linter.unusedVariables false
set_option linter.unusedSimpArgs false
theorem Kb.more {w wr : World} {P : Nat → Prop} {bb bd bl mb N C N' C' : Nat} {s : Ds} {l : Lg} {T : ByteArray → Option Pt} (h : Kb w wr P bb bd bl mb N C s l T) (hN : N ≤ N') (hC : C ≤ C') : Kb w wr P bb bd bl mb N' C' s l T :=
  ⟨h.wl.more hN, h.box, h.mp.mono hC, h.ge, h.ne⟩
theorem Kb.step {w wr w' : World} {P : Nat → Prop} {bb bd bl mb N N' C : Nat} {s s' : Ds} {l l' : Lg} {T : ByteArray → Option Pt} (h : Kb w wr P bb bd bl mb N C s l T) (hw : Wl w w' (fun k => P k ∨ k = bb ∨ k = mb) bd bl N' s' l') (hk : ∀ k, P k ∨ k = bb ∨ k = mb → w'.heap[k]? = wr.heap[k]?) : Kb w w' P bb bd bl mb N' C s' l' T := by
  refine ⟨hw, (hk bb (.inr (.inl rfl))).trans h.box, ?_, h.ge, h.ne⟩
  obtain ⟨D, ⟨es, clock, h1, r⟩, h2⟩ := h.mp
  exact ⟨D, ⟨es, clock, (hk mb (.inr (.inr rfl))).trans h1, r⟩, h2⟩
theorem Kb.keep {w wr w' : World} {P : Nat → Prop} {bb bd bl mb N C : Nat} {s : Ds} {l : Lg} {T : ByteArray → Option Pt} (h : Kb w wr P bb bd bl mb N C s l T) (hb : Below wr.heap.size wr w') : Kb w w' (fun k => P k ∨ (wr.heap.size ≤ k ∧ k < w'.heap.size)) bb bd bl mb N C s l T := by
  have h1 := lt_of_heapK h.box
  have h2 := h.mp.lt
  refine ⟨(h.wl.keep hb).less fun k hk => ?_, (hb.block bb h1).trans h.box, h.mp.keep hb, h.ge, h.ne.1, fun k hk => ?_⟩
  · rcases hk with (h | h) | h | h
    · exact .inl (.inl h)
    · exact .inr h
    · exact .inl (.inr (.inl h))
    · exact .inl (.inr (.inr h))
  · rcases hk with hk | hk
    · exact h.ne.2 k hk
    · exact ⟨by omega, by omega⟩
theorem Kb.less {w wr : World} {P Q : Nat → Prop} {bb bd bl mb N C : Nat} {s : Ds} {l : Lg} {T : ByteArray → Option Pt} (h : Kb w wr P bb bd bl mb N C s l T) (hq : ∀ k, Q k → P k) : Kb w wr Q bb bd bl mb N C s l T :=
  ⟨h.wl.less fun k hk => hk.elim (fun e => .inl (hq k e)) .inr, h.box, h.mp, h.ge, h.ne.1, fun k hk => h.ne.2 k (hq k hk)⟩
set_option maxRecDepth 100000 in
set_option maxHeartbeats 4000000 in
theorem kWrite_ok {w wr : World} {P : Nat → Prop} {bb bd bl mb N C : Nat} {s : Ds} {l : Lg} {T : ByteArray → Option Pt} (K : Kb w wr P bb bd bl mb N C s l T) (hN : N + 3000 < 999900) (B : List Int) (hB : IsBytes B) (hadd : (l.add B).1 = 0) (hfit : 2 + (l.add B).2.ar * (l.add B).2.m + (l.add B).2.m ≤ s.D.length) (v : Value) :
    Calls Tryz.prog 22 #[.pointer (some ⟨bb, 0, none⟩), .string (strOfNums B), v] wr fun e w' => e = .returned (.int .i64 ((l.add B).2.sync s).1) ∧ Kb w w' P bb bd bl mb (N + 2100) C ((l.add B).2.sync s).2.2 ((l.add B).2.sync s).2.1 T ∧ ∀ k, P k → w'.heap[k]? = wr.heap[k]? := by
  have KA : Hid (Calls Tryz.prog 35 #[.pointer (some ⟨bl, 0, none⟩), .string (strOfNums B)] wr fun e w' => e = .returned (.int .i64 0) ∧ Kb w w' P bb bd bl mb N C s (l.add B).2 T ∧ ∀ k, P k → w'.heap[k]? = wr.heap[k]?) := by
    have k := wl_add K.wl B hB
    rw [hadd] at k
    refine k.mono ?_
    rintro e w' ⟨rfl, h1, h2⟩
    exact ⟨rfl, K.step h1 h2, fun k hk => h2 k (.inl hk)⟩
  obtain ⟨l1, hl1⟩ : ∃ l1, (l.add B).2 = l1 := ⟨_, rfl⟩
  rw [hl1] at KA hfit ⊢
  have KS : Hid (∀ W, Kb w W P bb bd bl mb N C s l1 T → Calls Tryz.prog 36 #[.pointer (some ⟨bl, 0, none⟩)] W fun e w' => e = .returned (.int .i64 (l1.sync s).1) ∧ Kb w w' P bb bd bl mb (N + 2100) C (l1.sync s).2.2 (l1.sync s).2.1 T ∧ ∀ k, P k → w'.heap[k]? = W.heap[k]?) := fun W hW => by
    refine (wl_sync hW.wl hfit hN).mono ?_
    rintro e w' ⟨rfl, h1, h2⟩
    exact ⟨rfl, hW.step h1 h2, fun k hk => h2 k (.inl hk)⟩
  obtain ⟨q0, q1⟩ := ko_cells K.box
  clear hl1 hadd hfit hB K
  generalize strOfNums B = st at *
  go_enter Tryz.func22, Tryz.ntmps22
  go_wp2_with fail
  refine KA.out.mono ?_
  rintro e w1 ⟨rfl, hk1, hp1⟩
  have K1 : Hid (Kb w w1 P bb bd bl mb N C s l1 T ∧ ∀ k, P k → w1.heap[k]? = wr.heap[k]?) := ⟨hk1, hp1⟩
  clear q0 q1 hk1 hp1 KA
  obtain ⟨q0, q1⟩ := ko_cells K1.out.1.box
  go_wp2_with fail
  refine (KS.out w1 K1.out.1).mono ?_
  rintro e w2 ⟨rfl, hk2, hp2⟩
  have K2 : Hid (Kb w w2 P bb bd bl mb (N + 2100) C (l1.sync s).2.2 (l1.sync s).2.1 T ∧ ∀ k, P k → w2.heap[k]? = wr.heap[k]?) := ⟨hk2, fun k hk => (hp2 k hk).trans (K1.out.2 k hk)⟩
  clear hk2 hp2 q0 q1
  go_wp2_with fail
  go_ret
  exact ⟨rfl, K2.out⟩
set_option maxRecDepth 100000 in
set_option maxHeartbeats 4000000 in
theorem kDo_ok {w wr : World} {P : Nat → Prop} {bb bd bl mb N C : Nat} {s s2 : Ds} {l l2 : Lg} {T : ByteArray → Option Pt} (K : Kb w wr P bb bd bl mb N C s l T) (hN : N + 3000 < 999900) (hC : C ≤ 900000000) (pts : List Pt) (B : List Int) (hE : encA pts = (0, B)) (hadd : (l.add B).1 = 0) (hfit : 2 + (l.add B).2.ar * (l.add B).2.m + (l.add B).2.m ≤ s.D.length) (hsy : (l.add B).2.sync s = (0, l2, s2)) (a : Option Addr) (n c : Nat) (hn : pts.length = n) (hin : InP wr a pts) (ha : ∀ x, a = some x → pts ≠ [] → P x.block) :
    Calls Tryz.prog 7 #[.pointer (some ⟨bb, 0, none⟩), .slice a n c] wr fun e w' => e = .returned (.int .i64 0) ∧ Kb w w' P bb bd bl mb (N + 2100) (C + n) s2 l2 (chT T pts) ∧ ∀ k, P k → w'.heap[k]? = wr.heap[k]? := by
  obtain ⟨_, _, h64, hok, _⟩ := encA_ok hE
  have KN : Hid (Calls Tryz.prog 20 #[.pointer (some ⟨bb, 0, none⟩)] wr fun e w' => e = .returned (.bool false) ∧ w' = wr) := kNone_is wr bb bl mb K.box
  have KE : Hid (Calls Tryz.prog 21 #[.slice a n c] wr fun e w' => e = .returned (.tuple #[.string (strOfNums B), .int .i64 0]) ∧ Below wr.heap.size wr w') := by
    have k := kEncode_is pts n hn (by omega) (fit_ok hok) a c wr hin
    rw [hE] at k
    exact k
  have KW : Hid (∀ W, Kb w W P bb bd bl mb N C s l T → Calls Tryz.prog 22 #[.pointer (some ⟨bb, 0, none⟩), .string (strOfNums B), .slice a n c] W fun e w' => e = .returned (.int .i64 0) ∧ Kb w w' P bb bd bl mb (N + 2100) C s2 l2 T ∧ ∀ k, P k → w'.heap[k]? = W.heap[k]?) := fun W hW => by
    have k := kWrite_ok hW hN B (encA_bytes hE).1 hadd hfit (.slice a n c)
    rw [hsy] at k
    exact k
  have KC : Hid (∀ W, Kb w W P bb bd bl mb (N + 2100) C s2 l2 T → InP W a pts → Calls Tryz.prog 19 #[.map (some mb), .slice a n c] W fun e w' => e = .returned (.tuple #[]) ∧ Kb w w' P bb bd bl mb (N + 2100) (C + n) s2 l2 (chT T pts) ∧ ∀ k, P k → w'.heap[k]? = W.heap[k]?) := fun W hW hi => by
    refine (kSet_is pts n hn (by omega) (fun x hx => by have := badP_no (hok x hx); omega) a c mb C (by omega) T W hi hW.mp (fun x hx hne => (hW.ne.2 _ (ha x hx hne)).2)).mono ?_
    rintro e w' ⟨rfl, h1, h2⟩
    have hPl : ∀ k, P k → k < W.heap.size := fun k hk => by
      obtain ⟨F, G, _, _, _, _, _, a6⟩ := hW.wl.ex
      exact (a6 k (.inl hk)).1
    exact ⟨rfl, ⟨hW.wl.grown0 h2 (fun k e => ⟨.inr (.inr (Option.some.inj e).symm), by rw [← Option.some.inj e]; exact hW.ge.2⟩), (h2.block bb (lt_of_heapK hW.box) (fun e => hW.ne.1 (Option.some.inj e))).trans hW.box, h1, hW.ge, hW.ne⟩, fun k hk => h2.block k (hPl k hk) (fun e => (hW.ne.2 k hk).2 (Option.some.inj e))⟩
  have HK : Hid (Kb w wr P bb bd bl mb N C s l T) := K
  have HI : Hid (InP wr a pts ∧ ∀ x, a = some x → pts ≠ [] → P x.block) := ⟨hin, ha⟩
  have HPL : Hid (∀ k, P k → k < wr.heap.size) := fun k hk => by
    obtain ⟨F, G, _, _, _, _, _, a6⟩ := K.wl.ex
    exact (a6 k (.inl hk)).1
  clear K hE hadd hfit hsy hin ha h64 hok hn
  generalize strOfNums B = st at *
  go_enter Tryz.func7, Tryz.ntmps7
  go_wp2_with fail
  refine KN.out.mono ?_
  rintro e w1 ⟨rfl, rfl⟩
  go_wp2_with fail
  refine KE.out.mono ?_
  rintro e w2 ⟨rfl, hb2⟩
  have K2 : Hid (Kb w w2 P bb bd bl mb N C s l T ∧ (∀ k, P k → w2.heap[k]? = w1.heap[k]?) ∧ w1.heap.size ≤ w2.heap.size) := ⟨(HK.out.keep hb2).less (fun _ h => .inl h), fun k hk => hb2.block k (HPL.out k hk), hb2.size⟩
  clear hb2 KE KN
  go_wp2_with fail
  refine (KW.out w2 K2.out.1).mono ?_
  rintro e w3 ⟨rfl, hk3, hp3⟩
  have K3 : Hid (Kb w w3 P bb bd bl mb (N + 2100) C s2 l2 T ∧ (∀ k, P k → w3.heap[k]? = w1.heap[k]?)) := ⟨hk3, fun k hk => (hp3 k hk).trans (K2.out.2.1 k hk)⟩
  have I3 : Hid (InP w3 a pts) := by
    rcases HI.out.1 with e | ⟨b, off, e, h1, h2⟩
    · exact .inl e
    · by_cases hne : pts = []
      · exact .inl hne
      · have hp := HI.out.2 _ e hne
        refine .inr ⟨b, off, e, ?_, fun i x hx => (h2 i x hx).kept (K3.out.2 b hp)⟩
        obtain ⟨F, G, _, _, _, _, _, a6⟩ := hk3.wl.ex
        exact (a6 b (.inl hp)).1
  obtain ⟨q0, q1⟩ := ko_cells hk3.box
  clear hk3 hp3 KW K2
  go_wp2_with fail
  refine (KC.out w3 K3.out.1 I3.out).mono ?_
  rintro e w4 ⟨rfl, hk4, hp4⟩
  have K4 : Hid (Kb w w4 P bb bd bl mb (N + 2100) (C + n) s2 l2 (chT T pts) ∧ ∀ k, P k → w4.heap[k]? = w1.heap[k]?) := ⟨hk4, fun k hk => (hp4 k hk).trans (K3.out.2 k hk)⟩
  clear hk4 hp4 q0 q1 KC
  go_wp2_with fail
  go_ret
  exact ⟨rfl, K4.out⟩
end Go.Proofs.YtcindeechmpalabGreat
namespace Go.Proofs.YtcindeechmpalabGreat
open Go.ChangeShapes Go.WideShapes Go.ChangeAt Go.RowKit Go.Deep Go.Maps
set_option linter.unusedVariables false
set_option linter.unusedSimpArgs false
/-- a batch done, plainly: the error, the log, the disk -/
def kdo (l : Lg) (s : Ds) (L pts : List Pt) : Int × Lg × Ds :=
  if (encA pts).1 ≠ 0 then ((encA pts).1, l, s)
  else if (l.add (encA pts).2).1 = 0 then (l.add (encA pts).2).2.sync s
  else if (l.add (encA pts).2).1 = 7 then l.reset s ((snapB (apL L pts)).map eB)
  else ((l.add (encA pts).2).1, l, s)
def kcm (l : Lg) (s : Ds) (L : List Pt) : Int × Lg × Ds := l.reset s ((snapB L).map eB)
theorem add_bad {l : Lg} {B : List Int} (h : (l.add B).1 ≠ 0) : (l.add B).2 = l := by
  unfold Lg.add at h ⊢
  split
  · rfl
  · split
    · rfl
    · rename_i h1 h2
      rw [if_neg h1, if_neg h2] at h
      exact absurd rfl h
theorem Kb.grown0 {w wr w' : World} {P : Nat → Prop} {bb bd bl mb N C : Nat} {s : Ds} {l : Lg} {T : ByteArray → Option Pt} {row : Option Nat} (h : Kb w wr P bb bd bl mb N C s l T) (hg : wr.grownBy w' row) (hr : ∀ k, row = some k → P k ∧ w.heap.size ≤ k) : Kb w w' P bb bd bl mb N C s l T := by
  have hb : bb < wr.heap.size := lt_of_heapK h.box
  exact ⟨h.wl.grown0 hg (fun k e => ⟨.inl (hr k e).1, (hr k e).2⟩), (hg.block bb hb (fun e => (h.ne.2 bb (hr bb e.symm).1).1 rfl)).trans h.box, h.mp.kept hg (fun e => (h.ne.2 mb (hr mb e.symm).1).2 rfl), h.ge, h.ne⟩
theorem Kb.plt {w wr : World} {P : Nat → Prop} {bb bd bl mb N C : Nat} {s : Ds} {l : Lg} {T : ByteArray → Option Pt} (h : Kb w wr P bb bd bl mb N C s l T) : ∀ k, P k → k < wr.heap.size := fun k hk => by
  obtain ⟨F, G, _, _, _, _, _, a6⟩ := h.wl.ex
  exact (a6 k (.inl hk)).1
theorem Kb.bel {w wr : World} {P : Nat → Prop} {bb bd bl mb N C : Nat} {s : Ds} {l : Lg} {T : ByteArray → Option Pt} (h : Kb w wr P bb bd bl mb N C s l T) : Below w.heap.size w wr := h.wl.bel
theorem kReset_is {w wr : World} {P : Nat → Prop} {bb bd bl mb N C : Nat} {s : Ds} {l : Lg} {T : ByteArray → Option Pt} (K : Kb w wr P bb bd bl mb N C s l T) (hN : N + 3000 < 999900) (v : Value) (base : Nat) (bs : List (List Pt)) (hv : RowsS wr base v (bs.map eB)) (hbs : ∀ b ∈ bs, encA b = (0, eB b)) (hn2 : bs.length ≤ 1000000) (hP : ∀ k, base ≤ k → k < wr.heap.size → P k) :
    Calls Tryz.prog 38 #[.pointer (some ⟨bl, 0, none⟩), v] wr fun e w' => e = .returned (.int .i64 (l.reset s (bs.map eB)).1) ∧ Kb w w' P bb bd bl mb (N + 2100) C (l.reset s (bs.map eB)).2.2 (l.reset s (bs.map eB)).2.1 T ∧ ∀ k, P k → w'.heap[k]? = wr.heap[k]? := by
  obtain ⟨a, c, rfl, ha, hin, _⟩ := hv.slice
  refine (wl_reset K.wl hN a (bs.map eB).length c (bs.map eB) rfl (by rw [List.length_map]; exact hn2) hin (fun e => by have := ha e; exact ⟨by rw [this.2]; rfl, this.1⟩) (fun B hB => ?_) (fun x hx hne => .inl (.inl ?_))).mono ?_
  · obtain ⟨b, hb, rfl⟩ := List.mem_map.1 hB
    exact (encA_bytes (hbs b hb)).1
  · have := hv.own x.block (by rw [hx]; rfl)
    exact hP _ this.1 this.2
  · rintro e w' ⟨rfl, h1, h2⟩
    exact ⟨rfl, K.step h1 h2, fun k hk => h2 k (.inl hk)⟩
/-- snapshot of a map that is not the database's, or is it, and Reset -/
theorem kSnapK {w wr : World} {P : Nat → Prop} {bb bd bl mb N C : Nat} {s : Ds} {l : Lg} {T : ByteArray → Option Pt} (K : Kb w wr P bb bd bl mb N C s l T) (m2 C2 : Nat) (T2 : ByteArray → Option Pt) (L2 : List Pt) (hm : Pm wr m2 C2 T2) (hC2 : C2 ≤ 1000000000) (hT : AtKey T2) (hL : LstP T2 allK L2) (hok : ∀ x ∈ L2, badP x = false) :
    Calls Tryz.prog 39 #[.map (some m2)] wr fun e w' => ∃ v, e = .returned v ∧ RowsS w' wr.heap.size v ((snapB L2).map eB) ∧ Kb w w' (fun k => P k ∨ (wr.heap.size ≤ k ∧ k < w'.heap.size)) bb bd bl mb N C s l T ∧ (∀ k, P k → w'.heap[k]? = wr.heap[k]?) ∧ wr.heap.size ≤ w'.heap.size := by
  refine (kSnap_is wr m2 C2 T2 L2 hm hC2 hT hL hok).mono ?_
  rintro e w' ⟨v, rfl, h1, hg⟩
  have hb : Below wr.heap.size wr w' := ⟨hg.os, hg.tape, hg.output, hg.size, fun k hk => hg.block k hk (by simp)⟩
  exact ⟨v, rfl, h1, K.keep hb, fun k hk => hb.block k (K.plt k hk), hb.size⟩
theorem inp_by {w w' : World} {P : Nat → Prop} {a : Option Addr} {pts : List Pt} (h : InP w a pts) (ha : ∀ x, a = some x → pts ≠ [] → P x.block) (hp : ∀ k, P k → w'.heap[k]? = w.heap[k]?) (hl : ∀ k, P k → k < w'.heap.size) : InP w' a pts := by
  rcases h with e | ⟨b, off, e, h1, h2⟩
  · exact .inl e
  · by_cases hne : pts = []
    · exact .inl hne
    · have hb := ha _ e hne
      exact .inr ⟨b, off, e, hl b hb, fun i x hx => (h2 i x hx).kept (hp b hb)⟩
end Go.Proofs.YtcindeechmpalabGreat
namespace Go.Proofs.YtcindeechmpalabGreat
open Go.ChangeShapes Go.WideShapes Go.ChangeAt Go.RowKit Go.Deep Go.Maps
set_option linter.unusedVariables false
set_option linter.unusedSimpArgs false
set_option maxRecDepth 100000 in
set_option maxHeartbeats 8000000 in
theorem kWrite_is {w wr : World} {P : Nat → Prop} {bb bd bl mb N C : Nat} {s : Ds} {l : Lg} {T : ByteArray → Option Pt} (K : Kb w wr P bb bd bl mb N C s l T) (hN : N + 3000 < 999900) (L pts : List Pt) (hC : C + pts.length ≤ 900000) (hLn : (apL L pts).length ≤ 1000000) (hL : LstP T allK L) (hT : AtKey T) (hok : ∀ x ∈ L, badP x = false) (B : List Int) (hE : encA pts = (0, B)) (hfit : 2 + l.ar * l.m + l.m ≤ s.D.length) (a : Option Addr) (n c : Nat) (hn : pts.length = n) (hin : InP wr a pts) (ha : ∀ x, a = some x → pts ≠ [] → P x.block) :
    Calls Tryz.prog 22 #[.pointer (some ⟨bb, 0, none⟩), .string (strOfNums B), .slice a n c] wr fun e w' => e = .returned (.int .i64 (kdo l s L pts).1) ∧ Kb w w' P bb bd bl mb (N + 2100) C (kdo l s L pts).2.2 (kdo l s L pts).2.1 T ∧ ∀ k, P k → w'.heap[k]? = wr.heap[k]? := by
  have hB := (encA_bytes hE).1
  obtain ⟨_, _, h64, hokp, _⟩ := encA_ok hE
  have hkdo : kdo l s L pts = if (l.add B).1 = 0 then (l.add B).2.sync s else if (l.add B).1 = 7 then l.reset s ((snapB (apL L pts)).map eB) else ((l.add B).1, l, s) := by
    unfold kdo
    rw [hE, if_neg (by simp)]
  by_cases h0 : (l.add B).1 = 0
  · rw [if_pos h0] at hkdo
    rw [hkdo]
    have har : (l.add B).2.ar = l.ar ∧ (l.add B).2.m = l.m := by unfold Lg.add; split <;> (try split) <;> exact ⟨rfl, rfl⟩
    exact kWrite_ok K hN B hB h0 (by rw [har.1, har.2]; exact hfit) _
  · have hl1 := add_bad h0
    have KA : Hid (Calls Tryz.prog 35 #[.pointer (some ⟨bl, 0, none⟩), .string (strOfNums B)] wr fun e w' => e = .returned (.int .i64 (l.add B).1) ∧ Kb w w' P bb bd bl mb N C s l T ∧ ∀ k, P k → w'.heap[k]? = wr.heap[k]?) := by
      have k := wl_add K.wl B hB
      rw [hl1] at k
      refine k.mono ?_
      rintro e w' ⟨rfl, h1, h2⟩
      exact ⟨rfl, K.step h1 h2, fun k hk => h2 k (.inl hk)⟩
    rw [if_neg h0] at hkdo
    obtain ⟨q0, q1⟩ := ko_cells K.box
    have HIN : Hid (InP wr a pts ∧ ∀ x, a = some x → pts ≠ [] → P x.block) := ⟨hin, ha⟩
    have HPL : Hid (∀ k, P k → k < wr.heap.size) := K.plt
    by_cases h7 : (l.add B).1 = 7
    · rw [if_pos h7] at hkdo
      rw [h7] at KA
      rw [hkdo]
      obtain ⟨hL2, hT2⟩ := apL_lst pts hL hT
      have hok2 := apL_good pts hok hokp
      obtain ⟨sn1, sn2, sn3⟩ := snap_all (apL L pts).length (apL L pts) (Nat.le_refl _) hok2
      have HSN : Hid (LstP (chT T pts) allK (apL L pts) ∧ AtKey (chT T pts) ∧ (∀ x ∈ apL L pts, badP x = false) ∧ (∀ b ∈ snapB (apL L pts), encA b = (0, eB b)) ∧ (snapB (apL L pts)).length ≤ 1000000) := ⟨hL2, hT2, hok2, sn2, by omega⟩
      have HPT : Hid (pts.length = n ∧ n ≤ 1000000 ∧ (∀ x ∈ pts, x.k.size ≤ 140737488355328) ∧ C + n ≤ 900000) := ⟨hn, by omega, fun x hx => by have := badP_no (hokp x hx); omega, by omega⟩
      generalize apL L pts = L2 at *
      obtain ⟨R, hR⟩ : ∃ R, l.reset s ((snapB L2).map eB) = R := ⟨_, rfl⟩
      have HR : Hid (l.reset s ((snapB L2).map eB) = R) := hR
      rw [hR]
      generalize strOfNums B = st at *
      clear hkdo h0 hl1 h7 hE hB hL2 hT2 hok2 sn1 sn2 sn3 hL hT hok hokp h64 K hin ha hn hR hC hLn hfit
      go_enter Tryz.func22, Tryz.ntmps22
      go_wp2_with fail
      refine KA.out.mono ?_
      rintro e w1 ⟨rfl, hk1, hp1⟩
      have K1 : Hid (Kb w w1 P bb bd bl mb N C s l T ∧ ∀ k, P k → w1.heap[k]? = wr.heap[k]?) := ⟨hk1, hp1⟩
      clear q0 q1 hk1 hp1 KA
      obtain ⟨q0, q1⟩ := ko_cells K1.out.1.box
      go_wp2_with fail
      refine (kClone_is w1 mb C T K1.out.1.mp).mono ?_
      rintro e w2 ⟨rfl, hm2, _, hb2⟩
      obtain ⟨m2, hm2e⟩ : ∃ m2, w1.heap.size = m2 := ⟨_, rfl⟩
      rw [hm2e] at hm2 ⊢
      have K2 : Hid (Kb w w2 (fun k => P k ∨ k = m2) bb bd bl mb N C s l T ∧ (∀ k, P k → w2.heap[k]? = wr.heap[k]?)) := by
        have hlt2 := hm2.lt
        exact ⟨(K1.out.1.keep hb2).less (fun k hk => match hk with | .inl h => .inl h | .inr e => .inr ⟨by omega, by omega⟩), fun k hk => (hb2.block k (K1.out.1.plt k hk)).trans (K1.out.2 k hk)⟩
      have M2 : Hid (Pm w2 m2 C T ∧ w.heap.size ≤ m2 ∧ (∀ k, P k → k ≠ m2)) := ⟨hm2, by rw [← hm2e]; exact K1.out.1.bel.size, fun k hk => by have := K1.out.1.plt k hk; omega⟩
      have KC : Hid (Calls Tryz.prog 19 #[.map (some m2), .slice a n c] w2 fun e w' => e = .returned (.tuple #[]) ∧ Pm w' m2 (C + n) (chT T pts) ∧ w2.grownBy w' (some m2)) := by
        have hi2 : InP w2 a pts := inp_by HIN.out.1 (fun x hx hne => HIN.out.2 x hx hne) K2.out.2 (fun k hk => K2.out.1.plt k (.inl hk))
        exact kSet_is pts n HPT.out.1 HPT.out.2.1 HPT.out.2.2.1 a c m2 C (by have := HPT.out; omega) T w2 hi2 M2.out.1 (fun x hx hne => M2.out.2.2 _ (HIN.out.2 x hx hne))
      clear hm2 hm2e hb2 q0 q1
      go_wp2_with fail
      refine KC.out.mono ?_
      rintro e w3 ⟨rfl, hm3, hg3⟩
      have K3 : Hid (Kb w w3 (fun k => P k ∨ k = m2) bb bd bl mb N C s l T ∧ (∀ k, P k → w3.heap[k]? = wr.heap[k]?)) := ⟨K2.out.1.grown0 hg3 (fun k e => by cases e; exact ⟨.inr rfl, M2.out.2.1⟩), fun k hk => (hg3.block k (K2.out.1.plt k (.inl hk)) (fun e => M2.out.2.2 k hk (Option.some.inj e))).trans (K2.out.2 k hk)⟩
      have M3 : Hid (Pm w3 m2 (C + n) (chT T pts)) := hm3
      clear hm3 hg3 KC K2 K1
      go_wp2_with fail
      refine wp_region_noPanic ?_
      refine wp_region_held_drew (S := (fun W : World => W.heap[bb]? = some (kO bl mb))) (by kernel_rfl) ?hSat (fun hHeld => ?restat)
      case hSat => exact K3.out.1.box
      case restat =>
      have K4 : Hid (Kb w (World.drew w3) (fun k => P k ∨ k = m2) bb bd bl mb N C s l T ∧ (∀ k, P k → (World.drew w3).heap[k]? = wr.heap[k]?)) := ⟨K3.out.1.grown0 (row := none) ⟨rfl, rfl, rfl, Nat.le_refl _, fun _ _ _ => rfl⟩ (fun k e => by cases e), K3.out.2⟩
      have M4 : Hid (Pm (World.drew w3) m2 (C + n) (chT T pts)) := M3.out.kept (row := none) ⟨rfl, rfl, rfl, Nat.le_refl _, fun _ _ _ => rfl⟩ (by simp)
      generalize World.drew w3 = u0 at hHeld K4 M4 ⊢
      clear K3 M3
      refine wpAnyH_take (i := 0) (v := .pointer (some ⟨bb, 0, none⟩)) rfl (by kernel_rfl) (by kernel_rfl) (by kernel_rfl) (fun _ _ _ h => h) (Or.inl ⟨by kernel_rfl, ?hy0A⟩) hHeld ?rest0A
      case hy0A => (intro u hSu; clear hSu; go_simp; try with_reducible rfl)
      try simp only [Act.put, List.setIfInBounds_toArray, List.set_cons_zero, List.set_cons_succ, List.getElem_toArray, List.getElem_cons_zero, List.getElem_cons_succ]
      refine wpAnyH_take (i := 1) (v := .pointer (some ⟨bb, 0, none⟩)) rfl (by kernel_rfl) (by kernel_rfl) (by kernel_rfl) (fun _ _ _ h => h) (Or.inl ⟨by kernel_rfl, ?hy1A⟩) hHeld ?rest1A
      case hy1A => (intro u hSu; clear hSu; go_simp; try with_reducible rfl)
      try simp only [Act.put, List.setIfInBounds_toArray, List.set_cons_zero, List.set_cons_succ, List.getElem_toArray, List.getElem_cons_zero, List.getElem_cons_succ]
      refine wpAnyH_take (i := 2) (v := .pointer (some ⟨bb, 0, none⟩)) rfl (by kernel_rfl) (by kernel_rfl) (by kernel_rfl) (fun _ _ _ h => h) (Or.inl ⟨by kernel_rfl, ?hy2A⟩) hHeld ?rest2A
      case hy2A => (intro u hSu; clear hSu; go_simp; try with_reducible rfl)
      try simp only [Act.put, List.setIfInBounds_toArray, List.set_cons_zero, List.set_cons_succ, List.getElem_toArray, List.getElem_cons_zero, List.getElem_cons_succ]
      refine wpAnyH_take (i := 3) (v := .pointer (some ⟨bl, 0, none⟩)) rfl (by kernel_rfl) (by kernel_rfl) (by kernel_rfl) (fun _ _ _ h => h) (Or.inl ⟨by kernel_rfl, ?hy3A⟩) hHeld ?rest3A
      case hy3A => (intro u hSu; obtain ⟨qf, qg⟩ := ko_cells hSu; clear hSu; go_simp; try with_reducible rfl)
      try simp only [Act.put, List.setIfInBounds_toArray, List.set_cons_zero, List.set_cons_succ, List.getElem_toArray, List.getElem_cons_zero, List.getElem_cons_succ]
      refine wpAnyH_take (i := 4) (v := .map (some m2)) rfl (by kernel_rfl) (by kernel_rfl) (by kernel_rfl) (fun _ _ _ h => h) (Or.inl ⟨by kernel_rfl, ?hy4A⟩) hHeld ?rest4A
      case hy4A => (intro u hSu; clear hSu; go_simp; try with_reducible rfl)
      try simp only [Act.put, List.setIfInBounds_toArray, List.set_cons_zero, List.set_cons_succ, List.getElem_toArray, List.getElem_cons_zero, List.getElem_cons_succ]
      have KSn : Hid (Calls Tryz.prog 39 #[.map (some m2)] u0 fun e w' => ∃ v, e = .returned v ∧ RowsS w' u0.heap.size v ((snapB L2).map eB) ∧ Kb w w' (fun k => (P k ∨ k = m2) ∨ (u0.heap.size ≤ k ∧ k < w'.heap.size)) bb bd bl mb N C s l T ∧ (∀ k, P k ∨ k = m2 → w'.heap[k]? = u0.heap[k]?) ∧ u0.heap.size ≤ w'.heap.size) := kSnapK K4.out.1 m2 (C + n) (chT T pts) L2 M4.out (by have := HPT.out; omega) HSN.out.2.1 HSN.out.1 HSN.out.2.2.1
      refine wpAnyH_ready (rs := [5]) (by kernel_rfl) (by simp) ?_
      refine AllReadyH.cons rfl (fun Kq hK => ?_) AllReadyH.nil
      go_simp
      refine KSn.out.mono ?_
      rintro e u1 ⟨v, rfl, hr1, hk1, hp1, hz1⟩
      have KRs : Hid (Calls Tryz.prog 38 #[.pointer (some ⟨bl, 0, none⟩), v] u1 fun e w' => e = .returned (.int .i64 R.1) ∧ Kb w w' P bb bd bl mb (N + 2100) C R.2.2 R.2.1 T ∧ ∀ k, P k → w'.heap[k]? = wr.heap[k]?) := by
        refine (kReset_is hk1 hN v u0.heap.size (snapB L2) hr1 HSN.out.2.2.2.1 HSN.out.2.2.2.2 (fun k h1 h2 => .inr ⟨h1, h2⟩)).mono ?_
        rw [HR.out]
        rintro e w' ⟨rfl, h1, h2⟩
        exact ⟨rfl, h1.less (fun k hk => .inl (.inl hk)), fun k hk => (h2 k (.inl (.inl hk))).trans ((hp1 k (.inl hk)).trans (K4.out.2 k hk))⟩
      obtain ⟨av, cv, hv, _⟩ := hr1.slice
      obtain ⟨n3, hn3⟩ : ∃ n3, ((snapB L2).map eB).length = n3 := ⟨_, rfl⟩
      rw [hn3] at hv
      subst hv
      clear hn3
      have HB1 : Hid (u1.heap[bb]? = some (kO bl mb)) := hk1.box
      clear hr1 hk1 hp1 hz1 KSn
      go_wp2_with fail
      refine hK.out _ _ ?hS5A (fun hHeld => ?rest5A)
      case hS5A => exact HB1.out
      clear hK Kq
      try simp only [Act.put, List.setIfInBounds_toArray, List.set_cons_zero, List.set_cons_succ, List.getElem_toArray, List.getElem_cons_zero, List.getElem_cons_succ]
      refine wpAnyH_ready (rs := [6]) (by kernel_rfl) (by simp) ?_
      refine AllReadyH.cons rfl (fun Kq hK => ?_) AllReadyH.nil
      go_simp
      refine KRs.out.mono ?_
      rintro e u2 ⟨rfl, hk2, hp2⟩
      have K5 : Hid (Kb w u2 P bb bd bl mb (N + 2100) C R.2.2 R.2.1 T ∧ ∀ k, P k → u2.heap[k]? = wr.heap[k]?) := ⟨hk2, hp2⟩
      clear hk2 hp2
      go_wp2_with fail
      refine hK.out _ _ ?hS6A (fun hHeld => ?rest6A)
      case hS6A => exact K5.out.1.box
      clear hK Kq
      try simp only [Act.put, List.setIfInBounds_toArray, List.set_cons_zero, List.set_cons_succ, List.getElem_toArray, List.getElem_cons_zero, List.getElem_cons_succ]
      refine wpAnyH_take (i := 7) (v := .int .i64 R.1) rfl (by kernel_rfl) (by kernel_rfl) (by kernel_rfl) (fun _ _ _ h => h) (Or.inl ⟨by kernel_rfl, ?hy7A⟩) hHeld ?rest7A
      case hy7A => (intro u hSu; clear hSu; go_simp; try with_reducible rfl)
      try simp only [Act.put, List.setIfInBounds_toArray, List.set_cons_zero, List.set_cons_succ, List.getElem_toArray, List.getElem_cons_zero, List.getElem_cons_succ]
      refine wpAnyH_done (by kernel_rfl) ?_ _
      refine NoPanic.normal ?_
      go_wp2_with fail
      go_ret
      exact ⟨rfl, K5.out⟩
    · rw [if_neg h7] at hkdo
      rw [hkdo]
      have e0 : ((l.add B).1 == 0) = false := by simp [h0]
      have e7 : ((l.add B).1 == 7) = false := by simp [h7]
      generalize (l.add B).1 = q at *
      generalize strOfNums B = st at *
      clear hkdo hl1 hE hB hL hT hok hokp h64 K hin ha hn hC hLn hfit
      go_enter Tryz.func22, Tryz.ntmps22
      go_wp2_with fail
      refine KA.out.mono ?_
      rintro e w1 ⟨rfl, hk1, hp1⟩
      have K1 : Hid (Kb w w1 P bb bd bl mb (N + 2100) C s l T ∧ ∀ k, P k → w1.heap[k]? = wr.heap[k]?) := ⟨hk1.more (by omega) (Nat.le_refl _), hp1⟩
      clear q0 q1 hk1 hp1 KA
      go_wp2_with fail
      go_ret
      exact ⟨rfl, K1.out⟩
end Go.Proofs.YtcindeechmpalabGreat
namespace Go.Proofs.YtcindeechmpalabGreat
open Go.ChangeShapes Go.WideShapes Go.ChangeAt Go.RowKit Go.Deep Go.Maps
set_option linter.unusedVariables false
set_option linter.unusedSimpArgs false
set_option maxRecDepth 100000 in
set_option maxHeartbeats 4000000 in
theorem kDo_is {w wr : World} {P : Nat → Prop} {bb bd bl mb N C : Nat} {s : Ds} {l : Lg} {T : ByteArray → Option Pt} (K : Kb w wr P bb bd bl mb N C s l T) (hN : N + 3000 < 999900) (L pts : List Pt) (hf : FitP pts) (hpl : pts.length ≤ 1000000) (hC : C + pts.length ≤ 900000) (hLn : (apL L pts).length ≤ 1000000) (hL : LstP T allK L) (hT : AtKey T) (hok : ∀ x ∈ L, badP x = false) (hfit : 2 + l.ar * l.m + l.m ≤ s.D.length) (a : Option Addr) (n c : Nat) (hn : pts.length = n) (hin : InP wr a pts) (ha : ∀ x, a = some x → pts ≠ [] → P x.block) :
    Calls Tryz.prog 7 #[.pointer (some ⟨bb, 0, none⟩), .slice a n c] wr fun e w' => e = .returned (.int .i64 (kdo l s L pts).1) ∧ Kb w w' P bb bd bl mb (N + 2100) (C + n) (kdo l s L pts).2.2 (kdo l s L pts).2.1 (if (kdo l s L pts).1 = 0 then chT T pts else T) ∧ ∀ k, P k → w'.heap[k]? = wr.heap[k]? := by
  have KN : Hid (Calls Tryz.prog 20 #[.pointer (some ⟨bb, 0, none⟩)] wr fun e w' => e = .returned (.bool false) ∧ w' = wr) := kNone_is wr bb bl mb K.box
  have KE : Hid (Calls Tryz.prog 21 #[.slice a n c] wr fun e w' => e = .returned (.tuple #[.string (strOfNums (encA pts).2), .int .i64 (encA pts).1]) ∧ Below wr.heap.size wr w') := kEncode_is pts n hn (by omega) hf a c wr hin
  have HK : Hid (Kb w wr P bb bd bl mb N C s l T) := K
  have HI : Hid (InP wr a pts ∧ ∀ x, a = some x → pts ≠ [] → P x.block) := ⟨hin, ha⟩
  by_cases h0 : (encA pts).1 = 0
  · obtain ⟨B, hE⟩ : ∃ B, encA pts = (0, B) := ⟨(encA pts).2, by rw [← h0]⟩
    obtain ⟨_, _, h64, hokp, _⟩ := encA_ok hE
    rw [hE] at KE
    have KW : Hid (∀ W, Kb w W P bb bd bl mb N C s l T → InP W a pts → Calls Tryz.prog 22 #[.pointer (some ⟨bb, 0, none⟩), .string (strOfNums B), .slice a n c] W fun e w' => e = .returned (.int .i64 (kdo l s L pts).1) ∧ Kb w w' P bb bd bl mb (N + 2100) C (kdo l s L pts).2.2 (kdo l s L pts).2.1 T ∧ ∀ k, P k → w'.heap[k]? = W.heap[k]?) := fun W hW hi => kWrite_is hW hN L pts hC hLn hL hT hok B hE hfit a n c hn hi ha
    obtain ⟨R, hR⟩ : ∃ R, kdo l s L pts = R := ⟨_, rfl⟩
    rw [hR] at KW ⊢
    have KC : Hid (∀ W, Kb w W P bb bd bl mb (N + 2100) C R.2.2 R.2.1 T → InP W a pts → Calls Tryz.prog 19 #[.map (some mb), .slice a n c] W fun e w' => e = .returned (.tuple #[]) ∧ Kb w w' P bb bd bl mb (N + 2100) (C + n) R.2.2 R.2.1 (chT T pts) ∧ ∀ k, P k → w'.heap[k]? = W.heap[k]?) := fun W hW hi => by
      refine (kSet_is pts n hn (by omega) (fun x hx => by have := badP_no (hokp x hx); omega) a c mb C (by omega) T W hi hW.mp (fun x hx hne => (hW.ne.2 _ (ha x hx hne)).2)).mono ?_
      rintro e w' ⟨rfl, h1, h2⟩
      exact ⟨rfl, ⟨hW.wl.grown0 h2 (fun k e => ⟨.inr (.inr (Option.some.inj e).symm), by rw [← Option.some.inj e]; exact hW.ge.2⟩), (h2.block bb (lt_of_heapK hW.box) (fun e => hW.ne.1 (Option.some.inj e))).trans hW.box, h1, hW.ge, hW.ne⟩, fun k hk => h2.block k (hW.plt k hk) (fun e => (hW.ne.2 k hk).2 (Option.some.inj e))⟩
    generalize strOfNums B = st at *
    clear K hE hin ha h64 hokp hn h0 hfit hL hT hok hLn hC hf hpl hR
    obtain ⟨R1, R2, R3⟩ := R
    simp only at KW KC ⊢
    obtain ⟨T9, hT9⟩ : ∃ T9, (if R1 = 0 then chT T pts else T) = T9 := ⟨_, rfl⟩
    have HT9 : Hid ((R1 = 0 → T9 = chT T pts) ∧ (R1 ≠ 0 → T9 = T)) := ⟨fun e => by rw [← hT9, if_pos e], fun e => by rw [← hT9, if_neg e]⟩
    rw [hT9]
    clear hT9
    go_enter Tryz.func7, Tryz.ntmps7
    go_wp2_with fail
    refine KN.out.mono ?_
    rintro e w1 ⟨rfl, rfl⟩
    go_wp2_with fail
    refine KE.out.mono ?_
    rintro e w2 ⟨rfl, hb2⟩
    have K2 : Hid (Kb w w2 P bb bd bl mb N C s l T ∧ (∀ k, P k → w2.heap[k]? = w1.heap[k]?) ∧ InP w2 a pts) := ⟨(HK.out.keep hb2).less (fun _ h => .inl h), fun k hk => hb2.block k (HK.out.plt k hk), HI.out.1.keep hb2⟩
    clear hb2 KE KN
    go_wp2_with fail
    refine (KW.out w2 K2.out.1 K2.out.2.2).mono ?_
    rintro e w3 ⟨rfl, hk3, hp3⟩
    have K3 : Hid (Kb w w3 P bb bd bl mb (N + 2100) C R3 R2 T ∧ (∀ k, P k → w3.heap[k]? = w1.heap[k]?)) := ⟨hk3, fun k hk => (hp3 k hk).trans (K2.out.2.1 k hk)⟩
    have I3 : Hid (InP w3 a pts) := inp_by HI.out.1 HI.out.2 K3.out.2 (fun k hk => hk3.plt k hk)
    obtain ⟨q0, q1⟩ := ko_cells hk3.box
    clear hk3 hp3 KW K2
    by_cases hr : R1 = 0
    · subst hr
      go_wp2_with fail
      refine (KC.out w3 K3.out.1 I3.out).mono ?_
      rintro e w4 ⟨rfl, hk4, hp4⟩
      have K4 : Hid (Kb w w4 P bb bd bl mb (N + 2100) (C + n) R3 R2 T9 ∧ ∀ k, P k → w4.heap[k]? = w1.heap[k]?) := ⟨(HT9.out.1 trivial).symm ▸ hk4, fun k hk => (hp4 k hk).trans (K3.out.2 k hk)⟩
      clear hk4 hp4 q0 q1 KC
      go_wp2_with fail
      go_ret
      exact ⟨rfl, K4.out⟩
    · have e1 : (R1 != 0) = true := by simp [bne, hr]
      have K4 : Hid (Kb w w3 P bb bd bl mb (N + 2100) (C + n) R3 R2 T9 ∧ ∀ k, P k → w3.heap[k]? = w1.heap[k]?) := ⟨by rw [HT9.out.2 hr]; exact K3.out.1.more (Nat.le_refl _) (by omega), K3.out.2⟩
      clear q0 q1 KC hr
      go_wp2_with fail
      go_ret
      exact ⟨rfl, K4.out⟩
  · have hk : kdo l s L pts = ((encA pts).1, l, s) := by unfold kdo; rw [if_pos h0]
    rw [hk]
    generalize encA pts = R at *
    obtain ⟨R1, R2⟩ := R
    simp only at KE h0 ⊢
    have HF : Hid (∀ w', Below wr.heap.size wr w' → Kb w w' P bb bd bl mb (N + 2100) (C + n) s l (if R1 = 0 then chT T pts else T) ∧ ∀ k, P k → w'.heap[k]? = wr.heap[k]?) := fun w' hb => ⟨by rw [if_neg h0]; exact ((HK.out.keep hb).less (fun _ h => .inl h)).more (by omega) (by omega), fun k hk => hb.block k (HK.out.plt k hk)⟩
    generalize (if R1 = 0 then chT T pts else T) = T9 at *
    have e1 : (R1 != 0) = true := by simp [bne, h0]
    generalize strOfNums R2 = st at *
    clear K hin ha hn hfit hL hT hok hLn hC hf hpl hk h0
    go_enter Tryz.func7, Tryz.ntmps7
    go_wp2_with fail
    refine KN.out.mono ?_
    rintro e w1 ⟨rfl, rfl⟩
    go_wp2_with fail
    refine KE.out.mono ?_
    rintro e w2 ⟨rfl, hb2⟩
    have F2 := HF.out w2 hb2
    have HF2 : Hid (Kb w w2 P bb bd bl mb (N + 2100) (C + n) s l T9 ∧ ∀ k, P k → w2.heap[k]? = w1.heap[k]?) := F2
    clear hb2 F2 HF KE KN
    go_wp2_with fail
    go_ret
    exact ⟨rfl, HF2.out⟩
end Go.Proofs.YtcindeechmpalabGreat
namespace Go.Proofs.YtcindeechmpalabGreat
open Go.ChangeShapes Go.WideShapes Go.ChangeAt Go.RowKit Go.Deep Go.Maps
set_option linter.unusedVariables false
set_option linter.unusedSimpArgs false
end Go.Proofs.YtcindeechmpalabGreat
namespace Go.Proofs.YtcindeechmpalabGreat
set_option linter.unusedVariables false
/-- what a log's records leave: a map, and its keys, rising -/
def Rec (R : List (List Int)) (T : ByteArray → Option Pt) (L : List Pt) : Prop := ∃ bs, Bts R bs ∧ chTs bs = T ∧ L = apL [] bs.flatten
theorem Rec.lst {R : List (List Int)} {T : ByteArray → Option Pt} {L : List Pt} (h : Rec R T L) : LstP T allK L ∧ AtKey T := by
  obtain ⟨bs, h1, rfl, rfl⟩ := h
  rw [chTs_flat]
  exact apL_lst bs.flatten noT_lst noT_at
theorem Rec.ok {R : List (List Int)} {T : ByteArray → Option Pt} {L : List Pt} (h : Rec R T L) : ∀ x ∈ L, badP x = false := by
  obtain ⟨bs, h1, rfl, rfl⟩ := h
  refine apL_good _ (fun x hx => by cases hx) (fun x hx => ?_)
  obtain ⟨b, hb, hx⟩ := List.mem_flatten.1 hx
  exact (encA_ok (h1.2 b hb)).2.2.2.1 x hx
theorem Rec.nil : Rec [] noT [] := ⟨[], ⟨rfl, fun b hb => (by cases hb)⟩, rfl, rfl⟩
theorem apL_app (L a b : List Pt) : apL L (a ++ b) = apL (apL L a) b := by unfold apL; rw [List.foldl_append]
theorem Rec.snoc {R : List (List Int)} {T : ByteArray → Option Pt} {L pts : List Pt} {B : List Int} (h : Rec R T L) (hE : encA pts = (0, B)) : Rec (R ++ [B]) (chT T pts) (apL L pts) := by
  obtain ⟨bs, ⟨h1, h2⟩, rfl, rfl⟩ := h
  have hB := (encA_ok hE).1
  refine ⟨bs ++ [pts], ⟨?_, fun b hb => ?_⟩, chTs_snoc _ _, ?_⟩
  · rw [List.map_append, h1, hB]
    rfl
  · rcases List.mem_append.1 hb with e | e
    · exact h2 b e
    · have : b = pts := by simpa using e
      rw [this, hE, hB]
  · rw [List.flatten_append, apL_app]
    simp
theorem apL_self {T : ByteArray → Option Pt} {L : List Pt} (h : LstP T allK L) (hT : AtKey T) : apL [] L = L := by
  refine lst_uniq (T := T) (f := allK) ?_ h
  have := (apL_lst L noT_lst noT_at).1
  rw [lst_T h hT] at this
  exact this
theorem Rec.snap {T : ByteArray → Option Pt} {L : List Pt} (h : LstP T allK L) (hT : AtKey T) (hok : ∀ x ∈ L, badP x = false) : Rec ((snapB L).map eB) T L := by
  obtain ⟨h1, h2⟩ := snap_bts hok
  obtain ⟨s1, _, _⟩ := snap_all L.length L (Nat.le_refl _) hok
  exact ⟨snapB L, h1, by rw [h2, lst_T h hT], by rw [s1, apL_self h hT]⟩
theorem snap_bytes {L : List Pt} (hok : ∀ x ∈ L, badP x = false) : ∀ B ∈ (snapB L).map eB, IsBytes B := fun B hB => by
  obtain ⟨b, hb, rfl⟩ := List.mem_map.1 hB
  exact (encA_bytes ((snap_all L.length L (Nat.le_refl _) hok).2.1 b hb)).1
/-- the code, the log and the disk behind a call: it was done, or cut off, or refused -/
def KvRun (n : Nat) (s : Ds) (l : Lg) (T' : ByteArray → Option Pt) (L' : List Pt) (X : Int × Lg × Ds) : Prop :=
  (X.1 = 0 ∧ Gu X.2.2 X.2.1 ∧ X.2.1.W = [] ∧ Rec X.2.1.R T' L' ∧ X.2.2.D.length = s.D.length ∧ X.2.1.no ≤ l.no + 1 ∧ X.2.1.m = l.m ∧ X.2.1.R.length ≤ max (l.R.length + 1) L'.length) ∨
  (X.1 = 15 ∧ X.2.1.lost = true ∧ X.2.2.up = false ∧ X.2.2.D.length = s.D.length ∧ X.2.1.no = l.no ∧ X.2.1.m = l.m ∧ X.2.1.ar = l.ar ∧ ∃ R', Rec R' T' L' ∧ R'.length ≤ max (l.R.length + 1) L'.length ∧ ∀ keep, Aft n (X.2.2.cr keep) l.R R') ∨
  ((X.1 = 2 ∨ X.1 = 3 ∨ X.1 = 7) ∧ X.2.1 = l ∧ X.2.2 = s)
theorem kreset_any {n : Nat} {s : Ds} {l : Lg} {T : ByteArray → Option Pt} {L : List Pt} (h : Gu s l) (hno : l.no < 1152921504606846976) (hW : l.W = []) (hL : LstP T allK L) (hT : AtKey T) (hok : ∀ x ∈ L, badP x = false) : KvRun n s l T L (l.reset s ((snapB L).map eB)) := by
  have hb := snap_bytes hok
  have hsl : ((snapB L).map eB).length ≤ max (l.R.length + 1) L.length := by rw [List.length_map]; exact Nat.le_trans (snap_all L.length L (Nat.le_refl _) hok).2.2 (Nat.le_max_right _ _)
  obtain ⟨c, l', s', e, hor⟩ := reset_any (n := n) h hno ((snapB L).map eB) hb
  rw [e]
  rcases hor with ⟨rfl, h1, h2, h3, h4, h5, h6⟩ | ⟨rfl, rfl, h2, h3, h4⟩ | ⟨hc, rfl, rfl⟩
  · exact .inl ⟨rfl, h3, h2, by rw [h1]; exact Rec.snap hL hT hok, h4, h5, h6, by show l'.R.length ≤ _; rw [h1]; exact hsl⟩
  · exact .inr (.inl ⟨rfl, rfl, h2, h3, rfl, rfl, rfl, _, Rec.snap hL hT hok, hsl, h4⟩)
  · refine .inr (.inr ⟨?_, rfl, rfl⟩)
    rcases hc with rfl | rfl | rfl
    · exact .inr (.inl rfl)
    · exact .inr (.inr rfl)
    · exfalso
      by_cases hf : (frO ((snapB L).map eB) (64 * l'.m)).2 = 0
      · obtain ⟨c1, l1, s1, e1, ho1⟩ := reset_cut h hno hW _ hb hf
        rw [e] at e1
        have := (Prod.mk.inj e1).1
        rcases ho1 with ⟨h1, _⟩ | ⟨h1, _⟩ <;> omega
      · have e1 : l'.reset s' ((snapB L).map eB) = ((frO ((snapB L).map eB) (64 * l'.m)).2, l', s') := by
          unfold Lg.reset
          rw [if_neg (by rw [h.gd.lost]; simp), if_neg (by simpa using hW), if_pos hf]
        rw [e] at e1
        have := (Prod.mk.inj e1).1
        rcases frO_code ((snapB L).map eB) (64 * l'.m) with h1 | h1 | h1 <;> omega
theorem kcm_any {n : Nat} {s : Ds} {l : Lg} {T : ByteArray → Option Pt} {L : List Pt} (h : Gu s l) (hno : l.no < 1152921504606846976) (hW : l.W = []) (hr : Rec l.R T L) : KvRun n s l T L (kcm l s L) := kreset_any h hno hW hr.lst.1 hr.lst.2 hr.ok
theorem add_good {l : Lg} {B : List Int} (h : (l.add B).1 = 0) : (l.add B).2 = { l with W := l.W ++ [B] } := by
  unfold Lg.add at h ⊢
  by_cases h1 : l.lost = true
  · rw [if_pos h1] at h; exact absurd h (by show ¬ (15 : Int) = 0; omega)
  · rw [if_neg h1] at h ⊢
    by_cases h2 : (frO [B] l.room).2 ≠ 0
    · rw [if_pos h2] at h; exact absurd h h2
    · rw [if_neg h2]
theorem kdo_any {n : Nat} {s : Ds} {l : Lg} {T : ByteArray → Option Pt} {L : List Pt} (pts : List Pt) (h : Gu s l) (hno : l.no < 1152921504606846976) (hW : l.W = []) (hr : Rec l.R T L) : KvRun n s l (chT T pts) (apL L pts) (kdo l s L pts) := by
  by_cases h0 : (encA pts).1 = 0
  · obtain ⟨B, hE⟩ : ∃ B, encA pts = (0, B) := ⟨(encA pts).2, by rw [← h0]⟩
    obtain ⟨_, _, h64, hokp, _⟩ := encA_ok hE
    have hB := (encA_bytes hE).1
    have hk : kdo l s L pts = if (l.add B).1 = 0 then (l.add B).2.sync s else if (l.add B).1 = 7 then l.reset s ((snapB (apL L pts)).map eB) else ((l.add B).1, l, s) := by
      unfold kdo
      rw [hE, if_neg (by simp)]
    rw [hk]
    by_cases ha : (l.add B).1 = 0
    · rw [if_pos ha]
      have hl1 := add_good ha
      have g1 := add_gu h B hB
      rw [hl1] at g1 ⊢
      obtain ⟨c, l', s', e, hor⟩ := sync_any (n := n) g1 hno
      rw [e]
      have hR : l.R ++ (l.W ++ [B]) = l.R ++ [B] := by rw [hW]; rfl
      rcases hor with ⟨rfl, h1, h2, h3, h4, h5, h6⟩ | ⟨rfl, rfl, h2, h3, h4⟩
      · have h1' : l'.R = l.R ++ (l.W ++ [B]) := h1
        refine .inl ⟨rfl, h3, h2, ?_, h4, h5, h6, ?_⟩
        · show Rec l'.R _ _
          rw [h1', hR]
          exact hr.snoc hE
        · show l'.R.length ≤ _
          rw [h1', hR, List.length_append]
          exact Nat.le_max_left _ _
      · refine .inr (.inl ⟨rfl, rfl, h2, h3, rfl, rfl, rfl, l.R ++ [B], hr.snoc hE, by rw [List.length_append]; exact Nat.le_max_left _ _, fun keep => ?_⟩)
        have := h4 keep
        have h4' : Aft n (s'.cr keep) l.R (l.R ++ (l.W ++ [B])) := this
        rw [hR] at h4'
        exact h4'
    · rw [if_neg ha]
      obtain ⟨hL2, hT2⟩ := apL_lst pts hr.lst.1 hr.lst.2
      by_cases h7 : (l.add B).1 = 7
      · rw [if_pos h7]
        exact kreset_any h hno hW hL2 hT2 (apL_good pts hr.ok hokp)
      · rw [if_neg h7]
        refine .inr (.inr ⟨.inr (.inl ?_), rfl, rfl⟩)
        show (l.add B).1 = 3
        unfold Lg.add at ha h7 ⊢
        rw [if_neg (by rw [h.gd.lost]; simp)] at ha h7 ⊢
        by_cases h2 : (frO [B] l.room).2 ≠ 0
        · rw [if_pos h2] at ha h7 ⊢
          rcases frO_code [B] l.room with h1 | h1 | h1
          · exact absurd h1 ha
          · exact h1
          · exact absurd h1 h7
        · rw [if_neg h2] at ha
          exact absurd rfl ha
  · have hk : kdo l s L pts = ((encA pts).1, l, s) := by unfold kdo; rw [if_pos h0]
    rw [hk]
    refine .inr (.inr ⟨?_, rfl, rfl⟩)
    rcases encA_code pts with h1 | h1 | h1
    · exact absurd h1 h0
    · exact .inl h1
    · exact .inr (.inl h1)
/-- a disk whose power was not lost, and on which no fuse burns -/
theorem gu_free {s : Ds} {l : Lg} (h : Gu s l) (hf : s.fu = -1) : Gd s l := by
  have e : ({ s with fu := -1 } : Ds) = s := by rw [← hf]
  have := h.gd
  rw [e] at this
  exact this
theorem gd_fit {s : Ds} {l : Lg} (h : Gu s l) : 2 + l.ar * l.m + l.m ≤ s.D.length := by
  have hn := h.gd.nums
  have hlen : 6 ≤ s.D.length := hn.len.1
  have hm : l.m = s.am := h.gd.am
  have hm2 : s.am = (s.D.length - 2) / 2 := rfl
  have har := hn.aa
  rcases (by omega : l.ar = 0 ∨ l.ar = 1) with e | e <;> rw [e] <;> omega
end Go.Proofs.YtcindeechmpalabGreat
namespace Go.Proofs.YtcindeechmpalabGreat
open Go.ChangeShapes Go.WideShapes Go.ChangeAt Go.RowKit Go.Deep
set_option linter.unusedVariables false
set_option linter.unusedSimpArgs false
theorem toList_eq (a b : ByteArray) : (a.toList == b.toList) = decide (a = b) := by
  rw [Bool.eq_iff_iff, beq_iff_eq, decide_eq_true_iff]
  refine ⟨fun h => ?_, fun h => by rw [h]⟩
  have : sN a = sN b := by unfold sN; rw [h]
  rw [← sN_str a, ← sN_str b, this]
/-- two changes are alike -/
def ptE (x y : Pt) : Bool := decide (x.k = y.k) && (decide (x.v = y.v) && (x.g == y.g))
theorem ptE_iff (x y : Pt) : ptE x y = true ↔ x = y := by
  obtain ⟨a, b, c⟩ := x
  obtain ⟨a', b', c'⟩ := y
  unfold ptE
  simp
def sameB : List Pt → List Pt → Bool
  | [], [] => true
  | x :: l, y :: k => ptE x y && sameB l k
  | _, _ => false
theorem sameB_iff : ∀ l k : List Pt, sameB l k = true ↔ l = k
  | [], [] => by simp [sameB]
  | [], _ :: _ => by simp [sameB]
  | _ :: _, [] => by simp [sameB]
  | x :: l, y :: k => by
    rw [sameB, Bool.and_eq_true, ptE_iff, sameB_iff l k]
    simp
theorem sameB_no {l k : List Pt} (h : l ≠ k) : sameB l k = false := by
  cases hb : sameB l k with
  | false => rfl
  | true => exact absurd ((sameB_iff l k).1 hb) h
theorem equal_put (d : Nat) (x y : Pt) (w : World) : (Op.equalIn (d + 2) 32 (pA x) (pA y)).run Tryz.prog w = .ok (ptE x y) w := by
  unfold pA pC
  rw [run_equalIn_struct w (d + 1) 32 _ _ (by simp [Program.fieldsOf, Tryz.underlying32]) (by kernel_rfl)]
  have e1 := toList_eq x.k y.k
  have e2 := toList_eq x.v y.v
  unfold ptE
  simp only [Program.fieldsOf, Tryz.underlying32, Op.eqFields]
  simp [part, isAgg, run_underlying Tryz.underlying9, run_underlying Tryz.underlying4, run_equalIn_string w d 9 _ _ Tryz.underlying9, run_equalIn_bool w d 4 _ _ Tryz.underlying4, e1, e2]
  by_cases h1 : x.k = y.k <;> by_cases h2 : x.v = y.v <;> cases x.g <;> cases y.g <;> simp [h1, h2]
theorem guardP : Tryz.prog.eqGuardType Tryz.prog.depth 32 = false := by kernel_rfl
theorem InP.cells {w w' : World} {h : Nat} {a : Option Addr} {l : List Pt} (hi : InP w a l) (hw : Below w.heap.size w w') {j : Nat} {x : Pt} (hx : l[j]? = some x) : ∃ b off, a = some ⟨b, off, none⟩ ∧ Pc w' b (off + j * 3) x := by
  obtain ⟨b, off, e, hb, hp⟩ := hi.at hx
  exact ⟨b, off, e, hp.kept (hw.block b hb)⟩
set_option maxRecDepth 100000 in
set_option maxHeartbeats 4000000 in
theorem ksame_is (l1 l2 : List Pt) (n1 n2 c1 c2 : Nat) (a1 a2 : Option Addr) (w : World) (h1 : l1.length = n1) (h2 : l2.length = n2) (b1 : n1 ≤ 140737488355328) (b2 : n2 ≤ 140737488355328) (i1 : InP w a1 l1) (i2 : InP w a2 l2) :
    Calls Tryz.prog 13 #[.slice a1 n1 c1, .slice a2 n2 c2] w fun e w' => e = .returned (.bool (sameB l1 l2)) ∧ Below w.heap.size w w' := by
  have HR0 : Hid (∀ r, sameB l1 l2 = r → (l1 = l2 → r = true) ∧ (l1 ≠ l2 → r = false)) := fun r hr => by rw [← hr]; exact ⟨(sameB_iff l1 l2).2, sameB_no⟩
  obtain ⟨r, hr⟩ : ∃ r, sameB l1 l2 = r := ⟨_, rfl⟩
  have HR : Hid ((l1 = l2 → r = true) ∧ (l1 ≠ l2 → r = false)) := HR0.out r hr
  rw [hr]
  clear hr HR0
  by_cases hne : n1 = n2
  · subst hne
    have H1 : Hid (l1.length = n1) := h1
    have H2 : Hid (l2.length = n1) := h2
    have I1 : Hid (InP w a1 l1) := i1
    have I2 : Hid (InP w a2 l2) := i2
    clear h1 h2 i1 i2
    go_enter Tryz.func13, Tryz.ntmps13
    go_wp2_with fail
    go_loopg [5] n1 (fun g i wr => ∃ (j : Nat), j ≤ n1 ∧ g = n1 - j ∧ i = .int .i64 j ∧ Hid (l1.take j = l2.take j) ∧ Hid (Below w.heap.size w wr))
    case atStart => exact ⟨0, Nat.zero_le _, rfl, rfl, rfl, Below.refl _ _⟩
    case round =>
      obtain ⟨j, hj, rfl, rfl, HT, HW⟩ := hrel
      by_cases hlt : j < n1
      · have j1 : (j : Int) < (n1 : Int) := by omega
        obtain ⟨x, hx⟩ : ∃ x, l1[j]? = some x := ⟨l1[j]'(by rw [H1.out]; exact hlt), by simp [H1.out, hlt]⟩
        obtain ⟨y, hy⟩ : ∃ y, l2[j]? = some y := ⟨l2[j]'(by rw [H2.out]; exact hlt), by simp [H2.out, hlt]⟩
        obtain ⟨p1, o1, rfl, hr1⟩ := I1.out.cells (h := 0) HW.out hx
        obtain ⟨p2, o2, rfl, hr2⟩ := I2.out.cells (h := 0) HW.out hy
        obtain ⟨c0, c1', c2'⟩ := hr1
        obtain ⟨d0, d1, d2⟩ := hr2
        have HX : Hid (l1[j]? = some x) := hx
        have HY : Hid (l2[j]? = some y) := hy
        have hq : ∀ w, (Op.equalIn 10000 32 (.agg #[.string x.k, .string x.v, .bool x.g]) (.agg #[.string y.k, .string y.v, .bool y.g])).run Tryz.prog w = .ok (ptE x y) w := equal_put 9998 x y
        have hg := guardP
        have HXY : Hid (ptE x y = true ↔ x = y) := ptE_iff x y
        clear hx hy
        cases hxy : ptE x y with
        | true =>
          rw [hxy] at hq HXY
          clear hxy
          go_wp2_with fail
          go_quiet (fail)
          go_wp2_with fail
          go_roundg (n1 - (j + 1))
          case measure => omega
          case rel =>
            refine ⟨j + 1, by omega, rfl, by go_num, ?_, below_drewN HW.out _⟩
            obtain ⟨q1, e1⟩ := List.getElem?_eq_some_iff.1 HX.out
            obtain ⟨q2, e2⟩ := List.getElem?_eq_some_iff.1 HY.out
            show _ = _
            rw [List.take_succ_eq_append_getElem q1, List.take_succ_eq_append_getElem q2, HT.out, e1, e2, HXY.out.1 trivial]
        | false =>
          rw [hxy] at hq HXY
          have HF : Hid (l1 ≠ l2) := by
            intro e
            subst e
            have := HX.out.symm.trans HY.out
            have := HXY.out.2 (Option.some.inj this)
            cases this
          clear hxy
          go_wp2_with fail
          go_quiet (fail)
          go_wp2_with fail
          go_ret
          exact ⟨by rw [HR.out.2 HF.out]; rfl, below_drewN HW.out _⟩
      · obtain rfl : j = n1 := by omega
        have i1 : ¬ (j : Int) < (j : Int) := by omega
        have HF : Hid (l1 = l2) := by
          have := HT.out
          rwa [List.take_of_length_le (by rw [H1.out]; exact Nat.le_refl _), List.take_of_length_le (by rw [H2.out]; exact Nat.le_refl _)] at this
        go_wp2_with fail
        go_ret
        exact ⟨by rw [HR.out.1 HF.out]; rfl, HW.out⟩
  · have e1 : ((n1 : Int) == (n2 : Int)) = false := by rw [beq_eq_false_iff_ne]; omega
    have e2 : ((n1 : Int) != (n2 : Int)) = true := by simp [bne, e1]
    have e3 : ¬ (n1 : Int) = (n2 : Int) := by omega
    have HF : Hid (l1 ≠ l2) := fun e => hne (by rw [← h1, ← h2, e])
    clear i1 i2 h1 h2
    go_enter Tryz.func13, Tryz.ntmps13
    go_wp2_with fail
    go_ret
    exact ⟨by rw [HR.out.2 HF.out]; rfl, Below.refl _ _⟩
end Go.Proofs.YtcindeechmpalabGreat
namespace Go.Proofs.YtcindeechmpalabGreat
open Go.ChangeShapes Go.WideShapes Go.ChangeAt Go.RowKit Go.Deep Go.Maps
set_option linter.unusedVariables false
set_option linter.unusedSimpArgs false
theorem bytesLess_cb : ∀ a b : List UInt8, Op.bytesLess a b = decide (Lib.compareBytes a b < 0)
  | [], [] => rfl
  | [], _ :: _ => rfl
  | _ :: _, [] => rfl
  | x :: a, y :: b => by
    rw [Op.bytesLess, Lib.compareBytes, bytesLess_cb a b]
    by_cases h1 : x < y
    · rw [if_pos h1]
      simp [h1]
    · rw [if_neg h1]
      by_cases h2 : y < x
      · rw [if_pos h2]
        have h3 : ¬ x = y := fun e => by rw [e] at h2; rw [UInt8.lt_iff_toNat_lt] at h2; omega
        simp [h1, h3]
      · rw [if_neg h2]
        obtain rfl := u8_eq h1 h2
        simp [h1]
theorem less_cK (a b : ByteArray) : Op.bytesLess a.toList b.toList = decide (cK a b < 0) := by
  rw [ByteArray.toList_eq, ByteArray.toList_eq, bytesLess_cb]
  rfl
theorem toList_empty (a : ByteArray) : a.toList = [] ↔ a = ⟨#[]⟩ := by
  constructor
  · intro h
    have : sN a = [] := by unfold sN; rw [h]; rfl
    rw [← sN_str a, this]
    rfl
  · intro h
    rw [h, toList_nil]
theorem inR_cK (fr to q : ByteArray) : inR fr to q = true ↔ (¬ cK q fr < 0 ∧ (to = ⟨#[]⟩ ∨ cK q to < 0)) := by
  unfold inR
  rw [less_cK, less_cK, Bool.and_eq_true, Bool.or_eq_true, List.isEmpty_iff, toList_empty]
  simp
/-- the parts are the whole -/
theorem lst_parts {T : ByteArray → Option Pt} {fr mid to : ByteArray} {x y z : List Pt} (hx : LstP T (inR fr to) x) (hy : LstP T (inR fr mid) y) (hz : LstP T (inR mid to) z) (h1 : ¬ cK mid fr < 0) (h2 : to = ⟨#[]⟩ ∨ cK mid to < 0) (h3 : mid ≠ ⟨#[]⟩) : x = y ++ z := by
  refine rise_eq hx.rise ?_ fun p => ?_
  · rw [List.pairwise_append]
    refine ⟨hy.rise, hz.rise, fun a ha b hb => ?_⟩
    have ga := ((inR_cK _ _ _).1 ((hy.mem a).1 ha).2).2.resolve_left h3
    have gb := ((inR_cK _ _ _).1 ((hz.mem b).1 hb).2).1
    by_cases e : cK b.k mid = 0
    · rw [cK_eq e]; exact ga
    · have : cK mid b.k < 0 := by rw [cK_anti]; omega
      exact cK_trans ga this
  · rw [List.mem_append, hx.mem, hy.mem, hz.mem, inR_cK, inR_cK, inR_cK]
    constructor
    · rintro ⟨a, b, c⟩
      by_cases e : cK p.k mid < 0
      · exact .inl ⟨a, b, .inr e⟩
      · exact .inr ⟨a, e, c⟩
    · rintro (⟨a, b, c⟩ | ⟨a, b, c⟩)
      · refine ⟨a, b, ?_⟩
        rcases h2 with h2 | h2
        · exact .inl h2
        · exact .inr (cK_trans (c.resolve_left h3) h2)
      · refine ⟨a, fun hlt => ?_, c⟩
        by_cases e : cK mid fr = 0
        · rw [← cK_eq e] at hlt; exact b hlt
        · have : cK fr mid < 0 := by rw [cK_anti]; omega
          exact b (cK_trans hlt this)
theorem lst_ks {T : ByteArray → Option Pt} {l : List Pt} (h : LstP T allK l) (hT : AtKey T) : Ks T (l.map Pt.k) := by
  refine ⟨?_, fun q => ?_⟩
  · rw [List.Nodup, List.pairwise_map]
    exact h.nodup
  · rw [List.mem_map, Option.isSome_iff_exists]
    constructor
    · rintro ⟨x, hx⟩
      have hk := (hT q x hx).1
      exact ⟨x, (h.mem x).2 ⟨by rw [hk]; exact hx, rfl⟩, hk⟩
    · rintro ⟨x, hx, rfl⟩
      exact ⟨x, ((h.mem x).1 hx).1⟩
theorem apL_len (L pts : List Pt) : (apL L pts).length ≤ L.length + pts.length := by
  induction pts generalizing L with
  | nil => simp [apL]
  | cons x pts ih =>
    have h1 := ih (ins1 L x)
    have h2 := ins1_len L x
    show (apL (ins1 L x) pts).length ≤ _
    rw [List.length_cons]
    omega
theorem append_puts {w : World} {ops : Array Oper} {rest : List Oper} {o : Oper} {act : Act} {Q : Exit → Act → World → Prop} (hgd : o.guard = none) (s x : Operand)
    (ho : o.op = .call { callee := .builtin .append, args := #[s, x], argTypes := #[33, 33] })
    (base : Nat) (v : Value) (l : List Pt) (hs : act.eval s = v) (hown : OwnP w base v l)
    (a : Option Addr) (m c : Nat) (y : List Pt) (hx : act.eval x = .slice a m c) (hm : y.length = m) (hin : InP w a y) (ha : a = none → m = 0 ∧ c = 0)
    (hN : l.length + m ≤ 1000000000) (hbase : base ≤ w.heap.size)
    (h : ∀ v' w', OwnP w' base v' (l ++ y) → w.grownBy w' v.ownBlock → wpList Tryz.prog ops Q rest (act.put o.dst v') w') :
    wpList Tryz.prog ops Q (o :: rest) act w := by
  obtain ⟨i, hi, hz, h1, h2⟩ := infoP
  cases a with
  | none =>
    obtain ⟨rfl, rfl⟩ := ha rfl
    obtain rfl : y = [] := List.length_eq_zero_iff.1 hm
    refine wpList_append_own_none hgd s x 33 ho base 32 i 3 Tryz.underlying33 hi _ _ _ hs hown hx ?_
    exact h _ _ (by rw [List.append_nil]; exact hown) ⟨rfl, rfl, rfl, Nat.le_refl _, fun _ _ _ => rfl⟩
  | some x' =>
    refine wpList_append_own w hgd s x 33 ho base 32 i _ 3 40 Tryz.underlying33 hi hz h1 h2 rfl (by decide) v l.length _ hs hown x' m c (pcs y) hx (by rw [pcs_len, hm]) ?_ ?_ (by simp only [maxLen]; omega) (by omega) hbase ?_
    · intro j u hu
      have hj : j < y.length * 3 := by
        have := (List.getElem?_eq_some_iff.1 hu).1
        rwa [pcs_len] at this
      rcases hin with e | ⟨b, off, e, _, hc⟩
      · rw [e] at hj; simp at hj
      · cases e
        have hj3 : j / 3 < y.length := by omega
        have hx3 : y[j / 3]? = some y[j / 3] := List.getElem?_eq_getElem hj3
        have hp := pcs_at y (j / 3) _ hx3 (j % 3) (by omega)
        rw [show j / 3 * 3 + j % 3 = j by omega, hu] at hp
        obtain ⟨c0, c1, c2⟩ := hc _ _ hx3
        rw [add_plain]
        rcases (by omega : j % 3 = 0 ∨ j % 3 = 1 ∨ j % 3 = 2) with e | e | e <;> rw [e] at hp
        · rw [show off + j = off + j / 3 * 3 by omega, c0]; exact hp.symm
        · rw [show off + j = off + j / 3 * 3 + 1 by omega, c1]; exact hp.symm
        · rw [show off + j = off + j / 3 * 3 + 2 by omega, c2]; exact hp.symm
    · intro u hu
      obtain ⟨p, _, hp⟩ := List.mem_flatMap.1 hu
      simp [pcl] at hp
      rcases hp with rfl | rfl | rfl <;> rfl
    · intro v' w' hown' hg _
      refine h v' w' ?_ hg
      unfold OwnP
      rw [List.length_append, hm]
      have : pcs (l ++ y) = pcs l ++ pcs y := by simp [pcs]
      rw [this]
      exact hown'
end Go.Proofs.YtcindeechmpalabGreat
namespace Go.Proofs.YtcindeechmpalabGreat
open Go.ChangeShapes Go.WideShapes Go.ChangeAt Go.RowKit Go.Deep
set_option linter.unusedVariables false
set_option linter.unusedSimpArgs false
/-- a text, cut; a change, cut; changes, cut -/
def cT (m : Nat) (s : ByteArray) : ByteArray := if m < s.size then s.extract 0 m else s
def smP (x : Pt) : Pt := ⟨cT 70 x.k, cT 1100 x.v, x.g⟩
def smK (l : List Pt) : List Pt := (l.take 70).map smP
theorem cT_size (m : Nat) (s : ByteArray) : (cT m s).size ≤ m := by
  unfold cT
  split
  · simp; omega
  · omega
theorem smK_len (l : List Pt) : (smK l).length ≤ 70 := by unfold smK; rw [List.length_map, List.length_take]; omega
theorem smK_fit (l : List Pt) : ∀ x ∈ smK l, x.k.size ≤ 70 ∧ x.v.size ≤ 1100 := by
  intro x hx
  obtain ⟨y, _, rfl⟩ := List.mem_map.1 hx
  exact ⟨cT_size 70 _, cT_size 1100 _⟩
theorem smK_fitP (l : List Pt) : FitP (smK l) := fun x hx => by
  have := smK_fit l x hx
  exact ⟨by omega, by omega⟩
set_option maxRecDepth 100000 in
set_option maxHeartbeats 4000000 in
theorem ksmall_is (l : List Pt) (n : Nat) (hn : l.length = n) (hn2 : n ≤ 140737488355328) (hf : FitP l) (a : Option Addr) (c : Nat) (w : World) (hl : InP w a l) :
    Calls Tryz.prog 10 #[.slice a n c] w fun e w' => ∃ v, e = .returned v ∧ OwnP w' w.heap.size v (smK l) ∧ Below w.heap.size w w' := by
  have HF : Hid (FitP l) := hf
  have HL : Hid (InP w a l) := hl
  have HN : Hid (l.length = n) := hn
  obtain ⟨h, hh⟩ : ∃ h, h = w.heap.size := ⟨_, rfl⟩
  have HH : Hid (h = w.heap.size) := hh
  clear hf hl hn hh
  go_enter Tryz.func10, Tryz.ntmps10
  go_wp2_with fail
  go_loopg [3, 4] 70 (fun g v i wr => ∃ (j : Nat), j ≤ n ∧ j ≤ 70 ∧ g = 70 - j ∧ i = .int .i64 (j : Int) ∧ Hid (OwnP wr h v ((l.take j).map smP)) ∧ Hid (Below h w wr))
  case atStart => exact ⟨0, Nat.zero_le _, Nat.zero_le _, rfl, rfl, OwnP.nil _ _, Below.refl _ _⟩
  case round =>
    obtain ⟨j, hj, hj2, rfl, rfl, HO, HBW⟩ := hrel
    have hsz : h ≤ wr.heap.size := by rw [HH.out]; exact HBW.out.size
    by_cases hjn : j < n
    · have i1 : (j : Int) < (n : Int) := by omega
      by_cases hj70 : j < 70
      · have i2 : (j : Int) < 70 := by omega
        have ri : IntKind.i64.wrap ((j : Int) + 1) = (j : Int) + 1 := by rw [IntKind.wrap_i64]; omega
        obtain ⟨x, hx⟩ : ∃ x, l[j]? = some x := ⟨l[j]'(by rw [HN.out]; exact hjn), by simp [HN.out, hjn]⟩
        obtain ⟨b, off, rfl, hbw, hpc⟩ := HL.out.at hx
        obtain ⟨c0, c1, c2⟩ := hpc.kept (HBW.out.block b (by rw [HH.out]; exact hbw))
        have HT : Hid ((l.take (j + 1)).map smP = (l.take j).map smP ++ [smP x]) := by
          show _ = _
          obtain ⟨h1, h2⟩ := List.getElem?_eq_some_iff.1 hx
          rw [List.take_succ_eq_append_getElem h1, h2, List.map_append]
          rfl
        have hLl : ((l.take j).map smP).length ≤ 1000000000 := by rw [List.length_map, List.length_take]; omega
        have hfx := HF.out x (List.mem_of_getElem? hx)
        obtain ⟨xk, xv, xg⟩ := x
        simp only at c0 c1 c2 hfx
        have HLl : Hid (((l.take j).map smP).length ≤ 1000000000) := hLl
        generalize (l.take j).map smP = A at *
        have HSM : Hid (smP ⟨xk, xv, xg⟩ = ⟨cT 70 xk, cT 1100 xv, xg⟩) := rfl
        clear hx hpc hLl
        obtain ⟨hk9, hv9⟩ := hfx
        generalize u3 = V at *
        have HOV : Hid (∀ k, V.ownBlock = some k → h ≤ k ∧ k < wr.heap.size) := fun k hk => HO.out.own k hk
        by_cases hk : 70 < xk.size
        · have t1 : (70 : Int) < (xk.size : Int) := by omega
          have t1b : decide ((70 : Int) < (xk.size : Int)) = true := by rw [decide_eq_true_eq]; omega
          by_cases hv : 1100 < xv.size
          · have t2 : (1100 : Int) < (xv.size : Int) := by omega
            have Y1 : Hid (∀ k, k < wr.heap.size → (wr.alloc (.cells #[.string (xk.extract 0 70), .string (xv.extract 0 1100), .bool xg] 32)).heap[k]? = wr.heap[k]?) := fun k hk => Below.heap_alloc _ _ _ hk
            have Z1 : Hid ((wr.alloc (.cells #[.string (xk.extract 0 70), .string (xv.extract 0 1100), .bool xg] 32)).heap.size = wr.heap.size + 1) := by show _ = _; simp
            have X8 : Hid (((wr.alloc (.cells #[.string (xk.extract 0 70), .string (xv.extract 0 1100), .bool xg] 32)).alloc (.cells #[.string (xk.extract 0 70), .string (xv.extract 0 1100), .bool xg] 32)).heap[wr.heap.size + 1]? = some (.cells (pC ⟨xk.extract 0 70, xv.extract 0 1100, xg⟩) 32)) := by show _ = _; rw [← Z1.out]; exact heap_alloc_new (wr.alloc (.cells #[.string (xk.extract 0 70), .string (xv.extract 0 1100), .bool xg] 32)) _
            have Y8 : Hid (∀ k, k < wr.heap.size → ((wr.alloc (.cells #[.string (xk.extract 0 70), .string (xv.extract 0 1100), .bool xg] 32)).alloc (.cells #[.string (xk.extract 0 70), .string (xv.extract 0 1100), .bool xg] 32)).heap[k]? = wr.heap[k]?) := fun k hk => (Below.heap_alloc _ _ _ (by rw [Z1.out]; omega)).trans (Y1.out k hk)
            have Z8 : Hid (((wr.alloc (.cells #[.string (xk.extract 0 70), .string (xv.extract 0 1100), .bool xg] 32)).alloc (.cells #[.string (xk.extract 0 70), .string (xv.extract 0 1100), .bool xg] 32)).heap.size = wr.heap.size + 2) := by show _ = _; simp
            have O8 : Hid (OwnP ((wr.alloc (.cells #[.string (xk.extract 0 70), .string (xv.extract 0 1100), .bool xg] 32)).alloc (.cells #[.string (xk.extract 0 70), .string (xv.extract 0 1100), .bool xg] 32)) h V A) := HO.out.kept fun k hk => Y8.out k (HOV.out k hk).2
            have B8 : Hid (Below h w ((wr.alloc (.cells #[.string (xk.extract 0 70), .string (xv.extract 0 1100), .bool xg] 32)).alloc (.cells #[.string (xk.extract 0 70), .string (xv.extract 0 1100), .bool xg] 32))) := HBW.out.trans ⟨rfl, rfl, rfl, by rw [Z8.out]; omega, fun k hk => Y8.out k (by omega)⟩
            have HS2 : Hid (smP ⟨xk, xv, xg⟩ = ⟨xk.extract 0 70, xv.extract 0 1100, xg⟩) := by show _ = _; rw [HSM.out]; unfold cT; rw [if_pos hk, if_pos hv]
            go_wp2_with (at_builtin; refine append_put rfl (.tmp 36) (.tmp 38) rfl h V A rfl O8.out (wr.heap.size + 1) 1 ⟨xk.extract 0 70, xv.extract 0 1100, xg⟩ rfl X8.out HLl.out (by rw [Z8.out]; omega) ?_; intro v9 u9 ho9 hg9; have O9 : Hid (OwnP u9 h v9 (A ++ [⟨xk.extract 0 70, xv.extract 0 1100, xg⟩])) := ho9; have B9 : Hid (Below h w u9) := B8.out.grown hg9 (by rw [Z8.out]; omega) (fun k hk => (HOV.out k hk).1); clear ho9 hg9)
            go_roundg (70 - (j + 1))
            case measure => omega
            case rel => exact ⟨j + 1, by omega, by omega, rfl, by simp, by rw [HT.out, HS2.out]; exact O9.out, B9.out⟩
          · have t2 : ¬ (1100 : Int) < (xv.size : Int) := by omega
            have Y1 : Hid (∀ k, k < wr.heap.size → (wr.alloc (.cells #[.string (xk.extract 0 70), .string (xv), .bool xg] 32)).heap[k]? = wr.heap[k]?) := fun k hk => Below.heap_alloc _ _ _ hk
            have Z1 : Hid ((wr.alloc (.cells #[.string (xk.extract 0 70), .string (xv), .bool xg] 32)).heap.size = wr.heap.size + 1) := by show _ = _; simp
            have X8 : Hid (((wr.alloc (.cells #[.string (xk.extract 0 70), .string (xv), .bool xg] 32)).alloc (.cells #[.string (xk.extract 0 70), .string (xv), .bool xg] 32)).heap[wr.heap.size + 1]? = some (.cells (pC ⟨xk.extract 0 70, xv, xg⟩) 32)) := by show _ = _; rw [← Z1.out]; exact heap_alloc_new (wr.alloc (.cells #[.string (xk.extract 0 70), .string (xv), .bool xg] 32)) _
            have Y8 : Hid (∀ k, k < wr.heap.size → ((wr.alloc (.cells #[.string (xk.extract 0 70), .string (xv), .bool xg] 32)).alloc (.cells #[.string (xk.extract 0 70), .string (xv), .bool xg] 32)).heap[k]? = wr.heap[k]?) := fun k hk => (Below.heap_alloc _ _ _ (by rw [Z1.out]; omega)).trans (Y1.out k hk)
            have Z8 : Hid (((wr.alloc (.cells #[.string (xk.extract 0 70), .string (xv), .bool xg] 32)).alloc (.cells #[.string (xk.extract 0 70), .string (xv), .bool xg] 32)).heap.size = wr.heap.size + 2) := by show _ = _; simp
            have O8 : Hid (OwnP ((wr.alloc (.cells #[.string (xk.extract 0 70), .string (xv), .bool xg] 32)).alloc (.cells #[.string (xk.extract 0 70), .string (xv), .bool xg] 32)) h V A) := HO.out.kept fun k hk => Y8.out k (HOV.out k hk).2
            have B8 : Hid (Below h w ((wr.alloc (.cells #[.string (xk.extract 0 70), .string (xv), .bool xg] 32)).alloc (.cells #[.string (xk.extract 0 70), .string (xv), .bool xg] 32))) := HBW.out.trans ⟨rfl, rfl, rfl, by rw [Z8.out]; omega, fun k hk => Y8.out k (by omega)⟩
            have HS2 : Hid (smP ⟨xk, xv, xg⟩ = ⟨xk.extract 0 70, xv, xg⟩) := by show _ = _; rw [HSM.out]; unfold cT; rw [if_pos hk, if_neg hv]
            go_wp2_with (at_builtin; refine append_put rfl (.tmp 36) (.tmp 38) rfl h V A rfl O8.out (wr.heap.size + 1) 1 ⟨xk.extract 0 70, xv, xg⟩ rfl X8.out HLl.out (by rw [Z8.out]; omega) ?_; intro v9 u9 ho9 hg9; have O9 : Hid (OwnP u9 h v9 (A ++ [⟨xk.extract 0 70, xv, xg⟩])) := ho9; have B9 : Hid (Below h w u9) := B8.out.grown hg9 (by rw [Z8.out]; omega) (fun k hk => (HOV.out k hk).1); clear ho9 hg9)
            go_roundg (70 - (j + 1))
            case measure => omega
            case rel => exact ⟨j + 1, by omega, by omega, rfl, by simp, by rw [HT.out, HS2.out]; exact O9.out, B9.out⟩
        · have t1 : ¬ (70 : Int) < (xk.size : Int) := by omega
          by_cases hv : 1100 < xv.size
          · have t2 : (1100 : Int) < (xv.size : Int) := by omega
            have Y1 : Hid (∀ k, k < wr.heap.size → (wr.alloc (.cells #[.string (xk), .string (xv.extract 0 1100), .bool xg] 32)).heap[k]? = wr.heap[k]?) := fun k hk => Below.heap_alloc _ _ _ hk
            have Z1 : Hid ((wr.alloc (.cells #[.string (xk), .string (xv.extract 0 1100), .bool xg] 32)).heap.size = wr.heap.size + 1) := by show _ = _; simp
            have X8 : Hid (((wr.alloc (.cells #[.string (xk), .string (xv.extract 0 1100), .bool xg] 32)).alloc (.cells #[.string (xk), .string (xv.extract 0 1100), .bool xg] 32)).heap[wr.heap.size + 1]? = some (.cells (pC ⟨xk, xv.extract 0 1100, xg⟩) 32)) := by show _ = _; rw [← Z1.out]; exact heap_alloc_new (wr.alloc (.cells #[.string (xk), .string (xv.extract 0 1100), .bool xg] 32)) _
            have Y8 : Hid (∀ k, k < wr.heap.size → ((wr.alloc (.cells #[.string (xk), .string (xv.extract 0 1100), .bool xg] 32)).alloc (.cells #[.string (xk), .string (xv.extract 0 1100), .bool xg] 32)).heap[k]? = wr.heap[k]?) := fun k hk => (Below.heap_alloc _ _ _ (by rw [Z1.out]; omega)).trans (Y1.out k hk)
            have Z8 : Hid (((wr.alloc (.cells #[.string (xk), .string (xv.extract 0 1100), .bool xg] 32)).alloc (.cells #[.string (xk), .string (xv.extract 0 1100), .bool xg] 32)).heap.size = wr.heap.size + 2) := by show _ = _; simp
            have O8 : Hid (OwnP ((wr.alloc (.cells #[.string (xk), .string (xv.extract 0 1100), .bool xg] 32)).alloc (.cells #[.string (xk), .string (xv.extract 0 1100), .bool xg] 32)) h V A) := HO.out.kept fun k hk => Y8.out k (HOV.out k hk).2
            have B8 : Hid (Below h w ((wr.alloc (.cells #[.string (xk), .string (xv.extract 0 1100), .bool xg] 32)).alloc (.cells #[.string (xk), .string (xv.extract 0 1100), .bool xg] 32))) := HBW.out.trans ⟨rfl, rfl, rfl, by rw [Z8.out]; omega, fun k hk => Y8.out k (by omega)⟩
            have HS2 : Hid (smP ⟨xk, xv, xg⟩ = ⟨xk, xv.extract 0 1100, xg⟩) := by show _ = _; rw [HSM.out]; unfold cT; rw [if_neg hk, if_pos hv]
            go_wp2_with (at_builtin; refine append_put rfl (.tmp 36) (.tmp 38) rfl h V A rfl O8.out (wr.heap.size + 1) 1 ⟨xk, xv.extract 0 1100, xg⟩ rfl X8.out HLl.out (by rw [Z8.out]; omega) ?_; intro v9 u9 ho9 hg9; have O9 : Hid (OwnP u9 h v9 (A ++ [⟨xk, xv.extract 0 1100, xg⟩])) := ho9; have B9 : Hid (Below h w u9) := B8.out.grown hg9 (by rw [Z8.out]; omega) (fun k hk => (HOV.out k hk).1); clear ho9 hg9)
            go_roundg (70 - (j + 1))
            case measure => omega
            case rel => exact ⟨j + 1, by omega, by omega, rfl, by simp, by rw [HT.out, HS2.out]; exact O9.out, B9.out⟩
          · have t2 : ¬ (1100 : Int) < (xv.size : Int) := by omega
            have Y1 : Hid (∀ k, k < wr.heap.size → (wr.alloc (.cells #[.string (xk), .string (xv), .bool xg] 32)).heap[k]? = wr.heap[k]?) := fun k hk => Below.heap_alloc _ _ _ hk
            have Z1 : Hid ((wr.alloc (.cells #[.string (xk), .string (xv), .bool xg] 32)).heap.size = wr.heap.size + 1) := by show _ = _; simp
            have X8 : Hid (((wr.alloc (.cells #[.string (xk), .string (xv), .bool xg] 32)).alloc (.cells #[.string (xk), .string (xv), .bool xg] 32)).heap[wr.heap.size + 1]? = some (.cells (pC ⟨xk, xv, xg⟩) 32)) := by show _ = _; rw [← Z1.out]; exact heap_alloc_new (wr.alloc (.cells #[.string (xk), .string (xv), .bool xg] 32)) _
            have Y8 : Hid (∀ k, k < wr.heap.size → ((wr.alloc (.cells #[.string (xk), .string (xv), .bool xg] 32)).alloc (.cells #[.string (xk), .string (xv), .bool xg] 32)).heap[k]? = wr.heap[k]?) := fun k hk => (Below.heap_alloc _ _ _ (by rw [Z1.out]; omega)).trans (Y1.out k hk)
            have Z8 : Hid (((wr.alloc (.cells #[.string (xk), .string (xv), .bool xg] 32)).alloc (.cells #[.string (xk), .string (xv), .bool xg] 32)).heap.size = wr.heap.size + 2) := by show _ = _; simp
            have O8 : Hid (OwnP ((wr.alloc (.cells #[.string (xk), .string (xv), .bool xg] 32)).alloc (.cells #[.string (xk), .string (xv), .bool xg] 32)) h V A) := HO.out.kept fun k hk => Y8.out k (HOV.out k hk).2
            have B8 : Hid (Below h w ((wr.alloc (.cells #[.string (xk), .string (xv), .bool xg] 32)).alloc (.cells #[.string (xk), .string (xv), .bool xg] 32))) := HBW.out.trans ⟨rfl, rfl, rfl, by rw [Z8.out]; omega, fun k hk => Y8.out k (by omega)⟩
            have HS2 : Hid (smP ⟨xk, xv, xg⟩ = ⟨xk, xv, xg⟩) := by show _ = _; rw [HSM.out]; unfold cT; rw [if_neg hk, if_neg hv]
            go_wp2_with (at_builtin; refine append_put rfl (.tmp 36) (.tmp 38) rfl h V A rfl O8.out (wr.heap.size + 1) 1 ⟨xk, xv, xg⟩ rfl X8.out HLl.out (by rw [Z8.out]; omega) ?_; intro v9 u9 ho9 hg9; have O9 : Hid (OwnP u9 h v9 (A ++ [⟨xk, xv, xg⟩])) := ho9; have B9 : Hid (Below h w u9) := B8.out.grown hg9 (by rw [Z8.out]; omega) (fun k hk => (HOV.out k hk).1); clear ho9 hg9)
            go_roundg (70 - (j + 1))
            case measure => omega
            case rel => exact ⟨j + 1, by omega, by omega, rfl, by simp, by rw [HT.out, HS2.out]; exact O9.out, B9.out⟩
      · have i2 : ¬ (j : Int) < 70 := by omega
        have HF2 : Hid (OwnP wr w.heap.size u3 (smK l)) := by
          have e : j = 70 := by omega
          subst e
          have := HO.out
          rw [HH.out] at this
          exact this
        have HB2 : Hid (Below w.heap.size w wr) := by rw [← HH.out]; exact HBW.out
        go_wp2_with fail
        go_ret
        exact ⟨_, rfl, HF2.out, HB2.out⟩
    · have i1 : ¬ (j : Int) < (n : Int) := by omega
      have HF2 : Hid (OwnP wr w.heap.size u3 (smK l)) := by
        have e : smK l = (l.take j).map smP := by
          unfold smK
          rw [List.take_of_length_le (by have := HN.out; omega), List.take_of_length_le (by have := HN.out; omega)]
        rw [e, ← HH.out]
        exact HO.out
      have HB2 : Hid (Below w.heap.size w wr) := by rw [← HH.out]; exact HBW.out
      go_wp2_with fail
      go_ret
      exact ⟨_, rfl, HF2.out, HB2.out⟩
end Go.Proofs.YtcindeechmpalabGreat
namespace Go.Proofs.YtcindeechmpalabGreat
open Go.ChangeShapes Go.WideShapes Go.ChangeAt Go.RowKit Go.Deep Go.Maps
set_option linter.unusedVariables false
set_option linter.unusedSimpArgs false
theorem sN_lit (A : List Int) (ha : ∀ x ∈ A, 0 ≤ x ∧ x ≤ 255) : sN (strOfNums A) = A := sN_nums (bytes_of_mem ha)
def pKv : Pt := ⟨⟨#[107]⟩, ⟨#[118]⟩, false⟩
def pAx : Pt := ⟨⟨#[97]⟩, ⟨#[120]⟩, false⟩
def pBg : Pt := ⟨⟨#[98]⟩, ⟨#[]⟩, true⟩
theorem tB_one (c : Nat) (hc : c ≤ 255) (S : ByteArray) (h : S = strOfNums [(c : Int)]) (hz : S.size = 1) : tB S = [1, (c : Int)] := by
  unfold tB
  rw [hz, h, sN_lit _ (fun x hx => by have : x = (c : Int) := by simpa using hx
                                      omega)]
  rfl
theorem eB_k : eB [pKv] = [1, 0, 1, 107, 1, 118] := by
  unfold eB csB cB pKv
  simp only [List.flatMap_cons, List.flatMap_nil, List.append_nil, List.length_cons, List.length_nil]
  rw [if_neg (by simp), tB_one 107 (by omega) ⟨#[107]⟩ rfl rfl, tB_one 118 (by omega) ⟨#[118]⟩ rfl rfl]
  rfl
theorem eB_ab : eB [pAx, pBg] = [2, 0, 1, 97, 1, 120, 1, 1, 98] := by
  unfold eB csB
  simp only [List.flatMap_cons, List.flatMap_nil, List.append_nil, List.length_cons, List.length_nil]
  have e1 : cB pAx = [0, 1, 97, 1, 120] := by
    unfold cB pAx
    simp only
    rw [if_neg (by simp), tB_one 97 (by omega) ⟨#[97]⟩ rfl rfl, tB_one 120 (by omega) ⟨#[120]⟩ rfl rfl]
    rfl
  have e2 : cB pBg = [1, 1, 98] := by
    unfold cB pBg
    simp only
    rw [if_pos trivial, tB_one 98 (by omega) ⟨#[98]⟩ rfl rfl]
    rfl
  rw [e1, e2]
  rfl
theorem encA_k : encA [pKv] = (0, [1, 0, 1, 107, 1, 118]) := by
  unfold encA
  rw [eB_k, if_neg (by simp [pKv, badP]; decide), if_neg (by simp), if_neg (by simp)]
theorem encA_ab : encA [pAx, pBg] = (0, [2, 0, 1, 97, 1, 120, 1, 1, 98]) := by
  unfold encA
  rw [eB_ab, if_neg (by simp [pAx, pBg, badP]; decide), if_neg (by simp), if_neg (by simp)]
def kvB : List Int := [1, 0, 1, 107, 1, 118]
theorem kvB_bytes : IsBytes kvB := (encA_bytes encA_k).1
theorem Ks_k : Ks (chTs [[pKv]]) [⟨#[107]⟩] := by
  refine ⟨by simp, fun k => ?_⟩
  show ((ch1 noT pKv) k).isSome = true ↔ _
  unfold ch1 pKv noT
  by_cases h : k = ⟨#[107]⟩
  · simp [h]
  · simp [h]
theorem get_k : (chTs [[pKv]]) ⟨#[107]⟩ = some pKv := by
  show (ch1 noT pKv) ⟨#[107]⟩ = _
  unfold ch1 pKv
  simp
theorem plain_kv : ∃ l1 s1 l2 l3 s3, (Ds.new 20).opn = (0, some l1, s1) ∧ l1.R = [] ∧ (l1.add kvB).1 = 0 ∧ (l1.add kvB).2 = l2 ∧ 2 + l2.ar * l2.m + l2.m ≤ s1.D.length ∧ l2.sync s1 = (0, l3, s3) ∧ (s3.cr []).opn = (0, some l3, s3.cr []) ∧ l3.R = [kvB] := by
  obtain ⟨s1, o1, G1, hD1⟩ := gd_new 20 (by omega) (by omega)
  obtain ⟨l1, hl1⟩ : ∃ l1, l1 = (⟨(20 - 2) / 2, 1, 0, [], [], false⟩ : Lg) := ⟨_, rfl⟩
  rw [← hl1] at o1 G1
  have r1 : l1.room = 576 := by rw [hl1]; rfl
  have a1 : l1.add kvB = (0, ⟨9, 1, 0, [], [kvB], false⟩) := by
    have hx : (frO [kvB] l1.room).2 = 0 := by rw [r1, frO_one]; rfl
    unfold Lg.add
    rw [if_neg (by rw [hl1]; simp), if_neg (by rw [hx]; simp), hl1]
    rfl
  have G2 := gd_add G1 kvB kvB_bytes
  rw [a1] at G2
  obtain ⟨l2, hl2⟩ : ∃ l2, l2 = (⟨9, 1, 0, [], [kvB], false⟩ : Lg) := ⟨_, rfl⟩
  rw [← hl2] at a1 G2
  obtain ⟨s3, y3, G3, hD3⟩ := gd_sync G2 (by rw [hl2]; decide) (by rw [hl2]; simp)
  obtain ⟨l3, hl3⟩ : ∃ l3, l3 = ({ l2 with no := l2.no + 1, R := l2.R ++ l2.W, W := [] } : Lg) := ⟨_, rfl⟩
  rw [← hl3] at y3 G3
  have G4 := gd_crash G3 []
  have o4 := gd_open G4
  have e4 : ({ l3 with W := [] } : Lg) = l3 := by rw [hl3]
  rw [e4] at o4
  exact ⟨l1, s1, l2, l3, s3, o1, by rw [hl1], by rw [a1], by rw [a1], by rw [hD1, hl2]; decide, y3, o4, by rw [hl3, hl2]; rfl⟩
theorem bts_k : Bts [kvB] [[pKv]] := by
  refine ⟨by show [kvB] = [eB [pKv]]; rw [eB_k]; rfl, fun b hb => ?_⟩
  obtain rfl : b = [pKv] := by simpa using hb
  rw [encA_k, eB_k]
theorem in_two (w : World) : InP (w.alloc (.cells #[.string ⟨#[97]⟩, .string ⟨#[120]⟩, .bool false, .string ⟨#[98]⟩, .string ⟨#[]⟩, .bool true] 32)) (some ⟨w.heap.size, 0, none⟩) [pAx, pBg] := by
  have h := heap_alloc_new w (.cells #[.string ⟨#[97]⟩, .string ⟨#[120]⟩, .bool false, .string ⟨#[98]⟩, .string ⟨#[]⟩, .bool true] 32)
  refine .inr ⟨w.heap.size, 0, rfl, by simp, fun i x hx => ?_⟩
  match i, hx with
  | 0, hx =>
    have : pAx = x := by simpa using hx
    subst this
    refine ⟨?_, ?_, ?_⟩ <;> (rw [cell_of_row _ _ _ _ _ (0, 0) h]; rfl)
  | 1, hx =>
    have : pBg = x := by simpa using hx
    subst this
    refine ⟨?_, ?_, ?_⟩ <;> (rw [cell_of_row _ _ _ _ _ (0, 0) h]; rfl)
  | i + 2, hx => simp at hx
theorem in_one (w : World) : InP (w.alloc (.cells #[.string ⟨#[107]⟩, .string ⟨#[118]⟩, .bool false] 32)) (some ⟨w.heap.size, 0, none⟩) [pKv] := by
  have h := heap_alloc_new w (.cells #[.string ⟨#[107]⟩, .string ⟨#[118]⟩, .bool false] 32)
  refine .inr ⟨w.heap.size, 0, rfl, by simp, fun i x hx => ?_⟩
  match i, hx with
  | 0, hx =>
    have : pKv = x := by simpa using hx
    subst this
    refine ⟨?_, ?_, ?_⟩ <;> (rw [cell_of_row _ _ _ _ _ (0, 0) h]; rfl)
  | i + 1, hx => simp at hx
theorem fit_small {l : List Pt} (h : ∀ x ∈ l, badP x = false) : FitP l := fit_ok h
set_option maxRecDepth 100000 in
set_option maxHeartbeats 8000000 in
theorem kworks_true (w : World) : Calls Tryz.prog 9 #[] w fun e w' => e = .returned (.bool true) ∧ Below w.heap.size w w' := by
  obtain ⟨l1, s1, l2, l3, s3, p1, p2, p3, p4, p5, p6, p7, p8⟩ := plain_kv
  have HPL : Hid ((Ds.new 20).opn = (0, some l1, s1) ∧ l1.R = [] ∧ (l1.add kvB).1 = 0 ∧ (l1.add kvB).2 = l2 ∧ 2 + l2.ar * l2.m + l2.m ≤ s1.D.length ∧ l2.sync s1 = (0, l3, s3) ∧ (s3.cr []).opn = (0, some l3, s3.cr []) ∧ l3.R = [kvB]) := ⟨p1, p2, p3, p4, p5, p6, p7, p8⟩
  have K1 : Hid (Calls Tryz.prog 5 #[.int .i64 20] w fun e w' => ∃ b, e = .returned (.tuple #[.pointer (some ⟨b, 0, none⟩), .int .i64 0]) ∧ Wd w w' (fun k => k < w.heap.size) b 0 (Ds.new 20) ∧ Below w.heap.size w w') := wd_new 20 (by omega) (by omega) w w (Below.refl _ _)
  have KE : Hid (∀ W : World, Calls Tryz.prog 21 #[.slice (some ⟨W.heap.size, 0, none⟩) 2 2] (W.alloc (.cells #[.string ⟨#[97]⟩, .string ⟨#[120]⟩, .bool false, .string ⟨#[98]⟩, .string ⟨#[]⟩, .bool true] 32)) fun e w' => e = .returned (.tuple #[.string ⟨#[2, 0, 1, 97, 1, 120, 1, 1, 98]⟩, .int .i64 0]) ∧ Below W.heap.size W w') := fun W => by
    have k := kEncode_is [pAx, pBg] 2 rfl (by omega) (fit_ok (encA_ok encA_ab).2.2.2.1) (some ⟨W.heap.size, 0, none⟩) 2 _ (in_two W)
    rw [encA_ab] at k
    refine k.mono ?_
    rintro e w' ⟨rfl, hb⟩
    exact ⟨rfl, (below1 W _).trans (hb.mono (by simp))⟩
  clear p1 p2 p3 p4 p5 p6 p7 p8
  go_enter Tryz.func9, Tryz.ntmps9
  go_wp2_with fail
  refine K1.out.mono ?_
  rintro e w1 ⟨bd, rfl, T1, hb1⟩
  have HT1 : Hid (Wd w w1 (fun k => k < w.heap.size) bd 0 (Ds.new 20)) := T1
  clear T1 hb1
  have KO : Hid (Calls Tryz.prog 6 #[.pointer (some ⟨bd, 0, none⟩)] w1 fun e w' => ∃ bb bl mb, e = .returned (.tuple #[.pointer (some ⟨bb, 0, none⟩), .int .i64 0]) ∧ Kb w w' (fun k => k < w.heap.size) bb bd bl mb 2 0 s1 l1 noT) := by
    refine (kOpen_ok HT1.out (by omega) HPL.out.1 [] ⟨HPL.out.2.1, fun b hb => by cases hb⟩).mono ?_
    rintro e w' ⟨bb, bl, mb, rfl, h1, _⟩
    exact ⟨bb, bl, mb, rfl, h1⟩
  go_wp2_with fail
  refine KO.out.mono ?_
  rintro e w2 ⟨bb, bl, mb, rfl, hk2⟩
  have HK2 : Hid (Kb w w2 (fun k => k < w.heap.size) bb bd bl mb 2 0 s1 l1 noT) := hk2
  have KE2 := KE.out w2
  clear hk2 KO
  go_wp2_with fail
  refine KE2.mono ?_
  rintro e w3 ⟨rfl, hb3⟩
  have HK3 : Hid (Kb w w3 (fun k => k < w.heap.size) bb bd bl mb 2 0 s1 l1 noT) := (HK2.out.keep hb3).less (fun _ h => .inl h)
  clear hb3 KE2 KE
  obtain ⟨w4, hw4⟩ : ∃ w4, w3.alloc (.cells #[.string ⟨#[107]⟩, .string ⟨#[118]⟩, .bool false] 32) = w4 := ⟨_, rfl⟩
  have W4E : Hid (w3.alloc (.cells #[.string ⟨#[107]⟩, .string ⟨#[118]⟩, .bool false] 32) = w4) := hw4
  have HK4 : Hid (Kb w w4 (fun k => k = w3.heap.size) bb bd bl mb 2 0 s1 l1 noT) := (HK3.out.keep (by rw [← hw4]; exact below1 _ _)).less (fun k hk => .inr ⟨by omega, by rw [← hw4]; simp; omega⟩)
  have KD : Hid (Calls Tryz.prog 7 #[.pointer (some ⟨bb, 0, none⟩), .slice (some ⟨w3.heap.size, 0, none⟩) 1 1] w4 fun e w' => e = .returned (.int .i64 0) ∧ Wd w w' (fun _ => False) bd 2102 s3) := by
    obtain ⟨_, _, q3, q4, q5, q6, _⟩ := HPL.out
    refine (kDo_ok HK4.out (by omega) (by omega) [pKv] kvB encA_k q3 (by rw [q4]; exact q5) (by rw [q4]; exact q6) (some ⟨w3.heap.size, 0, none⟩) 1 1 rfl (by rw [← hw4]; exact in_one w3) (fun x hx _ => by cases hx; rfl)).mono ?_
    rintro e w' ⟨rfl, h1, _⟩
    exact ⟨rfl, h1.wl.disk.less (fun _ h => h.elim)⟩
  clear hw4
  go_wp2_with fail
  rw [show World.alloc w3 _ = w4 from W4E.out]
  refine KD.out.mono ?_
  rintro e w5 ⟨rfl, hd5⟩
  have HD5 : Hid (Wd w w5 (fun _ => False) bd 2102 s3) := hd5
  clear hd5 KD
  have KC : Hid (Calls Tryz.prog 23 #[.pointer (some ⟨bd, 0, none⟩), .slice none 0 0] w5 fun e w' => e = .returned (.int .i64 0) ∧ Wd w w' (fun _ => False) bd 2102 (s3.cr [])) := by
    refine (wd_crash HD5.out (by omega) none 0 0 [] rfl (.inl rfl) (fun x hx => by cases hx)).mono ?_
    rintro e w' ⟨rfl, h1, _⟩
    exact ⟨rfl, h1⟩
  go_wp2_with fail
  refine KC.out.mono ?_
  rintro e w6 ⟨rfl, hd6⟩
  have HD6 : Hid (Wd w w6 (fun _ => False) bd 2102 (s3.cr [])) := hd6
  clear hd6 KC
  have KO2 : Hid (Calls Tryz.prog 6 #[.pointer (some ⟨bd, 0, none⟩)] w6 fun e w' => ∃ bb bl mb, e = .returned (.tuple #[.pointer (some ⟨bb, 0, none⟩), .int .i64 0]) ∧ Kb w w' (fun _ => False) bb bd bl mb 2104 64 (s3.cr []) l3 (chTs [[pKv]])) := by
    obtain ⟨_, _, _, _, _, _, q7, q8⟩ := HPL.out
    refine (kOpen_ok HD6.out (by omega) q7 [[pKv]] (by rw [q8]; exact bts_k)).mono ?_
    rintro e w' ⟨bb, bl, mb, rfl, h1, _⟩
    exact ⟨bb, bl, mb, rfl, h1⟩
  go_wp2_with fail
  refine KO2.out.mono ?_
  rintro e w7 ⟨b2, bl2, mb2, rfl, hk7⟩
  have HK7 : Hid (Kb w w7 (fun _ => False) b2 bd bl2 mb2 2104 64 (s3.cr []) l3 (chTs [[pKv]])) := hk7
  have KG : Hid (Calls Tryz.prog 12 #[.pointer (some ⟨b2, 0, none⟩), .string ⟨#[107]⟩] w7 fun e w' => e = .returned (.tuple #[.string ⟨#[118]⟩, .bool true]) ∧ Below w7.heap.size w7 w') := by
    have k := kGet_is w7 b2 bl2 mb2 64 _ hk7.box hk7.mp ⟨#[107]⟩ (by show 1 ≤ _; omega)
    rw [get_k] at k
    exact k
  clear hk7 KO2
  go_wp2_with fail
  refine KG.out.mono ?_
  rintro e w8 ⟨rfl, hb8⟩
  have HB8 : Hid (Below w.heap.size w w8) := (HK7.out.keep hb8).wl.bel
  have KL : Hid (Calls Tryz.prog 8 #[.pointer (some ⟨b2, 0, none⟩)] w8 fun e w' => e = .returned (.int .i64 1) ∧ w' = w8) := kLen_is w8 b2 bl2 mb2 64 _ (HK7.out.keep hb8).box (HK7.out.keep hb8).mp [⟨#[107]⟩] Ks_k
  clear hb8 KG
  go_wp2_with fail
  refine KL.out.mono ?_
  rintro e w9 ⟨rfl, rfl⟩
  go_wp2_with fail
  go_ret
  exact ⟨rfl, HB8.out⟩
end Go.Proofs.YtcindeechmpalabGreat
namespace Go.Proofs.YtcindeechmpalabGreat
open Go.ChangeShapes Go.WideShapes Go.ChangeAt Go.RowKit Go.Deep
set_option linter.unusedVariables false
/-- a change as data -/
def pDw {H : Type} (q : Pt) : DataW H := .agg [.lit (.string q.k.data.toList), .lit (.string q.v.data.toList), .lit (.bool q.g)]
theorem cellsPt : Tryz.prog.cellsOf 32 = 3 := by kernel_rfl
theorem cellsTx : Tryz.prog.cellsOf 9 = 1 := by kernel_rfl
theorem cellsBo : Tryz.prog.cellsOf 4 = 1 := by kernel_rfl
theorem bytesPt : Tryz.prog.bytesOf 32 = 40 := by kernel_rfl
theorem list3P {α : Type} {l : List α} (h : l.length = 3) : ∃ v0 v1 v2, l = [v0, v1, v2] := by
  match l, h with
  | [v0, v1, v2], _ => exact ⟨v0, v1, v2, rfl⟩
theorem open_put {H : Type} {enc : TypeId × Value → H} {W : World} {fuel : Nat} {cs : List Value} {x : DataW H × List MemPlace} (h : DataW.trod enc Tryz.prog W 0 (fun _ => true) true fuel 32 cs = some x) :
    ∃ q : Pt, cs = [.string q.k, .string q.v, .bool q.g] ∧ x.1 = pDw q := by
  obtain ⟨y0, y1, y2, n, hxy, hlen, g0, g1, g2⟩ := trod_struct3 Tryz.underlying32 h
  rw [cellsPt] at hlen
  obtain ⟨v0, v1, v2, rfl⟩ := list3P hlen
  simp [cellsTx, cellsBo] at g0 g1 g2
  obtain ⟨s0, e0, rfl, _⟩ := DataW.trod_string Tryz.underlying9 g0
  obtain ⟨s1, e1, rfl, _⟩ := DataW.trod_string Tryz.underlying9 g1
  obtain ⟨b2, e2, rfl⟩ := DataW.trod_bool Tryz.underlying4 g2
  simp only [List.cons.injEq, and_true] at e0 e1 e2
  subst e0 e1 e2 hxy
  exact ⟨⟨s0, s1, b2⟩, rfl, rfl⟩
theorem mem_weightsAllP {H : Type} {P : Program} {e : TypeId} {q : Nat} : ∀ {l : List (DataW H)} {d : DataW H}, d ∈ l → q ∈ d.weights P e → q ∈ DataW.weightsAll P e l
  | [], _, h, _ => by cases h
  | x :: r, d, h, hq => by
    rw [DataW.weightsAll]
    rcases List.mem_cons.1 h with rfl | h
    · exact List.mem_append_left _ hq
    · exact List.mem_append_right _ (mem_weightsAllP h hq)
theorem weights_pDw {H : Type} (q : Pt) : q.k.data.toList.length ∈ (pDw (H := H) q).weights Tryz.prog 32 ∧ q.v.data.toList.length ∈ (pDw (H := H) q).weights Tryz.prog 32 := by
  have hu := Tryz.underlying32
  constructor <;> simp [pDw, DataW.weights, DataW.weightsEach, hu]
theorem open_puts {H : Type} {enc : TypeId × Value → H} {W : World} {fuel : Nat} {a : Option Addr} {len cap : Nat} {x : DataW H × List MemPlace} (h : DataW.trod enc Tryz.prog W 0 (fun _ => true) true fuel 33 [.slice a len cap] = some x) (hw : ∀ q ∈ x.1.weights Tryz.prog 33, q ≤ 140737488351232) :
    ∃ l : List Pt, l.length = len ∧ InP W a l ∧ len ≤ 140737488355328 ∧ FitP l ∧ (l = [] ∨ ∃ sp, x.1 = .slice (l.map pDw) sp) := by
  rcases open_slice Tryz.underlying33 h with ⟨hcs, hx⟩ | ⟨a', len', cap', m, n, D, Pl, hcs, _, hl, hm, hmm, hx, hel⟩
  · simp only [List.cons.injEq, and_true, Value.slice.injEq] at hcs
    obtain ⟨rfl, rfl, rfl⟩ := hcs
    exact ⟨[], rfl, .inl rfl, by omega, fun x hx => (by cases hx), .inl rfl⟩
  · simp only [List.cons.injEq, and_true, Value.slice.injEq] at hcs
    obtain ⟨rfl, rfl, rfl⟩ := hcs
    have hmc : m = cap := by simpa using hmm
    subst hmc hx
    have each : ∀ i, i < len → ∃ q : Pt, ∃ cs', W.cells? 0 (a'.add (i * 3)) 3 = some cs' ∧ cs' = [.string q.k, .string q.v, .bool q.g] ∧ D i = pDw q := by
      intro i hi
      obtain ⟨cs', h1, h2⟩ := hel i (by omega)
      rw [cellsPt] at h1
      obtain ⟨q, hq, hd⟩ := open_put h2
      exact ⟨q, cs', h1, hq, hd⟩
    letI : Inhabited Pt := ⟨noP⟩
    obtain ⟨q, hq⟩ := choose_lt each
    simp only [maxLen] at hm
    have hdat : (l : List Pt) → l = (List.range len).map q → ∃ sp, (DataW.slice ((List.range len).map D) ((List.range (m - len)).map fun j => D (len + j)) : DataW H) = .slice (l.map pDw) sp := by
      intro l hl
      refine ⟨(List.range (m - len)).map fun j => D (len + j), ?_⟩
      congr 1
      subst hl
      apply List.ext_getElem
      · simp
      · intro i h1 h2
        have hi : i < len := by simpa using h1
        obtain ⟨_, _, _, h3⟩ := hq i hi
        simp [h3]
    obtain ⟨sp, hsp⟩ := hdat _ rfl
    refine ⟨(List.range len).map q, by simp, ?_, ?_, ?_, .inr ⟨sp, hsp⟩⟩
    · by_cases h0 : len = 0
      · left; subst h0; rfl
      · right
        have hsp : ∀ i, i < len → W.cell? (a'.add (i * 3)) = some (.string (q i).k) ∧ W.cell? (a'.add (i * 3 + 1)) = some (.string (q i).v) ∧ W.cell? (a'.add (i * 3 + 2)) = some (.bool (q i).g) := by
          intro i hi
          obtain ⟨cs', h1, h2, _⟩ := hq i hi
          obtain ⟨_, hlen, hcell⟩ := World.cells?_some h1
          subst h2
          have e0 := hcell 0 (by omega)
          have e1 := hcell 1 (by omega)
          have e2 := hcell 2 (by omega)
          rw [add_add] at e0 e1 e2
          exact ⟨by simpa using e0, by simpa using e1, by simpa using e2⟩
        obtain ⟨b, off, spot⟩ := a'
        have hc := (hsp 0 (by omega)).1
        have hspot : spot = none := by simpa [Addr.add] using World.cell?_spot hc
        subst hspot
        rw [add_plain] at hc
        refine ⟨b, off, rfl, World.block_lt_of_cell? _ _ hc, fun i x hx => ?_⟩
        have hi : i < len := by
          have := (List.getElem?_eq_some_iff.1 hx).1
          simpa using this
        have hxq : x = q i := by simpa [hi] using hx.symm
        subst hxq
        have := hsp i hi
        rw [add_plain, add_plain, add_plain] at this
        exact this
    · have hq2 := hw ((((List.range len).map D).length + ((List.range (m - len)).map fun j => D (len + j)).length) * 40) (by
        simp only [DataW.weights, Tryz.underlying33, bytesPt]
        exact List.mem_cons_self)
      simp only [List.length_map, List.length_range] at hq2
      omega
    · intro y hy
      obtain ⟨i, hi, rfl⟩ := List.mem_map.1 hy
      have hi' : i < len := List.mem_range.1 hi
      obtain ⟨_, _, _, h3⟩ := hq i hi'
      have key : ∀ n ∈ (pDw (H := H) (q i)).weights Tryz.prog 32, n ≤ 140737488351232 := fun n hn => by
        refine hw n ?_
        simp only [DataW.weights, Tryz.underlying33]
        exact List.mem_cons_of_mem _ (List.mem_append_left _ (mem_weightsAllP (List.mem_map.2 ⟨i, hi, h3⟩) hn))
      obtain ⟨w1, w2⟩ := weights_pDw (H := H) (q i)
      have h1 := key _ w1
      have h2 := key _ w2
      have e1 : (q i).k.data.toList.length = (q i).k.size := by simp
      have e2 : (q i).v.data.toList.length = (q i).v.size := by simp
      omega
end Go.Proofs.YtcindeechmpalabGreat
namespace Go.Proofs.YtcindeechmpalabGreat
open Go.ChangeShapes Go.WideShapes Go.ChangeAt Go.RowKit Go.Deep
set_option linter.unusedVariables false
theorem list2 {A : Type} (l : List A) (h : l.length = 2) : ∃ a b, l = [a, b] := by
  match l, h with
  | [a, b], _ => exact ⟨a, b, rfl⟩
theorem trod_array2 {H : Type} {enc : TypeId × Value → H} {P : Program} {w : World} {base : Nat} {spare : Nat → Bool} {held : Bool} {t e : TypeId} {fuel : Nat} {c0 c1 : Value} {x : DataW H × List MemPlace} (ht : P.underlying t = some (.array 2 e)) (hce : P.cellsOf e = 1)
    (h : DataW.trod enc P w base spare held fuel t [c0, c1] = some x) :
    ∃ y0 y1 n, x = (.agg [y0.1, y1.1], y0.2 ++ y1.2) ∧ DataW.trod enc P w base spare held n e [c0] = some y0 ∧ DataW.trod enc P w base spare held n e [c1] = some y1 := by
  cases fuel with
  | zero => simp [DataW.trod] at h
  | succ n =>
    unfold DataW.trod at h
    rw [ht] at h
    have r2 : List.range 2 = [0, 1] := rfl
    simp [r2, hce] at h
    obtain ⟨_, h⟩ := h
    cases h0 : DataW.trod enc P w base spare held n e [c0] with
    | none => simp [h0] at h
    | some y0 =>
      cases h1 : DataW.trod enc P w base spare held n e [c1] with
      | none => simp [h0, h1] at h
      | some y1 =>
        simp [h0, h1] at h
        exact ⟨y0, y1, n, h.symm, h0, h1⟩
end Go.Proofs.YtcindeechmpalabGreat
namespace Go.Proofs.YtcindeechmpalabGreat
open Go.ChangeShapes Go.WideShapes Go.ChangeAt Go.RowKit Go.Deep Go.Maps
set_option linter.unusedVariables false
set_option linter.unusedSimpArgs false
abbrev NoP : Nat → Prop := fun _ => False
set_option maxRecDepth 100000 in
set_option maxHeartbeats 8000000 in
theorem kvScans_walk (a : Option Addr) (n c : Nat) (l : List Pt) (fr to mid : ByteArray) (w : World) (hn : l.length = n) (hin : InP w a l) (hn2 : n ≤ 140737488355328) (hf : FitP l) (hs2 : mid.size ≤ maxLen) :
    Calls Tryz.prog 4 #[.slice a n c, .agg #[.string fr, .string to], .string mid] w fun e w' => e = .returned (.bool true) ∧ Below w.heap.size w w' := by
  have KW : Hid (∀ u, Calls Tryz.prog 9 #[] u fun e w' => e = .returned (.bool true) ∧ Below u.heap.size u w') := kworks_true
  have KS : Hid (∀ W, InP W a l → Calls Tryz.prog 10 #[.slice a n c] W fun e w' => ∃ v, e = .returned v ∧ OwnP w' W.heap.size v (smK l) ∧ Below W.heap.size W w') := fun W hW => ksmall_is l n hn hn2 hf a c W hW
  obtain ⟨s1, hop, hgd, hDl⟩ := gd_new 400 (by omega) (by omega)
  obtain ⟨l1, hl1⟩ : ∃ l1, l1 = (⟨(400 - 2) / 2, 1, 0, [], [], false⟩ : Lg) := ⟨_, rfl⟩
  rw [← hl1] at hop hgd
  have HOP : Hid ((Ds.new 400).opn = (0, some l1, s1) ∧ Gd s1 l1 ∧ l1.R = []) := ⟨hop, hgd, by rw [hl1]⟩
  have HIN : Hid (InP w a l) := hin
  obtain ⟨pts, hpts⟩ : ∃ pts, smK l = pts := ⟨_, rfl⟩
  rw [hpts] at KS
  have HPF : Hid (FitP pts ∧ pts.length ≤ 70) := by rw [← hpts]; exact ⟨smK_fitP l, smK_len l⟩
  have K1 : Hid (∀ W, Below w.heap.size w W → Calls Tryz.prog 5 #[.int .i64 400] W fun e w' => ∃ b, e = .returned (.tuple #[.pointer (some ⟨b, 0, none⟩), .int .i64 0]) ∧ Wd w w' NoP b 0 (Ds.new 400)) := fun W hW => by
    refine (wd_new 400 (by omega) (by omega) w W hW).mono ?_
    rintro e w' ⟨b, rfl, h1, _⟩
    exact ⟨b, rfl, h1.less (fun _ h => h.elim)⟩
  have HIW : Hid (∀ W, Below w.heap.size w W → InP W a l) := fun W hW => HIN.out.keep hW
  clear hn hin hn2 hf hop hgd hDl hl1 hpts
  go_enter Tryz.func4, Tryz.ntmps4
  go_wp2_with fail
  go_quiet (fail)
  have HB0 : Hid (Below w.heap.size w ((w.alloc (.cells #[.string fr, .string to] 37)).drewN nq)) := below_drewN (below1 w _) _
  generalize (w.alloc (.cells #[.string fr, .string to] 37)).drewN nq = w0 at HB0 ⊢
  go_wp2_with fail
  refine (K1.out w0 HB0.out).mono ?_
  rintro e w1 ⟨bd, rfl, hd1⟩
  have D1 : Hid (Wd w w1 NoP bd 0 (Ds.new 400)) := hd1
  clear hd1 HB0 K1
  have KO : Hid (Calls Tryz.prog 6 #[.pointer (some ⟨bd, 0, none⟩)] w1 fun e w' => ∃ bb bl mb, e = .returned (.tuple #[.pointer (some ⟨bb, 0, none⟩), .int .i64 0]) ∧ Kb w w' NoP bb bd bl mb 2 0 s1 l1 noT) := by
    refine (kOpen_ok D1.out (by omega) HOP.out.1 [] ⟨HOP.out.2.2, fun b hb => (by cases hb)⟩).mono ?_
    rintro e w' ⟨bb, bl, mb, rfl, h1, _⟩
    exact ⟨bb, bl, mb, rfl, h1⟩
  go_wp2_with fail
  refine KO.out.mono ?_
  rintro e w2 ⟨bb, bl, mb, rfl, hk2⟩
  have HK2 : Hid (Kb w w2 NoP bb bd bl mb 2 0 s1 l1 noT) := hk2
  have KS2 : Hid (Calls Tryz.prog 10 #[.slice a n c] w2 fun e w' => ∃ v, e = .returned v ∧ OwnP w' w2.heap.size v pts ∧ Below w2.heap.size w2 w') := KS.out w2 (HIW.out w2 hk2.bel)
  clear hk2 KO KS
  go_wp2_with fail
  refine KS2.out.mono ?_
  rintro e w3 ⟨v, rfl, ho3, hb3⟩
  obtain ⟨a3, c3, rfl, hi3, _, _, _, hbl3⟩ := ho3.slice
  obtain ⟨n3, hn3⟩ : ∃ n3, pts.length = n3 := ⟨_, rfl⟩
  rw [hn3]
  have KD : Hid (Calls Tryz.prog 7 #[.pointer (some ⟨bb, 0, none⟩), .slice a3 n3 c3] w3 fun e w' => ∃ q : Int, e = .returned (.int .i64 q) ∧ ∃ N9 s9 l9 T L, Kb w w' NoP bb bd bl mb N9 100 s9 l9 T ∧ LstP T allK L ∧ AtKey T ∧ ∀ x ∈ L, badP x = false) := by
    have hk3 : Kb w w3 (fun k => w2.heap.size ≤ k ∧ k < w3.heap.size) bb bd bl mb 2 0 s1 l1 noT := (HK2.out.keep hb3).less (fun k hk => .inr hk)
    have hal := apL_len [] pts
    refine (kDo_is hk3 (by omega) [] pts HPF.out.1 (by have := HPF.out.2; omega) (by have := HPF.out.2; omega) (by have := HPF.out.2; simp at hal; omega) noT_lst noT_at (fun x hx => (by cases hx)) (gd_fit (Gu.of HOP.out.2.1)) a3 n3 c3 hn3 hi3 (fun x hx _ => hbl3 x hx)).mono ?_
    rintro e w' ⟨rfl, h1, _⟩
    refine ⟨_, rfl, ?_⟩
    by_cases h0 : (kdo l1 s1 [] pts).1 = 0
    · rw [if_pos h0] at h1
      obtain ⟨g1, g2⟩ := apL_lst pts noT_lst noT_at
      refine ⟨_, _, _, _, apL [] pts, (h1.less (fun _ h => h.elim)).more (Nat.le_refl _) (by have := HPF.out.2; omega), g1, g2, ?_⟩
      refine apL_good pts (fun x hx => (by cases hx)) ?_
      have he : (encA pts).1 = 0 := by
        by_cases he : (encA pts).1 = 0
        · exact he
        · unfold kdo at h0
          rw [if_pos he] at h0
          exact h0
      exact (encA_ok (B := (encA pts).2) (by rw [← he])).2.2.2.1
    · rw [if_neg h0] at h1
      exact ⟨_, _, _, _, [], (h1.less (fun _ h => h.elim)).more (Nat.le_refl _) (by have := HPF.out.2; omega), noT_lst, noT_at, fun x hx => (by cases hx)⟩
  clear ho3 hb3 hi3 hbl3 KS2 hn3 HK2 HPF HOP
  go_wp2_with fail
  refine KD.out.mono ?_
  rintro e w4 ⟨qd, rfl, N9, s9, l9, T, L, hk4, hL4, hT4, hok4⟩
  have K4 : Hid (Kb w w4 NoP bb bd bl mb N9 100 s9 l9 T) := hk4
  have HT : Hid (LstP T allK L ∧ AtKey T ∧ ∀ x ∈ L, badP x = false) := ⟨hL4, hT4, hok4⟩
  have KSc : Hid (∀ W f t, Kb w W NoP bb bd bl mb N9 100 s9 l9 T → Calls Tryz.prog 11 #[.pointer (some ⟨bb, 0, none⟩), .string f, .string t] W fun e w' => ∃ v k, e = .returned v ∧ OwnP w' W.heap.size v k ∧ LstP T (inR f t) k ∧ k.length ≤ 100 ∧ Kb w w' NoP bb bd bl mb N9 100 s9 l9 T ∧ Below W.heap.size W w') := fun W f t hW => by
    refine (kScan_is W bb bl mb 100 T hW.box hW.mp (by omega) hT4 f t).mono ?_
    rintro e w' ⟨v, k, rfl, h1, h2, h3, hg⟩
    have hb : Below W.heap.size W w' := ⟨hg.os, hg.tape, hg.output, hg.size, fun k hk => hg.block k hk (by simp)⟩
    exact ⟨v, k, rfl, h1, h2, h3, (hW.keep hb).less (fun _ h => h.elim), hb⟩
  have KGt : Hid (∀ W x, T x.k = some x → Kb w W NoP bb bd bl mb N9 100 s9 l9 T → Calls Tryz.prog 12 #[.pointer (some ⟨bb, 0, none⟩), .string x.k] W fun e w' => e = .returned (.tuple #[.string x.v, .bool true]) ∧ Kb w w' NoP bb bd bl mb N9 100 s9 l9 T ∧ Below W.heap.size W w') := fun W x hx hW => by
    have hxL : x ∈ L := (hL4.mem x).2 ⟨hx, rfl⟩
    have hsz := badP_no (hok4 x hxL)
    have k := kGet_is W bb bl mb 100 T hW.box hW.mp x.k (by omega)
    rw [hx] at k
    refine k.mono ?_
    rintro e w' ⟨rfl, hb⟩
    exact ⟨rfl, (hW.keep hb).less (fun _ h => h.elim), hb⟩
  have KLn : Hid (∀ W, Kb w W NoP bb bd bl mb N9 100 s9 l9 T → Calls Tryz.prog 8 #[.pointer (some ⟨bb, 0, none⟩)] W fun e w' => e = .returned (.int .i64 (L.length : Int)) ∧ w' = W) := fun W hW => by
    have k := kLen_is W bb bl mb 100 T hW.box hW.mp (L.map Pt.k) (lst_ks hL4 hT4)
    rw [List.length_map] at k
    exact k
  clear hk4 hL4 hT4 hok4 KD
  go_wp2_with fail
  refine (KSc.out w4 fr to K4.out).mono ?_
  rintro e w5 ⟨vx, X, rfl, ho5, hX, hXl, hk5, hb5⟩
  obtain ⟨ax, cx, rfl, hi5, _⟩ := ho5.slice
  obtain ⟨nx, hnx⟩ : ∃ nx, X.length = nx := ⟨_, rfl⟩
  rw [hnx]
  have K5 : Hid (Kb w w5 NoP bb bd bl mb N9 100 s9 l9 T ∧ InP w5 ax X ∧ LstP T (inR fr to) X ∧ X.length = nx) := ⟨hk5, hi5, hX, hnx⟩
  rw [hnx] at hXl
  clear ho5 hX hk5 hb5 hi5 hnx K4
  go_wp2_with fail
  go_loopg [47] nx (fun g i wr => ∃ j : Nat, j ≤ nx ∧ g = nx - j ∧ i = .int .i64 (j : Int) ∧ Hid (Kb w wr NoP bb bd bl mb N9 100 s9 l9 T ∧ InP wr ax X))
  case atStart => exact ⟨0, Nat.zero_le _, rfl, rfl, K5.out.1, K5.out.2.1⟩
  case round =>
    obtain ⟨j, hj, rfl, rfl, RW⟩ := hrel
    by_cases hlt : j < nx
    · have j1 : decide ((j : Int) < (nx : Int)) = true := by rw [decide_eq_true_eq]; omega
      obtain ⟨x, hx⟩ : ∃ x, X[j]? = some x := ⟨X[j]'(by rw [K5.out.2.2.2]; exact hlt), by simp [K5.out.2.2.2, hlt]⟩
      obtain ⟨b, off, rfl, hbw, hpc⟩ := RW.out.2.at hx
      obtain ⟨c0, c1, c2⟩ := hpc
      have hm := (K5.out.2.2.1.mem x).1 (List.mem_of_getElem? hx)
      have HX : Hid (T x.k = some x) := hm.1
      have hir := (inR_cK _ _ _).1 hm.2
      have KG := KGt.out wr x HX.out RW.out.1
      have e1 : Op.bytesLess x.k.toList fr.toList = false := by rw [less_cK, decide_eq_false_iff_not]; exact hir.1
      have HCL : Hid (∀ w', Below wr.heap.size wr w' → Pc w' b (off + j * 3) x) := fun w' hb => by
        obtain ⟨b', off', e, hb', hp'⟩ := RW.out.2.at hx
        cases e
        exact hp'.kept (hb.block b hb')
      have HTO : Hid (to = ⟨#[]⟩ ∨ Op.bytesLess x.k.toList to.toList = true) := (match hir.2 with | .inl h => .inl h | .inr h => .inr (by rw [less_cK, decide_eq_true_eq]; exact h))
      have ri : IntKind.i64.wrap ((j : Int) + 1) = (j : Int) + 1 := by rw [IntKind.wrap_i64]; omega
      clear hx hm hir
      obtain ⟨xk, xv, xg⟩ := x
      simp only at c0 c1 c2 KG e1
      have HKG : Hid (Calls Tryz.prog 12 #[.pointer (some ⟨bb, 0, none⟩), .string xk] wr fun e w' => e = .returned (.tuple #[.string xv, .bool true]) ∧ Kb w w' NoP bb bd bl mb N9 100 s9 l9 T ∧ Below wr.heap.size wr w') := KG
      clear KG
      go_wp2_with fail
      refine HKG.out.mono ?_
      rintro e w6 ⟨rfl, hk6, hb6⟩
      have K6 : Hid (Kb w w6 NoP bb bd bl mb N9 100 s9 l9 T ∧ InP w6 (some ⟨b, off, none⟩) X) := ⟨hk6, RW.out.2.keep hb6⟩
      obtain ⟨d0, d1, d2⟩ := HCL.out w6 hb6
      simp only at d0 d1 d2
      clear hk6 hb6 c0 c1 c2 HKG HCL RW
      rcases HTO.out with h0 | h0
      · subst h0
        have t0 : (⟨#[]⟩ : ByteArray).toList = [] := toList_nil
        go_wp2_with fail
        go_roundg (nx - (j + 1))
        case measure => omega
        case rel => exact ⟨j + 1, by omega, rfl, by simp, K6⟩
      · by_cases ht : to.toList = []
        · go_wp2_with fail
          go_roundg (nx - (j + 1))
          case measure => omega
          case rel => exact ⟨j + 1, by omega, rfl, by simp, K6⟩
        · have t1 : (to.toList == []) = false := by simpa using ht
          have t2 : (to.toList != []) = true := by simp [bne, t1]
          have t3 : to.toList.isEmpty = false := by simpa using ht
          go_wp2_with fail
          go_roundg (nx - (j + 1))
          case measure => omega
          case rel => exact ⟨j + 1, by omega, rfl, by simp, K6⟩
    · have j1 : decide ((j : Int) < (nx : Int)) = false := by rw [decide_eq_false_iff_not]; omega
      have K7 : Hid (Kb w wr NoP bb bd bl mb N9 100 s9 l9 T ∧ InP wr ax X) := RW.out
      clear RW
      have t0 : (⟨#[]⟩ : ByteArray).toList = [] := toList_nil
      obtain ⟨A, hA⟩ : ∃ A, (Op.bytesLess fr.toList mid.toList) = A := ⟨_, rfl⟩
      obtain ⟨E, hE⟩ : ∃ E, (fr.toList == mid.toList) = E := ⟨_, rfl⟩
      obtain ⟨B, hB⟩ : ∃ B, (Op.bytesLess mid.toList to.toList) = B := ⟨_, rfl⟩
      have HAE : Hid ((A || E) = true → ¬ cK mid fr < 0) := fun h hlt => by
        rw [← hA, ← hE, less_cK, toList_eq] at h
        rcases Bool.or_eq_true _ _ ▸ h with h | h
        · have h1 : cK fr mid < 0 := by simpa using h
          have := cK_trans h1 hlt
          rw [cK_self] at this
          omega
        · have h1 : fr = mid := by simpa using h
          rw [h1, cK_self] at hlt
          omega
      have HBB : Hid (B = true → cK mid to < 0) := fun h => by rw [← hB, less_cK] at h; simpa using h
      have HMT : Hid (mid.toList = mid.toList) := rfl
      by_cases hD : mid.toList = []
      · cases A
        · cases E
          · have K8 : Hid (Kb w wr NoP bb bd bl mb N9 100 s9 l9 T) := K7.out.1
            go_wp2_with fail
            all_goals (
              refine (KSc.out wr ⟨#[]⟩ ⟨#[]⟩ K8.out).mono ?_
              rintro e w9 ⟨v9, Y9, rfl, ho9, hY9, _, hk9, _⟩
              obtain ⟨a9, c9, rfl, _⟩ := ho9.slice
              rw [inR_all] at hY9
              have hYL : Y9.length = L.length := by rw [lst_uniq hY9 HT.out.1]
              rw [hYL]
              have K9 : Hid (Kb w w9 NoP bb bd bl mb N9 100 s9 l9 T) := hk9
              clear ho9 hY9 hk9 hYL
              go_wp2_with fail
              refine (KLn.out w9 K9.out).mono ?_
              rintro e w10 ⟨rfl, hw⟩
              obtain rfl := hw.symm
              clear hw
              go_wp2_with fail
              refine (KW.out _).mono ?_
              rintro e w11 ⟨rfl, hb11⟩
              have B11 : Hid (Below w.heap.size w w11) := K9.out.bel.trans (hb11.mono K9.out.bel.size)
              clear hb11
              go_wp2_with fail
              go_ret
              exact ⟨rfl, B11.out⟩)
          · cases B
            · by_cases hC : to.toList = []
              · have K8 : Hid (Kb w wr NoP bb bd bl mb N9 100 s9 l9 T) := K7.out.1
                go_wp2_with fail
                all_goals (
                  refine (KSc.out wr ⟨#[]⟩ ⟨#[]⟩ K8.out).mono ?_
                  rintro e w9 ⟨v9, Y9, rfl, ho9, hY9, _, hk9, _⟩
                  obtain ⟨a9, c9, rfl, _⟩ := ho9.slice
                  rw [inR_all] at hY9
                  have hYL : Y9.length = L.length := by rw [lst_uniq hY9 HT.out.1]
                  rw [hYL]
                  have K9 : Hid (Kb w w9 NoP bb bd bl mb N9 100 s9 l9 T) := hk9
                  clear ho9 hY9 hk9 hYL
                  go_wp2_with fail
                  refine (KLn.out w9 K9.out).mono ?_
                  rintro e w10 ⟨rfl, hw⟩
                  obtain rfl := hw.symm
                  clear hw
                  go_wp2_with fail
                  refine (KW.out _).mono ?_
                  rintro e w11 ⟨rfl, hb11⟩
                  have B11 : Hid (Below w.heap.size w w11) := K9.out.bel.trans (hb11.mono K9.out.bel.size)
                  clear hb11
                  go_wp2_with fail
                  go_ret
                  exact ⟨rfl, B11.out⟩)
              · have hC1 : (to.toList == []) = false := by simpa using hC
                have hC3 : to.toList.isEmpty = false := by simpa using hC
                have K8 : Hid (Kb w wr NoP bb bd bl mb N9 100 s9 l9 T) := K7.out.1
                go_wp2_with fail
                all_goals (
                  refine (KSc.out wr ⟨#[]⟩ ⟨#[]⟩ K8.out).mono ?_
                  rintro e w9 ⟨v9, Y9, rfl, ho9, hY9, _, hk9, _⟩
                  obtain ⟨a9, c9, rfl, _⟩ := ho9.slice
                  rw [inR_all] at hY9
                  have hYL : Y9.length = L.length := by rw [lst_uniq hY9 HT.out.1]
                  rw [hYL]
                  have K9 : Hid (Kb w w9 NoP bb bd bl mb N9 100 s9 l9 T) := hk9
                  clear ho9 hY9 hk9 hYL
                  go_wp2_with fail
                  refine (KLn.out w9 K9.out).mono ?_
                  rintro e w10 ⟨rfl, hw⟩
                  obtain rfl := hw.symm
                  clear hw
                  go_wp2_with fail
                  refine (KW.out _).mono ?_
                  rintro e w11 ⟨rfl, hb11⟩
                  have B11 : Hid (Below w.heap.size w w11) := K9.out.bel.trans (hb11.mono K9.out.bel.size)
                  clear hb11
                  go_wp2_with fail
                  go_ret
                  exact ⟨rfl, B11.out⟩)
            · have K8 : Hid (Kb w wr NoP bb bd bl mb N9 100 s9 l9 T) := K7.out.1
              go_wp2_with fail
              all_goals (
                refine (KSc.out wr ⟨#[]⟩ ⟨#[]⟩ K8.out).mono ?_
                rintro e w9 ⟨v9, Y9, rfl, ho9, hY9, _, hk9, _⟩
                obtain ⟨a9, c9, rfl, _⟩ := ho9.slice
                rw [inR_all] at hY9
                have hYL : Y9.length = L.length := by rw [lst_uniq hY9 HT.out.1]
                rw [hYL]
                have K9 : Hid (Kb w w9 NoP bb bd bl mb N9 100 s9 l9 T) := hk9
                clear ho9 hY9 hk9 hYL
                go_wp2_with fail
                refine (KLn.out w9 K9.out).mono ?_
                rintro e w10 ⟨rfl, hw⟩
                obtain rfl := hw.symm
                clear hw
                go_wp2_with fail
                refine (KW.out _).mono ?_
                rintro e w11 ⟨rfl, hb11⟩
                have B11 : Hid (Below w.heap.size w w11) := K9.out.bel.trans (hb11.mono K9.out.bel.size)
                clear hb11
                go_wp2_with fail
                go_ret
                exact ⟨rfl, B11.out⟩)
        · cases B
          · by_cases hC : to.toList = []
            · have K8 : Hid (Kb w wr NoP bb bd bl mb N9 100 s9 l9 T) := K7.out.1
              go_wp2_with fail
              all_goals (
                refine (KSc.out wr ⟨#[]⟩ ⟨#[]⟩ K8.out).mono ?_
                rintro e w9 ⟨v9, Y9, rfl, ho9, hY9, _, hk9, _⟩
                obtain ⟨a9, c9, rfl, _⟩ := ho9.slice
                rw [inR_all] at hY9
                have hYL : Y9.length = L.length := by rw [lst_uniq hY9 HT.out.1]
                rw [hYL]
                have K9 : Hid (Kb w w9 NoP bb bd bl mb N9 100 s9 l9 T) := hk9
                clear ho9 hY9 hk9 hYL
                go_wp2_with fail
                refine (KLn.out w9 K9.out).mono ?_
                rintro e w10 ⟨rfl, hw⟩
                obtain rfl := hw.symm
                clear hw
                go_wp2_with fail
                refine (KW.out _).mono ?_
                rintro e w11 ⟨rfl, hb11⟩
                have B11 : Hid (Below w.heap.size w w11) := K9.out.bel.trans (hb11.mono K9.out.bel.size)
                clear hb11
                go_wp2_with fail
                go_ret
                exact ⟨rfl, B11.out⟩)
            · have hC1 : (to.toList == []) = false := by simpa using hC
              have hC3 : to.toList.isEmpty = false := by simpa using hC
              have K8 : Hid (Kb w wr NoP bb bd bl mb N9 100 s9 l9 T) := K7.out.1
              go_wp2_with fail
              all_goals (
                refine (KSc.out wr ⟨#[]⟩ ⟨#[]⟩ K8.out).mono ?_
                rintro e w9 ⟨v9, Y9, rfl, ho9, hY9, _, hk9, _⟩
                obtain ⟨a9, c9, rfl, _⟩ := ho9.slice
                rw [inR_all] at hY9
                have hYL : Y9.length = L.length := by rw [lst_uniq hY9 HT.out.1]
                rw [hYL]
                have K9 : Hid (Kb w w9 NoP bb bd bl mb N9 100 s9 l9 T) := hk9
                clear ho9 hY9 hk9 hYL
                go_wp2_with fail
                refine (KLn.out w9 K9.out).mono ?_
                rintro e w10 ⟨rfl, hw⟩
                obtain rfl := hw.symm
                clear hw
                go_wp2_with fail
                refine (KW.out _).mono ?_
                rintro e w11 ⟨rfl, hb11⟩
                have B11 : Hid (Below w.heap.size w w11) := K9.out.bel.trans (hb11.mono K9.out.bel.size)
                clear hb11
                go_wp2_with fail
                go_ret
                exact ⟨rfl, B11.out⟩)
          · have K8 : Hid (Kb w wr NoP bb bd bl mb N9 100 s9 l9 T) := K7.out.1
            go_wp2_with fail
            all_goals (
              refine (KSc.out wr ⟨#[]⟩ ⟨#[]⟩ K8.out).mono ?_
              rintro e w9 ⟨v9, Y9, rfl, ho9, hY9, _, hk9, _⟩
              obtain ⟨a9, c9, rfl, _⟩ := ho9.slice
              rw [inR_all] at hY9
              have hYL : Y9.length = L.length := by rw [lst_uniq hY9 HT.out.1]
              rw [hYL]
              have K9 : Hid (Kb w w9 NoP bb bd bl mb N9 100 s9 l9 T) := hk9
              clear ho9 hY9 hk9 hYL
              go_wp2_with fail
              refine (KLn.out w9 K9.out).mono ?_
              rintro e w10 ⟨rfl, hw⟩
              obtain rfl := hw.symm
              clear hw
              go_wp2_with fail
              refine (KW.out _).mono ?_
              rintro e w11 ⟨rfl, hb11⟩
              have B11 : Hid (Below w.heap.size w w11) := K9.out.bel.trans (hb11.mono K9.out.bel.size)
              clear hb11
              go_wp2_with fail
              go_ret
              exact ⟨rfl, B11.out⟩)
      · have hD1 : (mid.toList == []) = false := by simpa using hD
        have hD2 : (mid.toList != []) = true := by simp [bne, hD1]
        have hD3 : mid.toList.isEmpty = false := by simpa using hD
        cases A
        · cases E
          · have K8 : Hid (Kb w wr NoP bb bd bl mb N9 100 s9 l9 T) := K7.out.1
            go_wp2_with fail
            all_goals (
              refine (KSc.out wr ⟨#[]⟩ ⟨#[]⟩ K8.out).mono ?_
              rintro e w9 ⟨v9, Y9, rfl, ho9, hY9, _, hk9, _⟩
              obtain ⟨a9, c9, rfl, _⟩ := ho9.slice
              rw [inR_all] at hY9
              have hYL : Y9.length = L.length := by rw [lst_uniq hY9 HT.out.1]
              rw [hYL]
              have K9 : Hid (Kb w w9 NoP bb bd bl mb N9 100 s9 l9 T) := hk9
              clear ho9 hY9 hk9 hYL
              go_wp2_with fail
              refine (KLn.out w9 K9.out).mono ?_
              rintro e w10 ⟨rfl, hw⟩
              obtain rfl := hw.symm
              clear hw
              go_wp2_with fail
              refine (KW.out _).mono ?_
              rintro e w11 ⟨rfl, hb11⟩
              have B11 : Hid (Below w.heap.size w w11) := K9.out.bel.trans (hb11.mono K9.out.bel.size)
              clear hb11
              go_wp2_with fail
              go_ret
              exact ⟨rfl, B11.out⟩)
          · cases B
            · by_cases hC : to.toList = []
              · have hBn : Op.bytesLess mid.toList [] = false := bytesLess_nil _
                have hmid1 : ¬ cK mid fr < 0 := HAE.out rfl
                have hmid2 : to = ⟨#[]⟩ ∨ cK mid to < 0 := .inl ((toList_empty to).1 hC)
                have HM : Hid (¬ cK mid fr < 0 ∧ (to = ⟨#[]⟩ ∨ cK mid to < 0) ∧ mid ≠ ⟨#[]⟩) := ⟨hmid1, hmid2, fun e => hD ((toList_empty mid).2 e)⟩
                clear hmid1 hmid2
                go_wp2_with fail
                refine (KSc.out wr fr mid K7.out.1).mono ?_
                rintro e u1 ⟨v1, Y1, rfl, ho1, hY1, hl1, hk1, hb1⟩
                obtain ⟨a1, c1, rfl, hi1, _⟩ := ho1.slice
                obtain ⟨m1, hm1⟩ : ∃ m1, Y1.length = m1 := ⟨_, rfl⟩
                rw [hm1] at hl1 ho1 ⊢
                have P1 : Hid (OwnP u1 wr.heap.size (.slice a1 m1 c1) Y1 ∧ LstP T (inR fr mid) Y1 ∧ Kb w u1 NoP bb bd bl mb N9 100 s9 l9 T ∧ InP u1 ax X ∧ Below wr.heap.size wr u1 ∧ Y1.length = m1 ∧ m1 ≤ 100) := ⟨ho1, hY1, hk1, K7.out.2.keep hb1, hb1, hm1, hl1⟩
                clear ho1 hY1 hk1 hb1 hi1 hm1 hl1
                go_wp2_with fail
                refine (KSc.out u1 mid to P1.out.2.2.1).mono ?_
                rintro e u2 ⟨v2, Y2, rfl, ho2, hY2, hl2, hk2, hb2⟩
                obtain ⟨a2, c2, rfl, hi2, _, _, hn2, _⟩ := ho2.slice
                obtain ⟨m2, hm2⟩ : ∃ m2, Y2.length = m2 := ⟨_, rfl⟩
                rw [hm2] at hl2 ⊢
                have P2 : Hid (OwnP u2 wr.heap.size (.slice a1 m1 c1) Y1 ∧ InP u2 a2 Y2 ∧ (a2 = none → m2 = 0 ∧ c2 = 0) ∧ LstP T (inR mid to) Y2 ∧ Kb w u2 NoP bb bd bl mb N9 100 s9 l9 T ∧ InP u2 ax X ∧ Below wr.heap.size wr u2 ∧ Y2.length = m2 ∧ m2 ≤ 100) := ⟨P1.out.1.keep hb2, hi2, fun e => ⟨by rw [← hm2, (hn2 e).2]; rfl, (hn2 e).1⟩, hY2, hk2, P1.out.2.2.2.1.keep hb2, P1.out.2.2.2.2.1.trans (hb2.mono P1.out.2.2.2.2.1.size), hm2, hl2⟩
                clear ho2 hY2 hk2 hb2 hi2 hn2 hm2 hl2
                have HPN : Hid (m1 ≤ 100 ∧ m2 ≤ 100 ∧ Y1.length = m1) := ⟨P1.out.2.2.2.2.2.2, P2.out.2.2.2.2.2.2.2.2, P1.out.2.2.2.2.2.1⟩
                go_wp2_with (at_builtin; refine append_puts rfl (.tmp 113) (.tmp 117) rfl wr.heap.size _ Y1 rfl P2.out.1 a2 m2 c2 Y2 rfl P2.out.2.2.2.2.2.2.2.1 P2.out.2.1 P2.out.2.2.1 (by have := HPN.out; omega) P2.out.2.2.2.2.2.2.1.size ?_; intro v3 u3 ho3 hg3; have B3 : Below wr.heap.size wr u3 := P2.out.2.2.2.2.2.2.1.grown hg3 P2.out.2.2.2.2.2.2.1.size (fun k hk => (P2.out.1.own k hk).1); have P3 : Hid (OwnP u3 wr.heap.size v3 (Y1 ++ Y2) ∧ Kb w u3 NoP bb bd bl mb N9 100 s9 l9 T ∧ InP u3 ax X) := ⟨ho3, (K7.out.1.keep B3).less (fun _ h => h.elim), K7.out.2.keep B3⟩; clear ho3 hg3 B3)
                obtain ⟨a3, c3, hv3, hi3, _⟩ := P3.out.1.slice
                obtain ⟨m3, hm3⟩ : ∃ m3, (Y1 ++ Y2).length = m3 := ⟨_, rfl⟩
                rw [hm3] at hv3
                subst hv3
                have KSS : Hid (Calls Tryz.prog 13 #[.slice ax nx cx, .slice a3 m3 c3] u3 fun e w' => e = .returned (.bool true) ∧ Kb w w' NoP bb bd bl mb N9 100 s9 l9 T) := by
                  have hXY : X = Y1 ++ Y2 := lst_parts K5.out.2.2.1 P1.out.2.1 P2.out.2.2.2.1 (by have := HM.out.1; omega) HM.out.2.1 HM.out.2.2
                  have k := ksame_is X (Y1 ++ Y2) nx m3 cx c3 ax a3 u3 K5.out.2.2.2 hm3 (by omega) (by rw [← hm3, List.length_append]; have := HPN.out; have := P2.out.2.2.2.2.2.2.2; omega) P3.out.2.2 hi3
                  rw [(sameB_iff _ _).2 hXY] at k
                  refine k.mono ?_
                  rintro e w' ⟨rfl, hb⟩
                  exact ⟨rfl, (P3.out.2.1.keep hb).less (fun _ h => h.elim)⟩
                clear hi3 hm3
                go_wp2_with fail
                refine KSS.out.mono ?_
                rintro e u4 ⟨rfl, hk8⟩
                have K8 : Hid (Kb w u4 NoP bb bd bl mb N9 100 s9 l9 T) := hk8
                clear hk8
                go_wp2_with fail
                refine (KSc.out u4 ⟨#[]⟩ ⟨#[]⟩ K8.out).mono ?_
                rintro e w9 ⟨v9, Y9, rfl, ho9, hY9, _, hk9, _⟩
                obtain ⟨a9, c9, rfl, _⟩ := ho9.slice
                rw [inR_all] at hY9
                have hYL : Y9.length = L.length := by rw [lst_uniq hY9 HT.out.1]
                rw [hYL]
                have K9 : Hid (Kb w w9 NoP bb bd bl mb N9 100 s9 l9 T) := hk9
                clear ho9 hY9 hk9 hYL
                go_wp2_with fail
                refine (KLn.out w9 K9.out).mono ?_
                rintro e w10 ⟨rfl, hw⟩
                obtain rfl := hw.symm
                clear hw
                go_wp2_with fail
                refine (KW.out _).mono ?_
                rintro e w11 ⟨rfl, hb11⟩
                have B11 : Hid (Below w.heap.size w w11) := K9.out.bel.trans (hb11.mono K9.out.bel.size)
                clear hb11
                go_wp2_with fail
                go_ret
                exact ⟨rfl, B11.out⟩
              · have hC1 : (to.toList == []) = false := by simpa using hC
                have hC3 : to.toList.isEmpty = false := by simpa using hC
                have K8 : Hid (Kb w wr NoP bb bd bl mb N9 100 s9 l9 T) := K7.out.1
                go_wp2_with fail
                all_goals (
                  refine (KSc.out wr ⟨#[]⟩ ⟨#[]⟩ K8.out).mono ?_
                  rintro e w9 ⟨v9, Y9, rfl, ho9, hY9, _, hk9, _⟩
                  obtain ⟨a9, c9, rfl, _⟩ := ho9.slice
                  rw [inR_all] at hY9
                  have hYL : Y9.length = L.length := by rw [lst_uniq hY9 HT.out.1]
                  rw [hYL]
                  have K9 : Hid (Kb w w9 NoP bb bd bl mb N9 100 s9 l9 T) := hk9
                  clear ho9 hY9 hk9 hYL
                  go_wp2_with fail
                  refine (KLn.out w9 K9.out).mono ?_
                  rintro e w10 ⟨rfl, hw⟩
                  obtain rfl := hw.symm
                  clear hw
                  go_wp2_with fail
                  refine (KW.out _).mono ?_
                  rintro e w11 ⟨rfl, hb11⟩
                  have B11 : Hid (Below w.heap.size w w11) := K9.out.bel.trans (hb11.mono K9.out.bel.size)
                  clear hb11
                  go_wp2_with fail
                  go_ret
                  exact ⟨rfl, B11.out⟩)
            · have hC : ¬ to.toList = [] := fun e => by rw [e, bytesLess_nil] at hB; cases hB
              have hC1 : (to.toList == []) = false := by simpa using hC
              have hC3 : to.toList.isEmpty = false := by simpa using hC
              have hmid1 : ¬ cK mid fr < 0 := HAE.out rfl
              have hmid2 : to = ⟨#[]⟩ ∨ cK mid to < 0 := .inr (HBB.out rfl)
              have HM : Hid (¬ cK mid fr < 0 ∧ (to = ⟨#[]⟩ ∨ cK mid to < 0) ∧ mid ≠ ⟨#[]⟩) := ⟨hmid1, hmid2, fun e => hD ((toList_empty mid).2 e)⟩
              clear hmid1 hmid2
              go_wp2_with fail
              refine (KSc.out wr fr mid K7.out.1).mono ?_
              rintro e u1 ⟨v1, Y1, rfl, ho1, hY1, hl1, hk1, hb1⟩
              obtain ⟨a1, c1, rfl, hi1, _⟩ := ho1.slice
              obtain ⟨m1, hm1⟩ : ∃ m1, Y1.length = m1 := ⟨_, rfl⟩
              rw [hm1] at hl1 ho1 ⊢
              have P1 : Hid (OwnP u1 wr.heap.size (.slice a1 m1 c1) Y1 ∧ LstP T (inR fr mid) Y1 ∧ Kb w u1 NoP bb bd bl mb N9 100 s9 l9 T ∧ InP u1 ax X ∧ Below wr.heap.size wr u1 ∧ Y1.length = m1 ∧ m1 ≤ 100) := ⟨ho1, hY1, hk1, K7.out.2.keep hb1, hb1, hm1, hl1⟩
              clear ho1 hY1 hk1 hb1 hi1 hm1 hl1
              go_wp2_with fail
              refine (KSc.out u1 mid to P1.out.2.2.1).mono ?_
              rintro e u2 ⟨v2, Y2, rfl, ho2, hY2, hl2, hk2, hb2⟩
              obtain ⟨a2, c2, rfl, hi2, _, _, hn2, _⟩ := ho2.slice
              obtain ⟨m2, hm2⟩ : ∃ m2, Y2.length = m2 := ⟨_, rfl⟩
              rw [hm2] at hl2 ⊢
              have P2 : Hid (OwnP u2 wr.heap.size (.slice a1 m1 c1) Y1 ∧ InP u2 a2 Y2 ∧ (a2 = none → m2 = 0 ∧ c2 = 0) ∧ LstP T (inR mid to) Y2 ∧ Kb w u2 NoP bb bd bl mb N9 100 s9 l9 T ∧ InP u2 ax X ∧ Below wr.heap.size wr u2 ∧ Y2.length = m2 ∧ m2 ≤ 100) := ⟨P1.out.1.keep hb2, hi2, fun e => ⟨by rw [← hm2, (hn2 e).2]; rfl, (hn2 e).1⟩, hY2, hk2, P1.out.2.2.2.1.keep hb2, P1.out.2.2.2.2.1.trans (hb2.mono P1.out.2.2.2.2.1.size), hm2, hl2⟩
              clear ho2 hY2 hk2 hb2 hi2 hn2 hm2 hl2
              have HPN : Hid (m1 ≤ 100 ∧ m2 ≤ 100 ∧ Y1.length = m1) := ⟨P1.out.2.2.2.2.2.2, P2.out.2.2.2.2.2.2.2.2, P1.out.2.2.2.2.2.1⟩
              go_wp2_with (at_builtin; refine append_puts rfl (.tmp 113) (.tmp 117) rfl wr.heap.size _ Y1 rfl P2.out.1 a2 m2 c2 Y2 rfl P2.out.2.2.2.2.2.2.2.1 P2.out.2.1 P2.out.2.2.1 (by have := HPN.out; omega) P2.out.2.2.2.2.2.2.1.size ?_; intro v3 u3 ho3 hg3; have B3 : Below wr.heap.size wr u3 := P2.out.2.2.2.2.2.2.1.grown hg3 P2.out.2.2.2.2.2.2.1.size (fun k hk => (P2.out.1.own k hk).1); have P3 : Hid (OwnP u3 wr.heap.size v3 (Y1 ++ Y2) ∧ Kb w u3 NoP bb bd bl mb N9 100 s9 l9 T ∧ InP u3 ax X) := ⟨ho3, (K7.out.1.keep B3).less (fun _ h => h.elim), K7.out.2.keep B3⟩; clear ho3 hg3 B3)
              obtain ⟨a3, c3, hv3, hi3, _⟩ := P3.out.1.slice
              obtain ⟨m3, hm3⟩ : ∃ m3, (Y1 ++ Y2).length = m3 := ⟨_, rfl⟩
              rw [hm3] at hv3
              subst hv3
              have KSS : Hid (Calls Tryz.prog 13 #[.slice ax nx cx, .slice a3 m3 c3] u3 fun e w' => e = .returned (.bool true) ∧ Kb w w' NoP bb bd bl mb N9 100 s9 l9 T) := by
                have hXY : X = Y1 ++ Y2 := lst_parts K5.out.2.2.1 P1.out.2.1 P2.out.2.2.2.1 (by have := HM.out.1; omega) HM.out.2.1 HM.out.2.2
                have k := ksame_is X (Y1 ++ Y2) nx m3 cx c3 ax a3 u3 K5.out.2.2.2 hm3 (by omega) (by rw [← hm3, List.length_append]; have := HPN.out; have := P2.out.2.2.2.2.2.2.2; omega) P3.out.2.2 hi3
                rw [(sameB_iff _ _).2 hXY] at k
                refine k.mono ?_
                rintro e w' ⟨rfl, hb⟩
                exact ⟨rfl, (P3.out.2.1.keep hb).less (fun _ h => h.elim)⟩
              clear hi3 hm3
              go_wp2_with fail
              refine KSS.out.mono ?_
              rintro e u4 ⟨rfl, hk8⟩
              have K8 : Hid (Kb w u4 NoP bb bd bl mb N9 100 s9 l9 T) := hk8
              clear hk8
              go_wp2_with fail
              refine (KSc.out u4 ⟨#[]⟩ ⟨#[]⟩ K8.out).mono ?_
              rintro e w9 ⟨v9, Y9, rfl, ho9, hY9, _, hk9, _⟩
              obtain ⟨a9, c9, rfl, _⟩ := ho9.slice
              rw [inR_all] at hY9
              have hYL : Y9.length = L.length := by rw [lst_uniq hY9 HT.out.1]
              rw [hYL]
              have K9 : Hid (Kb w w9 NoP bb bd bl mb N9 100 s9 l9 T) := hk9
              clear ho9 hY9 hk9 hYL
              go_wp2_with fail
              refine (KLn.out w9 K9.out).mono ?_
              rintro e w10 ⟨rfl, hw⟩
              obtain rfl := hw.symm
              clear hw
              go_wp2_with fail
              refine (KW.out _).mono ?_
              rintro e w11 ⟨rfl, hb11⟩
              have B11 : Hid (Below w.heap.size w w11) := K9.out.bel.trans (hb11.mono K9.out.bel.size)
              clear hb11
              go_wp2_with fail
              go_ret
              exact ⟨rfl, B11.out⟩
        · cases B
          · by_cases hC : to.toList = []
            · have hBn : Op.bytesLess mid.toList [] = false := bytesLess_nil _
              have hmid1 : ¬ cK mid fr < 0 := HAE.out rfl
              have hmid2 : to = ⟨#[]⟩ ∨ cK mid to < 0 := .inl ((toList_empty to).1 hC)
              have HM : Hid (¬ cK mid fr < 0 ∧ (to = ⟨#[]⟩ ∨ cK mid to < 0) ∧ mid ≠ ⟨#[]⟩) := ⟨hmid1, hmid2, fun e => hD ((toList_empty mid).2 e)⟩
              clear hmid1 hmid2
              go_wp2_with fail
              refine (KSc.out wr fr mid K7.out.1).mono ?_
              rintro e u1 ⟨v1, Y1, rfl, ho1, hY1, hl1, hk1, hb1⟩
              obtain ⟨a1, c1, rfl, hi1, _⟩ := ho1.slice
              obtain ⟨m1, hm1⟩ : ∃ m1, Y1.length = m1 := ⟨_, rfl⟩
              rw [hm1] at hl1 ho1 ⊢
              have P1 : Hid (OwnP u1 wr.heap.size (.slice a1 m1 c1) Y1 ∧ LstP T (inR fr mid) Y1 ∧ Kb w u1 NoP bb bd bl mb N9 100 s9 l9 T ∧ InP u1 ax X ∧ Below wr.heap.size wr u1 ∧ Y1.length = m1 ∧ m1 ≤ 100) := ⟨ho1, hY1, hk1, K7.out.2.keep hb1, hb1, hm1, hl1⟩
              clear ho1 hY1 hk1 hb1 hi1 hm1 hl1
              go_wp2_with fail
              refine (KSc.out u1 mid to P1.out.2.2.1).mono ?_
              rintro e u2 ⟨v2, Y2, rfl, ho2, hY2, hl2, hk2, hb2⟩
              obtain ⟨a2, c2, rfl, hi2, _, _, hn2, _⟩ := ho2.slice
              obtain ⟨m2, hm2⟩ : ∃ m2, Y2.length = m2 := ⟨_, rfl⟩
              rw [hm2] at hl2 ⊢
              have P2 : Hid (OwnP u2 wr.heap.size (.slice a1 m1 c1) Y1 ∧ InP u2 a2 Y2 ∧ (a2 = none → m2 = 0 ∧ c2 = 0) ∧ LstP T (inR mid to) Y2 ∧ Kb w u2 NoP bb bd bl mb N9 100 s9 l9 T ∧ InP u2 ax X ∧ Below wr.heap.size wr u2 ∧ Y2.length = m2 ∧ m2 ≤ 100) := ⟨P1.out.1.keep hb2, hi2, fun e => ⟨by rw [← hm2, (hn2 e).2]; rfl, (hn2 e).1⟩, hY2, hk2, P1.out.2.2.2.1.keep hb2, P1.out.2.2.2.2.1.trans (hb2.mono P1.out.2.2.2.2.1.size), hm2, hl2⟩
              clear ho2 hY2 hk2 hb2 hi2 hn2 hm2 hl2
              have HPN : Hid (m1 ≤ 100 ∧ m2 ≤ 100 ∧ Y1.length = m1) := ⟨P1.out.2.2.2.2.2.2, P2.out.2.2.2.2.2.2.2.2, P1.out.2.2.2.2.2.1⟩
              go_wp2_with (at_builtin; refine append_puts rfl (.tmp 113) (.tmp 117) rfl wr.heap.size _ Y1 rfl P2.out.1 a2 m2 c2 Y2 rfl P2.out.2.2.2.2.2.2.2.1 P2.out.2.1 P2.out.2.2.1 (by have := HPN.out; omega) P2.out.2.2.2.2.2.2.1.size ?_; intro v3 u3 ho3 hg3; have B3 : Below wr.heap.size wr u3 := P2.out.2.2.2.2.2.2.1.grown hg3 P2.out.2.2.2.2.2.2.1.size (fun k hk => (P2.out.1.own k hk).1); have P3 : Hid (OwnP u3 wr.heap.size v3 (Y1 ++ Y2) ∧ Kb w u3 NoP bb bd bl mb N9 100 s9 l9 T ∧ InP u3 ax X) := ⟨ho3, (K7.out.1.keep B3).less (fun _ h => h.elim), K7.out.2.keep B3⟩; clear ho3 hg3 B3)
              obtain ⟨a3, c3, hv3, hi3, _⟩ := P3.out.1.slice
              obtain ⟨m3, hm3⟩ : ∃ m3, (Y1 ++ Y2).length = m3 := ⟨_, rfl⟩
              rw [hm3] at hv3
              subst hv3
              have KSS : Hid (Calls Tryz.prog 13 #[.slice ax nx cx, .slice a3 m3 c3] u3 fun e w' => e = .returned (.bool true) ∧ Kb w w' NoP bb bd bl mb N9 100 s9 l9 T) := by
                have hXY : X = Y1 ++ Y2 := lst_parts K5.out.2.2.1 P1.out.2.1 P2.out.2.2.2.1 (by have := HM.out.1; omega) HM.out.2.1 HM.out.2.2
                have k := ksame_is X (Y1 ++ Y2) nx m3 cx c3 ax a3 u3 K5.out.2.2.2 hm3 (by omega) (by rw [← hm3, List.length_append]; have := HPN.out; have := P2.out.2.2.2.2.2.2.2; omega) P3.out.2.2 hi3
                rw [(sameB_iff _ _).2 hXY] at k
                refine k.mono ?_
                rintro e w' ⟨rfl, hb⟩
                exact ⟨rfl, (P3.out.2.1.keep hb).less (fun _ h => h.elim)⟩
              clear hi3 hm3
              go_wp2_with fail
              refine KSS.out.mono ?_
              rintro e u4 ⟨rfl, hk8⟩
              have K8 : Hid (Kb w u4 NoP bb bd bl mb N9 100 s9 l9 T) := hk8
              clear hk8
              go_wp2_with fail
              refine (KSc.out u4 ⟨#[]⟩ ⟨#[]⟩ K8.out).mono ?_
              rintro e w9 ⟨v9, Y9, rfl, ho9, hY9, _, hk9, _⟩
              obtain ⟨a9, c9, rfl, _⟩ := ho9.slice
              rw [inR_all] at hY9
              have hYL : Y9.length = L.length := by rw [lst_uniq hY9 HT.out.1]
              rw [hYL]
              have K9 : Hid (Kb w w9 NoP bb bd bl mb N9 100 s9 l9 T) := hk9
              clear ho9 hY9 hk9 hYL
              go_wp2_with fail
              refine (KLn.out w9 K9.out).mono ?_
              rintro e w10 ⟨rfl, hw⟩
              obtain rfl := hw.symm
              clear hw
              go_wp2_with fail
              refine (KW.out _).mono ?_
              rintro e w11 ⟨rfl, hb11⟩
              have B11 : Hid (Below w.heap.size w w11) := K9.out.bel.trans (hb11.mono K9.out.bel.size)
              clear hb11
              go_wp2_with fail
              go_ret
              exact ⟨rfl, B11.out⟩
            · have hC1 : (to.toList == []) = false := by simpa using hC
              have hC3 : to.toList.isEmpty = false := by simpa using hC
              have K8 : Hid (Kb w wr NoP bb bd bl mb N9 100 s9 l9 T) := K7.out.1
              go_wp2_with fail
              all_goals (
                refine (KSc.out wr ⟨#[]⟩ ⟨#[]⟩ K8.out).mono ?_
                rintro e w9 ⟨v9, Y9, rfl, ho9, hY9, _, hk9, _⟩
                obtain ⟨a9, c9, rfl, _⟩ := ho9.slice
                rw [inR_all] at hY9
                have hYL : Y9.length = L.length := by rw [lst_uniq hY9 HT.out.1]
                rw [hYL]
                have K9 : Hid (Kb w w9 NoP bb bd bl mb N9 100 s9 l9 T) := hk9
                clear ho9 hY9 hk9 hYL
                go_wp2_with fail
                refine (KLn.out w9 K9.out).mono ?_
                rintro e w10 ⟨rfl, hw⟩
                obtain rfl := hw.symm
                clear hw
                go_wp2_with fail
                refine (KW.out _).mono ?_
                rintro e w11 ⟨rfl, hb11⟩
                have B11 : Hid (Below w.heap.size w w11) := K9.out.bel.trans (hb11.mono K9.out.bel.size)
                clear hb11
                go_wp2_with fail
                go_ret
                exact ⟨rfl, B11.out⟩)
          · have hC : ¬ to.toList = [] := fun e => by rw [e, bytesLess_nil] at hB; cases hB
            have hC1 : (to.toList == []) = false := by simpa using hC
            have hC3 : to.toList.isEmpty = false := by simpa using hC
            have hmid1 : ¬ cK mid fr < 0 := HAE.out rfl
            have hmid2 : to = ⟨#[]⟩ ∨ cK mid to < 0 := .inr (HBB.out rfl)
            have HM : Hid (¬ cK mid fr < 0 ∧ (to = ⟨#[]⟩ ∨ cK mid to < 0) ∧ mid ≠ ⟨#[]⟩) := ⟨hmid1, hmid2, fun e => hD ((toList_empty mid).2 e)⟩
            clear hmid1 hmid2
            go_wp2_with fail
            refine (KSc.out wr fr mid K7.out.1).mono ?_
            rintro e u1 ⟨v1, Y1, rfl, ho1, hY1, hl1, hk1, hb1⟩
            obtain ⟨a1, c1, rfl, hi1, _⟩ := ho1.slice
            obtain ⟨m1, hm1⟩ : ∃ m1, Y1.length = m1 := ⟨_, rfl⟩
            rw [hm1] at hl1 ho1 ⊢
            have P1 : Hid (OwnP u1 wr.heap.size (.slice a1 m1 c1) Y1 ∧ LstP T (inR fr mid) Y1 ∧ Kb w u1 NoP bb bd bl mb N9 100 s9 l9 T ∧ InP u1 ax X ∧ Below wr.heap.size wr u1 ∧ Y1.length = m1 ∧ m1 ≤ 100) := ⟨ho1, hY1, hk1, K7.out.2.keep hb1, hb1, hm1, hl1⟩
            clear ho1 hY1 hk1 hb1 hi1 hm1 hl1
            go_wp2_with fail
            refine (KSc.out u1 mid to P1.out.2.2.1).mono ?_
            rintro e u2 ⟨v2, Y2, rfl, ho2, hY2, hl2, hk2, hb2⟩
            obtain ⟨a2, c2, rfl, hi2, _, _, hn2, _⟩ := ho2.slice
            obtain ⟨m2, hm2⟩ : ∃ m2, Y2.length = m2 := ⟨_, rfl⟩
            rw [hm2] at hl2 ⊢
            have P2 : Hid (OwnP u2 wr.heap.size (.slice a1 m1 c1) Y1 ∧ InP u2 a2 Y2 ∧ (a2 = none → m2 = 0 ∧ c2 = 0) ∧ LstP T (inR mid to) Y2 ∧ Kb w u2 NoP bb bd bl mb N9 100 s9 l9 T ∧ InP u2 ax X ∧ Below wr.heap.size wr u2 ∧ Y2.length = m2 ∧ m2 ≤ 100) := ⟨P1.out.1.keep hb2, hi2, fun e => ⟨by rw [← hm2, (hn2 e).2]; rfl, (hn2 e).1⟩, hY2, hk2, P1.out.2.2.2.1.keep hb2, P1.out.2.2.2.2.1.trans (hb2.mono P1.out.2.2.2.2.1.size), hm2, hl2⟩
            clear ho2 hY2 hk2 hb2 hi2 hn2 hm2 hl2
            have HPN : Hid (m1 ≤ 100 ∧ m2 ≤ 100 ∧ Y1.length = m1) := ⟨P1.out.2.2.2.2.2.2, P2.out.2.2.2.2.2.2.2.2, P1.out.2.2.2.2.2.1⟩
            go_wp2_with (at_builtin; refine append_puts rfl (.tmp 113) (.tmp 117) rfl wr.heap.size _ Y1 rfl P2.out.1 a2 m2 c2 Y2 rfl P2.out.2.2.2.2.2.2.2.1 P2.out.2.1 P2.out.2.2.1 (by have := HPN.out; omega) P2.out.2.2.2.2.2.2.1.size ?_; intro v3 u3 ho3 hg3; have B3 : Below wr.heap.size wr u3 := P2.out.2.2.2.2.2.2.1.grown hg3 P2.out.2.2.2.2.2.2.1.size (fun k hk => (P2.out.1.own k hk).1); have P3 : Hid (OwnP u3 wr.heap.size v3 (Y1 ++ Y2) ∧ Kb w u3 NoP bb bd bl mb N9 100 s9 l9 T ∧ InP u3 ax X) := ⟨ho3, (K7.out.1.keep B3).less (fun _ h => h.elim), K7.out.2.keep B3⟩; clear ho3 hg3 B3)
            obtain ⟨a3, c3, hv3, hi3, _⟩ := P3.out.1.slice
            obtain ⟨m3, hm3⟩ : ∃ m3, (Y1 ++ Y2).length = m3 := ⟨_, rfl⟩
            rw [hm3] at hv3
            subst hv3
            have KSS : Hid (Calls Tryz.prog 13 #[.slice ax nx cx, .slice a3 m3 c3] u3 fun e w' => e = .returned (.bool true) ∧ Kb w w' NoP bb bd bl mb N9 100 s9 l9 T) := by
              have hXY : X = Y1 ++ Y2 := lst_parts K5.out.2.2.1 P1.out.2.1 P2.out.2.2.2.1 (by have := HM.out.1; omega) HM.out.2.1 HM.out.2.2
              have k := ksame_is X (Y1 ++ Y2) nx m3 cx c3 ax a3 u3 K5.out.2.2.2 hm3 (by omega) (by rw [← hm3, List.length_append]; have := HPN.out; have := P2.out.2.2.2.2.2.2.2; omega) P3.out.2.2 hi3
              rw [(sameB_iff _ _).2 hXY] at k
              refine k.mono ?_
              rintro e w' ⟨rfl, hb⟩
              exact ⟨rfl, (P3.out.2.1.keep hb).less (fun _ h => h.elim)⟩
            clear hi3 hm3
            go_wp2_with fail
            refine KSS.out.mono ?_
            rintro e u4 ⟨rfl, hk8⟩
            have K8 : Hid (Kb w u4 NoP bb bd bl mb N9 100 s9 l9 T) := hk8
            clear hk8
            go_wp2_with fail
            refine (KSc.out u4 ⟨#[]⟩ ⟨#[]⟩ K8.out).mono ?_
            rintro e w9 ⟨v9, Y9, rfl, ho9, hY9, _, hk9, _⟩
            obtain ⟨a9, c9, rfl, _⟩ := ho9.slice
            rw [inR_all] at hY9
            have hYL : Y9.length = L.length := by rw [lst_uniq hY9 HT.out.1]
            rw [hYL]
            have K9 : Hid (Kb w w9 NoP bb bd bl mb N9 100 s9 l9 T) := hk9
            clear ho9 hY9 hk9 hYL
            go_wp2_with fail
            refine (KLn.out w9 K9.out).mono ?_
            rintro e w10 ⟨rfl, hw⟩
            obtain rfl := hw.symm
            clear hw
            go_wp2_with fail
            refine (KW.out _).mono ?_
            rintro e w11 ⟨rfl, hb11⟩
            have B11 : Hid (Below w.heap.size w w11) := K9.out.bel.trans (hb11.mono K9.out.bel.size)
            clear hb11
            go_wp2_with fail
            go_ret
            exact ⟨rfl, B11.out⟩
end Go.Proofs.YtcindeechmpalabGreat
