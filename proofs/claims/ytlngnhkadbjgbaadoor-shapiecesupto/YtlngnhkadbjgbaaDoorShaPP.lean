/- The walk of ShaPieces, the document's own Sum by its contract. -/
import Derived.Test.YtlngnhkadbjgbaaDoorShaPA
import Derived.Test.YtlngnhkadbjgbaaDoorShaPB
import Derived.Test.YtlngnhkadbjgbaaDoorShaW2
import Derived.Test.YtlngnhkadbjgbaaDoorShaX
import Derived.Test.YtlngnhkadbjgbaaDoorShaK
import Derived.Test.YtlngnhkadbjgbaaDoorShaQ
import Derived.Lib.SlBytesConst
namespace Go.Proofs.YtlngnhkadbjgbaaDoor
open Go.ChangeShapes Go.WideShapes Go.ChangeAt Go.RowKit Go.Deep
set_option linter.unusedVariables false
/-- the contract of the document's own Sum -/
def RSum2 : Prop := ∀ (L : List Int) (a : Option Addr) (n cap : Nat) (w : World), L.length = n → IsBytes L → n ≤ 140737488351232 → Holds w a L → (a = none → cap = 0) → (∀ x, a = some x → L ≠ [] → x.block < w.heap.size) →
  Calls Tryd.prog 6 #[.slice a n cap] w fun e w' => e = .returned (.agg (u8s (shaL L))) ∧ Below w.heap.size w w'
/-- the bytes of the first j pieces -/
def catM (M : Nat → List Int) : Nat → List Int
  | 0 => []
  | j + 1 => catM M j ++ M j
theorem catM_bytes (M : Nat → List Int) (len : Nat) (h : ∀ i, i < len → IsBytes (M i)) : ∀ j, j ≤ len → IsBytes (catM M j)
  | 0, _ => fun i hi => by simp [catM] at hi
  | j + 1, hj => bytes_app (catM_bytes M len h j (by omega)) (h j (by omega))
theorem HashAt.apart {w : World} {g : Nat} {L A : List Int} {base : Nat} {v : Value} (h : HashAt w g L) (ho : Owned w base v A) : v.ownBlock ≠ some g := by
  obtain ⟨R, _, _, _, hh⟩ := h
  rcases ho.2 with ⟨rfl, _⟩ | ⟨g', cap, cur, rfl, _, hg', _⟩
  · simp [Value.ownBlock]
  · intro e
    simp only [Value.ownBlock, Option.some.injEq] at e
    subst e
    rw [hh] at hg'
    simp at hg'
theorem owned_block {w w' : World} {base : Nat} {v : Value} {A : List Int} (h : Owned w base v A) (hb : ∀ k, v.ownBlock = some k → w'.heap[k]? = w.heap[k]?) : Owned w' base v A := by
  refine ⟨h.1, ?_⟩
  rcases h.2 with h1 | ⟨g, cap, cur, rfl, hbg, hg, rest⟩
  · exact .inl h1
  · exact .inr ⟨g, cap, cur, rfl, hbg, (hb g rfl).trans hg, rest⟩
theorem owned_lt {w : World} {base : Nat} {v : Value} {A : List Int} (h : Owned w base v A) : ∀ k, v.ownBlock = some k → base ≤ k ∧ k < w.heap.size := fun k hk => World.ownsRow.lt h k hk
theorem owned_below {w w' : World} {base : Nat} {v : Value} {A : List Int} (h : Owned w base v A) (hb : Below w.heap.size w w') : Owned w' base v A := owned_block h fun k hk => hb.block k (owned_lt h k hk).2
theorem HashAt.below {w w' : World} {g : Nat} {L : List Int} (h : HashAt w g L) (hb : Below w.heap.size w w') : HashAt w' g L := h.of_heap (hb.block g h.lt)
theorem grownBy_trans {w w' w'' : World} {row : Option Nat} (h : w.grownBy w' row) (k : w'.grownBy w'' row) : w.grownBy w'' row :=
  ⟨k.os.trans h.os, k.tape.trans h.tape, k.output.trans h.output, Nat.le_trans h.size k.size, fun g hg hr => (k.block g (Nat.lt_of_lt_of_le hg h.size) hr).trans (h.block g hg hr)⟩
theorem owned_to {w : World} {base : Nat} {v : Value} {n : Nat} {A : List Int} (hn : A.length = n) (h : Owned w base v A) : w.ownsRow base 5 1 v n (A.map (Value.int .u8)) := by
  unfold Owned at h
  rw [hn] at h
  exact h
theorem owned_of {w : World} {base : Nat} {v : Value} {n : Nat} {A : List Int} (hn : A.length = n) (h : w.ownsRow base 5 1 v n (A.map (Value.int .u8))) : Owned w base v A := by
  unfold Owned
  rw [hn]
  exact h
theorem bytes_set1 {O : List Int} (h : IsBytes O) (j : Nat) (v : Int) (h0 : 0 ≤ v) (h1 : v ≤ 255) : IsBytes (O.set j v) :=
  bytes_of_mem fun x hx => by
    rcases List.mem_or_eq_of_mem_set hx with g | g
    · exact bytes_mem h x g
    · rw [g]; exact ⟨h0, h1⟩
theorem more_holds (w : World) : Holds (w.alloc (.cells #[.int .u8 109, .int .u8 111, .int .u8 114, .int .u8 101] 5 (4, 5))) (some ⟨w.heap.size, 0, none⟩) [109, 111, 114, 101] :=
  .inr ⟨w.heap.size, 0, rfl, fun i hi => by
    have hi' : i < 4 := hi
    rw [Nat.zero_add, cell_of_row _ _ i _ _ (4, 5) (heap_alloc_last w _)]
    rcases (by omega : i = 0 ∨ i = 1 ∨ i = 2 ∨ i = 3) with rfl | rfl | rfl | rfl <;> rfl⟩
theorem more_bytes : IsBytes [109, 111, 114, 101] := bytes_of_mem (by decide)
theorem grown_below {w w' : World} {row : Option Nat} (h : w.grownBy w' row) (B : Nat) (hB : B ≤ w.heap.size) (hr : ∀ k, row = some k → B ≤ k) : Below B w w' :=
  ⟨h.os, h.tape, h.output, h.size, fun k hk => h.block k (by omega) (fun e => by have := hr k e.symm; omega)⟩
theorem owned_grown {w w' : World} {base : Nat} {v : Value} {A : List Int} {row : Option Nat} (h : Owned w base v A) (hg : w.grownBy w' row) (hne : ∀ k, v.ownBlock = some k → row ≠ some k) : Owned w' base v A :=
  owned_block h fun k hk => hg.block k (owned_lt h k hk).2 (fun e => hne k hk e.symm)
theorem HashAt.grown {w w' : World} {g : Nat} {L : List Int} {row : Option Nat} (h : HashAt w g L) (hg : w.grownBy w' row) (hne : row ≠ some g) : HashAt w' g L :=
  h.of_heap (hg.block g h.lt (fun e => hne e.symm))
theorem owned_only {w w' : World} {base g : Nat} {v : Value} {A : List Int} (h : Owned w base v A) (ho : Only g w w') (hne : v.ownBlock ≠ some g) : Owned w' base v A :=
  owned_block h fun k hk => ho.block k (owned_lt h k hk).2 (fun e => hne (by rw [← e]; exact hk))
theorem owned_some {w : World} {base : Nat} {a : Option Addr} {n c : Nat} {A : List Int} (h : Owned w base (.slice a n c) A) (hn : 0 < n) : ∃ g, a = some ⟨g, 0, none⟩ := by
  have hl := h.holds.2.1
  rcases h.2 with ⟨e, hn0⟩ | ⟨g', cap, cur, e, _⟩
  · omega
  · simp only [Value.slice.injEq] at e
    exact ⟨g', e.1⟩
theorem len_is' (g : Nat) (L : List Int) (n : Nat) (hn : L.length = n) (w : World) (h : HashAt w g L) :
    Calls Tryd.prog 11 #[.pointer (some ⟨g, 0, none⟩)] w fun e w' => e = .returned (.int .i64 (n : Int)) ∧ w' = w := by
  subst hn
  exact len_is g L w h
set_option maxRecDepth 100000 in
set_option maxHeartbeats 8000000 in
theorem shaPieces_walk0 (KR : RSum2) (a : Option Addr) (len cap : Nat) (V : Nat → Option Addr × Nat × Nat) (M : Nat → List Int) (lk fk : Nat → Bool) (w : World) (w0 : InP w a len V M lk fk) (hl62 : len ≤ 4611686018427387904) (hk : KIs w)
    (hup : ∀ j, j ≤ len → (catM M j).length ≤ 1048576) :
    Calls Tryd.prog 4 #[.slice a len cap] w fun e w' => e = .returned (.bool true) ∧ Below w.heap.size w w' := by
  have HI : Hid (InP w a len V M lk fk) := w0
  have HK : Hid (KIs w) := hk
  have HR : Hid RSum2 := KR
  have HU : Hid (∀ j, j ≤ len → (catM M j).length ≤ 1048576) := hup
  have HCB : Hid (∀ j, j ≤ len → IsBytes (catM M j)) := fun j hj => catM_bytes M len (fun i hi => (w0.2 i hi).2.2.1) j hj
  obtain ⟨J, hJ⟩ : ∃ J, J = min len 60 := ⟨_, rfl⟩
  have hJ60 : J ≤ 60 := by omega
  have hJl : J ≤ len := by omega
  have HJE : Hid (J < 60 → J = len) := by show _ → _; omega
  have hgd := guard_digest
  clear w0 hk KR hup hJ
  go_enter Tryd.func4, Tryd.ntmps4
  go_wp2_with fail
  refine (new_is w).mono ?_
  rintro e w1 ⟨g0, rfl, hg0, hH0, hb0⟩
  obtain ⟨h, hh⟩ : ∃ h, h = w.heap.size := ⟨_, rfl⟩
  have HH : Hid (h = w.heap.size) := hh
  rw [← hh] at hg0 hb0
  have H0 : Hid (HashAt w1 g0 []) := hH0
  have B0 : Hid (Below h w w1) := hb0
  clear hh hH0 hb0
  go_wp2_with fail
  go_loopg [3, 4, 5] J (fun gh v3 v4 i wr => ∃ (j g : Nat) (a4 : Option Addr) (n4 c4 : Nat), j ≤ J ∧ gh = J - j ∧ i = .int .i64 j ∧ v3 = .pointer (some ⟨g, 0, none⟩) ∧ v4 = .slice a4 n4 c4 ∧ h ≤ g ∧ Hid (HashAt wr g (catM M j)) ∧ Hid (Owned wr h (.slice a4 n4 c4) (catM M j)) ∧ Hid (Below h w wr))
  case atStart => exact ⟨0, g0, none, 0, 0, Nat.zero_le _, rfl, rfl, rfl, rfl, hg0, H0, World.ownsRow_nil _ _ _ _, B0⟩
  case round =>
    obtain ⟨j, g, a4, n4, c4, hj, rfl, rfl, rfl, rfl, hgh, HA, OA, BW⟩ := hrel
    rename World => wo
    have hsz := BW.out.size
    have hn4 : (catM M j).length = n4 := OA.out.holds.2.1
    have hn4' : n4 ≤ 1048576 := by rw [← hn4]; exact HU.out j (by omega)
    have HN4 : Hid ((catM M j).length = n4) := hn4
    have hho : h ≤ wo.heap.size := by rw [HH.out]; exact hsz
    have HKo : Hid (∀ W, Below h w W → KIs W) := fun W hW => HK.out.below hW (by rw [HH.out]; exact HK.out.pos)
    clear hn4
    by_cases hjk : j < J
    · have g1 : decide ((j : Int) < (len : Int)) = true := by simp; omega
      have g2 : decide ((j : Int) < 60) = true := by simp; omega
      obtain ⟨b, off, rfl, hbw, hcell⟩ := HI.out.1 (by omega)
      obtain ⟨mh, ml, mb, mn, mt, mc, mm⟩ := HI.out.2 j (by omega)
      have hbh : b < h := by rw [HH.out]; exact hbw
      have CS : Hid (∀ W, Below h w W → W.cell? ⟨b, off + j * 3, none⟩ = some (.slice (V j).1 (V j).2.1 (V j).2.2)) := fun W hW => by rw [hW.cell (show b < h from hbh)]; exact (hcell j (by omega)).1
      have CL : Hid (∀ W, Below h w W → W.cell? ⟨b, off + j * 3 + 1, none⟩ = some (.bool (lk j))) := fun W hW => by rw [hW.cell (show b < h from hbh)]; exact (hcell j (by omega)).2.1
      have CF : Hid (∀ W, Below h w W → W.cell? ⟨b, off + j * 3 + 2, none⟩ = some (.bool (fk j))) := fun W hW => by rw [hW.cell (show b < h from hbh)]; exact (hcell j (by omega)).2.2
      have MH : Hid (∀ W, Below h w W → Holds W (V j).1 (M j)) := fun W hW => mh.below hW (by rw [HH.out]; exact mt)
      have MT : Hid (∀ x, (V j).1 = some x → M j ≠ [] → x.block < h) := by rw [HH.out]; exact mt
      have MN : Hid ((V j).1 = none → (V j).2.2 = 0) := mn
      have MB : Hid (IsBytes (M j)) := mb
      have EC : Hid (catM M (j + 1) = catM M j ++ M j) := rfl
      have hup1 : (catM M (j + 1)).length ≤ 1048576 := HU.out (j + 1) (by omega)
      have hlen1 : n4 + (V j).2.1 ≤ 1048576 := by rw [EC.out, List.length_append, HN4.out, ml] at hup1; exact hup1
      have cs0 := CS.out wo BW.out
      have csA := CS.out (wo.alloc (.cells #[] 5)) (BW.out.trans ((Below.refl _ _).alloc hho _))
      have i1 : ((j : Int) < (len : Int)) := by omega
      have CBJ : Hid (IsBytes (catM M (j + 1))) := HCB.out (j + 1) (by omega)
      clear hcell mh mn mt mb hup1
      generalize (V j).1 = av at *
      generalize (V j).2.1 = nv at *
      generalize (V j).2.2 = cv at *
      have OE : Hid (Owned (wo.alloc (.cells #[] 5)) wo.heap.size (.slice (some ⟨wo.heap.size, 0, none⟩) 0 0) []) := owned_empty wo wo.heap.size (Nat.le_refl _)
      have HE : Hid (Holds (wo.alloc (.cells #[] 5)) av (M j)) := MH.out _ (BW.out.trans ((Below.refl _ _).alloc hho _))
      go_wp2_with (at_builtin; refine append_bytes rfl (.tmp 22) (.tmp 27) rfl wo.heap.size _ [] rfl OE.out _ _ _ (M j) rfl ml HE.out MN.out nv (by simp) (by omega) (by simp) ?_; intro a6 c6 w2 hown2 hb2; have O2 : Hid (Owned w2 wo.heap.size (.slice a6 nv c6) (M j)) := hown2; have B2 : Hid (Below wo.heap.size wo w2) := (((Below.refl _ _).alloc (Nat.le_refl _) _).trans hb2); clear hown2 hb2)
      obtain ⟨hc6, hc6'⟩ := O2.out.cap
      have B2w : Hid (Below h w w2) := BW.out.trans (B2.out.mono hho)
      have hs2 := B2.out.size
      have glt : g < wo.heap.size := HA.out.lt
      have HA2 : Hid (HashAt w2 g (catM M j)) := HA.out.below B2.out
      have OA2 : Hid (Owned w2 h (.slice a4 n4 c4) (catM M j)) := owned_below OA.out B2.out
      have OAL : Hid (∀ k, Value.ownBlock (.slice a4 n4 c4) = some k → h ≤ k ∧ k < wo.heap.size) := owned_lt OA.out
      have OWL : Hid (∀ k, Value.ownBlock (.slice a6 nv c6) = some k → wo.heap.size ≤ k ∧ k < w2.heap.size) := owned_lt O2.out
      refine (write_any g (catM M j) (M j) a6 nv c6 w2 ml MB.out hc6 hc6' (by omega) (by rw [HN4.out]; omega) O2.out.holds.1 (fun x hx _ e => by have h1 := (OWL.out x.block (by rw [hx]; rfl)).1; omega) HA2.out (HKo.out _ B2w.out)).mono ?_
      rintro e w3 ⟨rfl, hA3, hO3⟩
      have HA3 : Hid (HashAt w3 g (catM M (j + 1))) := hA3
      have OA3 : Hid (Owned w3 h (.slice a4 n4 c4) (catM M j)) := owned_only OA2.out hO3 (HA2.out.apart OA2.out)
      have O3 : Hid (Owned w3 wo.heap.size (.slice a6 nv c6) (M j)) := owned_only O2.out hO3 (HA2.out.apart O2.out)
      have B3 : Hid (Below h w w3) := B2w.out.trans (hO3.below h hgh (by omega))
      have hs3 := hO3.size
      have cs3 := CS.out w3 B3.out
      clear hA3 hO3 HA2 OA2 B2w O2 cs0 csA OE HE
      go_wp2_with (at_builtin; refine append_two rfl (.tmp 32) (.tmp 37) rfl h _ (catM M j) rfl OA3.out _ _ _ (M j) rfl ml (MH.out w3 B3.out) MN.out (by rw [HN4.out]; omega) (by omega) ?_; intro v4 w4 ho4 hg4 hd4; have e5 : (catM M j ++ M j).length = n4 + nv := (by rw [List.length_append, HN4.out, ml]); obtain ⟨a5, c5, hv5, _, _, _, _⟩ := ho4.slice; rw [e5] at hv5; subst hv5; have O4 : Hid (Owned w4 h (.slice a5 (n4 + nv) c5) (catM M (j + 1))) := ho4; have G4 : Hid (w3.grownBy w4 (Value.ownBlock (.slice a4 n4 c4))) := hg4; have D4 : Hid (Value.ownBlock (.slice a5 (n4 + nv) c5) = Value.ownBlock (.slice a4 n4 c4) ∨ Value.ownBlock (.slice a5 (n4 + nv) c5) = some w3.heap.size) := hd4; have E5 : Hid ((catM M (j + 1)).length = n4 + nv) := e5; clear ho4 hg4 hd4 e5)
      have hs4 := G4.out.size
      have HA4 : Hid (HashAt w4 g (catM M (j + 1))) := HA3.out.grown G4.out (HA3.out.apart OA3.out)
      have P4 : Hid (Owned w4 wo.heap.size (.slice a6 nv c6) (M j)) := owned_grown O3.out G4.out (fun k hk e => by have h1 := (OWL.out k hk).1; have h2 := (OAL.out k e).2; omega)
      have B4 : Hid (Below h w w4) := B3.out.trans (grown_below G4.out h (by omega) (fun k hk => (OAL.out k hk).1))
      have NE4 : Hid (∀ k, Value.ownBlock (.slice a5 (n4 + nv) c5) = some k → Value.ownBlock (.slice a6 nv c6) ≠ some k) := fun k hk e => by
        have h1 := OWL.out k e
        rcases D4.out with hd | hd
        · have h2 := OAL.out k (by rw [← hd]; exact hk)
          omega
        · rw [hd] at hk
          simp only [Option.some.injEq] at hk
          omega
      have NG : Hid (Value.ownBlock (.slice a6 nv c6) ≠ some g) := fun e => by have h1 := OWL.out g e; omega
      have hnm : n4 + nv ≤ 1048576 := hlen1
      clear HA3 O3 G4 D4 OA3 cs3 B3 OA HA B2 BW
      generalize n4 + nv = n5 at *
      go_loopg [41] nv (fun gh i wq => ∃ (k : Nat) (O : List Int), k ≤ nv ∧ gh = nv - k ∧ i = .int .i64 k ∧ O.length = nv ∧ Hid (IsBytes O) ∧ Hid (Owned wq wo.heap.size (.slice a6 nv c6) O) ∧ Hid (w4.grownBy wq (Value.ownBlock (.slice a6 nv c6))))
      case atStart => exact ⟨0, M j, Nat.zero_le _, rfl, rfl, ml, MB, P4, grownBy_refl _ _⟩
      case round =>
        obtain ⟨k, O, hk, rfl, rfl, hOl, HOB, HOW, HG⟩ := hrel
        by_cases hkm : k < nv
        · obtain ⟨go, rfl⟩ := owned_some HOW.out (by omega)
          have HOO : Hid (wr.ownsRow wo.heap.size 5 1 (.slice (some ⟨go, 0, none⟩) nv c6) nv (O.map (Value.int .u8))) := owned_to hOl HOW.out
          have hcell : wr.cell? ⟨go, k, none⟩ = some (.int .u8 (O.getD k 0)) := by
            rw [World.ownsRow.cellAt HOO.out k (by omega)]
            simp [List.getD, List.getElem?_eq_getElem (show k < O.length by omega)]
          have hfz : wr.frozen? ⟨go, k, none⟩ = false := World.ownsRow.frozenAt HOO.out k
          have HX : Hid (0 ≤ O.getD k 0 ∧ O.getD k 0 ≤ 255) := HOB.out k (by omega)
          generalize O.getD k 0 = x at *
          have i2 : ((k : Int) < (nv : Int)) := by omega
          go_wp2_with fail
          go_roundg (nv - (k + 1))
          case measure => omega
          case rel =>
            have hst := World.ownsRow.stored HOO.out k (.int .u8 ((x + 1) % 256))
            exact ⟨k + 1, O.set k ((x + 1) % 256), by omega, rfl, by go_num, by rw [List.length_set]; exact hOl, bytes_set1 HOB.out k _ (by omega) (by omega), owned_of (n := nv) (by rw [List.length_set]; exact hOl) (by rw [List.map_set]; exact hst.1), grownBy_trans HG.out hst.2⟩
        · have i2 : ¬ ((k : Int) < (nv : Int)) := by omega
          have hs5 := HG.out.size
          have HA5 : Hid (HashAt wr g (catM M (j + 1))) := HA4.out.grown HG.out NG.out
          have OA5 : Hid (Owned wr h (.slice a5 n5 c5) (catM M (j + 1))) := owned_grown O4.out HG.out NE4.out
          have B5 : Hid (Below h w wr) := B4.out.trans (grown_below HG.out h (by omega) (fun k hk => by have := (OWL.out k hk).1; omega))
          have hw5 : h ≤ wr.heap.size := by omega
          have gl5 : g < wr.heap.size := HA5.out.lt
          have cl := CL.out wr B5.out
          have cf := CF.out wr B5.out
          have heqD := fun W : World => eq_digest (shaL (catM M (j + 1))) (shaL (catM M (j + 1))) (shaL_len _) (shaL_len _) W
          rw [decide_eq_true rfl] at heqD
          have CF5 : Hid (∀ W, Below h w W → W.cell? ⟨b, off + j * 3 + 2, none⟩ = some (.bool (fk j))) := CF
          clear HG HOW HOB NE4 NG OWL OAL O4 HA4 P4 B4 CS CL CF MH MT MN MB HN4
          generalize lk j = bl at *
          cases bl with
          | false =>
            generalize fk j = bf at *
            cases bf with
            | false =>
              go_wp2_with fail
              go_roundg (J - (j + 1))
              case measure => omega
              case rel => exact ⟨j + 1, g, a5, n5, c5, by omega, rfl, by go_num, rfl, rfl, hgh, HA5, OA5, B5⟩
            | true =>
              go_wp2_with fail
              refine (copy_is g (catM M (j + 1)) wr HA5.out).mono ?_
              rintro e w8 ⟨rfl, hc8, hb8⟩
              have hs8 := hb8.size
              have gq : g < wr.heap.size := HA5.out.lt
              have hq : h ≤ wr.heap.size := by omega
              have HC8 : Hid (HashAt w8 wr.heap.size (catM M (j + 1))) := hc8
              have ql := hc8.lt
              have HA8 : Hid (HashAt (w8.alloc (.cells #[.int .u8 109, .int .u8 111, .int .u8 114, .int .u8 101] 5 (4, 5))) g (catM M (j + 1))) := (HA5.out.below hb8).below ((Below.refl _ _).alloc (Nat.le_refl _) _)
              have OA8 : Hid (Owned (w8.alloc (.cells #[.int .u8 109, .int .u8 111, .int .u8 114, .int .u8 101] 5 (4, 5))) h (.slice a5 n5 c5) (catM M (j + 1))) := (owned_below OA5.out hb8).alloc _
              have B8 : Hid (Below h w (w8.alloc (.cells #[.int .u8 109, .int .u8 111, .int .u8 114, .int .u8 101] 5 (4, 5)))) := (B5.out.trans (hb8.mono hq)).alloc (by omega) _
              have HC8a : Hid (HashAt (w8.alloc (.cells #[.int .u8 109, .int .u8 111, .int .u8 114, .int .u8 101] 5 (4, 5))) wr.heap.size (catM M (j + 1))) := hc8.below ((Below.refl _ _).alloc (Nat.le_refl _) _)
              generalize wr.heap.size = q at *
              clear hc8 hb8 HC8
              have kc := Lib.run_convert_bytes_const (P := Tryd.prog) w8 22 5 #[.int .u8 109, .int .u8 111, .int .u8 114, .int .u8 101] 4 4 Tryd.underlying22 Tryd.underlying5
              go_wp2_with fail
              clear kc
              refine (write_any g (catM M (j + 1)) [109, 111, 114, 101] (some ⟨w8.heap.size, 0, none⟩) 4 4 _ rfl more_bytes (by omega) (by omega) (by omega) (by rw [E5.out]; omega) (more_holds w8) (fun x hx _ e => by simp only [Option.some.injEq] at hx; rw [← hx] at e; simp only at e; omega) HA8.out (HKo.out _ B8.out)).mono ?_
              rintro e w9 ⟨rfl, hA9, hO9⟩
              have HC9 : Hid (HashAt w9 q (catM M (j + 1))) := HC8a.out.of_heap (hO9.block q HC8a.out.lt (by omega))
              have OA9 : Hid (Owned w9 h (.slice a5 n5 c5) (catM M (j + 1))) := owned_only OA8.out hO9 (HA8.out.apart OA8.out)
              have B9 : Hid (Below h w w9) := B8.out.trans (hO9.below h hgh (by rw [World.size_alloc]; omega))
              clear hA9 hO9 HC8a OA8 B8 HA8
              go_wp2_with fail
              go_roundg (J - (j + 1))
              case measure => omega
              case rel => exact ⟨j + 1, q, a5, n5, c5, by omega, rfl, by go_num, rfl, rfl, hq, HC9, OA9, B9⟩
          | true =>
            go_wp2_with fail
            refine (sumH_is g (catM M (j + 1)) wr HA5.out (HKo.out _ B5.out) (by rw [E5.out]; omega)).mono ?_
            rintro e w6 ⟨rfl, hb6⟩
            have hs6 := hb6.size
            have HA6 : Hid (HashAt w6 g (catM M (j + 1))) := HA5.out.below hb6
            have OA6 : Hid (Owned w6 h (.slice a5 n5 c5) (catM M (j + 1))) := owned_below OA5.out hb6
            have B6 : Hid (Below h w w6) := B5.out.trans (hb6.mono (by omega))
            clear hb6
            go_wp2_with fail
            refine (HR.out (catM M (j + 1)) a5 n5 c5 w6 E5.out CBJ.out (by omega) OA6.out.holds.1 OA6.out.holds.2.2 (fun x hx _ => OA6.out.lt_size x hx)).mono ?_
            rintro e w7 ⟨rfl, hb7⟩
            have hs7 := hb7.size
            have HA7 : Hid (HashAt w7 g (catM M (j + 1))) := HA6.out.below hb7
            have OA7 : Hid (Owned w7 h (.slice a5 n5 c5) (catM M (j + 1))) := owned_below OA6.out hb7
            have B7 : Hid (Below h w w7) := B6.out.trans (hb7.mono (by omega))
            clear hb7 HA6 OA6 B6
            go_wp2_with fail
            refine (len_is' g _ n5 E5.out w7 HA7.out).mono ?_
            rintro e w7' ⟨rfl, rfl⟩
            have cf7 := CF5.out w7' B7.out
            clear cf cl
            generalize fk j = bf at *
            cases bf with
            | false =>
              go_wp2_with fail
              go_roundg (J - (j + 1))
              case measure => omega
              case rel => exact ⟨j + 1, g, a5, n5, c5, by omega, rfl, by go_num, rfl, rfl, hgh, HA7, OA7, B7⟩
            | true =>
              go_wp2_with fail
              refine (copy_is g (catM M (j + 1)) w7' HA7.out).mono ?_
              rintro e w8 ⟨rfl, hc8, hb8⟩
              have hs8 := hb8.size
              have gq : g < w7'.heap.size := HA7.out.lt
              have hq : h ≤ w7'.heap.size := by omega
              have HC8 : Hid (HashAt w8 w7'.heap.size (catM M (j + 1))) := hc8
              have ql := hc8.lt
              have HA8 : Hid (HashAt (w8.alloc (.cells #[.int .u8 109, .int .u8 111, .int .u8 114, .int .u8 101] 5 (4, 5))) g (catM M (j + 1))) := (HA7.out.below hb8).below ((Below.refl _ _).alloc (Nat.le_refl _) _)
              have OA8 : Hid (Owned (w8.alloc (.cells #[.int .u8 109, .int .u8 111, .int .u8 114, .int .u8 101] 5 (4, 5))) h (.slice a5 n5 c5) (catM M (j + 1))) := (owned_below OA7.out hb8).alloc _
              have B8 : Hid (Below h w (w8.alloc (.cells #[.int .u8 109, .int .u8 111, .int .u8 114, .int .u8 101] 5 (4, 5)))) := (B7.out.trans (hb8.mono hq)).alloc (by omega) _
              have HC8a : Hid (HashAt (w8.alloc (.cells #[.int .u8 109, .int .u8 111, .int .u8 114, .int .u8 101] 5 (4, 5))) w7'.heap.size (catM M (j + 1))) := hc8.below ((Below.refl _ _).alloc (Nat.le_refl _) _)
              generalize w7'.heap.size = q at *
              clear hc8 hb8 HC8
              have kc := Lib.run_convert_bytes_const (P := Tryd.prog) w8 22 5 #[.int .u8 109, .int .u8 111, .int .u8 114, .int .u8 101] 4 4 Tryd.underlying22 Tryd.underlying5
              go_wp2_with fail
              clear kc
              refine (write_any g (catM M (j + 1)) [109, 111, 114, 101] (some ⟨w8.heap.size, 0, none⟩) 4 4 _ rfl more_bytes (by omega) (by omega) (by omega) (by rw [E5.out]; omega) (more_holds w8) (fun x hx _ e => by simp only [Option.some.injEq] at hx; rw [← hx] at e; simp only at e; omega) HA8.out (HKo.out _ B8.out)).mono ?_
              rintro e w9 ⟨rfl, hA9, hO9⟩
              have HC9 : Hid (HashAt w9 q (catM M (j + 1))) := HC8a.out.of_heap (hO9.block q HC8a.out.lt (by omega))
              have OA9 : Hid (Owned w9 h (.slice a5 n5 c5) (catM M (j + 1))) := owned_only OA8.out hO9 (HA8.out.apart OA8.out)
              have B9 : Hid (Below h w w9) := B8.out.trans (hO9.below h hgh (by rw [World.size_alloc]; omega))
              clear hA9 hO9 HC8a OA8 B8 HA8
              go_wp2_with fail
              go_roundg (J - (j + 1))
              case measure => omega
              case rel => exact ⟨j + 1, q, a5, n5, c5, by omega, rfl, by go_num, rfl, rfl, hq, HC9, OA9, B9⟩
    · have hw5 : h ≤ wo.heap.size := hho
      have heqD := fun W : World => eq_digest (shaL (catM M j)) (shaL (catM M j)) (shaL_len _) (shaL_len _) W
      rw [decide_eq_true rfl] at heqD
      have CBj : Hid (IsBytes (catM M j)) := HCB.out j (by omega)
      by_cases hjl : j < len
      · have g1 : decide ((j : Int) < (len : Int)) = true := by simp; omega
        have hJ := HJE.out
        have g2 : decide ((j : Int) < 60) = false := by simp; omega
        have i1 : ((j : Int) < (len : Int)) := by omega
        have i2 : ¬ ((j : Int) < 60) := by omega
        go_wp2_with fail
        refine (sumH_is g (catM M j) wo HA.out (HKo.out _ BW.out) (by rw [HN4.out]; omega)).mono ?_
        rintro e w6 ⟨rfl, hb6⟩
        have hs6 := hb6.size
        have HA6 : Hid (HashAt w6 g (catM M j)) := HA.out.below hb6
        have OA6 : Hid (Owned w6 h (.slice a4 n4 c4) (catM M j)) := owned_below OA.out hb6
        have B6 : Hid (Below h w w6) := BW.out.trans (hb6.mono (by omega))
        clear hb6
        go_wp2_with fail
        refine (HR.out (catM M j) a4 n4 c4 w6 HN4.out CBj.out (by omega) OA6.out.holds.1 OA6.out.holds.2.2 (fun x hx _ => OA6.out.lt_size x hx)).mono ?_
        rintro e w7 ⟨rfl, hb7⟩
        have hs7 := hb7.size
        have HA7 : Hid (HashAt w7 g (catM M j)) := HA6.out.below hb7
        have OA7 : Hid (Owned w7 h (.slice a4 n4 c4) (catM M j)) := owned_below OA6.out hb7
        have B7 : Hid (Below h w w7) := B6.out.trans (hb7.mono (by omega))
        clear hb7 HA6 OA6 B6
        go_wp2_with fail
        refine (len_is' g _ n4 HN4.out w7 HA7.out).mono ?_
        rintro e w7' ⟨rfl, rfl⟩
        go_wp2_with (go_at_call 7; refine (works_true _ (HKo.out _ B7.out)).mono ?_; rintro e w' ⟨rfl, hwk⟩)
        go_ret
        exact ⟨rfl, by rw [← HH.out]; exact B7.out.trans (Below.mono (by assumption) (by omega))⟩
      · have g1 : decide ((j : Int) < (len : Int)) = false := by simp; omega
        have i1 : ¬ ((j : Int) < (len : Int)) := by omega
        go_wp2_with fail
        refine (sumH_is g (catM M j) wo HA.out (HKo.out _ BW.out) (by rw [HN4.out]; omega)).mono ?_
        rintro e w6 ⟨rfl, hb6⟩
        have hs6 := hb6.size
        have HA6 : Hid (HashAt w6 g (catM M j)) := HA.out.below hb6
        have OA6 : Hid (Owned w6 h (.slice a4 n4 c4) (catM M j)) := owned_below OA.out hb6
        have B6 : Hid (Below h w w6) := BW.out.trans (hb6.mono (by omega))
        clear hb6
        go_wp2_with fail
        refine (HR.out (catM M j) a4 n4 c4 w6 HN4.out CBj.out (by omega) OA6.out.holds.1 OA6.out.holds.2.2 (fun x hx _ => OA6.out.lt_size x hx)).mono ?_
        rintro e w7 ⟨rfl, hb7⟩
        have hs7 := hb7.size
        have HA7 : Hid (HashAt w7 g (catM M j)) := HA6.out.below hb7
        have OA7 : Hid (Owned w7 h (.slice a4 n4 c4) (catM M j)) := owned_below OA6.out hb7
        have B7 : Hid (Below h w w7) := B6.out.trans (hb7.mono (by omega))
        clear hb7 HA6 OA6 B6
        go_wp2_with fail
        refine (len_is' g _ n4 HN4.out w7 HA7.out).mono ?_
        rintro e w7' ⟨rfl, rfl⟩
        go_wp2_with (go_at_call 7; refine (works_true _ (HKo.out _ B7.out)).mono ?_; rintro e w' ⟨rfl, hwk⟩)
        go_ret
        exact ⟨rfl, by rw [← HH.out]; exact B7.out.trans (Below.mono (by assumption) (by omega))⟩
end Go.Proofs.YtlngnhkadbjgbaaDoor
