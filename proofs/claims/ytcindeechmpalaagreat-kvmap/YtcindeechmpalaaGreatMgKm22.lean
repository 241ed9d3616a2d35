/- kv.rising. A database's keys as a rising list, plainly; what changes make of it. slices.SortFunc of any slice of changes, nil too; kv.Scan. kv.fitting, kv.snapshot. maps.Clone at a map of changes, by the library's own contract. kv.write and kv.Do where there is room. a database under changes, plainly; Reset to a snapshot. kv.write, whole. kv.Do, whole. kv.Compact, whole. A database under changes and losses of power, plainly. Changes held against each other; the document's Same. append of a slice of changes; how texts stand, by either word; how many keys. The statements' own 'has': has a database just a map's keys? The statements' own 'small' of changes. A slice of changes that came in, opened; how great its texts may be. Slices of acts (veneerlaw11) that came in, with what each batch and each Keep holds. A database, the map of what it should have, and batches: what a call leaves. The statements' own works (veneerlaw11). The walk of veneerlaw11.KvMap. -/
import Derived.Test.YtcindeechmpalaaGreatMgKm21
import Derived.Test.YtcindeechmpalaaGreatMgKm13
import Derived.Shelf.SlMaps.Clone
import Derived.Test.YtcindeechmpalaaGreatMgKm3
import Derived.Laws.StructEq
import Derived.Test.YtcindeechmpalaaGreatMgKm16
import Derived.BigQuiet
import Derived.Test.YtcindeechmpalaaGreatMgKm15
import Derived.Test.YtcindeechmpalaaGreatMgKm14
import Derived.Deep.Slices
import Derived.Deep.Strs
import Derived.SizedLaws
import Derived.ChangeSame
import Derived.Test.YtcindeechmpalaaGreatMgKm8
namespace Go.Proofs.YtcindeechmpalaaGreat
open Go.ChangeShapes Go.WideShapes Go.ChangeAt Go.RowKit Go.Deep Go.Maps
set_option linter.unusedVariables false
set_option linter.unusedSimpArgs false
/-- a key that is asked for -/
def inR (fr to q : ByteArray) : Bool := !Op.bytesLess q.toList fr.toList && (to.toList.isEmpty || Op.bytesLess q.toList to.toList)
/-- all changes that are asked for, rising -/
structure LstP (T : ByteArray → Option Pt) (f : ByteArray → Bool) (l : List Pt) : Prop where
  mem : ∀ x, x ∈ l ↔ (T x.k = some x ∧ f x.k = true)
  rise : l.Pairwise (fun x y => cK x.k y.k < 0)
theorem lstP_of {T : ByteArray → Option Pt} {f left : ByteArray → Bool} {l l' : List Pt} (h : GotP T f left l) (hl : ∀ q, left q = false) (hp : l'.Perm l) (hs : l'.Pairwise (fun x y => cK y.k x.k < 0 → False)) : LstP T f l' := by
  refine ⟨fun x => ?_, ?_⟩
  · rw [hp.mem_iff, h.mem]
    exact ⟨fun ⟨a, _, b⟩ => ⟨a, b⟩, fun ⟨a, b⟩ => ⟨a, hl _, b⟩⟩
  · have hnd : (l'.map Pt.k).Nodup := by
      rw [(hp.map Pt.k).nodup_iff]
      exact h.nod
    rw [List.Nodup, List.pairwise_map] at hnd
    refine pw_monoK ?_ (hs.and hnd)
    rintro x y _ _ ⟨h1, h2⟩
    by_cases e : cK x.k y.k = 0
    · exact absurd (cK_eq e) h2
    · have h3 : ¬ cK y.k x.k < 0 := h1
      rw [cK_anti] at h3
      omega
theorem OwnP.cur {w : World} {base : Nat} {v : Value} {l : List Pt} (h : OwnP w base v l) (hl : l ≠ []) : ∃ g c, v = .slice (some ⟨g, 0, none⟩) l.length c ∧ base ≤ g ∧ (∃ cur, w.heap[g]? = some (.cells cur 45)) ∧ ∀ i x, l[i]? = some x → Pc w g (i * 3) x := by
  obtain ⟨a, c', e, hin, _⟩ := h.slice
  rcases h.2 with ⟨_, hn⟩ | ⟨g, cap, cur, rfl, hbg, hg, rest⟩
  · exact absurd (List.length_eq_zero_iff.1 hn) hl
  · cases e
    refine ⟨g, _, rfl, hbg, ⟨cur, hg⟩, fun i x hx => ?_⟩
    rcases hin with h1 | ⟨g', off, h1, _, h2⟩
    · exact absurd h1 hl
    · cases h1
      have := h2 i x hx
      rwa [Nat.zero_add] at this
/-- SortFunc of any slice of changes of one's own, nil too -/
def SortsP : Prop := ∀ (W : World) (base : Nat) (V : Value) (l : List Pt), OwnP W base V l → l.length ≤ 1000000000 → Calls Tryz.prog 100 #[V, .func (.func 101) #[] #[]] W fun e w' => e = .returned (.tuple #[]) ∧ ∃ l', l'.Perm l ∧ l'.Pairwise (fun x y => cK y.k x.k < 0 → False) ∧ OwnP w' base V l' ∧ W.grownBy w' V.ownBlock
set_option maxRecDepth 100000 in
set_option maxHeartbeats 8000000 in
theorem rising_is (HSort : SortsP) (w : World) (b n : Nat) (T : ByteArray → Option Pt) (hs : Pm w b n T) (hn : n ≤ 1000000000) (hT : AtKey T) (fr to : ByteArray) :
    Calls Tryz.prog 69 #[.map (some b), .string fr, .string to] w fun e w' => ∃ v l, e = .returned v ∧ OwnP w' w.heap.size v l ∧ LstP T (inR fr to) l ∧ l.length ≤ n ∧ w.grownBy w' none := by
  have HS : Hid (Pm w b n T) := hs
  clear hs
  go_enter Tryz.func69, Tryz.ntmps69
  go_wp2_with (first | (at_range; refine wpList_range_pm rfl (.tmp 10) rfl b n T rfl HS.out ?_; intro w0 cnt0 hrg0 hg0 hsz0; have R0 : Hid (Pn w0 b w.heap.size n T (fun p => (T p).isSome) cnt0) := hrg0; have G0 : Hid (w.grownBy w0 none ∧ w0.heap.size = w.heap.size + 1) := ⟨hg0, hsz0⟩; clear hrg0 hg0 hsz0))
  generalize hr : w.heap.size = r at *
  go_frame
  go_loopw [7] (fun V wr => ∃ (left : ByteArray → Bool) (cnt : Nat) (l : List Pt), Hid (Pn wr b r n T left cnt) ∧ Hid (w.grownBy wr none ∧ r + 1 ≤ wr.heap.size) ∧ Hid (GotP T (inR fr to) left l) ∧ Hid (OwnP wr (r + 1) V l) ∧ l.length + cnt ≤ n)
      (fun _ wr => wr.rangeLeft b r)
  case atStart => exact ⟨_, cnt0, [], R0, ⟨G0.out.1, by have := G0.out.2; omega⟩, GotP.nil T _, OwnP.nil _ _, by have := R0.out.cnt_le; simpa using this⟩
  case round =>
    obtain ⟨left, cnt, l, RG, GW, GT, OW, hlc⟩ := hrel
    generalize u7 = V at *
    have HOV : Hid (∀ k, V.ownBlock = some k → r + 1 ≤ k ∧ k < wr.heap.size) := fun k hk => OW.out.own k hk
    go_wp2_with (first | (at_next; refine wpList_next_pm rfl (.tmp 11) rfl b r n T left cnt rfl RG.out ?_ ?_))
    · intro _ hl0
      have KS : Hid (Calls Tryz.prog 100 #[V, .func (.func 101) #[] #[]] wr fun e w' => e = .returned (.tuple #[]) ∧ ∃ l', l'.Perm l ∧ l'.Pairwise (fun x y => cK y.k x.k < 0 → False) ∧ OwnP w' (r + 1) V l' ∧ wr.grownBy w' V.ownBlock) := HSort wr (r + 1) V l OW.out (by omega)
      have HL0 : Hid (∀ q, left q = false) := hl0
      clear hl0
      go_wp2_with fail
      refine KS.out.mono ?_
      rintro e w5 ⟨rfl, l', hp, hpw, ho5, hg5⟩
      have P5 : Hid (OwnP w5 w.heap.size V l' ∧ LstP T (inR fr to) l' ∧ l'.length ≤ n ∧ w.grownBy w5 none) := by
        have a1 := GW.out.1
        refine ⟨ho5.base (by omega), lstP_of GT.out HL0.out hp hpw, by rw [hp.length_eq]; omega, ⟨hg5.os.trans a1.os, hg5.tape.trans a1.tape, hg5.output.trans a1.output, Nat.le_trans a1.size hg5.size, fun k hk _ => (hg5.block k (Nat.lt_of_lt_of_le hk a1.size) (fun e => by have := (HOV.out k e.symm).1; omega)).trans (a1.block k hk (by simp))⟩⟩
      clear hp hpw ho5 hg5 KS
      obtain ⟨a, c, rfl, _⟩ := P5.out.1.slice
      go_wp2_with fail
      go_ret
      exact ⟨_, l', rfl, P5.out⟩
    · intro q x w3 cnt1 hql hlq hTq hrg1 hlt hg1 hs1 hen
      obtain ⟨yk, yv, yg⟩ := x
      unfold pA pC at hen ⊢
      simp only at hen ⊢
      have R1 : Hid (Pn w3 b r n T (fun z => left z && !decide (z = q)) cnt1) := hrg1
      have T1 : Hid (T q = some ⟨yk, yv, yg⟩) := hTq
      have L1 : Hid (left q = true) := hlq
      have O3 : Hid (OwnP w3 (r + 1) V l) := OW.out.kept fun k hk => hg1.block k (OW.out.own k hk).2 (fun e => (RG.out.apart OW.out).2 (e.symm.trans hk.symm))
      have LR : Hid (r + 1 ≤ w3.heap.size) := by show r + 1 ≤ _; rw [hs1]; exact GW.out.2
      have GW3 : Hid (w.grownBy w3 none) := by
        have a1 := GW.out.1
        exact ⟨hg1.os.trans a1.os, hg1.tape.trans a1.tape, hg1.output.trans a1.output, Nat.le_trans a1.size hg1.size, fun k hk _ => (hg1.block k (Nat.lt_of_lt_of_le hk a1.size) (fun e => by have := Option.some.inj e; omega)).trans (a1.block k hk (by simp))⟩
      clear hrg1 hTq hlq hg1 hs1
      by_cases h1 : Op.bytesLess q.toList fr.toList = true
      · obtain ⟨u1, hu1⟩ : ∃ u1, w3.alloc (.cells #[.string yk, .string yv, .bool yg] 45) = u1 := ⟨_, rfl⟩
        have U1E : Hid (w3.alloc (.cells #[.string yk, .string yv, .bool yg] 45) = u1) := hu1
        have B2 : Hid (Below w3.heap.size w3 u1) := by rw [← hu1]; exact below1 _ _
        have O2 : Hid (OwnP u1 (r + 1) V l) := O3.out.keep B2.out
        have GT2 : Hid (GotP T (inR fr to) (fun z => left z && !decide (z = q)) l) := GT.out.skip (by unfold inR; rw [h1]; rfl)
        have R4 : Hid (Pn u1 b r n T (fun z => left z && !decide (z = q)) cnt1) := R1.out.keep B2.out
        have W4 : Hid (w.grownBy u1 none ∧ r + 1 ≤ u1.heap.size) := by
          have a1 := GW3.out
          have a2 := B2.out
          refine ⟨⟨a2.os.trans a1.os, a2.tape.trans a1.tape, a2.output.trans a1.output, Nat.le_trans a1.size a2.size, fun k hk _ => (a2.block k ?_).trans (a1.block k hk (by simp))⟩, by have := a2.size; have := LR.out; omega⟩
          have := a1.size; omega
        clear hu1
        go_wp2_with fail
        rw [show World.alloc w3 _ = u1 from U1E.out]
        go_roundw
        case rel => exact ⟨_, cnt1, l, R4, W4, GT2, O2, by omega⟩
        case measure => rw [R4.out.left_eq, RG.out.left_eq]; exact hlt
      · by_cases h2 : to.toList = []
        · obtain ⟨u1, hu1⟩ : ∃ u1, w3.alloc (.cells #[.string yk, .string yv, .bool yg] 45) = u1 := ⟨_, rfl⟩
          have U1E : Hid (w3.alloc (.cells #[.string yk, .string yv, .bool yg] 45) = u1) := hu1
          obtain ⟨u2, hu2⟩ : ∃ u2, u1.alloc (.cells #[.string yk, .string yv, .bool yg] 45) = u2 := ⟨_, rfl⟩
          have U2E : Hid (u1.alloc (.cells #[.string yk, .string yv, .bool yg] 45) = u2) := hu2
          have B2 : Hid (Below w3.heap.size w3 u2) := by rw [← hu2, ← hu1]; exact ((Below.refl _ _).alloc (Nat.le_refl _) _).alloc (by simp) _
          have X2 : Hid (u2.heap[w3.heap.size + 1]? = some (.cells (pC ⟨yk, yv, yg⟩) 45)) := by
            show _ = _
            have q := heap_alloc_new u1 (.cells #[.string yk, .string yv, .bool yg] 45)
            rw [hu2] at q
            have e : u1.heap.size = w3.heap.size + 1 := by rw [← hu1]; simp
            rw [e] at q
            exact q
          have O2 : Hid (OwnP u2 (r + 1) V l) := O3.out.keep B2.out
          have HZ : Hid (r + 1 ≤ u2.heap.size) := by have := B2.out.size; have := LR.out; show r + 1 ≤ _; omega
          have GT2 : Hid (GotP T (inR fr to) (fun z => left z && !decide (z = q)) (l ++ [⟨yk, yv, yg⟩])) := GT.out.more T1.out (hT q _ T1.out).1 L1.out (by unfold inR; simp [h1, h2])
          clear hu1 hu2
          go_wp2_with (at_builtin; rw [show World.alloc w3 _ = u1 from U1E.out, show World.alloc u1 _ = u2 from U2E.out]; refine append_put rfl (.tmp 29) (.tmp 31) rfl (r + 1) V l rfl O2.out (w3.heap.size + 1) 1 ⟨yk, yv, yg⟩ rfl X2.out (by omega) HZ.out ?_; intro v4 w4 ho4 hg4; have O4 : Hid (OwnP w4 (r + 1) v4 (l ++ [⟨yk, yv, yg⟩]) ∧ u2.grownBy w4 V.ownBlock) := ⟨ho4, hg4⟩; clear ho4 hg4)
          have ap := R1.out.apart O3.out
          have R4 : Pn w4 b r n T (fun z => left z && !decide (z = q)) cnt1 := (R1.out.keep B2.out).kept O4.out.2 ap.1 ap.2
          have W4 : Hid (w.grownBy w4 none ∧ r + 1 ≤ w4.heap.size) := by
            have a1 := GW3.out
            have a2 := B2.out
            have a3 := O4.out.2
            refine ⟨⟨a3.os.trans (a2.os.trans a1.os), a3.tape.trans (a2.tape.trans a1.tape), a3.output.trans (a2.output.trans a1.output), Nat.le_trans a1.size (Nat.le_trans a2.size a3.size), fun k hk _ => ((a3.block k ?_ (fun e => ?_)).trans (a2.block k ?_)).trans (a1.block k hk (by simp))⟩, Nat.le_trans HZ.out a3.size⟩
            · have := a1.size; have := a2.size; omega
            · have := (HOV.out k e.symm).1; rw [hr] at hk; omega
            · have := a1.size; omega
          have O5 : Hid (OwnP w4 (r + 1) v4 (l ++ [(⟨yk, yv, yg⟩ : Pt)])) := O4.out.1
          go_roundw
          case rel => exact ⟨_, cnt1, l ++ [(⟨yk, yv, yg⟩ : Pt)], R4, W4, GT2, O5, by simp; omega⟩
          case measure => rw [R4.left_eq, RG.out.left_eq]; exact hlt
        · by_cases h3 : Op.bytesLess q.toList to.toList = true
          · obtain ⟨u1, hu1⟩ : ∃ u1, w3.alloc (.cells #[.string yk, .string yv, .bool yg] 45) = u1 := ⟨_, rfl⟩
            have U1E : Hid (w3.alloc (.cells #[.string yk, .string yv, .bool yg] 45) = u1) := hu1
            obtain ⟨u2, hu2⟩ : ∃ u2, u1.alloc (.cells #[.string yk, .string yv, .bool yg] 45) = u2 := ⟨_, rfl⟩
            have U2E : Hid (u1.alloc (.cells #[.string yk, .string yv, .bool yg] 45) = u2) := hu2
            have B2 : Hid (Below w3.heap.size w3 u2) := by rw [← hu2, ← hu1]; exact ((Below.refl _ _).alloc (Nat.le_refl _) _).alloc (by simp) _
            have X2 : Hid (u2.heap[w3.heap.size + 1]? = some (.cells (pC ⟨yk, yv, yg⟩) 45)) := by
              show _ = _
              have q := heap_alloc_new u1 (.cells #[.string yk, .string yv, .bool yg] 45)
              rw [hu2] at q
              have e : u1.heap.size = w3.heap.size + 1 := by rw [← hu1]; simp
              rw [e] at q
              exact q
            have O2 : Hid (OwnP u2 (r + 1) V l) := O3.out.keep B2.out
            have HZ : Hid (r + 1 ≤ u2.heap.size) := by have := B2.out.size; have := LR.out; show r + 1 ≤ _; omega
            have GT2 : Hid (GotP T (inR fr to) (fun z => left z && !decide (z = q)) (l ++ [⟨yk, yv, yg⟩])) := GT.out.more T1.out (hT q _ T1.out).1 L1.out (by unfold inR; simp [h1, h3])
            clear hu1 hu2
            go_wp2_with (at_builtin; rw [show World.alloc w3 _ = u1 from U1E.out, show World.alloc u1 _ = u2 from U2E.out]; refine append_put rfl (.tmp 29) (.tmp 31) rfl (r + 1) V l rfl O2.out (w3.heap.size + 1) 1 ⟨yk, yv, yg⟩ rfl X2.out (by omega) HZ.out ?_; intro v4 w4 ho4 hg4; have O4 : Hid (OwnP w4 (r + 1) v4 (l ++ [⟨yk, yv, yg⟩]) ∧ u2.grownBy w4 V.ownBlock) := ⟨ho4, hg4⟩; clear ho4 hg4)
            have ap := R1.out.apart O3.out
            have R4 : Pn w4 b r n T (fun z => left z && !decide (z = q)) cnt1 := (R1.out.keep B2.out).kept O4.out.2 ap.1 ap.2
            have W4 : Hid (w.grownBy w4 none ∧ r + 1 ≤ w4.heap.size) := by
              have a1 := GW3.out
              have a2 := B2.out
              have a3 := O4.out.2
              refine ⟨⟨a3.os.trans (a2.os.trans a1.os), a3.tape.trans (a2.tape.trans a1.tape), a3.output.trans (a2.output.trans a1.output), Nat.le_trans a1.size (Nat.le_trans a2.size a3.size), fun k hk _ => ((a3.block k ?_ (fun e => ?_)).trans (a2.block k ?_)).trans (a1.block k hk (by simp))⟩, Nat.le_trans HZ.out a3.size⟩
              · have := a1.size; have := a2.size; omega
              · have := (HOV.out k e.symm).1; rw [hr] at hk; omega
              · have := a1.size; omega
            have O5 : Hid (OwnP w4 (r + 1) v4 (l ++ [(⟨yk, yv, yg⟩ : Pt)])) := O4.out.1
            go_roundw
            case rel => exact ⟨_, cnt1, l ++ [(⟨yk, yv, yg⟩ : Pt)], R4, W4, GT2, O5, by simp; omega⟩
            case measure => rw [R4.left_eq, RG.out.left_eq]; exact hlt
          · have h3b : Op.bytesLess q.toList to.toList = false := by simpa using h3
            have h2b : to.toList.isEmpty = false := by simpa using h2
            have h2c : (to.toList == []) = false := by simpa using h2
            obtain ⟨u1, hu1⟩ : ∃ u1, w3.alloc (.cells #[.string yk, .string yv, .bool yg] 45) = u1 := ⟨_, rfl⟩
            have U1E : Hid (w3.alloc (.cells #[.string yk, .string yv, .bool yg] 45) = u1) := hu1
            have B2 : Hid (Below w3.heap.size w3 u1) := by rw [← hu1]; exact below1 _ _
            have O2 : Hid (OwnP u1 (r + 1) V l) := O3.out.keep B2.out
            have GT2 : Hid (GotP T (inR fr to) (fun z => left z && !decide (z = q)) l) := GT.out.skip (by unfold inR; simp [h2, h3])
            have R4 : Hid (Pn u1 b r n T (fun z => left z && !decide (z = q)) cnt1) := R1.out.keep B2.out
            have W4 : Hid (w.grownBy u1 none ∧ r + 1 ≤ u1.heap.size) := by
              have a1 := GW3.out
              have a2 := B2.out
              refine ⟨⟨a2.os.trans a1.os, a2.tape.trans a1.tape, a2.output.trans a1.output, Nat.le_trans a1.size a2.size, fun k hk _ => (a2.block k ?_).trans (a1.block k hk (by simp))⟩, by have := a2.size; have := LR.out; omega⟩
              have := a1.size; omega
            clear hu1 h3
            go_wp2_with fail
            rw [show World.alloc w3 _ = u1 from U1E.out]
            go_roundw
            case rel => exact ⟨_, cnt1, l, R4, W4, GT2, O2, by omega⟩
            case measure => rw [R4.out.left_eq, RG.out.left_eq]; exact hlt
end Go.Proofs.YtcindeechmpalaaGreat
namespace Go.Proofs.YtcindeechmpalaaGreat
set_option linter.unusedVariables false
def allK : ByteArray → Bool := fun _ => true
theorem bytesLess_nil (a : List UInt8) : Op.bytesLess a [] = false := by cases a <;> rfl
theorem toList_nil : (⟨#[]⟩ : ByteArray).toList = [] := by
  have h : (sN ⟨#[]⟩).length = 0 := sN_len ⟨#[]⟩
  unfold sN at h
  rw [List.length_map] at h
  exact List.length_eq_zero_iff.1 h
theorem inR_all : inR ⟨#[]⟩ ⟨#[]⟩ = allK := by
  funext q
  unfold inR allK
  rw [toList_nil, bytesLess_nil]
  rfl
theorem cK_self (a : ByteArray) : cK a a = 0 := cb_self _
theorem cK_ne {a b : ByteArray} (h : cK a b < 0) : a ≠ b := fun e => by rw [e, cK_self] at h; omega
theorem LstP.nodup {T : ByteArray → Option Pt} {f : ByteArray → Bool} {l : List Pt} (h : LstP T f l) : l.Pairwise (fun x y => x.k ≠ y.k) := pw_monoK (fun a b _ _ hab => cK_ne hab) h.rise
theorem lst_T {T : ByteArray → Option Pt} {l : List Pt} (h : LstP T allK l) (hT : AtKey T) : chT noT l = T := by
  funext q
  cases hq : T q with
  | none =>
    rw [chT_off l noT q (fun x hx e => by have := ((h.mem x).1 hx).1; rw [e, hq] at this; cases this)]
    rfl
  | some x =>
    obtain ⟨hk, hg⟩ := hT q x hq
    have hx : x ∈ l := (h.mem x).2 ⟨by rw [hk]; exact hq, rfl⟩
    have := chT_list l noT h.nodup (fun y hy => (hT _ y ((h.mem y).1 hy).1).2) x hx
    rw [hk] at this
    exact this
/-- two rising lists of the same changes are one -/
theorem rise_eq : ∀ {l k : List Pt}, l.Pairwise (fun x y => cK x.k y.k < 0) → k.Pairwise (fun x y => cK x.k y.k < 0) → (∀ x, x ∈ l ↔ x ∈ k) → l = k
  | [], [], _, _, _ => rfl
  | [], y :: k, _, _, h => by have := (h y).2 (by simp); cases this
  | x :: l, [], _, _, h => by have := (h x).1 (by simp); cases this
  | x :: l, y :: k, hl, hk, h => by
    obtain ⟨l1, l2⟩ := List.pairwise_cons.1 hl
    obtain ⟨k1, k2⟩ := List.pairwise_cons.1 hk
    have hxy : x = y := by
      rcases List.mem_cons.1 ((h x).1 (by simp)) with e | e
      · exact e
      · rcases List.mem_cons.1 ((h y).2 (by simp)) with e' | e'
        · exact e'.symm
        · have a1 := k1 x e
          have a2 := l1 y e'
          have := cK_trans a1 a2
          rw [cK_self] at this
          omega
    subst hxy
    rw [rise_eq l2 k2 (fun z => ⟨fun hz => by
      rcases List.mem_cons.1 ((h z).1 (by simp [hz])) with e | e
      · have := l1 z hz; rw [e, cK_self] at this; omega
      · exact e, fun hz => by
      rcases List.mem_cons.1 ((h z).2 (by simp [hz])) with e | e
      · have := k1 z hz; rw [e, cK_self] at this; omega
      · exact e⟩)]
theorem lst_uniq {T : ByteArray → Option Pt} {f : ByteArray → Bool} {l k : List Pt} (h1 : LstP T f l) (h2 : LstP T f k) : l = k := rise_eq h1.rise h2.rise fun x => by rw [h1.mem, h2.mem]
/-- a change done to a rising list -/
def ins1 (L : List Pt) (x : Pt) : List Pt := L.filter (fun y => decide (cK y.k x.k < 0)) ++ (if x.g = true then [] else [x]) ++ L.filter (fun y => decide (cK x.k y.k < 0))
theorem ins1_mem {L : List Pt} {x y : Pt} : y ∈ ins1 L x ↔ (y ∈ L ∧ y.k ≠ x.k) ∨ (y = x ∧ x.g = false) := by
  unfold ins1
  rw [List.mem_append, List.mem_append, List.mem_filter, List.mem_filter]
  have hm : y ∈ (if x.g = true then [] else [x]) ↔ (y = x ∧ x.g = false) := by
    cases x.g <;> simp
  rw [hm]
  simp only [decide_eq_true_eq]
  constructor
  · rintro ((⟨h1, h2⟩ | h) | ⟨h1, h2⟩)
    · exact .inl ⟨h1, cK_ne h2⟩
    · exact .inr h
    · exact .inl ⟨h1, (cK_ne h2).symm⟩
  · rintro (⟨h1, h2⟩ | h)
    · by_cases h3 : cK y.k x.k < 0
      · exact .inl (.inl ⟨h1, h3⟩)
      · refine .inr ⟨h1, ?_⟩
        have h4 : cK y.k x.k ≠ 0 := fun e => h2 (cK_eq e)
        rw [cK_anti]
        omega
    · exact .inl (.inr h)
theorem AtKey.ch1 {T : ByteArray → Option Pt} (h : AtKey T) (x : Pt) : AtKey (ch1 T x) := by
  intro q y hy
  unfold Go.Proofs.YtcindeechmpalaaGreat.ch1 at hy
  by_cases e : q = x.k
  · rw [if_pos e] at hy
    cases hg : x.g with
    | true => rw [hg, if_pos rfl] at hy; cases hy
    | false =>
      rw [hg, if_neg (by simp)] at hy
      obtain rfl := Option.some.inj hy
      exact ⟨e.symm, hg⟩
  · rw [if_neg e] at hy
    exact h q y hy
theorem ins1_lst {T : ByteArray → Option Pt} {L : List Pt} (h : LstP T allK L) (hT : AtKey T) (x : Pt) : LstP (ch1 T x) allK (ins1 L x) := by
  refine ⟨fun y => ?_, ?_⟩
  · rw [ins1_mem, h.mem]
    unfold ch1
    constructor
    · rintro (⟨⟨h1, h2⟩, h3⟩ | ⟨rfl, h2⟩)
      · rw [if_neg h3]; exact ⟨h1, rfl⟩
      · rw [if_pos rfl, if_neg (by rw [h2]; simp)]; exact ⟨rfl, rfl⟩
    · rintro ⟨h1, h2⟩
      by_cases e : y.k = x.k
      · rw [if_pos e] at h1
        cases hg : x.g with
        | true => rw [hg, if_pos rfl] at h1; cases h1
        | false =>
          rw [hg, if_neg (by simp)] at h1
          exact .inr ⟨(Option.some.inj h1).symm, rfl⟩
      · rw [if_neg e] at h1
        exact .inl ⟨⟨h1, rfl⟩, e⟩
  · unfold ins1
    have hf : ∀ p : Pt → Bool, (L.filter p).Pairwise (fun x y => cK x.k y.k < 0) := fun p => h.rise.filter p
    have e1 : ∀ y ∈ L.filter (fun y => decide (cK y.k x.k < 0)), cK y.k x.k < 0 := fun y hy => by simpa using (List.mem_filter.1 hy).2
    have e2 : ∀ y ∈ L.filter (fun y => decide (cK x.k y.k < 0)), cK x.k y.k < 0 := fun y hy => by simpa using (List.mem_filter.1 hy).2
    have e3 : ∀ y ∈ (if x.g = true then [] else [x]), y = x := fun y hy => by
      cases hg : x.g <;> rw [hg] at hy <;> simp at hy
      exact hy
    rw [List.pairwise_append, List.pairwise_append]
    refine ⟨⟨hf _, ?_, fun a ha b hb => by rw [e3 b hb]; exact e1 a ha⟩, hf _, fun a ha b hb => ?_⟩
    · cases x.g <;> simp
    · rcases List.mem_append.1 ha with ha | ha
      · exact cK_trans (e1 a ha) (e2 b hb)
      · rw [e3 a ha]; exact e2 b hb
def apL (L pts : List Pt) : List Pt := pts.foldl ins1 L
theorem apL_lst : ∀ (pts : List Pt) {T : ByteArray → Option Pt} {L : List Pt}, LstP T allK L → AtKey T → LstP (chT T pts) allK (apL L pts) ∧ AtKey (chT T pts)
  | [], T, L, h, hT => ⟨h, hT⟩
  | x :: pts, T, L, h, hT => apL_lst pts (ins1_lst h hT x) (hT.ch1 x)
theorem apL_good : ∀ (pts : List Pt) {L : List Pt}, (∀ x ∈ L, badP x = false) → (∀ x ∈ pts, badP x = false) → ∀ x ∈ apL L pts, badP x = false
  | [], L, h, _ => h
  | y :: pts, L, h, hp => apL_good pts (L := ins1 L y) (fun x hx => by
      rcases ins1_mem.1 hx with ⟨h1, _⟩ | ⟨rfl, _⟩
      · exact h x h1
      · exact hp x (by simp)) (fun x hx => hp x (by simp [hx]))
theorem ins1_len (L : List Pt) (x : Pt) : (ins1 L x).length ≤ L.length + 1 := by
  unfold ins1
  rw [List.length_append, List.length_append]
  have h1 : (L.filter (fun y => decide (cK y.k x.k < 0))).length + (L.filter (fun y => decide (cK x.k y.k < 0))).length ≤ L.length := by
    induction L with
    | nil => simp
    | cons y L ih =>
      rw [List.filter_cons, List.filter_cons, List.length_cons]
      by_cases a : cK y.k x.k < 0
      · have b : ¬ cK x.k y.k < 0 := by rw [cK_anti]; omega
        rw [if_pos (by simpa using a), if_neg (by simpa using b), List.length_cons]
        omega
      · rw [if_neg (by simpa using a)]
        by_cases b : cK x.k y.k < 0
        · rw [if_pos (by simpa using b), List.length_cons]; omega
        · rw [if_neg (by simpa using b)]; omega
  have h2 : (if x.g = true then [] else [x]).length ≤ 1 := by cases x.g <;> simp
  omega
theorem noT_lst : LstP noT allK [] := ⟨fun x => ⟨fun h => (by cases h), fun h => (by cases h.1)⟩, List.Pairwise.nil⟩
theorem noT_at : AtKey noT := fun q x h => by cases h
end Go.Proofs.YtcindeechmpalaaGreat
namespace Go.Proofs.YtcindeechmpalaaGreat
open Go.ChangeShapes Go.WideShapes Go.ChangeAt Go.RowKit Go.Deep Go.Maps
set_option linter.unusedVariables false
set_option linter.unusedSimpArgs false
set_option maxRecDepth 100000 in
set_option maxHeartbeats 2000000 in
theorem insNil (F V : Value) (w : World) : Calls Tryz.prog 150 #[V, .int .i64 0, .int .i64 0, F] w fun e w' => e = .returned (.tuple #[]) ∧ w' = w := by
  go_enter Tryz.func150, Tryz.ntmps150
  go_wp2_with fail
  go_loopg [8] 0 (fun g i wr => g = 0 ∧ i = .int .i64 1 ∧ wr = w)
  case atStart => exact ⟨rfl, by go_num, rfl⟩
  case round =>
    obtain ⟨rfl, rfl, rfl⟩ := hrel
    go_wp2_with fail
    go_end0
    exact ⟨rfl, rfl⟩
set_option maxRecDepth 100000 in
set_option maxHeartbeats 2000000 in
theorem pdqNil (F V : Value) (k : Int) (w : World) : Calls Tryz.prog 124 #[V, .int .i64 0, .int .i64 0, .int .i64 k, F] w fun e w' => e = .returned (.tuple #[]) ∧ w' = w := by
  have K : Hid (∀ W, Calls Tryz.prog 150 #[V, .int .i64 0, .int .i64 0, F] W fun e w' => e = .returned (.tuple #[]) ∧ w' = W) := fun W => insNil F V W
  go_enter Tryz.func124, Tryz.ntmps124
  go_wp2_with fail
  go_loopg [1, 2, 3, 10, 11] 0 (fun g x y z i q wr => g = 0 ∧ x = .int .i64 0 ∧ y = .int .i64 0 ∧ z = .int .i64 k ∧ i = .bool true ∧ q = .bool true ∧ wr = w)
  case atStart => exact ⟨rfl, rfl, rfl, rfl, rfl, rfl, rfl⟩
  case round =>
    obtain ⟨rfl, rfl, rfl, rfl, rfl, rfl, rfl⟩ := hrel
    go_wp2_with fail
    refine (K.out _).mono ?_
    rintro e w1 ⟨rfl, hw⟩
    obtain rfl := hw.symm
    clear hw
    go_wp2_with fail
    exact bodyPost_ret (v := .tuple #[]) (by simp [results, Tryz.results124, go_sem]) rfl ⟨rfl, rfl⟩
set_option maxRecDepth 100000 in
set_option maxHeartbeats 2000000 in
theorem lenNil (w : World) : Calls Tryz.prog 118 #[.int .u64 0] w fun e w' => (∃ k : Int, e = .returned (.int .i64 k)) ∧ w' = w := by
  have K : Hid (∀ W, Calls Tryz.prog 120 #[.int .u64 0] W fun e w' => e = .returned (.int .i64 (Lib.bitLen (0 : Int).toNat : Nat)) ∧ w' = W) := fun W => len64 0 W (by omega) (by omega)
  generalize (Lib.bitLen (0 : Int).toNat : Nat) = q at *
  go_enter Tryz.func118, Tryz.ntmps118
  go_wp2_with fail
  refine (K.out _).mono ?_
  rintro e w1 ⟨rfl, hw⟩
  obtain rfl := hw.symm
  clear hw
  go_wp2_with fail
  go_ret
  exact ⟨⟨_, rfl⟩, rfl⟩
set_option maxRecDepth 100000 in
set_option maxHeartbeats 2000000 in
theorem sortNil (F : Value) (w : World) : Calls Tryz.prog 100 #[.slice none 0 0, F] w fun e w' => e = .returned (.tuple #[]) ∧ w' = w := by
  have K : Hid (∀ k W, Calls Tryz.prog 124 #[.slice none 0 0, .int .i64 0, .int .i64 0, .int .i64 k, F] W fun e w' => e = .returned (.tuple #[]) ∧ w' = W) := fun k W => pdqNil F _ k W
  have KL : Hid (∀ W, Calls Tryz.prog 118 #[.int .u64 0] W fun e w' => (∃ k : Int, e = .returned (.int .i64 k)) ∧ w' = W) := lenNil
  go_enter Tryz.func100, Tryz.ntmps100
  go_wp2_with fail
  refine (KL.out _).mono ?_
  rintro e w1 ⟨⟨k, rfl⟩, hw⟩
  obtain rfl := hw.symm
  clear hw
  go_wp2_with fail
  refine (K.out k _).mono ?_
  rintro e w1 ⟨rfl, hw⟩
  obtain rfl := hw.symm
  clear hw
  go_wp2_with fail
  go_end0
  exact ⟨rfl, rfl⟩
theorem OwnP.sorted {w w' : World} {base g n cap : Nat} {l l' : List Pt} (h : OwnP w base (.slice (some ⟨g, 0, none⟩) n cap) l) (hn : l'.length = l.length) (hi : InP w' (some ⟨g, 0, none⟩) l') (hs : w.heap.size ≤ w'.heap.size) (hc : ∀ cur, w.heap[g]? = some (.cells cur 45) → ∃ cur', w'.heap[g]? = some (.cells cur' 45) ∧ cur'.size = cur.size) : OwnP w' base (.slice (some ⟨g, 0, none⟩) n cap) l' := by
  have h0 := h
  unfold OwnP at h ⊢
  refine ⟨by rw [pcs_len], ?_⟩
  rcases h.2 with ⟨e, _⟩ | ⟨g', cap', cur, e, hb, hg, hl, hm, hz, ht⟩
  · cases e
  · injection e with e1 e2 e3
    have e4 : g = g' := by injection e1 with e1; injection e1
    subst e4 e3
    obtain ⟨cur', hg', hz'⟩ := hc cur hg
    refine .inr ⟨g, cap, cur', by rw [hn, e2], hb, hg', by rw [hn]; exact hl, hm, by rw [hz']; exact hz, ?_⟩
    apply List.ext_getElem?
    intro i
    by_cases hlt : i < l'.length * 3
    · have hi3 : i / 3 < l'.length := by omega
      have hx : l'[i / 3]? = some l'[i / 3] := List.getElem?_eq_getElem hi3
      have hp := pcs_at l' (i / 3) _ hx (i % 3) (by omega)
      rw [show i / 3 * 3 + i % 3 = i by omega] at hp
      rw [hp, List.getElem?_take_of_lt hlt]
      have hcell : ∀ v, w'.cell? ⟨g, i, none⟩ = some v → cur'.toList[i]? = some v := fun v hv => by
        rw [cell_of_row w' g i _ _ (0, 0) hg'] at hv
        simpa using hv
      rcases hi with h1 | ⟨b, off, h1, _, h2⟩
      · rw [h1] at hi3; simp at hi3
      · cases h1
        obtain ⟨c0, c1, c2⟩ := h2 _ _ hx
        rcases (by omega : i % 3 = 0 ∨ i % 3 = 1 ∨ i % 3 = 2) with e | e | e
        · rw [e]; exact hcell _ (by rw [← c0]; congr 2; omega)
        · rw [e]; exact hcell _ (by rw [← c1]; congr 2; omega)
        · rw [e]; exact hcell _ (by rw [← c2]; congr 2; omega)
    · rw [List.getElem?_eq_none (by rw [List.length_take]; omega), List.getElem?_eq_none (by rw [pcs_len]; omega)]
theorem sorts_is : SortsP := by
  intro W base V l ho hl
  rcases ho.2 with ⟨rfl, hn⟩ | ⟨g, cap, cur, rfl, hbg, hg, rest⟩
  · obtain rfl := List.length_eq_zero_iff.1 hn
    refine (sortNil _ W).mono ?_
    rintro e w' ⟨rfl, hw⟩
    obtain rfl := hw.symm
    exact ⟨rfl, [], List.Perm.refl _, List.Pairwise.nil, ho, ⟨rfl, rfl, rfl, Nat.le_refl _, fun _ _ _ => rfl⟩⟩
  · obtain ⟨a, c, e, hin, _, _, _, hbl⟩ := ho.slice
    injection e with e1 e2 e3
    subst e1 e3
    refine (sortP_is W g l.length cap l rfl cur hg (fun i x hx => ?_) (by omega)).mono ?_
    · rcases hin with h1 | ⟨g', off, h1, _, h2⟩
      · rw [h1] at hx; simp at hx
      · cases h1
        have := h2 i x hx
        rwa [Nat.zero_add] at this
    · rintro e w' ⟨rfl, l', hp, hpw, hi, hgr, hcur⟩
      refine ⟨rfl, l', hp, hpw, ho.sorted hp.length_eq hi hgr.size (fun cur2 h2 => ?_), hgr⟩
      rw [hg] at h2
      obtain ⟨c', hc1, hc2⟩ := hcur
      injection h2 with h2
      injection h2 with h2
      subst h2
      exact ⟨c', hc1, hc2⟩
/-- what a call that gathers changes tells -/
def ScnSaid (w : World) (n : Nat) (T : ByteArray → Option Pt) (f : ByteArray → Bool) (e : Ending) (w' : World) : Prop := ∃ v l, e = .returned v ∧ OwnP w' w.heap.size v l ∧ LstP T f l ∧ l.length ≤ n ∧ w.grownBy w' none
theorem kRising_is (w : World) (b n : Nat) (T : ByteArray → Option Pt) (hs : Pm w b n T) (hn : n ≤ 1000000000) (hT : AtKey T) (fr to : ByteArray) :
    Calls Tryz.prog 69 #[.map (some b), .string fr, .string to] w (ScnSaid w n T (inR fr to)) := rising_is sorts_is w b n T hs hn hT fr to
set_option maxRecDepth 100000 in
set_option maxHeartbeats 2000000 in
theorem kScan_is (w : World) (bb bl mb n : Nat) (T : ByteArray → Option Pt) (h : w.heap[bb]? = some (kO bl mb)) (hm : Pm w mb n T) (hn : n ≤ 1000000000) (hT : AtKey T) (fr to : ByteArray) :
    Calls Tryz.prog 30 #[.pointer (some ⟨bb, 0, none⟩), .string fr, .string to] w (ScnSaid w n T (inR fr to)) := by
  have KN : Hid (Calls Tryz.prog 42 #[.pointer (some ⟨bb, 0, none⟩)] w fun e w' => e = .returned (.bool false) ∧ w' = w) := kNone_is w bb bl mb h
  have KR : Hid (Calls Tryz.prog 69 #[.map (some mb), .string fr, .string to] w (ScnSaid w n T (inR fr to))) := kRising_is w mb n T hm hn hT fr to
  obtain ⟨q0, q1⟩ := ko_cells h
  generalize hQ : ScnSaid w n T (inR fr to) = Q at *
  have HQ : Hid (ScnSaid w n T (inR fr to) = Q) := hQ
  clear h hm hT hQ
  go_enter Tryz.func30, Tryz.ntmps30
  go_wp2_with fail
  refine KN.out.mono ?_
  rintro e w1 ⟨rfl, rfl⟩
  go_wp2_with fail
  refine KR.out.mono ?_
  intro e w2 hq
  have hq2 := hq
  rw [← HQ.out] at hq2
  obtain ⟨v2, l, rfl, ho2, _⟩ := hq2
  obtain ⟨a, c, rfl, _⟩ := ho2.slice
  clear ho2
  have H2 : Hid (Q (.returned (.slice a l.length c)) w2) := hq
  clear hq
  go_wp2_with fail
  exact H2.out
end Go.Proofs.YtcindeechmpalaaGreat
namespace Go.Proofs.YtcindeechmpalaaGreat
open Go.ChangeShapes Go.WideShapes Go.ChangeAt Go.RowKit Go.Deep Go.Maps
set_option linter.unusedVariables false
set_option linter.unusedSimpArgs false
theorem fitG_at {l : List Pt} {j : Nat} {x : Pt} (h : l[j]? = some x) (sz : Nat) : fitG sz j (l.drop j) = if j = 64 ∨ 4096 < sz + (cB x).length then j else fitG (sz + (cB x).length) (j + 1) (l.drop (j + 1)) := by
  obtain ⟨hj, e⟩ := List.getElem?_eq_some_iff.1 h
  rw [List.drop_eq_getElem_cons hj, e, fitG]
theorem owned_nilK (w : World) (base : Nat) : Owned w base (.slice none 0 0) [] := World.ownsRow_nil _ _ _ _
set_option maxRecDepth 100000 in
set_option maxHeartbeats 4000000 in
theorem kFit_is (l : List Pt) (n : Nat) (hn : l.length = n) (hn2 : n ≤ 1000000000) (hok : ∀ x ∈ l, badP x = false) (a : Option Addr) (c : Nat) (w : World) (hl : InP w a l) :
    Calls Tryz.prog 90 #[.slice a n c] w fun e w' => e = .returned (.int .i64 (fitN l : Nat)) ∧ Below w.heap.size w w' := by
  have HL : Hid (InP w a l) := hl
  have HN : Hid (l.length = n) := hn
  have HO : Hid (∀ x ∈ l, badP x = false) := hok
  have HF : Hid (fitN l = fitG 1 0 l) := rfl
  obtain ⟨R, hR⟩ : ∃ R, fitN l = R := ⟨_, rfl⟩
  rw [hR] at HF ⊢
  clear hl hn hok hR
  go_enter Tryz.func90, Tryz.ntmps90
  go_wp2_with fail
  go_loopg [3, 8] n (fun gg s i wr => ∃ j sz : Nat, j ≤ n ∧ j ≤ 64 ∧ gg = n - j ∧ i = .int .i64 (j : Int) ∧ s = .int .i64 (sz : Int) ∧ sz ≤ 4096 ∧ Hid (R = fitG sz j (l.drop j)) ∧ Hid (Below w.heap.size w wr))
  case atStart => exact ⟨0, 1, Nat.zero_le _, Nat.zero_le _, rfl, rfl, rfl, by omega, by show _ = _; simpa using HF.out, Below.refl _ _⟩
  case round =>
    obtain ⟨j, sz, hj, hj64, rfl, rfl, rfl, hsz, HFJ, HW⟩ := hrel
    clear HF
    by_cases hlt : j < n
    · have j1 : decide ((j : Int) < (n : Int)) = true := by rw [decide_eq_true_eq]; omega
      obtain ⟨x, hx⟩ : ∃ x, l[j]? = some x := ⟨l[j]'(by rw [HN.out]; exact hlt), by simp [HN.out, hlt]⟩
      obtain ⟨b, off, rfl, hbw, hpc⟩ := HL.out.at hx
      obtain ⟨c0, c1, c2⟩ := hpc.kept (HW.out.block b hbw)
      have HX : Hid (badP x = false) := HO.out x (List.mem_of_getElem? hx)
      have hxl := cB_len HX.out
      have HFX : Hid (R = if j = 64 ∨ 4096 < sz + (cB x).length then j else fitG (sz + (cB x).length) (j + 1) (l.drop (j + 1))) := HFJ.out.trans (fitG_at hx sz)
      have ri : IntKind.i64.wrap ((j : Int) + 1) = (j : Int) + 1 := by rw [IntKind.wrap_i64]; omega
      have hsw := HW.out.size
      have KX : Hid (∀ W : World, Calls Tryz.prog 63 #[.slice none 0 0, .agg #[.string x.k, .string x.v, .bool x.g]] W fun e w' => ∃ a' c', e = .returned (.slice a' (cB x).length c') ∧ Below W.heap.size W w') := fun W => by
        refine (kChange_is x HX.out W.heap.size (.slice none 0 0) [] W (owned_nilK _ _) (by simp) (Nat.le_refl _)).mono ?_
        rintro e w' ⟨v', rfl, ho, hg⟩
        obtain ⟨a', c', rfl, _⟩ := ho.slice
        exact ⟨a', c', rfl, hg.below _ (Nat.le_refl _) (fun k hk => by cases hk)⟩
      generalize (cB x).length = q at *
      clear hx hpc HFJ
      obtain ⟨xk, xv, xg⟩ := x
      simp only at c0 c1 c2 KX
      have HW1 : Hid (Below w.heap.size w (wr.alloc (.cells #[.string xk, .string xv, .bool xg] 45))) := HW.out.alloc hsw _
      have rs : IntKind.i64.wrap ((sz : Int) + (q : Int)) = ((sz + q : Nat) : Int) := by rw [IntKind.wrap_i64]; omega
      go_wp2_with fail
      refine (KX.out _).mono ?_
      rintro e w5 ⟨a5, c5, rfl, hb5⟩
      have B5 : Hid (Below w.heap.size w w5) := HW1.out.trans (hb5.mono HW1.out.size)
      clear hb5 HW1
      by_cases h64 : j = 64
      · have HR : Hid (R = 64) := by show _ = _; rw [HFX.out, if_pos (.inl h64), h64]
        clear HFX
        subst h64
        go_wp2_with fail
        go_ret
        exact ⟨by rw [HR.out]; rfl, B5.out⟩
      · have e64 : ((j : Int) == 64) = false := by rw [beq_eq_false_iff_ne]; omega
        by_cases h4 : 4096 < sz + q
        · have e4 : decide ((4096 : Int) < ((sz + q : Nat) : Int)) = true := by rw [decide_eq_true_eq]; omega
          have HR : Hid (R = j) := by show _ = _; rw [HFX.out, if_pos (.inr h4)]
          clear HFX
          go_wp2_with fail
          go_ret
          exact ⟨by rw [HR.out]; rfl, B5.out⟩
        · have e4 : decide ((4096 : Int) < ((sz + q : Nat) : Int)) = false := by rw [decide_eq_false_iff_not]; omega
          have HR : Hid (R = fitG (sz + q) (j + 1) (l.drop (j + 1))) := by show _ = _; rw [HFX.out, if_neg (by omega)]
          clear HFX
          go_wp2_with fail
          go_roundg (n - (j + 1))
          case measure => omega
          case rel => exact ⟨j + 1, sz + q, by omega, by omega, rfl, by simp, by first | rfl | simp, by omega, HR, B5⟩
    · have j1 : decide ((j : Int) < (n : Int)) = false := by rw [decide_eq_false_iff_not]; omega
      have HR : Hid (R = n) := by
        show _ = _
        rw [HFJ.out, List.drop_of_length_le (by rw [HN.out]; omega)]
        show j = n
        omega
      go_wp2_with fail
      go_ret
      exact ⟨by rw [HR.out]; rfl, HW.out⟩
theorem InP.take {w : World} {a : Option Addr} {l : List Pt} (h : InP w a l) (k : Nat) : InP w a (l.take k) := by
  rcases h with h | ⟨b, off, e, h1, h2⟩
  · exact .inl (by rw [h]; simp)
  · refine .inr ⟨b, off, e, h1, fun i x hx => h2 i x ?_⟩
    rw [List.getElem?_take] at hx
    split at hx
    · exact hx
    · cases hx
theorem InP.drop {w : World} {b off : Nat} {l : List Pt} (h : InP w (some ⟨b, off, none⟩) l) (k : Nat) : InP w (some ⟨b, off + k * 3, none⟩) (l.drop k) := by
  rcases h with h | ⟨b', off', e, h1, h2⟩
  · exact .inl (by rw [h]; simp)
  · cases e
    refine .inr ⟨b, off + k * 3, rfl, h1, fun i x hx => ?_⟩
    rw [List.getElem?_drop] at hx
    have := h2 (k + i) x hx
    rw [show off + (k + i) * 3 = off + k * 3 + i * 3 by omega] at this
    exact this
theorem in_one_text {w : World} {B : List Int} : InS (w.alloc (.cells #[.string (strOfNums B)] 9)) (some ⟨w.heap.size, 0, none⟩) [B] := by
  refine .inr ⟨w.heap.size, 0, rfl, fun i hi => ?_⟩
  have hi' : i < 1 := hi
  obtain rfl : i = 0 := by omega
  rw [Nat.zero_add, cell_of_row _ _ 0 _ _ (0, 0) (heap_alloc_new w _)]
  rfl
/-- snapshot's answer: the bytes of the batches of all -/
def SnpSaid (w : World) (L : List Pt) (e : Ending) (w' : World) : Prop := ∃ v, e = .returned v ∧ RowsS w' w.heap.size v ((snapB L).map eB) ∧ w.grownBy w' none
set_option maxRecDepth 100000 in
set_option maxHeartbeats 8000000 in
theorem kSnap_is (w : World) (b n : Nat) (T : ByteArray → Option Pt) (L : List Pt) (hs : Pm w b n T) (hn : n ≤ 1000000000) (hT : AtKey T) (hL : LstP T allK L) (hok : ∀ x ∈ L, badP x = false) :
    Calls Tryz.prog 49 #[.map (some b)] w (SnpSaid w L) := by
  have KR : Hid (Calls Tryz.prog 69 #[.map (some b), .string ⟨#[]⟩, .string ⟨#[]⟩] w fun e w' => ∃ v, e = .returned v ∧ OwnP w' w.heap.size v L ∧ L.length ≤ n ∧ w.grownBy w' none) := by
    refine (kRising_is w b n T hs hn hT ⟨#[]⟩ ⟨#[]⟩).mono ?_
    rintro e w' ⟨v, l, rfl, h1, h2, h3, h4⟩
    rw [inR_all] at h2
    obtain rfl := lst_uniq h2 hL
    exact ⟨v, rfl, h1, h3, h4⟩
  have HO : Hid (∀ x ∈ L, badP x = false) := hok
  have HSP : Hid (∀ v w', RowsS w' w.heap.size v ((snapB L).map eB) → w.grownBy w' none → SnpSaid w L (.returned v) w') := fun v w' h1 h2 => ⟨v, rfl, h1, h2⟩
  generalize hQ : SnpSaid w L = Q at *
  clear hs hT hL hok hQ
  go_enter Tryz.func49, Tryz.ntmps49
  go_wp2_with fail
  refine KR.out.mono ?_
  rintro e w1 ⟨v, rfl, ho, hLn, hg1⟩
  obtain ⟨a, c, rfl, hi, hc1, hc2, hc3, hbl⟩ := ho.slice
  obtain ⟨h, hh⟩ : ∃ h, h = w.heap.size := ⟨_, rfl⟩
  have HH : Hid (h = w.heap.size) := hh
  have I1 : Hid (InP w1 a L) := hi
  have G1 : Hid (Below h w w1) := by rw [hh]; exact ⟨hg1.os, hg1.tape, hg1.output, hg1.size, fun k hk => hg1.block k hk (by simp)⟩
  have HBL : Hid (∀ x, a = some x → x.block < w1.heap.size) := fun x hx => (hbl x hx).2
  obtain ⟨h2, hh2⟩ : ∃ h2, h2 = w1.heap.size := ⟨_, rfl⟩
  have HH2 : Hid (h2 = w1.heap.size ∧ h ≤ h2) := ⟨hh2, by rw [hh, hh2]; exact hg1.size⟩
  clear ho hi hbl hg1 KR hh hh2
  go_wp2_with fail
  go_loopg [3, 4] L.length (fun gg V X wr => ∃ (r : List Pt) (bs : List (List Pt)) (a' : Option Addr) (c' : Nat), gg = r.length ∧ X = .slice a' r.length c' ∧ r.length ≤ c' ∧ c' ≤ 9223372036854775807 ∧ r.length ≤ L.length ∧ bs.length + r.length ≤ L.length ∧ Hid (InP wr a' r ∧ RowsS wr h2 V (bs.map eB) ∧ bs ++ snapB r = snapB L ∧ (∀ x ∈ r, badP x = false) ∧ Below h w wr ∧ h2 ≤ wr.heap.size ∧ (∀ x, a' = some x → x.block < h2)))
  case atStart => exact ⟨L, [], a, c, rfl, rfl, hc1, hc2, Nat.le_refl _, by simp, I1.out, RowsS.nil _ _, rfl, HO.out, G1.out, by rw [HH2.out.1]; exact Nat.le_refl _, by rw [HH2.out.1]; exact HBL.out⟩
  case round =>
    obtain ⟨r, bs, a', c', rfl, rfl, hrc, hc9, hrL, hbr, RW⟩ := hrel
    clear I1 G1
    by_cases hne : r = []
    · subst hne
      have HF : Hid (Q (.returned u3) wr) := by
        obtain ⟨q1, q2, q3, q4, q5, q6, q7⟩ := RW.out
        refine HSP.out _ _ ?_ ?_
        · rw [← q3, show bs ++ snapB [] = bs by rw [show snapB [] = [] from rfl, List.append_nil]]
          exact q2.base (by have := HH2.out; have := HH.out; omega)
        · rw [HH.out] at q5
          exact ⟨q5.os, q5.tape, q5.output, q5.size, fun k hk _ => q5.block k hk⟩
      go_wp2_with fail
      exact HF.out
    · have hp : 0 < r.length := List.length_pos_iff.2 hne
      have d1 : decide ((0 : Int) < (r.length : Int)) = true := by rw [decide_eq_true_eq]; omega
      obtain ⟨f1, f2, f3⟩ := fitN_enc hne RW.out.2.2.2.1
      have KF : Hid (Calls Tryz.prog 90 #[.slice a' r.length c'] wr fun e w' => e = .returned (.int .i64 (fitN r : Nat)) ∧ Below wr.heap.size wr w') := kFit_is r r.length rfl (by omega) RW.out.2.2.2.1 a' c' wr RW.out.1
      have HSC : Hid (snapB r = r.take (fitN r) :: snapB (r.drop (fitN r))) := snapB_cons hne RW.out.2.2.2.1
      obtain ⟨q, hq⟩ : ∃ q, fitN r = q := ⟨_, rfl⟩
      rw [hq] at KF HSC f1 f2 f3
      obtain ⟨g, off, rfl⟩ : ∃ g off, a' = some ⟨g, off, none⟩ := by
        rcases RW.out.1 with e | ⟨g, off, e, _⟩
        · exact absurd e hne
        · exact ⟨g, off, e⟩
      have htl : (r.take q).length = q := by rw [List.length_take]; omega
      have KE : Hid (∀ W, InP W (some ⟨g, off, none⟩) r → Calls Tryz.prog 24 #[.slice (some ⟨g, off, none⟩) q c'] W fun e w' => e = .returned (.tuple #[.string (strOfNums (eB (r.take q))), .int .i64 0]) ∧ Below W.heap.size W w') := fun W hW => by
        have k := kEncode_is (r.take q) q htl (by omega) (fit_ok fun x hx => RW.out.2.2.2.1 x (List.mem_of_mem_take hx)) (some ⟨g, off, none⟩) c' W (hW.take q)
        rw [f1] at k
        exact k
      have HDL : Hid ((r.drop q).length = r.length - q) := List.length_drop
      clear hq f1 htl
      generalize u3 = V at *
      have HOV : Hid (∀ k, V.ownBlock = some k → h2 ≤ k ∧ k < wr.heap.size) := fun k hk => RW.out.2.1.own k hk
      obtain ⟨B, hB⟩ : ∃ B, eB (r.take q) = B := ⟨_, rfl⟩
      rw [hB] at KE
      have HBE : Hid (eB (r.take q) = B) := hB
      clear hB
      go_wp2_with fail
      refine KF.out.mono ?_
      rintro e w2 ⟨rfl, hb2⟩
      have RW2 : Hid (InP w2 (some ⟨g, off, none⟩) r ∧ RowsS w2 h2 V (bs.map eB) ∧ Below h w w2 ∧ h2 ≤ w2.heap.size) := ⟨RW.out.1.keep hb2, RW.out.2.1.keep hb2, RW.out.2.2.2.2.1.trans (hb2.mono (by have := HH2.out; have := RW.out.2.2.2.2.2.1; omega)), Nat.le_trans RW.out.2.2.2.2.2.1 hb2.size⟩
      clear hb2
      go_wp2_with fail
      refine (KE.out w2 RW2.out.1).mono ?_
      rintro e w3 ⟨rfl, hb3⟩
      have RW3 : Hid (InP w3 (some ⟨g, off, none⟩) r ∧ RowsS w3 h2 V (bs.map eB) ∧ Below h w w3 ∧ h2 ≤ w3.heap.size) := ⟨RW2.out.1.keep hb3, RW2.out.2.1.keep hb3, RW2.out.2.2.1.trans (hb3.mono (by have := HH2.out; have := RW2.out.2.2.2; omega)), Nat.le_trans RW2.out.2.2.2 hb3.size⟩
      clear hb3 RW2
      have CI : Hid (InS (w3.alloc (.cells #[.string (strOfNums B)] 9)) (some ⟨w3.heap.size, 0, none⟩) [B]) := in_one_text
      have O4 : Hid (RowsS (w3.alloc (.cells #[.string (strOfNums B)] 9)) h2 V (bs.map eB)) := RW3.out.2.1.keep (below1 _ _)
      have Z4 : Hid (h2 ≤ (w3.alloc (.cells #[.string (strOfNums B)] 9)).heap.size) := by show h2 ≤ _; rw [show (w3.alloc (.cells #[.string (strOfNums B)] 9)).heap.size = w3.heap.size + 1 by simp]; have := RW3.out.2.2.2; omega
      have HBM : Hid ((bs.map eB).length + 1 ≤ 5000000000000) := by show _ ≤ _; rw [List.length_map]; omega
      have fin : ∀ v5 u5, RowsS u5 h2 v5 (bs.map eB ++ [B]) → (w3.alloc (.cells #[.string (strOfNums B)] 9)).grownBy u5 V.ownBlock → RowsS u5 h2 v5 ((bs ++ [r.take q]).map eB) ∧ Below h w u5 ∧ h2 ≤ u5.heap.size ∧ InP u5 (some ⟨g, off, none⟩) r := fun v5 u5 h5 g5 => by
        have hgl : g < h2 := RW.out.2.2.2.2.2.2 _ rfl
        refine ⟨by rw [List.map_append]; show RowsS u5 h2 v5 (bs.map eB ++ [eB (r.take q)]); rw [HBE.out]; exact h5, ?_, Nat.le_trans Z4.out g5.size, ?_⟩
        · have b4 : Below h w (w3.alloc (.cells #[.string (strOfNums B)] 9)) := RW3.out.2.2.1.alloc (by have := HH2.out; have := RW3.out.2.2.2; omega) _
          exact b4.grown g5 (by have := HH2.out; have := Z4.out; omega) (fun k hk => by have := (HOV.out k hk).1; have := HH2.out; omega)
        · refine RW3.out.1.kept (by have := g5.size; have : (w3.alloc (.cells #[.string (strOfNums B)] 9)).heap.size = w3.heap.size + 1 := by simp
                                    omega) fun x hx _ => ?_
          cases hx
          rw [g5.block g (by have := Z4.out; omega) (fun e => by have := (HOV.out g e.symm).1; omega)]
          exact Below.heap_alloc _ _ _ (by have := RW3.out.2.2.2; omega)
      have FIN : Hid (∀ v5 u5, RowsS u5 h2 v5 (bs.map eB ++ [B]) → (w3.alloc (.cells #[.string (strOfNums B)] 9)).grownBy u5 V.ownBlock → RowsS u5 h2 v5 ((bs ++ [r.take q]).map eB) ∧ Below h w u5 ∧ h2 ≤ u5.heap.size ∧ InP u5 (some ⟨g, off, none⟩) r) := fin
      clear fin KE KF
      generalize strOfNums B = st at *
      have q1 : (q : Int) ≤ (r.length : Int) := by omega
      have q2 : (q : Int) ≤ (c' : Int) := by omega
      by_cases hcq : c' = q
      · have hr0 : r.drop q = [] := List.length_eq_zero_iff.1 (by rw [HDL.out]; omega)
        have HR0 : Hid (r.drop q = []) := hr0
        have hrq : r.length = q := by omega
        clear hr0
        subst hcq
        go_wp2_with (at_builtin; refine appTL rfl (.tmp 22) (.tmp 24) rfl h2 _ (bs.map eB) rfl O4.out ⟨w3.heap.size, 0, none⟩ 1 1 [B] rfl rfl CI.out HBM.out Z4.out ?_; intro v5 u5 r5 g5 o5; have F5 : Hid (RowsS u5 h2 v5 ((bs ++ [r.take c']).map eB) ∧ Below h w u5 ∧ h2 ≤ u5.heap.size ∧ InP u5 (some ⟨g, off, none⟩) r) := FIN.out v5 u5 r5 g5; clear r5 g5 o5)
        go_roundg 0
        case measure => omega
        case rel =>
          refine ⟨[], bs ++ [r.take c'], some ⟨g, off, none⟩, 0, rfl, by simp [hrq], by simp, by omega, by simp, by simp; omega, .inl rfl, F5.out.1, ?_, fun x hx => (by cases hx), F5.out.2.1, F5.out.2.2.1, fun x hx => by cases hx; exact (show g < h2 from RW.out.2.2.2.2.2.2 ⟨g, off, none⟩ rfl)⟩
          have := RW.out.2.2.1
          rw [HSC.out, HR0.out] at this
          rw [List.append_assoc]
          exact this
      · go_wp2_with (at_builtin; refine appTL rfl (.tmp 22) (.tmp 24) rfl h2 _ (bs.map eB) rfl O4.out ⟨w3.heap.size, 0, none⟩ 1 1 [B] rfl rfl CI.out HBM.out Z4.out ?_; intro v5 u5 r5 g5 o5; have F5 : Hid (RowsS u5 h2 v5 ((bs ++ [r.take q]).map eB) ∧ Below h w u5 ∧ h2 ≤ u5.heap.size ∧ InP u5 (some ⟨g, off, none⟩) r) := FIN.out v5 u5 r5 g5; clear r5 g5 o5)
        go_roundg (r.length - q)
        case measure => omega
        case rel =>
          refine ⟨r.drop q, bs ++ [r.take q], some ⟨g, off + q * 3, none⟩, c' - q, HDL.out.symm, by rw [HDL.out], by rw [HDL.out]; omega, by omega, by rw [HDL.out]; omega, by rw [HDL.out, List.length_append]; show bs.length + 1 + _ ≤ _; omega, F5.out.2.2.2.drop q, F5.out.1, ?_, fun x hx => RW.out.2.2.2.1 x (List.mem_of_mem_drop hx), F5.out.2.1, F5.out.2.2.1, fun x hx => by cases hx; exact (show g < h2 from RW.out.2.2.2.2.2.2 ⟨g, off, none⟩ rfl)⟩
          have := RW.out.2.2.1
          rw [HSC.out] at this
          rw [List.append_assoc]
          exact this
end Go.Proofs.YtcindeechmpalaaGreat
namespace Go.Proofs.YtcindeechmpalaaGreat
open Go.Shelf Go.RowKit Go.Lib Go.Maps
set_option linter.unusedVariables false
def clRen : Go.Shelf.Ren := ⟨fun | 5 => 81 | 7 => 112 | n => n, fun | 3 => 45 | 4 => 4 | 20 => 20 | 23 => 65 | 25 => 9 | n => n, fun | n => n⟩
theorem clLays : Go.Proofs.SlLaysW.n5 Tryz.prog clRen := {
  mixed := by kernel_rfl
  f5 := ⟨Tryz.f81.name, by decide, Tryz.func81.trans (congrArg some (by kernel_rfl))⟩
  f7 := Tryz.func112.trans (congrArg some (by kernel_rfl))
  t4 := Tryz.underlying4
  a4 := Tryz.isAgg4
  z4 := Tryz.sizeOf4
  v4 := Tryz.zeroValue4
  t20 := Tryz.underlying20
  a20 := Tryz.isAgg20
  z20 := Tryz.sizeOf20
  v20 := Tryz.zeroValue20
  t23 := Tryz.underlying65
  a23 := Tryz.isAgg65
  z23 := Tryz.sizeOf65
  v23 := Tryz.zeroValue65 }
theorem kClone_is (w : World) (b n : Nat) (T : ByteArray → Option Pt) (h : Pm w b n T) : Calls Tryz.prog 81 #[.map (some b)] w fun e w' => e = .returned (.map (some w.heap.size)) ∧ Pm w' w.heap.size n T ∧ Pm w' b n T ∧ Below w.heap.size w w' := by
  obtain ⟨D, h1, h2⟩ := h
  have hcon := AnyW.maps_Clone_owns clLays 9 pR b n D w h1
  change Calls Tryz.prog 81 _ _ _ at hcon
  refine hcon.mono ?_
  rintro e w' ⟨rfl, a1, a2, a3⟩
  exact ⟨rfl, ⟨D, a1, h2⟩, ⟨D, a2, h2⟩, a3⟩
end Go.Proofs.YtcindeechmpalaaGreat
namespace Go.Proofs.YtcindeechmpalaaGreat
open Go.ChangeShapes Go.WideShapes Go.ChangeAt Go.RowKit Go.Deep Go.Maps
set_option linter.unusedVariables false
set_option linter.unusedSimpArgs false
theorem Kb.more {w wr : World} {P : Nat → Prop} {bb bd bl mb N C N' C' : Nat} {s : Ds} {l : Lg} {T : ByteArray → Option Pt} (h : Kb w wr P bb bd bl mb N C s l T) (hN : N ≤ N') (hC : C ≤ C') : Kb w wr P bb bd bl mb N' C' s l T :=
  ⟨h.wl.more hN, h.box, h.mp.mono hC, h.ge, h.ne⟩
theorem Kb.step {w wr w' : World} {P : Nat → Prop} {bb bd bl mb N N' C : Nat} {s s' : Ds} {l l' : Lg} {T : ByteArray → Option Pt} (h : Kb w wr P bb bd bl mb N C s l T) (hw : Wl w w' (fun k => P k ∨ k = bb ∨ k = mb) bd bl N' s' l') (hk : ∀ k, P k ∨ k = bb ∨ k = mb → w'.heap[k]? = wr.heap[k]?) : Kb w w' P bb bd bl mb N' C s' l' T := by
  refine ⟨hw, (hk bb (.inr (.inl rfl))).trans h.box, ?_, h.ge, h.ne⟩
  obtain ⟨D, ⟨es, clock, h1, r⟩, h2⟩ := h.mp
  exact ⟨D, ⟨es, clock, (hk mb (.inr (.inr rfl))).trans h1, r⟩, h2⟩
theorem Kb.keep {w wr w' : World} {P : Nat → Prop} {bb bd bl mb N C : Nat} {s : Ds} {l : Lg} {T : ByteArray → Option Pt} (h : Kb w wr P bb bd bl mb N C s l T) (hb : Below wr.heap.size wr w') : Kb w w' (fun k => P k ∨ (wr.heap.size ≤ k ∧ k < w'.heap.size)) bb bd bl mb N C s l T := by
  have h1 := lt_of_heapK h.box
  have h2 := h.mp.lt
  refine ⟨(h.wl.keep hb).less fun k hk => ?_, (hb.block bb h1).trans h.box, h.mp.keep hb, h.ge, h.ne.1, fun k hk => ?_⟩
  · rcases hk with (h | h) | h | h
    · exact .inl (.inl h)
    · exact .inr h
    · exact .inl (.inr (.inl h))
    · exact .inl (.inr (.inr h))
  · rcases hk with hk | hk
    · exact h.ne.2 k hk
    · exact ⟨by omega, by omega⟩
theorem Kb.less {w wr : World} {P Q : Nat → Prop} {bb bd bl mb N C : Nat} {s : Ds} {l : Lg} {T : ByteArray → Option Pt} (h : Kb w wr P bb bd bl mb N C s l T) (hq : ∀ k, Q k → P k) : Kb w wr Q bb bd bl mb N C s l T :=
  ⟨h.wl.less fun k hk => hk.elim (fun e => .inl (hq k e)) .inr, h.box, h.mp, h.ge, h.ne.1, fun k hk => h.ne.2 k (hq k hk)⟩
set_option maxRecDepth 100000 in
set_option maxHeartbeats 4000000 in
theorem kWrite_ok {w wr : World} {P : Nat → Prop} {bb bd bl mb N C : Nat} {s : Ds} {l : Lg} {T : ByteArray → Option Pt} (K : Kb w wr P bb bd bl mb N C s l T) (hN : N + 3000 < 999900) (B : List Int) (hB : IsBytes B) (hadd : (l.add B).1 = 0) (hfit : 2 + (l.add B).2.ar * (l.add B).2.m + (l.add B).2.m ≤ s.D.length) (v : Value) :
    Calls Tryz.prog 43 #[.pointer (some ⟨bb, 0, none⟩), .string (strOfNums B), v] wr fun e w' => e = .returned (.int .i64 ((l.add B).2.sync s).1) ∧ Kb w w' P bb bd bl mb (N + 2100) C ((l.add B).2.sync s).2.2 ((l.add B).2.sync s).2.1 T ∧ ∀ k, P k → w'.heap[k]? = wr.heap[k]? := by
  have KA : Hid (Calls Tryz.prog 79 #[.pointer (some ⟨bl, 0, none⟩), .string (strOfNums B)] wr fun e w' => e = .returned (.int .i64 0) ∧ Kb w w' P bb bd bl mb N C s (l.add B).2 T ∧ ∀ k, P k → w'.heap[k]? = wr.heap[k]?) := by
    have k := wl_add K.wl B hB
    rw [hadd] at k
    refine k.mono ?_
    rintro e w' ⟨rfl, h1, h2⟩
    exact ⟨rfl, K.step h1 h2, fun k hk => h2 k (.inl hk)⟩
  obtain ⟨l1, hl1⟩ : ∃ l1, (l.add B).2 = l1 := ⟨_, rfl⟩
  rw [hl1] at KA hfit ⊢
  have KS : Hid (∀ W, Kb w W P bb bd bl mb N C s l1 T → Calls Tryz.prog 80 #[.pointer (some ⟨bl, 0, none⟩)] W fun e w' => e = .returned (.int .i64 (l1.sync s).1) ∧ Kb w w' P bb bd bl mb (N + 2100) C (l1.sync s).2.2 (l1.sync s).2.1 T ∧ ∀ k, P k → w'.heap[k]? = W.heap[k]?) := fun W hW => by
    refine (wl_sync hW.wl hfit hN).mono ?_
    rintro e w' ⟨rfl, h1, h2⟩
    exact ⟨rfl, hW.step h1 h2, fun k hk => h2 k (.inl hk)⟩
  obtain ⟨q0, q1⟩ := ko_cells K.box
  clear hl1 hadd hfit hB K
  generalize strOfNums B = st at *
  go_enter Tryz.func43, Tryz.ntmps43
  go_wp2_with fail
  refine KA.out.mono ?_
  rintro e w1 ⟨rfl, hk1, hp1⟩
  have K1 : Hid (Kb w w1 P bb bd bl mb N C s l1 T ∧ ∀ k, P k → w1.heap[k]? = wr.heap[k]?) := ⟨hk1, hp1⟩
  clear q0 q1 hk1 hp1 KA
  obtain ⟨q0, q1⟩ := ko_cells K1.out.1.box
  go_wp2_with fail
  refine (KS.out w1 K1.out.1).mono ?_
  rintro e w2 ⟨rfl, hk2, hp2⟩
  have K2 : Hid (Kb w w2 P bb bd bl mb (N + 2100) C (l1.sync s).2.2 (l1.sync s).2.1 T ∧ ∀ k, P k → w2.heap[k]? = wr.heap[k]?) := ⟨hk2, fun k hk => (hp2 k hk).trans (K1.out.2 k hk)⟩
  clear hk2 hp2 q0 q1
  go_wp2_with fail
  go_ret
  exact ⟨rfl, K2.out⟩
set_option maxRecDepth 100000 in
set_option maxHeartbeats 4000000 in
theorem kDo_ok {w wr : World} {P : Nat → Prop} {bb bd bl mb N C : Nat} {s s2 : Ds} {l l2 : Lg} {T : ByteArray → Option Pt} (K : Kb w wr P bb bd bl mb N C s l T) (hN : N + 3000 < 999900) (hC : C ≤ 900000000) (pts : List Pt) (B : List Int) (hE : encA pts = (0, B)) (hadd : (l.add B).1 = 0) (hfit : 2 + (l.add B).2.ar * (l.add B).2.m + (l.add B).2.m ≤ s.D.length) (hsy : (l.add B).2.sync s = (0, l2, s2)) (a : Option Addr) (n c : Nat) (hn : pts.length = n) (hin : InP wr a pts) (ha : ∀ x, a = some x → pts ≠ [] → P x.block) :
    Calls Tryz.prog 15 #[.pointer (some ⟨bb, 0, none⟩), .slice a n c] wr fun e w' => e = .returned (.int .i64 0) ∧ Kb w w' P bb bd bl mb (N + 2100) (C + n) s2 l2 (chT T pts) ∧ ∀ k, P k → w'.heap[k]? = wr.heap[k]? := by
  obtain ⟨_, _, h64, hok, _⟩ := encA_ok hE
  have KN : Hid (Calls Tryz.prog 42 #[.pointer (some ⟨bb, 0, none⟩)] wr fun e w' => e = .returned (.bool false) ∧ w' = wr) := kNone_is wr bb bl mb K.box
  have KE : Hid (Calls Tryz.prog 24 #[.slice a n c] wr fun e w' => e = .returned (.tuple #[.string (strOfNums B), .int .i64 0]) ∧ Below wr.heap.size wr w') := by
    have k := kEncode_is pts n hn (by omega) (fit_ok hok) a c wr hin
    rw [hE] at k
    exact k
  have KW : Hid (∀ W, Kb w W P bb bd bl mb N C s l T → Calls Tryz.prog 43 #[.pointer (some ⟨bb, 0, none⟩), .string (strOfNums B), .slice a n c] W fun e w' => e = .returned (.int .i64 0) ∧ Kb w w' P bb bd bl mb (N + 2100) C s2 l2 T ∧ ∀ k, P k → w'.heap[k]? = W.heap[k]?) := fun W hW => by
    have k := kWrite_ok hW hN B (encA_bytes hE).1 hadd hfit (.slice a n c)
    rw [hsy] at k
    exact k
  have KC : Hid (∀ W, Kb w W P bb bd bl mb (N + 2100) C s2 l2 T → InP W a pts → Calls Tryz.prog 39 #[.map (some mb), .slice a n c] W fun e w' => e = .returned (.tuple #[]) ∧ Kb w w' P bb bd bl mb (N + 2100) (C + n) s2 l2 (chT T pts) ∧ ∀ k, P k → w'.heap[k]? = W.heap[k]?) := fun W hW hi => by
    refine (kSet_is pts n hn (by omega) (fun x hx => by have := badP_no (hok x hx); omega) a c mb C (by omega) T W hi hW.mp (fun x hx hne => (hW.ne.2 _ (ha x hx hne)).2)).mono ?_
    rintro e w' ⟨rfl, h1, h2⟩
    have hPl : ∀ k, P k → k < W.heap.size := fun k hk => by
      obtain ⟨F, G, _, _, _, _, _, a6⟩ := hW.wl.ex
      exact (a6 k (.inl hk)).1
    exact ⟨rfl, ⟨hW.wl.grown0 h2 (fun k e => ⟨.inr (.inr (Option.some.inj e).symm), by rw [← Option.some.inj e]; exact hW.ge.2⟩), (h2.block bb (lt_of_heapK hW.box) (fun e => hW.ne.1 (Option.some.inj e))).trans hW.box, h1, hW.ge, hW.ne⟩, fun k hk => h2.block k (hPl k hk) (fun e => (hW.ne.2 k hk).2 (Option.some.inj e))⟩
  have HK : Hid (Kb w wr P bb bd bl mb N C s l T) := K
  have HI : Hid (InP wr a pts ∧ ∀ x, a = some x → pts ≠ [] → P x.block) := ⟨hin, ha⟩
  have HPL : Hid (∀ k, P k → k < wr.heap.size) := fun k hk => by
    obtain ⟨F, G, _, _, _, _, _, a6⟩ := K.wl.ex
    exact (a6 k (.inl hk)).1
  clear K hE hadd hfit hsy hin ha h64 hok hn
  generalize strOfNums B = st at *
  go_enter Tryz.func15, Tryz.ntmps15
  go_wp2_with fail
  refine KN.out.mono ?_
  rintro e w1 ⟨rfl, rfl⟩
  go_wp2_with fail
  refine KE.out.mono ?_
  rintro e w2 ⟨rfl, hb2⟩
  have K2 : Hid (Kb w w2 P bb bd bl mb N C s l T ∧ (∀ k, P k → w2.heap[k]? = w1.heap[k]?) ∧ w1.heap.size ≤ w2.heap.size) := ⟨(HK.out.keep hb2).less (fun _ h => .inl h), fun k hk => hb2.block k (HPL.out k hk), hb2.size⟩
  clear hb2 KE KN
  go_wp2_with fail
  refine (KW.out w2 K2.out.1).mono ?_
  rintro e w3 ⟨rfl, hk3, hp3⟩
  have K3 : Hid (Kb w w3 P bb bd bl mb (N + 2100) C s2 l2 T ∧ (∀ k, P k → w3.heap[k]? = w1.heap[k]?)) := ⟨hk3, fun k hk => (hp3 k hk).trans (K2.out.2.1 k hk)⟩
  have I3 : Hid (InP w3 a pts) := by
    rcases HI.out.1 with e | ⟨b, off, e, h1, h2⟩
    · exact .inl e
    · by_cases hne : pts = []
      · exact .inl hne
      · have hp := HI.out.2 _ e hne
        refine .inr ⟨b, off, e, ?_, fun i x hx => (h2 i x hx).kept (K3.out.2 b hp)⟩
        obtain ⟨F, G, _, _, _, _, _, a6⟩ := hk3.wl.ex
        exact (a6 b (.inl hp)).1
  obtain ⟨q0, q1⟩ := ko_cells hk3.box
  clear hk3 hp3 KW K2
  go_wp2_with fail
  refine (KC.out w3 K3.out.1 I3.out).mono ?_
  rintro e w4 ⟨rfl, hk4, hp4⟩
  have K4 : Hid (Kb w w4 P bb bd bl mb (N + 2100) (C + n) s2 l2 (chT T pts) ∧ ∀ k, P k → w4.heap[k]? = w1.heap[k]?) := ⟨hk4, fun k hk => (hp4 k hk).trans (K3.out.2 k hk)⟩
  clear hk4 hp4 q0 q1 KC
  go_wp2_with fail
  go_ret
  exact ⟨rfl, K4.out⟩
end Go.Proofs.YtcindeechmpalaaGreat
namespace Go.Proofs.YtcindeechmpalaaGreat
open Go.ChangeShapes Go.WideShapes Go.ChangeAt Go.RowKit Go.Deep Go.Maps
set_option linter.unusedVariables false
set_option linter.unusedSimpArgs false
/-- a batch done, plainly: the error, the log, the disk -/
def kdo (l : Lg) (s : Ds) (L pts : List Pt) : Int × Lg × Ds :=
  if (encA pts).1 ≠ 0 then ((encA pts).1, l, s)
  else if (l.add (encA pts).2).1 = 0 then (l.add (encA pts).2).2.sync s
  else if (l.add (encA pts).2).1 = 7 then l.reset s ((snapB (apL L pts)).map eB)
  else ((l.add (encA pts).2).1, l, s)
def kcm (l : Lg) (s : Ds) (L : List Pt) : Int × Lg × Ds := l.reset s ((snapB L).map eB)
theorem add_bad {l : Lg} {B : List Int} (h : (l.add B).1 ≠ 0) : (l.add B).2 = l := by
  unfold Lg.add at h ⊢
  split
  · rfl
  · split
    · rfl
    · rename_i h1 h2
      rw [if_neg h1, if_neg h2] at h
      exact absurd rfl h
theorem Kb.grown0 {w wr w' : World} {P : Nat → Prop} {bb bd bl mb N C : Nat} {s : Ds} {l : Lg} {T : ByteArray → Option Pt} {row : Option Nat} (h : Kb w wr P bb bd bl mb N C s l T) (hg : wr.grownBy w' row) (hr : ∀ k, row = some k → P k ∧ w.heap.size ≤ k) : Kb w w' P bb bd bl mb N C s l T := by
  have hb : bb < wr.heap.size := lt_of_heapK h.box
  exact ⟨h.wl.grown0 hg (fun k e => ⟨.inl (hr k e).1, (hr k e).2⟩), (hg.block bb hb (fun e => (h.ne.2 bb (hr bb e.symm).1).1 rfl)).trans h.box, h.mp.kept hg (fun e => (h.ne.2 mb (hr mb e.symm).1).2 rfl), h.ge, h.ne⟩
theorem Kb.plt {w wr : World} {P : Nat → Prop} {bb bd bl mb N C : Nat} {s : Ds} {l : Lg} {T : ByteArray → Option Pt} (h : Kb w wr P bb bd bl mb N C s l T) : ∀ k, P k → k < wr.heap.size := fun k hk => by
  obtain ⟨F, G, _, _, _, _, _, a6⟩ := h.wl.ex
  exact (a6 k (.inl hk)).1
theorem Kb.bel {w wr : World} {P : Nat → Prop} {bb bd bl mb N C : Nat} {s : Ds} {l : Lg} {T : ByteArray → Option Pt} (h : Kb w wr P bb bd bl mb N C s l T) : Below w.heap.size w wr := h.wl.bel
theorem kReset_is {w wr : World} {P : Nat → Prop} {bb bd bl mb N C : Nat} {s : Ds} {l : Lg} {T : ByteArray → Option Pt} (K : Kb w wr P bb bd bl mb N C s l T) (hN : N + 3000 < 999900) (v : Value) (base : Nat) (bs : List (List Pt)) (hv : RowsS wr base v (bs.map eB)) (hbs : ∀ b ∈ bs, encA b = (0, eB b)) (hn2 : bs.length ≤ 1000000) (hP : ∀ k, base ≤ k → k < wr.heap.size → P k) :
    Calls Tryz.prog 48 #[.pointer (some ⟨bl, 0, none⟩), v] wr fun e w' => e = .returned (.int .i64 (l.reset s (bs.map eB)).1) ∧ Kb w w' P bb bd bl mb (N + 2100) C (l.reset s (bs.map eB)).2.2 (l.reset s (bs.map eB)).2.1 T ∧ ∀ k, P k → w'.heap[k]? = wr.heap[k]? := by
  obtain ⟨a, c, rfl, ha, hin, _⟩ := hv.slice
  refine (wl_reset K.wl hN a (bs.map eB).length c (bs.map eB) rfl (by rw [List.length_map]; exact hn2) hin (fun e => by have := ha e; exact ⟨by rw [this.2]; rfl, this.1⟩) (fun B hB => ?_) (fun x hx hne => .inl (.inl ?_))).mono ?_
  · obtain ⟨b, hb, rfl⟩ := List.mem_map.1 hB
    exact (encA_bytes (hbs b hb)).1
  · have := hv.own x.block (by rw [hx]; rfl)
    exact hP _ this.1 this.2
  · rintro e w' ⟨rfl, h1, h2⟩
    exact ⟨rfl, K.step h1 h2, fun k hk => h2 k (.inl hk)⟩
/-- snapshot of a map that is not the database's, or is it, and Reset -/
theorem kSnapK {w wr : World} {P : Nat → Prop} {bb bd bl mb N C : Nat} {s : Ds} {l : Lg} {T : ByteArray → Option Pt} (K : Kb w wr P bb bd bl mb N C s l T) (m2 C2 : Nat) (T2 : ByteArray → Option Pt) (L2 : List Pt) (hm : Pm wr m2 C2 T2) (hC2 : C2 ≤ 1000000000) (hT : AtKey T2) (hL : LstP T2 allK L2) (hok : ∀ x ∈ L2, badP x = false) :
    Calls Tryz.prog 49 #[.map (some m2)] wr fun e w' => ∃ v, e = .returned v ∧ RowsS w' wr.heap.size v ((snapB L2).map eB) ∧ Kb w w' (fun k => P k ∨ (wr.heap.size ≤ k ∧ k < w'.heap.size)) bb bd bl mb N C s l T ∧ (∀ k, P k → w'.heap[k]? = wr.heap[k]?) ∧ wr.heap.size ≤ w'.heap.size := by
  refine (kSnap_is wr m2 C2 T2 L2 hm hC2 hT hL hok).mono ?_
  rintro e w' ⟨v, rfl, h1, hg⟩
  have hb : Below wr.heap.size wr w' := ⟨hg.os, hg.tape, hg.output, hg.size, fun k hk => hg.block k hk (by simp)⟩
  exact ⟨v, rfl, h1, K.keep hb, fun k hk => hb.block k (K.plt k hk), hb.size⟩
theorem inp_by {w w' : World} {P : Nat → Prop} {a : Option Addr} {pts : List Pt} (h : InP w a pts) (ha : ∀ x, a = some x → pts ≠ [] → P x.block) (hp : ∀ k, P k → w'.heap[k]? = w.heap[k]?) (hl : ∀ k, P k → k < w'.heap.size) : InP w' a pts := by
  rcases h with e | ⟨b, off, e, h1, h2⟩
  · exact .inl e
  · by_cases hne : pts = []
    · exact .inl hne
    · have hb := ha _ e hne
      exact .inr ⟨b, off, e, hl b hb, fun i x hx => (h2 i x hx).kept (hp b hb)⟩
end Go.Proofs.YtcindeechmpalaaGreat
namespace Go.Proofs.YtcindeechmpalaaGreat
open Go.ChangeShapes Go.WideShapes Go.ChangeAt Go.RowKit Go.Deep Go.Maps
set_option linter.unusedVariables false
set_option linter.unusedSimpArgs false
set_option maxRecDepth 100000 in
set_option maxHeartbeats 8000000 in
theorem kWrite_is {w wr : World} {P : Nat → Prop} {bb bd bl mb N C : Nat} {s : Ds} {l : Lg} {T : ByteArray → Option Pt} (K : Kb w wr P bb bd bl mb N C s l T) (hN : N + 3000 < 999900) (L pts : List Pt) (hC : C + pts.length ≤ 900000) (hLn : (apL L pts).length ≤ 1000000) (hL : LstP T allK L) (hT : AtKey T) (hok : ∀ x ∈ L, badP x = false) (B : List Int) (hE : encA pts = (0, B)) (hfit : 2 + l.ar * l.m + l.m ≤ s.D.length) (a : Option Addr) (n c : Nat) (hn : pts.length = n) (hin : InP wr a pts) (ha : ∀ x, a = some x → pts ≠ [] → P x.block) :
    Calls Tryz.prog 43 #[.pointer (some ⟨bb, 0, none⟩), .string (strOfNums B), .slice a n c] wr fun e w' => e = .returned (.int .i64 (kdo l s L pts).1) ∧ Kb w w' P bb bd bl mb (N + 2100) C (kdo l s L pts).2.2 (kdo l s L pts).2.1 T ∧ ∀ k, P k → w'.heap[k]? = wr.heap[k]? := by
  have hB := (encA_bytes hE).1
  obtain ⟨_, _, h64, hokp, _⟩ := encA_ok hE
  have hkdo : kdo l s L pts = if (l.add B).1 = 0 then (l.add B).2.sync s else if (l.add B).1 = 7 then l.reset s ((snapB (apL L pts)).map eB) else ((l.add B).1, l, s) := by
    unfold kdo
    rw [hE, if_neg (by simp)]
  by_cases h0 : (l.add B).1 = 0
  · rw [if_pos h0] at hkdo
    rw [hkdo]
    have har : (l.add B).2.ar = l.ar ∧ (l.add B).2.m = l.m := by unfold Lg.add; split <;> (try split) <;> exact ⟨rfl, rfl⟩
    exact kWrite_ok K hN B hB h0 (by rw [har.1, har.2]; exact hfit) _
  · have hl1 := add_bad h0
    have KA : Hid (Calls Tryz.prog 79 #[.pointer (some ⟨bl, 0, none⟩), .string (strOfNums B)] wr fun e w' => e = .returned (.int .i64 (l.add B).1) ∧ Kb w w' P bb bd bl mb N C s l T ∧ ∀ k, P k → w'.heap[k]? = wr.heap[k]?) := by
      have k := wl_add K.wl B hB
      rw [hl1] at k
      refine k.mono ?_
      rintro e w' ⟨rfl, h1, h2⟩
      exact ⟨rfl, K.step h1 h2, fun k hk => h2 k (.inl hk)⟩
    rw [if_neg h0] at hkdo
    obtain ⟨q0, q1⟩ := ko_cells K.box
    have HIN : Hid (InP wr a pts ∧ ∀ x, a = some x → pts ≠ [] → P x.block) := ⟨hin, ha⟩
    have HPL : Hid (∀ k, P k → k < wr.heap.size) := K.plt
    by_cases h7 : (l.add B).1 = 7
    · rw [if_pos h7] at hkdo
      rw [h7] at KA
      rw [hkdo]
      obtain ⟨hL2, hT2⟩ := apL_lst pts hL hT
      have hok2 := apL_good pts hok hokp
      obtain ⟨sn1, sn2, sn3⟩ := snap_all (apL L pts).length (apL L pts) (Nat.le_refl _) hok2
      have HSN : Hid (LstP (chT T pts) allK (apL L pts) ∧ AtKey (chT T pts) ∧ (∀ x ∈ apL L pts, badP x = false) ∧ (∀ b ∈ snapB (apL L pts), encA b = (0, eB b)) ∧ (snapB (apL L pts)).length ≤ 1000000) := ⟨hL2, hT2, hok2, sn2, by omega⟩
      have HPT : Hid (pts.length = n ∧ n ≤ 1000000 ∧ (∀ x ∈ pts, x.k.size ≤ 140737488355328) ∧ C + n ≤ 900000) := ⟨hn, by omega, fun x hx => by have := badP_no (hokp x hx); omega, by omega⟩
      generalize apL L pts = L2 at *
      obtain ⟨R, hR⟩ : ∃ R, l.reset s ((snapB L2).map eB) = R := ⟨_, rfl⟩
      have HR : Hid (l.reset s ((snapB L2).map eB) = R) := hR
      rw [hR]
      generalize strOfNums B = st at *
      clear hkdo h0 hl1 h7 hE hB hL2 hT2 hok2 sn1 sn2 sn3 hL hT hok hokp h64 K hin ha hn hR hC hLn hfit
      go_enter Tryz.func43, Tryz.ntmps43
      go_wp2_with fail
      refine KA.out.mono ?_
      rintro e w1 ⟨rfl, hk1, hp1⟩
      have K1 : Hid (Kb w w1 P bb bd bl mb N C s l T ∧ ∀ k, P k → w1.heap[k]? = wr.heap[k]?) := ⟨hk1, hp1⟩
      clear q0 q1 hk1 hp1 KA
      obtain ⟨q0, q1⟩ := ko_cells K1.out.1.box
      go_wp2_with fail
      refine (kClone_is w1 mb C T K1.out.1.mp).mono ?_
      rintro e w2 ⟨rfl, hm2, _, hb2⟩
      obtain ⟨m2, hm2e⟩ : ∃ m2, w1.heap.size = m2 := ⟨_, rfl⟩
      rw [hm2e] at hm2 ⊢
      have K2 : Hid (Kb w w2 (fun k => P k ∨ k = m2) bb bd bl mb N C s l T ∧ (∀ k, P k → w2.heap[k]? = wr.heap[k]?)) := by
        have hlt2 := hm2.lt
        exact ⟨(K1.out.1.keep hb2).less (fun k hk => match hk with | .inl h => .inl h | .inr e => .inr ⟨by omega, by omega⟩), fun k hk => (hb2.block k (K1.out.1.plt k hk)).trans (K1.out.2 k hk)⟩
      have M2 : Hid (Pm w2 m2 C T ∧ w.heap.size ≤ m2 ∧ (∀ k, P k → k ≠ m2)) := ⟨hm2, by rw [← hm2e]; exact K1.out.1.bel.size, fun k hk => by have := K1.out.1.plt k hk; omega⟩
      have KC : Hid (Calls Tryz.prog 39 #[.map (some m2), .slice a n c] w2 fun e w' => e = .returned (.tuple #[]) ∧ Pm w' m2 (C + n) (chT T pts) ∧ w2.grownBy w' (some m2)) := by
        have hi2 : InP w2 a pts := inp_by HIN.out.1 (fun x hx hne => HIN.out.2 x hx hne) K2.out.2 (fun k hk => K2.out.1.plt k (.inl hk))
        exact kSet_is pts n HPT.out.1 HPT.out.2.1 HPT.out.2.2.1 a c m2 C (by have := HPT.out; omega) T w2 hi2 M2.out.1 (fun x hx hne => M2.out.2.2 _ (HIN.out.2 x hx hne))
      clear hm2 hm2e hb2 q0 q1
      go_wp2_with fail
      refine KC.out.mono ?_
      rintro e w3 ⟨rfl, hm3, hg3⟩
      have K3 : Hid (Kb w w3 (fun k => P k ∨ k = m2) bb bd bl mb N C s l T ∧ (∀ k, P k → w3.heap[k]? = wr.heap[k]?)) := ⟨K2.out.1.grown0 hg3 (fun k e => by cases e; exact ⟨.inr rfl, M2.out.2.1⟩), fun k hk => (hg3.block k (K2.out.1.plt k (.inl hk)) (fun e => M2.out.2.2 k hk (Option.some.inj e))).trans (K2.out.2 k hk)⟩
      have M3 : Hid (Pm w3 m2 (C + n) (chT T pts)) := hm3
      clear hm3 hg3 KC K2 K1
      go_wp2_with fail
      refine wp_region_noPanic ?_
      refine wp_region_held_drew (S := (fun W : World => W.heap[bb]? = some (kO bl mb))) (by kernel_rfl) ?hSat (fun hHeld => ?restat)
      case hSat => exact K3.out.1.box
      case restat =>
      have K4 : Hid (Kb w (World.drew w3) (fun k => P k ∨ k = m2) bb bd bl mb N C s l T ∧ (∀ k, P k → (World.drew w3).heap[k]? = wr.heap[k]?)) := ⟨K3.out.1.grown0 (row := none) ⟨rfl, rfl, rfl, Nat.le_refl _, fun _ _ _ => rfl⟩ (fun k e => by cases e), K3.out.2⟩
      have M4 : Hid (Pm (World.drew w3) m2 (C + n) (chT T pts)) := M3.out.kept (row := none) ⟨rfl, rfl, rfl, Nat.le_refl _, fun _ _ _ => rfl⟩ (by simp)
      generalize World.drew w3 = u0 at hHeld K4 M4 ⊢
      clear K3 M3
      refine wpAnyH_take (i := 0) (v := .pointer (some ⟨bb, 0, none⟩)) rfl (by kernel_rfl) (by kernel_rfl) (by kernel_rfl) (fun _ _ _ h => h) (Or.inl ⟨by kernel_rfl, ?hy0A⟩) hHeld ?rest0A
      case hy0A => (intro u hSu; clear hSu; go_simp; try with_reducible rfl)
      try simp only [Act.put, List.setIfInBounds_toArray, List.set_cons_zero, List.set_cons_succ, List.getElem_toArray, List.getElem_cons_zero, List.getElem_cons_succ]
      refine wpAnyH_take (i := 1) (v := .pointer (some ⟨bb, 0, none⟩)) rfl (by kernel_rfl) (by kernel_rfl) (by kernel_rfl) (fun _ _ _ h => h) (Or.inl ⟨by kernel_rfl, ?hy1A⟩) hHeld ?rest1A
      case hy1A => (intro u hSu; clear hSu; go_simp; try with_reducible rfl)
      try simp only [Act.put, List.setIfInBounds_toArray, List.set_cons_zero, List.set_cons_succ, List.getElem_toArray, List.getElem_cons_zero, List.getElem_cons_succ]
      refine wpAnyH_take (i := 2) (v := .pointer (some ⟨bb, 0, none⟩)) rfl (by kernel_rfl) (by kernel_rfl) (by kernel_rfl) (fun _ _ _ h => h) (Or.inl ⟨by kernel_rfl, ?hy2A⟩) hHeld ?rest2A
      case hy2A => (intro u hSu; clear hSu; go_simp; try with_reducible rfl)
      try simp only [Act.put, List.setIfInBounds_toArray, List.set_cons_zero, List.set_cons_succ, List.getElem_toArray, List.getElem_cons_zero, List.getElem_cons_succ]
      refine wpAnyH_take (i := 3) (v := .pointer (some ⟨bl, 0, none⟩)) rfl (by kernel_rfl) (by kernel_rfl) (by kernel_rfl) (fun _ _ _ h => h) (Or.inl ⟨by kernel_rfl, ?hy3A⟩) hHeld ?rest3A
      case hy3A => (intro u hSu; obtain ⟨qf, qg⟩ := ko_cells hSu; clear hSu; go_simp; try with_reducible rfl)
      try simp only [Act.put, List.setIfInBounds_toArray, List.set_cons_zero, List.set_cons_succ, List.getElem_toArray, List.getElem_cons_zero, List.getElem_cons_succ]
      refine wpAnyH_take (i := 4) (v := .map (some m2)) rfl (by kernel_rfl) (by kernel_rfl) (by kernel_rfl) (fun _ _ _ h => h) (Or.inl ⟨by kernel_rfl, ?hy4A⟩) hHeld ?rest4A
      case hy4A => (intro u hSu; clear hSu; go_simp; try with_reducible rfl)
      try simp only [Act.put, List.setIfInBounds_toArray, List.set_cons_zero, List.set_cons_succ, List.getElem_toArray, List.getElem_cons_zero, List.getElem_cons_succ]
      have KSn : Hid (Calls Tryz.prog 49 #[.map (some m2)] u0 fun e w' => ∃ v, e = .returned v ∧ RowsS w' u0.heap.size v ((snapB L2).map eB) ∧ Kb w w' (fun k => (P k ∨ k = m2) ∨ (u0.heap.size ≤ k ∧ k < w'.heap.size)) bb bd bl mb N C s l T ∧ (∀ k, P k ∨ k = m2 → w'.heap[k]? = u0.heap[k]?) ∧ u0.heap.size ≤ w'.heap.size) := kSnapK K4.out.1 m2 (C + n) (chT T pts) L2 M4.out (by have := HPT.out; omega) HSN.out.2.1 HSN.out.1 HSN.out.2.2.1
      refine wpAnyH_ready (rs := [5]) (by kernel_rfl) (by simp) ?_
      refine AllReadyH.cons rfl (fun Kq hK => ?_) AllReadyH.nil
      go_simp
      refine KSn.out.mono ?_
      rintro e u1 ⟨v, rfl, hr1, hk1, hp1, hz1⟩
      have KRs : Hid (Calls Tryz.prog 48 #[.pointer (some ⟨bl, 0, none⟩), v] u1 fun e w' => e = .returned (.int .i64 R.1) ∧ Kb w w' P bb bd bl mb (N + 2100) C R.2.2 R.2.1 T ∧ ∀ k, P k → w'.heap[k]? = wr.heap[k]?) := by
        refine (kReset_is hk1 hN v u0.heap.size (snapB L2) hr1 HSN.out.2.2.2.1 HSN.out.2.2.2.2 (fun k h1 h2 => .inr ⟨h1, h2⟩)).mono ?_
        rw [HR.out]
        rintro e w' ⟨rfl, h1, h2⟩
        exact ⟨rfl, h1.less (fun k hk => .inl (.inl hk)), fun k hk => (h2 k (.inl (.inl hk))).trans ((hp1 k (.inl hk)).trans (K4.out.2 k hk))⟩
      obtain ⟨av, cv, hv, _⟩ := hr1.slice
      obtain ⟨n3, hn3⟩ : ∃ n3, ((snapB L2).map eB).length = n3 := ⟨_, rfl⟩
      rw [hn3] at hv
      subst hv
      clear hn3
      have HB1 : Hid (u1.heap[bb]? = some (kO bl mb)) := hk1.box
      clear hr1 hk1 hp1 hz1 KSn
      go_wp2_with fail
      refine hK.out _ _ ?hS5A (fun hHeld => ?rest5A)
      case hS5A => exact HB1.out
      clear hK Kq
      try simp only [Act.put, List.setIfInBounds_toArray, List.set_cons_zero, List.set_cons_succ, List.getElem_toArray, List.getElem_cons_zero, List.getElem_cons_succ]
      refine wpAnyH_ready (rs := [6]) (by kernel_rfl) (by simp) ?_
      refine AllReadyH.cons rfl (fun Kq hK => ?_) AllReadyH.nil
      go_simp
      refine KRs.out.mono ?_
      rintro e u2 ⟨rfl, hk2, hp2⟩
      have K5 : Hid (Kb w u2 P bb bd bl mb (N + 2100) C R.2.2 R.2.1 T ∧ ∀ k, P k → u2.heap[k]? = wr.heap[k]?) := ⟨hk2, hp2⟩
      clear hk2 hp2
      go_wp2_with fail
      refine hK.out _ _ ?hS6A (fun hHeld => ?rest6A)
      case hS6A => exact K5.out.1.box
      clear hK Kq
      try simp only [Act.put, List.setIfInBounds_toArray, List.set_cons_zero, List.set_cons_succ, List.getElem_toArray, List.getElem_cons_zero, List.getElem_cons_succ]
      refine wpAnyH_take (i := 7) (v := .int .i64 R.1) rfl (by kernel_rfl) (by kernel_rfl) (by kernel_rfl) (fun _ _ _ h => h) (Or.inl ⟨by kernel_rfl, ?hy7A⟩) hHeld ?rest7A
      case hy7A => (intro u hSu; clear hSu; go_simp; try with_reducible rfl)
      try simp only [Act.put, List.setIfInBounds_toArray, List.set_cons_zero, List.set_cons_succ, List.getElem_toArray, List.getElem_cons_zero, List.getElem_cons_succ]
      refine wpAnyH_done (by kernel_rfl) ?_ _
      refine NoPanic.normal ?_
      go_wp2_with fail
      go_ret
      exact ⟨rfl, K5.out⟩
    · rw [if_neg h7] at hkdo
      rw [hkdo]
      have e0 : ((l.add B).1 == 0) = false := by simp [h0]
      have e7 : ((l.add B).1 == 7) = false := by simp [h7]
      generalize (l.add B).1 = q at *
      generalize strOfNums B = st at *
      clear hkdo hl1 hE hB hL hT hok hokp h64 K hin ha hn hC hLn hfit
      go_enter Tryz.func43, Tryz.ntmps43
      go_wp2_with fail
      refine KA.out.mono ?_
      rintro e w1 ⟨rfl, hk1, hp1⟩
      have K1 : Hid (Kb w w1 P bb bd bl mb (N + 2100) C s l T ∧ ∀ k, P k → w1.heap[k]? = wr.heap[k]?) := ⟨hk1.more (by omega) (Nat.le_refl _), hp1⟩
      clear q0 q1 hk1 hp1 KA
      go_wp2_with fail
      go_ret
      exact ⟨rfl, K1.out⟩
end Go.Proofs.YtcindeechmpalaaGreat
namespace Go.Proofs.YtcindeechmpalaaGreat
open Go.ChangeShapes Go.WideShapes Go.ChangeAt Go.RowKit Go.Deep Go.Maps
set_option linter.unusedVariables false
set_option linter.unusedSimpArgs false
set_option maxRecDepth 100000 in
set_option maxHeartbeats 4000000 in
theorem kDo_is {w wr : World} {P : Nat → Prop} {bb bd bl mb N C : Nat} {s : Ds} {l : Lg} {T : ByteArray → Option Pt} (K : Kb w wr P bb bd bl mb N C s l T) (hN : N + 3000 < 999900) (L pts : List Pt) (hf : FitP pts) (hpl : pts.length ≤ 1000000) (hC : C + pts.length ≤ 900000) (hLn : (apL L pts).length ≤ 1000000) (hL : LstP T allK L) (hT : AtKey T) (hok : ∀ x ∈ L, badP x = false) (hfit : 2 + l.ar * l.m + l.m ≤ s.D.length) (a : Option Addr) (n c : Nat) (hn : pts.length = n) (hin : InP wr a pts) (ha : ∀ x, a = some x → pts ≠ [] → P x.block) :
    Calls Tryz.prog 15 #[.pointer (some ⟨bb, 0, none⟩), .slice a n c] wr fun e w' => e = .returned (.int .i64 (kdo l s L pts).1) ∧ Kb w w' P bb bd bl mb (N + 2100) (C + n) (kdo l s L pts).2.2 (kdo l s L pts).2.1 (if (kdo l s L pts).1 = 0 then chT T pts else T) ∧ ∀ k, P k → w'.heap[k]? = wr.heap[k]? := by
  have KN : Hid (Calls Tryz.prog 42 #[.pointer (some ⟨bb, 0, none⟩)] wr fun e w' => e = .returned (.bool false) ∧ w' = wr) := kNone_is wr bb bl mb K.box
  have KE : Hid (Calls Tryz.prog 24 #[.slice a n c] wr fun e w' => e = .returned (.tuple #[.string (strOfNums (encA pts).2), .int .i64 (encA pts).1]) ∧ Below wr.heap.size wr w') := kEncode_is pts n hn (by omega) hf a c wr hin
  have HK : Hid (Kb w wr P bb bd bl mb N C s l T) := K
  have HI : Hid (InP wr a pts ∧ ∀ x, a = some x → pts ≠ [] → P x.block) := ⟨hin, ha⟩
  by_cases h0 : (encA pts).1 = 0
  · obtain ⟨B, hE⟩ : ∃ B, encA pts = (0, B) := ⟨(encA pts).2, by rw [← h0]⟩
    obtain ⟨_, _, h64, hokp, _⟩ := encA_ok hE
    rw [hE] at KE
    have KW : Hid (∀ W, Kb w W P bb bd bl mb N C s l T → InP W a pts → Calls Tryz.prog 43 #[.pointer (some ⟨bb, 0, none⟩), .string (strOfNums B), .slice a n c] W fun e w' => e = .returned (.int .i64 (kdo l s L pts).1) ∧ Kb w w' P bb bd bl mb (N + 2100) C (kdo l s L pts).2.2 (kdo l s L pts).2.1 T ∧ ∀ k, P k → w'.heap[k]? = W.heap[k]?) := fun W hW hi => kWrite_is hW hN L pts hC hLn hL hT hok B hE hfit a n c hn hi ha
    obtain ⟨R, hR⟩ : ∃ R, kdo l s L pts = R := ⟨_, rfl⟩
    rw [hR] at KW ⊢
    have KC : Hid (∀ W, Kb w W P bb bd bl mb (N + 2100) C R.2.2 R.2.1 T → InP W a pts → Calls Tryz.prog 39 #[.map (some mb), .slice a n c] W fun e w' => e = .returned (.tuple #[]) ∧ Kb w w' P bb bd bl mb (N + 2100) (C + n) R.2.2 R.2.1 (chT T pts) ∧ ∀ k, P k → w'.heap[k]? = W.heap[k]?) := fun W hW hi => by
      refine (kSet_is pts n hn (by omega) (fun x hx => by have := badP_no (hokp x hx); omega) a c mb C (by omega) T W hi hW.mp (fun x hx hne => (hW.ne.2 _ (ha x hx hne)).2)).mono ?_
      rintro e w' ⟨rfl, h1, h2⟩
      exact ⟨rfl, ⟨hW.wl.grown0 h2 (fun k e => ⟨.inr (.inr (Option.some.inj e).symm), by rw [← Option.some.inj e]; exact hW.ge.2⟩), (h2.block bb (lt_of_heapK hW.box) (fun e => hW.ne.1 (Option.some.inj e))).trans hW.box, h1, hW.ge, hW.ne⟩, fun k hk => h2.block k (hW.plt k hk) (fun e => (hW.ne.2 k hk).2 (Option.some.inj e))⟩
    generalize strOfNums B = st at *
    clear K hE hin ha h64 hokp hn h0 hfit hL hT hok hLn hC hf hpl hR
    obtain ⟨R1, R2, R3⟩ := R
    simp only at KW KC ⊢
    obtain ⟨T9, hT9⟩ : ∃ T9, (if R1 = 0 then chT T pts else T) = T9 := ⟨_, rfl⟩
    have HT9 : Hid ((R1 = 0 → T9 = chT T pts) ∧ (R1 ≠ 0 → T9 = T)) := ⟨fun e => by rw [← hT9, if_pos e], fun e => by rw [← hT9, if_neg e]⟩
    rw [hT9]
    clear hT9
    go_enter Tryz.func15, Tryz.ntmps15
    go_wp2_with fail
    refine KN.out.mono ?_
    rintro e w1 ⟨rfl, rfl⟩
    go_wp2_with fail
    refine KE.out.mono ?_
    rintro e w2 ⟨rfl, hb2⟩
    have K2 : Hid (Kb w w2 P bb bd bl mb N C s l T ∧ (∀ k, P k → w2.heap[k]? = w1.heap[k]?) ∧ InP w2 a pts) := ⟨(HK.out.keep hb2).less (fun _ h => .inl h), fun k hk => hb2.block k (HK.out.plt k hk), HI.out.1.keep hb2⟩
    clear hb2 KE KN
    go_wp2_with fail
    refine (KW.out w2 K2.out.1 K2.out.2.2).mono ?_
    rintro e w3 ⟨rfl, hk3, hp3⟩
    have K3 : Hid (Kb w w3 P bb bd bl mb (N + 2100) C R3 R2 T ∧ (∀ k, P k → w3.heap[k]? = w1.heap[k]?)) := ⟨hk3, fun k hk => (hp3 k hk).trans (K2.out.2.1 k hk)⟩
    have I3 : Hid (InP w3 a pts) := inp_by HI.out.1 HI.out.2 K3.out.2 (fun k hk => hk3.plt k hk)
    obtain ⟨q0, q1⟩ := ko_cells hk3.box
    clear hk3 hp3 KW K2
    by_cases hr : R1 = 0
    · subst hr
      go_wp2_with fail
      refine (KC.out w3 K3.out.1 I3.out).mono ?_
      rintro e w4 ⟨rfl, hk4, hp4⟩
      have K4 : Hid (Kb w w4 P bb bd bl mb (N + 2100) (C + n) R3 R2 T9 ∧ ∀ k, P k → w4.heap[k]? = w1.heap[k]?) := ⟨(HT9.out.1 trivial).symm ▸ hk4, fun k hk => (hp4 k hk).trans (K3.out.2 k hk)⟩
      clear hk4 hp4 q0 q1 KC
      go_wp2_with fail
      go_ret
      exact ⟨rfl, K4.out⟩
    · have e1 : (R1 != 0) = true := by simp [bne, hr]
      have K4 : Hid (Kb w w3 P bb bd bl mb (N + 2100) (C + n) R3 R2 T9 ∧ ∀ k, P k → w3.heap[k]? = w1.heap[k]?) := ⟨by rw [HT9.out.2 hr]; exact K3.out.1.more (Nat.le_refl _) (by omega), K3.out.2⟩
      clear q0 q1 KC hr
      go_wp2_with fail
      go_ret
      exact ⟨rfl, K4.out⟩
  · have hk : kdo l s L pts = ((encA pts).1, l, s) := by unfold kdo; rw [if_pos h0]
    rw [hk]
    generalize encA pts = R at *
    obtain ⟨R1, R2⟩ := R
    simp only at KE h0 ⊢
    have HF : Hid (∀ w', Below wr.heap.size wr w' → Kb w w' P bb bd bl mb (N + 2100) (C + n) s l (if R1 = 0 then chT T pts else T) ∧ ∀ k, P k → w'.heap[k]? = wr.heap[k]?) := fun w' hb => ⟨by rw [if_neg h0]; exact ((HK.out.keep hb).less (fun _ h => .inl h)).more (by omega) (by omega), fun k hk => hb.block k (HK.out.plt k hk)⟩
    generalize (if R1 = 0 then chT T pts else T) = T9 at *
    have e1 : (R1 != 0) = true := by simp [bne, h0]
    generalize strOfNums R2 = st at *
    clear K hin ha hn hfit hL hT hok hLn hC hf hpl hk h0
    go_enter Tryz.func15, Tryz.ntmps15
    go_wp2_with fail
    refine KN.out.mono ?_
    rintro e w1 ⟨rfl, rfl⟩
    go_wp2_with fail
    refine KE.out.mono ?_
    rintro e w2 ⟨rfl, hb2⟩
    have F2 := HF.out w2 hb2
    have HF2 : Hid (Kb w w2 P bb bd bl mb (N + 2100) (C + n) s l T9 ∧ ∀ k, P k → w2.heap[k]? = w1.heap[k]?) := F2
    clear hb2 F2 HF KE KN
    go_wp2_with fail
    go_ret
    exact ⟨rfl, HF2.out⟩
end Go.Proofs.YtcindeechmpalaaGreat
namespace Go.Proofs.YtcindeechmpalaaGreat
open Go.ChangeShapes Go.WideShapes Go.ChangeAt Go.RowKit Go.Deep Go.Maps
set_option linter.unusedVariables false
set_option linter.unusedSimpArgs false
set_option maxRecDepth 100000 in
set_option maxHeartbeats 4000000 in
theorem kCompact_is {w wr : World} {P : Nat → Prop} {bb bd bl mb N C : Nat} {s : Ds} {l : Lg} {T : ByteArray → Option Pt} (K : Kb w wr P bb bd bl mb N C s l T) (hN : N + 3000 < 999900) (L : List Pt) (hC : C ≤ 900000) (hLn : L.length ≤ 1000000) (hL : LstP T allK L) (hT : AtKey T) (hok : ∀ x ∈ L, badP x = false) :
    Calls Tryz.prog 17 #[.pointer (some ⟨bb, 0, none⟩)] wr fun e w' => e = .returned (.int .i64 (kcm l s L).1) ∧ Kb w w' P bb bd bl mb (N + 2100) C (kcm l s L).2.2 (kcm l s L).2.1 T ∧ ∀ k, P k → w'.heap[k]? = wr.heap[k]? := by
  have KN : Hid (Calls Tryz.prog 42 #[.pointer (some ⟨bb, 0, none⟩)] wr fun e w' => e = .returned (.bool false) ∧ w' = wr) := kNone_is wr bb bl mb K.box
  obtain ⟨sn1, sn2, sn3⟩ := snap_all L.length L (Nat.le_refl _) hok
  have HSN : Hid (LstP T allK L ∧ AtKey T ∧ (∀ x ∈ L, badP x = false) ∧ (∀ b ∈ snapB L, encA b = (0, eB b)) ∧ (snapB L).length ≤ 1000000) := ⟨hL, hT, hok, sn2, by omega⟩
  obtain ⟨R, hR⟩ : ∃ R, kcm l s L = R := ⟨_, rfl⟩
  have HR : Hid (l.reset s ((snapB L).map eB) = R) := hR
  rw [hR]
  have K3 : Hid (Kb w wr P bb bd bl mb N C s l T) := K
  clear hR K hL hT hok sn1 sn2 sn3 hLn
  go_enter Tryz.func17, Tryz.ntmps17
  go_wp2_with fail
  refine KN.out.mono ?_
  rintro e w1 ⟨rfl, hw⟩
  obtain rfl := hw.symm
  clear hw
  go_wp2_with fail
  refine wp_region_noPanic ?_
  refine wp_region_held_drew (S := (fun W : World => W.heap[bb]? = some (kO bl mb))) (by kernel_rfl) ?hSat (fun hHeld => ?restat)
  case hSat => exact K3.out.box
  case restat =>
  have K4 : Hid (Kb w (World.drew wr) P bb bd bl mb N C s l T ∧ (∀ k, P k → (World.drew wr).heap[k]? = wr.heap[k]?)) := ⟨K3.out.grown0 (row := none) ⟨rfl, rfl, rfl, Nat.le_refl _, fun _ _ _ => rfl⟩ (fun k e => by cases e), fun _ _ => rfl⟩
  generalize World.drew wr = u0 at hHeld K4 ⊢
  clear K3
  refine wpAnyH_take (i := 0) (v := .pointer (some ⟨bb, 0, none⟩)) rfl (by kernel_rfl) (by kernel_rfl) (by kernel_rfl) (fun _ _ _ h => h) (Or.inl ⟨by kernel_rfl, ?hy0C⟩) hHeld ?rest0C
  case hy0C => (intro u hSu; clear hSu; go_simp; try with_reducible rfl)
  try simp only [Act.put, List.setIfInBounds_toArray, List.set_cons_zero, List.set_cons_succ, List.getElem_toArray, List.getElem_cons_zero, List.getElem_cons_succ]
  refine wpAnyH_take (i := 1) (v := .pointer (some ⟨bb, 0, none⟩)) rfl (by kernel_rfl) (by kernel_rfl) (by kernel_rfl) (fun _ _ _ h => h) (Or.inl ⟨by kernel_rfl, ?hy1C⟩) hHeld ?rest1C
  case hy1C => (intro u hSu; clear hSu; go_simp; try with_reducible rfl)
  try simp only [Act.put, List.setIfInBounds_toArray, List.set_cons_zero, List.set_cons_succ, List.getElem_toArray, List.getElem_cons_zero, List.getElem_cons_succ]
  refine wpAnyH_take (i := 2) (v := .pointer (some ⟨bb, 0, none⟩)) rfl (by kernel_rfl) (by kernel_rfl) (by kernel_rfl) (fun _ _ _ h => h) (Or.inl ⟨by kernel_rfl, ?hy2C⟩) hHeld ?rest2C
  case hy2C => (intro u hSu; clear hSu; go_simp; try with_reducible rfl)
  try simp only [Act.put, List.setIfInBounds_toArray, List.set_cons_zero, List.set_cons_succ, List.getElem_toArray, List.getElem_cons_zero, List.getElem_cons_succ]
  refine wpAnyH_take (i := 3) (v := .pointer (some ⟨bl, 0, none⟩)) rfl (by kernel_rfl) (by kernel_rfl) (by kernel_rfl) (fun _ _ _ h => h) (Or.inl ⟨by kernel_rfl, ?hy3C⟩) hHeld ?rest3C
  case hy3C => (intro u hSu; obtain ⟨qf, qg⟩ := ko_cells hSu; clear hSu; go_simp; try with_reducible rfl)
  try simp only [Act.put, List.setIfInBounds_toArray, List.set_cons_zero, List.set_cons_succ, List.getElem_toArray, List.getElem_cons_zero, List.getElem_cons_succ]
  refine wpAnyH_take (i := 4) (v := .pointer (some ⟨bb, 0, none⟩)) rfl (by kernel_rfl) (by kernel_rfl) (by kernel_rfl) (fun _ _ _ h => h) (Or.inl ⟨by kernel_rfl, ?hy4C⟩) hHeld ?rest4C
  case hy4C => (intro u hSu; clear hSu; go_simp; try with_reducible rfl)
  try simp only [Act.put, List.setIfInBounds_toArray, List.set_cons_zero, List.set_cons_succ, List.getElem_toArray, List.getElem_cons_zero, List.getElem_cons_succ]
  refine wpAnyH_take (i := 5) (v := .pointer (some ⟨bb, 0, none⟩)) rfl (by kernel_rfl) (by kernel_rfl) (by kernel_rfl) (fun _ _ _ h => h) (Or.inl ⟨by kernel_rfl, ?hy5C⟩) hHeld ?rest5C
  case hy5C => (intro u hSu; clear hSu; go_simp; try with_reducible rfl)
  try simp only [Act.put, List.setIfInBounds_toArray, List.set_cons_zero, List.set_cons_succ, List.getElem_toArray, List.getElem_cons_zero, List.getElem_cons_succ]
  refine wpAnyH_take (i := 6) (v := .pointer (some ⟨bb, 1, none⟩)) rfl (by kernel_rfl) (by kernel_rfl) (by kernel_rfl) (fun _ _ _ h => h) (Or.inl ⟨by kernel_rfl, ?hy6C⟩) hHeld ?rest6C
  case hy6C => (intro u hSu; clear hSu; go_simp; try with_reducible rfl)
  try simp only [Act.put, List.setIfInBounds_toArray, List.set_cons_zero, List.set_cons_succ, List.getElem_toArray, List.getElem_cons_zero, List.getElem_cons_succ]
  refine wpAnyH_take (i := 7) (v := .map (some mb)) rfl (by kernel_rfl) (by kernel_rfl) (by kernel_rfl) (fun _ _ _ h => h) (Or.inl ⟨by kernel_rfl, ?hy7C⟩) hHeld ?rest7C
  case hy7C => (intro u hSu; obtain ⟨qf, qg⟩ := ko_cells hSu; clear hSu; go_simp; try with_reducible rfl)
  try simp only [Act.put, List.setIfInBounds_toArray, List.set_cons_zero, List.set_cons_succ, List.getElem_toArray, List.getElem_cons_zero, List.getElem_cons_succ]
  have KSn : Hid (Calls Tryz.prog 49 #[.map (some mb)] u0 fun e w' => ∃ v, e = .returned v ∧ RowsS w' u0.heap.size v ((snapB L).map eB) ∧ Kb w w' (fun k => P k ∨ (u0.heap.size ≤ k ∧ k < w'.heap.size)) bb bd bl mb N C s l T ∧ (∀ k, P k → w'.heap[k]? = u0.heap[k]?) ∧ u0.heap.size ≤ w'.heap.size) := kSnapK K4.out.1 mb C T L K4.out.1.mp (by omega) HSN.out.2.1 HSN.out.1 HSN.out.2.2.1
  refine wpAnyH_ready (rs := [8]) (by kernel_rfl) (by simp) ?_
  refine AllReadyH.cons rfl (fun Kq hK => ?_) AllReadyH.nil
  go_simp
  refine KSn.out.mono ?_
  rintro e u1 ⟨v, rfl, hr1, hk1, hp1, hz1⟩
  have KRs : Hid (Calls Tryz.prog 48 #[.pointer (some ⟨bl, 0, none⟩), v] u1 fun e w' => e = .returned (.int .i64 R.1) ∧ Kb w w' P bb bd bl mb (N + 2100) C R.2.2 R.2.1 T ∧ ∀ k, P k → w'.heap[k]? = wr.heap[k]?) := by
    refine (kReset_is hk1 hN v u0.heap.size (snapB L) hr1 HSN.out.2.2.2.1 HSN.out.2.2.2.2 (fun k h1 h2 => .inr ⟨h1, h2⟩)).mono ?_
    rw [HR.out]
    rintro e w' ⟨rfl, h1, h2⟩
    exact ⟨rfl, h1.less (fun k hk => .inl hk), fun k hk => (h2 k (.inl hk)).trans ((hp1 k hk).trans (K4.out.2 k hk))⟩
  obtain ⟨av, cv, hv, _⟩ := hr1.slice
  obtain ⟨n3, hn3⟩ : ∃ n3, ((snapB L).map eB).length = n3 := ⟨_, rfl⟩
  rw [hn3] at hv
  subst hv
  clear hn3
  have HB1 : Hid (u1.heap[bb]? = some (kO bl mb)) := hk1.box
  clear hr1 hk1 hp1 hz1 KSn
  go_wp2_with fail
  refine hK.out _ _ ?hS8C (fun hHeld => ?rest8C)
  case hS8C => exact HB1.out
  clear hK Kq
  try simp only [Act.put, List.setIfInBounds_toArray, List.set_cons_zero, List.set_cons_succ, List.getElem_toArray, List.getElem_cons_zero, List.getElem_cons_succ]
  refine wpAnyH_ready (rs := [9]) (by kernel_rfl) (by simp) ?_
  refine AllReadyH.cons rfl (fun Kq hK => ?_) AllReadyH.nil
  go_simp
  refine KRs.out.mono ?_
  rintro e u2 ⟨rfl, hk2, hp2⟩
  have K5 : Hid (Kb w u2 P bb bd bl mb (N + 2100) C R.2.2 R.2.1 T ∧ ∀ k, P k → u2.heap[k]? = wr.heap[k]?) := ⟨hk2, hp2⟩
  clear hk2 hp2
  go_wp2_with fail
  refine hK.out _ _ ?hS9C (fun hHeld => ?rest9C)
  case hS9C => exact K5.out.1.box
  clear hK Kq
  try simp only [Act.put, List.setIfInBounds_toArray, List.set_cons_zero, List.set_cons_succ, List.getElem_toArray, List.getElem_cons_zero, List.getElem_cons_succ]
  refine wpAnyH_take (i := 10) (v := .int .i64 R.1) rfl (by kernel_rfl) (by kernel_rfl) (by kernel_rfl) (fun _ _ _ h => h) (Or.inl ⟨by kernel_rfl, ?hy10C⟩) hHeld ?rest10C
  case hy10C => (intro u hSu; clear hSu; go_simp; try with_reducible rfl)
  try simp only [Act.put, List.setIfInBounds_toArray, List.set_cons_zero, List.set_cons_succ, List.getElem_toArray, List.getElem_cons_zero, List.getElem_cons_succ]
  refine wpAnyH_done (by kernel_rfl) ?_ _
  refine NoPanic.normal ?_
  go_wp2_with fail
  go_ret
  exact ⟨rfl, K5.out⟩
end Go.Proofs.YtcindeechmpalaaGreat
namespace Go.Proofs.YtcindeechmpalaaGreat
set_option linter.unusedVariables false
/-- what a log's records leave: a map, and its keys, rising -/
def Rec (R : List (List Int)) (T : ByteArray → Option Pt) (L : List Pt) : Prop := ∃ bs, Bts R bs ∧ chTs bs = T ∧ L = apL [] bs.flatten
theorem Rec.lst {R : List (List Int)} {T : ByteArray → Option Pt} {L : List Pt} (h : Rec R T L) : LstP T allK L ∧ AtKey T := by
  obtain ⟨bs, h1, rfl, rfl⟩ := h
  rw [chTs_flat]
  exact apL_lst bs.flatten noT_lst noT_at
theorem Rec.ok {R : List (List Int)} {T : ByteArray → Option Pt} {L : List Pt} (h : Rec R T L) : ∀ x ∈ L, badP x = false := by
  obtain ⟨bs, h1, rfl, rfl⟩ := h
  refine apL_good _ (fun x hx => by cases hx) (fun x hx => ?_)
  obtain ⟨b, hb, hx⟩ := List.mem_flatten.1 hx
  exact (encA_ok (h1.2 b hb)).2.2.2.1 x hx
theorem Rec.nil : Rec [] noT [] := ⟨[], ⟨rfl, fun b hb => (by cases hb)⟩, rfl, rfl⟩
theorem apL_app (L a b : List Pt) : apL L (a ++ b) = apL (apL L a) b := by unfold apL; rw [List.foldl_append]
theorem Rec.snoc {R : List (List Int)} {T : ByteArray → Option Pt} {L pts : List Pt} {B : List Int} (h : Rec R T L) (hE : encA pts = (0, B)) : Rec (R ++ [B]) (chT T pts) (apL L pts) := by
  obtain ⟨bs, ⟨h1, h2⟩, rfl, rfl⟩ := h
  have hB := (encA_ok hE).1
  refine ⟨bs ++ [pts], ⟨?_, fun b hb => ?_⟩, chTs_snoc _ _, ?_⟩
  · rw [List.map_append, h1, hB]
    rfl
  · rcases List.mem_append.1 hb with e | e
    · exact h2 b e
    · have : b = pts := by simpa using e
      rw [this, hE, hB]
  · rw [List.flatten_append, apL_app]
    simp
theorem apL_self {T : ByteArray → Option Pt} {L : List Pt} (h : LstP T allK L) (hT : AtKey T) : apL [] L = L := by
  refine lst_uniq (T := T) (f := allK) ?_ h
  have := (apL_lst L noT_lst noT_at).1
  rw [lst_T h hT] at this
  exact this
theorem Rec.snap {T : ByteArray → Option Pt} {L : List Pt} (h : LstP T allK L) (hT : AtKey T) (hok : ∀ x ∈ L, badP x = false) : Rec ((snapB L).map eB) T L := by
  obtain ⟨h1, h2⟩ := snap_bts hok
  obtain ⟨s1, _, _⟩ := snap_all L.length L (Nat.le_refl _) hok
  exact ⟨snapB L, h1, by rw [h2, lst_T h hT], by rw [s1, apL_self h hT]⟩
theorem snap_bytes {L : List Pt} (hok : ∀ x ∈ L, badP x = false) : ∀ B ∈ (snapB L).map eB, IsBytes B := fun B hB => by
  obtain ⟨b, hb, rfl⟩ := List.mem_map.1 hB
  exact (encA_bytes ((snap_all L.length L (Nat.le_refl _) hok).2.1 b hb)).1
/-- the code, the log and the disk behind a call: it was done, or cut off, or refused -/
def KvRun (n : Nat) (s : Ds) (l : Lg) (T' : ByteArray → Option Pt) (L' : List Pt) (X : Int × Lg × Ds) : Prop :=
  (X.1 = 0 ∧ Gu X.2.2 X.2.1 ∧ X.2.1.W = [] ∧ Rec X.2.1.R T' L' ∧ X.2.2.D.length = s.D.length ∧ X.2.1.no ≤ l.no + 1 ∧ X.2.1.m = l.m ∧ X.2.1.R.length ≤ max (l.R.length + 1) L'.length) ∨
  (X.1 = 15 ∧ X.2.1.lost = true ∧ X.2.2.up = false ∧ X.2.2.D.length = s.D.length ∧ X.2.1.no = l.no ∧ X.2.1.m = l.m ∧ X.2.1.ar = l.ar ∧ ∃ R', Rec R' T' L' ∧ R'.length ≤ max (l.R.length + 1) L'.length ∧ ∀ keep, Aft n (X.2.2.cr keep) l.R R') ∨
  ((X.1 = 2 ∨ X.1 = 3 ∨ X.1 = 7) ∧ X.2.1 = l ∧ X.2.2 = s)
theorem kreset_any {n : Nat} {s : Ds} {l : Lg} {T : ByteArray → Option Pt} {L : List Pt} (h : Gu s l) (hno : l.no < 1152921504606846976) (hW : l.W = []) (hL : LstP T allK L) (hT : AtKey T) (hok : ∀ x ∈ L, badP x = false) : KvRun n s l T L (l.reset s ((snapB L).map eB)) := by
  have hb := snap_bytes hok
  have hsl : ((snapB L).map eB).length ≤ max (l.R.length + 1) L.length := by rw [List.length_map]; exact Nat.le_trans (snap_all L.length L (Nat.le_refl _) hok).2.2 (Nat.le_max_right _ _)
  obtain ⟨c, l', s', e, hor⟩ := reset_any (n := n) h hno ((snapB L).map eB) hb
  rw [e]
  rcases hor with ⟨rfl, h1, h2, h3, h4, h5, h6⟩ | ⟨rfl, rfl, h2, h3, h4⟩ | ⟨hc, rfl, rfl⟩
  · exact .inl ⟨rfl, h3, h2, by rw [h1]; exact Rec.snap hL hT hok, h4, h5, h6, by show l'.R.length ≤ _; rw [h1]; exact hsl⟩
  · exact .inr (.inl ⟨rfl, rfl, h2, h3, rfl, rfl, rfl, _, Rec.snap hL hT hok, hsl, h4⟩)
  · refine .inr (.inr ⟨?_, rfl, rfl⟩)
    rcases hc with rfl | rfl | rfl
    · exact .inr (.inl rfl)
    · exact .inr (.inr rfl)
    · exfalso
      by_cases hf : (frO ((snapB L).map eB) (64 * l'.m)).2 = 0
      · obtain ⟨c1, l1, s1, e1, ho1⟩ := reset_cut h hno hW _ hb hf
        rw [e] at e1
        have := (Prod.mk.inj e1).1
        rcases ho1 with ⟨h1, _⟩ | ⟨h1, _⟩ <;> omega
      · have e1 : l'.reset s' ((snapB L).map eB) = ((frO ((snapB L).map eB) (64 * l'.m)).2, l', s') := by
          unfold Lg.reset
          rw [if_neg (by rw [h.gd.lost]; simp), if_neg (by simpa using hW), if_pos hf]
        rw [e] at e1
        have := (Prod.mk.inj e1).1
        rcases frO_code ((snapB L).map eB) (64 * l'.m) with h1 | h1 | h1 <;> omega
theorem kcm_any {n : Nat} {s : Ds} {l : Lg} {T : ByteArray → Option Pt} {L : List Pt} (h : Gu s l) (hno : l.no < 1152921504606846976) (hW : l.W = []) (hr : Rec l.R T L) : KvRun n s l T L (kcm l s L) := kreset_any h hno hW hr.lst.1 hr.lst.2 hr.ok
theorem add_good {l : Lg} {B : List Int} (h : (l.add B).1 = 0) : (l.add B).2 = { l with W := l.W ++ [B] } := by
  unfold Lg.add at h ⊢
  by_cases h1 : l.lost = true
  · rw [if_pos h1] at h; exact absurd h (by show ¬ (15 : Int) = 0; omega)
  · rw [if_neg h1] at h ⊢
    by_cases h2 : (frO [B] l.room).2 ≠ 0
    · rw [if_pos h2] at h; exact absurd h h2
    · rw [if_neg h2]
theorem kdo_any {n : Nat} {s : Ds} {l : Lg} {T : ByteArray → Option Pt} {L : List Pt} (pts : List Pt) (h : Gu s l) (hno : l.no < 1152921504606846976) (hW : l.W = []) (hr : Rec l.R T L) : KvRun n s l (chT T pts) (apL L pts) (kdo l s L pts) := by
  by_cases h0 : (encA pts).1 = 0
  · obtain ⟨B, hE⟩ : ∃ B, encA pts = (0, B) := ⟨(encA pts).2, by rw [← h0]⟩
    obtain ⟨_, _, h64, hokp, _⟩ := encA_ok hE
    have hB := (encA_bytes hE).1
    have hk : kdo l s L pts = if (l.add B).1 = 0 then (l.add B).2.sync s else if (l.add B).1 = 7 then l.reset s ((snapB (apL L pts)).map eB) else ((l.add B).1, l, s) := by
      unfold kdo
      rw [hE, if_neg (by simp)]
    rw [hk]
    by_cases ha : (l.add B).1 = 0
    · rw [if_pos ha]
      have hl1 := add_good ha
      have g1 := add_gu h B hB
      rw [hl1] at g1 ⊢
      obtain ⟨c, l', s', e, hor⟩ := sync_any (n := n) g1 hno
      rw [e]
      have hR : l.R ++ (l.W ++ [B]) = l.R ++ [B] := by rw [hW]; rfl
      rcases hor with ⟨rfl, h1, h2, h3, h4, h5, h6⟩ | ⟨rfl, rfl, h2, h3, h4⟩
      · have h1' : l'.R = l.R ++ (l.W ++ [B]) := h1
        refine .inl ⟨rfl, h3, h2, ?_, h4, h5, h6, ?_⟩
        · show Rec l'.R _ _
          rw [h1', hR]
          exact hr.snoc hE
        · show l'.R.length ≤ _
          rw [h1', hR, List.length_append]
          exact Nat.le_max_left _ _
      · refine .inr (.inl ⟨rfl, rfl, h2, h3, rfl, rfl, rfl, l.R ++ [B], hr.snoc hE, by rw [List.length_append]; exact Nat.le_max_left _ _, fun keep => ?_⟩)
        have := h4 keep
        have h4' : Aft n (s'.cr keep) l.R (l.R ++ (l.W ++ [B])) := this
        rw [hR] at h4'
        exact h4'
    · rw [if_neg ha]
      obtain ⟨hL2, hT2⟩ := apL_lst pts hr.lst.1 hr.lst.2
      by_cases h7 : (l.add B).1 = 7
      · rw [if_pos h7]
        exact kreset_any h hno hW hL2 hT2 (apL_good pts hr.ok hokp)
      · rw [if_neg h7]
        refine .inr (.inr ⟨.inr (.inl ?_), rfl, rfl⟩)
        show (l.add B).1 = 3
        unfold Lg.add at ha h7 ⊢
        rw [if_neg (by rw [h.gd.lost]; simp)] at ha h7 ⊢
        by_cases h2 : (frO [B] l.room).2 ≠ 0
        · rw [if_pos h2] at ha h7 ⊢
          rcases frO_code [B] l.room with h1 | h1 | h1
          · exact absurd h1 ha
          · exact h1
          · exact absurd h1 h7
        · rw [if_neg h2] at ha
          exact absurd rfl ha
  · have hk : kdo l s L pts = ((encA pts).1, l, s) := by unfold kdo; rw [if_pos h0]
    rw [hk]
    refine .inr (.inr ⟨?_, rfl, rfl⟩)
    rcases encA_code pts with h1 | h1 | h1
    · exact absurd h1 h0
    · exact .inl h1
    · exact .inr (.inl h1)
/-- a disk whose power was not lost, and on which no fuse burns -/
theorem gu_free {s : Ds} {l : Lg} (h : Gu s l) (hf : s.fu = -1) : Gd s l := by
  have e : ({ s with fu := -1 } : Ds) = s := by rw [← hf]
  have := h.gd
  rw [e] at this
  exact this
theorem gd_fit {s : Ds} {l : Lg} (h : Gu s l) : 2 + l.ar * l.m + l.m ≤ s.D.length := by
  have hn := h.gd.nums
  have hlen : 6 ≤ s.D.length := hn.len.1
  have hm : l.m = s.am := h.gd.am
  have hm2 : s.am = (s.D.length - 2) / 2 := rfl
  have har := hn.aa
  rcases (by omega : l.ar = 0 ∨ l.ar = 1) with e | e <;> rw [e] <;> omega
end Go.Proofs.YtcindeechmpalaaGreat
namespace Go.Proofs.YtcindeechmpalaaGreat
open Go.ChangeShapes Go.WideShapes Go.ChangeAt Go.RowKit Go.Deep
set_option linter.unusedVariables false
set_option linter.unusedSimpArgs false
theorem toList_eq (a b : ByteArray) : (a.toList == b.toList) = decide (a = b) := by
  rw [Bool.eq_iff_iff, beq_iff_eq, decide_eq_true_iff]
  refine ⟨fun h => ?_, fun h => by rw [h]⟩
  have : sN a = sN b := by unfold sN; rw [h]
  rw [← sN_str a, ← sN_str b, this]
/-- two changes are alike -/
def ptE (x y : Pt) : Bool := decide (x.k = y.k) && (decide (x.v = y.v) && (x.g == y.g))
theorem ptE_iff (x y : Pt) : ptE x y = true ↔ x = y := by
  obtain ⟨a, b, c⟩ := x
  obtain ⟨a', b', c'⟩ := y
  unfold ptE
  simp
def sameB : List Pt → List Pt → Bool
  | [], [] => true
  | x :: l, y :: k => ptE x y && sameB l k
  | _, _ => false
theorem sameB_iff : ∀ l k : List Pt, sameB l k = true ↔ l = k
  | [], [] => by simp [sameB]
  | [], _ :: _ => by simp [sameB]
  | _ :: _, [] => by simp [sameB]
  | x :: l, y :: k => by
    rw [sameB, Bool.and_eq_true, ptE_iff, sameB_iff l k]
    simp
theorem sameB_no {l k : List Pt} (h : l ≠ k) : sameB l k = false := by
  cases hb : sameB l k with
  | false => rfl
  | true => exact absurd ((sameB_iff l k).1 hb) h
theorem equal_put (d : Nat) (x y : Pt) (w : World) : (Op.equalIn (d + 2) 45 (pA x) (pA y)).run Tryz.prog w = .ok (ptE x y) w := by
  unfold pA pC
  rw [run_equalIn_struct w (d + 1) 45 _ _ (by simp [Program.fieldsOf, Tryz.underlying45]) (by kernel_rfl)]
  have e1 := toList_eq x.k y.k
  have e2 := toList_eq x.v y.v
  unfold ptE
  simp only [Program.fieldsOf, Tryz.underlying45, Op.eqFields]
  simp [part, isAgg, run_underlying Tryz.underlying9, run_underlying Tryz.underlying4, run_equalIn_string w d 9 _ _ Tryz.underlying9, run_equalIn_bool w d 4 _ _ Tryz.underlying4, e1, e2]
  by_cases h1 : x.k = y.k <;> by_cases h2 : x.v = y.v <;> cases x.g <;> cases y.g <;> simp [h1, h2]
theorem guardP : Tryz.prog.eqGuardType Tryz.prog.depth 45 = false := by kernel_rfl
theorem InP.cells {w w' : World} {h : Nat} {a : Option Addr} {l : List Pt} (hi : InP w a l) (hw : Below w.heap.size w w') {j : Nat} {x : Pt} (hx : l[j]? = some x) : ∃ b off, a = some ⟨b, off, none⟩ ∧ Pc w' b (off + j * 3) x := by
  obtain ⟨b, off, e, hb, hp⟩ := hi.at hx
  exact ⟨b, off, e, hp.kept (hw.block b hb)⟩
set_option maxRecDepth 100000 in
set_option maxHeartbeats 4000000 in
theorem ksame_is (l1 l2 : List Pt) (n1 n2 c1 c2 : Nat) (a1 a2 : Option Addr) (w : World) (h1 : l1.length = n1) (h2 : l2.length = n2) (b1 : n1 ≤ 140737488355328) (b2 : n2 ≤ 140737488355328) (i1 : InP w a1 l1) (i2 : InP w a2 l2) :
    Calls Tryz.prog 28 #[.slice a1 n1 c1, .slice a2 n2 c2] w fun e w' => e = .returned (.bool (sameB l1 l2)) ∧ Below w.heap.size w w' := by
  have HR0 : Hid (∀ r, sameB l1 l2 = r → (l1 = l2 → r = true) ∧ (l1 ≠ l2 → r = false)) := fun r hr => by rw [← hr]; exact ⟨(sameB_iff l1 l2).2, sameB_no⟩
  obtain ⟨r, hr⟩ : ∃ r, sameB l1 l2 = r := ⟨_, rfl⟩
  have HR : Hid ((l1 = l2 → r = true) ∧ (l1 ≠ l2 → r = false)) := HR0.out r hr
  rw [hr]
  clear hr HR0
  by_cases hne : n1 = n2
  · subst hne
    have H1 : Hid (l1.length = n1) := h1
    have H2 : Hid (l2.length = n1) := h2
    have I1 : Hid (InP w a1 l1) := i1
    have I2 : Hid (InP w a2 l2) := i2
    clear h1 h2 i1 i2
    go_enter Tryz.func28, Tryz.ntmps28
    go_wp2_with fail
    go_loopg [5] n1 (fun g i wr => ∃ (j : Nat), j ≤ n1 ∧ g = n1 - j ∧ i = .int .i64 j ∧ Hid (l1.take j = l2.take j) ∧ Hid (Below w.heap.size w wr))
    case atStart => exact ⟨0, Nat.zero_le _, rfl, rfl, rfl, Below.refl _ _⟩
    case round =>
      obtain ⟨j, hj, rfl, rfl, HT, HW⟩ := hrel
      by_cases hlt : j < n1
      · have j1 : (j : Int) < (n1 : Int) := by omega
        obtain ⟨x, hx⟩ : ∃ x, l1[j]? = some x := ⟨l1[j]'(by rw [H1.out]; exact hlt), by simp [H1.out, hlt]⟩
        obtain ⟨y, hy⟩ : ∃ y, l2[j]? = some y := ⟨l2[j]'(by rw [H2.out]; exact hlt), by simp [H2.out, hlt]⟩
        obtain ⟨p1, o1, rfl, hr1⟩ := I1.out.cells (h := 0) HW.out hx
        obtain ⟨p2, o2, rfl, hr2⟩ := I2.out.cells (h := 0) HW.out hy
        obtain ⟨c0, c1', c2'⟩ := hr1
        obtain ⟨d0, d1, d2⟩ := hr2
        have HX : Hid (l1[j]? = some x) := hx
        have HY : Hid (l2[j]? = some y) := hy
        have hq : ∀ w, (Op.equalIn 10000 45 (.agg #[.string x.k, .string x.v, .bool x.g]) (.agg #[.string y.k, .string y.v, .bool y.g])).run Tryz.prog w = .ok (ptE x y) w := equal_put 9998 x y
        have hg := guardP
        have HXY : Hid (ptE x y = true ↔ x = y) := ptE_iff x y
        clear hx hy
        cases hxy : ptE x y with
        | true =>
          rw [hxy] at hq HXY
          clear hxy
          go_wp2_with fail
          go_quiet (fail)
          go_wp2_with fail
          go_roundg (n1 - (j + 1))
          case measure => omega
          case rel =>
            refine ⟨j + 1, by omega, rfl, by go_num, ?_, below_drewN HW.out _⟩
            obtain ⟨q1, e1⟩ := List.getElem?_eq_some_iff.1 HX.out
            obtain ⟨q2, e2⟩ := List.getElem?_eq_some_iff.1 HY.out
            show _ = _
            rw [List.take_succ_eq_append_getElem q1, List.take_succ_eq_append_getElem q2, HT.out, e1, e2, HXY.out.1 trivial]
        | false =>
          rw [hxy] at hq HXY
          have HF : Hid (l1 ≠ l2) := by
            intro e
            subst e
            have := HX.out.symm.trans HY.out
            have := HXY.out.2 (Option.some.inj this)
            cases this
          clear hxy
          go_wp2_with fail
          go_quiet (fail)
          go_wp2_with fail
          go_ret
          exact ⟨by rw [HR.out.2 HF.out]; rfl, below_drewN HW.out _⟩
      · obtain rfl : j = n1 := by omega
        have i1 : ¬ (j : Int) < (j : Int) := by omega
        have HF : Hid (l1 = l2) := by
          have := HT.out
          rwa [List.take_of_length_le (by rw [H1.out]; exact Nat.le_refl _), List.take_of_length_le (by rw [H2.out]; exact Nat.le_refl _)] at this
        go_wp2_with fail
        go_ret
        exact ⟨by rw [HR.out.1 HF.out]; rfl, HW.out⟩
  · have e1 : ((n1 : Int) == (n2 : Int)) = false := by rw [beq_eq_false_iff_ne]; omega
    have e2 : ((n1 : Int) != (n2 : Int)) = true := by simp [bne, e1]
    have e3 : ¬ (n1 : Int) = (n2 : Int) := by omega
    have HF : Hid (l1 ≠ l2) := fun e => hne (by rw [← h1, ← h2, e])
    clear i1 i2 h1 h2
    go_enter Tryz.func28, Tryz.ntmps28
    go_wp2_with fail
    go_ret
    exact ⟨by rw [HR.out.2 HF.out]; rfl, Below.refl _ _⟩
end Go.Proofs.YtcindeechmpalaaGreat
namespace Go.Proofs.YtcindeechmpalaaGreat
open Go.ChangeShapes Go.WideShapes Go.ChangeAt Go.RowKit Go.Deep Go.Maps
set_option linter.unusedVariables false
set_option linter.unusedSimpArgs false
theorem bytesLess_cb : ∀ a b : List UInt8, Op.bytesLess a b = decide (Lib.compareBytes a b < 0)
  | [], [] => rfl
  | [], _ :: _ => rfl
  | _ :: _, [] => rfl
  | x :: a, y :: b => by
    rw [Op.bytesLess, Lib.compareBytes, bytesLess_cb a b]
    by_cases h1 : x < y
    · rw [if_pos h1]
      simp [h1]
    · rw [if_neg h1]
      by_cases h2 : y < x
      · rw [if_pos h2]
        have h3 : ¬ x = y := fun e => by rw [e] at h2; rw [UInt8.lt_iff_toNat_lt] at h2; omega
        simp [h1, h3]
      · rw [if_neg h2]
        obtain rfl := u8_eq h1 h2
        simp [h1]
theorem less_cK (a b : ByteArray) : Op.bytesLess a.toList b.toList = decide (cK a b < 0) := by
  rw [ByteArray.toList_eq, ByteArray.toList_eq, bytesLess_cb]
  rfl
theorem toList_empty (a : ByteArray) : a.toList = [] ↔ a = ⟨#[]⟩ := by
  constructor
  · intro h
    have : sN a = [] := by unfold sN; rw [h]; rfl
    rw [← sN_str a, this]
    rfl
  · intro h
    rw [h, toList_nil]
theorem inR_cK (fr to q : ByteArray) : inR fr to q = true ↔ (¬ cK q fr < 0 ∧ (to = ⟨#[]⟩ ∨ cK q to < 0)) := by
  unfold inR
  rw [less_cK, less_cK, Bool.and_eq_true, Bool.or_eq_true, List.isEmpty_iff, toList_empty]
  simp
/-- the parts are the whole -/
theorem lst_parts {T : ByteArray → Option Pt} {fr mid to : ByteArray} {x y z : List Pt} (hx : LstP T (inR fr to) x) (hy : LstP T (inR fr mid) y) (hz : LstP T (inR mid to) z) (h1 : ¬ cK mid fr < 0) (h2 : to = ⟨#[]⟩ ∨ cK mid to < 0) (h3 : mid ≠ ⟨#[]⟩) : x = y ++ z := by
  refine rise_eq hx.rise ?_ fun p => ?_
  · rw [List.pairwise_append]
    refine ⟨hy.rise, hz.rise, fun a ha b hb => ?_⟩
    have ga := ((inR_cK _ _ _).1 ((hy.mem a).1 ha).2).2.resolve_left h3
    have gb := ((inR_cK _ _ _).1 ((hz.mem b).1 hb).2).1
    by_cases e : cK b.k mid = 0
    · rw [cK_eq e]; exact ga
    · have : cK mid b.k < 0 := by rw [cK_anti]; omega
      exact cK_trans ga this
  · rw [List.mem_append, hx.mem, hy.mem, hz.mem, inR_cK, inR_cK, inR_cK]
    constructor
    · rintro ⟨a, b, c⟩
      by_cases e : cK p.k mid < 0
      · exact .inl ⟨a, b, .inr e⟩
      · exact .inr ⟨a, e, c⟩
    · rintro (⟨a, b, c⟩ | ⟨a, b, c⟩)
      · refine ⟨a, b, ?_⟩
        rcases h2 with h2 | h2
        · exact .inl h2
        · exact .inr (cK_trans (c.resolve_left h3) h2)
      · refine ⟨a, fun hlt => ?_, c⟩
        by_cases e : cK mid fr = 0
        · rw [← cK_eq e] at hlt; exact b hlt
        · have : cK fr mid < 0 := by rw [cK_anti]; omega
          exact b (cK_trans hlt this)
theorem lst_ks {T : ByteArray → Option Pt} {l : List Pt} (h : LstP T allK l) (hT : AtKey T) : Ks T (l.map Pt.k) := by
  refine ⟨?_, fun q => ?_⟩
  · rw [List.Nodup, List.pairwise_map]
    exact h.nodup
  · rw [List.mem_map, Option.isSome_iff_exists]
    constructor
    · rintro ⟨x, hx⟩
      have hk := (hT q x hx).1
      exact ⟨x, (h.mem x).2 ⟨by rw [hk]; exact hx, rfl⟩, hk⟩
    · rintro ⟨x, hx, rfl⟩
      exact ⟨x, ((h.mem x).1 hx).1⟩
theorem apL_len (L pts : List Pt) : (apL L pts).length ≤ L.length + pts.length := by
  induction pts generalizing L with
  | nil => simp [apL]
  | cons x pts ih =>
    have h1 := ih (ins1 L x)
    have h2 := ins1_len L x
    show (apL (ins1 L x) pts).length ≤ _
    rw [List.length_cons]
    omega
theorem append_puts {w : World} {ops : Array Oper} {rest : List Oper} {o : Oper} {act : Act} {Q : Exit → Act → World → Prop} (hgd : o.guard = none) (s x : Operand)
    (ho : o.op = .call { callee := .builtin .append, args := #[s, x], argTypes := #[37, 37] })
    (base : Nat) (v : Value) (l : List Pt) (hs : act.eval s = v) (hown : OwnP w base v l)
    (a : Option Addr) (m c : Nat) (y : List Pt) (hx : act.eval x = .slice a m c) (hm : y.length = m) (hin : InP w a y) (ha : a = none → m = 0 ∧ c = 0)
    (hN : l.length + m ≤ 1000000000) (hbase : base ≤ w.heap.size)
    (h : ∀ v' w', OwnP w' base v' (l ++ y) → w.grownBy w' v.ownBlock → wpList Tryz.prog ops Q rest (act.put o.dst v') w') :
    wpList Tryz.prog ops Q (o :: rest) act w := by
  obtain ⟨i, hi, hz, h1, h2⟩ := infoP
  cases a with
  | none =>
    obtain ⟨rfl, rfl⟩ := ha rfl
    obtain rfl : y = [] := List.length_eq_zero_iff.1 hm
    refine wpList_append_own_none hgd s x 37 ho base 45 i 3 Tryz.underlying37 hi _ _ _ hs hown hx ?_
    exact h _ _ (by rw [List.append_nil]; exact hown) ⟨rfl, rfl, rfl, Nat.le_refl _, fun _ _ _ => rfl⟩
  | some x' =>
    refine wpList_append_own w hgd s x 37 ho base 45 i _ 3 40 Tryz.underlying37 hi hz h1 h2 rfl (by decide) v l.length _ hs hown x' m c (pcs y) hx (by rw [pcs_len, hm]) ?_ ?_ (by simp only [maxLen]; omega) (by omega) hbase ?_
    · intro j u hu
      have hj : j < y.length * 3 := by
        have := (List.getElem?_eq_some_iff.1 hu).1
        rwa [pcs_len] at this
      rcases hin with e | ⟨b, off, e, _, hc⟩
      · rw [e] at hj; simp at hj
      · cases e
        have hj3 : j / 3 < y.length := by omega
        have hx3 : y[j / 3]? = some y[j / 3] := List.getElem?_eq_getElem hj3
        have hp := pcs_at y (j / 3) _ hx3 (j % 3) (by omega)
        rw [show j / 3 * 3 + j % 3 = j by omega, hu] at hp
        obtain ⟨c0, c1, c2⟩ := hc _ _ hx3
        rw [add_plain]
        rcases (by omega : j % 3 = 0 ∨ j % 3 = 1 ∨ j % 3 = 2) with e | e | e <;> rw [e] at hp
        · rw [show off + j = off + j / 3 * 3 by omega, c0]; exact hp.symm
        · rw [show off + j = off + j / 3 * 3 + 1 by omega, c1]; exact hp.symm
        · rw [show off + j = off + j / 3 * 3 + 2 by omega, c2]; exact hp.symm
    · intro u hu
      obtain ⟨p, _, hp⟩ := List.mem_flatMap.1 hu
      simp [pcl] at hp
      rcases hp with rfl | rfl | rfl <;> rfl
    · intro v' w' hown' hg _
      refine h v' w' ?_ hg
      unfold OwnP
      rw [List.length_append, hm]
      have : pcs (l ++ y) = pcs l ++ pcs y := by simp [pcs]
      rw [this]
      exact hown'
end Go.Proofs.YtcindeechmpalaaGreat
namespace Go.Proofs.YtcindeechmpalaaGreat
open Go.ChangeShapes Go.WideShapes Go.ChangeAt Go.RowKit Go.Deep Go.Maps
set_option linter.unusedVariables false
set_option linter.unusedSimpArgs false
def hasB (L : List Pt) (ks : List ByteArray) (M : ByteArray → Option ByteArray) : Bool := decide (L.length = ks.length) && L.all (fun x => decide (M x.k = some x.v))
theorem hasB_yes {L : List Pt} {ks : List ByteArray} {M : ByteArray → Option ByteArray} (h1 : L.length = ks.length) (h2 : ∀ x ∈ L, M x.k = some x.v) : hasB L ks M = true := by
  unfold hasB
  rw [Bool.and_eq_true, decide_eq_true_eq, List.all_eq_true]
  exact ⟨h1, fun x hx => by rw [decide_eq_true_eq]; exact h2 x hx⟩
theorem hasB_len {L : List Pt} {ks : List ByteArray} {M : ByteArray → Option ByteArray} (h1 : L.length ≠ ks.length) : hasB L ks M = false := by
  unfold hasB
  rw [decide_eq_false h1]
  rfl
theorem hasB_no {L : List Pt} {ks : List ByteArray} {M : ByteArray → Option ByteArray} {x : Pt} (hx : x ∈ L) (h : M x.k ≠ some x.v) : hasB L ks M = false := by
  cases hb : hasB L ks M with
  | false => rfl
  | true =>
    unfold hasB at hb
    rw [Bool.and_eq_true, List.all_eq_true] at hb
    exact absurd (of_decide_eq_true (hb.2 x hx)) h
/-- a map of texts has what a map of changes has -/
def AsM (T : ByteArray → Option Pt) (M : ByteArray → Option ByteArray) : Prop := ∀ q, M q = (T q).map Pt.v
theorem AsM.none : AsM noT (fun _ => Option.none) := fun _ => rfl
theorem AsM.step {T : ByteArray → Option Pt} {M : ByteArray → Option ByteArray} (h : AsM T M) (l : List Pt) : AsM (chT T l) (mhT M l) := by
  induction l generalizing T M with
  | nil => exact h
  | cons x l ih =>
    show AsM (chT (ch1 T x) l) (mhT (mh1 M x) l)
    refine ih fun q => ?_
    unfold mh1 ch1
    by_cases e : q = x.k
    · rw [if_pos e, if_pos e]
      cases x.g <;> rfl
    · rw [if_neg e, if_neg e]
      exact h q
theorem AsM.keys {T : ByteArray → Option Pt} {M : ByteArray → Option ByteArray} {L : List Pt} (h : AsM T M) (hL : LstP T allK L) (hT : AtKey T) : Kt M (L.map Pt.k) := by
  obtain ⟨h1, h2⟩ := lst_ks hL hT
  refine ⟨h1, fun k => ?_⟩
  rw [← h2, h k]
  cases T k <;> simp
theorem AsM.hasB {T : ByteArray → Option Pt} {M : ByteArray → Option ByteArray} {L : List Pt} (h : AsM T M) (hL : LstP T allK L) : Go.Proofs.YtcindeechmpalaaGreat.hasB L (L.map Pt.k) M = true := hasB_yes (by rw [List.length_map]) fun x hx => by rw [h, ((hL.mem x).1 hx).1]; rfl
set_option maxRecDepth 100000 in
set_option maxHeartbeats 8000000 in
theorem khas_is (w : World) (bb bl mb N : Nat) (T : ByteArray → Option Pt) (L : List Pt) (h : w.heap[bb]? = some (kO bl mb)) (hm : Pm w mb N T) (hN : N ≤ 1000000) (hT : AtKey T) (hL : LstP T allK L) (hok : ∀ x ∈ L, badP x = false) (b2 N2 : Nat) (M : ByteArray → Option ByteArray) (ks : List ByteArray) (hs : Sm w b2 N2 M) (hks : Kt M ks) (hkl : ks.length ≤ 1000000) :
    Calls Tryz.prog 33 #[.pointer (some ⟨bb, 0, none⟩), .map (some b2)] w fun e w' => e = .returned (.bool (hasB L ks M)) ∧ Below w.heap.size w w' := by
  have HP : Hid (∀ W, Below w.heap.size w W → W.heap[bb]? = some (kO bl mb) ∧ Pm W mb N T ∧ Sm W b2 N2 M) := fun W hW => ⟨(hW.block bb (lt_of_heapK h)).trans h, hm.keep hW, hs.keep hW⟩
  have KSc : Hid (Calls Tryz.prog 30 #[.pointer (some ⟨bb, 0, none⟩), .string ⟨#[]⟩, .string ⟨#[]⟩] w fun e w' => ∃ v, e = .returned v ∧ OwnP w' w.heap.size v L ∧ L.length ≤ N ∧ Below w.heap.size w w') := by
    refine (kScan_is w bb bl mb N T h hm (by omega) hT ⟨#[]⟩ ⟨#[]⟩).mono ?_
    rintro e w' ⟨v, k, rfl, h1, h2, h3, hg⟩
    rw [inR_all] at h2
    obtain rfl := lst_uniq h2 hL
    exact ⟨v, rfl, h1, h3, hg.os, hg.tape, hg.output, hg.size, fun k hk => hg.block k hk (by simp)⟩
  have KLn : Hid (∀ W, Below w.heap.size w W → Calls Tryz.prog 31 #[.pointer (some ⟨bb, 0, none⟩)] W fun e w' => e = .returned (.int .i64 (L.length : Int)) ∧ w' = W) := fun W hW => by
    obtain ⟨p1, p2, _⟩ := HP.out W hW
    have k := kLen_is W bb bl mb N T p1 p2 (L.map Pt.k) (lst_ks hL hT)
    rw [List.length_map] at k
    exact k
  have KGt : Hid (∀ W x, x ∈ L → Below w.heap.size w W → Calls Tryz.prog 29 #[.pointer (some ⟨bb, 0, none⟩), .string x.k] W fun e w' => e = .returned (.tuple #[.string x.v, .bool true]) ∧ Below W.heap.size W w') := fun W x hx hW => by
    obtain ⟨p1, p2, _⟩ := HP.out W hW
    have hsz := badP_no (hok x hx)
    have k := kGet_is W bb bl mb N T p1 p2 x.k (by omega)
    rw [((hL.mem x).1 hx).1] at k
    exact k
  have HLN : Hid (∀ W, Below w.heap.size w W → ∀ ty, (Builtin.len_ #[76] ty #[.map (some b2)]).run Tryz.prog W = .ok (.int .i64 (ks.length : Int)) W) := fun W hW ty => by
    obtain ⟨D, hD, hz⟩ := sm_exact (HP.out W hW).2.2 ks hks
    have := hD.len Tryz.underlying76 ty
    rw [hz] at this
    exact this
  have HLK : Hid (∀ W x, x ∈ L → Below w.heap.size w W → (Instr.lookup 76 (.map (some b2)) (.string x.k) true).run Tryz.prog W = .ok (.tuple #[.string ((M x.k).getD ⟨#[]⟩), .bool (M x.k).isSome]) W) := fun W x hx hW => (HP.out W hW).2.2.look2 x.k (by have := badP_no (hok x hx); omega)
  have HRI : Hid (∀ j x z, L[j + 1]? = some x → L[j]? = some z → Op.bytesLess x.k.toList z.k.toList = false ∧ (x.k.toList == z.k.toList) = false) := fun j x z hx hz => by
    obtain ⟨i1, e1⟩ := List.getElem?_eq_some_iff.1 hx
    obtain ⟨i2, e2⟩ := List.getElem?_eq_some_iff.1 hz
    have := List.pairwise_iff_getElem.1 hL.rise j (j + 1) i2 i1 (by omega)
    rw [e1, e2] at this
    refine ⟨?_, ?_⟩
    · rw [less_cK, decide_eq_false_iff_not, cK_anti]; omega
    · rw [toList_eq, decide_eq_false_iff_not]; exact (cK_ne this).symm
  have HGN : Hid (∀ x ∈ L, x.g = false) := fun x hx => (hT _ x ((hL.mem x).1 hx).1).2
  have HHB : Hid ((L.length ≠ ks.length → hasB L ks M = false) ∧ (∀ x ∈ L, M x.k ≠ some x.v → hasB L ks M = false) ∧ (L.length = ks.length → (∀ x ∈ L, M x.k = some x.v) → hasB L ks M = true)) := ⟨hasB_len, fun x hx hn => hasB_no hx hn, hasB_yes⟩
  obtain ⟨R, hR⟩ : ∃ R, hasB L ks M = R := ⟨_, rfl⟩
  rw [hR] at HHB ⊢
  obtain ⟨m, hm2⟩ : ∃ m, ks.length = m := ⟨_, rfl⟩
  rw [hm2] at HLN HHB hkl
  obtain ⟨n, hn⟩ : ∃ n, L.length = n := ⟨_, rfl⟩
  rw [hn] at HHB KLn KSc
  have HNL : Hid (L.length = n) := hn
  clear h hm hT hL hok hs hks hR hm2 hn
  go_enter Tryz.func33, Tryz.ntmps33
  go_wp2_with fail
  refine KSc.out.mono ?_
  rintro e w1 ⟨v, rfl, ho1, hnN, hb1⟩
  obtain ⟨a, c, hv, hi1, _⟩ := ho1.slice
  rw [HNL.out] at hv
  subst hv
  have I1 : Hid (InP w1 a L ∧ Below w.heap.size w w1) := ⟨hi1, hb1⟩
  have hl1 := HLN.out w1 hb1
  clear ho1 hi1 hb1 KSc
  by_cases hnm : n = m
  · subst hnm
    have e1 : ((n : Int) != (n : Int)) = false := by simp
    go_wp2_with fail
    refine (KLn.out w1 I1.out.2).mono ?_
    rintro e w2 ⟨rfl, hw⟩
    obtain rfl := hw.symm
    clear hw
    go_wp2_with fail
    clear hl1
    go_loopg [27] n (fun g i wr => ∃ j : Nat, j ≤ n ∧ g = n - j ∧ i = .int .i64 (j : Int) ∧ Hid (InP wr a L ∧ Below w.heap.size w wr ∧ ∀ i x, i < j → L[i]? = some x → M x.k = some x.v))
    case atStart => exact ⟨0, Nat.zero_le _, rfl, rfl, I1.out.1, I1.out.2, fun i x hi => by omega⟩
    case round =>
      obtain ⟨j, hj, rfl, rfl, RW⟩ := hrel
      clear I1
      by_cases hlt : j < n
      · have j1 : decide ((j : Int) < (n : Int)) = true := by rw [decide_eq_true_eq]; omega
        have ri : IntKind.i64.wrap ((j : Int) + 1) = (j : Int) + 1 := by rw [IntKind.wrap_i64]; omega
        obtain ⟨x, hx⟩ : ∃ x, L[j]? = some x := ⟨L[j]'(by rw [HNL.out]; exact hlt), by simp [HNL.out, hlt]⟩
        have hxm := List.mem_of_getElem? hx
        obtain ⟨b, off, rfl, hbw, hpc⟩ := RW.out.1.at hx
        have hpc2 := hpc
        obtain ⟨c0, c1, c2⟩ := hpc
        have hlk := HLK.out wr x hxm RW.out.2.1
        have KG := KGt.out wr x hxm RW.out.2.1
        have hxg := HGN.out x hxm
        have HCL : Hid (∀ w', Below wr.heap.size wr w' → Pc w' b (off + j * 3) x) := fun w' hb => hpc2.kept (hb.block b hbw)
        have HX : Hid (L[j]? = some x ∧ x ∈ L) := ⟨hx, hxm⟩
        obtain ⟨o, hMo⟩ : ∃ o, M x.k = o := ⟨_, rfl⟩
        have HMO : Hid (M x.k = o) := hMo
        rw [hMo] at hlk
        have HPZ : Hid (∀ w', Below wr.heap.size wr w' → 0 < j → ∃ z, L[j - 1]? = some z ∧ Pc w' b (off + (j - 1) * 3) z ∧ Op.bytesLess x.k.toList z.k.toList = false ∧ (x.k.toList == z.k.toList) = false) := fun w' hb hj0 => by
          obtain ⟨z, hz⟩ : ∃ z, L[j - 1]? = some z := ⟨L[j - 1]'(by rw [HNL.out]; omega), List.getElem?_eq_getElem _⟩
          obtain ⟨b', off', e, hb', hp'⟩ := RW.out.1.at hz
          cases e
          have hr := HRI.out (j - 1) x z (by rw [show j - 1 + 1 = j by omega]; exact hx) hz
          exact ⟨z, hz, hp'.kept (hb.block b hb'), hr⟩
        clear hx hxm hMo hpc2
        obtain ⟨xk, xv, xg⟩ := x
        simp only at c0 c1 c2 hlk KG hxg HMO HPZ
        subst hxg
        have HKG : Hid (Calls Tryz.prog 29 #[.pointer (some ⟨bb, 0, none⟩), .string xk] wr fun e w' => e = .returned (.tuple #[.string xv, .bool true]) ∧ Below wr.heap.size wr w') := KG
        clear KG
        go_wp2_with fail
        refine HKG.out.mono ?_
        rintro e w6 ⟨rfl, hb6⟩
        have B6 : Hid (Below w.heap.size w w6 ∧ InP w6 (some ⟨b, off, none⟩) L ∧ w.heap.size ≤ w6.heap.size) := ⟨RW.out.2.1.trans (hb6.mono RW.out.2.1.size), RW.out.1.keep hb6, Nat.le_trans RW.out.2.1.size hb6.size⟩
        obtain ⟨d0, d1, d2⟩ := HCL.out w6 hb6
        simp only at d0 d1 d2
        have HPZ6 : Hid (0 < j → ∃ z, L[j - 1]? = some z ∧ Pc w6 b (off + (j - 1) * 3) z ∧ Op.bytesLess xk.toList z.k.toList = false ∧ (xk.toList == z.k.toList) = false) := HPZ.out w6 hb6
        clear hb6 c0 c1 c2 HKG HCL HPZ hlk
        cases o with
        | none =>
          have HR : Hid (R = false) := HHB.out.2.1 _ HX.out.2 (by rw [HMO.out]; exact fun e => by cases e)
          go_wp2_with fail
          go_quiet (fail)
          go_wp2_with fail
          go_ret
          exact ⟨by rw [HR.out]; rfl, below_drewN B6.out.1 _⟩
        | some v =>
          by_cases hv : v = xv
          · subst hv
            by_cases hj0 : j = 0
            · subst hj0
              have RW9 : Hid (∀ u : World, Below w6.heap.size w6 u → InP u (some ⟨b, off, none⟩) L ∧ Below w.heap.size w u ∧ ∀ i x, i < 0 + 1 → L[i]? = some x → M x.k = some x.v) := fun u hu => ⟨B6.out.2.1.keep hu, B6.out.1.trans (hu.mono B6.out.2.2), fun i y hi hy => by
                obtain rfl : i = 0 := by omega
                have : (⟨xk, v, false⟩ : Pt) = y := Option.some.inj (HX.out.1.symm.trans hy)
                rw [← this]; exact HMO.out⟩
              go_wp2_with fail
              go_quiet (fail)
              go_wp2_with fail
              go_roundg (n - 1)
              case measure => omega
              case rel => exact ⟨1, by omega, rfl, by simp, RW9.out _ (below_drewN (Below.refl _ _) _)⟩
            · obtain ⟨z, hz1, hz2, hz3, hz4⟩ := HPZ6.out (by omega)
              obtain ⟨k0, k1, k2⟩ := hz2
              have g0 : decide ((0 : Int) < (j : Int)) = true := by rw [decide_eq_true_eq]; omega
              have g1 : decide (0 < j) = true := by rw [decide_eq_true_eq]; omega
              have rj : IntKind.i64.wrap ((j : Int) - 1) = ((j - 1 : Nat) : Int) := by rw [IntKind.wrap_i64]; omega
              have RW9 : Hid (∀ u : World, Below w6.heap.size w6 u → InP u (some ⟨b, off, none⟩) L ∧ Below w.heap.size w u ∧ ∀ i x, i < j + 1 → L[i]? = some x → M x.k = some x.v) := fun u hu => ⟨B6.out.2.1.keep hu, B6.out.1.trans (hu.mono B6.out.2.2), fun i y hi hy => by
                by_cases e : i = j
                · subst e
                  have : (⟨xk, v, false⟩ : Pt) = y := Option.some.inj (HX.out.1.symm.trans hy)
                  rw [← this]; exact HMO.out
                · exact RW.out.2.2 i y (by omega) hy⟩
              obtain ⟨zk, zv, zg⟩ := z
              simp only at k0 k1 k2 hz3 hz4
              obtain ⟨p, hp⟩ : ∃ p, j = p + 1 := ⟨j - 1, by omega⟩
              have hjp : j - 1 = p := by omega
              rw [hjp] at k0 k1 k2 rj
              clear hz1 hp
              go_wp2_with fail
              go_quiet (fail)
              go_wp2_with fail
              go_roundg (n - (j + 1))
              case measure => omega
              case rel => exact ⟨j + 1, by omega, rfl, by simp, RW9.out _ (below_drewN (Below.refl _ _) _)⟩
          · have e2 : (v.toList == xv.toList) = false := by rw [toList_eq, decide_eq_false_iff_not]; exact hv
            have e3 : (v.toList != xv.toList) = true := by simp [bne, e2]
            have HR : Hid (R = false) := HHB.out.2.1 _ HX.out.2 (by rw [HMO.out]; exact fun e => hv (Option.some.inj e))
            go_wp2_with fail
            go_quiet (fail)
            go_wp2_with fail
            go_ret
            exact ⟨by rw [HR.out]; rfl, below_drewN B6.out.1 _⟩
      · have j1 : decide ((j : Int) < (n : Int)) = false := by rw [decide_eq_false_iff_not]; omega
        have HR : Hid (R = true ∧ Below w.heap.size w wr) := ⟨HHB.out.2.2 trivial (fun x hx => by
          obtain ⟨i, hi⟩ := List.getElem?_of_mem hx
          have hil := (List.getElem?_eq_some_iff.1 hi).1
          exact RW.out.2.2 i x (by have := HNL.out; omega) hi), RW.out.2.1⟩
        go_wp2_with fail
        go_ret
        exact ⟨by rw [HR.out.1]; rfl, HR.out.2⟩
  · have e1 : ((n : Int) != (m : Int)) = true := by simp [bne]; omega
    have e2 : ¬ (n : Int) = (m : Int) := by omega
    have HR : Hid (R = false) := HHB.out.1 hnm
    go_wp2_with fail
    go_ret
    exact ⟨by rw [HR.out]; rfl, I1.out.2⟩
end Go.Proofs.YtcindeechmpalaaGreat
namespace Go.Proofs.YtcindeechmpalaaGreat
open Go.ChangeShapes Go.WideShapes Go.ChangeAt Go.RowKit Go.Deep
set_option linter.unusedVariables false
set_option linter.unusedSimpArgs false
/-- a text, cut; a change, cut; changes, cut -/
def cT (m : Nat) (s : ByteArray) : ByteArray := if m < s.size then s.extract 0 m else s
def smP (x : Pt) : Pt := ⟨cT 70 x.k, cT 1100 x.v, x.g⟩
def smK (l : List Pt) : List Pt := (l.take 70).map smP
theorem cT_size (m : Nat) (s : ByteArray) : (cT m s).size ≤ m := by
  unfold cT
  split
  · simp; omega
  · omega
theorem smK_len (l : List Pt) : (smK l).length ≤ 70 := by unfold smK; rw [List.length_map, List.length_take]; omega
theorem smK_fit (l : List Pt) : ∀ x ∈ smK l, x.k.size ≤ 70 ∧ x.v.size ≤ 1100 := by
  intro x hx
  obtain ⟨y, _, rfl⟩ := List.mem_map.1 hx
  exact ⟨cT_size 70 _, cT_size 1100 _⟩
theorem smK_fitP (l : List Pt) : FitP (smK l) := fun x hx => by
  have := smK_fit l x hx
  exact ⟨by omega, by omega⟩
set_option maxRecDepth 100000 in
set_option maxHeartbeats 4000000 in
theorem ksmall_is (l : List Pt) (n : Nat) (hn : l.length = n) (hn2 : n ≤ 140737488355328) (hf : FitP l) (a : Option Addr) (c : Nat) (w : World) (hl : InP w a l) :
    Calls Tryz.prog 14 #[.slice a n c] w fun e w' => ∃ v, e = .returned v ∧ OwnP w' w.heap.size v (smK l) ∧ Below w.heap.size w w' := by
  have HF : Hid (FitP l) := hf
  have HL : Hid (InP w a l) := hl
  have HN : Hid (l.length = n) := hn
  obtain ⟨h, hh⟩ : ∃ h, h = w.heap.size := ⟨_, rfl⟩
  have HH : Hid (h = w.heap.size) := hh
  clear hf hl hn hh
  go_enter Tryz.func14, Tryz.ntmps14
  go_wp2_with fail
  go_loopg [3, 4] 70 (fun g v i wr => ∃ (j : Nat), j ≤ n ∧ j ≤ 70 ∧ g = 70 - j ∧ i = .int .i64 (j : Int) ∧ Hid (OwnP wr h v ((l.take j).map smP)) ∧ Hid (Below h w wr))
  case atStart => exact ⟨0, Nat.zero_le _, Nat.zero_le _, rfl, rfl, OwnP.nil _ _, Below.refl _ _⟩
  case round =>
    obtain ⟨j, hj, hj2, rfl, rfl, HO, HBW⟩ := hrel
    have hsz : h ≤ wr.heap.size := by rw [HH.out]; exact HBW.out.size
    by_cases hjn : j < n
    · have i1 : (j : Int) < (n : Int) := by omega
      by_cases hj70 : j < 70
      · have i2 : (j : Int) < 70 := by omega
        have ri : IntKind.i64.wrap ((j : Int) + 1) = (j : Int) + 1 := by rw [IntKind.wrap_i64]; omega
        obtain ⟨x, hx⟩ : ∃ x, l[j]? = some x := ⟨l[j]'(by rw [HN.out]; exact hjn), by simp [HN.out, hjn]⟩
        obtain ⟨b, off, rfl, hbw, hpc⟩ := HL.out.at hx
        obtain ⟨c0, c1, c2⟩ := hpc.kept (HBW.out.block b (by rw [HH.out]; exact hbw))
        have HT : Hid ((l.take (j + 1)).map smP = (l.take j).map smP ++ [smP x]) := by
          show _ = _
          obtain ⟨h1, h2⟩ := List.getElem?_eq_some_iff.1 hx
          rw [List.take_succ_eq_append_getElem h1, h2, List.map_append]
          rfl
        have hLl : ((l.take j).map smP).length ≤ 1000000000 := by rw [List.length_map, List.length_take]; omega
        have hfx := HF.out x (List.mem_of_getElem? hx)
        obtain ⟨xk, xv, xg⟩ := x
        simp only at c0 c1 c2 hfx
        have HLl : Hid (((l.take j).map smP).length ≤ 1000000000) := hLl
        generalize (l.take j).map smP = A at *
        have HSM : Hid (smP ⟨xk, xv, xg⟩ = ⟨cT 70 xk, cT 1100 xv, xg⟩) := rfl
        clear hx hpc hLl
        obtain ⟨hk9, hv9⟩ := hfx
        generalize u3 = V at *
        have HOV : Hid (∀ k, V.ownBlock = some k → h ≤ k ∧ k < wr.heap.size) := fun k hk => HO.out.own k hk
        by_cases hk : 70 < xk.size
        · have t1 : (70 : Int) < (xk.size : Int) := by omega
          have t1b : decide ((70 : Int) < (xk.size : Int)) = true := by rw [decide_eq_true_eq]; omega
          by_cases hv : 1100 < xv.size
          · have t2 : (1100 : Int) < (xv.size : Int) := by omega
            have Y1 : Hid (∀ k, k < wr.heap.size → (wr.alloc (.cells #[.string (xk.extract 0 70), .string (xv.extract 0 1100), .bool xg] 45)).heap[k]? = wr.heap[k]?) := fun k hk => Below.heap_alloc _ _ _ hk
            have Z1 : Hid ((wr.alloc (.cells #[.string (xk.extract 0 70), .string (xv.extract 0 1100), .bool xg] 45)).heap.size = wr.heap.size + 1) := by show _ = _; simp
            have X8 : Hid (((wr.alloc (.cells #[.string (xk.extract 0 70), .string (xv.extract 0 1100), .bool xg] 45)).alloc (.cells #[.string (xk.extract 0 70), .string (xv.extract 0 1100), .bool xg] 45)).heap[wr.heap.size + 1]? = some (.cells (pC ⟨xk.extract 0 70, xv.extract 0 1100, xg⟩) 45)) := by show _ = _; rw [← Z1.out]; exact heap_alloc_new (wr.alloc (.cells #[.string (xk.extract 0 70), .string (xv.extract 0 1100), .bool xg] 45)) _
            have Y8 : Hid (∀ k, k < wr.heap.size → ((wr.alloc (.cells #[.string (xk.extract 0 70), .string (xv.extract 0 1100), .bool xg] 45)).alloc (.cells #[.string (xk.extract 0 70), .string (xv.extract 0 1100), .bool xg] 45)).heap[k]? = wr.heap[k]?) := fun k hk => (Below.heap_alloc _ _ _ (by rw [Z1.out]; omega)).trans (Y1.out k hk)
            have Z8 : Hid (((wr.alloc (.cells #[.string (xk.extract 0 70), .string (xv.extract 0 1100), .bool xg] 45)).alloc (.cells #[.string (xk.extract 0 70), .string (xv.extract 0 1100), .bool xg] 45)).heap.size = wr.heap.size + 2) := by show _ = _; simp
            have O8 : Hid (OwnP ((wr.alloc (.cells #[.string (xk.extract 0 70), .string (xv.extract 0 1100), .bool xg] 45)).alloc (.cells #[.string (xk.extract 0 70), .string (xv.extract 0 1100), .bool xg] 45)) h V A) := HO.out.kept fun k hk => Y8.out k (HOV.out k hk).2
            have B8 : Hid (Below h w ((wr.alloc (.cells #[.string (xk.extract 0 70), .string (xv.extract 0 1100), .bool xg] 45)).alloc (.cells #[.string (xk.extract 0 70), .string (xv.extract 0 1100), .bool xg] 45))) := HBW.out.trans ⟨rfl, rfl, rfl, by rw [Z8.out]; omega, fun k hk => Y8.out k (by omega)⟩
            have HS2 : Hid (smP ⟨xk, xv, xg⟩ = ⟨xk.extract 0 70, xv.extract 0 1100, xg⟩) := by show _ = _; rw [HSM.out]; unfold cT; rw [if_pos hk, if_pos hv]
            go_wp2_with (at_builtin; refine append_put rfl (.tmp 36) (.tmp 38) rfl h V A rfl O8.out (wr.heap.size + 1) 1 ⟨xk.extract 0 70, xv.extract 0 1100, xg⟩ rfl X8.out HLl.out (by rw [Z8.out]; omega) ?_; intro v9 u9 ho9 hg9; have O9 : Hid (OwnP u9 h v9 (A ++ [⟨xk.extract 0 70, xv.extract 0 1100, xg⟩])) := ho9; have B9 : Hid (Below h w u9) := B8.out.grown hg9 (by rw [Z8.out]; omega) (fun k hk => (HOV.out k hk).1); clear ho9 hg9)
            go_roundg (70 - (j + 1))
            case measure => omega
            case rel => exact ⟨j + 1, by omega, by omega, rfl, by simp, by rw [HT.out, HS2.out]; exact O9.out, B9.out⟩
          · have t2 : ¬ (1100 : Int) < (xv.size : Int) := by omega
            have Y1 : Hid (∀ k, k < wr.heap.size → (wr.alloc (.cells #[.string (xk.extract 0 70), .string (xv), .bool xg] 45)).heap[k]? = wr.heap[k]?) := fun k hk => Below.heap_alloc _ _ _ hk
            have Z1 : Hid ((wr.alloc (.cells #[.string (xk.extract 0 70), .string (xv), .bool xg] 45)).heap.size = wr.heap.size + 1) := by show _ = _; simp
            have X8 : Hid (((wr.alloc (.cells #[.string (xk.extract 0 70), .string (xv), .bool xg] 45)).alloc (.cells #[.string (xk.extract 0 70), .string (xv), .bool xg] 45)).heap[wr.heap.size + 1]? = some (.cells (pC ⟨xk.extract 0 70, xv, xg⟩) 45)) := by show _ = _; rw [← Z1.out]; exact heap_alloc_new (wr.alloc (.cells #[.string (xk.extract 0 70), .string (xv), .bool xg] 45)) _
            have Y8 : Hid (∀ k, k < wr.heap.size → ((wr.alloc (.cells #[.string (xk.extract 0 70), .string (xv), .bool xg] 45)).alloc (.cells #[.string (xk.extract 0 70), .string (xv), .bool xg] 45)).heap[k]? = wr.heap[k]?) := fun k hk => (Below.heap_alloc _ _ _ (by rw [Z1.out]; omega)).trans (Y1.out k hk)
            have Z8 : Hid (((wr.alloc (.cells #[.string (xk.extract 0 70), .string (xv), .bool xg] 45)).alloc (.cells #[.string (xk.extract 0 70), .string (xv), .bool xg] 45)).heap.size = wr.heap.size + 2) := by show _ = _; simp
            have O8 : Hid (OwnP ((wr.alloc (.cells #[.string (xk.extract 0 70), .string (xv), .bool xg] 45)).alloc (.cells #[.string (xk.extract 0 70), .string (xv), .bool xg] 45)) h V A) := HO.out.kept fun k hk => Y8.out k (HOV.out k hk).2
            have B8 : Hid (Below h w ((wr.alloc (.cells #[.string (xk.extract 0 70), .string (xv), .bool xg] 45)).alloc (.cells #[.string (xk.extract 0 70), .string (xv), .bool xg] 45))) := HBW.out.trans ⟨rfl, rfl, rfl, by rw [Z8.out]; omega, fun k hk => Y8.out k (by omega)⟩
            have HS2 : Hid (smP ⟨xk, xv, xg⟩ = ⟨xk.extract 0 70, xv, xg⟩) := by show _ = _; rw [HSM.out]; unfold cT; rw [if_pos hk, if_neg hv]
            go_wp2_with (at_builtin; refine append_put rfl (.tmp 36) (.tmp 38) rfl h V A rfl O8.out (wr.heap.size + 1) 1 ⟨xk.extract 0 70, xv, xg⟩ rfl X8.out HLl.out (by rw [Z8.out]; omega) ?_; intro v9 u9 ho9 hg9; have O9 : Hid (OwnP u9 h v9 (A ++ [⟨xk.extract 0 70, xv, xg⟩])) := ho9; have B9 : Hid (Below h w u9) := B8.out.grown hg9 (by rw [Z8.out]; omega) (fun k hk => (HOV.out k hk).1); clear ho9 hg9)
            go_roundg (70 - (j + 1))
            case measure => omega
            case rel => exact ⟨j + 1, by omega, by omega, rfl, by simp, by rw [HT.out, HS2.out]; exact O9.out, B9.out⟩
        · have t1 : ¬ (70 : Int) < (xk.size : Int) := by omega
          by_cases hv : 1100 < xv.size
          · have t2 : (1100 : Int) < (xv.size : Int) := by omega
            have Y1 : Hid (∀ k, k < wr.heap.size → (wr.alloc (.cells #[.string (xk), .string (xv.extract 0 1100), .bool xg] 45)).heap[k]? = wr.heap[k]?) := fun k hk => Below.heap_alloc _ _ _ hk
            have Z1 : Hid ((wr.alloc (.cells #[.string (xk), .string (xv.extract 0 1100), .bool xg] 45)).heap.size = wr.heap.size + 1) := by show _ = _; simp
            have X8 : Hid (((wr.alloc (.cells #[.string (xk), .string (xv.extract 0 1100), .bool xg] 45)).alloc (.cells #[.string (xk), .string (xv.extract 0 1100), .bool xg] 45)).heap[wr.heap.size + 1]? = some (.cells (pC ⟨xk, xv.extract 0 1100, xg⟩) 45)) := by show _ = _; rw [← Z1.out]; exact heap_alloc_new (wr.alloc (.cells #[.string (xk), .string (xv.extract 0 1100), .bool xg] 45)) _
            have Y8 : Hid (∀ k, k < wr.heap.size → ((wr.alloc (.cells #[.string (xk), .string (xv.extract 0 1100), .bool xg] 45)).alloc (.cells #[.string (xk), .string (xv.extract 0 1100), .bool xg] 45)).heap[k]? = wr.heap[k]?) := fun k hk => (Below.heap_alloc _ _ _ (by rw [Z1.out]; omega)).trans (Y1.out k hk)
            have Z8 : Hid (((wr.alloc (.cells #[.string (xk), .string (xv.extract 0 1100), .bool xg] 45)).alloc (.cells #[.string (xk), .string (xv.extract 0 1100), .bool xg] 45)).heap.size = wr.heap.size + 2) := by show _ = _; simp
            have O8 : Hid (OwnP ((wr.alloc (.cells #[.string (xk), .string (xv.extract 0 1100), .bool xg] 45)).alloc (.cells #[.string (xk), .string (xv.extract 0 1100), .bool xg] 45)) h V A) := HO.out.kept fun k hk => Y8.out k (HOV.out k hk).2
            have B8 : Hid (Below h w ((wr.alloc (.cells #[.string (xk), .string (xv.extract 0 1100), .bool xg] 45)).alloc (.cells #[.string (xk), .string (xv.extract 0 1100), .bool xg] 45))) := HBW.out.trans ⟨rfl, rfl, rfl, by rw [Z8.out]; omega, fun k hk => Y8.out k (by omega)⟩
            have HS2 : Hid (smP ⟨xk, xv, xg⟩ = ⟨xk, xv.extract 0 1100, xg⟩) := by show _ = _; rw [HSM.out]; unfold cT; rw [if_neg hk, if_pos hv]
            go_wp2_with (at_builtin; refine append_put rfl (.tmp 36) (.tmp 38) rfl h V A rfl O8.out (wr.heap.size + 1) 1 ⟨xk, xv.extract 0 1100, xg⟩ rfl X8.out HLl.out (by rw [Z8.out]; omega) ?_; intro v9 u9 ho9 hg9; have O9 : Hid (OwnP u9 h v9 (A ++ [⟨xk, xv.extract 0 1100, xg⟩])) := ho9; have B9 : Hid (Below h w u9) := B8.out.grown hg9 (by rw [Z8.out]; omega) (fun k hk => (HOV.out k hk).1); clear ho9 hg9)
            go_roundg (70 - (j + 1))
            case measure => omega
            case rel => exact ⟨j + 1, by omega, by omega, rfl, by simp, by rw [HT.out, HS2.out]; exact O9.out, B9.out⟩
          · have t2 : ¬ (1100 : Int) < (xv.size : Int) := by omega
            have Y1 : Hid (∀ k, k < wr.heap.size → (wr.alloc (.cells #[.string (xk), .string (xv), .bool xg] 45)).heap[k]? = wr.heap[k]?) := fun k hk => Below.heap_alloc _ _ _ hk
            have Z1 : Hid ((wr.alloc (.cells #[.string (xk), .string (xv), .bool xg] 45)).heap.size = wr.heap.size + 1) := by show _ = _; simp
            have X8 : Hid (((wr.alloc (.cells #[.string (xk), .string (xv), .bool xg] 45)).alloc (.cells #[.string (xk), .string (xv), .bool xg] 45)).heap[wr.heap.size + 1]? = some (.cells (pC ⟨xk, xv, xg⟩) 45)) := by show _ = _; rw [← Z1.out]; exact heap_alloc_new (wr.alloc (.cells #[.string (xk), .string (xv), .bool xg] 45)) _
            have Y8 : Hid (∀ k, k < wr.heap.size → ((wr.alloc (.cells #[.string (xk), .string (xv), .bool xg] 45)).alloc (.cells #[.string (xk), .string (xv), .bool xg] 45)).heap[k]? = wr.heap[k]?) := fun k hk => (Below.heap_alloc _ _ _ (by rw [Z1.out]; omega)).trans (Y1.out k hk)
            have Z8 : Hid (((wr.alloc (.cells #[.string (xk), .string (xv), .bool xg] 45)).alloc (.cells #[.string (xk), .string (xv), .bool xg] 45)).heap.size = wr.heap.size + 2) := by show _ = _; simp
            have O8 : Hid (OwnP ((wr.alloc (.cells #[.string (xk), .string (xv), .bool xg] 45)).alloc (.cells #[.string (xk), .string (xv), .bool xg] 45)) h V A) := HO.out.kept fun k hk => Y8.out k (HOV.out k hk).2
            have B8 : Hid (Below h w ((wr.alloc (.cells #[.string (xk), .string (xv), .bool xg] 45)).alloc (.cells #[.string (xk), .string (xv), .bool xg] 45))) := HBW.out.trans ⟨rfl, rfl, rfl, by rw [Z8.out]; omega, fun k hk => Y8.out k (by omega)⟩
            have HS2 : Hid (smP ⟨xk, xv, xg⟩ = ⟨xk, xv, xg⟩) := by show _ = _; rw [HSM.out]; unfold cT; rw [if_neg hk, if_neg hv]
            go_wp2_with (at_builtin; refine append_put rfl (.tmp 36) (.tmp 38) rfl h V A rfl O8.out (wr.heap.size + 1) 1 ⟨xk, xv, xg⟩ rfl X8.out HLl.out (by rw [Z8.out]; omega) ?_; intro v9 u9 ho9 hg9; have O9 : Hid (OwnP u9 h v9 (A ++ [⟨xk, xv, xg⟩])) := ho9; have B9 : Hid (Below h w u9) := B8.out.grown hg9 (by rw [Z8.out]; omega) (fun k hk => (HOV.out k hk).1); clear ho9 hg9)
            go_roundg (70 - (j + 1))
            case measure => omega
            case rel => exact ⟨j + 1, by omega, by omega, rfl, by simp, by rw [HT.out, HS2.out]; exact O9.out, B9.out⟩
      · have i2 : ¬ (j : Int) < 70 := by omega
        have HF2 : Hid (OwnP wr w.heap.size u3 (smK l)) := by
          have e : j = 70 := by omega
          subst e
          have := HO.out
          rw [HH.out] at this
          exact this
        have HB2 : Hid (Below w.heap.size w wr) := by rw [← HH.out]; exact HBW.out
        go_wp2_with fail
        go_ret
        exact ⟨_, rfl, HF2.out, HB2.out⟩
    · have i1 : ¬ (j : Int) < (n : Int) := by omega
      have HF2 : Hid (OwnP wr w.heap.size u3 (smK l)) := by
        have e : smK l = (l.take j).map smP := by
          unfold smK
          rw [List.take_of_length_le (by have := HN.out; omega), List.take_of_length_le (by have := HN.out; omega)]
        rw [e, ← HH.out]
        exact HO.out
      have HB2 : Hid (Below w.heap.size w wr) := by rw [← HH.out]; exact HBW.out
      go_wp2_with fail
      go_ret
      exact ⟨_, rfl, HF2.out, HB2.out⟩
end Go.Proofs.YtcindeechmpalaaGreat
namespace Go.Proofs.YtcindeechmpalaaGreat
open Go.ChangeShapes Go.WideShapes Go.ChangeAt Go.RowKit Go.Deep
set_option linter.unusedVariables false
/-- a change as data -/
def pDw {H : Type} (q : Pt) : DataW H := .agg [.lit (.string q.k.data.toList), .lit (.string q.v.data.toList), .lit (.bool q.g)]
theorem cellsPt : Tryz.prog.cellsOf 45 = 3 := by kernel_rfl
theorem cellsTx : Tryz.prog.cellsOf 9 = 1 := by kernel_rfl
theorem cellsBo : Tryz.prog.cellsOf 4 = 1 := by kernel_rfl
theorem bytesPt : Tryz.prog.bytesOf 45 = 40 := by kernel_rfl
theorem list3P {α : Type} {l : List α} (h : l.length = 3) : ∃ v0 v1 v2, l = [v0, v1, v2] := by
  match l, h with
  | [v0, v1, v2], _ => exact ⟨v0, v1, v2, rfl⟩
theorem open_put {H : Type} {enc : TypeId × Value → H} {W : World} {fuel : Nat} {cs : List Value} {x : DataW H × List MemPlace} (h : DataW.trod enc Tryz.prog W 0 (fun _ => true) true fuel 45 cs = some x) :
    ∃ q : Pt, cs = [.string q.k, .string q.v, .bool q.g] ∧ x.1 = pDw q := by
  obtain ⟨y0, y1, y2, n, hxy, hlen, g0, g1, g2⟩ := trod_struct3 Tryz.underlying45 h
  rw [cellsPt] at hlen
  obtain ⟨v0, v1, v2, rfl⟩ := list3P hlen
  simp [cellsTx, cellsBo] at g0 g1 g2
  obtain ⟨s0, e0, rfl, _⟩ := DataW.trod_string Tryz.underlying9 g0
  obtain ⟨s1, e1, rfl, _⟩ := DataW.trod_string Tryz.underlying9 g1
  obtain ⟨b2, e2, rfl⟩ := DataW.trod_bool Tryz.underlying4 g2
  simp only [List.cons.injEq, and_true] at e0 e1 e2
  subst e0 e1 e2 hxy
  exact ⟨⟨s0, s1, b2⟩, rfl, rfl⟩
theorem mem_weightsAllP {H : Type} {P : Program} {e : TypeId} {q : Nat} : ∀ {l : List (DataW H)} {d : DataW H}, d ∈ l → q ∈ d.weights P e → q ∈ DataW.weightsAll P e l
  | [], _, h, _ => by cases h
  | x :: r, d, h, hq => by
    rw [DataW.weightsAll]
    rcases List.mem_cons.1 h with rfl | h
    · exact List.mem_append_left _ hq
    · exact List.mem_append_right _ (mem_weightsAllP h hq)
theorem weights_pDw {H : Type} (q : Pt) : q.k.data.toList.length ∈ (pDw (H := H) q).weights Tryz.prog 45 ∧ q.v.data.toList.length ∈ (pDw (H := H) q).weights Tryz.prog 45 := by
  have hu := Tryz.underlying45
  constructor <;> simp [pDw, DataW.weights, DataW.weightsEach, hu]
theorem open_puts {H : Type} {enc : TypeId × Value → H} {W : World} {fuel : Nat} {a : Option Addr} {len cap : Nat} {x : DataW H × List MemPlace} (h : DataW.trod enc Tryz.prog W 0 (fun _ => true) true fuel 37 [.slice a len cap] = some x) (hw : ∀ q ∈ x.1.weights Tryz.prog 37, q ≤ 140737488351232) :
    ∃ l : List Pt, l.length = len ∧ InP W a l ∧ len ≤ 140737488355328 ∧ FitP l ∧ (l = [] ∨ ∃ sp, x.1 = .slice (l.map pDw) sp) := by
  rcases open_slice Tryz.underlying37 h with ⟨hcs, hx⟩ | ⟨a', len', cap', m, n, D, Pl, hcs, _, hl, hm, hmm, hx, hel⟩
  · simp only [List.cons.injEq, and_true, Value.slice.injEq] at hcs
    obtain ⟨rfl, rfl, rfl⟩ := hcs
    exact ⟨[], rfl, .inl rfl, by omega, fun x hx => (by cases hx), .inl rfl⟩
  · simp only [List.cons.injEq, and_true, Value.slice.injEq] at hcs
    obtain ⟨rfl, rfl, rfl⟩ := hcs
    have hmc : m = cap := by simpa using hmm
    subst hmc hx
    have each : ∀ i, i < len → ∃ q : Pt, ∃ cs', W.cells? 0 (a'.add (i * 3)) 3 = some cs' ∧ cs' = [.string q.k, .string q.v, .bool q.g] ∧ D i = pDw q := by
      intro i hi
      obtain ⟨cs', h1, h2⟩ := hel i (by omega)
      rw [cellsPt] at h1
      obtain ⟨q, hq, hd⟩ := open_put h2
      exact ⟨q, cs', h1, hq, hd⟩
    letI : Inhabited Pt := ⟨noP⟩
    obtain ⟨q, hq⟩ := choose_lt each
    simp only [maxLen] at hm
    have hdat : (l : List Pt) → l = (List.range len).map q → ∃ sp, (DataW.slice ((List.range len).map D) ((List.range (m - len)).map fun j => D (len + j)) : DataW H) = .slice (l.map pDw) sp := by
      intro l hl
      refine ⟨(List.range (m - len)).map fun j => D (len + j), ?_⟩
      congr 1
      subst hl
      apply List.ext_getElem
      · simp
      · intro i h1 h2
        have hi : i < len := by simpa using h1
        obtain ⟨_, _, _, h3⟩ := hq i hi
        simp [h3]
    obtain ⟨sp, hsp⟩ := hdat _ rfl
    refine ⟨(List.range len).map q, by simp, ?_, ?_, ?_, .inr ⟨sp, hsp⟩⟩
    · by_cases h0 : len = 0
      · left; subst h0; rfl
      · right
        have hsp : ∀ i, i < len → W.cell? (a'.add (i * 3)) = some (.string (q i).k) ∧ W.cell? (a'.add (i * 3 + 1)) = some (.string (q i).v) ∧ W.cell? (a'.add (i * 3 + 2)) = some (.bool (q i).g) := by
          intro i hi
          obtain ⟨cs', h1, h2, _⟩ := hq i hi
          obtain ⟨_, hlen, hcell⟩ := World.cells?_some h1
          subst h2
          have e0 := hcell 0 (by omega)
          have e1 := hcell 1 (by omega)
          have e2 := hcell 2 (by omega)
          rw [add_add] at e0 e1 e2
          exact ⟨by simpa using e0, by simpa using e1, by simpa using e2⟩
        obtain ⟨b, off, spot⟩ := a'
        have hc := (hsp 0 (by omega)).1
        have hspot : spot = none := by simpa [Addr.add] using World.cell?_spot hc
        subst hspot
        rw [add_plain] at hc
        refine ⟨b, off, rfl, World.block_lt_of_cell? _ _ hc, fun i x hx => ?_⟩
        have hi : i < len := by
          have := (List.getElem?_eq_some_iff.1 hx).1
          simpa using this
        have hxq : x = q i := by simpa [hi] using hx.symm
        subst hxq
        have := hsp i hi
        rw [add_plain, add_plain, add_plain] at this
        exact this
    · have hq2 := hw ((((List.range len).map D).length + ((List.range (m - len)).map fun j => D (len + j)).length) * 40) (by
        simp only [DataW.weights, Tryz.underlying37, bytesPt]
        exact List.mem_cons_self)
      simp only [List.length_map, List.length_range] at hq2
      omega
    · intro y hy
      obtain ⟨i, hi, rfl⟩ := List.mem_map.1 hy
      have hi' : i < len := List.mem_range.1 hi
      obtain ⟨_, _, _, h3⟩ := hq i hi'
      have key : ∀ n ∈ (pDw (H := H) (q i)).weights Tryz.prog 45, n ≤ 140737488351232 := fun n hn => by
        refine hw n ?_
        simp only [DataW.weights, Tryz.underlying37]
        exact List.mem_cons_of_mem _ (List.mem_append_left _ (mem_weightsAllP (List.mem_map.2 ⟨i, hi, h3⟩) hn))
      obtain ⟨w1, w2⟩ := weights_pDw (H := H) (q i)
      have h1 := key _ w1
      have h2 := key _ w2
      have e1 : (q i).k.data.toList.length = (q i).k.size := by simp
      have e2 : (q i).v.data.toList.length = (q i).v.size := by simp
      omega
end Go.Proofs.YtcindeechmpalaaGreat
namespace Go.Proofs.YtcindeechmpalaaGreat
open Go.ChangeShapes Go.WideShapes Go.ChangeAt Go.RowKit Go.Deep
set_option linter.unusedVariables false
/-- an act -/
structure Ka where
  k : Int
  n : Int
  ba : Option Addr
  bl : Nat
  bc : Nat
  P : List Pt
  ka : Option Addr
  kl : Nat
  kc : Nat
  Z : List Int
  key : ByteArray
  fr : ByteArray
  to : ByteArray
/-- what a Keep holds -/
def KeepK (w : World) (a : Option Addr) (len cap : Nat) (z : List Int) : Prop := z.length = len ∧ InK w a z ∧ (a = none → len = 0 ∧ cap = 0) ∧ len ≤ 17592186044416 ∧ ∀ x, a = some x → z ≠ [] → x.block < w.heap.size
def Ka.ok (w : World) (v : Ka) : Prop :=
  (-9223372036854775808 ≤ v.k ∧ v.k ≤ 9223372036854775807) ∧ (-9223372036854775808 ≤ v.n ∧ v.n ≤ 9223372036854775807) ∧ v.P.length = v.bl ∧ InP w v.ba v.P ∧ v.bl ≤ 140737488355328 ∧ FitP v.P ∧ KeepK w v.ka v.kl v.kc v.Z ∧ v.key.size ≤ 140737488351232 ∧ v.fr.size ≤ 140737488351232 ∧ v.to.size ≤ 140737488351232
def Ka7 (w : World) (g o : Nat) (v : Ka) : Prop := w.cell? ⟨g, o, none⟩ = some (.int .i64 v.k) ∧ w.cell? ⟨g, o + 1, none⟩ = some (.int .i64 v.n) ∧ w.cell? ⟨g, o + 2, none⟩ = some (.slice v.ba v.bl v.bc) ∧ w.cell? ⟨g, o + 3, none⟩ = some (.slice v.ka v.kl v.kc) ∧ w.cell? ⟨g, o + 4, none⟩ = some (.string v.key) ∧ w.cell? ⟨g, o + 5, none⟩ = some (.string v.fr) ∧ w.cell? ⟨g, o + 6, none⟩ = some (.string v.to)
theorem Ka7.kept {w w' : World} {g o : Nat} {v : Ka} (h : Ka7 w g o v) (hb : w'.heap[g]? = w.heap[g]?) : Ka7 w' g o v := by
  obtain ⟨h0, h1, h2, h3, h4, h5, h6⟩ := h
  have e : ∀ i, w'.cell? ⟨g, i, none⟩ = w.cell? ⟨g, i, none⟩ := fun i => World.cell?_of_block (a := ⟨g, i, none⟩) hb
  exact ⟨(e _).trans h0, (e _).trans h1, (e _).trans h2, (e _).trans h3, (e _).trans h4, (e _).trans h5, (e _).trans h6⟩
def InKa (w : World) (a : Option Addr) (len : Nat) (A : Nat → Ka) : Prop :=
  (0 < len → ∃ b off, a = some ⟨b, off, none⟩ ∧ b < w.heap.size ∧ ∀ i, i < len → Ka7 w b (off + i * 7) (A i)) ∧ ∀ i, i < len → (A i).ok w
theorem bytesIk : Tryz.prog.bytesOf 3 = 8 := by kernel_rfl
theorem list7 {A : Type} (l : List A) (h : l.length = 7) : ∃ a b c d e f g, l = [a, b, c, d, e, f, g] := by
  match l, h with
  | [a, b, c, d, e, f, g], _ => exact ⟨a, b, c, d, e, f, g, rfl⟩
theorem cellsIk : Tryz.prog.cellsOf 3 = 1 := by kernel_rfl
theorem cellsIsk : Tryz.prog.cellsOf 38 = 1 := by kernel_rfl
theorem cellsPsk : Tryz.prog.cellsOf 37 = 1 := by kernel_rfl
theorem cellsKa : Tryz.prog.cellsOf 40 = 7 := by kernel_rfl
theorem open_puts0 {H : Type} {enc : TypeId × Value → H} {W : World} {fuel : Nat} {v : Value} {x : DataW H × List MemPlace} (h : DataW.trod enc Tryz.prog W 0 (fun _ => true) true fuel 37 [v] = some x) (hw : ∀ q ∈ x.1.weights Tryz.prog 37, q ≤ 140737488351232) :
    ∃ a len cap l, v = .slice a len cap ∧ l.length = len ∧ InP W a l ∧ len ≤ 140737488355328 ∧ FitP l := by
  rcases open_slice Tryz.underlying37 h with ⟨hcs, _⟩ | ⟨a', len', cap', m, n, D, Pl, hcs, _⟩
  · simp only [List.cons.injEq, and_true] at hcs
    subst hcs
    obtain ⟨l, h1, h2, h3, h4, _⟩ := open_puts h hw
    exact ⟨none, 0, 0, l, rfl, h1, h2, h3, h4⟩
  · simp only [List.cons.injEq, and_true] at hcs
    subst hcs
    obtain ⟨l, h1, h2, h3, h4, _⟩ := open_puts h hw
    exact ⟨some a', len', cap', l, rfl, h1, h2, h3, h4⟩
theorem open_ka {H : Type} {enc : TypeId × Value → H} {W : World} {fuel : Nat} {cs : List Value} {x : DataW H × List MemPlace} (h : DataW.trod enc Tryz.prog W 0 (fun _ => true) true fuel 40 cs = some x) (hw : ∀ q ∈ x.1.weights Tryz.prog 40, q ≤ 140737488351232) :
    ∃ v : Ka, cs = [.int .i64 v.k, .int .i64 v.n, .slice v.ba v.bl v.bc, .slice v.ka v.kl v.kc, .string v.key, .string v.fr, .string v.to] ∧ v.ok W := by
  obtain ⟨xs, m, hx1, rfl, hl, hlen, hf⟩ := DataW.trod_struct Tryz.underlying40 h
  rw [cellsKa] at hl
  obtain ⟨v0, v1, v2, v3, v4, v5, v6, rfl⟩ := list7 cs hl
  obtain ⟨y0, y1, y2, y3, y4, y5, y6, rfl⟩ := list7 xs hlen
  have g0 := hf 0 _ rfl
  have g1 := hf 1 _ rfl
  have g2 := hf 2 _ rfl
  have g3 := hf 3 _ rfl
  have g4 := hf 4 _ rfl
  have g5 := hf 5 _ rfl
  have g6 := hf 6 _ rfl
  simp [cellsIk, cellsTx, cellsPsk, cellsIsk] at g0 g1 g2 g3 g4 g5 g6
  obtain ⟨ka, kl, kc, z, hka, hkz⟩ : ∃ ka kl kc z, v3 = .slice ka kl kc ∧ KeepK W ka kl kc z := by
    rcases open_ints Tryz.underlying38 Tryz.underlying3 (by kernel_rfl) g3 with ⟨hcs, _⟩ | ⟨x, len, cap, zs, hcs, _, hlc, hm, hz, hx, hcell, hwz⟩
    · simp only [List.cons.injEq, and_true] at hcs
      exact ⟨none, 0, 0, [], hcs, rfl, .inl rfl, fun _ => ⟨rfl, rfl⟩, by omega, fun x hx => (by cases hx)⟩
    · simp only [List.cons.injEq, and_true] at hcs
      have hzl : zs.length = cap := by simpa using hz
      have hy : y3.1 = .slice (lits .i64 (zs.take len)) (lits .i64 (zs.drop len)) := by rw [hx]
      have hq := hw ((zs.take len).length + (zs.drop len).length |> (· * 8)) (by
        simp only [DataW.weights, Tryz.underlying40]
        refine DataW.weights_mem_each (j := 3) (t := 38) (d := y3.1) rfl rfl _ ?_
        rw [hy]
        simp only [DataW.weights, Tryz.underlying38, bytesIk, lits, List.length_map]
        exact List.mem_cons_self)
      simp only [List.length_take, List.length_drop] at hq
      have hc2 : ∀ i v, (zs.take len)[i]? = some v → W.cell? (x.add i) = some (.int .i64 v) := fun i v hi => by
        obtain ⟨h1, h2⟩ := List.getElem?_eq_some_iff.1 hi
        have hlt : i < len := by rw [List.length_take] at h1; omega
        have h3 := hcell i (by omega)
        rw [h3]
        have : zs[i]? = some v := by rw [List.getElem?_take] at hi; rw [if_pos hlt] at hi; exact hi
        simp [List.getD, this]
      refine ⟨some x, len, cap, zs.take len, hcs, by rw [List.length_take]; omega, .inr ⟨x, rfl, hc2⟩, fun e => (by cases e), by omega, fun y hy hne => ?_⟩
      cases hy
      obtain ⟨v0', hv0⟩ : ∃ v, (zs.take len)[0]? = some v := ⟨_, List.getElem?_eq_getElem (List.length_pos_iff.2 hne)⟩
      have := hc2 0 _ hv0
      exact World.block_lt_of_cell? _ _ this
  subst hka
  obtain ⟨k, e0, _, b0⟩ := DataW.trod_int Tryz.underlying3 g0
  obtain ⟨n, e1, _, b1⟩ := DataW.trod_int Tryz.underlying3 g1
  obtain ⟨S4, e4, hy4, b4⟩ := DataW.trod_string Tryz.underlying9 g4
  obtain ⟨S5, e5, hy5, b5⟩ := DataW.trod_string Tryz.underlying9 g5
  obtain ⟨S6, e6, hy6, b6⟩ := DataW.trod_string Tryz.underlying9 g6
  simp only [List.cons.injEq, and_true] at e0 e1 e4 e5 e6
  subst e0 e1 e4 e5 e6
  obtain ⟨a, len, cap, l, rfl, h1, h2, h3, h4⟩ := open_puts0 g2 (fun q hq => hw q (by
    simp only [DataW.weights, Tryz.underlying40]
    exact DataW.weights_mem_each (j := 2) (t := 37) (d := y2.1) rfl rfl _ hq))
  have hS4 : S4.size ≤ 140737488351232 := hw _ (by
    simp only [DataW.weights, Tryz.underlying40]
    refine DataW.weights_mem_each (j := 4) (t := 9) (d := y4.1) rfl rfl _ ?_
    rw [hy4]
    simp [DataW.weights])
  have hS5 : S5.size ≤ 140737488351232 := hw _ (by
    simp only [DataW.weights, Tryz.underlying40]
    refine DataW.weights_mem_each (j := 5) (t := 9) (d := y5.1) rfl rfl _ ?_
    rw [hy5]
    simp [DataW.weights])
  have hS6 : S6.size ≤ 140737488351232 := hw _ (by
    simp only [DataW.weights, Tryz.underlying40]
    refine DataW.weights_mem_each (j := 6) (t := 9) (d := y6.1) rfl rfl _ ?_
    rw [hy6]
    simp [DataW.weights])
  exact ⟨⟨k, n, a, len, cap, l, ka, kl, kc, z, S4, S5, S6⟩, rfl, wf_i64 b0, wf_i64 b1, h1, h2, h3, h4, hkz, hS4, hS5, hS6⟩
theorem open_kacts {H : Type} {enc : TypeId × Value → H} {W : World} {fuel : Nat} {a : Option Addr} {len cap : Nat} {x : DataW H × List MemPlace} (h : DataW.trod enc Tryz.prog W 0 (fun _ => true) true fuel 22 [.slice a len cap] = some x) (hw : ∀ q ∈ x.1.weights Tryz.prog 22, q ≤ 140737488351232) :
    ∃ (A : Nat → Ka), InKa W a len A := by
  rcases open_slice Tryz.underlying22 h with ⟨hcs, hx⟩ | ⟨a', len', cap', m, n, D, Pl, hcs, _, hl, hm, hmm, hx, hel⟩
  · simp only [List.cons.injEq, and_true, Value.slice.injEq] at hcs
    obtain ⟨rfl, rfl, rfl⟩ := hcs
    exact ⟨fun _ => ⟨0, 0, none, 0, 0, [], none, 0, 0, [], ⟨#[]⟩, ⟨#[]⟩, ⟨#[]⟩⟩, ⟨fun h => by omega, fun i hi => by omega⟩⟩
  · simp only [List.cons.injEq, and_true, Value.slice.injEq] at hcs
    obtain ⟨rfl, rfl, rfl⟩ := hcs
    have hmc : m = cap := by simpa using hmm
    subst hmc hx
    have hwi : ∀ i, i < len → ∀ q ∈ (D i).weights Tryz.prog 40, q ≤ 140737488351232 := fun i hi q hq => hw q (by
      simp only [DataW.weights, Tryz.underlying22]
      refine List.mem_cons_of_mem _ (List.mem_append_left _ (mem_weightsAllP (d := D i) ?_ hq))
      exact List.mem_map.2 ⟨i, List.mem_range.2 hi, rfl⟩)
    have each : ∀ i, i < len → ∃ v : Ka, (W.cell? (a'.add (i * 7)) = some (.int .i64 v.k) ∧ W.cell? (a'.add (i * 7 + 1)) = some (.int .i64 v.n) ∧ W.cell? (a'.add (i * 7 + 2)) = some (.slice v.ba v.bl v.bc) ∧ W.cell? (a'.add (i * 7 + 3)) = some (.slice v.ka v.kl v.kc) ∧ W.cell? (a'.add (i * 7 + 4)) = some (.string v.key) ∧ W.cell? (a'.add (i * 7 + 5)) = some (.string v.fr) ∧ W.cell? (a'.add (i * 7 + 6)) = some (.string v.to)) ∧ v.ok W := by
      intro i hi
      obtain ⟨cs', h1, h2⟩ := hel i (by omega)
      rw [cellsKa] at h1
      obtain ⟨v, rfl, hv⟩ := open_ka h2 (hwi i hi)
      obtain ⟨_, hlen, hcell⟩ := World.cells?_some h1
      have e0 := hcell 0 (by omega)
      have e1 := hcell 1 (by omega)
      have e2 := hcell 2 (by omega)
      have e3 := hcell 3 (by omega)
      have e4 := hcell 4 (by omega)
      have e5 := hcell 5 (by omega)
      have e6 := hcell 6 (by omega)
      rw [add_add] at e0 e1 e2 e3 e4 e5 e6
      exact ⟨v, ⟨by simpa using e0, by simpa using e1, by simpa using e2, by simpa using e3, by simpa using e4, by simpa using e5, by simpa using e6⟩, hv⟩
    letI : Inhabited Ka := ⟨⟨0, 0, none, 0, 0, [], none, 0, 0, [], ⟨#[]⟩, ⟨#[]⟩, ⟨#[]⟩⟩⟩
    obtain ⟨q, hq⟩ := choose_lt each
    refine ⟨q, fun h0 => ?_, fun i hi => (hq i hi).2⟩
    obtain ⟨b, off, spot⟩ := a'
    have hc := (hq 0 h0).1.1
    have hspot : spot = none := by simpa [Addr.add] using World.cell?_spot hc
    subst hspot
    rw [add_plain] at hc
    refine ⟨b, off, rfl, World.block_lt_of_cell? _ _ hc, fun i hi => ?_⟩
    have := (hq i hi).1
    rw [add_plain, add_plain, add_plain, add_plain, add_plain, add_plain, add_plain] at this
    exact this
end Go.Proofs.YtcindeechmpalaaGreat
namespace Go.Proofs.YtcindeechmpalaaGreat
open Go.ChangeShapes Go.WideShapes Go.ChangeAt Go.RowKit Go.Deep Go.Maps
set_option linter.unusedVariables false
theorem kreset_free {s : Ds} {l : Lg} {T : ByteArray → Option Pt} {L : List Pt} (h : Gd s l) (hno : l.no < 1152921504606846976) (hW : l.W = []) (hL : LstP T allK L) (hT : AtKey T) (hok : ∀ x ∈ L, badP x = false) : ∃ c l' s', l.reset s ((snapB L).map eB) = (c, l', s') ∧ ((c = 0 ∧ Gd s' l' ∧ l'.W = [] ∧ Rec l'.R T L ∧ l'.no ≤ l.no + 1 ∧ l'.R.length ≤ L.length) ∨ ((c = 2 ∨ c = 3 ∨ c = 7) ∧ l' = l ∧ s' = s)) := by
  have hb := snap_bytes hok
  by_cases hf : (frO ((snapB L).map eB) (64 * l.m)).2 = 0
  · obtain ⟨s', e, g, hD⟩ := gd_reset h hno hW _ hb hf
    exact ⟨0, _, s', e, .inl ⟨rfl, g, rfl, Rec.snap hL hT hok, Nat.le_refl _, by show ((snapB L).map eB).length ≤ _; rw [List.length_map]; exact (snap_all L.length L (Nat.le_refl _) hok).2.2⟩⟩
  · refine ⟨(frO ((snapB L).map eB) (64 * l.m)).2, l, s, ?_, .inr ⟨?_, rfl, rfl⟩⟩
    · unfold Lg.reset
      rw [if_neg (by rw [h.lost]; simp), if_neg (by simpa using hW), if_pos hf]
    · rcases frO_code ((snapB L).map eB) (64 * l.m) with h1 | h1 | h1
      · exact absurd h1 hf
      · exact .inr (.inl h1)
      · exact .inr (.inr h1)
theorem kdo_free {s : Ds} {l : Lg} {T : ByteArray → Option Pt} {L : List Pt} (pts : List Pt) (h : Gd s l) (hno : l.no < 1152921504606846976) (hW : l.W = []) (hr : Rec l.R T L) : ∃ c l' s', kdo l s L pts = (c, l', s') ∧ ((c = 0 ∧ Gd s' l' ∧ l'.W = [] ∧ Rec l'.R (chT T pts) (apL L pts) ∧ l'.no ≤ l.no + 1 ∧ l'.R.length ≤ max (l.R.length + 1) (apL L pts).length) ∨ ((c = 2 ∨ c = 3 ∨ c = 7) ∧ l' = l ∧ s' = s)) := by
  by_cases h0 : (encA pts).1 = 0
  · obtain ⟨B, hE⟩ : ∃ B, encA pts = (0, B) := ⟨(encA pts).2, by rw [← h0]⟩
    obtain ⟨_, _, h64, hokp, _⟩ := encA_ok hE
    have hB := (encA_bytes hE).1
    have hk : kdo l s L pts = if (l.add B).1 = 0 then (l.add B).2.sync s else if (l.add B).1 = 7 then l.reset s ((snapB (apL L pts)).map eB) else ((l.add B).1, l, s) := by
      unfold kdo
      rw [hE, if_neg (by simp)]
    rw [hk]
    by_cases ha : (l.add B).1 = 0
    · rw [if_pos ha]
      have g1 := gd_add h B hB
      rw [add_good ha] at g1 ⊢
      obtain ⟨s', e, g, hD⟩ := gd_sync g1 hno (by simp)
      refine ⟨0, _, s', e, .inl ⟨rfl, g, rfl, ?_, Nat.le_refl _, ?_⟩⟩
      · show Rec (l.R ++ (l.W ++ [B])) _ _
        rw [hW]
        exact hr.snoc hE
      · show (l.R ++ (l.W ++ [B])).length ≤ _
        rw [hW, List.nil_append, List.length_append]
        exact Nat.le_max_left _ _
    · rw [if_neg ha]
      obtain ⟨hL2, hT2⟩ := apL_lst pts hr.lst.1 hr.lst.2
      by_cases h7 : (l.add B).1 = 7
      · rw [if_pos h7]
        obtain ⟨c, l', s', e, hor⟩ := kreset_free h hno hW hL2 hT2 (apL_good pts hr.ok hokp)
        refine ⟨c, l', s', e, match hor with | .inl ⟨a1, a2, a3, a4, a5, a6⟩ => .inl ⟨a1, a2, a3, a4, a5, Nat.le_trans a6 (Nat.le_max_right _ _)⟩ | .inr h => .inr h⟩
      · rw [if_neg h7]
        refine ⟨_, _, _, rfl, .inr ⟨.inr (.inl ?_), rfl, rfl⟩⟩
        unfold Lg.add at ha h7 ⊢
        rw [if_neg (by rw [h.lost]; simp)] at ha h7 ⊢
        by_cases h2 : (frO [B] l.room).2 ≠ 0
        · rw [if_pos h2] at ha h7 ⊢
          rcases frO_code [B] l.room with h1 | h1 | h1
          · exact absurd h1 ha
          · exact h1
          · exact absurd h1 h7
        · rw [if_neg h2] at ha
          exact absurd rfl ha
  · have hk : kdo l s L pts = ((encA pts).1, l, s) := by unfold kdo; rw [if_pos h0]
    rw [hk]
    refine ⟨_, _, _, rfl, .inr ⟨?_, rfl, rfl⟩⟩
    rcases encA_code pts with h1 | h1 | h1
    · exact absurd h1 h0
    · exact .inl h1
    · exact .inr (.inl h1)
theorem Sm.blk {w w' : World} {b n : Nat} {M : ByteArray → Option ByteArray} (h : Sm w b n M) (hb : w'.heap[b]? = w.heap[b]?) : Sm w' b n M := by
  obtain ⟨D, ⟨es, clock, h1, r⟩, h2⟩ := h
  exact ⟨D, ⟨es, clock, hb.trans h1, r⟩, h2⟩
/-- what is kept of a slice's block -/
def SlB (a : Option Addr) (pts : List Pt) (k : Nat) : Prop := ∃ x, a = some x ∧ pts ≠ [] ∧ x.block = k
/-- the database in block bb, over the map in block b2, behind at most j batches; the blocks P are neither's -/
structure Mq (w wr : World) (P : Nat → Prop) (bd bb bl mb b2 j N C C2 : Nat) (s : Ds) (l : Lg) (T : ByteArray → Option Pt) (L : List Pt) (M : ByteArray → Option ByteArray) : Prop where
  kb : Kb w wr (fun k => k = b2 ∨ P k) bb bd bl mb N C s l T
  sm : Sm wr b2 C2 M
  ml : ∀ q, (M q).isSome = true → q.size ≤ 140737488355328
  W : l.W = []
  no : l.no ≤ 1 + j
  rc : Rec l.R T L
  ll : L.length ≤ 70 * j
  rl : l.R.length ≤ 70 * j
  nn : N ≤ 2 + 2102 * j
  cc : C ≤ 140000 + 70 * j
  c2 : C2 ≤ 70 * j
theorem Rec.sz {R : List (List Int)} {T : ByteArray → Option Pt} {L : List Pt} {M : ByteArray → Option ByteArray} (h : Rec R T L) (hM : AsM T M) : ∀ q, (M q).isSome = true → q.size ≤ 140737488355328 := fun q hq => by
  rw [hM q] at hq
  cases hT : T q with
  | none => rw [hT] at hq; cases hq
  | some x =>
    have hk := (h.lst.2 q x hT).1
    have hx : x ∈ L := (h.lst.1.mem x).2 ⟨by rw [hk]; exact hT, rfl⟩
    have := badP_no (h.ok x hx)
    rw [← hk]
    omega
theorem Mq.keep {w wr w' : World} {P : Nat → Prop} {bd bb bl mb b2 j N C C2 : Nat} {s : Ds} {l : Lg} {T : ByteArray → Option Pt} {L : List Pt} {M : ByteArray → Option ByteArray} (h : Mq w wr P bd bb bl mb b2 j N C C2 s l T L M) (hb : Below wr.heap.size wr w') : Mq w w' (fun k => P k ∨ (wr.heap.size ≤ k ∧ k < w'.heap.size)) bd bb bl mb b2 j N C C2 s l T L M :=
  ⟨(h.kb.keep hb).less (fun k hk => hk.elim (fun e => .inl (.inl e)) (fun e => e.elim (fun e => .inl (.inr e)) .inr)), h.sm.keep hb, h.ml, h.W, h.no, h.rc, h.ll, h.rl, h.nn, h.cc, h.c2⟩
theorem Mq.less {w wr : World} {P Q : Nat → Prop} {bd bb bl mb b2 j N C C2 : Nat} {s : Ds} {l : Lg} {T : ByteArray → Option Pt} {L : List Pt} {M : ByteArray → Option ByteArray} (h : Mq w wr P bd bb bl mb b2 j N C C2 s l T L M) (hq : ∀ k, Q k → P k) : Mq w wr Q bd bb bl mb b2 j N C C2 s l T L M :=
  ⟨h.kb.less (fun k hk => match hk with | .inl h => .inl h | .inr e => .inr (hq k e)), h.sm, h.ml, h.W, h.no, h.rc, h.ll, h.rl, h.nn, h.cc, h.c2⟩
theorem Mq.more {w wr : World} {P : Nat → Prop} {bd bb bl mb b2 j j' N C C2 : Nat} {s : Ds} {l : Lg} {T : ByteArray → Option Pt} {L : List Pt} {M : ByteArray → Option ByteArray} (h : Mq w wr P bd bb bl mb b2 j N C C2 s l T L M) (hj : j ≤ j') : Mq w wr P bd bb bl mb b2 j' N C C2 s l T L M := by
  obtain ⟨h1, h2, h3, h4, h5, h6, h7, h8, h9, h10, h11⟩ := h
  exact ⟨h1, h2, h3, h4, by omega, h6, by omega, by omega, by omega, by omega, by omega⟩
theorem mq_has {w wr : World} {P : Nat → Prop} {bd bb bl mb b2 j N C C2 : Nat} {s : Ds} {l : Lg} {T : ByteArray → Option Pt} {L : List Pt} {M : ByteArray → Option ByteArray} (h : Mq w wr P bd bb bl mb b2 j N C C2 s l T L M) (hA : AsM T M) (hj : j ≤ 40) :
    Calls Tryz.prog 33 #[.pointer (some ⟨bb, 0, none⟩), .map (some b2)] wr fun e w' => e = .returned (.bool true) ∧ Below wr.heap.size wr w' := by
  have k := khas_is wr bb bl mb C T L h.kb.box h.kb.mp (by have := h.cc; omega) h.rc.lst.2 h.rc.lst.1 h.rc.ok b2 C2 M (L.map Pt.k) h.sm (hA.keys h.rc.lst.1 h.rc.lst.2) (by rw [List.length_map]; have := h.ll; omega)
  rw [hA.hasB h.rc.lst.1] at k
  exact k
theorem mq_small {w wr : World} {bd bb bl mb b2 j N C C2 : Nat} {s : Ds} {l : Lg} {T : ByteArray → Option Pt} {L : List Pt} {M : ByteArray → Option ByteArray} (h : Mq w wr (fun _ => False) bd bb bl mb b2 j N C C2 s l T L M) (v : Ka) (hv : v.ok w) :
    Calls Tryz.prog 14 #[.slice v.ba v.bl v.bc] wr fun e w' => ∃ a n c pts, e = .returned (.slice a n c) ∧ pts = smK v.P ∧ pts.length = n ∧ InP w' a pts ∧ Mq w w' (SlB a pts) bd bb bl mb b2 j N C C2 s l T L M := by
  obtain ⟨_, _, h3, h4, h5, h6, _⟩ := hv
  refine (ksmall_is v.P v.bl h3 h5 h6 v.ba v.bc wr (h4.keep h.kb.bel)).mono ?_
  rintro e w' ⟨u, rfl, ho, hb⟩
  obtain ⟨a, c, rfl, hi, _, _, _, hbl⟩ := ho.slice
  refine ⟨a, _, c, _, rfl, rfl, rfl, hi, (h.keep hb).less (fun k hk => ?_)⟩
  obtain ⟨x, hx, hne, rfl⟩ := hk
  exact .inr (hbl x hx)
/-- Do, on a disk without a fuse -/
theorem mq_do {w wr : World} {bd bb bl mb b2 j N C C2 : Nat} {s : Ds} {l : Lg} {T : ByteArray → Option Pt} {L pts : List Pt} {M : ByteArray → Option ByteArray} {a : Option Addr} (h : Mq w wr (SlB a pts) bd bb bl mb b2 j N C C2 s l T L M) (hg : Gd s l) (hj : j ≤ 40) (n c : Nat) (hn : pts.length = n) (h70 : pts.length ≤ 70) (hf : FitP pts) (hi : InP wr a pts) :
    Calls Tryz.prog 15 #[.pointer (some ⟨bb, 0, none⟩), .slice a n c] wr fun e w' => ∃ q : Int, e = .returned (.int .i64 q) ∧ InP w' a pts ∧ ((q = 0 ∧ ∃ N' C' s' l', Mq w w' (SlB a pts) bd bb bl mb b2 (j + 1) N' C' C2 s' l' (chT T pts) (apL L pts) M ∧ Gd s' l' ∧ N' ≤ 2102 * (j + 1)) ∨ ((q = 2 ∨ q = 3 ∨ q = 7) ∧ ∃ N' C', Mq w w' (SlB a pts) bd bb bl mb b2 (j + 1) N' C' C2 s l T L M ∧ N' ≤ 2102 * (j + 1))) := by
  have hal := apL_len L pts
  have hll := h.ll
  have hrl := h.rl
  have hnn := h.nn
  have hcc := h.cc
  have hc2 := h.c2
  have hno := h.no
  obtain ⟨q, l', s', e, hor⟩ := kdo_free pts hg (by omega) h.W h.rc
  refine (kDo_is h.kb (by omega) L pts hf (by omega) (by omega) (by omega) h.rc.lst.1 h.rc.lst.2 h.rc.ok (gd_fit (Gu.of hg)) a n c hn hi (fun x hx hne => .inr ⟨x, hx, hne, rfl⟩)).mono ?_
  rw [e]
  rintro e w' ⟨rfl, h1, h2⟩
  refine ⟨q, rfl, inp_by hi (P := SlB a pts) (fun x hx hne => ⟨x, hx, hne, rfl⟩) (fun k hk => h2 k (.inr hk)) (fun k hk => h1.plt k (.inr hk)), ?_⟩
  have hsm : Sm w' b2 C2 M := h.sm.blk (h2 b2 (.inl rfl))
  rcases hor with ⟨rfl, a1, a2, a3, a4, a5⟩ | ⟨hq, rfl, rfl⟩
  · rw [if_pos rfl] at h1
    refine .inl ⟨rfl, _, _, s', l', ⟨h1, hsm, h.ml, a2, by omega, a3, by omega, ?_, by omega, by omega, by omega⟩, a1, by omega⟩
    have h3 : l.R.length + 1 ≤ 70 * (j + 1) := by omega
    have h4 : (apL L pts).length ≤ 70 * (j + 1) := by omega
    exact Nat.le_trans a5 (Nat.max_le.2 ⟨h3, h4⟩)
  · have hq0 : q ≠ 0 := by rcases hq with rfl | rfl | rfl <;> decide
    have h1' : Kb w w' (fun k => k = b2 ∨ SlB a pts k) bb bd bl mb (N + 2100) (C + n) s' l' T := by
      have := h1
      simp only [hq0, if_false] at this
      exact this
    exact .inr ⟨hq, _, _, ⟨h1', hsm, h.ml, h.W, by omega, h.rc, by omega, by omega, by omega, by omega, by omega⟩, by omega⟩
theorem mq_compact {w wr : World} {P : Nat → Prop} {bd bb bl mb b2 j N C C2 : Nat} {s : Ds} {l : Lg} {T : ByteArray → Option Pt} {L : List Pt} {M : ByteArray → Option ByteArray} (h : Mq w wr P bd bb bl mb b2 j N C C2 s l T L M) (hg : Gd s l) (hj : j ≤ 40) :
    Calls Tryz.prog 17 #[.pointer (some ⟨bb, 0, none⟩)] wr fun e w' => ∃ q : Int, e = .returned (.int .i64 q) ∧ (q = 0 ∨ q = 2 ∨ q = 3 ∨ q = 7) ∧ ∃ N' C' s' l', Mq w w' P bd bb bl mb b2 (j + 1) N' C' C2 s' l' T L M ∧ Gd s' l' ∧ N' ≤ 2102 * (j + 1) := by
  have hll := h.ll
  have hrl := h.rl
  have hnn := h.nn
  have hcc := h.cc
  have hc2 := h.c2
  have hno := h.no
  obtain ⟨q, l', s', e, hor⟩ := kreset_free hg (by omega) h.W h.rc.lst.1 h.rc.lst.2 h.rc.ok
  have e' : kcm l s L = (q, l', s') := e
  refine (kCompact_is h.kb (by omega) L (by omega) (by omega) h.rc.lst.1 h.rc.lst.2 h.rc.ok).mono ?_
  rw [e']
  rintro e w' ⟨rfl, h1, h2⟩
  have hsm : Sm w' b2 C2 M := h.sm.blk (h2 b2 (.inl rfl))
  rcases hor with ⟨rfl, a1, a2, a3, a4, a5⟩ | ⟨hq, rfl, rfl⟩
  · exact ⟨0, rfl, .inl rfl, _, _, s', l', ⟨h1, hsm, h.ml, a2, by omega, a3, by omega, by omega, by omega, by omega, by omega⟩, a1, by omega⟩
  · exact ⟨q, rfl, .inr hq, _, _, s', l', ⟨h1, hsm, h.ml, h.W, by omega, h.rc, by omega, by omega, by omega, by omega, by omega⟩, hg, by omega⟩
theorem mq_does {w wr : World} {bd bb bl mb b2 j N C C2 : Nat} {s : Ds} {l : Lg} {T T0 : ByteArray → Option Pt} {L pts : List Pt} {M : ByteArray → Option ByteArray} {a : Option Addr} {P : Nat → Prop} (h : Mq w wr P bd bb bl mb b2 j N C C2 s l T L M) (n c : Nat) (hn : pts.length = n) (h70 : pts.length ≤ 70) (hf : FitP pts) (hi : InP wr a pts) (hj : j ≤ 40) :
    Calls Tryz.prog 32 #[.map (some b2), .slice a n c] wr fun e w' => ∃ b3, e = .returned (.map (some b3)) ∧ Sm w' b3 (C2 + n) (mhT M pts) ∧ wr.heap.size ≤ b3 ∧ Below wr.heap.size wr w' := by
  have hc2 := h.c2
  exact kdoes_is wr b2 C2 M h.sm (by omega) pts n hn (by omega) (fun x hx => (hf x hx).1) h.ml a c hi
/-- Open of a disk whose log has these records -/
theorem mq_open {w wr : World} {P : Nat → Prop} {bd b2 j N C2 : Nat} {s s' : Ds} {l : Lg} {T : ByteArray → Option Pt} {L : List Pt} {M : ByteArray → Option ByteArray} (hd : Wd w wr (fun k => k = b2 ∨ P k) bd N s) (hop : s.opn = (0, some l, s')) (hW : l.W = []) (hno : l.no ≤ 1 + j) (hr : Rec l.R T L) (hl1 : L.length ≤ 70 * j) (hl2 : l.R.length ≤ 70 * j) (hN : N ≤ 2102 * j) (hj : j ≤ 31) (hsm : Sm wr b2 C2 M) (hml : ∀ q, (M q).isSome = true → q.size ≤ 140737488355328) (hc : C2 ≤ 70 * j) :
    Calls Tryz.prog 12 #[.pointer (some ⟨bd, 0, none⟩)] wr fun e w' => ∃ bb bl mb N' C', e = .returned (.tuple #[.pointer (some ⟨bb, 0, none⟩), .int .i64 0]) ∧ Mq w w' P bd bb bl mb b2 j N' C' C2 s' l T L M ∧ ∀ k, k = b2 ∨ P k → w'.heap[k]? = wr.heap[k]? := by
  obtain ⟨bs, hb, rfl, hLe⟩ := hr
  have hbl : bs.length = l.R.length := by rw [hb.1, List.length_map]
  refine (kOpen_ok hd (by omega) hop bs hb).mono ?_
  rintro e w' ⟨bb, bl, mb, rfl, h1, h2⟩
  exact ⟨bb, bl, mb, _, _, rfl, ⟨h1, hsm.blk (h2 b2 (.inl rfl)), hml, hW, hno, ⟨bs, hb, rfl, hLe⟩, hl1, hl2, by omega, by omega, hc⟩, h2⟩
end Go.Proofs.YtcindeechmpalaaGreat
namespace Go.Proofs.YtcindeechmpalaaGreat
open Go.ChangeShapes Go.WideShapes Go.ChangeAt Go.RowKit Go.Deep Go.Maps
set_option linter.unusedVariables false
set_option linter.unusedSimpArgs false
theorem sN_lit (A : List Int) (ha : ∀ x ∈ A, 0 ≤ x ∧ x ≤ 255) : sN (strOfNums A) = A := sN_nums (bytes_of_mem ha)
def pKv : Pt := ⟨⟨#[107]⟩, ⟨#[118]⟩, false⟩
def pAx : Pt := ⟨⟨#[97]⟩, ⟨#[120]⟩, false⟩
def pBg : Pt := ⟨⟨#[98]⟩, ⟨#[]⟩, true⟩
theorem tB_one (c : Nat) (hc : c ≤ 255) (S : ByteArray) (h : S = strOfNums [(c : Int)]) (hz : S.size = 1) : tB S = [1, (c : Int)] := by
  unfold tB
  rw [hz, h, sN_lit _ (fun x hx => by have : x = (c : Int) := by simpa using hx
                                      omega)]
  rfl
theorem eB_k : eB [pKv] = [1, 0, 1, 107, 1, 118] := by
  unfold eB csB cB pKv
  simp only [List.flatMap_cons, List.flatMap_nil, List.append_nil, List.length_cons, List.length_nil]
  rw [if_neg (by simp), tB_one 107 (by omega) ⟨#[107]⟩ rfl rfl, tB_one 118 (by omega) ⟨#[118]⟩ rfl rfl]
  rfl
theorem eB_ab : eB [pAx, pBg] = [2, 0, 1, 97, 1, 120, 1, 1, 98] := by
  unfold eB csB
  simp only [List.flatMap_cons, List.flatMap_nil, List.append_nil, List.length_cons, List.length_nil]
  have e1 : cB pAx = [0, 1, 97, 1, 120] := by
    unfold cB pAx
    simp only
    rw [if_neg (by simp), tB_one 97 (by omega) ⟨#[97]⟩ rfl rfl, tB_one 120 (by omega) ⟨#[120]⟩ rfl rfl]
    rfl
  have e2 : cB pBg = [1, 1, 98] := by
    unfold cB pBg
    simp only
    rw [if_pos trivial, tB_one 98 (by omega) ⟨#[98]⟩ rfl rfl]
    rfl
  rw [e1, e2]
  rfl
theorem encA_k : encA [pKv] = (0, [1, 0, 1, 107, 1, 118]) := by
  unfold encA
  rw [eB_k, if_neg (by simp [pKv, badP]; decide), if_neg (by simp), if_neg (by simp)]
theorem encA_ab : encA [pAx, pBg] = (0, [2, 0, 1, 97, 1, 120, 1, 1, 98]) := by
  unfold encA
  rw [eB_ab, if_neg (by simp [pAx, pBg, badP]; decide), if_neg (by simp), if_neg (by simp)]
def kvB : List Int := [1, 0, 1, 107, 1, 118]
theorem kvB_bytes : IsBytes kvB := (encA_bytes encA_k).1
theorem Ks_k : Ks (chTs [[pKv]]) [⟨#[107]⟩] := by
  refine ⟨by simp, fun k => ?_⟩
  show ((ch1 noT pKv) k).isSome = true ↔ _
  unfold ch1 pKv noT
  by_cases h : k = ⟨#[107]⟩
  · simp [h]
  · simp [h]
theorem get_k : (chTs [[pKv]]) ⟨#[107]⟩ = some pKv := by
  show (ch1 noT pKv) ⟨#[107]⟩ = _
  unfold ch1 pKv
  simp
theorem plain_kv : ∃ l1 s1 l2 l3 s3, (Ds.new 20).opn = (0, some l1, s1) ∧ l1.R = [] ∧ (l1.add kvB).1 = 0 ∧ (l1.add kvB).2 = l2 ∧ 2 + l2.ar * l2.m + l2.m ≤ s1.D.length ∧ l2.sync s1 = (0, l3, s3) ∧ (s3.cr []).opn = (0, some l3, s3.cr []) ∧ l3.R = [kvB] := by
  obtain ⟨s1, o1, G1, hD1⟩ := gd_new 20 (by omega) (by omega)
  obtain ⟨l1, hl1⟩ : ∃ l1, l1 = (⟨(20 - 2) / 2, 1, 0, [], [], false⟩ : Lg) := ⟨_, rfl⟩
  rw [← hl1] at o1 G1
  have r1 : l1.room = 576 := by rw [hl1]; rfl
  have a1 : l1.add kvB = (0, ⟨9, 1, 0, [], [kvB], false⟩) := by
    have hx : (frO [kvB] l1.room).2 = 0 := by rw [r1, frO_one]; rfl
    unfold Lg.add
    rw [if_neg (by rw [hl1]; simp), if_neg (by rw [hx]; simp), hl1]
    rfl
  have G2 := gd_add G1 kvB kvB_bytes
  rw [a1] at G2
  obtain ⟨l2, hl2⟩ : ∃ l2, l2 = (⟨9, 1, 0, [], [kvB], false⟩ : Lg) := ⟨_, rfl⟩
  rw [← hl2] at a1 G2
  obtain ⟨s3, y3, G3, hD3⟩ := gd_sync G2 (by rw [hl2]; decide) (by rw [hl2]; simp)
  obtain ⟨l3, hl3⟩ : ∃ l3, l3 = ({ l2 with no := l2.no + 1, R := l2.R ++ l2.W, W := [] } : Lg) := ⟨_, rfl⟩
  rw [← hl3] at y3 G3
  have G4 := gd_crash G3 []
  have o4 := gd_open G4
  have e4 : ({ l3 with W := [] } : Lg) = l3 := by rw [hl3]
  rw [e4] at o4
  exact ⟨l1, s1, l2, l3, s3, o1, by rw [hl1], by rw [a1], by rw [a1], by rw [hD1, hl2]; decide, y3, o4, by rw [hl3, hl2]; rfl⟩
theorem bts_k : Bts [kvB] [[pKv]] := by
  refine ⟨by show [kvB] = [eB [pKv]]; rw [eB_k]; rfl, fun b hb => ?_⟩
  obtain rfl : b = [pKv] := by simpa using hb
  rw [encA_k, eB_k]
theorem in_two (w : World) : InP (w.alloc (.cells #[.string ⟨#[97]⟩, .string ⟨#[120]⟩, .bool false, .string ⟨#[98]⟩, .string ⟨#[]⟩, .bool true] 45)) (some ⟨w.heap.size, 0, none⟩) [pAx, pBg] := by
  have h := heap_alloc_new w (.cells #[.string ⟨#[97]⟩, .string ⟨#[120]⟩, .bool false, .string ⟨#[98]⟩, .string ⟨#[]⟩, .bool true] 45)
  refine .inr ⟨w.heap.size, 0, rfl, by simp, fun i x hx => ?_⟩
  match i, hx with
  | 0, hx =>
    have : pAx = x := by simpa using hx
    subst this
    refine ⟨?_, ?_, ?_⟩ <;> (rw [cell_of_row _ _ _ _ _ (0, 0) h]; rfl)
  | 1, hx =>
    have : pBg = x := by simpa using hx
    subst this
    refine ⟨?_, ?_, ?_⟩ <;> (rw [cell_of_row _ _ _ _ _ (0, 0) h]; rfl)
  | i + 2, hx => simp at hx
theorem in_one (w : World) : InP (w.alloc (.cells #[.string ⟨#[107]⟩, .string ⟨#[118]⟩, .bool false] 45)) (some ⟨w.heap.size, 0, none⟩) [pKv] := by
  have h := heap_alloc_new w (.cells #[.string ⟨#[107]⟩, .string ⟨#[118]⟩, .bool false] 45)
  refine .inr ⟨w.heap.size, 0, rfl, by simp, fun i x hx => ?_⟩
  match i, hx with
  | 0, hx =>
    have : pKv = x := by simpa using hx
    subst this
    refine ⟨?_, ?_, ?_⟩ <;> (rw [cell_of_row _ _ _ _ _ (0, 0) h]; rfl)
  | i + 1, hx => simp at hx
theorem fit_small {l : List Pt} (h : ∀ x ∈ l, badP x = false) : FitP l := fit_ok h
set_option maxRecDepth 100000 in
set_option maxHeartbeats 8000000 in
theorem kworks_true (w : World) : Calls Tryz.prog 11 #[] w fun e w' => e = .returned (.bool true) ∧ Below w.heap.size w w' := by
  obtain ⟨l1, s1, l2, l3, s3, p1, p2, p3, p4, p5, p6, p7, p8⟩ := plain_kv
  have HPL : Hid ((Ds.new 20).opn = (0, some l1, s1) ∧ l1.R = [] ∧ (l1.add kvB).1 = 0 ∧ (l1.add kvB).2 = l2 ∧ 2 + l2.ar * l2.m + l2.m ≤ s1.D.length ∧ l2.sync s1 = (0, l3, s3) ∧ (s3.cr []).opn = (0, some l3, s3.cr []) ∧ l3.R = [kvB]) := ⟨p1, p2, p3, p4, p5, p6, p7, p8⟩
  have K1 : Hid (Calls Tryz.prog 9 #[.int .i64 20] w fun e w' => ∃ b, e = .returned (.tuple #[.pointer (some ⟨b, 0, none⟩), .int .i64 0]) ∧ Wd w w' (fun k => k < w.heap.size) b 0 (Ds.new 20) ∧ Below w.heap.size w w') := wd_new 20 (by omega) (by omega) w w (Below.refl _ _)
  have KE : Hid (∀ W : World, Calls Tryz.prog 24 #[.slice (some ⟨W.heap.size, 0, none⟩) 2 2] (W.alloc (.cells #[.string ⟨#[97]⟩, .string ⟨#[120]⟩, .bool false, .string ⟨#[98]⟩, .string ⟨#[]⟩, .bool true] 45)) fun e w' => e = .returned (.tuple #[.string ⟨#[2, 0, 1, 97, 1, 120, 1, 1, 98]⟩, .int .i64 0]) ∧ Below W.heap.size W w') := fun W => by
    have k := kEncode_is [pAx, pBg] 2 rfl (by omega) (fit_ok (encA_ok encA_ab).2.2.2.1) (some ⟨W.heap.size, 0, none⟩) 2 _ (in_two W)
    rw [encA_ab] at k
    refine k.mono ?_
    rintro e w' ⟨rfl, hb⟩
    exact ⟨rfl, (below1 W _).trans (hb.mono (by simp))⟩
  clear p1 p2 p3 p4 p5 p6 p7 p8
  go_enter Tryz.func11, Tryz.ntmps11
  go_wp2_with fail
  refine K1.out.mono ?_
  rintro e w1 ⟨bd, rfl, T1, hb1⟩
  have HT1 : Hid (Wd w w1 (fun k => k < w.heap.size) bd 0 (Ds.new 20)) := T1
  clear T1 hb1
  have KO : Hid (Calls Tryz.prog 12 #[.pointer (some ⟨bd, 0, none⟩)] w1 fun e w' => ∃ bb bl mb, e = .returned (.tuple #[.pointer (some ⟨bb, 0, none⟩), .int .i64 0]) ∧ Kb w w' (fun k => k < w.heap.size) bb bd bl mb 2 0 s1 l1 noT) := by
    refine (kOpen_ok HT1.out (by omega) HPL.out.1 [] ⟨HPL.out.2.1, fun b hb => by cases hb⟩).mono ?_
    rintro e w' ⟨bb, bl, mb, rfl, h1, _⟩
    exact ⟨bb, bl, mb, rfl, h1⟩
  go_wp2_with fail
  refine KO.out.mono ?_
  rintro e w2 ⟨bb, bl, mb, rfl, hk2⟩
  have HK2 : Hid (Kb w w2 (fun k => k < w.heap.size) bb bd bl mb 2 0 s1 l1 noT) := hk2
  have KE2 := KE.out w2
  clear hk2 KO
  go_wp2_with fail
  refine KE2.mono ?_
  rintro e w3 ⟨rfl, hb3⟩
  have HK3 : Hid (Kb w w3 (fun k => k < w.heap.size) bb bd bl mb 2 0 s1 l1 noT) := (HK2.out.keep hb3).less (fun _ h => .inl h)
  clear hb3 KE2 KE
  obtain ⟨w4, hw4⟩ : ∃ w4, w3.alloc (.cells #[.string ⟨#[107]⟩, .string ⟨#[118]⟩, .bool false] 45) = w4 := ⟨_, rfl⟩
  have W4E : Hid (w3.alloc (.cells #[.string ⟨#[107]⟩, .string ⟨#[118]⟩, .bool false] 45) = w4) := hw4
  have HK4 : Hid (Kb w w4 (fun k => k = w3.heap.size) bb bd bl mb 2 0 s1 l1 noT) := (HK3.out.keep (by rw [← hw4]; exact below1 _ _)).less (fun k hk => .inr ⟨by omega, by rw [← hw4]; simp; omega⟩)
  have KD : Hid (Calls Tryz.prog 15 #[.pointer (some ⟨bb, 0, none⟩), .slice (some ⟨w3.heap.size, 0, none⟩) 1 1] w4 fun e w' => e = .returned (.int .i64 0) ∧ Wd w w' (fun _ => False) bd 2102 s3) := by
    obtain ⟨_, _, q3, q4, q5, q6, _⟩ := HPL.out
    refine (kDo_ok HK4.out (by omega) (by omega) [pKv] kvB encA_k q3 (by rw [q4]; exact q5) (by rw [q4]; exact q6) (some ⟨w3.heap.size, 0, none⟩) 1 1 rfl (by rw [← hw4]; exact in_one w3) (fun x hx _ => by cases hx; rfl)).mono ?_
    rintro e w' ⟨rfl, h1, _⟩
    exact ⟨rfl, h1.wl.disk.less (fun _ h => h.elim)⟩
  clear hw4
  go_wp2_with fail
  rw [show World.alloc w3 _ = w4 from W4E.out]
  refine KD.out.mono ?_
  rintro e w5 ⟨rfl, hd5⟩
  have HD5 : Hid (Wd w w5 (fun _ => False) bd 2102 s3) := hd5
  clear hd5 KD
  have KC : Hid (Calls Tryz.prog 21 #[.pointer (some ⟨bd, 0, none⟩), .slice none 0 0] w5 fun e w' => e = .returned (.int .i64 0) ∧ Wd w w' (fun _ => False) bd 2102 (s3.cr [])) := by
    refine (wd_crash HD5.out (by omega) none 0 0 [] rfl (.inl rfl) (fun x hx => by cases hx)).mono ?_
    rintro e w' ⟨rfl, h1, _⟩
    exact ⟨rfl, h1⟩
  go_wp2_with fail
  refine KC.out.mono ?_
  rintro e w6 ⟨rfl, hd6⟩
  have HD6 : Hid (Wd w w6 (fun _ => False) bd 2102 (s3.cr [])) := hd6
  clear hd6 KC
  have KO2 : Hid (Calls Tryz.prog 12 #[.pointer (some ⟨bd, 0, none⟩)] w6 fun e w' => ∃ bb bl mb, e = .returned (.tuple #[.pointer (some ⟨bb, 0, none⟩), .int .i64 0]) ∧ Kb w w' (fun _ => False) bb bd bl mb 2104 64 (s3.cr []) l3 (chTs [[pKv]])) := by
    obtain ⟨_, _, _, _, _, _, q7, q8⟩ := HPL.out
    refine (kOpen_ok HD6.out (by omega) q7 [[pKv]] (by rw [q8]; exact bts_k)).mono ?_
    rintro e w' ⟨bb, bl, mb, rfl, h1, _⟩
    exact ⟨bb, bl, mb, rfl, h1⟩
  go_wp2_with fail
  refine KO2.out.mono ?_
  rintro e w7 ⟨b2, bl2, mb2, rfl, hk7⟩
  have HK7 : Hid (Kb w w7 (fun _ => False) b2 bd bl2 mb2 2104 64 (s3.cr []) l3 (chTs [[pKv]])) := hk7
  have KG : Hid (Calls Tryz.prog 29 #[.pointer (some ⟨b2, 0, none⟩), .string ⟨#[107]⟩] w7 fun e w' => e = .returned (.tuple #[.string ⟨#[118]⟩, .bool true]) ∧ Below w7.heap.size w7 w') := by
    have k := kGet_is w7 b2 bl2 mb2 64 _ hk7.box hk7.mp ⟨#[107]⟩ (by show 1 ≤ _; omega)
    rw [get_k] at k
    exact k
  clear hk7 KO2
  go_wp2_with fail
  refine KG.out.mono ?_
  rintro e w8 ⟨rfl, hb8⟩
  have HB8 : Hid (Below w.heap.size w w8) := (HK7.out.keep hb8).wl.bel
  have KL : Hid (Calls Tryz.prog 31 #[.pointer (some ⟨b2, 0, none⟩)] w8 fun e w' => e = .returned (.int .i64 1) ∧ w' = w8) := kLen_is w8 b2 bl2 mb2 64 _ (HK7.out.keep hb8).box (HK7.out.keep hb8).mp [⟨#[107]⟩] Ks_k
  clear hb8 KG
  go_wp2_with fail
  refine KL.out.mono ?_
  rintro e w9 ⟨rfl, rfl⟩
  go_wp2_with fail
  go_ret
  exact ⟨rfl, HB8.out⟩
end Go.Proofs.YtcindeechmpalaaGreat
namespace Go.Proofs.YtcindeechmpalaaGreat
open Go.ChangeShapes Go.WideShapes Go.ChangeAt Go.RowKit Go.Deep Go.Maps
set_option linter.unusedVariables false
set_option linter.unusedSimpArgs false
theorem mod_in120 (x : Int) : ∃ r : Nat, Int.tmod (Int.tmod x 120 + 120) 120 = (r : Int) ∧ r < 120 ∧ -120 < Int.tmod x 120 ∧ Int.tmod x 120 < 120 := by
  have g : -120 < Int.tmod x 120 ∧ Int.tmod x 120 < 120 := by
    rcases Int.le_total 0 x with g | g
    · rw [Int.tmod_eq_emod_of_nonneg g]
      omega
    · have e : x.tmod 120 = -((-x).tmod 120) := by rw [Int.neg_tmod, Int.neg_neg]
      rw [e, Int.tmod_eq_emod_of_nonneg (by omega)]
      omega
  have e := Int.tmod_eq_emod_of_nonneg (a := Int.tmod x 120 + 120) (b := 120) (by omega)
  have h0 := Int.emod_nonneg (Int.tmod x 120 + 120) (show (120 : Int) ≠ 0 by omega)
  have h1 := Int.emod_lt_of_pos (Int.tmod x 120 + 120) (show (0 : Int) < 120 by omega)
  exact ⟨(Int.tmod (Int.tmod x 120 + 120) 120).toNat, by rw [e]; omega, by rw [e]; omega, g⟩
/-- the database and the map, alike, behind j acts -/
def MS (w wr : World) (bd bb b2 j : Nat) : Prop := ∃ bl mb N C C2 s l T L M, Mq w wr (fun _ => False) bd bb bl mb b2 j N C C2 s l T L M ∧ Gd s l ∧ AsM T M ∧ N ≤ 2102 * j + 2
/-- the same, with room for one Open more -/
def MS' (w wr : World) (bd bb b2 j : Nat) : Prop := ∃ bl mb N C C2 s l T L M, Mq w wr (fun _ => False) bd bb bl mb b2 j N C C2 s l T L M ∧ Gd s l ∧ AsM T M ∧ N ≤ 2102 * j
theorem MS'.ms {w wr : World} {bd bb b2 j : Nat} (h : MS' w wr bd bb b2 j) : MS w wr bd bb b2 j := by
  obtain ⟨bl, mb, N, C, C2, s, l, T, L, M, h1, h2, h3, h4⟩ := h
  exact ⟨bl, mb, N, C, C2, s, l, T, L, M, h1, h2, h3, by omega⟩
theorem MS.bel {w wr : World} {bd bb b2 j : Nat} (h : MS w wr bd bb b2 j) : Below w.heap.size w wr := by
  obtain ⟨bl, mb, N, C, C2, s, l, T, L, M, h1, _⟩ := h
  exact h1.kb.bel
theorem ms_has {w wr : World} {bd bb b2 j : Nat} (h : MS w wr bd bb b2 j) (hj : j ≤ 40) : Calls Tryz.prog 33 #[.pointer (some ⟨bb, 0, none⟩), .map (some b2)] wr fun e w' => e = .returned (.bool true) ∧ MS w w' bd bb b2 j := by
  obtain ⟨bl, mb, N, C, C2, s, l, T, L, M, h1, h2, h3, h4⟩ := h
  refine (mq_has h1 h3 hj).mono ?_
  rintro e w' ⟨rfl, hb⟩
  exact ⟨rfl, bl, mb, N, C, C2, s, l, T, L, M, (h1.keep hb).less (fun _ h => h.elim), h2, h3, h4⟩
theorem ms_has' {w wr : World} {bd bb b2 j : Nat} (h : MS' w wr bd bb b2 j) (hj : j ≤ 40) : Calls Tryz.prog 33 #[.pointer (some ⟨bb, 0, none⟩), .map (some b2)] wr fun e w' => e = .returned (.bool true) ∧ MS' w w' bd bb b2 j := by
  obtain ⟨bl, mb, N, C, C2, s, l, T, L, M, h1, h2, h3, h4⟩ := h
  refine (mq_has h1 h3 hj).mono ?_
  rintro e w' ⟨rfl, hb⟩
  exact ⟨rfl, bl, mb, N, C, C2, s, l, T, L, M, (h1.keep hb).less (fun _ h => h.elim), h2, h3, h4⟩
theorem ms_open {w wr : World} {bd bb b2 j : Nat} (h : MS' w wr bd bb b2 j) (hj : j ≤ 31) : Calls Tryz.prog 12 #[.pointer (some ⟨bd, 0, none⟩)] wr fun e w' => ∃ bb', e = .returned (.tuple #[.pointer (some ⟨bb', 0, none⟩), .int .i64 0]) ∧ MS w w' bd bb' b2 j := by
  obtain ⟨bl, mb, N, C, C2, s, l, T, L, M, h1, h2, h3, h4⟩ := h
  have hop := gd_open h2
  rw [show ({ l with W := [] } : Lg) = l by rw [← h1.W]] at hop
  refine (mq_open (P := fun _ => False) (h1.kb.wl.disk.less (fun k hk => .inl hk)) hop h1.W h1.no h1.rc h1.ll h1.rl h4 hj h1.sm h1.ml h1.c2).mono ?_
  rintro e w' ⟨bb', bl', mb', N', C', rfl, h5, _⟩
  exact ⟨bb', rfl, bl', mb', N', C', C2, s, l, T, L, M, h5, h2, h3, by have := h5.nn; omega⟩
theorem ms_open2 {w wr : World} {bd bb b2 j : Nat} (h : MS w wr bd bb b2 j) (hj : j ≤ 30) : Calls Tryz.prog 12 #[.pointer (some ⟨bd, 0, none⟩)] wr fun e w' => ∃ bb', e = .returned (.tuple #[.pointer (some ⟨bb', 0, none⟩), .int .i64 0]) ∧ MS w w' bd bb' b2 (j + 1) := by
  obtain ⟨bl, mb, N, C, C2, s, l, T, L, M, h1, h2, h3, h4⟩ := h
  exact ms_open ⟨bl, mb, N, C, C2, s, l, T, L, M, h1.more (Nat.le_succ _), h2, h3, by omega⟩ (by omega)
theorem ms_compact {w wr : World} {bd bb b2 j : Nat} {a : Option Addr} {pts : List Pt} (h : ∃ bl mb N C C2 s l T L M, Mq w wr (SlB a pts) bd bb bl mb b2 j N C C2 s l T L M ∧ Gd s l ∧ AsM T M) (hj : j ≤ 40) : Calls Tryz.prog 17 #[.pointer (some ⟨bb, 0, none⟩)] wr fun e w' => ∃ q : Int, e = .returned (.int .i64 q) ∧ (q = 0 ∨ q = 2 ∨ q = 3 ∨ q = 7) ∧ MS' w w' bd bb b2 (j + 1) := by
  obtain ⟨bl, mb, N, C, C2, s, l, T, L, M, h1, h2, h3⟩ := h
  refine (mq_compact h1 h2 hj).mono ?_
  rintro e w' ⟨q, rfl, hq, N', C', s', l', h4, h5, h6⟩
  exact ⟨q, rfl, hq, bl, mb, N', C', C2, s', l', T, L, M, h4.less (fun _ h => h.elim), h5, h3, h6⟩
/-- behind a Do that was done, ahead of the map's own -/
def MD (w wr : World) (bd bb b2 j : Nat) (a : Option Addr) (pts : List Pt) : Prop := InP wr a pts ∧ ∃ bl mb N C C2 s l T L M, Mq w wr (SlB a pts) bd bb bl mb b2 j N C C2 s l (chT T pts) L M ∧ Gd s l ∧ AsM T M ∧ C2 + 70 ≤ 70 * j ∧ N ≤ 2102 * j
theorem ms_do {w wr : World} {bd bb b2 j : Nat} {a : Option Addr} {pts : List Pt} (h : ∃ bl mb N C C2 s l T L M, Mq w wr (SlB a pts) bd bb bl mb b2 j N C C2 s l T L M ∧ Gd s l ∧ AsM T M) (hj : j ≤ 40) (n c : Nat) (hn : pts.length = n) (h70 : pts.length ≤ 70) (hf : FitP pts) (hi : InP wr a pts) : Calls Tryz.prog 15 #[.pointer (some ⟨bb, 0, none⟩), .slice a n c] wr fun e w' => ∃ q : Int, e = .returned (.int .i64 q) ∧ ((q = 0 ∧ MD w w' bd bb b2 (j + 1) a pts) ∨ ((q = 2 ∨ q = 3 ∨ q = 7) ∧ MS' w w' bd bb b2 (j + 1))) := by
  obtain ⟨bl, mb, N, C, C2, s, l, T, L, M, h1, h2, h3⟩ := h
  refine (mq_do h1 h2 hj n c hn h70 hf hi).mono ?_
  rintro e w' ⟨q, rfl, hi', hor⟩
  refine ⟨q, rfl, ?_⟩
  rcases hor with ⟨rfl, N', C', s', l', h4, h5, h6⟩ | ⟨hq, N', C', h4, h5⟩
  · exact .inl ⟨rfl, hi', bl, mb, N', C', C2, s', l', T, _, M, h4, h5, h3, by have := h1.c2; omega, h6⟩
  · exact .inr ⟨hq, bl, mb, N', C', C2, s, l, T, L, M, h4.less (fun _ h => h.elim), h2, h3, h5⟩
theorem ms_does {w wr : World} {bd bb b2 j : Nat} {a : Option Addr} {pts : List Pt} (h : MD w wr bd bb b2 j a pts) (hj : j ≤ 40) (n c : Nat) (hn : pts.length = n) (h70 : pts.length ≤ 70) (hf : FitP pts) : Calls Tryz.prog 32 #[.map (some b2), .slice a n c] wr fun e w' => ∃ b3, e = .returned (.map (some b3)) ∧ MS' w w' bd bb b3 j := by
  obtain ⟨hi, bl, mb, N, C, C2, s, l, T, L, M, h1, h2, h3, h4, h5⟩ := h
  refine (mq_does (T0 := T) h1 n c hn h70 hf hi hj).mono ?_
  rintro e w' ⟨b3, rfl, hs, hge, hb⟩
  have hA := h3.step pts
  refine ⟨b3, rfl, bl, mb, N, C, C2 + n, s, l, chT T pts, L, mhT M pts, ⟨(h1.kb.keep hb).less (fun k hk => ?_), hs, h1.rc.sz hA, h1.W, h1.no, h1.rc, h1.ll, h1.rl, h1.nn, h1.cc, by omega⟩, h2, hA, h5⟩
  rcases hk with rfl | hk
  · exact .inr ⟨hge, hs.lt⟩
  · exact hk.elim
theorem ms_small {w wr : World} {bd bb b2 j : Nat} (h : MS w wr bd bb b2 j) (v : Ka) (hv : v.ok w) : Calls Tryz.prog 14 #[.slice v.ba v.bl v.bc] wr fun e w' => ∃ a n c pts, e = .returned (.slice a n c) ∧ pts.length = n ∧ pts.length ≤ 70 ∧ FitP pts ∧ InP w' a pts ∧ Below w.heap.size w w' ∧ ∃ bl mb N C C2 s l T L M, Mq w w' (SlB a pts) bd bb bl mb b2 j N C C2 s l T L M ∧ Gd s l ∧ AsM T M := by
  obtain ⟨bl, mb, N, C, C2, s, l, T, L, M, h1, h2, h3, _⟩ := h
  refine (mq_small h1 v hv).mono ?_
  rintro e w' ⟨a, n, c, pts, rfl, rfl, hn, hi, h4⟩
  exact ⟨a, n, c, _, rfl, hn, smK_len _, smK_fitP _, hi, h4.kb.bel, bl, mb, N, C, C2, s, l, T, L, M, h4, h2, h3⟩
set_option maxRecDepth 100000 in
set_option maxHeartbeats 8000000 in
theorem kvMap_walk (x0 : Int) (a : Option Addr) (n c : Nat) (A : Nat → Ka) (w : World) (hx : (Lit.int .i64 x0).wf = true) (hin : InKa w a n A) :
    Calls Tryz.prog 7 #[.int .i64 x0, .slice a n c] w fun e w' => e = .returned (.bool true) ∧ Below w.heap.size w w' := by
  have KW : Hid (∀ u, Calls Tryz.prog 11 #[] u fun e w' => e = .returned (.bool true) ∧ Below u.heap.size u w') := kworks_true
  obtain ⟨r, hr, hr120, hm1, hm2⟩ := mod_in120 x0
  obtain ⟨bn, hbn⟩ : ∃ bn, 6 + r = bn := ⟨_, rfl⟩
  obtain ⟨s1, hop, hgd, hDl⟩ := gd_new bn (by omega) (by omega)
  obtain ⟨l1, hl1⟩ : ∃ l1, l1 = (⟨(bn - 2) / 2, 1, 0, [], [], false⟩ : Lg) := ⟨_, rfl⟩
  rw [← hl1] at hop hgd
  have HOP : Hid ((Ds.new bn).opn = (0, some l1, s1) ∧ l1.R = [] ∧ Gd s1 l1 ∧ l1.W = [] ∧ l1.no = 1) := ⟨hop, by rw [hl1], hgd, by rw [hl1], by rw [hl1]⟩
  have HIN : Hid (InKa w a n A) := hin
  have K1 : Hid (Calls Tryz.prog 9 #[.int .i64 (bn : Int)] w fun e w' => ∃ b, e = .returned (.tuple #[.pointer (some ⟨b, 0, none⟩), .int .i64 0]) ∧ Wd w w' (fun _ => False) b 0 (Ds.new bn)) := by
    refine (wd_new bn (by omega) (by omega) w w (Below.refl _ _)).mono ?_
    rintro e w' ⟨b, rfl, h1, _⟩
    exact ⟨b, rfl, h1.less (fun _ h => h.elim)⟩
  have wr1 : IntKind.i64.wrap (Int.tmod x0 120) = Int.tmod x0 120 := by rw [IntKind.wrap_i64]; omega
  have wr2 : IntKind.i64.wrap (Int.tmod x0 120 + 120) = Int.tmod x0 120 + 120 := by rw [IntKind.wrap_i64]; omega
  have wr3 : IntKind.i64.wrap (r : Int) = (r : Int) := by rw [IntKind.wrap_i64]; omega
  have wr4 : IntKind.i64.wrap (6 + (r : Int)) = (bn : Int) := by rw [IntKind.wrap_i64]; omega
  clear hin hx hop hgd hDl hl1 hbn
  go_enter Tryz.func7, Tryz.ntmps7
  go_wp2_with fail
  refine K1.out.mono ?_
  rintro e w1 ⟨bd, rfl, hd1⟩
  have D1 : Hid (Wd w w1 (fun _ => False) bd 0 (Ds.new bn)) := hd1
  clear hd1 K1
  have KO : Hid (Calls Tryz.prog 12 #[.pointer (some ⟨bd, 0, none⟩)] w1 fun e w' => ∃ bb bl mb, e = .returned (.tuple #[.pointer (some ⟨bb, 0, none⟩), .int .i64 0]) ∧ Kb w w' (fun _ => False) bb bd bl mb 2 0 s1 l1 noT) := by
    refine (kOpen_ok D1.out (by omega) HOP.out.1 [] ⟨HOP.out.2.1, fun b hb => (by cases hb)⟩).mono ?_
    rintro e w' ⟨bb, bl, mb, rfl, h1, _⟩
    exact ⟨bb, bl, mb, rfl, h1⟩
  go_wp2_with fail
  refine KO.out.mono ?_
  rintro e w2 ⟨bb0, bl0, mb0, rfl, hk2⟩
  obtain ⟨w3, hw3⟩ : ∃ w3, w2.alloc (.map #[] 0) = w3 := ⟨_, rfl⟩
  obtain ⟨b20, hb20⟩ : ∃ b20, w2.heap.size = b20 := ⟨_, rfl⟩
  have hmk : (Instr.makeMap 76 none).run Tryz.prog w2 = .ok (.map (some b20)) w3 := by rw [← hw3, ← hb20]; rfl
  have S3 : Hid (MS w w3 bd bb0 b20 0) := by
    refine ⟨bl0, mb0, 2, 0, 0, s1, l1, noT, [], (fun _ => none), ⟨(hk2.keep (by rw [← hw3]; exact below1 _ _)).less (fun k hk => ?_), by rw [← hw3, ← hb20]; exact Sm.empty w2, fun q hq => (by cases hq), HOP.out.2.2.2.1, by rw [HOP.out.2.2.2.2]; exact Nat.le_refl _, by rw [HOP.out.2.1]; exact Rec.nil, Nat.le_refl _, by rw [HOP.out.2.1]; exact Nat.le_refl _, by omega, by omega, by omega⟩, HOP.out.2.2.1, AsM.none, by omega⟩
    rcases hk with rfl | hk
    · exact .inr ⟨by omega, by rw [← hw3]; simp; omega⟩
    · exact hk.elim
  clear hk2 KO hw3 hb20 HOP D1
  go_wp2_with fail
  go_loopg [7, 9, 10] 30 (fun gg V7 V9 i wr => ∃ j bb b2 : Nat, j ≤ n ∧ j ≤ 30 ∧ gg = 30 - j ∧ V7 = .pointer (some ⟨bb, 0, none⟩) ∧ V9 = .map (some b2) ∧ i = .int .i64 (j : Int) ∧ Hid (MS w wr bd bb b2 j))
  case atStart => exact ⟨0, bb0, b20, Nat.zero_le _, Nat.zero_le _, rfl, rfl, rfl, rfl, S3⟩
  case round =>
    obtain ⟨j, bb, b2, hj, hj30, rfl, rfl, rfl, rfl, RW⟩ := hrel
    clear S3
    by_cases hjn : j < n
    · have i1 : (j : Int) < (n : Int) := by omega
      by_cases hj2 : j < 30
      · have i2 : (j : Int) < 30 := by omega
        have ri : IntKind.i64.wrap ((j : Int) + 1) = (j : Int) + 1 := by rw [IntKind.wrap_i64]; omega
        obtain ⟨g, off, rfl, hgw, hcell⟩ := HIN.out.1 (by omega)
        have hck := hcell j hjn
        have hvk := HIN.out.2 j hjn
        have KS := ms_small RW.out (A j) hvk
        have HCL : Hid (∀ W, Below w.heap.size w W → Ka7 W g (off + j * 7) (A j)) := fun W hW => hck.kept (hW.block g hgw)
        obtain ⟨c0, c1, c2, c3, c4, c5, c6⟩ := HCL.out wr RW.out.bel
        clear hcell hck hvk c1 c3 c4 c5 c6
        generalize A j = v at *
        obtain ⟨kk, nn, ba, bl, bc, P, ka, kl, kc, Z, key, fr, to⟩ := v
        simp only at c0 c2 KS
        have HKS : Hid (Calls Tryz.prog 14 #[.slice ba bl bc] wr fun e w' => ∃ a n c pts, e = .returned (.slice a n c) ∧ pts.length = n ∧ pts.length ≤ 70 ∧ FitP pts ∧ InP w' a pts ∧ Below w.heap.size w w' ∧ ∃ bl mb N C C2 s l T L M, Mq w w' (SlB a pts) bd bb bl mb b2 j N C C2 s l T L M ∧ Gd s l ∧ AsM T M) := KS
        clear KS RW
        go_wp2_with fail
        refine HKS.out.mono ?_
        rintro e w4 ⟨a4, n4, c4, pts, rfl, hn4, h70, hf4, hi4, hb4, hm4⟩
        have P4 : Hid (pts.length = n4 ∧ pts.length ≤ 70 ∧ FitP pts ∧ InP w4 a4 pts ∧ ∃ bl mb N C C2 s l T L M, Mq w w4 (SlB a4 pts) bd bb bl mb b2 j N C C2 s l T L M ∧ Gd s l ∧ AsM T M) := ⟨hn4, h70, hf4, hi4, hm4⟩
        clear c0 c2
        obtain ⟨d0, _⟩ := HCL.out w4 hb4
        simp only at d0
        have HCK : Hid (∀ W, Below w.heap.size w W → W.cell? ⟨g, off + j * 7, none⟩ = some (.int .i64 kk)) := fun W hW => (HCL.out W hW).1
        clear hn4 h70 hf4 hi4 hb4 hm4 HKS HCL
        by_cases hk1 : kk = 1
        · subst hk1
          go_wp2_with fail
          refine (ms_compact P4.out.2.2.2.2 (by omega)).mono ?_
          rintro e w5 ⟨q, rfl, hq, hs5⟩
          have S5 : Hid (MS' w w5 bd bb b2 (j + 1)) := hs5
          clear hs5 d0
          rcases hq with rfl | rfl | rfl | rfl
          · have S9k : True := trivial
            go_wp2_with fail
            refine (ms_has' S5.out (by omega)).mono ?_
            rintro e w7 ⟨rfl, hs7⟩
            have S7 : Hid (MS' w w7 bd bb b2 (j + 1)) := hs7
            clear hs7
            have d7 := HCK.out w7 S7.out.ms.bel
            have S9 : Hid (MS w w7 bd bb b2 (j + 1)) := S7.out.ms
            go_wp2_with fail
            go_roundg (30 - (j + 1))
            case measure => omega
            case rel => exact ⟨j + 1, bb, b2, by omega, by omega, rfl, rfl, rfl, by simp, S9⟩
          · have S9k : True := trivial
            go_wp2_with fail
            refine (ms_has' S5.out (by omega)).mono ?_
            rintro e w7 ⟨rfl, hs7⟩
            have S7 : Hid (MS' w w7 bd bb b2 (j + 1)) := hs7
            clear hs7
            have d7 := HCK.out w7 S7.out.ms.bel
            have S9 : Hid (MS w w7 bd bb b2 (j + 1)) := S7.out.ms
            go_wp2_with fail
            go_roundg (30 - (j + 1))
            case measure => omega
            case rel => exact ⟨j + 1, bb, b2, by omega, by omega, rfl, rfl, rfl, by simp, S9⟩
          · have S9k : True := trivial
            go_wp2_with fail
            refine (ms_has' S5.out (by omega)).mono ?_
            rintro e w7 ⟨rfl, hs7⟩
            have S7 : Hid (MS' w w7 bd bb b2 (j + 1)) := hs7
            clear hs7
            have d7 := HCK.out w7 S7.out.ms.bel
            have S9 : Hid (MS w w7 bd bb b2 (j + 1)) := S7.out.ms
            go_wp2_with fail
            go_roundg (30 - (j + 1))
            case measure => omega
            case rel => exact ⟨j + 1, bb, b2, by omega, by omega, rfl, rfl, rfl, by simp, S9⟩
          · have S9k : True := trivial
            go_wp2_with fail
            refine (ms_has' S5.out (by omega)).mono ?_
            rintro e w7 ⟨rfl, hs7⟩
            have S7 : Hid (MS' w w7 bd bb b2 (j + 1)) := hs7
            clear hs7
            have d7 := HCK.out w7 S7.out.ms.bel
            have S9 : Hid (MS w w7 bd bb b2 (j + 1)) := S7.out.ms
            go_wp2_with fail
            go_roundg (30 - (j + 1))
            case measure => omega
            case rel => exact ⟨j + 1, bb, b2, by omega, by omega, rfl, rfl, rfl, by simp, S9⟩
        · have e1 : (kk == 1) = false := by simp [hk1]
          go_wp2_with fail
          refine (ms_do P4.out.2.2.2.2 (by omega) n4 c4 P4.out.1 P4.out.2.1 P4.out.2.2.1 P4.out.2.2.2.1).mono ?_
          rintro e w5 ⟨q, rfl, hor⟩
          clear d0
          rcases hor with ⟨rfl, hd5⟩ | ⟨hq, hs5⟩
          · have HD5 : Hid (MD w w5 bd bb b2 (j + 1) a4 pts) := hd5
            clear hd5
            go_wp2_with fail
            refine (ms_does HD5.out (by omega) n4 c4 P4.out.1 P4.out.2.1 P4.out.2.2.1).mono ?_
            rintro e w6 ⟨b3, rfl, hs6⟩
            have S5 : Hid (MS' w w6 bd bb b3 (j + 1)) := hs6
            clear hs6 HD5
            go_wp2_with fail
            refine (ms_has' S5.out (by omega)).mono ?_
            rintro e w7 ⟨rfl, hs7⟩
            have S7 : Hid (MS' w w7 bd bb b3 (j + 1)) := hs7
            clear hs7
            have d7 := HCK.out w7 S7.out.ms.bel
            by_cases hk4 : kk = 4
            · subst hk4
              go_wp2_with fail
              refine (ms_open S7.out (by omega)).mono ?_
              rintro e w8 ⟨bb8, rfl, hs8⟩
              have S8 : Hid (MS w w8 bd bb8 b3 (j + 1)) := hs8
              clear hs8 d7
              go_wp2_with fail
              refine (ms_has S8.out (by omega)).mono ?_
              rintro e w9 ⟨rfl, hs9⟩
              have S9 : Hid (MS w w9 bd bb8 b3 (j + 1)) := hs9
              clear hs9
              go_wp2_with fail
              go_roundg (30 - (j + 1))
              case measure => omega
              case rel => exact ⟨j + 1, bb8, b3, by omega, by omega, rfl, rfl, rfl, by simp, S9⟩
            · have e4 : (kk == 4) = false := by simp [hk4]
              have S9 : Hid (MS w w7 bd bb b3 (j + 1)) := S7.out.ms
              go_wp2_with fail
              go_roundg (30 - (j + 1))
              case measure => omega
              case rel => exact ⟨j + 1, bb, b3, by omega, by omega, rfl, rfl, rfl, by simp, S9⟩
          · have S5 : Hid (MS' w w5 bd bb b2 (j + 1)) := hs5
            clear hs5
            rcases hq with rfl | rfl | rfl
            · go_wp2_with fail
              refine (ms_has' S5.out (by omega)).mono ?_
              rintro e w7 ⟨rfl, hs7⟩
              have S7 : Hid (MS' w w7 bd bb b2 (j + 1)) := hs7
              clear hs7
              have d7 := HCK.out w7 S7.out.ms.bel
              by_cases hk4 : kk = 4
              · subst hk4
                go_wp2_with fail
                refine (ms_open S7.out (by omega)).mono ?_
                rintro e w8 ⟨bb8, rfl, hs8⟩
                have S8 : Hid (MS w w8 bd bb8 b2 (j + 1)) := hs8
                clear hs8 d7
                go_wp2_with fail
                refine (ms_has S8.out (by omega)).mono ?_
                rintro e w9 ⟨rfl, hs9⟩
                have S9 : Hid (MS w w9 bd bb8 b2 (j + 1)) := hs9
                clear hs9
                go_wp2_with fail
                go_roundg (30 - (j + 1))
                case measure => omega
                case rel => exact ⟨j + 1, bb8, b2, by omega, by omega, rfl, rfl, rfl, by simp, S9⟩
              · have e4 : (kk == 4) = false := by simp [hk4]
                have S9 : Hid (MS w w7 bd bb b2 (j + 1)) := S7.out.ms
                go_wp2_with fail
                go_roundg (30 - (j + 1))
                case measure => omega
                case rel => exact ⟨j + 1, bb, b2, by omega, by omega, rfl, rfl, rfl, by simp, S9⟩
            · go_wp2_with fail
              refine (ms_has' S5.out (by omega)).mono ?_
              rintro e w7 ⟨rfl, hs7⟩
              have S7 : Hid (MS' w w7 bd bb b2 (j + 1)) := hs7
              clear hs7
              have d7 := HCK.out w7 S7.out.ms.bel
              by_cases hk4 : kk = 4
              · subst hk4
                go_wp2_with fail
                refine (ms_open S7.out (by omega)).mono ?_
                rintro e w8 ⟨bb8, rfl, hs8⟩
                have S8 : Hid (MS w w8 bd bb8 b2 (j + 1)) := hs8
                clear hs8 d7
                go_wp2_with fail
                refine (ms_has S8.out (by omega)).mono ?_
                rintro e w9 ⟨rfl, hs9⟩
                have S9 : Hid (MS w w9 bd bb8 b2 (j + 1)) := hs9
                clear hs9
                go_wp2_with fail
                go_roundg (30 - (j + 1))
                case measure => omega
                case rel => exact ⟨j + 1, bb8, b2, by omega, by omega, rfl, rfl, rfl, by simp, S9⟩
              · have e4 : (kk == 4) = false := by simp [hk4]
                have S9 : Hid (MS w w7 bd bb b2 (j + 1)) := S7.out.ms
                go_wp2_with fail
                go_roundg (30 - (j + 1))
                case measure => omega
                case rel => exact ⟨j + 1, bb, b2, by omega, by omega, rfl, rfl, rfl, by simp, S9⟩
            · go_wp2_with fail
              refine (ms_has' S5.out (by omega)).mono ?_
              rintro e w7 ⟨rfl, hs7⟩
              have S7 : Hid (MS' w w7 bd bb b2 (j + 1)) := hs7
              clear hs7
              have d7 := HCK.out w7 S7.out.ms.bel
              by_cases hk4 : kk = 4
              · subst hk4
                go_wp2_with fail
                refine (ms_open S7.out (by omega)).mono ?_
                rintro e w8 ⟨bb8, rfl, hs8⟩
                have S8 : Hid (MS w w8 bd bb8 b2 (j + 1)) := hs8
                clear hs8 d7
                go_wp2_with fail
                refine (ms_has S8.out (by omega)).mono ?_
                rintro e w9 ⟨rfl, hs9⟩
                have S9 : Hid (MS w w9 bd bb8 b2 (j + 1)) := hs9
                clear hs9
                go_wp2_with fail
                go_roundg (30 - (j + 1))
                case measure => omega
                case rel => exact ⟨j + 1, bb8, b2, by omega, by omega, rfl, rfl, rfl, by simp, S9⟩
              · have e4 : (kk == 4) = false := by simp [hk4]
                have S9 : Hid (MS w w7 bd bb b2 (j + 1)) := S7.out.ms
                go_wp2_with fail
                go_roundg (30 - (j + 1))
                case measure => omega
                case rel => exact ⟨j + 1, bb, b2, by omega, by omega, rfl, rfl, rfl, by simp, S9⟩
      · have i2 : ¬ (j : Int) < 30 := by omega
        go_wp2_with fail
        refine (ms_open2 RW.out (by omega)).mono ?_
        rintro e w4 ⟨bb4, rfl, hs4⟩
        have S4 : Hid (MS w w4 bd bb4 b2 (j + 1)) := hs4
        clear hs4
        go_wp2_with fail
        refine (ms_has S4.out (by omega)).mono ?_
        rintro e w5 ⟨rfl, hs5⟩
        have S5 : Hid (MS w w5 bd bb4 b2 (j + 1)) := hs5
        clear hs5
        go_wp2_with fail
        refine (KW.out _).mono ?_
        rintro e w6 ⟨rfl, hb6⟩
        have B6 : Hid (Below w.heap.size w w6) := S5.out.bel.trans (hb6.mono S5.out.bel.size)
        clear hb6
        go_wp2_with fail
        go_ret
        exact ⟨rfl, B6.out⟩
    · have i1 : ¬ (j : Int) < (n : Int) := by omega
      go_wp2_with fail
      refine (ms_open2 RW.out (by omega)).mono ?_
      rintro e w4 ⟨bb4, rfl, hs4⟩
      have S4 : Hid (MS w w4 bd bb4 b2 (j + 1)) := hs4
      clear hs4
      go_wp2_with fail
      refine (ms_has S4.out (by omega)).mono ?_
      rintro e w5 ⟨rfl, hs5⟩
      have S5 : Hid (MS w w5 bd bb4 b2 (j + 1)) := hs5
      clear hs5
      go_wp2_with fail
      refine (KW.out _).mono ?_
      rintro e w6 ⟨rfl, hb6⟩
      have B6 : Hid (Below w.heap.size w w6) := S5.out.bel.trans (hb6.mono S5.out.bel.size)
      clear hb6
      go_wp2_with fail
      go_ret
      exact ⟨rfl, B6.out⟩
end Go.Proofs.YtcindeechmpalaaGreat
