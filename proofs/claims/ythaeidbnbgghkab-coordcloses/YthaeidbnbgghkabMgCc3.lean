/- References in memory; digests as keys; manifest.Check. manifest.Check. The document's Name. Digests held against each other. -/
import Derived.Test.YthaeidbnbgghkabMgCc2
import Derived.Deep.MidRow
import Derived.Deep.WholeRow
import Derived.WideKeyArr
import Derived.Laws.CopyOwn
import Derived.Maps.Own
import Derived.Maps.OwnOps
import Derived.Maps.OwnSet
import Derived.Maps.Views
import Derived.Laws.StructEq
namespace Go.Proofs.Ythaeidbnbgghkab
open Go.ChangeShapes Go.WideShapes Go.ChangeAt Go.RowKit Go.Deep Go.Maps
set_option linter.unusedVariables false
/-- the cells of a reference -/
def rcl (x : Rf) : List Value := x.1.map (Value.int .u8) ++ [.int .i64 x.2]
theorem rcl_len {x : Rf} (h : x.1.length = 32) : (rcl x).length = 33 := by simp [rcl, h]
/-- a slice of references may be read -/
def InR (w : World) (a : Option Addr) (l : List Rf) : Prop := l = [] ∨ ∃ b off, a = some ⟨b, off, none⟩ ∧ b < w.heap.size ∧ ∀ i x, l[i]? = some x → w.rangeAt b (off + i * 33) (rcl x)
theorem rangeAt_below {w w' : World} {b o B : Nat} {cs : List Value} (h : w.rangeAt b o cs) (hb : Below B w w') (hB : b < B) : w'.rangeAt b o cs := fun i v hi => (hb.cell (p := ⟨b, o + i, none⟩) hB).trans (h i v hi)
theorem InR.keep {w w' : World} {a : Option Addr} {l : List Rf} (h : InR w a l) (hb : Below w.heap.size w w') : InR w' a l := by
  rcases h with e | ⟨b, off, h1, h2, h3⟩
  · exact .inl e
  · exact .inr ⟨b, off, h1, Nat.lt_of_lt_of_le h2 hb.size, fun i x hx => rangeAt_below (h3 i x hx) hb h2⟩
theorem InR.at {w : World} {a : Option Addr} {l : List Rf} (h : InR w a l) {j : Nat} {x : Rf} (hx : l[j]? = some x) : ∃ b off, a = some ⟨b, off, none⟩ ∧ b < w.heap.size ∧ w.rangeAt b (off + j * 33) (rcl x) := by
  rcases h with e | ⟨b, off, h1, h2, h3⟩
  · subst e; simp at hx
  · exact ⟨b, off, h1, h2, h3 j x hx⟩
theorem arrKey : WideMaps.ArrKey Try.prog 83 5 32 := ⟨Try.underlying83, by kernel_rfl, by kernel_rfl, by kernel_rfl⟩
theorem lawD : Keyed Try.prog 83 := Keyed.of_law arrKey.law
theorem zeroI (w : World) : (zeroValue 3).run Try.prog w = .ok (.int .i64 0) w := by kernel_rfl
/-- the key of a digest -/
def kd (d : List Int) : Lit := .string (keyBytes (d.map (Lit.int .u8)))
def dv (d : List Int) : Value := .agg (d.map (Value.int .u8)).toArray
theorem mapM_some {α β : Type} {f : α → Option β} {g : α → β} : ∀ (l : List α), (∀ a ∈ l, f a = some (g a)) → l.mapM f = some (l.map g)
  | [], _ => rfl
  | a :: r, h => by
    rw [List.mapM_cons, h a (by simp), mapM_some r (fun b hb => h b (by simp [hb]))]
    rfl
theorem wf8M {x : Int} (h0 : 0 ≤ x) (h1 : x ≤ 255) : (Lit.int .u8 x).wf = true := by
  simp [Lit.wf, IntKind.min, IntKind.max, IntKind.signed, IntKind.bits]
  omega
theorem flat_one {α β : Type} (f : α → β) : ∀ l : List α, (l.map fun i => [f i]).flatten = l.map f
  | [] => rfl
  | a :: r => by simp [flat_one f r]
theorem range_get {β : Type} (f : Int → β) (d : List Int) : (List.range d.length).map (fun i => f (d.getD i 0)) = d.map f := by
  apply List.ext_getElem
  · simp
  · intro i h1 h2
    have hi : i < d.length := by simpa using h1
    simp [List.getD, hi]
theorem one_at {β : Type} (f : Int → β) (d : List Int) (i : Nat) (h : i < d.length) : ((d.map f).drop i).take 1 = [f (d.getD i 0)] := by
  rw [List.drop_eq_getElem_cons (by simpa using h)]
  simp [List.getD, h]
theorem cellsU8 : Try.prog.cellsOf 5 = 1 := by kernel_rfl
theorem cellsDg : Try.prog.cellsOf 83 = 32 := by kernel_rfl
theorem keyTypeDg : Try.prog.keyType 83 = true := by kernel_rfl
theorem typesPos : 0 < Try.prog.types.size := of_decide_eq_true (by kernel_rfl)
theorem keyOf_dg (d : List Int) (hd : d.length = 32) (hb : IsBytes d) : keyOf Try.prog 83 (dv d) = some (kd d) := by
  obtain ⟨m, hm⟩ : ∃ m, Try.prog.types.size = m + 1 := ⟨Try.prog.types.size - 1, by have := typesPos; omega⟩
  unfold keyOf dv kd
  rw [Try.underlying83]
  have h2 : (Value.agg (d.map (Value.int .u8)).toArray).formed Try.prog 83 = true := by
    simp only [Value.formed, Try.underlying83, cellsDg]
    simp [hd]
  have h3 : Try.prog.keyLits (Try.prog.types.size + 1) 83 (d.map (Value.int .u8)) = some (d.map (Lit.int .u8)) := by
    unfold Program.keyLits
    rw [Try.underlying83]
    simp only
    rw [if_pos (by rw [cellsDg]; simp [hd]), mapM_some (g := fun i => [Lit.int .u8 (d.getD i 0)])]
    · simp only [Option.map_some, Option.some.injEq]
      rw [flat_one (fun i => Lit.int .u8 (d.getD i 0)), ← hd, range_get]
    · intro i hi
      have hi' : i < 32 := by simpa using hi
      rw [hm, cellsU8]
      unfold Program.keyLits
      rw [Try.underlying5]
      have e : ((d.map (Value.int .u8)).drop (i * 1)).take 1 = [Value.int .u8 (d.getD i 0)] := by
        rw [Nat.mul_one]
        exact one_at _ d i (by omega)
      rw [e]
      simp only
      have hbi := hb i (by omega)
      rw [if_pos ⟨trivial, wf8M hbi.1 hbi.2⟩]
  simp only [keyTypeDg, h2, Bool.and_self, if_true]
  have h4 : (Value.agg (d.map (Value.int .u8)).toArray).cells.toList = d.map (Value.int .u8) := by simp [Value.cells]
  rw [h4, h3]
  rfl
theorem kd_inj {d e : List Int} (hd : d.length = 32) (hb : IsBytes d) (he : e.length = 32) (hc : IsBytes e) (h : kd d = kd e) : d = e := by
  have h1 := keyOf_dg d hd hb
  have h2 := keyOf_dg e he hc
  rw [← h] at h2
  have := lawD.inj h1 h2
  simp only [dv, Value.agg.injEq] at this
  have h3 : d.map (Value.int .u8) = e.map (Value.int .u8) := by simpa using congrArg Array.toList this
  exact (List.map_inj_right (fun a b h => by cases h; rfl)).1 h3
/-- the map holds just these digests -/
def Has (D : DataW Unit) (ds : List (List Int)) : Prop := IsMap D ∧ ∀ e : List Int, e.length = 32 → IsBytes e → Maps.has D (kd e) = decide (e ∈ ds)
end Go.Proofs.Ythaeidbnbgghkab
namespace Go.Proofs.Ythaeidbnbgghkab
open Go.ChangeShapes Go.WideShapes Go.ChangeAt Go.RowKit Go.Deep Go.Maps
set_option linter.unusedVariables false
theorem grown_of_belowM {W W' : World} (h : Below W.heap.size W W') : W.grownBy W' none := ⟨h.os, h.tape, h.output, h.size, fun k hk _ => h.block k hk⟩
def z33 : Array Value := (List.replicate 32 (Value.int .u8 0) ++ [Value.int .i64 0]).toArray
theorem zero33_info : (Try.prog.info? 85).map (fun i => (i.zero, i.size)) = some (some (.agg z33), 33) := by kernel_rfl
theorem size33 : (Try.prog.info? 85).map (·.size) = some 33 := by kernel_rfl
theorem sizeDg : (Try.prog.info? 83).map (·.size) = some 32 := by kernel_rfl
theorem z33_size : z33.size = 33 := by kernel_rfl
theorem rcl_one (x : Rf) : (rcl x).toArray.all (·.oneCell') = true := all_oneCell_toArray fun v hv => by
  simp only [rcl, List.mem_append, List.mem_map, List.mem_singleton] at hv
  rcases hv with ⟨y, _, rfl⟩ | rfl <;> rfl
/-- a manifest as a value -/
def mv (m : Mf) (a : Option Addr) (n c : Nat) : Value := .agg #[.string (tx m.1), .string (tx m.2.1), .slice a n c]
theorem one_blockM {w w1 : World} {a : Obj} (hb : Below (w.alloc a).heap.size (w.alloc a) w1) : w1.heap[w.heap.size]? = some a ∧ Below w.heap.size w w1 := by
  have e1 : (w.alloc a).heap.size = w.heap.size + 1 := by simp
  have h1 : Below w.heap.size w (w.alloc a) := (Below.refl _ _).alloc (Nat.le_refl _) _
  exact ⟨(hb.block _ (by rw [e1]; omega)).trans (heap_alloc_new w a), h1.trans (hb.mono (by rw [e1]; omega))⟩
theorem mck_step {l : List Rf} {j : Nat} {x : Rf} (hx : l[j]? = some x) : mck ((l.take j).map (·.1)) (l.drop j) = if x.2 < 0 ∨ 2147483647 < x.2 then 2 else if x.1 ∈ (l.take j).map (·.1) then 8 else mck ((l.take (j + 1)).map (·.1)) (l.drop (j + 1)) := by
  obtain ⟨hj, e⟩ := List.getElem?_eq_some_iff.1 hx
  rw [List.drop_eq_getElem_cons hj, e, List.take_succ_eq_append_getElem hj, e]
  simp [mck]
theorem row_range {w : World} {g : Nat} {x : Rf} {t : TypeId} {fr : Nat × Nat} (h : w.heap[g]? = some (.cells (rcl x).toArray t fr)) : w.rangeAt g 0 (rcl x) := by
  intro j v hv
  rw [Nat.zero_add, cell_of_row w g j _ _ _ h]
  simpa using hv
theorem rcl_sum {w : World} {g o : Nat} {x : Rf} (h : w.rangeAt g o (rcl x)) : w.rangeAt g o (x.1.map (Value.int .u8)) := by
  intro j v hv
  refine h j v ?_
  unfold rcl
  rw [List.getElem?_append_left (List.getElem?_eq_some_iff.1 hv).1]
  exact hv
theorem rcl_size {w : World} {g o : Nat} {x : Rf} (h32 : x.1.length = 32) (h : w.rangeAt g o (rcl x)) : w.cell? ⟨g, o + 32, none⟩ = some (.int .i64 x.2) := h 32 _ (by simp [rcl, h32])
theorem Has.empty : Has (.map []) [] := ⟨isMap_empty, fun e _ _ => rfl⟩
theorem Has.put {D : DataW Unit} {ds : List (List Int)} (h : Has D ds) {d : List Int} (hd : d.length = 32) (hb : IsBytes d) (u : DataW Unit) : Has (D.put (kd d) u) (ds ++ [d]) := by
  refine ⟨h.1.put _ _, fun e he hc => ?_⟩
  by_cases hed : e = d
  · subst hed
    rw [has_put_same h.1 (lawD.key (keyOf_dg e he hc))]
    simp
  · rw [has_put_other (fun k => hed (kd_inj he hc hd hb k)), h.2 e he hc]
    rw [Bool.eq_iff_iff]
    simp [hed]
set_option maxRecDepth 100000 in
set_option maxHeartbeats 8000000 in
theorem mcheck_is (m : Mf) (n : Nat) (hn : m.2.2.length = n) (hn62 : n ≤ 4611686018427387904) (hd : Dgs m.2.2) (h1 : m.1.length ≤ 140737488355328) (h2 : m.2.1.length ≤ 140737488355328) (a : Option Addr) (c : Nat) (w : World) (hl : InR w a m.2.2) :
    Calls Try.prog 40 #[mv m a n c] w fun e w' => e = .returned (.int .i64 (mchk m)) ∧ Below w.heap.size w w' := by
  obtain ⟨N, V, l⟩ := m
  simp only at *
  have K1 : Hid (∀ w, Calls Try.prog 48 #[.string (tx N)] w fun e w' => e = .returned (.bool (nmOk N)) ∧ Below w.heap.size w w') := isName_is N h1
  have K2 : Hid (∀ w, Calls Try.prog 48 #[.string (tx V)] w fun e w' => e = .returned (.bool (nmOk V)) ∧ Below w.heap.size w w') := isName_is V h2
  have HM : Hid (mchk (N, V, l) = if nmOk N = false ∨ nmOk V = false then 2 else if l = [] then 9 else if 8 < l.length then 3 else mck [] l) := rfl
  obtain ⟨r, hr⟩ : ∃ r, r = mchk (N, V, l) := ⟨_, rfl⟩
  rw [← hr] at HM ⊢
  unfold mv
  have HL : Hid (InR w a l) := hl
  have HN : Hid (l.length = n) := hn
  have HD : Hid (Dgs l) := hd
  generalize nmOk N = p at *
  generalize nmOk V = q at *
  simp only
  generalize tx N = SN at *
  generalize tx V = SV at *
  clear hl hn hd hr h1 h2
  have hmm := @run_makeMap Try.prog
  have hz33 := (zero_of_info zero33_info).1
  go_enter Try.func40, Try.ntmps40
  go_wp2_with fail
  refine (K1.out _).mono ?_
  rintro e w1 ⟨rfl, hb1⟩
  obtain ⟨g1, hb2⟩ := one_blockM hb1
  have B1 : Hid (Below w.heap.size w w1) := hb2
  have G1 : Hid (w1.heap[w.heap.size]? = some (.cells #[.string SN, .string SV, .slice a n c] 78)) := g1
  have c1 : w1.cell? ⟨w.heap.size, 1, none⟩ = some (.string SV) := by rw [cell_of_row w1 _ 1 _ _ _ g1]; rfl
  clear hb1 hb2 g1
  cases p with
  | false =>
    have HR : Hid (r = 2) := by show _ = _; rw [HM.out, if_pos (.inl rfl)]
    clear HM
    go_wp2_with fail
    go_ret
    refine ⟨?_, B1.out⟩
    rw [HR.out]
    rfl
  | true =>
    go_wp2_with fail
    refine (K2.out _).mono ?_
    rintro e w2 ⟨rfl, hb2⟩
    have B2 : Hid (Below w.heap.size w w2) := B1.out.trans (hb2.mono B1.out.size)
    have g2 : w2.heap[w.heap.size]? = some (.cells #[.string SN, .string SV, .slice a n c] 78) := (hb2.block _ (Array.getElem?_eq_some_iff.1 G1.out).1).trans G1.out
    have d2 : w2.cell? ⟨w.heap.size, 2, none⟩ = some (.slice a n c) := by rw [cell_of_row w2 _ 2 _ _ _ g2]; rfl
    have G2 : Hid (w2.heap[w.heap.size]? = some (.cells #[.string SN, .string SV, .slice a n c] 78)) := g2
    have hlt2 : w.heap.size < w2.heap.size := (Array.getElem?_eq_some_iff.1 g2).1
    clear hb2 g2 c1 G1
    cases q with
    | false =>
      have HR : Hid (r = 2) := by show _ = _; rw [HM.out, if_pos (.inr rfl)]
      clear HM
      go_wp2_with fail
      go_ret
      refine ⟨?_, B2.out⟩
      rw [HR.out]
      rfl
    | true =>
      have nn : ¬ (true = false ∨ true = false) := by simp
      by_cases hn0 : n = 0
      · have e0 : ((n : Nat) : Int) = 0 := by omega
        have HR : Hid (r = 9) := by show _ = _; rw [HM.out, if_neg nn, if_pos (List.length_eq_zero_iff.1 (by rw [HN.out]; exact hn0))]
        clear HM hn0
        go_wp2_with fail
        go_ret
        refine ⟨?_, B2.out⟩
        rw [HR.out]
        rfl
      · have e0 : ¬ ((n : Nat) : Int) = 0 := by omega
        have hne : ¬ l = [] := fun e => hn0 (by rw [← HN.out, e]; rfl)
        by_cases h8 : 8 < n
        · have e8 : (8 : Int) < ((n : Nat) : Int) := by omega
          have HR : Hid (r = 3) := by show _ = _; rw [HM.out, if_neg nn, if_neg hne, if_pos (by rw [HN.out]; exact h8)]
          clear HM hn0
          go_wp2_with fail
          go_ret
          refine ⟨?_, B2.out⟩
          rw [HR.out]
          rfl
        · have e8 : ¬ (8 : Int) < ((n : Nat) : Int) := by omega
          have HR : Hid (r = mck [] l) := by show _ = _; rw [HM.out, if_neg nn, if_neg hne, if_neg (by rw [HN.out]; exact h8)]
          have d2' : (w2.alloc (.map #[] 0)).cell? ⟨w.heap.size, 2, none⟩ = some (.slice a n c) := (((Below.refl w2.heap.size w2).alloc (Nat.le_refl _) (.map #[] 0)).cell (p := ⟨w.heap.size, 2, none⟩) hlt2).trans d2
          have eb0 : ((((n : Nat) : Int)) == 0) = false := by rw [beq_eq_false_iff_ne]; exact e0
          have eb8 : decide ((8 : Int) < ((n : Nat) : Int)) = false := by simp; omega
          clear HM hn0 hne nn K1 K2
          go_wp2_with fail
          obtain ⟨M, hM⟩ : ∃ M, M = w2.heap.size := ⟨_, rfl⟩
          have HMs : Hid (M = w2.heap.size) := hM
          have B3 : Hid (Below w.heap.size w (w2.alloc (.map #[] 0))) := B2.out.alloc B2.out.size _
          have O3 : Hid ((w2.alloc (.map #[] 0)).ownsMap Try.prog 83 (plainElem (H := Unit) Try.prog 3) M 0 (.map [])) := by rw [hM]; exact World.ownsMap_made _ _ _ _
          have hMw : w.heap.size < M := by rw [hM]; exact hlt2
          rw [← hM]
          clear hM d2 d2' hz33
          go_loopg [33] n (fun g i wr => ∃ (j : Nat), j ≤ n ∧ g = n - j ∧ i = .int .i64 j ∧ Hid (∃ D, wr.ownsMap Try.prog 83 (plainElem (H := Unit) Try.prog 3) M j D ∧ Has D ((l.take j).map (·.1))) ∧ Hid (r = mck ((l.take j).map (·.1)) (l.drop j)) ∧ Hid (Below w.heap.size w wr))
          case atStart => exact ⟨0, Nat.zero_le _, rfl, rfl, ⟨_, O3.out, Has.empty⟩, HR, B3⟩
          case round =>
            obtain ⟨j, hj, rfl, rfl, HO, HRj, HW⟩ := hrel
            by_cases hlt : j < n
            · have j1 : (j : Int) < (n : Int) := by omega
              obtain ⟨x, hx⟩ : ∃ x, l[j]? = some x := ⟨l[j]'(by rw [HN.out]; exact hlt), by simp [HN.out, hlt]⟩
              obtain ⟨b, off, rfl, hbw, hrg⟩ := HL.out.at hx
              have hdg := HD.out x (List.mem_of_getElem? hx)
              have HRG : Hid (wr.rangeAt b (off + j * 33) (rcl x)) := rangeAt_below hrg HW.out hbw
              have HS : Hid (r = if x.2 < 0 ∨ 2147483647 < x.2 then 2 else if x.1 ∈ (l.take j).map (·.1) then 8 else mck ((l.take (j + 1)).map (·.1)) (l.drop (j + 1))) := by
                show _ = _
                rw [HRj.out, mck_step hx]
              have HT : Hid ((l.take (j + 1)).map (·.1) = (l.take j).map (·.1) ++ [x.1]) := by
                show _ = _
                obtain ⟨hj', e⟩ := List.getElem?_eq_some_iff.1 hx
                rw [List.take_succ_eq_append_getElem hj', e]
                simp
              obtain ⟨D, hown, hhas⟩ := HO.out
              have hh := hhas.2 x.1 hdg.1 hdg.2
              have HHas : Hid (Has D ((l.take j).map (·.1))) := hhas
              have hkey := keyOf_dg x.1 hdg.1 hdg.2
              have hsz := HW.out.size
              have HA : Hid ((wr.alloc (.cells z33 85)).heap[wr.heap.size]? = some (.cells z33 85)) := heap_alloc_new wr _
              obtain ⟨W3, hW3⟩ : ∃ W3, W3 = (wr.alloc (.cells z33 85)).setRow wr.heap.size (rcl x).toArray := ⟨_, rfl⟩
              have HR3 : W3.heap[wr.heap.size]? = some (.cells (rcl x).toArray 85) := by rw [hW3]; exact setRow_heap _ _ _ _ _ _ HA.out
              have B4 : Below wr.heap.size wr W3 := by rw [hW3]; exact below_setRow ((Below.refl _ _).alloc (Nat.le_refl _) _) (Nat.le_refl _) _
              have HRG3 : Hid (W3.rangeAt wr.heap.size 0 (x.1.map (Value.int .u8))) := rcl_sum (row_range HR3)
              have hcs : W3.cell? ⟨wr.heap.size, 32, none⟩ = some (.int .i64 x.2) := by have := rcl_size hdg.1 (row_range HR3); rwa [Nat.zero_add] at this
              have HO3 : Hid (W3.ownsMap Try.prog 83 (plainElem (H := Unit) Try.prog 3) M j D) := hown.kept (grown_of_belowM B4) (by simp)
              have HB4 : Hid (Below w.heap.size w W3) := HW.out.trans (B4.mono hsz)
              have hl33 := rcl_len hdg.1
              have h32 := hdg.1
              have HKey : Hid (keyOf Try.prog 83 (.agg (x.1.map (Value.int .u8)).toArray) = some (kd x.1)) := hkey
              have HDG : Hid (x.1.length = 32 ∧ IsBytes x.1) := hdg
              have HW3 : Hid (W3 = (wr.alloc (.cells z33 85)).setRow wr.heap.size (rcl x).toArray) := hW3
              have hz33 := (zero_of_info zero33_info).1
              have HOne : Hid ((rcl x).toArray.all (·.oneCell') = true) := rcl_one x
              have HPut : Hid (Has (D.put (kd x.1) (.lit (.int .i64 (j : Int)))) ((l.take j).map (·.1) ++ [x.1])) := hhas.put hdg.1 hdg.2 _
              have h32e : (x.1.map (Value.int .u8)).length = 32 := by rw [List.length_map]; exact h32
              clear hx hrg hown hhas hkey hdg HO HRj B4 HR3 hW3 h32 HDG HHas
              obtain ⟨dg, z⟩ := x
              simp only at *
              generalize hC : rcl (dg, z) = C at *
              generalize hE : dg.map (Value.int .u8) = E at *
              generalize hK : kd dg = kl at *
              have HL33 : Hid (C.length = 33) := hl33
              have HL32 : Hid (E.length = 32) := h32e
              have HZs : Hid (z33.size = 33) := z33_size
              clear hC hE hK hl33 h32e
              generalize z33 = Z at *
              by_cases hbad : z < 0 ∨ 2147483647 < z
              · have HR2 : Hid (r = 2) := by show _ = _; rw [HS.out, if_pos hbad]
                rcases (by omega : z < 0 ∨ (¬ z < 0 ∧ 2147483647 < z)) with hb1 | ⟨hb1, hb2⟩
                · have e1 : decide (z < 0) = true := by simp [hb1]
                  clear hbad HS
                  go_wp2_with (first | (refine wpList_load_mid rfl 85 (.tmp 36) rfl b (off + j * 33) rfl C _ HRG.out Try.underlying85 rfl (by rw [HL33.out]; exact size33) ?_) | (refine wpList_store_row rfl 85 (.tmp 5) (.tmp 37) rfl wr.heap.size C.toArray rfl rfl 85 Z HA.out (by rw [List.size_toArray, HL33.out]; exact size33) (by rw [HZs.out, List.size_toArray, HL33.out]) HOne.out ?_; rw [← HW3.out]))
                  go_ret
                  refine ⟨?_, HB4.out⟩
                  rw [HR2.out]
                  rfl
                · have e1 : decide (z < 0) = false := by simp [hb1]; try omega
                  have e2 : decide (2147483647 < z) = true := by simp [hb2]
                  clear hbad HS
                  go_wp2_with (first | (refine wpList_load_mid rfl 85 (.tmp 36) rfl b (off + j * 33) rfl C _ HRG.out Try.underlying85 rfl (by rw [HL33.out]; exact size33) ?_) | (refine wpList_store_row rfl 85 (.tmp 5) (.tmp 37) rfl wr.heap.size C.toArray rfl rfl 85 Z HA.out (by rw [List.size_toArray, HL33.out]; exact size33) (by rw [HZs.out, List.size_toArray, HL33.out]) HOne.out ?_; rw [← HW3.out]))
                  go_ret
                  refine ⟨?_, HB4.out⟩
                  rw [HR2.out]
                  rfl
              · have e1 : decide (z < 0) = false := by simp; omega
                have e2 : decide (2147483647 < z) = false := by simp; omega
                by_cases hin : dg ∈ (l.take j).map (·.1)
                · have HR2 : Hid (r = 8) := by show _ = _; rw [HS.out, if_neg hbad, if_pos hin]
                  rw [decide_eq_true hin] at hh
                  clear hbad hin HS
                  go_wp2_with (first | (refine wpList_load_mid rfl 85 (.tmp 36) rfl b (off + j * 33) rfl C _ HRG.out Try.underlying85 rfl (by rw [HL33.out]; exact size33) ?_) | (refine wpList_store_row rfl 85 (.tmp 5) (.tmp 37) rfl wr.heap.size C.toArray rfl rfl 85 Z HA.out (by rw [List.size_toArray, HL33.out]; exact size33) (by rw [HZs.out, List.size_toArray, HL33.out]) HOne.out ?_; rw [← HW3.out]) | (refine wpList_load_mid rfl 83 (.tmp 48) rfl wr.heap.size 0 rfl E _ HRG3.out Try.underlying83 rfl (by rw [HL32.out]; exact sizeDg) ?_) | (at_lookup; refine wpList_lookup_own_ok_int _ rfl (.tmp 47) (.tmp 49) 93 rfl 83 3 .i64 lawD Try.underlying93 Try.underlying3 (zeroI _) M j D rfl HO3.out _ _ rfl HKey.out ?_; intro cc hat hwc; rw [hh]; clear hat hwc))
                  go_ret
                  refine ⟨?_, HB4.out⟩
                  rw [HR2.out]
                  rfl
                · have HR2 : Hid (r = mck ((l.take (j + 1)).map (·.1)) (l.drop (j + 1))) := by show _ = _; rw [HS.out, if_neg hbad, if_neg hin]
                  rw [decide_eq_false hin] at hh
                  clear hbad hin HS
                  go_wp2_with (first | (refine wpList_load_mid rfl 85 (.tmp 36) rfl b (off + j * 33) rfl C _ HRG.out Try.underlying85 rfl (by rw [HL33.out]; exact size33) ?_) | (refine wpList_store_row rfl 85 (.tmp 5) (.tmp 37) rfl wr.heap.size C.toArray rfl rfl 85 Z HA.out (by rw [List.size_toArray, HL33.out]; exact size33) (by rw [HZs.out, List.size_toArray, HL33.out]) HOne.out ?_; rw [← HW3.out]) | (refine wpList_load_mid rfl 83 (.tmp 48) rfl wr.heap.size 0 rfl E _ HRG3.out Try.underlying83 rfl (by rw [HL32.out]; exact sizeDg) ?_) | (at_lookup; refine wpList_lookup_own_ok_int _ rfl (.tmp 47) (.tmp 49) 93 rfl 83 3 .i64 lawD Try.underlying93 Try.underlying3 (zeroI _) M j D rfl HO3.out _ _ rfl HKey.out ?_; intro cc hat hwc; rw [hh]; clear hat hwc) | (refine wpList_load_mid rfl 83 (.tmp 55) rfl wr.heap.size 0 rfl E _ HRG3.out Try.underlying83 rfl (by rw [HL32.out]; exact sizeDg) ?_) | (at_mapUpdate; refine wpList_mapUpdate_own _ rfl (.tmp 54) (.tmp 56) (.tmp 57) 93 rfl 83 3 lawD Try.underlying93 _ M j D rfl HO3.out (by unfold maxLen; omega) _ _ _ rfl rfl HKey.out _ [] (plainElem_int Try.underlying3 (WalkArith.wf_i64 (by omega))) ?_; intro w4 hown4 hg4; have HO4 : Hid (w4.ownsMap Try.prog 83 (plainElem (H := Unit) Try.prog 3) M (j + 1) (D.put kl (.lit (.int .i64 (j : Int))))) := hown4; have HG4 : Hid (W3.grownBy w4 (some M)) := hg4; clear hown4 hg4))
                  go_roundg (n - (j + 1))
                  case measure => omega
                  case rel =>
                    refine ⟨j + 1, by omega, rfl, by go_num, ⟨_, HO4.out, ?_⟩, HR2, HB4.out.grown HG4.out HB4.out.size (fun k hk => by cases hk; omega)⟩
                    rw [HT.out]
                    exact HPut.out
            · have e : j = n := by omega
              subst e
              have j1 : ¬ (j : Int) < (j : Int) := by omega
              have HR2 : Hid (r = 0) := by
                show _ = _
                rw [HRj.out, List.drop_of_length_le (by rw [HN.out]; omega)]
                rfl
              go_wp2_with fail
              go_ret
              refine ⟨?_, HW.out⟩
              rw [HR2.out]
              rfl
end Go.Proofs.Ythaeidbnbgghkab
namespace Go.Proofs.Ythaeidbnbgghkab
open Go.ChangeShapes Go.WideShapes Go.ChangeAt Go.RowKit Go.Deep Go.Maps
set_option linter.unusedVariables false
theorem mayN_int (b : UInt8) : mayN b = true ↔ ((97 ≤ (b.toNat : Int) ∧ (b.toNat : Int) ≤ 122) ∨ (48 ≤ (b.toNat : Int) ∧ (b.toNat : Int) ≤ 57) ∨ (b.toNat : Int) = 45 ∨ (b.toNat : Int) = 46) := by
  have e1 : (b == 45) = decide (b.toNat = 45) := by rw [Bool.eq_iff_iff, beq_iff_eq, decide_eq_true_iff]; exact ⟨fun h => by rw [h]; rfl, fun h => UInt8.toNat_inj.1 h⟩
  have e2 : (b == 46) = decide (b.toNat = 46) := by rw [Bool.eq_iff_iff, beq_iff_eq, decide_eq_true_iff]; exact ⟨fun h => by rw [h]; rfl, fun h => UInt8.toNat_inj.1 h⟩
  unfold mayN
  rw [e1, e2]
  simp only [Bool.or_eq_true, Bool.and_eq_true, decide_eq_true_iff]
  omega
end Go.Proofs.Ythaeidbnbgghkab
namespace Go.Proofs.Ythaeidbnbgghkab
open Go.ChangeShapes Go.WideShapes Go.ChangeAt Go.RowKit Go.Deep
set_option linter.unusedVariables false
def u8s (L : List Int) : Array Value := (L.map (Value.int .u8)).toArray
theorem info8q : (Try.prog.info? 5).map (fun i => (i.zero, i.size, i.bytes)) = some (some (.int .u8 0), 1, 1) := by kernel_rfl
theorem info8p : ∃ i, Try.prog.info? 5 = some i ∧ i.zero = some (.int .u8 0) ∧ i.size = 1 ∧ i.bytes = 1 := by
  cases h : Try.prog.info? 5 with
  | none => have := info8q; rw [h] at this; cases this
  | some i => have := info8q; rw [h] at this; simp at this; exact ⟨i, rfl, this.1, this.2.1, this.2.2⟩
theorem all_range_ints : ∀ (xs ys : List Int), xs.length = ys.length → ((List.range xs.length).all fun i => decide (xs.getD i 0 = ys.getD i 0)) = decide (xs = ys)
  | [], [], _ => rfl
  | x :: xs, y :: ys, h => by
    have ih := all_range_ints xs ys (by simpa using h)
    rw [List.length_cons, List.range_succ_eq_map, List.all_cons, List.all_map]
    simp only [List.getD_cons_zero, Function.comp_def, List.getD_cons_succ, ih]
    by_cases h1 : x = y <;> by_cases h2 : xs = ys <;> simp [h1, h2]
  | [], _ :: _, h => by simp at h
  | _ :: _, [], h => by simp at h
theorem size8_run (w : World) : (sizeOf 5).run Try.prog w = .ok 1 w := by
  obtain ⟨i, hi8, _, h1, _⟩ := info8p
  simp [sizeOf, typeInfo, hi8, h1]
theorem equal_digest (d : Nat) (A B : List Int) (hA : A.length = 32) (hB : B.length = 32) (w : World) :
    (Op.equalIn (d + 2) 83 (.agg (u8s A)) (.agg (u8s B))).run Try.prog w = .ok (decide (A = B)) w := by
  rw [← all_range_ints A B (hA.trans hB.symm), hA, List.range_eq_range', Op.equalIn]
  simp only [Sem.run_bind, run_underlying Try.underlying83, Result.andThen_ok, size8_run, Std.Legacy.Range.forIn_eq_forIn_range', Std.Legacy.Range.size, Nat.sub_zero, Nat.add_sub_cancel, Nat.div_one]
  have hl : ∀ i ∈ List.range' 0 32 1, i < 32 := fun i hi => by simpa using (List.mem_range'_1.1 hi).2
  generalize List.range' 0 32 1 = l at hl ⊢
  induction l with
  | nil => simp
  | cons i l ih =>
    have hi : i < 32 := hl i (by simp)
    have px : (part 5 (u8s A) (i * 1)).run Try.prog w = .ok (.int .u8 (A.getD i 0)) w := by
      simp [part, isAgg, run_underlying Try.underlying5, u8s, List.getD, List.getElem?_eq_getElem (show i < A.length by omega)]
    have py : (part 5 (u8s B) (i * 1)).run Try.prog w = .ok (.int .u8 (B.getD i 0)) w := by
      simp [part, isAgg, run_underlying Try.underlying5, u8s, List.getD, List.getElem?_eq_getElem (show i < B.length by omega)]
    have pe : (Op.equalIn (d + 1) 5 (.int .u8 (A.getD i 0)) (.int .u8 (B.getD i 0))).run Try.prog w = .ok (decide (A.getD i 0 = B.getD i 0)) w := by
      rw [run_equalIn_int w d 5 .u8 .u8 _ _ Try.underlying5]
      congr 1
    simp only [List.forIn_cons, Sem.run_bind, px, py, pe, Result.andThen_ok, List.all_cons]
    cases hb : decide (A.getD i 0 = B.getD i 0)
    · simp
    · simp only [Bool.not_true, Bool.false_eq_true, if_false, Sem.run_pure, Result.andThen_ok, Bool.true_and]
      exact ih fun j hj => hl j (by simp [hj])
theorem eq_digest (A B : List Int) (hA : A.length = 32) (hB : B.length = 32) (w : World) :
    (Op.equalIn 10000 83 (.agg (u8s A)) (.agg (u8s B))).run Try.prog w = .ok (decide (A = B)) w := equal_digest 9998 A B hA hB w
theorem guard_digest : Try.prog.eqGuardType Try.prog.depth 83 = false := by kernel_rfl
theorem wpList_load_row_g {ops : Array Oper} {rest : List Oper} {o : Oper} {a : Act} {w : World} {Q : Exit → Act → World → Prop} (ty : TypeId) (x : Operand) (ho : o.op = .load ty x) (hw : Region.wanted o (yielded ops a.tmps) = true)
    (g : Nat) (hx : a.eval x = .pointer (some ⟨g, 0, none⟩)) (t : TypeId) (cs : Array Value) (fr : Nat × Nat) (n : Nat) (el : TypeId) (hg : w.heap[g]? = some (.cells cs t fr))
    (hu : Try.prog.underlying ty = some (.array n el)) (hi : (Try.prog.info? ty).map (·.size) = some cs.size)
    (h : wpList Try.prog ops Q rest (a.put o.dst (.agg cs)) w) : wpList Try.prog ops Q (o :: rest) a w := by
  unfold wpList
  rw [if_pos hw]
  exact .inl (wp_load_row ty x ho g hx t cs fr _ hg hu rfl hi h)
end Go.Proofs.Ythaeidbnbgghkab
