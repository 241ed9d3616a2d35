/- coord: who is open. The shelf's keys, collected and sorted, at this program's numbers. coord: Tick (gen_cozi.py). -/
import Derived.Test.YthaeidbnbgghkaaMgCz17
import Derived.Shelf.SlIterI.Sorted
import Derived.Shelf.SlIterI.Collect
import Derived.Shelf.SlIterI.Keys
namespace Go.Proofs.Ythaeidbnbgghkaa
open Go.ChangeShapes Go.WideShapes Go.ChangeAt Go.RowKit Go.Deep Go.Maps Go.Sort Go.Shelf
set_option linter.unusedVariables false
set_option linter.unusedSimpArgs false
set_option maxRecDepth 100000 in
theorem insertP_is (p : Option Addr) (cap : Nat) (w : World) : Calls Try.prog 68 #[.slice p 0 cap, .int .i64 0, .int .i64 0] w fun e w' => e = .returned (.tuple #[]) ∧ w' = w := by
  go_enter Try.func68, Try.ntmps68
  go_wp2_with fail
  go_loopg [6] 0 (fun g i wr => i = .int .i64 1 ∧ Hid (wr = w))
  case atStart => exact ⟨rfl, rfl⟩
  obtain ⟨rfl, RW⟩ := hrel
  go_wp2_with fail
  first | refine bodyPost_end (results_none rfl _ _ _) rfl ?_ | refine bodyPost_ret (results_none rfl _ _ _) rfl ?_
  exact ⟨rfl, RW.out⟩
set_option maxRecDepth 100000 in
theorem pdqP_is (p : Option Addr) (cap : Nat) (w : World) : Calls Try.prog 63 #[.slice p 0 cap, .int .i64 0, .int .i64 0, .int .i64 0] w fun e w' => e = .returned (.tuple #[]) ∧ w' = w := by
  have K : Hid (∀ W, Calls Try.prog 68 #[.slice p 0 cap, .int .i64 0, .int .i64 0] W fun e w' => e = .returned (.tuple #[]) ∧ w' = W) := insertP_is p cap
  go_enter Try.func63, Try.ntmps63
  go_wp2_with fail
  go_loopg [1, 2] 0 (fun g a b wr => a = .int .i64 0 ∧ b = .int .i64 0 ∧ Hid (wr = w))
  case atStart => exact ⟨rfl, rfl, rfl⟩
  obtain ⟨rfl, rfl, RW⟩ := hrel
  go_wp2_with (go_at_call 68; refine (K.out _).mono ?_; rintro e1 w1 ⟨rfl, rfl⟩)
  first | refine bodyPost_end (results_none rfl _ _ _) rfl ?_ | refine bodyPost_ret (results_none rfl _ _ _) rfl ?_
  exact ⟨rfl, RW.out⟩
set_option maxRecDepth 100000 in
theorem sortP_is (p : Option Addr) (cap : Nat) (w : World) : Calls Try.prog 54 #[.slice p 0 cap] w fun e w' => e = .returned (.tuple #[]) ∧ w' = w := by
  have K : Hid (∀ W, Calls Try.prog 63 #[.slice p 0 cap, .int .i64 0, .int .i64 0, .int .i64 0] W fun e w' => e = .returned (.tuple #[]) ∧ w' = W) := pdqP_is p cap
  have KL : Hid (∀ W, Calls Try.prog 64 #[.int .u64 0] W fun e w' => e = .returned (.int .i64 0) ∧ w' = W) := len0_is
  go_enter Try.func54, Try.ntmps54
  go_wp2_with (first | (go_at_call 64; refine (KL.out _).mono ?_; rintro e1 w1 ⟨rfl, rfl⟩) | (go_at_call 63; refine (K.out _).mono ?_; rintro e1 w1 ⟨rfl, rfl⟩))
  first | refine bodyPost_end (results_none rfl _ _ _) rfl ?_ | refine bodyPost_ret (results_none rfl _ _ _) rfl ?_
  exact ⟨rfl, rfl⟩
def itRen : Go.Shelf.Ren := ⟨fun | 6 => 39 | 7 => 40 | 8 => 53 | 9 => 54 | 10 => 55 | 11 => 62 | n => n, fun | 0 => 0 | 3 => 73 | 4 => 4 | 23 => 29 | 24 => 39 | 26 => 3 | 27 => 86 | 28 => 87 | 33 => 100 | n => n, fun | n => n⟩
theorem itB6 : Bears Try.prog (itRen.f 6) (SlBodyZ.n6 itRen) := ⟨Try.f39.name, by kernel_rfl, Try.func39.trans (congrArg some (by kernel_rfl))⟩
theorem itB8 : Bears Try.prog (itRen.f 8) (SlBodyZ.n8 itRen) := ⟨Try.f53.name, by kernel_rfl, Try.func53.trans (congrArg some (by kernel_rfl))⟩
theorem itB11 : Bears Try.prog (itRen.f 11) (SlBodyZ.n11 itRen) := ⟨Try.f62.name, by kernel_rfl, Try.func62.trans (congrArg some (by kernel_rfl))⟩
theorem itB7 : Bears Try.prog (itRen.f 7) (SlBodyZ.n7 itRen) := ⟨Try.f40.name, by kernel_rfl, Try.func40.trans (congrArg some (by kernel_rfl))⟩
theorem itB10 : Bears Try.prog (itRen.f 10) (SlBodyZ.n10 itRen) := ⟨Try.f55.name, by kernel_rfl, Try.func55.trans (congrArg some (by kernel_rfl))⟩
theorem itLays6 : SlLaysZI.n6 Try.prog itRen := {
  mixed := by kernel_rfl
  f6 := itB6
  f8 := itB8
  f11 := itB11
  t0 := Try.underlying0
  a0 := Try.isAgg0
  z0 := Try.sizeOf0
  v0 := Try.zeroValue0
  t24 := Try.underlying39
  a24 := Try.isAgg39
  z24 := Try.sizeOf39
  v24 := Try.zeroValue39
  t26 := Try.underlying3
  a26 := Try.isAgg3
  z26 := Try.sizeOf3
  v26 := Try.zeroValue3
  t28 := Try.underlying87
  a28 := Try.isAgg87
  z28 := Try.sizeOf87
  v28 := Try.zeroValue87
  i26 := by kernel_rfl }
theorem itLays7 : SlLaysZI.n7 Try.prog itRen := {
  mixed := by kernel_rfl
  f7 := itB7
  f10 := itB10
  t0 := Try.underlying0
  a0 := Try.isAgg0
  z0 := Try.sizeOf0
  v0 := Try.zeroValue0
  t4 := Try.underlying4
  a4 := Try.isAgg4
  z4 := Try.sizeOf4
  v4 := Try.zeroValue4
  t23 := Try.underlying29
  a23 := Try.isAgg29
  z23 := Try.sizeOf29
  v23 := Try.zeroValue29
  t26 := Try.underlying3
  a26 := Try.isAgg3
  z26 := Try.sizeOf3
  v26 := Try.zeroValue3
  t27 := Try.underlying86
  a27 := Try.isAgg86
  z27 := Try.sizeOf86
  v27 := Try.zeroValue86
  t28 := Try.underlying87
  a28 := Try.isAgg87
  z28 := Try.sizeOf87
  v28 := Try.zeroValue87
  t33 := Try.underlying100
  a33 := Try.isAgg100
  z33 := Try.sizeOf100
  v33 := Try.zeroValue100 }
theorem itSorts (m : Nat) : AnyZI.SortsIn Try.prog itRen Fence.wide m := ⟨fun blk off cap ss W hH hblk hsz => callsIn_wide.2 (Any.slices_Sort_int soLaysZ blk off cap ss W hH hblk hsz), fun p cap W => callsIn_wide.2 (sortP_is p cap W)⟩
/-- maps.Keys -/
theorem keysK_is (mb : Option Nat) (w : World) : Calls Try.prog 40 #[.map mb] w fun e w' => e = .returned (.func (.func 55) #[] #[.pointer (some ⟨w.heap.size, 0, none⟩)]) ∧ w' = w.alloc (.cells #[.map mb] 29) :=
  (callsIn_wide (n := 5)).1 (AnyZI.keys_in itLays7 Fence.wide 5 trivial rfl mb w)
/-- slices.Sorted of these keys -/
theorem sortedK_is (w : World) (Bm b n : Nat) (D : DataW Unit) (hBm : Bm < w.heap.size) (hm : w.cell? ⟨Bm, 0, none⟩ = some (.map (some b))) (hown : w.ownsMap Try.prog 3 pR b n D) (hn : n ≤ 1000000000) :
    Calls Try.prog 39 #[.func (.func 55) #[] #[.pointer (some ⟨Bm, 0, none⟩)]] w fun e w' => ∃ V ss, e = .returned V ∧ ss.Perm (intKeys D) ∧ OwnZ w' w.heap.size V (srt ss) ∧ Below w.heap.size w w' := by
  have hs : Maps.size D ≤ 1000000000 := Nat.le_trans hown.size_le hn
  have hseq : SeqGives Fence.wide 2 Try.prog 55 #[.pointer (some ⟨Bm, 0, none⟩)] encZ (fun ss => ss.Perm (intKeys D)) (Maps.size D) w :=
    AnyZI.keys_gives (ρ := itRen) { itLays7 with } Fence.wide _ trivial rfl (by omega) Bm b n D _ hBm hm hown
  have cS := AnyZI.sorted_in itLays6 Fence.wide 5 trivial trivial trivial trivial rfl (by omega) (itSorts _) (enters_of Try.func54 (by kernel_rfl) rfl) 55 #[.pointer (some ⟨Bm, 0, none⟩)] trivial (enters_of Try.func55 (by kernel_rfl) rfl) _ _ (by simp only [maxLen]; omega) (by omega) _ hseq
  change CallsIn _ _ Try.prog 39 _ _ _ at cS
  refine ((callsIn_wide (n := 5)).1 cS).mono ?_
  rintro e w' ⟨v, ss, rfl, hS, hrow, -, hb⟩
  refine ⟨v, ss, rfl, hS, ?_, hb⟩
  have hl : (srt ss).length = ss.length := by unfold srt; exact List.length_mergeSort _
  show w'.ownsRow w.heap.size 3 1 v (srt ss).length ((srt ss).map zi)
  rw [hl]
  exact hrow
/-- the keys of a map that tells T -/
theorem keys_of {w : World} {b n : Nat} {D : DataW Unit} {T : Int → Option (Option Nat)} (hown : w.ownsMap Try.prog 3 pR b n D) (hR : RepP D T) (hT : ∀ p, (T p).isSome → InI p) : (intKeys D).Nodup ∧ ∀ p, p ∈ intKeys D ↔ (T p).isSome = true := by
  have hwf := intKeys_wf hown Try.underlying3
  obtain ⟨es, hD, hpw, _⟩ := hown.entries lawI
  obtain ⟨es', hD', hko⟩ := hown.keysOf
  obtain rfl : es = es' := by rw [hD] at hD'; simpa using hD'
  subst hD
  have hk : ∀ p ∈ es, ∃ x, p.1 = .int .i64 x := fun p hp => by obtain ⟨v, hv⟩ := hko p hp; obtain ⟨x, _, hx, _⟩ := Maps.keyOf_i64 Try.underlying3 hv; exact ⟨x, hx⟩
  have hmem : ∀ x, x ∈ intKeys (.map es) ↔ Maps.has (.map es) (.int .i64 x) = true := fun x => by
    rw [has_eq, List.any_eq_true]
    show x ∈ es.map (fun p => Go.intOf p.1) ↔ _
    rw [List.mem_map]
    constructor
    · rintro ⟨p, hp, rfl⟩
      obtain ⟨a, ha⟩ := hk p hp
      exact ⟨p, hp, by rw [ha]; simp [Lit.sameKey, Go.intOf]⟩
    · rintro ⟨p, hp, hs⟩
      obtain ⟨a, ha⟩ := hk p hp
      rw [ha] at hs
      exact ⟨p, hp, by rw [ha]; simpa [Lit.sameKey, Go.intOf] using hs⟩
  refine ⟨?_, fun p => ?_⟩
  · show (es.map fun p => Go.intOf p.1).Nodup
    refine List.pairwise_map.2 (hpw.imp_of_mem fun {p q} hp' hq' hne e => hne ?_)
    obtain ⟨a, ha⟩ := hk p hp'
    obtain ⟨b, hb⟩ := hk q hq'
    rw [ha, hb] at e ⊢
    exact congrArg _ e
  · rw [hmem p]
    constructor
    · intro h
      have hp : InI p := by
        have := hwf p ((hmem p).2 h)
        simp only [Lit.wf, Bool.and_eq_true, decide_eq_true_eq] at this
        have e1 : IntKind.i64.min = -9223372036854775808 := by decide
        have e2 : IntKind.i64.max = 9223372036854775807 := by decide
        unfold InI
        omega
      rw [← (hR p hp).1]; exact h
    · intro h
      rw [(hR p (hT p h)).1]; exact h
theorem pwM {R S : Int → Int → Prop} (h : ∀ a b, R a b → S a b) {l : List Int} (hl : l.Pairwise R) : l.Pairwise S := by
  induction l with
  | nil => exact List.Pairwise.nil
  | cons a l ih =>
    rw [List.pairwise_cons] at hl ⊢
    exact ⟨fun b hb => h _ _ (hl.1 b hb), ih hl.2⟩
/-- the open ones, rising -/
def OpL (X : Int → Option Tr) (l : List Int) : Prop := l.Pairwise (· < ·) ∧ ∀ p, p ∈ l ↔ (X p).isSome = true
theorem opl_uniq {X : Int → Option Tr} {l l' : List Int} (h : OpL X l) (h' : OpL X l') : l = l' := by
  refine List.Perm.eq_of_pairwise (le := fun a b => a < b) (fun a b _ _ h1 h2 => absurd h1 (by omega)) h.1 h'.1 ?_
  have nd : ∀ {l : List Int}, l.Pairwise (· < ·) → l.Nodup := fun hl => pwM (fun a b h => by omega) hl
  exact (List.perm_ext_iff_of_nodup (nd h.1) (nd h'.1)).2 fun p => (h.2 p).trans (h'.2 p).symm
theorem srt_rise {l : List Int} (h : l.Nodup) : (srt l).Pairwise (· < ·) := by
  have h1 : (srt l).Pairwise fun x y => decide (x ≤ y) = true := by
    unfold srt
    refine List.pairwise_mergeSort (fun a b c h1 h2 => ?_) (fun a b => ?_) l
    · simp only [decide_eq_true_eq] at *; omega
    · simp only [Bool.or_eq_true, decide_eq_true_eq]; omega
  have h2 : (srt l).Nodup := by unfold srt; exact (List.mergeSort_perm l _).nodup_iff.2 h
  refine pwM (fun a b h => ?_) (h1.and h2)
  have := h.1
  rw [decide_eq_true_eq] at this
  have := h.2
  omega
set_option maxRecDepth 100000 in
set_option maxHeartbeats 4000000 in
theorem opened_is (w : World) (F : Nat → Prop) (b : Nat) (lim : Int) (n m : Nat) (B : Int → Option (Nat × Option Nat)) (X : Int → Option Tr) (h : Cd w F b lim n m B X) (hn : n ≤ 1000000000) :
    Calls Try.prog 17 #[.pointer (some ⟨b, 0, none⟩)] w fun e w' => ∃ V l, e = .returned V ∧ OwnZ w' w.heap.size V l ∧ OpL X l ∧ l.length ≤ n ∧ Below w.heap.size w w' := by
  have K : Hid (Calls Try.prog 30 #[.pointer (some ⟨b, 0, none⟩)] w fun e w' => e = .returned (.bool false) ∧ w' = w) := isNone_co w b lim m h.box
  obtain ⟨c0, c1⟩ := h.box.cells
  obtain ⟨D, hD, hR⟩ := h.map
  have hT : ∀ p, (((fun q => (B q).map fun y => some y.1) : Int → Option (Option Nat)) p).isSome → InI p := fun p hp => by
    simp only [Option.isSome_map] at hp
    obtain ⟨y, hy⟩ := Option.isSome_iff_exists.1 hp
    obtain ⟨x, hx, -⟩ := h.at hy
    exact (h.each p x hx).1
  have HK : Hid ((intKeys D).Nodup ∧ (∀ p, p ∈ intKeys D ↔ (X p).isSome = true) ∧ (intKeys D).length ≤ n) := by
    obtain ⟨k1, k2⟩ := keys_of hD hR hT
    refine ⟨k1, fun p => (k2 p).trans ?_, ?_⟩
    · simp only [Option.isSome_map]
      cases hx : X p with
      | none => rw [h.no p hx]; rfl
      | some x => obtain ⟨_, y, hy, _⟩ := h.each p x hx; rw [hy]; rfl
    · have := hD.size_le
      obtain ⟨es, rfl, -⟩ := hD.keysOf
      show (es.map fun p => Go.intOf p.1).length ≤ n
      rw [List.length_map]
      exact this
  have KK : Hid (∀ W, Calls Try.prog 40 #[.map (some m)] W fun e w' => e = .returned (.func (.func 55) #[] #[.pointer (some ⟨W.heap.size, 0, none⟩)]) ∧ w' = W.alloc (.cells #[.map (some m)] 29)) := keysK_is (some m)
  have KS : Hid (Calls Try.prog 39 #[.func (.func 55) #[] #[.pointer (some ⟨w.heap.size, 0, none⟩)]] (w.alloc (.cells #[.map (some m)] 29)) fun e w' => ∃ V ss, e = .returned V ∧ ss.Perm (intKeys D) ∧ OwnZ w' (w.alloc (.cells #[.map (some m)] 29)).heap.size V (srt ss) ∧ Below (w.alloc (.cells #[.map (some m)] 29)).heap.size (w.alloc (.cells #[.map (some m)] 29)) w') := by
    have hl := h.map.lt
    refine sortedK_is _ w.heap.size m n D (by simp) (one_cellK (heap_alloc_new w _)) ?_ hn
    obtain ⟨es, clock, hb, Ft, hs, hDD⟩ := hD
    exact ⟨es, clock, (Below.heap_alloc _ _ _ hl).trans hb, Ft, hs, hDD⟩
  clear h hD hR hT hn
  go_enter Try.func17, Try.ntmps17
  go_wp2_with fail
  refine K.out.mono ?_
  rintro e w1 ⟨rfl, hw⟩
  obtain rfl := hw.symm
  clear hw K
  go_wp2_with fail
  refine (KK.out _).mono ?_
  rintro e w1 ⟨rfl, hw⟩
  subst hw
  go_wp2_with fail
  refine KS.out.mono ?_
  rintro e w2 ⟨V, ss, rfl, hp, ho, hb⟩
  go_wp2_with fail
  go_ret
  have hl : (srt ss).length = (intKeys D).length := by unfold srt; rw [List.length_mergeSort]; exact hp.length_eq
  refine ⟨V, srt ss, rfl, ho.base (by simp), ⟨srt_rise (hp.nodup_iff.2 HK.out.1), fun p => ?_⟩, by rw [hl]; exact HK.out.2.2, (below1 w _).trans (hb.mono (by simp))⟩
  have : p ∈ srt ss ↔ p ∈ ss := by unfold srt; exact List.mem_mergeSort
  exact this.trans (hp.mem_iff.trans (HK.out.2.1 p))
end Go.Proofs.Ythaeidbnbgghkaa
namespace Go.Proofs.Ythaeidbnbgghkaa
open Go.ChangeShapes Go.WideShapes Go.ChangeAt Go.RowKit Go.Deep Go.Maps
set_option linter.unusedVariables false
set_option linter.unusedSimpArgs false
/-- what a tick does to one -/
structure Tk1 where
  ms : List (Int × Int × Int × List Pc)
  gn : List Int
  x : Option Tr
def tk1 (lim q : Int) (x : Tr) : Tk1 :=
  if x.st = 1 ∧ x.age + 1 = lim then ⟨x.rts.map fun r => (4, q, r, []), [q], none⟩
  else ⟨x.lk.map fun p => (if x.st = 3 then 3 else 1, q, p.1, p.2), [], some (if x.st = 1 then ⟨1, x.age + 1, x.rts, x.lk⟩ else x)⟩
def tkMs (lim : Int) (X : Int → Option Tr) (l : List Int) : List (Int × Int × Int × List Pc) := l.flatMap fun q => (X q).elim [] fun x => (tk1 lim q x).ms
def tkGo (lim : Int) (X : Int → Option Tr) (l : List Int) : List Int := l.flatMap fun q => (X q).elim [] fun x => (tk1 lim q x).gn
def tkX (lim : Int) (X : Int → Option Tr) (l : List Int) : Int → Option Tr := fun q => if q ∈ l then (X q).bind fun x => (tk1 lim q x).x else X q
/-- what a coordinator with this limit may know -/
def GL (lim : Int) (X : Int → Option Tr) : Prop := GX X ∧ ∀ q x, X q = some x → 0 ≤ x.age ∧ x.age < lim
theorem tkX_nil (lim : Int) (X : Int → Option Tr) : tkX lim X [] = X := by
  funext q
  unfold tkX
  exact if_neg (by simp)
theorem tkX_step (lim : Int) (X : Int → Option Tr) {l : List Int} {q : Int} {x : Tr} (hx : X q = some x) : setX (tkX lim X l) q (tk1 lim q x).x = tkX lim X (l ++ [q]) := by
  funext p
  by_cases e : p = q
  · subst e
    rw [setX_at]
    unfold tkX
    rw [if_pos (by simp), hx]
    rfl
  · rw [setX_ne _ _ e]
    unfold tkX
    by_cases hp : p ∈ l
    · rw [if_pos hp, if_pos (by simp [hp])]
    · rw [if_neg hp, if_neg (by simp [hp, e])]
theorem tkMs_step (lim : Int) (X : Int → Option Tr) (l : List Int) {q : Int} {x : Tr} (hx : X q = some x) : tkMs lim X (l ++ [q]) = tkMs lim X l ++ (tk1 lim q x).ms := by simp [tkMs, hx]
theorem tkGo_step (lim : Int) (X : Int → Option Tr) (l : List Int) {q : Int} {x : Tr} (hx : X q = some x) : tkGo lim X (l ++ [q]) = tkGo lim X l ++ (tk1 lim q x).gn := by simp [tkGo, hx]
theorem tk1_ok {lim q : Int} {x : Tr} (h : TrOk x) (ha : 0 ≤ x.age ∧ x.age < lim) : ∀ y, (tk1 lim q x).x = some y → TrOk y ∧ 0 ≤ y.age ∧ y.age < lim := by
  intro y hy
  unfold tk1 at hy
  split at hy
  · cases hy
  · rename_i hn
    injection hy with hy
    subst hy
    split
    · rename_i h1
      refine ⟨⟨h.nd, h.len, h.sub, Int.le_refl 1, (show (1 : Int) ≤ 3 by decide)⟩, by show 0 ≤ x.age + 1; omega, ?_⟩
      show x.age + 1 < lim
      have : ¬ x.age + 1 = lim := fun e => hn ⟨h1, e⟩
      omega
    · exact ⟨h, ha⟩
theorem GL.tick {lim : Int} {X : Int → Option Tr} (h : GL lim X) (l : List Int) : GL lim (tkX lim X l) := by
  have key : ∀ q y, tkX lim X l q = some y → TrOk y ∧ 0 ≤ y.age ∧ y.age < lim := fun q y hy => by
    unfold tkX at hy
    split at hy
    · cases hx : X q with
      | none => rw [hx] at hy; cases hy
      | some x => rw [hx] at hy; exact tk1_ok (h.1 q x hx) (h.2 q x hx) y hy
    · exact ⟨h.1 q y hy, h.2 q y hy⟩
  exact ⟨fun q y hy => (key q y hy).1, fun q y hy => (key q y hy).2⟩
/-- messages of several kinds about several transactions, one's own -/
structure Lts (z : Nat) (w : World) (V : Value) (R : List (Int × Int × Pv)) : Prop where
  own : OwnM w z V (R.map fun x => mvOf x.1 x.2.1 x.2.2)
  each : ∀ x ∈ R, NewSt w z x.2.2.a x.2.2.n x.2.2.c x.2.2.M
def co4 (x : Int × Int × Pv) : Int × Int × Int × List Pc := (x.1, x.2.1, x.2.2.r, x.2.2.co)
theorem Lts.nil (z : Nat) (w : World) : Lts z w (.slice none 0 0) [] := ⟨OwnM.nil _ _, fun p hp => by cases hp⟩
theorem Lts.keep {z : Nat} {w w' : World} {V : Value} {R : List (Int × Int × Pv)} (h : Lts z w V R) (hb : Below w.heap.size w w') : Lts z w' V R := ⟨h.own.keep hb, fun p hp => (h.each p hp).keep hb⟩
theorem Lts.base {z z' : Nat} {w : World} {V : Value} {R : List (Int × Int × Pv)} (h : Lts z w V R) (hz : z' ≤ z) : Lts z' w V R := ⟨h.own.base hz, fun p hp => (h.each p hp).base hz⟩
theorem Lts.kept {z : Nat} {w w' : World} {V : Value} {R : List (Int × Int × Pv)} (h : Lts z w V R) (hs : w.heap.size ≤ w'.heap.size) (hb : ∀ k, z ≤ k → k < w.heap.size → w'.heap[k]? = w.heap[k]?) : Lts z w' V R := by
  refine ⟨h.own.kept fun k hk => hb k (h.own.own k hk).1 (h.own.own k hk).2, fun x hx => (h.each x hx).keptF hs fun k hk => ?_⟩
  obtain ⟨h1, h2, -⟩ := (h.each x hx).typ k hk
  exact hb k h1 h2
theorem Lts.app {z z' : Nat} {w u : World} {V V' v : Value} {R : List (Int × Int × Pv)} {k q : Int} {Q : List Pv} (h : Lts z w V R) (g : Ltr z' w V' k q Q) (hz : z ≤ z') (ho : OwnM u z v ((R.map fun x => mvOf x.1 x.2.1 x.2.2) ++ Q.map (mvOf k q))) (hg : w.grownBy u V.ownBlock) : Lts z u v (R ++ Q.map fun p => (k, q, p)) := by
  have hoff := ownM_off h.own hg
  have hk : ∀ (a : Option Addr) (n c : Nat) (M : List Pk), NewSt w z a n c M → NewSt u z a n c M := fun a n c M h => NewSt.kept2 h hg.size (fun k cs t hk ht => hoff k cs t hk (by rcases ht with rfl | rfl <;> decide))
  refine ⟨by rw [List.map_append, List.map_map]; exact ho, fun y hy => ?_⟩
  rcases List.mem_append.1 hy with hy | hy
  · exact hk _ _ _ _ (h.each y hy)
  · obtain ⟨p, hp, rfl⟩ := List.mem_map.1 hy
    exact hk _ _ _ _ ((g.each p hp).base hz)
theorem co4_app (R : List (Int × Int × Pv)) (k q : Int) (Q : List Pv) : (R ++ Q.map fun p => (k, q, p)).map co4 = R.map co4 ++ (Q.map fun p => (p.r, p.co)).map fun p => (k, q, p.1, p.2) := by
  rw [List.map_append, List.map_map, List.map_map]
  rfl
theorem Co.grown {w u : World} {F : Nat → Prop} {b : Nat} {lim : Int} {n m : Nat} {X : Int → Option Tr} (h : Co w F b lim n m X) {ob : Option Nat} (hg : w.grownBy u ob) (hn : ∀ g, ob = some g → ¬ F g) : Co u F b lim n m X := by
  obtain ⟨B, h⟩ := h
  exact ⟨B, h.kept hg.size (fun k hk => hg.block k (h.lt k hk) (fun e => hn k e.symm hk))⟩
theorem Stp.grown {w w' u : World} {F : Nat → Prop} (h : Stp F F w w') {ob : Option Nat} (hg : w'.grownBy u ob) (hz : ∀ g, ob = some g → w.heap.size ≤ g) : Stp F F w u := ⟨h.off.grown hg (fun k hk => .inr (hz k hk)), h.sub⟩
/-- between two rounds of Tick -/
structure Tks (F : Nat → Prop) (b : Nat) (lim : Int) (n m : Nat) (X : Int → Option Tr) (w1 wr : World) (V4 V5 : Value) (L : List Int) (R : List (Int × Int × Pv)) : Prop where
  ms : Lts w1.heap.size wr V4 R
  co : R.map co4 = tkMs lim X L
  len : R.length ≤ 6 * L.length
  gn : OwnZ wr w1.heap.size V5 (tkGo lim X L)
  gl : (tkGo lim X L).length ≤ L.length
  cd : Co wr F b lim n m (tkX lim X L)
  st : Stp F F w1 wr
theorem ownM_typ {w : World} {z : Nat} {v : Value} {l : List Mv} (h : OwnM w z v l) {k : Nat} (hk : v.ownBlock = some k) : ∃ cs, w.heap[k]? = some (.cells cs 25) := by
  rcases h.2 with ⟨rfl, hn⟩ | ⟨g, cap, cur, rfl, hb, hg, hl, hm, hs, ht⟩
  · cases hk
  · cases hk
    exact ⟨cur, hg⟩
/-- a row of numbers grows beside -/
theorem Lts.ints {z z' : Nat} {w u : World} {V V5 : Value} {R : List (Int × Int × Pv)} {l : List Int} (h : Lts z w V R) (ho : OwnZ w z' V5 l) (hg : w.grownBy u V5.ownBlock) : Lts z u V R := by
  have hne : ∀ (k : Nat) (cs : Array Value) (t : TypeId), w.heap[k]? = some (Obj.cells cs t) → t ≠ 3 → u.heap[k]? = w.heap[k]? := fun k cs t hk ht => hg.block k (lt_of_heapK hk) fun e => by
    obtain ⟨cs', h'⟩ := ownZ_typ ho e.symm
    rw [hk] at h'
    injection h' with h'
    injection h' with h1 h2
    exact ht h2
  refine ⟨h.own.kept fun k hk => ?_, fun x hx => NewSt.kept2 (h.each x hx) hg.size (fun k cs t hk ht => hne k cs t hk (by rcases ht with rfl | rfl <;> decide))⟩
  obtain ⟨cs, hk'⟩ := ownM_typ h.own hk
  exact hne k cs _ hk' (by decide)
theorem tk1_len {lim q : Int} {x : Tr} (h : TrOk x) : (tk1 lim q x).ms.length ≤ 6 ∧ (tk1 lim q x).gn.length ≤ 1 := by
  unfold tk1
  split
  · exact ⟨by rw [List.length_map]; exact h.len, Nat.le_refl _⟩
  · exact ⟨by rw [List.length_map]; exact h.llen, Nat.zero_le _⟩
theorem Tks.pass {F : Nat → Prop} {b : Nat} {lim : Int} {n m : Nat} {X : Int → Option Tr} {w1 wr : World} {V4 V5 : Value} {L : List Int} {R : List (Int × Int × Pv)} (h : Tks F b lim n m X w1 wr V4 V5 L R) (hF : ∀ k, F k → k < w1.heap.size) {w3 : World} (s3 : Stp F F wr w3) : Lts w1.heap.size w3 V4 R ∧ OwnZ w3 w1.heap.size V5 (tkGo lim X L) := by
  have hb : ∀ k, w1.heap.size ≤ k → k < wr.heap.size → w3.heap[k]? = wr.heap[k]? := fun k h1 h2 => s3.off.block k h2 (fun e => absurd (hF k e) (by omega))
  exact ⟨h.ms.kept s3.off.size hb, h.gn.kept fun k hk => hb k (h.gn.own k hk).1 (h.gn.own k hk).2⟩
theorem Tks.next {F : Nat → Prop} {b : Nat} {lim : Int} {n m : Nat} {X : Int → Option Tr} {w1 wr : World} {V4 V5 : Value} {L : List Int} {R : List (Int × Int × Pv)} (h : Tks F b lim n m X w1 wr V4 V5 L R) (hF : ∀ k, F k → k < w1.heap.size) {q : Int} {x : Tr} (hx : X q = some x) (ok : TrOk x) {w3 : World} (s3 : Stp F F wr w3) {V' : Value} {kd : Int} {Q : List Pv} {z' : Nat} (l3 : Ltr z' w3 V' kd q Q) (hz' : w1.heap.size ≤ z') (hq : (Q.map fun p => (p.r, p.co)).map (fun p => (kd, q, p.1, p.2)) = (tk1 lim q x).ms) (c3 : Co w3 F b lim n m (setX (tkX lim X L) q (tk1 lim q x).x)) {u : World} {v8 : Value} (o8 : OwnM u w1.heap.size v8 ((R.map fun x => mvOf x.1 x.2.1 x.2.2) ++ Q.map (mvOf kd q))) (g8 : w3.grownBy u V4.ownBlock) :
    Lts w1.heap.size u v8 (R ++ Q.map fun p => (kd, q, p)) ∧ (R ++ Q.map fun p => (kd, q, p)).map co4 = tkMs lim X (L ++ [q]) ∧ (R ++ Q.map fun p => (kd, q, p)).length ≤ 6 * (L ++ [q]).length ∧ OwnZ u w1.heap.size V5 (tkGo lim X L) ∧ Co u F b lim n m (tkX lim X (L ++ [q])) ∧ Stp F F w1 u := by
  obtain ⟨p1, p2⟩ := h.pass hF s3
  have hz : ∀ g, V4.ownBlock = some g → w1.heap.size ≤ g := fun g hg => (p1.own.own g hg).1
  refine ⟨p1.app l3 hz' o8 g8, by rw [co4_app, h.co, hq, tkMs_step lim X L hx], ?_, ?_, ?_, (h.st.trans s3).grown g8 hz⟩
  · have e := congrArg List.length hq
    rw [List.length_map, List.length_map] at e
    rw [List.length_append, List.length_append, List.length_map, e]
    have h1 := h.len
    have h2 := (tk1_len (lim := lim) (q := q) ok).1
    show _ ≤ 6 * (L.length + 1)
    omega
  · refine p2.kept fun k hk => g8.block k (p2.own k hk).2 fun e => ?_
    obtain ⟨cs, h1⟩ := ownZ_typ p2 hk
    obtain ⟨cs', h2⟩ := ownM_typ p1.own e.symm
    rw [h1] at h2
    injection h2 with h2
    injection h2 with h3 h4
    exact absurd h4 (by decide)
  · rw [tkX_step lim X hx] at c3
    exact c3.grown g8 fun g hg hf => absurd (hF g hf) (by have := hz g hg; omega)
set_option maxRecDepth 100000 in
set_option maxHeartbeats 8000000 in
theorem tick_is (w : World) (F : Nat → Prop) (b : Nat) (lim : Int) (n m : Nat) (B : Int → Option (Nat × Option Nat)) (X : Int → Option Tr) (h : Cd w F b lim n m B X) (hX : GL lim X) (hlim : lim ≤ 1000) (hn : n ≤ 100000000) :
    Calls Try.prog 14 #[.pointer (some ⟨b, 0, none⟩)] w fun e w' => ∃ V G R l, e = .returned (.tuple #[V, G]) ∧ OpL X l ∧ l.length ≤ n ∧ Lts w.heap.size w' V R ∧ R.map co4 = tkMs lim X l ∧ OwnZ w' w.heap.size G (tkGo lim X l) ∧ Co w' F b lim n m (tkX lim X l) ∧ Stp F F w w' := by
  have K : Hid (Calls Try.prog 17 #[.pointer (some ⟨b, 0, none⟩)] w fun e w' => ∃ V l, e = .returned V ∧ OwnZ w' w.heap.size V l ∧ OpL X l ∧ l.length ≤ n ∧ Below w.heap.size w w') := opened_is w F b lim n m B X h (by omega)
  have H0 : Hid (Cd w F b lim n m B X ∧ GL lim X ∧ lim ≤ 1000 ∧ n ≤ 100000000) := ⟨h, hX, hlim, hn⟩
  clear h hX hlim hn
  go_enter Try.func14, Try.ntmps14
  go_wp2_with fail
  refine K.out.mono ?_
  rintro e w1 ⟨V, l, rfl, ho, hl, hln, hb⟩
  obtain ⟨la, lc, rfl, hz, -, -, -, hblk⟩ := ho.slice
  generalize hnl : l.length = nl at *
  have HL : Hid (OpL X l ∧ l.length = nl ∧ nl ≤ n ∧ Below w.heap.size w w1) := ⟨hl, hnl, hln, hb⟩
  have HZ : Hid (∀ W, Stp F F w1 W → InZ W la l) := fun W hW => hz.kept hW.off.size fun q hq _ => by
    obtain ⟨z1, z2, -⟩ := hblk q hq
    exact hW.off.block _ z2 (fun hF => absurd (H0.out.1.lt _ hF) (by omega))
  have HF : Hid (∀ k, F k → k < w1.heap.size) := fun k hk => Nat.lt_of_lt_of_le (H0.out.1.lt k hk) hb.size
  clear ho hl hln hb hz hblk hnl K
  go_wp2_with fail
  go_loopg [4, 5, 12] nl (fun g V4 V5 i wr => ∃ (j : Nat) (R : List (Int × Int × Pv)), j ≤ nl ∧ g = nl - j ∧ i = .int .i64 (j : Int) ∧ Hid (Tks F b lim n m X w1 wr V4 V5 (l.take j) R))
  case atStart =>
    refine ⟨0, [], Nat.zero_le _, rfl, rfl, ?_⟩
    have c1 : Co w1 F b lim n m X := ⟨B, H0.out.1.keep HL.out.2.2.2⟩
    exact ⟨Lts.nil _ _, rfl, Nat.zero_le _, OwnZ.nil _ _, Nat.zero_le _, by rw [List.take_zero, tkX_nil]; exact c1, Stp.refl _ _⟩
  case round =>
    obtain ⟨j, R, hj, rfl, rfl, RW⟩ := hrel
    by_cases hlt : j < nl
    · have j1 : decide ((j : Int) < (nl : Int)) = true := by rw [decide_eq_true_eq]; omega
      have j3 : decide (j < nl) = true := by rw [decide_eq_true_eq]; omega
      have j4 : (j : Int) < (nl : Int) := by omega
      have ri : IntKind.i64.wrap ((j : Int) + 1) = (j : Int) + 1 := by rw [IntKind.wrap_i64]; have := HL.out.2.2.1; have := H0.out.2.2.2; omega
      obtain ⟨q, hq⟩ : ∃ q, l[j]? = some q := ⟨l[j]'(by rw [HL.out.2.1]; exact hlt), List.getElem?_eq_getElem _⟩
      obtain ⟨bl, off, hla, hbl, c0⟩ := (HZ.out wr RW.out.st).at hq
      subst hla
      obtain ⟨x, hx⟩ : ∃ x, X q = some x := Option.isSome_iff_exists.1 ((HL.out.1.2 q).1 (List.mem_of_getElem? hq))
      have hxj : tkX lim X (l.take j) q = some x := by
        unfold tkX
        rw [if_neg, hx]
        intro hm
        obtain ⟨i, hi⟩ := List.mem_iff_getElem?.1 hm
        rw [List.getElem?_take] at hi
        split at hi
        · rename_i hij
          have hi1 : i < l.length := by rw [HL.out.2.1]; omega
          have hj1 : j < l.length := by rw [HL.out.2.1]; omega
          have := List.pairwise_iff_getElem.1 HL.out.1.1 i j hi1 hj1 hij
          rw [List.getElem?_eq_getElem hi1] at hi
          rw [List.getElem?_eq_getElem hj1] at hq
          injection hi with hi
          injection hq with hq
          omega
        · cases hi
      have HT : Hid (l.take (j + 1) = l.take j ++ [q] ∧ (l.take j).length = j ∧ (l.take (j + 1)).length = j + 1) := by
        refine ⟨by rw [List.take_add_one, hq]; rfl, ?_, ?_⟩
        · rw [List.length_take, HL.out.2.1]; omega
        · rw [List.length_take, HL.out.2.1]; omega
      obtain ⟨Bj, hc⟩ := RW.out.cd
      obtain ⟨y, hy, ht, hlk⟩ := hc.find hxj
      obtain ⟨ra, rc, la', lc', P, hb, -⟩ := ht.open
      obtain ⟨t0, t1, t2, t3, t4⟩ := tr_cells hb
      obtain ⟨k0, k1⟩ := hc.box.cells
      have ok := H0.out.2.1.1 q x hx
      have ag := H0.out.2.1.2 q x hx
      have HX : Hid (X q = some x ∧ tkX lim X (l.take j) q = some x ∧ TrOk x ∧ 0 ≤ x.age ∧ x.age < lim ∧ Bj q = some y ∧ Cd wr F b lim n m Bj (tkX lim X (l.take j)) ∧ TrAt wr F y q x ∧ wr.heap[y.1]? = some (.cells #[.int .i64 q, .int .i64 x.st, .int .i64 x.age, .slice ra x.rts.length rc, .slice la' x.lk.length lc'] 75)) := ⟨hx, hxj, ok, ag.1, ag.2, hy, hc, ht, hb⟩
      have hR : R.length ≤ 6 * j := by have := RW.out.len; rwa [HT.out.2.1] at this
      have hG : (tkGo lim X (l.take j)).length ≤ j := by have := RW.out.gl; rwa [HT.out.2.1] at this
      have HR : Hid (R.length ≤ 6 * j ∧ (tkGo lim X (l.take j)).length ≤ j) := ⟨hR, hG⟩
      clear hx hxj hc hy ht hb ok ag hq hR hG hbl
      by_cases h1 : x.st = 1
      · have e1 : (x.st == (1 : Int)) = true := by simp [h1]
        have wa : IntKind.i64.wrap (x.age + 1) = x.age + 1 := by rw [IntKind.wrap_i64]; have := HX.out; have := H0.out.2.2.1; omega
        obtain ⟨hd, hdst⟩ := HX.out.2.2.2.2.2.2.1.setAge HX.out.2.2.2.2.2.1 HX.out.2.1 (x.age + 1)
        obtain ⟨k0', k1'⟩ := hd.box.cells
        have e5 := set2_blk (v := .int .i64 (x.age + 1)) HX.out.2.2.2.2.2.2.2.2
        obtain ⟨t0', t1', t2', t3', t4'⟩ := tr_cells e5
        have HD : Hid (Cd (wr.setCell ⟨y.1, 2, none⟩ (.int .i64 (x.age + 1))).drew F b lim n m (updB Bj q y) (updX (tkX lim X (l.take j)) q ⟨x.st, x.age + 1, x.rts, x.lk⟩) ∧ Stp F F wr (wr.setCell ⟨y.1, 2, none⟩ (.int .i64 (x.age + 1))).drew) := by
          have bd : Below (wr.setCell ⟨y.1, 2, none⟩ (.int .i64 (x.age + 1))).heap.size (wr.setCell ⟨y.1, 2, none⟩ (.int .i64 (x.age + 1))) (wr.setCell ⟨y.1, 2, none⟩ (.int .i64 (x.age + 1))).drew := (Below.refl _ _).drew
          exact ⟨hd.keep bd, hdst.trans (Stp.below bd)⟩
        have fz := frozen_blk HX.out.2.2.2.2.2.2.2.2
        have fz2 := frozen_blk e5
        clear hd hdst e5
        by_cases h2 : x.age + 1 = lim
        · have e2 : (x.age + 1 == lim) = true := by simp [h2]
          have e2' : decide (x.age + 1 = lim) = true := by simp [h2]
          have KG : Hid (Calls Try.prog 32 #[.pointer (some ⟨b, 0, none⟩), .pointer (some ⟨y.1, 0, none⟩)] (wr.setCell ⟨y.1, 2, none⟩ (.int .i64 (x.age + 1))).drew fun e w' => ∃ V Q, e = .returned V ∧ Ltr (wr.setCell ⟨y.1, 2, none⟩ (.int .i64 (x.age + 1))).drew.heap.size w' V 4 q Q ∧ Q.map (fun p => (p.r, p.co)) = x.rts.map (fun r => (r, ([] : List Pc))) ∧ Co w' F b lim n m (setX (tkX lim X (l.take j)) q none) ∧ Stp F F (wr.setCell ⟨y.1, 2, none⟩ (.int .i64 (x.age + 1))).drew w') := by
            have h := giveUp_is _ F b lim n m _ _ HD.out.1 q ⟨x.st, x.age + 1, x.rts, x.lk⟩ (updX_at _ _ _) y (updB_at _ _ _) (Nat.le_trans HX.out.2.2.1.len (by decide))
            rw [delX_upd] at h
            exact h
          have HK1 : Hid (tk1 lim q x = ⟨x.rts.map fun r => (4, q, r, []), [q], none⟩) := by
            show _ = _
            unfold tk1
            rw [if_pos ⟨h1, h2⟩]
          have hsz : (wr.setCell ⟨y.1, 2, none⟩ (.int .i64 (x.age + 1))).drew.heap.size = wr.heap.size := by simp [World.setCell]
          have HZ2 : Hid ((wr.setCell ⟨y.1, 2, none⟩ (.int .i64 (x.age + 1))).drew.heap.size = wr.heap.size) := hsz
          generalize x.rts.length = nr at *
          generalize x.lk.length = nk at *
          generalize hst : x.st = st at *
          generalize hag : x.age = age at *
          have HS : Hid (x.st = st ∧ x.age = age) := ⟨hst, hag⟩
          clear h1 h2 hst hag hsz
          go_wp2_with fail
          go_region
          go_wp2_with fail
          refine KG.out.mono ?_
          rintro e w3 ⟨V3, Q, rfl, l3, q3, c3', b3⟩
          obtain ⟨a3, c3, rfl, m3, -, -, n3, -⟩ := l3.own.slice
          generalize hmq : (Q.map (mvOf 4 q)).length = mq at *
          have s3 : Stp F F wr w3 := HD.out.2.trans b3
          have H3 : Hid (Ltr (wr.setCell ⟨y.1, 2, none⟩ (.int .i64 (age + 1))).drew.heap.size w3 (.slice a3 mq c3) 4 q Q ∧ Q.map (fun p => (p.r, p.co)) = x.rts.map (fun r => (r, ([] : List Pc))) ∧ Stp F F wr w3 ∧ Co w3 F b lim n m (setX (tkX lim X (l.take j)) q (tk1 lim q x).x) ∧ mq = (Q.map (mvOf 4 q)).length ∧ InM w3 a3 (Q.map (mvOf 4 q)) ∧ (a3 = none → mq = 0 ∧ c3 = 0) ∧ mq ≤ 6 ∧ Lts w1.heap.size w3 u4 R ∧ w1.heap.size ≤ w3.heap.size ∧ w1.heap.size ≤ (wr.setCell ⟨y.1, 2, none⟩ (.int .i64 (age + 1))).drew.heap.size) := by
            have e := congrArg List.length q3
            rw [List.length_map, List.length_map] at e
            refine ⟨l3, q3, s3, by rw [HK1.out]; exact c3', hmq.symm, m3, fun ha => ⟨by rw [← hmq, (n3 ha).2]; rfl, (n3 ha).1⟩, ?_, (RW.out.pass HF.out s3).1, Nat.le_trans RW.out.st.off.size s3.off.size, (by rw [HZ2.out]; exact RW.out.st.off.size)⟩
            rw [← hmq, List.length_map, e]
            exact HX.out.2.2.1.len
          clear l3 q3 b3 m3 n3 s3 hmq KG c3'
          go_upto_region 11 with (at_builtin; refine append_msgs rfl (.tmp 43) (.tmp 46) rfl w1.heap.size _ _ rfl H3.out.2.2.2.2.2.2.2.2.1.own a3 mq c3 (Q.map (mvOf 4 q)) rfl H3.out.2.2.2.2.1.symm H3.out.2.2.2.2.2.1 H3.out.2.2.2.2.2.2.1 (by rw [List.length_map]; have h1 := HR.out.1; have h2 := H3.out.2.2.2.2.2.2.2.1; have h3 := HL.out.2.2.1; have h4 := H0.out.2.2.2; omega) H3.out.2.2.2.2.2.2.2.2.2.1 ?_; intro v8 u8 o8 g8; have F8 : Hid (OwnM u8 w1.heap.size v8 ((R.map fun x => mvOf x.1 x.2.1 x.2.2) ++ Q.map (mvOf 4 q)) ∧ w3.grownBy u8 u4.ownBlock) := ⟨o8, g8⟩; clear o8 g8)
          have HNx : Hid (Lts w1.heap.size u8 v8 (R ++ Q.map fun p => (4, q, p)) ∧ (R ++ Q.map fun p => (4, q, p)).map co4 = tkMs lim X (l.take j ++ [q]) ∧ (R ++ Q.map fun p => (4, q, p)).length ≤ 6 * (l.take j ++ [q]).length ∧ OwnZ u8 w1.heap.size u5 (tkGo lim X (l.take j)) ∧ Co u8 F b lim n m (tkX lim X (l.take j ++ [q])) ∧ Stp F F w1 u8) := RW.out.next HF.out HX.out.1 HX.out.2.2.1 H3.out.2.2.1 H3.out.1 H3.out.2.2.2.2.2.2.2.2.2.2 (by rw [H3.out.2.1, HK1.out, List.map_map]; rfl) H3.out.2.2.2.1 F8.out.1 F8.out.2
          have b2 := below1 u8 (.cells #[.int .i64 q] 3)
          have A1 : Hid (OwnZ (u8.alloc (.cells #[.int .i64 q] 3)) w1.heap.size u5 (tkGo lim X (l.take j)) ∧ InZ (u8.alloc (.cells #[.int .i64 q] 3)) (some ⟨u8.heap.size, 0, none⟩) [q] ∧ w1.heap.size ≤ (u8.alloc (.cells #[.int .i64 q] 3)).heap.size ∧ Below u8.heap.size u8 (u8.alloc (.cells #[.int .i64 q] 3))) := ⟨HNx.out.2.2.2.1.keep b2, one_z (heap_alloc_new u8 (.cells #[.int .i64 q] 3)), Nat.le_trans HNx.out.2.2.2.2.2.off.size b2.size, b2⟩
          clear b2
          go_wp2_with (at_builtin; refine append_ints rfl (.tmp 48) (.tmp 50) rfl w1.heap.size _ _ rfl A1.out.1 (some ⟨u8.heap.size, 0, none⟩) 1 1 [q] rfl rfl A1.out.2.1 (fun h => by cases h) (by have h2 := HR.out.2; have h3 := HL.out.2.2.1; have h4 := H0.out.2.2.2; omega) A1.out.2.2.1 ?_; intro v9 u9 o9 g9; have F9 : Hid (OwnZ u9 w1.heap.size v9 (tkGo lim X (l.take j) ++ [q]) ∧ (u8.alloc (.cells #[.int .i64 q] 3)).grownBy u9 u5.ownBlock) := ⟨o9, g9⟩; clear o9 g9)
          go_roundg (nl - (j + 1))
          case measure => omega
          case rel =>
            refine ⟨j + 1, R ++ Q.map fun p => (4, q, p), by omega, rfl, by push_cast; rfl, ?_⟩
            obtain ⟨r1, r2, r3, r4, r5, r6⟩ := HNx.out
            have hgn : tkGo lim X (l.take j ++ [q]) = tkGo lim X (l.take j) ++ [q] := by rw [tkGo_step lim X _ HX.out.1, HK1.out]
            have hz : ∀ g, u5.ownBlock = some g → w1.heap.size ≤ g := fun g hg => (A1.out.1.own g hg).1
            show Tks F b lim n m X w1 _ _ _ (l.take (j + 1)) _
            rw [HT.out.1]
            exact ⟨(r1.keep A1.out.2.2.2).ints A1.out.1 F9.out.2, r2, r3, by rw [hgn]; exact F9.out.1, by rw [hgn, List.length_append, List.length_append, HT.out.2.1]; exact Nat.add_le_add_right HR.out.2 1, (r5.keep A1.out.2.2.2).grown F9.out.2 (fun g hg hf => absurd (HF.out g hf) (by have := hz g hg; omega)), (r6.trans (Stp.below A1.out.2.2.2)).grown F9.out.2 hz⟩
        · have e2 : (x.age + 1 == lim) = false := by simp [h2]
          have e2' : decide (x.age + 1 = lim) = false := by simp [h2]
          have KT : Hid (Calls Try.prog 31 #[.pointer (some ⟨y.1, 0, none⟩)] (wr.setCell ⟨y.1, 2, none⟩ (.int .i64 (x.age + 1))).drew fun e w' => ∃ V Q, e = .returned V ∧ Ltr (wr.setCell ⟨y.1, 2, none⟩ (.int .i64 (x.age + 1))).drew.heap.size w' V (if x.st = 3 then 3 else 1) q Q ∧ Q.map (fun p => (p.r, p.co)) = x.lk ∧ Below (wr.setCell ⟨y.1, 2, none⟩ (.int .i64 (x.age + 1))).drew.heap.size (wr.setCell ⟨y.1, 2, none⟩ (.int .i64 (x.age + 1))).drew w') := by
            obtain ⟨x', hx', ht'⟩ := HD.out.1.at (updB_at _ _ _)
            rw [updX_at] at hx'
            injection hx' with hx'
            subst hx'
            exact tlack_is _ F y q ⟨x.st, x.age + 1, x.rts, x.lk⟩ ht' (Nat.le_trans HX.out.2.2.1.llen (by decide))
          have HK1 : Hid (tk1 lim q x = ⟨x.lk.map fun p => (if x.st = 3 then 3 else 1, q, p.1, p.2), [], some ⟨x.st, x.age + 1, x.rts, x.lk⟩⟩) := by
            show _ = _
            unfold tk1
            rw [if_neg (fun e => h2 e.2), if_pos h1, h1]
          have HW : Hid (Stp F F wr (wr.setCell ⟨y.1, 2, none⟩ (.int .i64 (x.age + 1))).drew ∧ Co (wr.setCell ⟨y.1, 2, none⟩ (.int .i64 (x.age + 1))).drew F b lim n m (setX (tkX lim X (l.take j)) q (tk1 lim q x).x)) := ⟨HD.out.2, by rw [HK1.out]; exact ⟨_, HD.out.1⟩⟩
          have hsz : (wr.setCell ⟨y.1, 2, none⟩ (.int .i64 (x.age + 1))).drew.heap.size = wr.heap.size := by simp [World.setCell]
          have HZ2 : Hid ((wr.setCell ⟨y.1, 2, none⟩ (.int .i64 (x.age + 1))).drew.heap.size = wr.heap.size) := hsz
          generalize x.rts.length = nr at *
          generalize x.lk.length = nk at *
          generalize hst : x.st = st at *
          generalize hag : x.age = age at *
          have HS : Hid (x.st = st ∧ x.age = age) := ⟨hst, hag⟩
          clear h1 h2 hst hag hsz
          go_wp2_with fail
          go_region
          go_wp2_with fail
          refine KT.out.mono ?_
          rintro e w3 ⟨V3, Q, rfl, l3, q3, b3⟩
          obtain ⟨a3, c3, rfl, m3, -, -, n3, -⟩ := l3.own.slice
          generalize hmq : (Q.map (mvOf (if st = 3 then 3 else 1) q)).length = mq at *
          have s3 : Stp F F wr w3 := HW.out.1.trans (Stp.below b3)
          have H3 : Hid (Ltr (wr.setCell ⟨y.1, 2, none⟩ (.int .i64 (age + 1))).drew.heap.size w3 (.slice a3 mq c3) (if st = 3 then 3 else 1) q Q ∧ Q.map (fun p => (p.r, p.co)) = x.lk ∧ Stp F F wr w3 ∧ Co w3 F b lim n m (setX (tkX lim X (l.take j)) q (tk1 lim q x).x) ∧ mq = (Q.map (mvOf (if st = 3 then 3 else 1) q)).length ∧ InM w3 a3 (Q.map (mvOf (if st = 3 then 3 else 1) q)) ∧ (a3 = none → mq = 0 ∧ c3 = 0) ∧ mq ≤ 6 ∧ Lts w1.heap.size w3 u4 R ∧ w1.heap.size ≤ w3.heap.size ∧ w1.heap.size ≤ (wr.setCell ⟨y.1, 2, none⟩ (.int .i64 (age + 1))).drew.heap.size) := by
            have e := congrArg List.length q3
            rw [List.length_map] at e
            refine ⟨l3, q3, s3, HW.out.2.keep b3, hmq.symm, m3, fun ha => ⟨by rw [← hmq, (n3 ha).2]; rfl, (n3 ha).1⟩, ?_, (RW.out.pass HF.out s3).1, Nat.le_trans RW.out.st.off.size s3.off.size, (by rw [HZ2.out]; exact RW.out.st.off.size)⟩
            rw [← hmq, List.length_map, e]
            exact HX.out.2.2.1.llen
          clear l3 q3 b3 m3 n3 s3 hmq KT
          go_wp2_with (at_builtin; refine append_msgs rfl (.tmp 52) (.tmp 54) rfl w1.heap.size _ _ rfl H3.out.2.2.2.2.2.2.2.2.1.own a3 mq c3 (Q.map (mvOf (if st = 3 then 3 else 1) q)) rfl H3.out.2.2.2.2.1.symm H3.out.2.2.2.2.2.1 H3.out.2.2.2.2.2.2.1 (by rw [List.length_map]; have h1 := HR.out.1; have h2 := H3.out.2.2.2.2.2.2.2.1; have h3 := HL.out.2.2.1; have h4 := H0.out.2.2.2; omega) H3.out.2.2.2.2.2.2.2.2.2.1 ?_; intro v8 u8 o8 g8; have F8 : Hid (OwnM u8 w1.heap.size v8 ((R.map fun x => mvOf x.1 x.2.1 x.2.2) ++ Q.map (mvOf (if st = 3 then 3 else 1) q)) ∧ w3.grownBy u8 u4.ownBlock) := ⟨o8, g8⟩; clear o8 g8)
          go_roundg (nl - (j + 1))
          case measure => omega
          case rel =>
            refine ⟨j + 1, R ++ Q.map fun p => (if st = 3 then 3 else 1, q, p), by omega, rfl, by push_cast; rfl, ?_⟩
            obtain ⟨r1, r2, r3, r4, r5, r6⟩ := RW.out.next HF.out HX.out.1 HX.out.2.2.1 H3.out.2.2.1 H3.out.1 H3.out.2.2.2.2.2.2.2.2.2.2 (by rw [H3.out.2.1, HK1.out]) H3.out.2.2.2.1 F8.out.1 F8.out.2
            have hgn : tkGo lim X (l.take j ++ [q]) = tkGo lim X (l.take j) := by rw [tkGo_step lim X _ HX.out.1, HK1.out]; simp
            show Tks F b lim n m X w1 _ _ _ (l.take (j + 1)) _
            rw [HT.out.1]
            exact ⟨r1, r2, r3, by rw [hgn]; exact r4, by rw [hgn, List.length_append, HT.out.2.1]; exact Nat.le_trans HR.out.2 (by simp), r5, r6⟩
      · have e1 : (x.st == (1 : Int)) = false := by simp [h1]
        have KT : Hid (Calls Try.prog 31 #[.pointer (some ⟨y.1, 0, none⟩)] wr fun e w' => ∃ V Q, e = .returned V ∧ Ltr wr.heap.size w' V (if x.st = 3 then 3 else 1) q Q ∧ Q.map (fun p => (p.r, p.co)) = x.lk ∧ Below wr.heap.size wr w') := tlack_is wr F y q x HX.out.2.2.2.2.2.2.2.1 (Nat.le_trans HX.out.2.2.1.llen (by decide))
        have HK1 : Hid (tk1 lim q x = ⟨x.lk.map fun p => (if x.st = 3 then 3 else 1, q, p.1, p.2), [], some x⟩) := by
          show _ = _
          unfold tk1
          rw [if_neg (fun e => h1 e.1), if_neg h1]
        have HW : Hid (Stp F F wr wr ∧ Co wr F b lim n m (setX (tkX lim X (l.take j)) q (tk1 lim q x).x)) := ⟨Stp.refl _ _, by rw [HK1.out, setX_same HX.out.2.1]; exact ⟨Bj, HX.out.2.2.2.2.2.2.1⟩⟩
        generalize x.rts.length = nr at *
        generalize x.lk.length = nk at *
        generalize hst : x.st = st at *
        generalize hag : x.age = age at *
        have HS : Hid (x.st = st ∧ x.age = age) := ⟨hst, hag⟩
        clear h1 hst hag
        go_wp2_with fail
        refine KT.out.mono ?_
        rintro e w3 ⟨V3, Q, rfl, l3, q3, b3⟩
        obtain ⟨a3, c3, rfl, m3, -, -, n3, -⟩ := l3.own.slice
        generalize hmq : (Q.map (mvOf (if st = 3 then 3 else 1) q)).length = mq at *
        have s3 : Stp F F wr w3 := HW.out.1.trans (Stp.below b3)
        have H3 : Hid (Ltr wr.heap.size w3 (.slice a3 mq c3) (if st = 3 then 3 else 1) q Q ∧ Q.map (fun p => (p.r, p.co)) = x.lk ∧ Stp F F wr w3 ∧ Co w3 F b lim n m (setX (tkX lim X (l.take j)) q (tk1 lim q x).x) ∧ mq = (Q.map (mvOf (if st = 3 then 3 else 1) q)).length ∧ InM w3 a3 (Q.map (mvOf (if st = 3 then 3 else 1) q)) ∧ (a3 = none → mq = 0 ∧ c3 = 0) ∧ mq ≤ 6 ∧ Lts w1.heap.size w3 u4 R ∧ w1.heap.size ≤ w3.heap.size ∧ w1.heap.size ≤ wr.heap.size) := by
          have e := congrArg List.length q3
          rw [List.length_map] at e
          refine ⟨l3, q3, s3, HW.out.2.keep b3, hmq.symm, m3, fun ha => ⟨by rw [← hmq, (n3 ha).2]; rfl, (n3 ha).1⟩, ?_, (RW.out.pass HF.out s3).1, Nat.le_trans RW.out.st.off.size s3.off.size, RW.out.st.off.size⟩
          rw [← hmq, List.length_map, e]
          exact HX.out.2.2.1.llen
        clear l3 q3 b3 m3 n3 s3 hmq KT
        go_wp2_with (at_builtin; refine append_msgs rfl (.tmp 52) (.tmp 54) rfl w1.heap.size _ _ rfl H3.out.2.2.2.2.2.2.2.2.1.own a3 mq c3 (Q.map (mvOf (if st = 3 then 3 else 1) q)) rfl H3.out.2.2.2.2.1.symm H3.out.2.2.2.2.2.1 H3.out.2.2.2.2.2.2.1 (by rw [List.length_map]; have h1 := HR.out.1; have h2 := H3.out.2.2.2.2.2.2.2.1; have h3 := HL.out.2.2.1; have h4 := H0.out.2.2.2; omega) H3.out.2.2.2.2.2.2.2.2.2.1 ?_; intro v8 u8 o8 g8; have F8 : Hid (OwnM u8 w1.heap.size v8 ((R.map fun x => mvOf x.1 x.2.1 x.2.2) ++ Q.map (mvOf (if st = 3 then 3 else 1) q)) ∧ w3.grownBy u8 u4.ownBlock) := ⟨o8, g8⟩; clear o8 g8)
        go_roundg (nl - (j + 1))
        case measure => omega
        case rel =>
          refine ⟨j + 1, R ++ Q.map fun p => (if st = 3 then 3 else 1, q, p), by omega, rfl, by push_cast; rfl, ?_⟩
          obtain ⟨r1, r2, r3, r4, r5, r6⟩ := RW.out.next HF.out HX.out.1 HX.out.2.2.1 H3.out.2.2.1 H3.out.1 H3.out.2.2.2.2.2.2.2.2.2.2 (by rw [H3.out.2.1, HK1.out]) H3.out.2.2.2.1 F8.out.1 F8.out.2
          have hgn : tkGo lim X (l.take j ++ [q]) = tkGo lim X (l.take j) := by rw [tkGo_step lim X _ HX.out.1, HK1.out]; simp
          show Tks F b lim n m X w1 _ _ _ (l.take (j + 1)) _
          rw [HT.out.1]
          exact ⟨r1, r2, r3, by rw [hgn]; exact r4, by rw [hgn, List.length_append, HT.out.2.1]; exact Nat.le_trans HR.out.2 (by simp), r5, r6⟩
    · have hjn : j = nl := by omega
      have j1 : decide ((j : Int) < (nl : Int)) = false := by rw [decide_eq_false_iff_not]; omega
      have j3 : decide (j < nl) = false := by rw [decide_eq_false_iff_not]; omega
      have HE : Hid (Tks F b lim n m X w1 wr u4 u5 l R) := by
        have := RW.out
        rwa [hjn, List.take_of_length_le (by rw [HL.out.2.1]; exact Nat.le_refl _)] at this
      clear hjn
      go_wp2_with fail
      go_ret2
      have hw := HL.out.2.2.2
      have := hw.size
      exact ⟨_, _, R, l, rfl, HL.out.1, by rw [HL.out.2.1]; exact HL.out.2.2.1, HE.out.ms.base hw.size, HE.out.co, HE.out.gn.base hw.size, HE.out.cd, (Stp.below hw).trans HE.out.st⟩
end Go.Proofs.Ythaeidbnbgghkaa
