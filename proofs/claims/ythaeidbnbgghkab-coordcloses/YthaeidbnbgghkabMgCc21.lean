/- coord: who is open. The shelf's keys, collected and sorted, at this program's numbers. -/
import Derived.Test.YthaeidbnbgghkabMgCc20
import Derived.Shelf.SlIterI.Sorted
import Derived.Shelf.SlIterI.Collect
import Derived.Shelf.SlIterI.Keys
namespace Go.Proofs.Ythaeidbnbgghkab
open Go.ChangeShapes Go.WideShapes Go.ChangeAt Go.RowKit Go.Deep Go.Maps Go.Sort Go.Shelf
set_option linter.unusedVariables false
set_option linter.unusedSimpArgs false
set_option maxRecDepth 100000 in
theorem insertP_is (p : Option Addr) (cap : Nat) (w : World) : Calls Try.prog 55 #[.slice p 0 cap, .int .i64 0, .int .i64 0] w fun e w' => e = .returned (.tuple #[]) ∧ w' = w := by
  go_enter Try.func55, Try.ntmps55
  go_wp2_with fail
  go_loopg [6] 0 (fun g i wr => i = .int .i64 1 ∧ Hid (wr = w))
  case atStart => exact ⟨rfl, rfl⟩
  obtain ⟨rfl, RW⟩ := hrel
  go_wp2_with fail
  first | refine bodyPost_end (results_none rfl _ _ _) rfl ?_ | refine bodyPost_ret (results_none rfl _ _ _) rfl ?_
  exact ⟨rfl, RW.out⟩
set_option maxRecDepth 100000 in
theorem pdqP_is (p : Option Addr) (cap : Nat) (w : World) : Calls Try.prog 51 #[.slice p 0 cap, .int .i64 0, .int .i64 0, .int .i64 0] w fun e w' => e = .returned (.tuple #[]) ∧ w' = w := by
  have K : Hid (∀ W, Calls Try.prog 55 #[.slice p 0 cap, .int .i64 0, .int .i64 0] W fun e w' => e = .returned (.tuple #[]) ∧ w' = W) := insertP_is p cap
  go_enter Try.func51, Try.ntmps51
  go_wp2_with fail
  go_loopg [1, 2] 0 (fun g a b wr => a = .int .i64 0 ∧ b = .int .i64 0 ∧ Hid (wr = w))
  case atStart => exact ⟨rfl, rfl, rfl⟩
  obtain ⟨rfl, rfl, RW⟩ := hrel
  go_wp2_with (go_at_call 55; refine (K.out _).mono ?_; rintro e1 w1 ⟨rfl, rfl⟩)
  first | refine bodyPost_end (results_none rfl _ _ _) rfl ?_ | refine bodyPost_ret (results_none rfl _ _ _) rfl ?_
  exact ⟨rfl, RW.out⟩
set_option maxRecDepth 100000 in
theorem sortP_is (p : Option Addr) (cap : Nat) (w : World) : Calls Try.prog 45 #[.slice p 0 cap] w fun e w' => e = .returned (.tuple #[]) ∧ w' = w := by
  have K : Hid (∀ W, Calls Try.prog 51 #[.slice p 0 cap, .int .i64 0, .int .i64 0, .int .i64 0] W fun e w' => e = .returned (.tuple #[]) ∧ w' = W) := pdqP_is p cap
  have KL : Hid (∀ W, Calls Try.prog 52 #[.int .u64 0] W fun e w' => e = .returned (.int .i64 0) ∧ w' = W) := len0_is
  go_enter Try.func45, Try.ntmps45
  go_wp2_with (first | (go_at_call 52; refine (KL.out _).mono ?_; rintro e1 w1 ⟨rfl, rfl⟩) | (go_at_call 51; refine (K.out _).mono ?_; rintro e1 w1 ⟨rfl, rfl⟩))
  first | refine bodyPost_end (results_none rfl _ _ _) rfl ?_ | refine bodyPost_ret (results_none rfl _ _ _) rfl ?_
  exact ⟨rfl, rfl⟩
def itRen : Go.Shelf.Ren := ⟨fun | 6 => 35 | 7 => 36 | 8 => 44 | 9 => 45 | 10 => 46 | 11 => 50 | n => n, fun | 0 => 0 | 3 => 49 | 4 => 4 | 23 => 41 | 24 => 22 | 26 => 3 | 27 => 72 | 28 => 73 | 33 => 67 | n => n, fun | n => n⟩
theorem itB6 : Bears Try.prog (itRen.f 6) (SlBodyZ.n6 itRen) := ⟨Try.f35.name, by kernel_rfl, Try.func35.trans (congrArg some (by kernel_rfl))⟩
theorem itB8 : Bears Try.prog (itRen.f 8) (SlBodyZ.n8 itRen) := ⟨Try.f44.name, by kernel_rfl, Try.func44.trans (congrArg some (by kernel_rfl))⟩
theorem itB11 : Bears Try.prog (itRen.f 11) (SlBodyZ.n11 itRen) := ⟨Try.f50.name, by kernel_rfl, Try.func50.trans (congrArg some (by kernel_rfl))⟩
theorem itB7 : Bears Try.prog (itRen.f 7) (SlBodyZ.n7 itRen) := ⟨Try.f36.name, by kernel_rfl, Try.func36.trans (congrArg some (by kernel_rfl))⟩
theorem itB10 : Bears Try.prog (itRen.f 10) (SlBodyZ.n10 itRen) := ⟨Try.f46.name, by kernel_rfl, Try.func46.trans (congrArg some (by kernel_rfl))⟩
theorem itLays6 : SlLaysZI.n6 Try.prog itRen := {
  mixed := by kernel_rfl
  f6 := itB6
  f8 := itB8
  f11 := itB11
  t0 := Try.underlying0
  a0 := Try.isAgg0
  z0 := Try.sizeOf0
  v0 := Try.zeroValue0
  t24 := Try.underlying22
  a24 := Try.isAgg22
  z24 := Try.sizeOf22
  v24 := Try.zeroValue22
  t26 := Try.underlying3
  a26 := Try.isAgg3
  z26 := Try.sizeOf3
  v26 := Try.zeroValue3
  t28 := Try.underlying73
  a28 := Try.isAgg73
  z28 := Try.sizeOf73
  v28 := Try.zeroValue73
  i26 := by kernel_rfl }
theorem itLays7 : SlLaysZI.n7 Try.prog itRen := {
  mixed := by kernel_rfl
  f7 := itB7
  f10 := itB10
  t0 := Try.underlying0
  a0 := Try.isAgg0
  z0 := Try.sizeOf0
  v0 := Try.zeroValue0
  t4 := Try.underlying4
  a4 := Try.isAgg4
  z4 := Try.sizeOf4
  v4 := Try.zeroValue4
  t23 := Try.underlying41
  a23 := Try.isAgg41
  z23 := Try.sizeOf41
  v23 := Try.zeroValue41
  t26 := Try.underlying3
  a26 := Try.isAgg3
  z26 := Try.sizeOf3
  v26 := Try.zeroValue3
  t27 := Try.underlying72
  a27 := Try.isAgg72
  z27 := Try.sizeOf72
  v27 := Try.zeroValue72
  t28 := Try.underlying73
  a28 := Try.isAgg73
  z28 := Try.sizeOf73
  v28 := Try.zeroValue73
  t33 := Try.underlying67
  a33 := Try.isAgg67
  z33 := Try.sizeOf67
  v33 := Try.zeroValue67 }
theorem itSorts (m : Nat) : AnyZI.SortsIn Try.prog itRen Fence.wide m := ⟨fun blk off cap ss W hH hblk hsz => callsIn_wide.2 (Any.slices_Sort_int soLaysZ blk off cap ss W hH hblk hsz), fun p cap W => callsIn_wide.2 (sortP_is p cap W)⟩
/-- maps.Keys -/
theorem keysK_is (mb : Option Nat) (w : World) : Calls Try.prog 36 #[.map mb] w fun e w' => e = .returned (.func (.func 46) #[] #[.pointer (some ⟨w.heap.size, 0, none⟩)]) ∧ w' = w.alloc (.cells #[.map mb] 41) :=
  (callsIn_wide (n := 5)).1 (AnyZI.keys_in itLays7 Fence.wide 5 trivial rfl mb w)
/-- slices.Sorted of these keys -/
theorem sortedK_is (w : World) (Bm b n : Nat) (D : DataW Unit) (hBm : Bm < w.heap.size) (hm : w.cell? ⟨Bm, 0, none⟩ = some (.map (some b))) (hown : w.ownsMap Try.prog 3 pR b n D) (hn : n ≤ 1000000000) :
    Calls Try.prog 35 #[.func (.func 46) #[] #[.pointer (some ⟨Bm, 0, none⟩)]] w fun e w' => ∃ V ss, e = .returned V ∧ ss.Perm (intKeys D) ∧ OwnZ w' w.heap.size V (srt ss) ∧ Below w.heap.size w w' := by
  have hs : Maps.size D ≤ 1000000000 := Nat.le_trans hown.size_le hn
  have hseq : SeqGives Fence.wide 2 Try.prog 46 #[.pointer (some ⟨Bm, 0, none⟩)] encZ (fun ss => ss.Perm (intKeys D)) (Maps.size D) w :=
    AnyZI.keys_gives (ρ := itRen) { itLays7 with } Fence.wide _ trivial rfl (by omega) Bm b n D _ hBm hm hown
  have cS := AnyZI.sorted_in itLays6 Fence.wide 5 trivial trivial trivial trivial rfl (by omega) (itSorts _) (enters_of Try.func45 (by kernel_rfl) rfl) 46 #[.pointer (some ⟨Bm, 0, none⟩)] trivial (enters_of Try.func46 (by kernel_rfl) rfl) _ _ (by simp only [maxLen]; omega) (by omega) _ hseq
  change CallsIn _ _ Try.prog 35 _ _ _ at cS
  refine ((callsIn_wide (n := 5)).1 cS).mono ?_
  rintro e w' ⟨v, ss, rfl, hS, hrow, -, hb⟩
  refine ⟨v, ss, rfl, hS, ?_, hb⟩
  have hl : (srt ss).length = ss.length := by unfold srt; exact List.length_mergeSort _
  show w'.ownsRow w.heap.size 3 1 v (srt ss).length ((srt ss).map zi)
  rw [hl]
  exact hrow
/-- the keys of a map that tells T -/
theorem keys_of {w : World} {b n : Nat} {D : DataW Unit} {T : Int → Option (Option Nat)} (hown : w.ownsMap Try.prog 3 pR b n D) (hR : RepP D T) (hT : ∀ p, (T p).isSome → InI p) : (intKeys D).Nodup ∧ ∀ p, p ∈ intKeys D ↔ (T p).isSome = true := by
  have hwf := intKeys_wf hown Try.underlying3
  obtain ⟨es, hD, hpw, _⟩ := hown.entries lawI
  obtain ⟨es', hD', hko⟩ := hown.keysOf
  obtain rfl : es = es' := by rw [hD] at hD'; simpa using hD'
  subst hD
  have hk : ∀ p ∈ es, ∃ x, p.1 = .int .i64 x := fun p hp => by obtain ⟨v, hv⟩ := hko p hp; obtain ⟨x, _, hx, _⟩ := Maps.keyOf_i64 Try.underlying3 hv; exact ⟨x, hx⟩
  have hmem : ∀ x, x ∈ intKeys (.map es) ↔ Maps.has (.map es) (.int .i64 x) = true := fun x => by
    rw [has_eq, List.any_eq_true]
    show x ∈ es.map (fun p => Go.intOf p.1) ↔ _
    rw [List.mem_map]
    constructor
    · rintro ⟨p, hp, rfl⟩
      obtain ⟨a, ha⟩ := hk p hp
      exact ⟨p, hp, by rw [ha]; simp [Lit.sameKey, Go.intOf]⟩
    · rintro ⟨p, hp, hs⟩
      obtain ⟨a, ha⟩ := hk p hp
      rw [ha] at hs
      exact ⟨p, hp, by rw [ha]; simpa [Lit.sameKey, Go.intOf] using hs⟩
  refine ⟨?_, fun p => ?_⟩
  · show (es.map fun p => Go.intOf p.1).Nodup
    refine List.pairwise_map.2 (hpw.imp_of_mem fun {p q} hp' hq' hne e => hne ?_)
    obtain ⟨a, ha⟩ := hk p hp'
    obtain ⟨b, hb⟩ := hk q hq'
    rw [ha, hb] at e ⊢
    exact congrArg _ e
  · rw [hmem p]
    constructor
    · intro h
      have hp : InI p := by
        have := hwf p ((hmem p).2 h)
        simp only [Lit.wf, Bool.and_eq_true, decide_eq_true_eq] at this
        have e1 : IntKind.i64.min = -9223372036854775808 := by decide
        have e2 : IntKind.i64.max = 9223372036854775807 := by decide
        unfold InI
        omega
      rw [← (hR p hp).1]; exact h
    · intro h
      rw [(hR p (hT p h)).1]; exact h
theorem pwM {R S : Int → Int → Prop} (h : ∀ a b, R a b → S a b) {l : List Int} (hl : l.Pairwise R) : l.Pairwise S := by
  induction l with
  | nil => exact List.Pairwise.nil
  | cons a l ih =>
    rw [List.pairwise_cons] at hl ⊢
    exact ⟨fun b hb => h _ _ (hl.1 b hb), ih hl.2⟩
/-- the open ones, rising -/
def OpL (X : Int → Option Tr) (l : List Int) : Prop := l.Pairwise (· < ·) ∧ ∀ p, p ∈ l ↔ (X p).isSome = true
theorem opl_uniq {X : Int → Option Tr} {l l' : List Int} (h : OpL X l) (h' : OpL X l') : l = l' := by
  refine List.Perm.eq_of_pairwise (le := fun a b => a < b) (fun a b _ _ h1 h2 => absurd h1 (by omega)) h.1 h'.1 ?_
  have nd : ∀ {l : List Int}, l.Pairwise (· < ·) → l.Nodup := fun hl => pwM (fun a b h => by omega) hl
  exact (List.perm_ext_iff_of_nodup (nd h.1) (nd h'.1)).2 fun p => (h.2 p).trans (h'.2 p).symm
theorem srt_rise {l : List Int} (h : l.Nodup) : (srt l).Pairwise (· < ·) := by
  have h1 : (srt l).Pairwise fun x y => decide (x ≤ y) = true := by
    unfold srt
    refine List.pairwise_mergeSort (fun a b c h1 h2 => ?_) (fun a b => ?_) l
    · simp only [decide_eq_true_eq] at *; omega
    · simp only [Bool.or_eq_true, decide_eq_true_eq]; omega
  have h2 : (srt l).Nodup := by unfold srt; exact (List.mergeSort_perm l _).nodup_iff.2 h
  refine pwM (fun a b h => ?_) (h1.and h2)
  have := h.1
  rw [decide_eq_true_eq] at this
  have := h.2
  omega
set_option maxRecDepth 100000 in
set_option maxHeartbeats 4000000 in
theorem opened_is (w : World) (F : Nat → Prop) (b : Nat) (lim : Int) (n m : Nat) (B : Int → Option (Nat × Option Nat)) (X : Int → Option Tr) (h : Cd w F b lim n m B X) (hn : n ≤ 1000000000) :
    Calls Try.prog 20 #[.pointer (some ⟨b, 0, none⟩)] w fun e w' => ∃ V l, e = .returned V ∧ OwnZ w' w.heap.size V l ∧ OpL X l ∧ l.length ≤ n ∧ Below w.heap.size w w' := by
  have K : Hid (Calls Try.prog 14 #[.pointer (some ⟨b, 0, none⟩)] w fun e w' => e = .returned (.bool false) ∧ w' = w) := isNone_co w b lim m h.box
  obtain ⟨c0, c1⟩ := h.box.cells
  obtain ⟨D, hD, hR⟩ := h.map
  have hT : ∀ p, (((fun q => (B q).map fun y => some y.1) : Int → Option (Option Nat)) p).isSome → InI p := fun p hp => by
    simp only [Option.isSome_map] at hp
    obtain ⟨y, hy⟩ := Option.isSome_iff_exists.1 hp
    obtain ⟨x, hx, -⟩ := h.at hy
    exact (h.each p x hx).1
  have HK : Hid ((intKeys D).Nodup ∧ (∀ p, p ∈ intKeys D ↔ (X p).isSome = true) ∧ (intKeys D).length ≤ n) := by
    obtain ⟨k1, k2⟩ := keys_of hD hR hT
    refine ⟨k1, fun p => (k2 p).trans ?_, ?_⟩
    · simp only [Option.isSome_map]
      cases hx : X p with
      | none => rw [h.no p hx]; rfl
      | some x => obtain ⟨_, y, hy, _⟩ := h.each p x hx; rw [hy]; rfl
    · have := hD.size_le
      obtain ⟨es, rfl, -⟩ := hD.keysOf
      show (es.map fun p => Go.intOf p.1).length ≤ n
      rw [List.length_map]
      exact this
  have KK : Hid (∀ W, Calls Try.prog 36 #[.map (some m)] W fun e w' => e = .returned (.func (.func 46) #[] #[.pointer (some ⟨W.heap.size, 0, none⟩)]) ∧ w' = W.alloc (.cells #[.map (some m)] 41)) := keysK_is (some m)
  have KS : Hid (Calls Try.prog 35 #[.func (.func 46) #[] #[.pointer (some ⟨w.heap.size, 0, none⟩)]] (w.alloc (.cells #[.map (some m)] 41)) fun e w' => ∃ V ss, e = .returned V ∧ ss.Perm (intKeys D) ∧ OwnZ w' (w.alloc (.cells #[.map (some m)] 41)).heap.size V (srt ss) ∧ Below (w.alloc (.cells #[.map (some m)] 41)).heap.size (w.alloc (.cells #[.map (some m)] 41)) w') := by
    have hl := h.map.lt
    refine sortedK_is _ w.heap.size m n D (by simp) (one_cellK (heap_alloc_new w _)) ?_ hn
    obtain ⟨es, clock, hb, Ft, hs, hDD⟩ := hD
    exact ⟨es, clock, (Below.heap_alloc _ _ _ hl).trans hb, Ft, hs, hDD⟩
  clear h hD hR hT hn
  go_enter Try.func20, Try.ntmps20
  go_wp2_with fail
  refine K.out.mono ?_
  rintro e w1 ⟨rfl, hw⟩
  obtain rfl := hw.symm
  clear hw K
  go_wp2_with fail
  refine (KK.out _).mono ?_
  rintro e w1 ⟨rfl, hw⟩
  subst hw
  go_wp2_with fail
  refine KS.out.mono ?_
  rintro e w2 ⟨V, ss, rfl, hp, ho, hb⟩
  go_wp2_with fail
  go_ret
  have hl : (srt ss).length = (intKeys D).length := by unfold srt; rw [List.length_mergeSort]; exact hp.length_eq
  refine ⟨V, srt ss, rfl, ho.base (by simp), ⟨srt_rise (hp.nodup_iff.2 HK.out.1), fun p => ?_⟩, by rw [hl]; exact HK.out.2.2, (below1 w _).trans (hb.mono (by simp))⟩
  have : p ∈ srt ss ↔ p ∈ ss := by unfold srt; exact List.mem_mergeSort
  exact this.trans (hp.mem_iff.trans (HK.out.2.1 p))
end Go.Proofs.Ythaeidbnbgghkab
