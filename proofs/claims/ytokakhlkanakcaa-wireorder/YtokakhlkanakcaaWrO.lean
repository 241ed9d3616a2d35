/- find, letGo. -/
import Derived.Test.YtokakhlkanakcaaWrN
namespace Go.Proofs.Ytokakhlkanakcaa
open Go.ChangeShapes Go.WideShapes Go.ChangeAt Go.RowKit Go.Deep Go.Maps
set_option linter.unusedVariables false
set_option linter.unusedSimpArgs false
/-- what a place's slice tells -/
theorem Nt.at {w : World} {b N ml mb : Nat} {H : Pl → Option Hd} {T : Pl → List Mv} (h : Nt w b N ml mb H T) (p : Pl) : OwnM w 0 (hv ((H p).getD noH)) (T p) := by
  cases e : H p with
  | none => rw [h.nil p e]; exact OwnM.nil _ _
  | some x => exact h.row p x e
theorem Nt.hd {w : World} {b N ml mb : Nat} {H : Pl → Option Hd} {T : Pl → List Mv} (h : Nt w b N ml mb H T) (p : Pl) : ∃ a c, hv ((H p).getD noH) = .slice a (T p).length c ∧ InM w a (T p) ∧ (T p).length ≤ c ∧ c ≤ 9223372036854775807 ∧ (a = none → c = 0 ∧ T p = []) := by
  obtain ⟨a, c, h1, h2, h3, h4, h5, _⟩ := (h.at p).slice
  exact ⟨a, c, h1, h2, h3, h4, h5⟩
theorem size6M : (Try.prog.info? 31).map (·.size) = some 6 := by kernel_rfl
theorem results_mq {fn : Func} {p q : Tmp} (h : fn.results = #[.cell p 31, .tmp q]) (tmps : Array Value) (w : World) (g : Nat) (D : Array Value) (hD : D.size = 6)
    (hp : tmps.getD p undef = .pointer (some ⟨g, 0, none⟩)) (v : Value) (hq : tmps.getD q undef = v) (hg : w.heap[g]? = some (.cells D 31)) :
    (results fn tmps).run Try.prog w = .ok (.tuple #[.agg D, v]) w := by
  have hp' : tmps[p]?.getD undef = .pointer (some ⟨g, 0, none⟩) := by simpa using hp
  have hq' : tmps[q]?.getD undef = v := by simpa using hq
  simp [results, h, hp', hq', asAddr, run_loadVar_row w g 31 31 D (0, 0) _ hg Try.underlying31 rfl (by rw [hD]; exact size6M)]
theorem results_m {fn : Func} {p : Tmp} (h : fn.results = #[.cell p 31]) (tmps : Array Value) (w : World) (g : Nat) (D : Array Value) (hD : D.size = 6)
    (hp : tmps.getD p undef = .pointer (some ⟨g, 0, none⟩)) (hg : w.heap[g]? = some (.cells D 31)) :
    (results fn tmps).run Try.prog w = .ok (.agg D) w := by
  have hp' : tmps[p]?.getD undef = .pointer (some ⟨g, 0, none⟩) := by simpa using hp
  simp [results, h, hp', asAddr, run_loadVar_row w g 31 31 D (0, 0) _ hg Try.underlying31 rfl (by rw [hD]; exact size6M)]
set_option maxRecDepth 100000 in
set_option maxHeartbeats 4000000 in
theorem find_yes (w : World) (F : Nat → Prop) (b N : Nat) (T : Pl → List Mv) (h : Net w F b N T) (f t : Int) (k : Nat) (m : Mv) (hm : (T (.inl (f, t)))[k]? = some m) (hf : InI f) (ht : InI t) :
    Calls Try.prog 31 #[.pointer (some ⟨b, 0, none⟩), .int .i64 f, .int .i64 t, .int .i64 (k : Int)] w fun e w' => e = .returned (.tuple #[.agg (mC m), .int .i64 0]) ∧ Below w.heap.size w w' := by
  have KN : Hid (∀ W, Below w.heap.size w W → Calls Try.prog 29 #[.pointer (some ⟨b, 0, none⟩)] W fun e w' => e = .returned (.bool false) ∧ w' = W) := fun W hW => none_is W F b N T (h.keep hW)
  obtain ⟨ml, mb, H, h1, _⟩ := h
  have hb0 : Below w.heap.size w (w.alloc (.cells #[.int .i64 0, .int .i64 0, .int .i64 0, .int .i64 0, .bool false, .slice none 0 0] 31)) := below1 _ _
  have B0 : Hid (∀ o, Below w.heap.size w (w.alloc o)) := fun o => below1 _ _
  have h2 : Nt (w.alloc (.cells #[.int .i64 0, .int .i64 0, .int .i64 0, .int .i64 0, .bool false, .slice none 0 0] 31)) b N ml mb H T := h1.kept fun k hk => hb0.block k (h1.lt k hk)
  obtain ⟨c0, c1⟩ := net_cells h2.box
  have hlk := h2.sl.look (f, t) ⟨hf, ht⟩
  obtain ⟨a, c, hh, hin, hlc, hc9, hn⟩ := h2.hd (.inl (f, t))
  rw [hh] at hlk
  unfold lkV at hlk
  simp only at hlk
  generalize T (.inl (f, t)) = L at *
  have HIN : Hid (InM (w.alloc (.cells #[.int .i64 0, .int .i64 0, .int .i64 0, .int .i64 0, .bool false, .slice none 0 0] 31)) a L) := hin
  obtain ⟨nl, hnl⟩ : ∃ nl, L.length = nl := ⟨_, rfl⟩
  have HNL : Hid (L.length = nl) := hnl
  rw [hnl] at hlk hlc
  clear h1 h2 hin hh hb0 hn
  have hk : k < nl := by rw [← hnl]; exact (List.getElem?_eq_some_iff.1 hm).1
  have d1 : decide ((k : Int) < 0) = false := by rw [decide_eq_false_iff_not]; omega
  have d2 : decide ((nl : Int) ≤ (k : Int)) = false := by rw [decide_eq_false_iff_not]; omega
  have j1 : ¬ (k : Int) < 0 := by omega
  have j2 : (k : Int) < (nl : Int) := by omega
  obtain ⟨g, off, rfl, hg, hc⟩ := HIN.out.at hm
  obtain ⟨k0, k1, k2, k3, k4, k5⟩ := hc
  obtain ⟨mk, mf, mt, mx, my, mpa, mpn, mpc⟩ := m
  simp only at k0 k1 k2 k3 k4 k5
  unfold mC
  simp only
  clear hm HIN hf ht hnl
  go_enter Try.func31, Try.ntmps31
  go_wp2_with fail
  refine (KN.out _ (B0.out _)).mono ?_
  rintro e w1 ⟨rfl, hw⟩
  obtain rfl := hw.symm
  clear hw
  go_wp2_with fail
  all_goals (refine bodyPost_ret (results_mq rfl _ _ w.heap.size _ rfl rfl _ rfl (heap_alloc_new w _)) rfl ?_; exact ⟨rfl, B0.out _⟩)
set_option maxRecDepth 100000 in
set_option maxHeartbeats 4000000 in
theorem find_no (w : World) (F : Nat → Prop) (b N : Nat) (T : Pl → List Mv) (h : Net w F b N T) (f t i : Int) (hi : i < 0 ∨ ((T (.inl (f, t))).length : Int) ≤ i) (hf : InI f) (ht : InI t) :
    Calls Try.prog 31 #[.pointer (some ⟨b, 0, none⟩), .int .i64 f, .int .i64 t, .int .i64 i] w fun e w' => e = .returned (.tuple #[.agg (mC noM), .int .i64 9]) ∧ Below w.heap.size w w' := by
  have KN : Hid (∀ W, Below w.heap.size w W → Calls Try.prog 29 #[.pointer (some ⟨b, 0, none⟩)] W fun e w' => e = .returned (.bool false) ∧ w' = W) := fun W hW => none_is W F b N T (h.keep hW)
  obtain ⟨ml, mb, H, h1, _⟩ := h
  have hb0 : Below w.heap.size w (w.alloc (.cells #[.int .i64 0, .int .i64 0, .int .i64 0, .int .i64 0, .bool false, .slice none 0 0] 31)) := below1 _ _
  have B0 : Hid (∀ o, Below w.heap.size w (w.alloc o)) := fun o => below1 _ _
  have h2 : Nt (w.alloc (.cells #[.int .i64 0, .int .i64 0, .int .i64 0, .int .i64 0, .bool false, .slice none 0 0] 31)) b N ml mb H T := h1.kept fun k hk => hb0.block k (h1.lt k hk)
  obtain ⟨c0, c1⟩ := net_cells h2.box
  have hlk := h2.sl.look (f, t) ⟨hf, ht⟩
  obtain ⟨a, c, hh, hin, hlc, hc9, hn⟩ := h2.hd (.inl (f, t))
  rw [hh] at hlk
  unfold lkV at hlk
  simp only at hlk
  generalize T (.inl (f, t)) = L at *
  have HIN : Hid (InM (w.alloc (.cells #[.int .i64 0, .int .i64 0, .int .i64 0, .int .i64 0, .bool false, .slice none 0 0] 31)) a L) := hin
  obtain ⟨nl, hnl⟩ : ∃ nl, L.length = nl := ⟨_, rfl⟩
  have HNL : Hid (L.length = nl) := hnl
  rw [hnl] at hlk hlc
  clear h1 h2 hin hh hb0 hn
  rw [hnl] at hi
  have d1 : (decide (i < 0) || decide ((nl : Int) ≤ i)) = true := by
    rcases hi with h | h
    · simp [h]
    · rw [Bool.or_eq_true]; exact .inr (by rw [decide_eq_true_eq]; omega)
  clear hi HIN hf ht hnl
  unfold mC noM
  simp only
  go_enter Try.func31, Try.ntmps31
  go_wp2_with fail
  refine (KN.out _ (B0.out _)).mono ?_
  rintro e w1 ⟨rfl, hw⟩
  obtain rfl := hw.symm
  clear hw
  go_wp2_with fail
  all_goals (refine bodyPost_ret (results_mq rfl _ _ w.heap.size _ rfl rfl _ rfl (heap_alloc_new w _)) rfl ?_; exact ⟨rfl, B0.out _⟩)
end Go.Proofs.Ytokakhlkanakcaa
