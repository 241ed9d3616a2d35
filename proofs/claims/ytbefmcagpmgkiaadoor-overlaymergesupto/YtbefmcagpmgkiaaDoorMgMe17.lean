/- The document's wrong, Check, Size; the law's own. -/
import Derived.Test.YtbefmcagpmgkiaaDoorMgMe11
import Derived.Test.YtbefmcagpmgkiaaDoorMgMe7
import Derived.Test.YtbefmcagpmgkiaaDoorMgMe13
import Derived.Test.YtbefmcagpmgkiaaDoorMgMe16
import Derived.Deep.RegionHeld3
namespace Go.Proofs.YtbefmcagpmgkiaaDoor
open Go.ChangeShapes Go.WideShapes Go.ChangeAt Go.RowKit Go.Deep
set_option linter.unusedVariables false
/-- does the entry lie below a file or a whiteout of these -/
def anyIn (m : List En) (x : En) : Bool := m.any fun y => shutB y && inn y.p x.p
/-- the entry ahead of a place -/
def prv (l : List En) (j : Nat) : En := if j = 0 then noE else l.getD (j - 1) noE
/-- what wrong tells -/
def wrg (l : List En) (j : Nat) (x : En) : Int := if fo x ≠ 0 then fo x else if 0 < j ∧ les (prv l j).p x.p = false then 14 else if anyIn (l.take j) x = true then 11 else 0
/-- all ahead of a place may be -/
def Pre (l : List En) (j : Nat) : Prop := (∀ x ∈ l.take j, fo x = 0) ∧ (l.take j).Pairwise (fun y x => fb y x = 0)
theorem take_split {l : List En} {j : Nat} {x : En} (h : l[j]? = some x) : l.take (j + 1) = l.take j ++ [x] := by
  obtain ⟨hj, e⟩ := List.getElem?_eq_some_iff.1 h
  rw [List.take_succ_eq_append_getElem hj, e]
theorem prv_at {l : List En} {j : Nat} {x : En} (h : l[j]? = some x) : prv l (j + 1) = x := by simp [prv, List.getD, h]
theorem wrg_is {l : List En} {j : Nat} {x : En} (hp : Pre l j) (hx : l[j]? = some x) : wrg l j x = if fo x ≠ 0 then fo x else fb (prv l j) x := by
  unfold wrg
  by_cases hf : fo x = 0
  · have hnn : ¬ (fo x ≠ 0) := fun h => h hf
    rw [if_neg hnn, if_neg hnn]
    obtain ⟨hp1, hp2⟩ := hp
    rcases Nat.eq_zero_or_pos j with rfl | h0
    · rw [if_neg (fun h => Nat.lt_irrefl 0 h.1)]
      have : fb (prv l 0) x = 0 := fb_root hf
      rw [this]
      simp [anyIn]
    · obtain ⟨k, rfl⟩ : ∃ k, j = k + 1 := ⟨j - 1, by omega⟩
      have hjl := (List.getElem?_eq_some_iff.1 hx).1
      obtain ⟨y, hy⟩ : ∃ y, l[k]? = some y := ⟨_, List.getElem?_eq_getElem (by omega)⟩
      rw [prv_at hy]
      rw [take_split hy] at hp1 hp2 ⊢
      unfold fb
      by_cases hl : les y.p x.p = false
      · rw [if_pos ⟨h0, hl⟩, if_pos hl]
      · rw [if_neg (fun h => hl h.2), if_neg hl]
        have hl' : les y.p x.p = true := by simpa using hl
        have e : anyIn (l.take k ++ [y]) x = (shutB y && inn y.p x.p) := by
          unfold anyIn
          rw [List.any_append]
          have hno : (l.take k).any (fun z => shutB z && inn z.p x.p) = false := by
            rw [List.any_eq_false]
            intro z hz hc
            rw [Bool.and_eq_true] at hc
            have hzy : fb z y = 0 := (List.pairwise_append.1 hp2).2.2 z hz y (by simp)
            rw [fb_iff] at hzy
            have := near z.p y.p x.p hc.2 (les_asym hzy.1) hl'
            rw [hc.1, this] at hzy
            simp at hzy
          rw [hno]
          simp
        rw [e]
  · rw [if_pos hf, if_pos hf]
theorem ck_step {l : List En} {j : Nat} {x : En} (hx : l[j]? = some x) : ck (prv l j) j (l.drop j) = if fo x ≠ 0 then (j, fo x) else if fb (prv l j) x ≠ 0 then (j, fb (prv l j) x) else ck (prv l (j + 1)) (j + 1) (l.drop (j + 1)) := by
  obtain ⟨hj, e⟩ := List.getElem?_eq_some_iff.1 hx
  rw [List.drop_eq_getElem_cons hj, e, prv_at hx]
  rfl
theorem Pre.next {l : List En} {j : Nat} {x : En} (hp : Pre l j) (hx : l[j]? = some x) (hf : fo x = 0) (hb : fb (prv l j) x = 0) : Pre l (j + 1) := by
  obtain ⟨h1, h2⟩ := hp
  unfold Pre
  rw [take_split hx]
  refine ⟨fun y hy => ?_, ?_⟩
  · rcases List.mem_append.1 hy with hy | hy
    · exact h1 y hy
    · simp at hy; rw [hy]; exact hf
  · refine List.pairwise_append.2 ⟨h2, by simp, fun y hy z hz => ?_⟩
    simp at hz
    subst hz
    rcases Nat.eq_zero_or_pos j with rfl | h0
    · simp at hy
    · obtain ⟨k, rfl⟩ : ∃ k, j = k + 1 := ⟨j - 1, by omega⟩
      have hjl := (List.getElem?_eq_some_iff.1 hx).1
      obtain ⟨u, hu⟩ : ∃ u, l[k]? = some u := ⟨_, List.getElem?_eq_getElem (by omega)⟩
      rw [prv_at hu] at hb
      rw [take_split hu] at hy h2
      rcases List.mem_append.1 hy with hy | hy
      · exact fb_trans ((List.pairwise_append.1 h2).2.2 y hy u (by simp)) hb
      · simp at hy; rw [hy]; exact hb
theorem anyIn_take {l : List En} {k : Nat} {y x : En} (h : l[k]? = some y) : anyIn (l.take (k + 1)) x = (anyIn (l.take k) x || (shutB y && inn y.p x.p)) := by
  rw [take_split h]
  simp [anyIn]
theorem anyIn_of {l : List En} {k j : Nat} {y x : En} (h : l[k]? = some y) (hk : k < j) (h1 : (shutB y && inn y.p x.p) = true) : anyIn (l.take j) x = true := by
  unfold anyIn
  rw [List.any_eq_true]
  refine ⟨y, ?_, h1⟩
  have : (l.take j)[k]? = some y := by rw [List.getElem?_take]; simp [hk, h]
  exact List.mem_of_getElem? this
/-- each text is short -/
def Brief (l : List En) : Prop := ∀ x ∈ l, x.p.length ≤ 1048576 ∧ x.b.length ≤ 1048576
set_option maxRecDepth 100000 in
set_option maxHeartbeats 8000000 in
theorem rwrong_is (l : List En) (n : Nat) (hn : l.length = n) (hn2 : n ≤ 200) (hf : Brief l) (a : Option Addr) (c : Nat) (w : World) (hl : InE w a l) (j : Nat) (x : En) (hx : l[j]? = some x) :
    Calls Tryd.prog 50 #[.slice a n c, .int .i64 (j : Int)] w fun e w' => e = .returned (.int .i64 (wrg l j x)) ∧ Below w.heap.size w w' := by
  have hj : j < n := by rw [← hn]; exact (List.getElem?_eq_some_iff.1 hx).1
  have HX := hf x (List.mem_of_getElem? hx)
  have KI : Hid (∀ w, Calls Tryd.prog 51 #[.string (tx x.p)] w fun e w' => e = .returned (.bool (isP x.p)) ∧ Below w.heap.size w w') := rIs_is x.p (by omega)
  obtain ⟨b, off, rfl, hbw, hr⟩ := hl.at hx
  obtain ⟨c0, c1, c2, c3⟩ := hr
  have t1 := tx_toList x.p
  have t2 := tx_toList x.b
  have t3 := tx_size x.b
  have j1 : (j : Int) < (n : Int) := by omega
  have j0 : (0 : Int) ≤ (j : Int) := by omega
  have HL : Hid (InE w (some ⟨b, off, none⟩) l) := hl
  have HN : Hid (l.length = n) := hn
  have HF : Hid (Brief l) := hf
  have HG : Hid (l[j]? = some x) := hx
  have HW : Hid (wrg l j x = if fo x ≠ 0 then fo x else if 0 < j ∧ les (prv l j).p x.p = false then 14 else if anyIn (l.take j) x = true then 11 else 0) := rfl
  have HFO : Hid (fo x = if x.p = [] ∨ isP x.p = false then 12 else if x.k < 1 ∨ 4 < x.k then 13 else if x.m < 0 ∨ 511 < x.m ∨ (x.k = 3 ∧ x.m ≠ 0) then 2 else if x.k ≠ 1 ∧ x.b ≠ [] then 5 else if 256 < x.b.length then 3 else 0) := rfl
  clear hl hn hf hx
  by_cases hp0 : x.p = []
  · have e1 : (x.p == []) = true := by simp [hp0]
    have HR : Hid (wrg l j x = 12) := by
      show _ = _
      have : fo x = 12 := by rw [HFO.out, if_pos (.inl hp0)]
      rw [HW.out, this]
      rfl
    generalize wrg l j x = r at *
    clear HW HFO
    clear hp0
    go_enter Tryd.func50, Tryd.ntmps50
    go_wp2_with fail
    go_ret
    refine ⟨?_, (Below.refl _ _).alloc (Nat.le_refl _) _⟩
    rw [HR.out]
    rfl
  · have e1 : (x.p == []) = false := by simp [hp0]
    obtain ⟨r, hr⟩ : ∃ r, r = wrg l j x := ⟨_, rfl⟩
    have HR0 : Hid (wrg l j x = r) := hr.symm
    rw [← hr]
    clear hr
    go_enter Tryd.func50, Tryd.ntmps50
    go_wp2_with fail
    refine (KI.out _).mono ?_
    rintro e w1 ⟨rfl, hb1⟩
    obtain ⟨g1, hb2⟩ := one_block hb1
    have B1 : Hid (Below w.heap.size w w1) := hb2
    have G1 : Hid (w1.heap[w.heap.size]? = some (.cells (ec (tx x.p) x.k x.m (tx x.b)) 34)) := g1
    obtain ⟨d0, d1, d2, d3⟩ := ec_cells g1
    clear hb1 hb2 g1 KI c0 c1 c2 c3
    cases hip : isP x.p with
    | false =>
      have HR : Hid (r = 12) := by
        show _ = _
        have : fo x = 12 := by rw [HFO.out, if_pos (.inr hip)]
        rw [← HR0.out, HW.out, this]
        rfl
      clear HW HFO HR0
      go_wp2_with fail
      go_ret
      refine ⟨?_, B1.out⟩
      rw [HR.out]
      rfl
    | true =>
      have np : ¬ (x.p = [] ∨ isP x.p = false) := by rintro (h | h); exact hp0 h; rw [hip] at h; simp at h
      by_cases hk : x.k < 1 ∨ 4 < x.k
      · rcases (by omega : x.k < 1 ∨ (¬ x.k < 1 ∧ 4 < x.k)) with h1 | ⟨h1, h2⟩
        · have e2 : decide (x.k < 1) = true := by simp [h1]
          have HR : Hid (r = 13) := by
            show _ = _
            have : fo x = 13 := by rw [HFO.out, if_neg np, if_pos hk]
            rw [← HR0.out, HW.out, this]
            rfl
          clear HW HFO HR0
          clear hk np
          go_wp2_with fail
          go_ret
          refine ⟨?_, B1.out⟩
          rw [HR.out]
          rfl
        · have e2 : decide (x.k < 1) = false := by simp [h1]
          have e3 : decide (4 < x.k) = true := by simp [h2]
          have HR : Hid (r = 13) := by
            show _ = _
            have : fo x = 13 := by rw [HFO.out, if_neg np, if_pos hk]
            rw [← HR0.out, HW.out, this]
            rfl
          clear HW HFO HR0
          clear hk np
          go_wp2_with fail
          go_ret
          refine ⟨?_, B1.out⟩
          rw [HR.out]
          rfl
      · have e2 : decide (x.k < 1) = false := by simp; omega
        have e3 : decide (4 < x.k) = false := by simp; omega
        by_cases hm : x.m < 0 ∨ 511 < x.m ∨ (x.k = 3 ∧ x.m ≠ 0)
        · rcases (by omega : x.m < 0 ∨ (¬ x.m < 0 ∧ 511 < x.m) ∨ (¬ x.m < 0 ∧ ¬ 511 < x.m ∧ x.k = 3 ∧ ¬ x.m = 0)) with h1 | ⟨h1, h2⟩ | ⟨h1, h2, h3, h4⟩
          · have e4 : decide (x.m < 0) = true := by simp [h1]
            have HR : Hid (r = 2) := by
              show _ = _
              have : fo x = 2 := by rw [HFO.out, if_neg np, if_neg hk, if_pos hm]
              rw [← HR0.out, HW.out, this]
              rfl
            clear HW HFO HR0
            clear hk np hm
            go_wp2_with fail
            go_ret
            refine ⟨?_, B1.out⟩
            rw [HR.out]
            rfl
          · have e4 : decide (x.m < 0) = false := by simp [h1]; try omega
            have e5 : decide (511 < x.m) = true := by simp [h2]
            have HR : Hid (r = 2) := by
              show _ = _
              have : fo x = 2 := by rw [HFO.out, if_neg np, if_neg hk, if_pos hm]
              rw [← HR0.out, HW.out, this]
              rfl
            clear HW HFO HR0
            clear hk np hm
            go_wp2_with fail
            go_ret
            refine ⟨?_, B1.out⟩
            rw [HR.out]
            rfl
          · have e4 : decide (x.m < 0) = false := by simp [h1]; try omega
            have e5 : decide (511 < x.m) = false := by simp [h2]; try omega
            have HR : Hid (r = 2) := by
              show _ = _
              have : fo x = 2 := by rw [HFO.out, if_neg np, if_neg hk, if_pos hm]
              rw [← HR0.out, HW.out, this]
              rfl
            clear HW HFO HR0
            rw [h3] at d1
            have e6 : ¬ x.m = 0 := h4
            clear hk np hm
            go_wp2_with fail
            go_ret
            refine ⟨?_, B1.out⟩
            rw [HR.out]
            rfl
        · have e4 : decide (x.m < 0) = false := by simp; omega
          have e5 : decide (511 < x.m) = false := by simp; omega
          by_cases hb : x.k ≠ 1 ∧ x.b ≠ []
          · have e8 : (x.b == []) = false := by simp [hb.2]
            have e9 : ¬ x.k = 1 := hb.1
            have HR : Hid (r = 5) := by
              show _ = _
              have : fo x = 5 := by rw [HFO.out, if_neg np, if_neg hk, if_neg hm, if_pos hb]
              rw [← HR0.out, HW.out, this]
              rfl
            clear HW HFO HR0
            rcases (by omega : (x.k = 3 ∧ x.m = 0) ∨ ¬ x.k = 3) with ⟨h1, h2⟩ | h1
            · rw [h1] at d1 e9
              rw [h2] at d2
              clear hk np hm hb
              go_wp2_with fail
              go_ret
              refine ⟨?_, B1.out⟩
              rw [HR.out]
              rfl
            · have e7 : decide (x.k = 3) = false := by simp [h1]
              clear hk np hm hb
              go_wp2_with fail
              go_ret
              refine ⟨?_, B1.out⟩
              rw [HR.out]
              rfl
          · by_cases hl : 256 < x.b.length
            · have e10 : (256 : Int) < ((x.b.length : Nat) : Int) := by omega
              have HR : Hid (r = 3) := by
                show _ = _
                have : fo x = 3 := by rw [HFO.out, if_neg np, if_neg hk, if_neg hm, if_neg hb, if_pos hl]
                rw [← HR0.out, HW.out, this]
                rfl
              clear HW HFO HR0
              rcases (by by_cases h : x.k = 1
                         · exact .inl h
                         · by_cases h3 : x.k = 3
                           · exact .inr (.inl ⟨h3, by omega, Classical.byContradiction fun hbb => hb ⟨h, hbb⟩⟩)
                           · exact .inr (.inr ⟨h, h3, Classical.byContradiction fun hbb => hb ⟨h, hbb⟩⟩) : x.k = 1 ∨ (x.k = 3 ∧ x.m = 0 ∧ x.b = []) ∨ (¬ x.k = 1 ∧ ¬ x.k = 3 ∧ x.b = [])) with h1 | ⟨h1, h2, h3⟩ | ⟨h1, h2, h3⟩
              · rw [h1] at d1
                clear hk np hm hb hl
                go_wp2_with fail
                go_ret
                refine ⟨?_, B1.out⟩
                rw [HR.out]
                rfl
              · rw [h3] at hl; simp at hl
              · rw [h3] at hl; simp at hl
            · have e10 : ¬ (256 : Int) < ((x.b.length : Nat) : Int) := by omega
              have hfo : fo x = 0 := by rw [HFO.out, if_neg np, if_neg hk, if_neg hm, if_neg hb, if_neg hl]
              have HW2 : Hid (r = if 0 < j ∧ les (prv l j).p x.p = false then 14 else if anyIn (l.take j) x = true then 11 else 0) := by
                show _ = _
                rw [← HR0.out, HW.out, if_neg (fun h => h hfo)]
              have three : x.k = 1 ∨ (x.k = 3 ∧ x.m = 0 ∧ x.b = []) ∨ (¬ x.k = 1 ∧ ¬ x.k = 3 ∧ x.b = []) := by
                by_cases h : x.k = 1
                · exact .inl h
                · by_cases h3 : x.k = 3
                  · exact .inr (.inl ⟨h3, by omega, Classical.byContradiction fun hbb => hb ⟨h, hbb⟩⟩)
                  · exact .inr (.inr ⟨h, h3, Classical.byContradiction fun hbb => hb ⟨h, hbb⟩⟩)
              have e11 : (x.b == []) = true ∨ x.k = 1 := by
                rcases three with h | h | h
                · exact .inr h
                · left; simp [h.2.2]
                · left; simp [h.2.2]
              clear hk np hm hb hl hfo HFO HW HR0
              rcases Nat.eq_zero_or_pos j with hj0 | hj0
              · have HNL : Hid (¬ (0 < j ∧ les (prv l j).p x.p = false)) := fun h => by omega
                have j2 : decide ((0 : Int) < (j : Int)) = false := by simp; omega
                have j2n : decide (0 < j) = false := by simp; omega
                have HJ0 : Hid (j = 0) := hj0
                clear hj0
                rcases three with h1 | ⟨h1, h2, h3⟩ | ⟨h1, h2, h3⟩
                · rw [h1] at d1
                  clear e11
                  go_wp2_with fail
                  go_quiet (fail)
                  go_wp2_with fail
                  go_loopg [6] j (fun g i wr => ∃ (k : Nat), k ≤ j ∧ g = j - k ∧ i = .int .i64 k ∧ Hid (anyIn (l.take k) x = false) ∧ Hid (Below w.heap.size w wr) ∧ Hid (wr.heap[w.heap.size]? = some (.cells (ec (tx x.p) x.k x.m (tx x.b)) 34)))
                  case atStart => exact ⟨0, Nat.zero_le _, rfl, rfl, (by show anyIn (l.take 0) x = false; simp [anyIn]), below_drewN B1.out _, by show _ = _; rw [World.heap_drewN]; exact G1.out⟩
                  case round =>
                    obtain ⟨k, hkj, rfl, rfl, HA, HW3, HG3⟩ := hrel
                    by_cases hlk : k < j
                    · have := HJ0.out; omega
                    · have e : k = j := by omega
                      subst e
                      have k1 : ¬ (k : Int) < (k : Int) := by omega
                      have HR : Hid (r = 0) := by
                        show _ = _
                        rw [HW2.out, if_neg HNL.out, if_neg (by rw [HA.out]; simp)]
                      go_wp2_with fail
                      go_ret
                      refine ⟨?_, HW3.out⟩
                      rw [HR.out]
                      rfl
                · rw [h1] at d1
                  rw [h2] at d2
                  have e12 : (x.b == []) = true := by simp [h3]
                  clear e11 h3
                  go_wp2_with fail
                  go_quiet (fail)
                  go_wp2_with fail
                  go_loopg [6] j (fun g i wr => ∃ (k : Nat), k ≤ j ∧ g = j - k ∧ i = .int .i64 k ∧ Hid (anyIn (l.take k) x = false) ∧ Hid (Below w.heap.size w wr) ∧ Hid (wr.heap[w.heap.size]? = some (.cells (ec (tx x.p) x.k x.m (tx x.b)) 34)))
                  case atStart => exact ⟨0, Nat.zero_le _, rfl, rfl, (by show anyIn (l.take 0) x = false; simp [anyIn]), below_drewN B1.out _, by show _ = _; rw [World.heap_drewN]; exact G1.out⟩
                  case round =>
                    obtain ⟨k, hkj, rfl, rfl, HA, HW3, HG3⟩ := hrel
                    by_cases hlk : k < j
                    · have := HJ0.out; omega
                    · have e : k = j := by omega
                      subst e
                      have k1 : ¬ (k : Int) < (k : Int) := by omega
                      have HR : Hid (r = 0) := by
                        show _ = _
                        rw [HW2.out, if_neg HNL.out, if_neg (by rw [HA.out]; simp)]
                      go_wp2_with fail
                      go_ret
                      refine ⟨?_, HW3.out⟩
                      rw [HR.out]
                      rfl
                · have e13 : decide (x.k = 3) = false := by simp [h2]
                  have e12 : (x.b == []) = true := by simp [h3]
                  clear e11 h3
                  go_wp2_with fail
                  go_quiet (fail)
                  go_wp2_with fail
                  go_loopg [6] j (fun g i wr => ∃ (k : Nat), k ≤ j ∧ g = j - k ∧ i = .int .i64 k ∧ Hid (anyIn (l.take k) x = false) ∧ Hid (Below w.heap.size w wr) ∧ Hid (wr.heap[w.heap.size]? = some (.cells (ec (tx x.p) x.k x.m (tx x.b)) 34)))
                  case atStart => exact ⟨0, Nat.zero_le _, rfl, rfl, (by show anyIn (l.take 0) x = false; simp [anyIn]), below_drewN B1.out _, by show _ = _; rw [World.heap_drewN]; exact G1.out⟩
                  case round =>
                    obtain ⟨k, hkj, rfl, rfl, HA, HW3, HG3⟩ := hrel
                    by_cases hlk : k < j
                    · have := HJ0.out; omega
                    · have e : k = j := by omega
                      subst e
                      have k1 : ¬ (k : Int) < (k : Int) := by omega
                      have HR : Hid (r = 0) := by
                        show _ = _
                        rw [HW2.out, if_neg HNL.out, if_neg (by rw [HA.out]; simp)]
                      go_wp2_with fail
                      go_ret
                      refine ⟨?_, HW3.out⟩
                      rw [HR.out]
                      rfl
              · obtain ⟨y, hy⟩ : ∃ y, l[j - 1]? = some y := ⟨l[j - 1]'(by rw [HN.out]; omega), List.getElem?_eq_getElem _⟩
                have hpy : prv l j = y := by
                  have := prv_at hy
                  rwa [show j - 1 + 1 = j by omega] at this
                have hyf := HF.out y (List.mem_of_getElem? hy)
                have hry : Ec w b (off + (j - 1) * 4) y := by
                  obtain ⟨b', off', e, _, h⟩ := HL.out.at hy
                  cases e
                  exact h
                obtain ⟨q0, q1, q2, q3⟩ := hry.below B1.out hbw
                have KL : Hid (∀ w, Calls Tryd.prog 39 #[.string (tx y.p), .string (tx x.p)] w fun e w' => e = .returned (.bool (les y.p x.p)) ∧ Below w.heap.size w w') := rless_is y.p x.p (by omega) (by omega)
                rw [hpy] at HW2
                have j2 : decide ((0 : Int) < (j : Int)) = true := by simp; omega
                have j2n : decide (0 < j) = true := by simp; omega
                have j3 : (j : Int) - 1 = ((j - 1 : Nat) : Int) := by omega
                have j4 : ((j - 1 : Nat) : Int) < (n : Int) := by omega
                have j5 : IntKind.i64.wrap ((j - 1 : Nat) : Int) = ((j - 1 : Nat) : Int) := by rw [IntKind.wrap_i64]; omega
                have hlt1 : w.heap.size < w1.heap.size := (Array.getElem?_eq_some_iff.1 G1.out).1
                clear hy hry hyf hpy
                cases hle : les y.p x.p with
                | false =>
                  have HR : Hid (r = 14) := by show _ = _; rw [HW2.out, if_pos ⟨hj0, hle⟩]
                  rw [hle] at KL
                  rcases three with h1 | ⟨h1, h2, h3⟩ | ⟨h1, h2, h3⟩
                  · rw [h1] at d1
                    clear e11
                    go_wp2_with fail
                    refine wp_region_noPanic ?_
                    refine wp_region_held_drew (S := (fun W : World => W.cell? ⟨b, off + (j - 1) * 4, none⟩ = some (.string (tx y.p)) ∧ W.cell? ⟨w.heap.size, 0, none⟩ = some (.string (tx x.p)))) (by kernel_rfl) ?hSap1 (fun hHeld => ?restap1)
                    case hSap1 => exact ⟨q0, d0⟩
                    case restap1 =>
                    refine wpAnyH_take (i := 0) (v := ?v0p1) rfl (by kernel_rfl) (by kernel_rfl) (by kernel_rfl) (fun _ _ _ h => h) (Or.inl ⟨by rfl, ?hy0p1⟩) hHeld ?rest0p1
                    case hy0p1 => (intro w hSw; (try dsimp only at hSw); go_simp; try with_reducible rfl)
                    try simp only [Act.put, List.setIfInBounds_toArray, List.set_cons_zero, List.set_cons_succ, List.getElem_toArray, List.getElem_cons_zero]
                    refine wpAnyH_take (i := 1) (v := ?v1p1) rfl (by kernel_rfl) (by kernel_rfl) (by kernel_rfl) (fun _ _ _ h => h) (Or.inl ⟨by rfl, ?hy1p1⟩) hHeld ?rest1p1
                    case hy1p1 => (intro w hSw; (try dsimp only at hSw); go_simp; try with_reducible rfl)
                    try simp only [Act.put, List.setIfInBounds_toArray, List.set_cons_zero, List.set_cons_succ, List.getElem_toArray, List.getElem_cons_zero, List.getElem_cons_succ]
                    refine wpAnyH_take (i := 2) (v := ?v2p1) rfl (by kernel_rfl) (by kernel_rfl) (by kernel_rfl) (fun _ _ _ h => h) (Or.inl ⟨by rfl, ?hy2p1⟩) hHeld ?rest2p1
                    case hy2p1 => (intro w hSw; (try dsimp only at hSw); go_simp; try with_reducible rfl)
                    try simp only [Act.put, List.setIfInBounds_toArray, List.set_cons_zero, List.set_cons_succ, List.getElem_toArray, List.getElem_cons_zero, List.getElem_cons_succ]
                    refine wpAnyH_take (i := 3) (v := ?v3p1) rfl (by kernel_rfl) (by kernel_rfl) (by kernel_rfl) (fun _ _ _ h => h) (Or.inl ⟨by rfl, ?hy3p1⟩) hHeld ?rest3p1
                    case hy3p1 => (intro w hSw; (try dsimp only at hSw); go_simp; try with_reducible rfl)
                    try simp only [Act.put, List.setIfInBounds_toArray, List.set_cons_zero, List.set_cons_succ, List.getElem_toArray, List.getElem_cons_zero, List.getElem_cons_succ]
                    refine wpAnyH_take (i := 4) (v := ?v4p1) rfl (by kernel_rfl) (by kernel_rfl) (by kernel_rfl) (fun _ _ _ h => h) (Or.inl ⟨by rfl, ?hy4p1⟩) hHeld ?rest4p1
                    case hy4p1 => (intro w hSw; (try dsimp only at hSw); go_simp; try with_reducible rfl)
                    try simp only [Act.put, List.setIfInBounds_toArray, List.set_cons_zero, List.set_cons_succ, List.getElem_toArray, List.getElem_cons_zero, List.getElem_cons_succ]
                    refine wpAnyH_take (i := 5) (v := ?v5p1) rfl (by kernel_rfl) (by kernel_rfl) (by kernel_rfl) (fun _ _ _ h => h) (Or.inl ⟨by rfl, ?hy5p1⟩) hHeld ?rest5p1
                    case hy5p1 => (intro w hSw; (try dsimp only at hSw); go_simp; try with_reducible rfl)
                    try simp only [Act.put, List.setIfInBounds_toArray, List.set_cons_zero, List.set_cons_succ, List.getElem_toArray, List.getElem_cons_zero, List.getElem_cons_succ]
                    refine wpAnyH_take (i := 6) (v := ?v6p1) rfl (by kernel_rfl) (by kernel_rfl) (by kernel_rfl) (fun _ _ _ h => h) (Or.inl ⟨by rfl, ?hy6p1⟩) hHeld ?rest6p1
                    case hy6p1 => (intro w hSw; (try dsimp only at hSw); go_simp; try with_reducible rfl)
                    try simp only [Act.put, List.setIfInBounds_toArray, List.set_cons_zero, List.set_cons_succ, List.getElem_toArray, List.getElem_cons_zero, List.getElem_cons_succ]
                    refine wpAnyH_take (i := 7) (v := ?v7p1) rfl (by kernel_rfl) (by kernel_rfl) (by kernel_rfl) (fun _ _ _ h => h) (Or.inl ⟨by rfl, ?hy7p1⟩) hHeld ?rest7p1
                    case hy7p1 => (intro w hSw; (try dsimp only at hSw); go_simp; try with_reducible rfl)
                    try simp only [Act.put, List.setIfInBounds_toArray, List.set_cons_zero, List.set_cons_succ, List.getElem_toArray, List.getElem_cons_zero, List.getElem_cons_succ]
                    refine wpAnyH_take (i := 8) (v := ?v8p1) rfl (by kernel_rfl) (by kernel_rfl) (by kernel_rfl) (fun _ _ _ h => h) (Or.inl ⟨by rfl, ?hy8p1⟩) hHeld ?rest8p1
                    case hy8p1 => (intro w hSw; (try dsimp only at hSw); go_simp; try with_reducible rfl)
                    try simp only [Act.put, List.setIfInBounds_toArray, List.set_cons_zero, List.set_cons_succ, List.getElem_toArray, List.getElem_cons_zero, List.getElem_cons_succ]
                    refine wpAnyH_take (i := 9) (v := ?v9p1) rfl (by kernel_rfl) (by kernel_rfl) (by kernel_rfl) (fun _ _ _ h => h) (Or.inl ⟨by rfl, ?hy9p1⟩) hHeld ?rest9p1
                    case hy9p1 => (intro w hSw; (try dsimp only at hSw); go_simp; try with_reducible rfl)
                    try simp only [Act.put, List.setIfInBounds_toArray, List.set_cons_zero, List.set_cons_succ, List.getElem_toArray, List.getElem_cons_zero, List.getElem_cons_succ]
                    refine wpAnyH_take (i := 10) (v := ?v10p1) rfl (by kernel_rfl) (by kernel_rfl) (by kernel_rfl) (fun _ _ _ h => h) (Or.inl ⟨by rfl, ?hy10p1⟩) hHeld ?rest10p1
                    case hy10p1 => (intro w hSw; (try dsimp only at hSw); go_simp; try with_reducible rfl)
                    try simp only [Act.put, List.setIfInBounds_toArray, List.set_cons_zero, List.set_cons_succ, List.getElem_toArray, List.getElem_cons_zero, List.getElem_cons_succ]
                    refine wpAnyH_ready (rs := [11]) (by kernel_rfl) (by simp) ?_
                    refine AllReadyH.cons rfl (fun K hK => ?_) AllReadyH.nil
                    go_simp; refine (KL.out _).mono ?_; rintro e w3 ⟨rfl, hb3⟩; have B3 : Hid (Below w1.drew.heap.size w1.drew w3) := hb3; clear hb3; go_wp2_with fail
                    refine hK.out _ _ ?hS11p1 (fun hHeld => ?rest11p1)
                    case hS11p1 => exact ⟨(B3.out.cell (p := ⟨b, off + (j - 1) * 4, none⟩) (show b < w1.heap.size by omega)).trans q0, (B3.out.cell (p := ⟨w.heap.size, 0, none⟩) (show w.heap.size < w1.heap.size by omega)).trans d0⟩
                    clear hK K
                    try simp only [Act.put, List.setIfInBounds_toArray, List.set_cons_zero, List.set_cons_succ, List.getElem_toArray, List.getElem_cons_zero, List.getElem_cons_succ]
                    refine wpAnyH_take (i := 12) (v := ?v12p1) rfl (by kernel_rfl) (by kernel_rfl) (by kernel_rfl) (fun _ _ _ h => h) (Or.inl ⟨by rfl, ?hy12p1⟩) hHeld ?rest12p1
                    case hy12p1 => (intro w hSw; (try dsimp only at hSw); go_simp; try with_reducible rfl)
                    try simp only [Act.put, List.setIfInBounds_toArray, List.set_cons_zero, List.set_cons_succ, List.getElem_toArray, List.getElem_cons_zero, List.getElem_cons_succ]
                    refine wpAnyH_take (i := 13) (v := ?v13p1) rfl (by kernel_rfl) (by kernel_rfl) (by kernel_rfl) (fun _ _ _ h => h) (Or.inl ⟨by rfl, ?hy13p1⟩) hHeld ?rest13p1
                    case hy13p1 => (intro w hSw; (try dsimp only at hSw); go_simp; try with_reducible rfl)
                    try simp only [Act.put, List.setIfInBounds_toArray, List.set_cons_zero, List.set_cons_succ, List.getElem_toArray, List.getElem_cons_zero, List.getElem_cons_succ]
                    refine wpAnyH_done (by kernel_rfl) ?_ _
                    refine NoPanic.normal ?_
                    have B2 : Hid (Below w.heap.size w w3) := (B1.out.drew).trans (B3.out.mono (show w.heap.size ≤ w1.heap.size by omega))
                    have G2 : Hid (w3.heap[w.heap.size]? = some (.cells (ec (tx x.p) x.k x.m (tx x.b)) 34)) := (B3.out.block w.heap.size (show w.heap.size < w1.heap.size by omega)).trans G1.out
                    clear hHeld d0 d1 d2 d3 q0 q1 q2 q3 KL
                    go_wp2_with fail
                    go_ret
                    refine ⟨?_, by first | exact B2.out | exact B2.out.drew⟩
                    rw [HR.out]
                    rfl
                  · rw [h1] at d1
                    rw [h2] at d2
                    have e12 : (x.b == []) = true := by simp [h3]
                    clear e11 h3
                    go_wp2_with fail
                    refine wp_region_noPanic ?_
                    refine wp_region_held_drew (S := (fun W : World => W.cell? ⟨b, off + (j - 1) * 4, none⟩ = some (.string (tx y.p)) ∧ W.cell? ⟨w.heap.size, 0, none⟩ = some (.string (tx x.p)))) (by kernel_rfl) ?hSap2 (fun hHeld => ?restap2)
                    case hSap2 => exact ⟨q0, d0⟩
                    case restap2 =>
                    refine wpAnyH_take (i := 0) (v := ?v0p2) rfl (by kernel_rfl) (by kernel_rfl) (by kernel_rfl) (fun _ _ _ h => h) (Or.inl ⟨by rfl, ?hy0p2⟩) hHeld ?rest0p2
                    case hy0p2 => (intro w hSw; (try dsimp only at hSw); go_simp; try with_reducible rfl)
                    try simp only [Act.put, List.setIfInBounds_toArray, List.set_cons_zero, List.set_cons_succ, List.getElem_toArray, List.getElem_cons_zero]
                    refine wpAnyH_take (i := 1) (v := ?v1p2) rfl (by kernel_rfl) (by kernel_rfl) (by kernel_rfl) (fun _ _ _ h => h) (Or.inl ⟨by rfl, ?hy1p2⟩) hHeld ?rest1p2
                    case hy1p2 => (intro w hSw; (try dsimp only at hSw); go_simp; try with_reducible rfl)
                    try simp only [Act.put, List.setIfInBounds_toArray, List.set_cons_zero, List.set_cons_succ, List.getElem_toArray, List.getElem_cons_zero, List.getElem_cons_succ]
                    refine wpAnyH_take (i := 2) (v := ?v2p2) rfl (by kernel_rfl) (by kernel_rfl) (by kernel_rfl) (fun _ _ _ h => h) (Or.inl ⟨by rfl, ?hy2p2⟩) hHeld ?rest2p2
                    case hy2p2 => (intro w hSw; (try dsimp only at hSw); go_simp; try with_reducible rfl)
                    try simp only [Act.put, List.setIfInBounds_toArray, List.set_cons_zero, List.set_cons_succ, List.getElem_toArray, List.getElem_cons_zero, List.getElem_cons_succ]
                    refine wpAnyH_take (i := 3) (v := ?v3p2) rfl (by kernel_rfl) (by kernel_rfl) (by kernel_rfl) (fun _ _ _ h => h) (Or.inl ⟨by rfl, ?hy3p2⟩) hHeld ?rest3p2
                    case hy3p2 => (intro w hSw; (try dsimp only at hSw); go_simp; try with_reducible rfl)
                    try simp only [Act.put, List.setIfInBounds_toArray, List.set_cons_zero, List.set_cons_succ, List.getElem_toArray, List.getElem_cons_zero, List.getElem_cons_succ]
                    refine wpAnyH_take (i := 4) (v := ?v4p2) rfl (by kernel_rfl) (by kernel_rfl) (by kernel_rfl) (fun _ _ _ h => h) (Or.inl ⟨by rfl, ?hy4p2⟩) hHeld ?rest4p2
                    case hy4p2 => (intro w hSw; (try dsimp only at hSw); go_simp; try with_reducible rfl)
                    try simp only [Act.put, List.setIfInBounds_toArray, List.set_cons_zero, List.set_cons_succ, List.getElem_toArray, List.getElem_cons_zero, List.getElem_cons_succ]
                    refine wpAnyH_take (i := 5) (v := ?v5p2) rfl (by kernel_rfl) (by kernel_rfl) (by kernel_rfl) (fun _ _ _ h => h) (Or.inl ⟨by rfl, ?hy5p2⟩) hHeld ?rest5p2
                    case hy5p2 => (intro w hSw; (try dsimp only at hSw); go_simp; try with_reducible rfl)
                    try simp only [Act.put, List.setIfInBounds_toArray, List.set_cons_zero, List.set_cons_succ, List.getElem_toArray, List.getElem_cons_zero, List.getElem_cons_succ]
                    refine wpAnyH_take (i := 6) (v := ?v6p2) rfl (by kernel_rfl) (by kernel_rfl) (by kernel_rfl) (fun _ _ _ h => h) (Or.inl ⟨by rfl, ?hy6p2⟩) hHeld ?rest6p2
                    case hy6p2 => (intro w hSw; (try dsimp only at hSw); go_simp; try with_reducible rfl)
                    try simp only [Act.put, List.setIfInBounds_toArray, List.set_cons_zero, List.set_cons_succ, List.getElem_toArray, List.getElem_cons_zero, List.getElem_cons_succ]
                    refine wpAnyH_take (i := 7) (v := ?v7p2) rfl (by kernel_rfl) (by kernel_rfl) (by kernel_rfl) (fun _ _ _ h => h) (Or.inl ⟨by rfl, ?hy7p2⟩) hHeld ?rest7p2
                    case hy7p2 => (intro w hSw; (try dsimp only at hSw); go_simp; try with_reducible rfl)
                    try simp only [Act.put, List.setIfInBounds_toArray, List.set_cons_zero, List.set_cons_succ, List.getElem_toArray, List.getElem_cons_zero, List.getElem_cons_succ]
                    refine wpAnyH_take (i := 8) (v := ?v8p2) rfl (by kernel_rfl) (by kernel_rfl) (by kernel_rfl) (fun _ _ _ h => h) (Or.inl ⟨by rfl, ?hy8p2⟩) hHeld ?rest8p2
                    case hy8p2 => (intro w hSw; (try dsimp only at hSw); go_simp; try with_reducible rfl)
                    try simp only [Act.put, List.setIfInBounds_toArray, List.set_cons_zero, List.set_cons_succ, List.getElem_toArray, List.getElem_cons_zero, List.getElem_cons_succ]
                    refine wpAnyH_take (i := 9) (v := ?v9p2) rfl (by kernel_rfl) (by kernel_rfl) (by kernel_rfl) (fun _ _ _ h => h) (Or.inl ⟨by rfl, ?hy9p2⟩) hHeld ?rest9p2
                    case hy9p2 => (intro w hSw; (try dsimp only at hSw); go_simp; try with_reducible rfl)
                    try simp only [Act.put, List.setIfInBounds_toArray, List.set_cons_zero, List.set_cons_succ, List.getElem_toArray, List.getElem_cons_zero, List.getElem_cons_succ]
                    refine wpAnyH_take (i := 10) (v := ?v10p2) rfl (by kernel_rfl) (by kernel_rfl) (by kernel_rfl) (fun _ _ _ h => h) (Or.inl ⟨by rfl, ?hy10p2⟩) hHeld ?rest10p2
                    case hy10p2 => (intro w hSw; (try dsimp only at hSw); go_simp; try with_reducible rfl)
                    try simp only [Act.put, List.setIfInBounds_toArray, List.set_cons_zero, List.set_cons_succ, List.getElem_toArray, List.getElem_cons_zero, List.getElem_cons_succ]
                    refine wpAnyH_ready (rs := [11]) (by kernel_rfl) (by simp) ?_
                    refine AllReadyH.cons rfl (fun K hK => ?_) AllReadyH.nil
                    go_simp; refine (KL.out _).mono ?_; rintro e w3 ⟨rfl, hb3⟩; have B3 : Hid (Below w1.drew.heap.size w1.drew w3) := hb3; clear hb3; go_wp2_with fail
                    refine hK.out _ _ ?hS11p2 (fun hHeld => ?rest11p2)
                    case hS11p2 => exact ⟨(B3.out.cell (p := ⟨b, off + (j - 1) * 4, none⟩) (show b < w1.heap.size by omega)).trans q0, (B3.out.cell (p := ⟨w.heap.size, 0, none⟩) (show w.heap.size < w1.heap.size by omega)).trans d0⟩
                    clear hK K
                    try simp only [Act.put, List.setIfInBounds_toArray, List.set_cons_zero, List.set_cons_succ, List.getElem_toArray, List.getElem_cons_zero, List.getElem_cons_succ]
                    refine wpAnyH_take (i := 12) (v := ?v12p2) rfl (by kernel_rfl) (by kernel_rfl) (by kernel_rfl) (fun _ _ _ h => h) (Or.inl ⟨by rfl, ?hy12p2⟩) hHeld ?rest12p2
                    case hy12p2 => (intro w hSw; (try dsimp only at hSw); go_simp; try with_reducible rfl)
                    try simp only [Act.put, List.setIfInBounds_toArray, List.set_cons_zero, List.set_cons_succ, List.getElem_toArray, List.getElem_cons_zero, List.getElem_cons_succ]
                    refine wpAnyH_take (i := 13) (v := ?v13p2) rfl (by kernel_rfl) (by kernel_rfl) (by kernel_rfl) (fun _ _ _ h => h) (Or.inl ⟨by rfl, ?hy13p2⟩) hHeld ?rest13p2
                    case hy13p2 => (intro w hSw; (try dsimp only at hSw); go_simp; try with_reducible rfl)
                    try simp only [Act.put, List.setIfInBounds_toArray, List.set_cons_zero, List.set_cons_succ, List.getElem_toArray, List.getElem_cons_zero, List.getElem_cons_succ]
                    refine wpAnyH_done (by kernel_rfl) ?_ _
                    refine NoPanic.normal ?_
                    have B2 : Hid (Below w.heap.size w w3) := (B1.out.drew).trans (B3.out.mono (show w.heap.size ≤ w1.heap.size by omega))
                    have G2 : Hid (w3.heap[w.heap.size]? = some (.cells (ec (tx x.p) x.k x.m (tx x.b)) 34)) := (B3.out.block w.heap.size (show w.heap.size < w1.heap.size by omega)).trans G1.out
                    clear hHeld d0 d1 d2 d3 q0 q1 q2 q3 KL
                    go_wp2_with fail
                    go_ret
                    refine ⟨?_, by first | exact B2.out | exact B2.out.drew⟩
                    rw [HR.out]
                    rfl
                  · have e13 : decide (x.k = 3) = false := by simp [h2]
                    have e12 : (x.b == []) = true := by simp [h3]
                    clear e11 h3
                    go_wp2_with fail
                    refine wp_region_noPanic ?_
                    refine wp_region_held_drew (S := (fun W : World => W.cell? ⟨b, off + (j - 1) * 4, none⟩ = some (.string (tx y.p)) ∧ W.cell? ⟨w.heap.size, 0, none⟩ = some (.string (tx x.p)))) (by kernel_rfl) ?hSap3 (fun hHeld => ?restap3)
                    case hSap3 => exact ⟨q0, d0⟩
                    case restap3 =>
                    refine wpAnyH_take (i := 0) (v := ?v0p3) rfl (by kernel_rfl) (by kernel_rfl) (by kernel_rfl) (fun _ _ _ h => h) (Or.inl ⟨by rfl, ?hy0p3⟩) hHeld ?rest0p3
                    case hy0p3 => (intro w hSw; (try dsimp only at hSw); go_simp; try with_reducible rfl)
                    try simp only [Act.put, List.setIfInBounds_toArray, List.set_cons_zero, List.set_cons_succ, List.getElem_toArray, List.getElem_cons_zero]
                    refine wpAnyH_take (i := 1) (v := ?v1p3) rfl (by kernel_rfl) (by kernel_rfl) (by kernel_rfl) (fun _ _ _ h => h) (Or.inl ⟨by rfl, ?hy1p3⟩) hHeld ?rest1p3
                    case hy1p3 => (intro w hSw; (try dsimp only at hSw); go_simp; try with_reducible rfl)
                    try simp only [Act.put, List.setIfInBounds_toArray, List.set_cons_zero, List.set_cons_succ, List.getElem_toArray, List.getElem_cons_zero, List.getElem_cons_succ]
                    refine wpAnyH_take (i := 2) (v := ?v2p3) rfl (by kernel_rfl) (by kernel_rfl) (by kernel_rfl) (fun _ _ _ h => h) (Or.inl ⟨by rfl, ?hy2p3⟩) hHeld ?rest2p3
                    case hy2p3 => (intro w hSw; (try dsimp only at hSw); go_simp; try with_reducible rfl)
                    try simp only [Act.put, List.setIfInBounds_toArray, List.set_cons_zero, List.set_cons_succ, List.getElem_toArray, List.getElem_cons_zero, List.getElem_cons_succ]
                    refine wpAnyH_take (i := 3) (v := ?v3p3) rfl (by kernel_rfl) (by kernel_rfl) (by kernel_rfl) (fun _ _ _ h => h) (Or.inl ⟨by rfl, ?hy3p3⟩) hHeld ?rest3p3
                    case hy3p3 => (intro w hSw; (try dsimp only at hSw); go_simp; try with_reducible rfl)
                    try simp only [Act.put, List.setIfInBounds_toArray, List.set_cons_zero, List.set_cons_succ, List.getElem_toArray, List.getElem_cons_zero, List.getElem_cons_succ]
                    refine wpAnyH_take (i := 4) (v := ?v4p3) rfl (by kernel_rfl) (by kernel_rfl) (by kernel_rfl) (fun _ _ _ h => h) (Or.inl ⟨by rfl, ?hy4p3⟩) hHeld ?rest4p3
                    case hy4p3 => (intro w hSw; (try dsimp only at hSw); go_simp; try with_reducible rfl)
                    try simp only [Act.put, List.setIfInBounds_toArray, List.set_cons_zero, List.set_cons_succ, List.getElem_toArray, List.getElem_cons_zero, List.getElem_cons_succ]
                    refine wpAnyH_take (i := 5) (v := ?v5p3) rfl (by kernel_rfl) (by kernel_rfl) (by kernel_rfl) (fun _ _ _ h => h) (Or.inl ⟨by rfl, ?hy5p3⟩) hHeld ?rest5p3
                    case hy5p3 => (intro w hSw; (try dsimp only at hSw); go_simp; try with_reducible rfl)
                    try simp only [Act.put, List.setIfInBounds_toArray, List.set_cons_zero, List.set_cons_succ, List.getElem_toArray, List.getElem_cons_zero, List.getElem_cons_succ]
                    refine wpAnyH_take (i := 6) (v := ?v6p3) rfl (by kernel_rfl) (by kernel_rfl) (by kernel_rfl) (fun _ _ _ h => h) (Or.inl ⟨by rfl, ?hy6p3⟩) hHeld ?rest6p3
                    case hy6p3 => (intro w hSw; (try dsimp only at hSw); go_simp; try with_reducible rfl)
                    try simp only [Act.put, List.setIfInBounds_toArray, List.set_cons_zero, List.set_cons_succ, List.getElem_toArray, List.getElem_cons_zero, List.getElem_cons_succ]
                    refine wpAnyH_take (i := 7) (v := ?v7p3) rfl (by kernel_rfl) (by kernel_rfl) (by kernel_rfl) (fun _ _ _ h => h) (Or.inl ⟨by rfl, ?hy7p3⟩) hHeld ?rest7p3
                    case hy7p3 => (intro w hSw; (try dsimp only at hSw); go_simp; try with_reducible rfl)
                    try simp only [Act.put, List.setIfInBounds_toArray, List.set_cons_zero, List.set_cons_succ, List.getElem_toArray, List.getElem_cons_zero, List.getElem_cons_succ]
                    refine wpAnyH_take (i := 8) (v := ?v8p3) rfl (by kernel_rfl) (by kernel_rfl) (by kernel_rfl) (fun _ _ _ h => h) (Or.inl ⟨by rfl, ?hy8p3⟩) hHeld ?rest8p3
                    case hy8p3 => (intro w hSw; (try dsimp only at hSw); go_simp; try with_reducible rfl)
                    try simp only [Act.put, List.setIfInBounds_toArray, List.set_cons_zero, List.set_cons_succ, List.getElem_toArray, List.getElem_cons_zero, List.getElem_cons_succ]
                    refine wpAnyH_take (i := 9) (v := ?v9p3) rfl (by kernel_rfl) (by kernel_rfl) (by kernel_rfl) (fun _ _ _ h => h) (Or.inl ⟨by rfl, ?hy9p3⟩) hHeld ?rest9p3
                    case hy9p3 => (intro w hSw; (try dsimp only at hSw); go_simp; try with_reducible rfl)
                    try simp only [Act.put, List.setIfInBounds_toArray, List.set_cons_zero, List.set_cons_succ, List.getElem_toArray, List.getElem_cons_zero, List.getElem_cons_succ]
                    refine wpAnyH_take (i := 10) (v := ?v10p3) rfl (by kernel_rfl) (by kernel_rfl) (by kernel_rfl) (fun _ _ _ h => h) (Or.inl ⟨by rfl, ?hy10p3⟩) hHeld ?rest10p3
                    case hy10p3 => (intro w hSw; (try dsimp only at hSw); go_simp; try with_reducible rfl)
                    try simp only [Act.put, List.setIfInBounds_toArray, List.set_cons_zero, List.set_cons_succ, List.getElem_toArray, List.getElem_cons_zero, List.getElem_cons_succ]
                    refine wpAnyH_ready (rs := [11]) (by kernel_rfl) (by simp) ?_
                    refine AllReadyH.cons rfl (fun K hK => ?_) AllReadyH.nil
                    go_simp; refine (KL.out _).mono ?_; rintro e w3 ⟨rfl, hb3⟩; have B3 : Hid (Below w1.drew.heap.size w1.drew w3) := hb3; clear hb3; go_wp2_with fail
                    refine hK.out _ _ ?hS11p3 (fun hHeld => ?rest11p3)
                    case hS11p3 => exact ⟨(B3.out.cell (p := ⟨b, off + (j - 1) * 4, none⟩) (show b < w1.heap.size by omega)).trans q0, (B3.out.cell (p := ⟨w.heap.size, 0, none⟩) (show w.heap.size < w1.heap.size by omega)).trans d0⟩
                    clear hK K
                    try simp only [Act.put, List.setIfInBounds_toArray, List.set_cons_zero, List.set_cons_succ, List.getElem_toArray, List.getElem_cons_zero, List.getElem_cons_succ]
                    refine wpAnyH_take (i := 12) (v := ?v12p3) rfl (by kernel_rfl) (by kernel_rfl) (by kernel_rfl) (fun _ _ _ h => h) (Or.inl ⟨by rfl, ?hy12p3⟩) hHeld ?rest12p3
                    case hy12p3 => (intro w hSw; (try dsimp only at hSw); go_simp; try with_reducible rfl)
                    try simp only [Act.put, List.setIfInBounds_toArray, List.set_cons_zero, List.set_cons_succ, List.getElem_toArray, List.getElem_cons_zero, List.getElem_cons_succ]
                    refine wpAnyH_take (i := 13) (v := ?v13p3) rfl (by kernel_rfl) (by kernel_rfl) (by kernel_rfl) (fun _ _ _ h => h) (Or.inl ⟨by rfl, ?hy13p3⟩) hHeld ?rest13p3
                    case hy13p3 => (intro w hSw; (try dsimp only at hSw); go_simp; try with_reducible rfl)
                    try simp only [Act.put, List.setIfInBounds_toArray, List.set_cons_zero, List.set_cons_succ, List.getElem_toArray, List.getElem_cons_zero, List.getElem_cons_succ]
                    refine wpAnyH_done (by kernel_rfl) ?_ _
                    refine NoPanic.normal ?_
                    have B2 : Hid (Below w.heap.size w w3) := (B1.out.drew).trans (B3.out.mono (show w.heap.size ≤ w1.heap.size by omega))
                    have G2 : Hid (w3.heap[w.heap.size]? = some (.cells (ec (tx x.p) x.k x.m (tx x.b)) 34)) := (B3.out.block w.heap.size (show w.heap.size < w1.heap.size by omega)).trans G1.out
                    clear hHeld d0 d1 d2 d3 q0 q1 q2 q3 KL
                    go_wp2_with fail
                    go_ret
                    refine ⟨?_, by first | exact B2.out | exact B2.out.drew⟩
                    rw [HR.out]
                    rfl
                | true =>
                  have HNL : Hid (¬ (0 < j ∧ les y.p x.p = false)) := fun h => by rw [hle] at h; simp at h
                  rw [hle] at KL
                  rcases three with h1 | ⟨h1, h2, h3⟩ | ⟨h1, h2, h3⟩
                  · rw [h1] at d1
                    clear e11
                    go_wp2_with fail
                    refine wp_region_noPanic ?_
                    refine wp_region_held_drew (S := (fun W : World => W.cell? ⟨b, off + (j - 1) * 4, none⟩ = some (.string (tx y.p)) ∧ W.cell? ⟨w.heap.size, 0, none⟩ = some (.string (tx x.p)))) (by kernel_rfl) ?hSap4 (fun hHeld => ?restap4)
                    case hSap4 => exact ⟨q0, d0⟩
                    case restap4 =>
                    refine wpAnyH_take (i := 0) (v := ?v0p4) rfl (by kernel_rfl) (by kernel_rfl) (by kernel_rfl) (fun _ _ _ h => h) (Or.inl ⟨by rfl, ?hy0p4⟩) hHeld ?rest0p4
                    case hy0p4 => (intro w hSw; (try dsimp only at hSw); go_simp; try with_reducible rfl)
                    try simp only [Act.put, List.setIfInBounds_toArray, List.set_cons_zero, List.set_cons_succ, List.getElem_toArray, List.getElem_cons_zero]
                    refine wpAnyH_take (i := 1) (v := ?v1p4) rfl (by kernel_rfl) (by kernel_rfl) (by kernel_rfl) (fun _ _ _ h => h) (Or.inl ⟨by rfl, ?hy1p4⟩) hHeld ?rest1p4
                    case hy1p4 => (intro w hSw; (try dsimp only at hSw); go_simp; try with_reducible rfl)
                    try simp only [Act.put, List.setIfInBounds_toArray, List.set_cons_zero, List.set_cons_succ, List.getElem_toArray, List.getElem_cons_zero, List.getElem_cons_succ]
                    refine wpAnyH_take (i := 2) (v := ?v2p4) rfl (by kernel_rfl) (by kernel_rfl) (by kernel_rfl) (fun _ _ _ h => h) (Or.inl ⟨by rfl, ?hy2p4⟩) hHeld ?rest2p4
                    case hy2p4 => (intro w hSw; (try dsimp only at hSw); go_simp; try with_reducible rfl)
                    try simp only [Act.put, List.setIfInBounds_toArray, List.set_cons_zero, List.set_cons_succ, List.getElem_toArray, List.getElem_cons_zero, List.getElem_cons_succ]
                    refine wpAnyH_take (i := 3) (v := ?v3p4) rfl (by kernel_rfl) (by kernel_rfl) (by kernel_rfl) (fun _ _ _ h => h) (Or.inl ⟨by rfl, ?hy3p4⟩) hHeld ?rest3p4
                    case hy3p4 => (intro w hSw; (try dsimp only at hSw); go_simp; try with_reducible rfl)
                    try simp only [Act.put, List.setIfInBounds_toArray, List.set_cons_zero, List.set_cons_succ, List.getElem_toArray, List.getElem_cons_zero, List.getElem_cons_succ]
                    refine wpAnyH_take (i := 4) (v := ?v4p4) rfl (by kernel_rfl) (by kernel_rfl) (by kernel_rfl) (fun _ _ _ h => h) (Or.inl ⟨by rfl, ?hy4p4⟩) hHeld ?rest4p4
                    case hy4p4 => (intro w hSw; (try dsimp only at hSw); go_simp; try with_reducible rfl)
                    try simp only [Act.put, List.setIfInBounds_toArray, List.set_cons_zero, List.set_cons_succ, List.getElem_toArray, List.getElem_cons_zero, List.getElem_cons_succ]
                    refine wpAnyH_take (i := 5) (v := ?v5p4) rfl (by kernel_rfl) (by kernel_rfl) (by kernel_rfl) (fun _ _ _ h => h) (Or.inl ⟨by rfl, ?hy5p4⟩) hHeld ?rest5p4
                    case hy5p4 => (intro w hSw; (try dsimp only at hSw); go_simp; try with_reducible rfl)
                    try simp only [Act.put, List.setIfInBounds_toArray, List.set_cons_zero, List.set_cons_succ, List.getElem_toArray, List.getElem_cons_zero, List.getElem_cons_succ]
                    refine wpAnyH_take (i := 6) (v := ?v6p4) rfl (by kernel_rfl) (by kernel_rfl) (by kernel_rfl) (fun _ _ _ h => h) (Or.inl ⟨by rfl, ?hy6p4⟩) hHeld ?rest6p4
                    case hy6p4 => (intro w hSw; (try dsimp only at hSw); go_simp; try with_reducible rfl)
                    try simp only [Act.put, List.setIfInBounds_toArray, List.set_cons_zero, List.set_cons_succ, List.getElem_toArray, List.getElem_cons_zero, List.getElem_cons_succ]
                    refine wpAnyH_take (i := 7) (v := ?v7p4) rfl (by kernel_rfl) (by kernel_rfl) (by kernel_rfl) (fun _ _ _ h => h) (Or.inl ⟨by rfl, ?hy7p4⟩) hHeld ?rest7p4
                    case hy7p4 => (intro w hSw; (try dsimp only at hSw); go_simp; try with_reducible rfl)
                    try simp only [Act.put, List.setIfInBounds_toArray, List.set_cons_zero, List.set_cons_succ, List.getElem_toArray, List.getElem_cons_zero, List.getElem_cons_succ]
                    refine wpAnyH_take (i := 8) (v := ?v8p4) rfl (by kernel_rfl) (by kernel_rfl) (by kernel_rfl) (fun _ _ _ h => h) (Or.inl ⟨by rfl, ?hy8p4⟩) hHeld ?rest8p4
                    case hy8p4 => (intro w hSw; (try dsimp only at hSw); go_simp; try with_reducible rfl)
                    try simp only [Act.put, List.setIfInBounds_toArray, List.set_cons_zero, List.set_cons_succ, List.getElem_toArray, List.getElem_cons_zero, List.getElem_cons_succ]
                    refine wpAnyH_take (i := 9) (v := ?v9p4) rfl (by kernel_rfl) (by kernel_rfl) (by kernel_rfl) (fun _ _ _ h => h) (Or.inl ⟨by rfl, ?hy9p4⟩) hHeld ?rest9p4
                    case hy9p4 => (intro w hSw; (try dsimp only at hSw); go_simp; try with_reducible rfl)
                    try simp only [Act.put, List.setIfInBounds_toArray, List.set_cons_zero, List.set_cons_succ, List.getElem_toArray, List.getElem_cons_zero, List.getElem_cons_succ]
                    refine wpAnyH_take (i := 10) (v := ?v10p4) rfl (by kernel_rfl) (by kernel_rfl) (by kernel_rfl) (fun _ _ _ h => h) (Or.inl ⟨by rfl, ?hy10p4⟩) hHeld ?rest10p4
                    case hy10p4 => (intro w hSw; (try dsimp only at hSw); go_simp; try with_reducible rfl)
                    try simp only [Act.put, List.setIfInBounds_toArray, List.set_cons_zero, List.set_cons_succ, List.getElem_toArray, List.getElem_cons_zero, List.getElem_cons_succ]
                    refine wpAnyH_ready (rs := [11]) (by kernel_rfl) (by simp) ?_
                    refine AllReadyH.cons rfl (fun K hK => ?_) AllReadyH.nil
                    go_simp; refine (KL.out _).mono ?_; rintro e w3 ⟨rfl, hb3⟩; have B3 : Hid (Below w1.drew.heap.size w1.drew w3) := hb3; clear hb3; go_wp2_with fail
                    refine hK.out _ _ ?hS11p4 (fun hHeld => ?rest11p4)
                    case hS11p4 => exact ⟨(B3.out.cell (p := ⟨b, off + (j - 1) * 4, none⟩) (show b < w1.heap.size by omega)).trans q0, (B3.out.cell (p := ⟨w.heap.size, 0, none⟩) (show w.heap.size < w1.heap.size by omega)).trans d0⟩
                    clear hK K
                    try simp only [Act.put, List.setIfInBounds_toArray, List.set_cons_zero, List.set_cons_succ, List.getElem_toArray, List.getElem_cons_zero, List.getElem_cons_succ]
                    refine wpAnyH_take (i := 12) (v := ?v12p4) rfl (by kernel_rfl) (by kernel_rfl) (by kernel_rfl) (fun _ _ _ h => h) (Or.inl ⟨by rfl, ?hy12p4⟩) hHeld ?rest12p4
                    case hy12p4 => (intro w hSw; (try dsimp only at hSw); go_simp; try with_reducible rfl)
                    try simp only [Act.put, List.setIfInBounds_toArray, List.set_cons_zero, List.set_cons_succ, List.getElem_toArray, List.getElem_cons_zero, List.getElem_cons_succ]
                    refine wpAnyH_take (i := 13) (v := ?v13p4) rfl (by kernel_rfl) (by kernel_rfl) (by kernel_rfl) (fun _ _ _ h => h) (Or.inl ⟨by rfl, ?hy13p4⟩) hHeld ?rest13p4
                    case hy13p4 => (intro w hSw; (try dsimp only at hSw); go_simp; try with_reducible rfl)
                    try simp only [Act.put, List.setIfInBounds_toArray, List.set_cons_zero, List.set_cons_succ, List.getElem_toArray, List.getElem_cons_zero, List.getElem_cons_succ]
                    refine wpAnyH_done (by kernel_rfl) ?_ _
                    refine NoPanic.normal ?_
                    have B2 : Hid (Below w.heap.size w w3) := (B1.out.drew).trans (B3.out.mono (show w.heap.size ≤ w1.heap.size by omega))
                    have G2 : Hid (w3.heap[w.heap.size]? = some (.cells (ec (tx x.p) x.k x.m (tx x.b)) 34)) := (B3.out.block w.heap.size (show w.heap.size < w1.heap.size by omega)).trans G1.out
                    clear hHeld d0 d1 d2 d3 q0 q1 q2 q3 KL
                    go_wp2_with fail
                    go_loopg [6] j (fun g i wr => ∃ (k : Nat), k ≤ j ∧ g = j - k ∧ i = .int .i64 k ∧ Hid (anyIn (l.take k) x = false) ∧ Hid (Below w.heap.size w wr) ∧ Hid (wr.heap[w.heap.size]? = some (.cells (ec (tx x.p) x.k x.m (tx x.b)) 34)))
                    case atStart => exact ⟨0, Nat.zero_le _, rfl, rfl, (by show anyIn (l.take 0) x = false; simp [anyIn]), (by first | exact B2.out | exact B2.out.drew), G2⟩
                    case round =>
                      obtain ⟨k, hkj, rfl, rfl, HA, HW3, HG3⟩ := hrel
                      by_cases hlk : k < j
                      · have k1 : (k : Int) < (j : Int) := by omega
                        have k2 : (k : Int) < (n : Int) := by omega
                        obtain ⟨y, hy⟩ : ∃ y, l[k]? = some y := ⟨l[k]'(by rw [HN.out]; omega), List.getElem?_eq_getElem _⟩
                        have hyf := HF.out y (List.mem_of_getElem? hy)
                        have hry : Ec w b (off + k * 4) y := by
                          obtain ⟨b', off', e, _, h⟩ := HL.out.at hy
                          cases e
                          exact h
                        obtain ⟨q0, q1, q2, q3⟩ := hry.below HW3.out hbw
                        obtain ⟨f0, f1, f2, f3⟩ := ec_cells HG3.out
                        have KN : Hid (∀ w, Calls Tryd.prog 53 #[.string (tx y.p), .string (tx x.p)] w fun e w' => e = .returned (.bool (inn y.p x.p)) ∧ Below w.heap.size w w') := rin_is y.p x.p (by omega) (by omega)
                        have HAS : Hid (anyIn (l.take (k + 1)) x = (anyIn (l.take k) x || (shutB y && inn y.p x.p))) := anyIn_take hy
                        have HAO : Hid ((shutB y && inn y.p x.p) = true → anyIn (l.take j) x = true) := anyIn_of hy hlk
                        have hsh : shutB y = (decide (y.k = 1) || decide (y.k = 3)) := rfl
                        have hsz3 := HW3.out.size
                        have hlt3 : w.heap.size < wr.heap.size := (Array.getElem?_eq_some_iff.1 HG3.out).1
                        clear hy hry hyf
                        by_cases hs : shutB y = true
                        · have hor : y.k = 1 ∨ (¬ y.k = 1 ∧ y.k = 3) := by
                            by_cases h1 : y.k = 1
                            · exact .inl h1
                            · right; refine ⟨h1, ?_⟩
                              rw [hs] at hsh
                              simpa [h1] using hsh.symm
                          have HS2 : Hid (shutB y = true) := hs
                          clear hs hsh
                          cases hin : inn y.p x.p with
                          | true =>
                            rw [hin] at KN
                            have HR : Hid (r = 11) := by
                              show _ = _
                              rw [HW2.out, if_neg HNL.out, if_pos (HAO.out (by rw [HS2.out, hin]; rfl))]
                            rcases hor with hk1 | ⟨hk1, hk3⟩
                            · rw [hk1] at q1
                              go_wp2_with fail
                              refine wp_region_noPanic ?_
                              refine wp_region_held_drew (S := (fun W : World => W.cell? ⟨b, off + k * 4, none⟩ = some (.string (tx y.p)) ∧ W.cell? ⟨b, off + k * 4 + 1, none⟩ = some (.int .i64 1) ∧ W.cell? ⟨w.heap.size, 0, none⟩ = some (.string (tx x.p)))) (by kernel_rfl) ?hSar5 (fun hHeld => ?restar5)
                              case hSar5 => exact ⟨q0, q1, f0⟩
                              case restar5 =>
                              refine wpAnyH_take (i := 0) (v := ?v0r5) rfl (by kernel_rfl) (by kernel_rfl) (by kernel_rfl) (fun _ _ _ h => h) (Or.inl ⟨by rfl, ?hy0r5⟩) hHeld ?rest0r5
                              case hy0r5 => (intro w hSw; (try dsimp only at hSw); go_simp; try with_reducible rfl)
                              try simp only [Act.put, List.setIfInBounds_toArray, List.set_cons_zero, List.set_cons_succ, List.getElem_toArray, List.getElem_cons_zero]
                              refine wpAnyH_take (i := 1) (v := ?v1r5) rfl (by kernel_rfl) (by kernel_rfl) (by kernel_rfl) (fun _ _ _ h => h) (Or.inl ⟨by rfl, ?hy1r5⟩) hHeld ?rest1r5
                              case hy1r5 => (intro w hSw; (try dsimp only at hSw); go_simp; try with_reducible rfl)
                              try simp only [Act.put, List.setIfInBounds_toArray, List.set_cons_zero, List.set_cons_succ, List.getElem_toArray, List.getElem_cons_zero, List.getElem_cons_succ]
                              refine wpAnyH_take (i := 2) (v := ?v2r5) rfl (by kernel_rfl) (by kernel_rfl) (by kernel_rfl) (fun _ _ _ h => h) (Or.inl ⟨by rfl, ?hy2r5⟩) hHeld ?rest2r5
                              case hy2r5 => (intro w hSw; (try dsimp only at hSw); go_simp; try with_reducible rfl)
                              try simp only [Act.put, List.setIfInBounds_toArray, List.set_cons_zero, List.set_cons_succ, List.getElem_toArray, List.getElem_cons_zero, List.getElem_cons_succ]
                              refine wpAnyH_take (i := 3) (v := ?v3r5) rfl (by kernel_rfl) (by kernel_rfl) (by kernel_rfl) (fun _ _ _ h => h) (Or.inl ⟨by rfl, ?hy3r5⟩) hHeld ?rest3r5
                              case hy3r5 => (intro w hSw; (try dsimp only at hSw); go_simp; try with_reducible rfl)
                              try simp only [Act.put, List.setIfInBounds_toArray, List.set_cons_zero, List.set_cons_succ, List.getElem_toArray, List.getElem_cons_zero, List.getElem_cons_succ]
                              refine wpAnyH_take (i := 4) (v := ?v4r5) rfl (by kernel_rfl) (by kernel_rfl) (by kernel_rfl) (fun _ _ _ h => h) (Or.inl ⟨by rfl, ?hy4r5⟩) hHeld ?rest4r5
                              case hy4r5 => (intro w hSw; (try dsimp only at hSw); go_simp; try with_reducible rfl)
                              try simp only [Act.put, List.setIfInBounds_toArray, List.set_cons_zero, List.set_cons_succ, List.getElem_toArray, List.getElem_cons_zero, List.getElem_cons_succ]
                              refine wpAnyH_take (i := 5) (v := ?v5r5) rfl (by kernel_rfl) (by kernel_rfl) (by kernel_rfl) (fun _ _ _ h => h) (Or.inl ⟨by rfl, ?hy5r5⟩) hHeld ?rest5r5
                              case hy5r5 => (intro w hSw; (try dsimp only at hSw); go_simp; try with_reducible rfl)
                              try simp only [Act.put, List.setIfInBounds_toArray, List.set_cons_zero, List.set_cons_succ, List.getElem_toArray, List.getElem_cons_zero, List.getElem_cons_succ]
                              refine wpAnyH_take (i := 6) (v := ?v6r5) rfl (by kernel_rfl) (by kernel_rfl) (by kernel_rfl) (fun _ _ _ h => h) (Or.inl ⟨by rfl, ?hy6r5⟩) hHeld ?rest6r5
                              case hy6r5 => (intro w hSw; (try dsimp only at hSw); go_simp; try with_reducible rfl)
                              try simp only [Act.put, List.setIfInBounds_toArray, List.set_cons_zero, List.set_cons_succ, List.getElem_toArray, List.getElem_cons_zero, List.getElem_cons_succ]
                              refine wpAnyH_take (i := 7) (v := undef) rfl (by kernel_rfl) (by kernel_rfl) (by kernel_rfl) (fun _ _ _ h => h) (Or.inr ⟨by rfl, rfl⟩) hHeld ?rest7r5
                              case rest7r5 =>
                              try simp only [Act.put, List.setIfInBounds_toArray, List.set_cons_zero, List.set_cons_succ, List.getElem_toArray, List.getElem_cons_zero, List.getElem_cons_succ]
                              refine wpAnyH_take (i := 8) (v := undef) rfl (by kernel_rfl) (by kernel_rfl) (by kernel_rfl) (fun _ _ _ h => h) (Or.inr ⟨by rfl, rfl⟩) hHeld ?rest8r5
                              case rest8r5 =>
                              try simp only [Act.put, List.setIfInBounds_toArray, List.set_cons_zero, List.set_cons_succ, List.getElem_toArray, List.getElem_cons_zero, List.getElem_cons_succ]
                              refine wpAnyH_take (i := 9) (v := undef) rfl (by kernel_rfl) (by kernel_rfl) (by kernel_rfl) (fun _ _ _ h => h) (Or.inr ⟨by rfl, rfl⟩) hHeld ?rest9r5
                              case rest9r5 =>
                              try simp only [Act.put, List.setIfInBounds_toArray, List.set_cons_zero, List.set_cons_succ, List.getElem_toArray, List.getElem_cons_zero, List.getElem_cons_succ]
                              refine wpAnyH_take (i := 10) (v := undef) rfl (by kernel_rfl) (by kernel_rfl) (by kernel_rfl) (fun _ _ _ h => h) (Or.inr ⟨by rfl, rfl⟩) hHeld ?rest10r5
                              case rest10r5 =>
                              try simp only [Act.put, List.setIfInBounds_toArray, List.set_cons_zero, List.set_cons_succ, List.getElem_toArray, List.getElem_cons_zero, List.getElem_cons_succ]
                              refine wpAnyH_take (i := 11) (v := undef) rfl (by kernel_rfl) (by kernel_rfl) (by kernel_rfl) (fun _ _ _ h => h) (Or.inr ⟨by rfl, rfl⟩) hHeld ?rest11r5
                              case rest11r5 =>
                              try simp only [Act.put, List.setIfInBounds_toArray, List.set_cons_zero, List.set_cons_succ, List.getElem_toArray, List.getElem_cons_zero, List.getElem_cons_succ]
                              refine wpAnyH_take (i := 12) (v := undef) rfl (by kernel_rfl) (by kernel_rfl) (by kernel_rfl) (fun _ _ _ h => h) (Or.inr ⟨by rfl, rfl⟩) hHeld ?rest12r5
                              case rest12r5 =>
                              try simp only [Act.put, List.setIfInBounds_toArray, List.set_cons_zero, List.set_cons_succ, List.getElem_toArray, List.getElem_cons_zero, List.getElem_cons_succ]
                              refine wpAnyH_take (i := 13) (v := ?v13r5) rfl (by kernel_rfl) (by kernel_rfl) (by kernel_rfl) (fun _ _ _ h => h) (Or.inl ⟨by rfl, ?hy13r5⟩) hHeld ?rest13r5
                              case hy13r5 => (intro w hSw; (try dsimp only at hSw); go_simp; try with_reducible rfl)
                              try simp only [Act.put, List.setIfInBounds_toArray, List.set_cons_zero, List.set_cons_succ, List.getElem_toArray, List.getElem_cons_zero, List.getElem_cons_succ]
                              refine wpAnyH_take (i := 14) (v := ?v14r5) rfl (by kernel_rfl) (by kernel_rfl) (by kernel_rfl) (fun _ _ _ h => h) (Or.inl ⟨by rfl, ?hy14r5⟩) hHeld ?rest14r5
                              case hy14r5 => (intro w hSw; (try dsimp only at hSw); go_simp; try with_reducible rfl)
                              try simp only [Act.put, List.setIfInBounds_toArray, List.set_cons_zero, List.set_cons_succ, List.getElem_toArray, List.getElem_cons_zero, List.getElem_cons_succ]
                              refine wpAnyH_take (i := 15) (v := ?v15r5) rfl (by kernel_rfl) (by kernel_rfl) (by kernel_rfl) (fun _ _ _ h => h) (Or.inl ⟨by rfl, ?hy15r5⟩) hHeld ?rest15r5
                              case hy15r5 => (intro w hSw; (try dsimp only at hSw); go_simp; try with_reducible rfl)
                              try simp only [Act.put, List.setIfInBounds_toArray, List.set_cons_zero, List.set_cons_succ, List.getElem_toArray, List.getElem_cons_zero, List.getElem_cons_succ]
                              refine wpAnyH_take (i := 16) (v := ?v16r5) rfl (by kernel_rfl) (by kernel_rfl) (by kernel_rfl) (fun _ _ _ h => h) (Or.inl ⟨by rfl, ?hy16r5⟩) hHeld ?rest16r5
                              case hy16r5 => (intro w hSw; (try dsimp only at hSw); go_simp; try with_reducible rfl)
                              try simp only [Act.put, List.setIfInBounds_toArray, List.set_cons_zero, List.set_cons_succ, List.getElem_toArray, List.getElem_cons_zero, List.getElem_cons_succ]
                              refine wpAnyH_take (i := 17) (v := ?v17r5) rfl (by kernel_rfl) (by kernel_rfl) (by kernel_rfl) (fun _ _ _ h => h) (Or.inl ⟨by rfl, ?hy17r5⟩) hHeld ?rest17r5
                              case hy17r5 => (intro w hSw; (try dsimp only at hSw); go_simp; try with_reducible rfl)
                              try simp only [Act.put, List.setIfInBounds_toArray, List.set_cons_zero, List.set_cons_succ, List.getElem_toArray, List.getElem_cons_zero, List.getElem_cons_succ]
                              refine wpAnyH_take (i := 18) (v := ?v18r5) rfl (by kernel_rfl) (by kernel_rfl) (by kernel_rfl) (fun _ _ _ h => h) (Or.inl ⟨by rfl, ?hy18r5⟩) hHeld ?rest18r5
                              case hy18r5 => (intro w hSw; (try dsimp only at hSw); go_simp; try with_reducible rfl)
                              try simp only [Act.put, List.setIfInBounds_toArray, List.set_cons_zero, List.set_cons_succ, List.getElem_toArray, List.getElem_cons_zero, List.getElem_cons_succ]
                              refine wpAnyH_take (i := 19) (v := ?v19r5) rfl (by kernel_rfl) (by kernel_rfl) (by kernel_rfl) (fun _ _ _ h => h) (Or.inl ⟨by rfl, ?hy19r5⟩) hHeld ?rest19r5
                              case hy19r5 => (intro w hSw; (try dsimp only at hSw); go_simp; try with_reducible rfl)
                              try simp only [Act.put, List.setIfInBounds_toArray, List.set_cons_zero, List.set_cons_succ, List.getElem_toArray, List.getElem_cons_zero, List.getElem_cons_succ]
                              refine wpAnyH_take (i := 20) (v := ?v20r5) rfl (by kernel_rfl) (by kernel_rfl) (by kernel_rfl) (fun _ _ _ h => h) (Or.inl ⟨by rfl, ?hy20r5⟩) hHeld ?rest20r5
                              case hy20r5 => (intro w hSw; (try dsimp only at hSw); go_simp; try with_reducible rfl)
                              try simp only [Act.put, List.setIfInBounds_toArray, List.set_cons_zero, List.set_cons_succ, List.getElem_toArray, List.getElem_cons_zero, List.getElem_cons_succ]
                              refine wpAnyH_take (i := 21) (v := ?v21r5) rfl (by kernel_rfl) (by kernel_rfl) (by kernel_rfl) (fun _ _ _ h => h) (Or.inl ⟨by rfl, ?hy21r5⟩) hHeld ?rest21r5
                              case hy21r5 => (intro w hSw; (try dsimp only at hSw); go_simp; try with_reducible rfl)
                              try simp only [Act.put, List.setIfInBounds_toArray, List.set_cons_zero, List.set_cons_succ, List.getElem_toArray, List.getElem_cons_zero, List.getElem_cons_succ]
                              refine wpAnyH_ready (rs := [22]) (by kernel_rfl) (by simp) ?_
                              refine AllReadyH.cons rfl (fun K hK => ?_) AllReadyH.nil
                              go_simp; refine (KN.out _).mono ?_; rintro e w5 ⟨rfl, hb5⟩; have B5 : Hid (Below wr.drew.heap.size wr.drew w5) := hb5; clear hb5; go_wp2_with fail
                              refine hK.out _ _ ?hS22r5 (fun hHeld => ?rest22r5)
                              case hS22r5 => exact ⟨(B5.out.cell (p := ⟨b, off + k * 4, none⟩) (show b < wr.heap.size by omega)).trans q0, (B5.out.cell (p := ⟨b, off + k * 4 + 1, none⟩) (show b < wr.heap.size by omega)).trans q1, (B5.out.cell (p := ⟨w.heap.size, 0, none⟩) (show w.heap.size < wr.heap.size by omega)).trans f0⟩
                              clear hK K
                              try simp only [Act.put, List.setIfInBounds_toArray, List.set_cons_zero, List.set_cons_succ, List.getElem_toArray, List.getElem_cons_zero, List.getElem_cons_succ]
                              refine wpAnyH_take (i := 23) (v := ?v23r5) rfl (by kernel_rfl) (by kernel_rfl) (by kernel_rfl) (fun _ _ _ h => h) (Or.inl ⟨by rfl, ?hy23r5⟩) hHeld ?rest23r5
                              case hy23r5 => (intro w hSw; (try dsimp only at hSw); go_simp; try with_reducible rfl)
                              try simp only [Act.put, List.setIfInBounds_toArray, List.set_cons_zero, List.set_cons_succ, List.getElem_toArray, List.getElem_cons_zero, List.getElem_cons_succ]
                              refine wpAnyH_done (by kernel_rfl) ?_ _
                              refine NoPanic.normal ?_
                              have B6 : Hid (Below w.heap.size w w5) := (HW3.out.drew).trans (B5.out.mono (show w.heap.size ≤ wr.heap.size by omega))
                              clear hHeld
                              go_wp2_with fail
                              go_ret
                              refine ⟨?_, by first | exact B6.out | exact B6.out.drew⟩
                              rw [HR.out]
                              rfl
                            · rw [hk3] at q1
                              go_wp2_with fail
                              refine wp_region_noPanic ?_
                              refine wp_region_held_drew (S := (fun W : World => W.cell? ⟨b, off + k * 4, none⟩ = some (.string (tx y.p)) ∧ W.cell? ⟨b, off + k * 4 + 1, none⟩ = some (.int .i64 3) ∧ W.cell? ⟨w.heap.size, 0, none⟩ = some (.string (tx x.p)))) (by kernel_rfl) ?hSar6 (fun hHeld => ?restar6)
                              case hSar6 => exact ⟨q0, q1, f0⟩
                              case restar6 =>
                              refine wpAnyH_take (i := 0) (v := ?v0r6) rfl (by kernel_rfl) (by kernel_rfl) (by kernel_rfl) (fun _ _ _ h => h) (Or.inl ⟨by rfl, ?hy0r6⟩) hHeld ?rest0r6
                              case hy0r6 => (intro w hSw; (try dsimp only at hSw); go_simp; try with_reducible rfl)
                              try simp only [Act.put, List.setIfInBounds_toArray, List.set_cons_zero, List.set_cons_succ, List.getElem_toArray, List.getElem_cons_zero]
                              refine wpAnyH_take (i := 1) (v := ?v1r6) rfl (by kernel_rfl) (by kernel_rfl) (by kernel_rfl) (fun _ _ _ h => h) (Or.inl ⟨by rfl, ?hy1r6⟩) hHeld ?rest1r6
                              case hy1r6 => (intro w hSw; (try dsimp only at hSw); go_simp; try with_reducible rfl)
                              try simp only [Act.put, List.setIfInBounds_toArray, List.set_cons_zero, List.set_cons_succ, List.getElem_toArray, List.getElem_cons_zero, List.getElem_cons_succ]
                              refine wpAnyH_take (i := 2) (v := ?v2r6) rfl (by kernel_rfl) (by kernel_rfl) (by kernel_rfl) (fun _ _ _ h => h) (Or.inl ⟨by rfl, ?hy2r6⟩) hHeld ?rest2r6
                              case hy2r6 => (intro w hSw; (try dsimp only at hSw); go_simp; try with_reducible rfl)
                              try simp only [Act.put, List.setIfInBounds_toArray, List.set_cons_zero, List.set_cons_succ, List.getElem_toArray, List.getElem_cons_zero, List.getElem_cons_succ]
                              refine wpAnyH_take (i := 3) (v := ?v3r6) rfl (by kernel_rfl) (by kernel_rfl) (by kernel_rfl) (fun _ _ _ h => h) (Or.inl ⟨by rfl, ?hy3r6⟩) hHeld ?rest3r6
                              case hy3r6 => (intro w hSw; (try dsimp only at hSw); go_simp; try with_reducible rfl)
                              try simp only [Act.put, List.setIfInBounds_toArray, List.set_cons_zero, List.set_cons_succ, List.getElem_toArray, List.getElem_cons_zero, List.getElem_cons_succ]
                              refine wpAnyH_take (i := 4) (v := ?v4r6) rfl (by kernel_rfl) (by kernel_rfl) (by kernel_rfl) (fun _ _ _ h => h) (Or.inl ⟨by rfl, ?hy4r6⟩) hHeld ?rest4r6
                              case hy4r6 => (intro w hSw; (try dsimp only at hSw); go_simp; try with_reducible rfl)
                              try simp only [Act.put, List.setIfInBounds_toArray, List.set_cons_zero, List.set_cons_succ, List.getElem_toArray, List.getElem_cons_zero, List.getElem_cons_succ]
                              refine wpAnyH_take (i := 5) (v := ?v5r6) rfl (by kernel_rfl) (by kernel_rfl) (by kernel_rfl) (fun _ _ _ h => h) (Or.inl ⟨by rfl, ?hy5r6⟩) hHeld ?rest5r6
                              case hy5r6 => (intro w hSw; (try dsimp only at hSw); go_simp; try with_reducible rfl)
                              try simp only [Act.put, List.setIfInBounds_toArray, List.set_cons_zero, List.set_cons_succ, List.getElem_toArray, List.getElem_cons_zero, List.getElem_cons_succ]
                              refine wpAnyH_take (i := 6) (v := ?v6r6) rfl (by kernel_rfl) (by kernel_rfl) (by kernel_rfl) (fun _ _ _ h => h) (Or.inl ⟨by rfl, ?hy6r6⟩) hHeld ?rest6r6
                              case hy6r6 => (intro w hSw; (try dsimp only at hSw); go_simp; try with_reducible rfl)
                              try simp only [Act.put, List.setIfInBounds_toArray, List.set_cons_zero, List.set_cons_succ, List.getElem_toArray, List.getElem_cons_zero, List.getElem_cons_succ]
                              refine wpAnyH_take (i := 7) (v := ?v7r6) rfl (by kernel_rfl) (by kernel_rfl) (by kernel_rfl) (fun _ _ _ h => h) (Or.inl ⟨by rfl, ?hy7r6⟩) hHeld ?rest7r6
                              case hy7r6 => (intro w hSw; (try dsimp only at hSw); go_simp; try with_reducible rfl)
                              try simp only [Act.put, List.setIfInBounds_toArray, List.set_cons_zero, List.set_cons_succ, List.getElem_toArray, List.getElem_cons_zero, List.getElem_cons_succ]
                              refine wpAnyH_take (i := 8) (v := ?v8r6) rfl (by kernel_rfl) (by kernel_rfl) (by kernel_rfl) (fun _ _ _ h => h) (Or.inl ⟨by rfl, ?hy8r6⟩) hHeld ?rest8r6
                              case hy8r6 => (intro w hSw; (try dsimp only at hSw); go_simp; try with_reducible rfl)
                              try simp only [Act.put, List.setIfInBounds_toArray, List.set_cons_zero, List.set_cons_succ, List.getElem_toArray, List.getElem_cons_zero, List.getElem_cons_succ]
                              refine wpAnyH_take (i := 9) (v := ?v9r6) rfl (by kernel_rfl) (by kernel_rfl) (by kernel_rfl) (fun _ _ _ h => h) (Or.inl ⟨by rfl, ?hy9r6⟩) hHeld ?rest9r6
                              case hy9r6 => (intro w hSw; (try dsimp only at hSw); go_simp; try with_reducible rfl)
                              try simp only [Act.put, List.setIfInBounds_toArray, List.set_cons_zero, List.set_cons_succ, List.getElem_toArray, List.getElem_cons_zero, List.getElem_cons_succ]
                              refine wpAnyH_take (i := 10) (v := ?v10r6) rfl (by kernel_rfl) (by kernel_rfl) (by kernel_rfl) (fun _ _ _ h => h) (Or.inl ⟨by rfl, ?hy10r6⟩) hHeld ?rest10r6
                              case hy10r6 => (intro w hSw; (try dsimp only at hSw); go_simp; try with_reducible rfl)
                              try simp only [Act.put, List.setIfInBounds_toArray, List.set_cons_zero, List.set_cons_succ, List.getElem_toArray, List.getElem_cons_zero, List.getElem_cons_succ]
                              refine wpAnyH_take (i := 11) (v := ?v11r6) rfl (by kernel_rfl) (by kernel_rfl) (by kernel_rfl) (fun _ _ _ h => h) (Or.inl ⟨by rfl, ?hy11r6⟩) hHeld ?rest11r6
                              case hy11r6 => (intro w hSw; (try dsimp only at hSw); go_simp; try with_reducible rfl)
                              try simp only [Act.put, List.setIfInBounds_toArray, List.set_cons_zero, List.set_cons_succ, List.getElem_toArray, List.getElem_cons_zero, List.getElem_cons_succ]
                              refine wpAnyH_take (i := 12) (v := ?v12r6) rfl (by kernel_rfl) (by kernel_rfl) (by kernel_rfl) (fun _ _ _ h => h) (Or.inl ⟨by rfl, ?hy12r6⟩) hHeld ?rest12r6
                              case hy12r6 => (intro w hSw; (try dsimp only at hSw); go_simp; try with_reducible rfl)
                              try simp only [Act.put, List.setIfInBounds_toArray, List.set_cons_zero, List.set_cons_succ, List.getElem_toArray, List.getElem_cons_zero, List.getElem_cons_succ]
                              refine wpAnyH_take (i := 13) (v := ?v13r6) rfl (by kernel_rfl) (by kernel_rfl) (by kernel_rfl) (fun _ _ _ h => h) (Or.inl ⟨by rfl, ?hy13r6⟩) hHeld ?rest13r6
                              case hy13r6 => (intro w hSw; (try dsimp only at hSw); go_simp; try with_reducible rfl)
                              try simp only [Act.put, List.setIfInBounds_toArray, List.set_cons_zero, List.set_cons_succ, List.getElem_toArray, List.getElem_cons_zero, List.getElem_cons_succ]
                              refine wpAnyH_take (i := 14) (v := ?v14r6) rfl (by kernel_rfl) (by kernel_rfl) (by kernel_rfl) (fun _ _ _ h => h) (Or.inl ⟨by rfl, ?hy14r6⟩) hHeld ?rest14r6
                              case hy14r6 => (intro w hSw; (try dsimp only at hSw); go_simp; try with_reducible rfl)
                              try simp only [Act.put, List.setIfInBounds_toArray, List.set_cons_zero, List.set_cons_succ, List.getElem_toArray, List.getElem_cons_zero, List.getElem_cons_succ]
                              refine wpAnyH_take (i := 15) (v := ?v15r6) rfl (by kernel_rfl) (by kernel_rfl) (by kernel_rfl) (fun _ _ _ h => h) (Or.inl ⟨by rfl, ?hy15r6⟩) hHeld ?rest15r6
                              case hy15r6 => (intro w hSw; (try dsimp only at hSw); go_simp; try with_reducible rfl)
                              try simp only [Act.put, List.setIfInBounds_toArray, List.set_cons_zero, List.set_cons_succ, List.getElem_toArray, List.getElem_cons_zero, List.getElem_cons_succ]
                              refine wpAnyH_take (i := 16) (v := ?v16r6) rfl (by kernel_rfl) (by kernel_rfl) (by kernel_rfl) (fun _ _ _ h => h) (Or.inl ⟨by rfl, ?hy16r6⟩) hHeld ?rest16r6
                              case hy16r6 => (intro w hSw; (try dsimp only at hSw); go_simp; try with_reducible rfl)
                              try simp only [Act.put, List.setIfInBounds_toArray, List.set_cons_zero, List.set_cons_succ, List.getElem_toArray, List.getElem_cons_zero, List.getElem_cons_succ]
                              refine wpAnyH_take (i := 17) (v := ?v17r6) rfl (by kernel_rfl) (by kernel_rfl) (by kernel_rfl) (fun _ _ _ h => h) (Or.inl ⟨by rfl, ?hy17r6⟩) hHeld ?rest17r6
                              case hy17r6 => (intro w hSw; (try dsimp only at hSw); go_simp; try with_reducible rfl)
                              try simp only [Act.put, List.setIfInBounds_toArray, List.set_cons_zero, List.set_cons_succ, List.getElem_toArray, List.getElem_cons_zero, List.getElem_cons_succ]
                              refine wpAnyH_take (i := 18) (v := ?v18r6) rfl (by kernel_rfl) (by kernel_rfl) (by kernel_rfl) (fun _ _ _ h => h) (Or.inl ⟨by rfl, ?hy18r6⟩) hHeld ?rest18r6
                              case hy18r6 => (intro w hSw; (try dsimp only at hSw); go_simp; try with_reducible rfl)
                              try simp only [Act.put, List.setIfInBounds_toArray, List.set_cons_zero, List.set_cons_succ, List.getElem_toArray, List.getElem_cons_zero, List.getElem_cons_succ]
                              refine wpAnyH_take (i := 19) (v := ?v19r6) rfl (by kernel_rfl) (by kernel_rfl) (by kernel_rfl) (fun _ _ _ h => h) (Or.inl ⟨by rfl, ?hy19r6⟩) hHeld ?rest19r6
                              case hy19r6 => (intro w hSw; (try dsimp only at hSw); go_simp; try with_reducible rfl)
                              try simp only [Act.put, List.setIfInBounds_toArray, List.set_cons_zero, List.set_cons_succ, List.getElem_toArray, List.getElem_cons_zero, List.getElem_cons_succ]
                              refine wpAnyH_take (i := 20) (v := ?v20r6) rfl (by kernel_rfl) (by kernel_rfl) (by kernel_rfl) (fun _ _ _ h => h) (Or.inl ⟨by rfl, ?hy20r6⟩) hHeld ?rest20r6
                              case hy20r6 => (intro w hSw; (try dsimp only at hSw); go_simp; try with_reducible rfl)
                              try simp only [Act.put, List.setIfInBounds_toArray, List.set_cons_zero, List.set_cons_succ, List.getElem_toArray, List.getElem_cons_zero, List.getElem_cons_succ]
                              refine wpAnyH_take (i := 21) (v := ?v21r6) rfl (by kernel_rfl) (by kernel_rfl) (by kernel_rfl) (fun _ _ _ h => h) (Or.inl ⟨by rfl, ?hy21r6⟩) hHeld ?rest21r6
                              case hy21r6 => (intro w hSw; (try dsimp only at hSw); go_simp; try with_reducible rfl)
                              try simp only [Act.put, List.setIfInBounds_toArray, List.set_cons_zero, List.set_cons_succ, List.getElem_toArray, List.getElem_cons_zero, List.getElem_cons_succ]
                              refine wpAnyH_ready (rs := [22]) (by kernel_rfl) (by simp) ?_
                              refine AllReadyH.cons rfl (fun K hK => ?_) AllReadyH.nil
                              go_simp; refine (KN.out _).mono ?_; rintro e w5 ⟨rfl, hb5⟩; have B5 : Hid (Below wr.drew.heap.size wr.drew w5) := hb5; clear hb5; go_wp2_with fail
                              refine hK.out _ _ ?hS22r6 (fun hHeld => ?rest22r6)
                              case hS22r6 => exact ⟨(B5.out.cell (p := ⟨b, off + k * 4, none⟩) (show b < wr.heap.size by omega)).trans q0, (B5.out.cell (p := ⟨b, off + k * 4 + 1, none⟩) (show b < wr.heap.size by omega)).trans q1, (B5.out.cell (p := ⟨w.heap.size, 0, none⟩) (show w.heap.size < wr.heap.size by omega)).trans f0⟩
                              clear hK K
                              try simp only [Act.put, List.setIfInBounds_toArray, List.set_cons_zero, List.set_cons_succ, List.getElem_toArray, List.getElem_cons_zero, List.getElem_cons_succ]
                              refine wpAnyH_take (i := 23) (v := ?v23r6) rfl (by kernel_rfl) (by kernel_rfl) (by kernel_rfl) (fun _ _ _ h => h) (Or.inl ⟨by rfl, ?hy23r6⟩) hHeld ?rest23r6
                              case hy23r6 => (intro w hSw; (try dsimp only at hSw); go_simp; try with_reducible rfl)
                              try simp only [Act.put, List.setIfInBounds_toArray, List.set_cons_zero, List.set_cons_succ, List.getElem_toArray, List.getElem_cons_zero, List.getElem_cons_succ]
                              refine wpAnyH_done (by kernel_rfl) ?_ _
                              refine NoPanic.normal ?_
                              have B6 : Hid (Below w.heap.size w w5) := (HW3.out.drew).trans (B5.out.mono (show w.heap.size ≤ wr.heap.size by omega))
                              clear hHeld
                              go_wp2_with fail
                              go_ret
                              refine ⟨?_, by first | exact B6.out | exact B6.out.drew⟩
                              rw [HR.out]
                              rfl
                          | false =>
                            rw [hin] at KN
                            have HA2 : Hid (anyIn (l.take (k + 1)) x = false) := by
                              show _ = _
                              rw [HAS.out, HA.out, hin, Bool.and_false]
                              rfl
                            rcases hor with hk1 | ⟨hk1, hk3⟩
                            · rw [hk1] at q1
                              go_wp2_with fail
                              refine wp_region_noPanic ?_
                              refine wp_region_held_drew (S := (fun W : World => W.cell? ⟨b, off + k * 4, none⟩ = some (.string (tx y.p)) ∧ W.cell? ⟨b, off + k * 4 + 1, none⟩ = some (.int .i64 1) ∧ W.cell? ⟨w.heap.size, 0, none⟩ = some (.string (tx x.p)))) (by kernel_rfl) ?hSar7 (fun hHeld => ?restar7)
                              case hSar7 => exact ⟨q0, q1, f0⟩
                              case restar7 =>
                              refine wpAnyH_take (i := 0) (v := ?v0r7) rfl (by kernel_rfl) (by kernel_rfl) (by kernel_rfl) (fun _ _ _ h => h) (Or.inl ⟨by rfl, ?hy0r7⟩) hHeld ?rest0r7
                              case hy0r7 => (intro w hSw; (try dsimp only at hSw); go_simp; try with_reducible rfl)
                              try simp only [Act.put, List.setIfInBounds_toArray, List.set_cons_zero, List.set_cons_succ, List.getElem_toArray, List.getElem_cons_zero]
                              refine wpAnyH_take (i := 1) (v := ?v1r7) rfl (by kernel_rfl) (by kernel_rfl) (by kernel_rfl) (fun _ _ _ h => h) (Or.inl ⟨by rfl, ?hy1r7⟩) hHeld ?rest1r7
                              case hy1r7 => (intro w hSw; (try dsimp only at hSw); go_simp; try with_reducible rfl)
                              try simp only [Act.put, List.setIfInBounds_toArray, List.set_cons_zero, List.set_cons_succ, List.getElem_toArray, List.getElem_cons_zero, List.getElem_cons_succ]
                              refine wpAnyH_take (i := 2) (v := ?v2r7) rfl (by kernel_rfl) (by kernel_rfl) (by kernel_rfl) (fun _ _ _ h => h) (Or.inl ⟨by rfl, ?hy2r7⟩) hHeld ?rest2r7
                              case hy2r7 => (intro w hSw; (try dsimp only at hSw); go_simp; try with_reducible rfl)
                              try simp only [Act.put, List.setIfInBounds_toArray, List.set_cons_zero, List.set_cons_succ, List.getElem_toArray, List.getElem_cons_zero, List.getElem_cons_succ]
                              refine wpAnyH_take (i := 3) (v := ?v3r7) rfl (by kernel_rfl) (by kernel_rfl) (by kernel_rfl) (fun _ _ _ h => h) (Or.inl ⟨by rfl, ?hy3r7⟩) hHeld ?rest3r7
                              case hy3r7 => (intro w hSw; (try dsimp only at hSw); go_simp; try with_reducible rfl)
                              try simp only [Act.put, List.setIfInBounds_toArray, List.set_cons_zero, List.set_cons_succ, List.getElem_toArray, List.getElem_cons_zero, List.getElem_cons_succ]
                              refine wpAnyH_take (i := 4) (v := ?v4r7) rfl (by kernel_rfl) (by kernel_rfl) (by kernel_rfl) (fun _ _ _ h => h) (Or.inl ⟨by rfl, ?hy4r7⟩) hHeld ?rest4r7
                              case hy4r7 => (intro w hSw; (try dsimp only at hSw); go_simp; try with_reducible rfl)
                              try simp only [Act.put, List.setIfInBounds_toArray, List.set_cons_zero, List.set_cons_succ, List.getElem_toArray, List.getElem_cons_zero, List.getElem_cons_succ]
                              refine wpAnyH_take (i := 5) (v := ?v5r7) rfl (by kernel_rfl) (by kernel_rfl) (by kernel_rfl) (fun _ _ _ h => h) (Or.inl ⟨by rfl, ?hy5r7⟩) hHeld ?rest5r7
                              case hy5r7 => (intro w hSw; (try dsimp only at hSw); go_simp; try with_reducible rfl)
                              try simp only [Act.put, List.setIfInBounds_toArray, List.set_cons_zero, List.set_cons_succ, List.getElem_toArray, List.getElem_cons_zero, List.getElem_cons_succ]
                              refine wpAnyH_take (i := 6) (v := ?v6r7) rfl (by kernel_rfl) (by kernel_rfl) (by kernel_rfl) (fun _ _ _ h => h) (Or.inl ⟨by rfl, ?hy6r7⟩) hHeld ?rest6r7
                              case hy6r7 => (intro w hSw; (try dsimp only at hSw); go_simp; try with_reducible rfl)
                              try simp only [Act.put, List.setIfInBounds_toArray, List.set_cons_zero, List.set_cons_succ, List.getElem_toArray, List.getElem_cons_zero, List.getElem_cons_succ]
                              refine wpAnyH_take (i := 7) (v := undef) rfl (by kernel_rfl) (by kernel_rfl) (by kernel_rfl) (fun _ _ _ h => h) (Or.inr ⟨by rfl, rfl⟩) hHeld ?rest7r7
                              case rest7r7 =>
                              try simp only [Act.put, List.setIfInBounds_toArray, List.set_cons_zero, List.set_cons_succ, List.getElem_toArray, List.getElem_cons_zero, List.getElem_cons_succ]
                              refine wpAnyH_take (i := 8) (v := undef) rfl (by kernel_rfl) (by kernel_rfl) (by kernel_rfl) (fun _ _ _ h => h) (Or.inr ⟨by rfl, rfl⟩) hHeld ?rest8r7
                              case rest8r7 =>
                              try simp only [Act.put, List.setIfInBounds_toArray, List.set_cons_zero, List.set_cons_succ, List.getElem_toArray, List.getElem_cons_zero, List.getElem_cons_succ]
                              refine wpAnyH_take (i := 9) (v := undef) rfl (by kernel_rfl) (by kernel_rfl) (by kernel_rfl) (fun _ _ _ h => h) (Or.inr ⟨by rfl, rfl⟩) hHeld ?rest9r7
                              case rest9r7 =>
                              try simp only [Act.put, List.setIfInBounds_toArray, List.set_cons_zero, List.set_cons_succ, List.getElem_toArray, List.getElem_cons_zero, List.getElem_cons_succ]
                              refine wpAnyH_take (i := 10) (v := undef) rfl (by kernel_rfl) (by kernel_rfl) (by kernel_rfl) (fun _ _ _ h => h) (Or.inr ⟨by rfl, rfl⟩) hHeld ?rest10r7
                              case rest10r7 =>
                              try simp only [Act.put, List.setIfInBounds_toArray, List.set_cons_zero, List.set_cons_succ, List.getElem_toArray, List.getElem_cons_zero, List.getElem_cons_succ]
                              refine wpAnyH_take (i := 11) (v := undef) rfl (by kernel_rfl) (by kernel_rfl) (by kernel_rfl) (fun _ _ _ h => h) (Or.inr ⟨by rfl, rfl⟩) hHeld ?rest11r7
                              case rest11r7 =>
                              try simp only [Act.put, List.setIfInBounds_toArray, List.set_cons_zero, List.set_cons_succ, List.getElem_toArray, List.getElem_cons_zero, List.getElem_cons_succ]
                              refine wpAnyH_take (i := 12) (v := undef) rfl (by kernel_rfl) (by kernel_rfl) (by kernel_rfl) (fun _ _ _ h => h) (Or.inr ⟨by rfl, rfl⟩) hHeld ?rest12r7
                              case rest12r7 =>
                              try simp only [Act.put, List.setIfInBounds_toArray, List.set_cons_zero, List.set_cons_succ, List.getElem_toArray, List.getElem_cons_zero, List.getElem_cons_succ]
                              refine wpAnyH_take (i := 13) (v := ?v13r7) rfl (by kernel_rfl) (by kernel_rfl) (by kernel_rfl) (fun _ _ _ h => h) (Or.inl ⟨by rfl, ?hy13r7⟩) hHeld ?rest13r7
                              case hy13r7 => (intro w hSw; (try dsimp only at hSw); go_simp; try with_reducible rfl)
                              try simp only [Act.put, List.setIfInBounds_toArray, List.set_cons_zero, List.set_cons_succ, List.getElem_toArray, List.getElem_cons_zero, List.getElem_cons_succ]
                              refine wpAnyH_take (i := 14) (v := ?v14r7) rfl (by kernel_rfl) (by kernel_rfl) (by kernel_rfl) (fun _ _ _ h => h) (Or.inl ⟨by rfl, ?hy14r7⟩) hHeld ?rest14r7
                              case hy14r7 => (intro w hSw; (try dsimp only at hSw); go_simp; try with_reducible rfl)
                              try simp only [Act.put, List.setIfInBounds_toArray, List.set_cons_zero, List.set_cons_succ, List.getElem_toArray, List.getElem_cons_zero, List.getElem_cons_succ]
                              refine wpAnyH_take (i := 15) (v := ?v15r7) rfl (by kernel_rfl) (by kernel_rfl) (by kernel_rfl) (fun _ _ _ h => h) (Or.inl ⟨by rfl, ?hy15r7⟩) hHeld ?rest15r7
                              case hy15r7 => (intro w hSw; (try dsimp only at hSw); go_simp; try with_reducible rfl)
                              try simp only [Act.put, List.setIfInBounds_toArray, List.set_cons_zero, List.set_cons_succ, List.getElem_toArray, List.getElem_cons_zero, List.getElem_cons_succ]
                              refine wpAnyH_take (i := 16) (v := ?v16r7) rfl (by kernel_rfl) (by kernel_rfl) (by kernel_rfl) (fun _ _ _ h => h) (Or.inl ⟨by rfl, ?hy16r7⟩) hHeld ?rest16r7
                              case hy16r7 => (intro w hSw; (try dsimp only at hSw); go_simp; try with_reducible rfl)
                              try simp only [Act.put, List.setIfInBounds_toArray, List.set_cons_zero, List.set_cons_succ, List.getElem_toArray, List.getElem_cons_zero, List.getElem_cons_succ]
                              refine wpAnyH_take (i := 17) (v := ?v17r7) rfl (by kernel_rfl) (by kernel_rfl) (by kernel_rfl) (fun _ _ _ h => h) (Or.inl ⟨by rfl, ?hy17r7⟩) hHeld ?rest17r7
                              case hy17r7 => (intro w hSw; (try dsimp only at hSw); go_simp; try with_reducible rfl)
                              try simp only [Act.put, List.setIfInBounds_toArray, List.set_cons_zero, List.set_cons_succ, List.getElem_toArray, List.getElem_cons_zero, List.getElem_cons_succ]
                              refine wpAnyH_take (i := 18) (v := ?v18r7) rfl (by kernel_rfl) (by kernel_rfl) (by kernel_rfl) (fun _ _ _ h => h) (Or.inl ⟨by rfl, ?hy18r7⟩) hHeld ?rest18r7
                              case hy18r7 => (intro w hSw; (try dsimp only at hSw); go_simp; try with_reducible rfl)
                              try simp only [Act.put, List.setIfInBounds_toArray, List.set_cons_zero, List.set_cons_succ, List.getElem_toArray, List.getElem_cons_zero, List.getElem_cons_succ]
                              refine wpAnyH_take (i := 19) (v := ?v19r7) rfl (by kernel_rfl) (by kernel_rfl) (by kernel_rfl) (fun _ _ _ h => h) (Or.inl ⟨by rfl, ?hy19r7⟩) hHeld ?rest19r7
                              case hy19r7 => (intro w hSw; (try dsimp only at hSw); go_simp; try with_reducible rfl)
                              try simp only [Act.put, List.setIfInBounds_toArray, List.set_cons_zero, List.set_cons_succ, List.getElem_toArray, List.getElem_cons_zero, List.getElem_cons_succ]
                              refine wpAnyH_take (i := 20) (v := ?v20r7) rfl (by kernel_rfl) (by kernel_rfl) (by kernel_rfl) (fun _ _ _ h => h) (Or.inl ⟨by rfl, ?hy20r7⟩) hHeld ?rest20r7
                              case hy20r7 => (intro w hSw; (try dsimp only at hSw); go_simp; try with_reducible rfl)
                              try simp only [Act.put, List.setIfInBounds_toArray, List.set_cons_zero, List.set_cons_succ, List.getElem_toArray, List.getElem_cons_zero, List.getElem_cons_succ]
                              refine wpAnyH_take (i := 21) (v := ?v21r7) rfl (by kernel_rfl) (by kernel_rfl) (by kernel_rfl) (fun _ _ _ h => h) (Or.inl ⟨by rfl, ?hy21r7⟩) hHeld ?rest21r7
                              case hy21r7 => (intro w hSw; (try dsimp only at hSw); go_simp; try with_reducible rfl)
                              try simp only [Act.put, List.setIfInBounds_toArray, List.set_cons_zero, List.set_cons_succ, List.getElem_toArray, List.getElem_cons_zero, List.getElem_cons_succ]
                              refine wpAnyH_ready (rs := [22]) (by kernel_rfl) (by simp) ?_
                              refine AllReadyH.cons rfl (fun K hK => ?_) AllReadyH.nil
                              go_simp; refine (KN.out _).mono ?_; rintro e w5 ⟨rfl, hb5⟩; have B5 : Hid (Below wr.drew.heap.size wr.drew w5) := hb5; clear hb5; go_wp2_with fail
                              refine hK.out _ _ ?hS22r7 (fun hHeld => ?rest22r7)
                              case hS22r7 => exact ⟨(B5.out.cell (p := ⟨b, off + k * 4, none⟩) (show b < wr.heap.size by omega)).trans q0, (B5.out.cell (p := ⟨b, off + k * 4 + 1, none⟩) (show b < wr.heap.size by omega)).trans q1, (B5.out.cell (p := ⟨w.heap.size, 0, none⟩) (show w.heap.size < wr.heap.size by omega)).trans f0⟩
                              clear hK K
                              try simp only [Act.put, List.setIfInBounds_toArray, List.set_cons_zero, List.set_cons_succ, List.getElem_toArray, List.getElem_cons_zero, List.getElem_cons_succ]
                              refine wpAnyH_take (i := 23) (v := ?v23r7) rfl (by kernel_rfl) (by kernel_rfl) (by kernel_rfl) (fun _ _ _ h => h) (Or.inl ⟨by rfl, ?hy23r7⟩) hHeld ?rest23r7
                              case hy23r7 => (intro w hSw; (try dsimp only at hSw); go_simp; try with_reducible rfl)
                              try simp only [Act.put, List.setIfInBounds_toArray, List.set_cons_zero, List.set_cons_succ, List.getElem_toArray, List.getElem_cons_zero, List.getElem_cons_succ]
                              refine wpAnyH_done (by kernel_rfl) ?_ _
                              refine NoPanic.normal ?_
                              have B6 : Hid (Below w.heap.size w w5) := (HW3.out.drew).trans (B5.out.mono (show w.heap.size ≤ wr.heap.size by omega))
                              have G6 : Hid (w5.heap[w.heap.size]? = some (.cells (ec (tx x.p) x.k x.m (tx x.b)) 34)) := (B5.out.block w.heap.size (show w.heap.size < wr.heap.size by omega)).trans HG3.out
                              clear hHeld
                              go_wp2_with fail
                              go_roundg (j - (k + 1))
                              case measure => omega
                              case rel => exact ⟨k + 1, by omega, rfl, by go_num, HA2, (by first | exact B6.out | exact B6.out.drew), G6⟩
                            · rw [hk3] at q1
                              go_wp2_with fail
                              refine wp_region_noPanic ?_
                              refine wp_region_held_drew (S := (fun W : World => W.cell? ⟨b, off + k * 4, none⟩ = some (.string (tx y.p)) ∧ W.cell? ⟨b, off + k * 4 + 1, none⟩ = some (.int .i64 3) ∧ W.cell? ⟨w.heap.size, 0, none⟩ = some (.string (tx x.p)))) (by kernel_rfl) ?hSar8 (fun hHeld => ?restar8)
                              case hSar8 => exact ⟨q0, q1, f0⟩
                              case restar8 =>
                              refine wpAnyH_take (i := 0) (v := ?v0r8) rfl (by kernel_rfl) (by kernel_rfl) (by kernel_rfl) (fun _ _ _ h => h) (Or.inl ⟨by rfl, ?hy0r8⟩) hHeld ?rest0r8
                              case hy0r8 => (intro w hSw; (try dsimp only at hSw); go_simp; try with_reducible rfl)
                              try simp only [Act.put, List.setIfInBounds_toArray, List.set_cons_zero, List.set_cons_succ, List.getElem_toArray, List.getElem_cons_zero]
                              refine wpAnyH_take (i := 1) (v := ?v1r8) rfl (by kernel_rfl) (by kernel_rfl) (by kernel_rfl) (fun _ _ _ h => h) (Or.inl ⟨by rfl, ?hy1r8⟩) hHeld ?rest1r8
                              case hy1r8 => (intro w hSw; (try dsimp only at hSw); go_simp; try with_reducible rfl)
                              try simp only [Act.put, List.setIfInBounds_toArray, List.set_cons_zero, List.set_cons_succ, List.getElem_toArray, List.getElem_cons_zero, List.getElem_cons_succ]
                              refine wpAnyH_take (i := 2) (v := ?v2r8) rfl (by kernel_rfl) (by kernel_rfl) (by kernel_rfl) (fun _ _ _ h => h) (Or.inl ⟨by rfl, ?hy2r8⟩) hHeld ?rest2r8
                              case hy2r8 => (intro w hSw; (try dsimp only at hSw); go_simp; try with_reducible rfl)
                              try simp only [Act.put, List.setIfInBounds_toArray, List.set_cons_zero, List.set_cons_succ, List.getElem_toArray, List.getElem_cons_zero, List.getElem_cons_succ]
                              refine wpAnyH_take (i := 3) (v := ?v3r8) rfl (by kernel_rfl) (by kernel_rfl) (by kernel_rfl) (fun _ _ _ h => h) (Or.inl ⟨by rfl, ?hy3r8⟩) hHeld ?rest3r8
                              case hy3r8 => (intro w hSw; (try dsimp only at hSw); go_simp; try with_reducible rfl)
                              try simp only [Act.put, List.setIfInBounds_toArray, List.set_cons_zero, List.set_cons_succ, List.getElem_toArray, List.getElem_cons_zero, List.getElem_cons_succ]
                              refine wpAnyH_take (i := 4) (v := ?v4r8) rfl (by kernel_rfl) (by kernel_rfl) (by kernel_rfl) (fun _ _ _ h => h) (Or.inl ⟨by rfl, ?hy4r8⟩) hHeld ?rest4r8
                              case hy4r8 => (intro w hSw; (try dsimp only at hSw); go_simp; try with_reducible rfl)
                              try simp only [Act.put, List.setIfInBounds_toArray, List.set_cons_zero, List.set_cons_succ, List.getElem_toArray, List.getElem_cons_zero, List.getElem_cons_succ]
                              refine wpAnyH_take (i := 5) (v := ?v5r8) rfl (by kernel_rfl) (by kernel_rfl) (by kernel_rfl) (fun _ _ _ h => h) (Or.inl ⟨by rfl, ?hy5r8⟩) hHeld ?rest5r8
                              case hy5r8 => (intro w hSw; (try dsimp only at hSw); go_simp; try with_reducible rfl)
                              try simp only [Act.put, List.setIfInBounds_toArray, List.set_cons_zero, List.set_cons_succ, List.getElem_toArray, List.getElem_cons_zero, List.getElem_cons_succ]
                              refine wpAnyH_take (i := 6) (v := ?v6r8) rfl (by kernel_rfl) (by kernel_rfl) (by kernel_rfl) (fun _ _ _ h => h) (Or.inl ⟨by rfl, ?hy6r8⟩) hHeld ?rest6r8
                              case hy6r8 => (intro w hSw; (try dsimp only at hSw); go_simp; try with_reducible rfl)
                              try simp only [Act.put, List.setIfInBounds_toArray, List.set_cons_zero, List.set_cons_succ, List.getElem_toArray, List.getElem_cons_zero, List.getElem_cons_succ]
                              refine wpAnyH_take (i := 7) (v := ?v7r8) rfl (by kernel_rfl) (by kernel_rfl) (by kernel_rfl) (fun _ _ _ h => h) (Or.inl ⟨by rfl, ?hy7r8⟩) hHeld ?rest7r8
                              case hy7r8 => (intro w hSw; (try dsimp only at hSw); go_simp; try with_reducible rfl)
                              try simp only [Act.put, List.setIfInBounds_toArray, List.set_cons_zero, List.set_cons_succ, List.getElem_toArray, List.getElem_cons_zero, List.getElem_cons_succ]
                              refine wpAnyH_take (i := 8) (v := ?v8r8) rfl (by kernel_rfl) (by kernel_rfl) (by kernel_rfl) (fun _ _ _ h => h) (Or.inl ⟨by rfl, ?hy8r8⟩) hHeld ?rest8r8
                              case hy8r8 => (intro w hSw; (try dsimp only at hSw); go_simp; try with_reducible rfl)
                              try simp only [Act.put, List.setIfInBounds_toArray, List.set_cons_zero, List.set_cons_succ, List.getElem_toArray, List.getElem_cons_zero, List.getElem_cons_succ]
                              refine wpAnyH_take (i := 9) (v := ?v9r8) rfl (by kernel_rfl) (by kernel_rfl) (by kernel_rfl) (fun _ _ _ h => h) (Or.inl ⟨by rfl, ?hy9r8⟩) hHeld ?rest9r8
                              case hy9r8 => (intro w hSw; (try dsimp only at hSw); go_simp; try with_reducible rfl)
                              try simp only [Act.put, List.setIfInBounds_toArray, List.set_cons_zero, List.set_cons_succ, List.getElem_toArray, List.getElem_cons_zero, List.getElem_cons_succ]
                              refine wpAnyH_take (i := 10) (v := ?v10r8) rfl (by kernel_rfl) (by kernel_rfl) (by kernel_rfl) (fun _ _ _ h => h) (Or.inl ⟨by rfl, ?hy10r8⟩) hHeld ?rest10r8
                              case hy10r8 => (intro w hSw; (try dsimp only at hSw); go_simp; try with_reducible rfl)
                              try simp only [Act.put, List.setIfInBounds_toArray, List.set_cons_zero, List.set_cons_succ, List.getElem_toArray, List.getElem_cons_zero, List.getElem_cons_succ]
                              refine wpAnyH_take (i := 11) (v := ?v11r8) rfl (by kernel_rfl) (by kernel_rfl) (by kernel_rfl) (fun _ _ _ h => h) (Or.inl ⟨by rfl, ?hy11r8⟩) hHeld ?rest11r8
                              case hy11r8 => (intro w hSw; (try dsimp only at hSw); go_simp; try with_reducible rfl)
                              try simp only [Act.put, List.setIfInBounds_toArray, List.set_cons_zero, List.set_cons_succ, List.getElem_toArray, List.getElem_cons_zero, List.getElem_cons_succ]
                              refine wpAnyH_take (i := 12) (v := ?v12r8) rfl (by kernel_rfl) (by kernel_rfl) (by kernel_rfl) (fun _ _ _ h => h) (Or.inl ⟨by rfl, ?hy12r8⟩) hHeld ?rest12r8
                              case hy12r8 => (intro w hSw; (try dsimp only at hSw); go_simp; try with_reducible rfl)
                              try simp only [Act.put, List.setIfInBounds_toArray, List.set_cons_zero, List.set_cons_succ, List.getElem_toArray, List.getElem_cons_zero, List.getElem_cons_succ]
                              refine wpAnyH_take (i := 13) (v := ?v13r8) rfl (by kernel_rfl) (by kernel_rfl) (by kernel_rfl) (fun _ _ _ h => h) (Or.inl ⟨by rfl, ?hy13r8⟩) hHeld ?rest13r8
                              case hy13r8 => (intro w hSw; (try dsimp only at hSw); go_simp; try with_reducible rfl)
                              try simp only [Act.put, List.setIfInBounds_toArray, List.set_cons_zero, List.set_cons_succ, List.getElem_toArray, List.getElem_cons_zero, List.getElem_cons_succ]
                              refine wpAnyH_take (i := 14) (v := ?v14r8) rfl (by kernel_rfl) (by kernel_rfl) (by kernel_rfl) (fun _ _ _ h => h) (Or.inl ⟨by rfl, ?hy14r8⟩) hHeld ?rest14r8
                              case hy14r8 => (intro w hSw; (try dsimp only at hSw); go_simp; try with_reducible rfl)
                              try simp only [Act.put, List.setIfInBounds_toArray, List.set_cons_zero, List.set_cons_succ, List.getElem_toArray, List.getElem_cons_zero, List.getElem_cons_succ]
                              refine wpAnyH_take (i := 15) (v := ?v15r8) rfl (by kernel_rfl) (by kernel_rfl) (by kernel_rfl) (fun _ _ _ h => h) (Or.inl ⟨by rfl, ?hy15r8⟩) hHeld ?rest15r8
                              case hy15r8 => (intro w hSw; (try dsimp only at hSw); go_simp; try with_reducible rfl)
                              try simp only [Act.put, List.setIfInBounds_toArray, List.set_cons_zero, List.set_cons_succ, List.getElem_toArray, List.getElem_cons_zero, List.getElem_cons_succ]
                              refine wpAnyH_take (i := 16) (v := ?v16r8) rfl (by kernel_rfl) (by kernel_rfl) (by kernel_rfl) (fun _ _ _ h => h) (Or.inl ⟨by rfl, ?hy16r8⟩) hHeld ?rest16r8
                              case hy16r8 => (intro w hSw; (try dsimp only at hSw); go_simp; try with_reducible rfl)
                              try simp only [Act.put, List.setIfInBounds_toArray, List.set_cons_zero, List.set_cons_succ, List.getElem_toArray, List.getElem_cons_zero, List.getElem_cons_succ]
                              refine wpAnyH_take (i := 17) (v := ?v17r8) rfl (by kernel_rfl) (by kernel_rfl) (by kernel_rfl) (fun _ _ _ h => h) (Or.inl ⟨by rfl, ?hy17r8⟩) hHeld ?rest17r8
                              case hy17r8 => (intro w hSw; (try dsimp only at hSw); go_simp; try with_reducible rfl)
                              try simp only [Act.put, List.setIfInBounds_toArray, List.set_cons_zero, List.set_cons_succ, List.getElem_toArray, List.getElem_cons_zero, List.getElem_cons_succ]
                              refine wpAnyH_take (i := 18) (v := ?v18r8) rfl (by kernel_rfl) (by kernel_rfl) (by kernel_rfl) (fun _ _ _ h => h) (Or.inl ⟨by rfl, ?hy18r8⟩) hHeld ?rest18r8
                              case hy18r8 => (intro w hSw; (try dsimp only at hSw); go_simp; try with_reducible rfl)
                              try simp only [Act.put, List.setIfInBounds_toArray, List.set_cons_zero, List.set_cons_succ, List.getElem_toArray, List.getElem_cons_zero, List.getElem_cons_succ]
                              refine wpAnyH_take (i := 19) (v := ?v19r8) rfl (by kernel_rfl) (by kernel_rfl) (by kernel_rfl) (fun _ _ _ h => h) (Or.inl ⟨by rfl, ?hy19r8⟩) hHeld ?rest19r8
                              case hy19r8 => (intro w hSw; (try dsimp only at hSw); go_simp; try with_reducible rfl)
                              try simp only [Act.put, List.setIfInBounds_toArray, List.set_cons_zero, List.set_cons_succ, List.getElem_toArray, List.getElem_cons_zero, List.getElem_cons_succ]
                              refine wpAnyH_take (i := 20) (v := ?v20r8) rfl (by kernel_rfl) (by kernel_rfl) (by kernel_rfl) (fun _ _ _ h => h) (Or.inl ⟨by rfl, ?hy20r8⟩) hHeld ?rest20r8
                              case hy20r8 => (intro w hSw; (try dsimp only at hSw); go_simp; try with_reducible rfl)
                              try simp only [Act.put, List.setIfInBounds_toArray, List.set_cons_zero, List.set_cons_succ, List.getElem_toArray, List.getElem_cons_zero, List.getElem_cons_succ]
                              refine wpAnyH_take (i := 21) (v := ?v21r8) rfl (by kernel_rfl) (by kernel_rfl) (by kernel_rfl) (fun _ _ _ h => h) (Or.inl ⟨by rfl, ?hy21r8⟩) hHeld ?rest21r8
                              case hy21r8 => (intro w hSw; (try dsimp only at hSw); go_simp; try with_reducible rfl)
                              try simp only [Act.put, List.setIfInBounds_toArray, List.set_cons_zero, List.set_cons_succ, List.getElem_toArray, List.getElem_cons_zero, List.getElem_cons_succ]
                              refine wpAnyH_ready (rs := [22]) (by kernel_rfl) (by simp) ?_
                              refine AllReadyH.cons rfl (fun K hK => ?_) AllReadyH.nil
                              go_simp; refine (KN.out _).mono ?_; rintro e w5 ⟨rfl, hb5⟩; have B5 : Hid (Below wr.drew.heap.size wr.drew w5) := hb5; clear hb5; go_wp2_with fail
                              refine hK.out _ _ ?hS22r8 (fun hHeld => ?rest22r8)
                              case hS22r8 => exact ⟨(B5.out.cell (p := ⟨b, off + k * 4, none⟩) (show b < wr.heap.size by omega)).trans q0, (B5.out.cell (p := ⟨b, off + k * 4 + 1, none⟩) (show b < wr.heap.size by omega)).trans q1, (B5.out.cell (p := ⟨w.heap.size, 0, none⟩) (show w.heap.size < wr.heap.size by omega)).trans f0⟩
                              clear hK K
                              try simp only [Act.put, List.setIfInBounds_toArray, List.set_cons_zero, List.set_cons_succ, List.getElem_toArray, List.getElem_cons_zero, List.getElem_cons_succ]
                              refine wpAnyH_take (i := 23) (v := ?v23r8) rfl (by kernel_rfl) (by kernel_rfl) (by kernel_rfl) (fun _ _ _ h => h) (Or.inl ⟨by rfl, ?hy23r8⟩) hHeld ?rest23r8
                              case hy23r8 => (intro w hSw; (try dsimp only at hSw); go_simp; try with_reducible rfl)
                              try simp only [Act.put, List.setIfInBounds_toArray, List.set_cons_zero, List.set_cons_succ, List.getElem_toArray, List.getElem_cons_zero, List.getElem_cons_succ]
                              refine wpAnyH_done (by kernel_rfl) ?_ _
                              refine NoPanic.normal ?_
                              have B6 : Hid (Below w.heap.size w w5) := (HW3.out.drew).trans (B5.out.mono (show w.heap.size ≤ wr.heap.size by omega))
                              have G6 : Hid (w5.heap[w.heap.size]? = some (.cells (ec (tx x.p) x.k x.m (tx x.b)) 34)) := (B5.out.block w.heap.size (show w.heap.size < wr.heap.size by omega)).trans HG3.out
                              clear hHeld
                              go_wp2_with fail
                              go_roundg (j - (k + 1))
                              case measure => omega
                              case rel => exact ⟨k + 1, by omega, rfl, by go_num, HA2, (by first | exact B6.out | exact B6.out.drew), G6⟩
                        · have hs' : shutB y = false := by simpa using hs
                          rw [hs'] at hsh
                          have hn1 : decide (y.k = 1) = false := by
                            cases hd : decide (y.k = 1) with
                            | true => rw [hd] at hsh; simp at hsh
                            | false => rfl
                          have hn3 : decide (y.k = 3) = false := by
                            cases hd : decide (y.k = 3) with
                            | true => rw [hd] at hsh; simp at hsh
                            | false => rfl
                          have HA2 : Hid (anyIn (l.take (k + 1)) x = false) := by
                            show _ = _
                            rw [HAS.out, HA.out, hs']
                            rfl
                          have hq1 : ¬ y.k = 1 := by simpa using hn1
                          have hq3 : ¬ y.k = 3 := by simpa using hn3
                          have hb1 : (y.k == 1) = false := by simp [hq1]
                          have hb3 : (y.k == 3) = false := by simp [hq3]
                          clear hsh hs hs'
                          go_wp2_with fail
                          go_quiet (fail)
                          go_wp2_with fail
                          go_roundg (j - (k + 1))
                          case measure => omega
                          case rel => exact ⟨k + 1, by omega, rfl, by go_num, HA2, below_drewN HW3.out _, by show _ = _; rw [World.heap_drewN]; exact HG3.out⟩
                      · have e : k = j := by omega
                        subst e
                        have k1 : ¬ (k : Int) < (k : Int) := by omega
                        have HR : Hid (r = 0) := by
                          show _ = _
                          rw [HW2.out, if_neg HNL.out, if_neg (by rw [HA.out]; simp)]
                        go_wp2_with fail
                        go_ret
                        refine ⟨?_, HW3.out⟩
                        rw [HR.out]
                        rfl
                  · rw [h1] at d1
                    rw [h2] at d2
                    have e12 : (x.b == []) = true := by simp [h3]
                    clear e11 h3
                    go_wp2_with fail
                    refine wp_region_noPanic ?_
                    refine wp_region_held_drew (S := (fun W : World => W.cell? ⟨b, off + (j - 1) * 4, none⟩ = some (.string (tx y.p)) ∧ W.cell? ⟨w.heap.size, 0, none⟩ = some (.string (tx x.p)))) (by kernel_rfl) ?hSap9 (fun hHeld => ?restap9)
                    case hSap9 => exact ⟨q0, d0⟩
                    case restap9 =>
                    refine wpAnyH_take (i := 0) (v := ?v0p9) rfl (by kernel_rfl) (by kernel_rfl) (by kernel_rfl) (fun _ _ _ h => h) (Or.inl ⟨by rfl, ?hy0p9⟩) hHeld ?rest0p9
                    case hy0p9 => (intro w hSw; (try dsimp only at hSw); go_simp; try with_reducible rfl)
                    try simp only [Act.put, List.setIfInBounds_toArray, List.set_cons_zero, List.set_cons_succ, List.getElem_toArray, List.getElem_cons_zero]
                    refine wpAnyH_take (i := 1) (v := ?v1p9) rfl (by kernel_rfl) (by kernel_rfl) (by kernel_rfl) (fun _ _ _ h => h) (Or.inl ⟨by rfl, ?hy1p9⟩) hHeld ?rest1p9
                    case hy1p9 => (intro w hSw; (try dsimp only at hSw); go_simp; try with_reducible rfl)
                    try simp only [Act.put, List.setIfInBounds_toArray, List.set_cons_zero, List.set_cons_succ, List.getElem_toArray, List.getElem_cons_zero, List.getElem_cons_succ]
                    refine wpAnyH_take (i := 2) (v := ?v2p9) rfl (by kernel_rfl) (by kernel_rfl) (by kernel_rfl) (fun _ _ _ h => h) (Or.inl ⟨by rfl, ?hy2p9⟩) hHeld ?rest2p9
                    case hy2p9 => (intro w hSw; (try dsimp only at hSw); go_simp; try with_reducible rfl)
                    try simp only [Act.put, List.setIfInBounds_toArray, List.set_cons_zero, List.set_cons_succ, List.getElem_toArray, List.getElem_cons_zero, List.getElem_cons_succ]
                    refine wpAnyH_take (i := 3) (v := ?v3p9) rfl (by kernel_rfl) (by kernel_rfl) (by kernel_rfl) (fun _ _ _ h => h) (Or.inl ⟨by rfl, ?hy3p9⟩) hHeld ?rest3p9
                    case hy3p9 => (intro w hSw; (try dsimp only at hSw); go_simp; try with_reducible rfl)
                    try simp only [Act.put, List.setIfInBounds_toArray, List.set_cons_zero, List.set_cons_succ, List.getElem_toArray, List.getElem_cons_zero, List.getElem_cons_succ]
                    refine wpAnyH_take (i := 4) (v := ?v4p9) rfl (by kernel_rfl) (by kernel_rfl) (by kernel_rfl) (fun _ _ _ h => h) (Or.inl ⟨by rfl, ?hy4p9⟩) hHeld ?rest4p9
                    case hy4p9 => (intro w hSw; (try dsimp only at hSw); go_simp; try with_reducible rfl)
                    try simp only [Act.put, List.setIfInBounds_toArray, List.set_cons_zero, List.set_cons_succ, List.getElem_toArray, List.getElem_cons_zero, List.getElem_cons_succ]
                    refine wpAnyH_take (i := 5) (v := ?v5p9) rfl (by kernel_rfl) (by kernel_rfl) (by kernel_rfl) (fun _ _ _ h => h) (Or.inl ⟨by rfl, ?hy5p9⟩) hHeld ?rest5p9
                    case hy5p9 => (intro w hSw; (try dsimp only at hSw); go_simp; try with_reducible rfl)
                    try simp only [Act.put, List.setIfInBounds_toArray, List.set_cons_zero, List.set_cons_succ, List.getElem_toArray, List.getElem_cons_zero, List.getElem_cons_succ]
                    refine wpAnyH_take (i := 6) (v := ?v6p9) rfl (by kernel_rfl) (by kernel_rfl) (by kernel_rfl) (fun _ _ _ h => h) (Or.inl ⟨by rfl, ?hy6p9⟩) hHeld ?rest6p9
                    case hy6p9 => (intro w hSw; (try dsimp only at hSw); go_simp; try with_reducible rfl)
                    try simp only [Act.put, List.setIfInBounds_toArray, List.set_cons_zero, List.set_cons_succ, List.getElem_toArray, List.getElem_cons_zero, List.getElem_cons_succ]
                    refine wpAnyH_take (i := 7) (v := ?v7p9) rfl (by kernel_rfl) (by kernel_rfl) (by kernel_rfl) (fun _ _ _ h => h) (Or.inl ⟨by rfl, ?hy7p9⟩) hHeld ?rest7p9
                    case hy7p9 => (intro w hSw; (try dsimp only at hSw); go_simp; try with_reducible rfl)
                    try simp only [Act.put, List.setIfInBounds_toArray, List.set_cons_zero, List.set_cons_succ, List.getElem_toArray, List.getElem_cons_zero, List.getElem_cons_succ]
                    refine wpAnyH_take (i := 8) (v := ?v8p9) rfl (by kernel_rfl) (by kernel_rfl) (by kernel_rfl) (fun _ _ _ h => h) (Or.inl ⟨by rfl, ?hy8p9⟩) hHeld ?rest8p9
                    case hy8p9 => (intro w hSw; (try dsimp only at hSw); go_simp; try with_reducible rfl)
                    try simp only [Act.put, List.setIfInBounds_toArray, List.set_cons_zero, List.set_cons_succ, List.getElem_toArray, List.getElem_cons_zero, List.getElem_cons_succ]
                    refine wpAnyH_take (i := 9) (v := ?v9p9) rfl (by kernel_rfl) (by kernel_rfl) (by kernel_rfl) (fun _ _ _ h => h) (Or.inl ⟨by rfl, ?hy9p9⟩) hHeld ?rest9p9
                    case hy9p9 => (intro w hSw; (try dsimp only at hSw); go_simp; try with_reducible rfl)
                    try simp only [Act.put, List.setIfInBounds_toArray, List.set_cons_zero, List.set_cons_succ, List.getElem_toArray, List.getElem_cons_zero, List.getElem_cons_succ]
                    refine wpAnyH_take (i := 10) (v := ?v10p9) rfl (by kernel_rfl) (by kernel_rfl) (by kernel_rfl) (fun _ _ _ h => h) (Or.inl ⟨by rfl, ?hy10p9⟩) hHeld ?rest10p9
                    case hy10p9 => (intro w hSw; (try dsimp only at hSw); go_simp; try with_reducible rfl)
                    try simp only [Act.put, List.setIfInBounds_toArray, List.set_cons_zero, List.set_cons_succ, List.getElem_toArray, List.getElem_cons_zero, List.getElem_cons_succ]
                    refine wpAnyH_ready (rs := [11]) (by kernel_rfl) (by simp) ?_
                    refine AllReadyH.cons rfl (fun K hK => ?_) AllReadyH.nil
                    go_simp; refine (KL.out _).mono ?_; rintro e w3 ⟨rfl, hb3⟩; have B3 : Hid (Below w1.drew.heap.size w1.drew w3) := hb3; clear hb3; go_wp2_with fail
                    refine hK.out _ _ ?hS11p9 (fun hHeld => ?rest11p9)
                    case hS11p9 => exact ⟨(B3.out.cell (p := ⟨b, off + (j - 1) * 4, none⟩) (show b < w1.heap.size by omega)).trans q0, (B3.out.cell (p := ⟨w.heap.size, 0, none⟩) (show w.heap.size < w1.heap.size by omega)).trans d0⟩
                    clear hK K
                    try simp only [Act.put, List.setIfInBounds_toArray, List.set_cons_zero, List.set_cons_succ, List.getElem_toArray, List.getElem_cons_zero, List.getElem_cons_succ]
                    refine wpAnyH_take (i := 12) (v := ?v12p9) rfl (by kernel_rfl) (by kernel_rfl) (by kernel_rfl) (fun _ _ _ h => h) (Or.inl ⟨by rfl, ?hy12p9⟩) hHeld ?rest12p9
                    case hy12p9 => (intro w hSw; (try dsimp only at hSw); go_simp; try with_reducible rfl)
                    try simp only [Act.put, List.setIfInBounds_toArray, List.set_cons_zero, List.set_cons_succ, List.getElem_toArray, List.getElem_cons_zero, List.getElem_cons_succ]
                    refine wpAnyH_take (i := 13) (v := ?v13p9) rfl (by kernel_rfl) (by kernel_rfl) (by kernel_rfl) (fun _ _ _ h => h) (Or.inl ⟨by rfl, ?hy13p9⟩) hHeld ?rest13p9
                    case hy13p9 => (intro w hSw; (try dsimp only at hSw); go_simp; try with_reducible rfl)
                    try simp only [Act.put, List.setIfInBounds_toArray, List.set_cons_zero, List.set_cons_succ, List.getElem_toArray, List.getElem_cons_zero, List.getElem_cons_succ]
                    refine wpAnyH_done (by kernel_rfl) ?_ _
                    refine NoPanic.normal ?_
                    have B2 : Hid (Below w.heap.size w w3) := (B1.out.drew).trans (B3.out.mono (show w.heap.size ≤ w1.heap.size by omega))
                    have G2 : Hid (w3.heap[w.heap.size]? = some (.cells (ec (tx x.p) x.k x.m (tx x.b)) 34)) := (B3.out.block w.heap.size (show w.heap.size < w1.heap.size by omega)).trans G1.out
                    clear hHeld d0 d1 d2 d3 q0 q1 q2 q3 KL
                    go_wp2_with fail
                    go_loopg [6] j (fun g i wr => ∃ (k : Nat), k ≤ j ∧ g = j - k ∧ i = .int .i64 k ∧ Hid (anyIn (l.take k) x = false) ∧ Hid (Below w.heap.size w wr) ∧ Hid (wr.heap[w.heap.size]? = some (.cells (ec (tx x.p) x.k x.m (tx x.b)) 34)))
                    case atStart => exact ⟨0, Nat.zero_le _, rfl, rfl, (by show anyIn (l.take 0) x = false; simp [anyIn]), (by first | exact B2.out | exact B2.out.drew), G2⟩
                    case round =>
                      obtain ⟨k, hkj, rfl, rfl, HA, HW3, HG3⟩ := hrel
                      by_cases hlk : k < j
                      · have k1 : (k : Int) < (j : Int) := by omega
                        have k2 : (k : Int) < (n : Int) := by omega
                        obtain ⟨y, hy⟩ : ∃ y, l[k]? = some y := ⟨l[k]'(by rw [HN.out]; omega), List.getElem?_eq_getElem _⟩
                        have hyf := HF.out y (List.mem_of_getElem? hy)
                        have hry : Ec w b (off + k * 4) y := by
                          obtain ⟨b', off', e, _, h⟩ := HL.out.at hy
                          cases e
                          exact h
                        obtain ⟨q0, q1, q2, q3⟩ := hry.below HW3.out hbw
                        obtain ⟨f0, f1, f2, f3⟩ := ec_cells HG3.out
                        have KN : Hid (∀ w, Calls Tryd.prog 53 #[.string (tx y.p), .string (tx x.p)] w fun e w' => e = .returned (.bool (inn y.p x.p)) ∧ Below w.heap.size w w') := rin_is y.p x.p (by omega) (by omega)
                        have HAS : Hid (anyIn (l.take (k + 1)) x = (anyIn (l.take k) x || (shutB y && inn y.p x.p))) := anyIn_take hy
                        have HAO : Hid ((shutB y && inn y.p x.p) = true → anyIn (l.take j) x = true) := anyIn_of hy hlk
                        have hsh : shutB y = (decide (y.k = 1) || decide (y.k = 3)) := rfl
                        have hsz3 := HW3.out.size
                        have hlt3 : w.heap.size < wr.heap.size := (Array.getElem?_eq_some_iff.1 HG3.out).1
                        clear hy hry hyf
                        by_cases hs : shutB y = true
                        · have hor : y.k = 1 ∨ (¬ y.k = 1 ∧ y.k = 3) := by
                            by_cases h1 : y.k = 1
                            · exact .inl h1
                            · right; refine ⟨h1, ?_⟩
                              rw [hs] at hsh
                              simpa [h1] using hsh.symm
                          have HS2 : Hid (shutB y = true) := hs
                          clear hs hsh
                          cases hin : inn y.p x.p with
                          | true =>
                            rw [hin] at KN
                            have HR : Hid (r = 11) := by
                              show _ = _
                              rw [HW2.out, if_neg HNL.out, if_pos (HAO.out (by rw [HS2.out, hin]; rfl))]
                            rcases hor with hk1 | ⟨hk1, hk3⟩
                            · rw [hk1] at q1
                              go_wp2_with fail
                              refine wp_region_noPanic ?_
                              refine wp_region_held_drew (S := (fun W : World => W.cell? ⟨b, off + k * 4, none⟩ = some (.string (tx y.p)) ∧ W.cell? ⟨b, off + k * 4 + 1, none⟩ = some (.int .i64 1) ∧ W.cell? ⟨w.heap.size, 0, none⟩ = some (.string (tx x.p)))) (by kernel_rfl) ?hSar10 (fun hHeld => ?restar10)
                              case hSar10 => exact ⟨q0, q1, f0⟩
                              case restar10 =>
                              refine wpAnyH_take (i := 0) (v := ?v0r10) rfl (by kernel_rfl) (by kernel_rfl) (by kernel_rfl) (fun _ _ _ h => h) (Or.inl ⟨by rfl, ?hy0r10⟩) hHeld ?rest0r10
                              case hy0r10 => (intro w hSw; (try dsimp only at hSw); go_simp; try with_reducible rfl)
                              try simp only [Act.put, List.setIfInBounds_toArray, List.set_cons_zero, List.set_cons_succ, List.getElem_toArray, List.getElem_cons_zero]
                              refine wpAnyH_take (i := 1) (v := ?v1r10) rfl (by kernel_rfl) (by kernel_rfl) (by kernel_rfl) (fun _ _ _ h => h) (Or.inl ⟨by rfl, ?hy1r10⟩) hHeld ?rest1r10
                              case hy1r10 => (intro w hSw; (try dsimp only at hSw); go_simp; try with_reducible rfl)
                              try simp only [Act.put, List.setIfInBounds_toArray, List.set_cons_zero, List.set_cons_succ, List.getElem_toArray, List.getElem_cons_zero, List.getElem_cons_succ]
                              refine wpAnyH_take (i := 2) (v := ?v2r10) rfl (by kernel_rfl) (by kernel_rfl) (by kernel_rfl) (fun _ _ _ h => h) (Or.inl ⟨by rfl, ?hy2r10⟩) hHeld ?rest2r10
                              case hy2r10 => (intro w hSw; (try dsimp only at hSw); go_simp; try with_reducible rfl)
                              try simp only [Act.put, List.setIfInBounds_toArray, List.set_cons_zero, List.set_cons_succ, List.getElem_toArray, List.getElem_cons_zero, List.getElem_cons_succ]
                              refine wpAnyH_take (i := 3) (v := ?v3r10) rfl (by kernel_rfl) (by kernel_rfl) (by kernel_rfl) (fun _ _ _ h => h) (Or.inl ⟨by rfl, ?hy3r10⟩) hHeld ?rest3r10
                              case hy3r10 => (intro w hSw; (try dsimp only at hSw); go_simp; try with_reducible rfl)
                              try simp only [Act.put, List.setIfInBounds_toArray, List.set_cons_zero, List.set_cons_succ, List.getElem_toArray, List.getElem_cons_zero, List.getElem_cons_succ]
                              refine wpAnyH_take (i := 4) (v := ?v4r10) rfl (by kernel_rfl) (by kernel_rfl) (by kernel_rfl) (fun _ _ _ h => h) (Or.inl ⟨by rfl, ?hy4r10⟩) hHeld ?rest4r10
                              case hy4r10 => (intro w hSw; (try dsimp only at hSw); go_simp; try with_reducible rfl)
                              try simp only [Act.put, List.setIfInBounds_toArray, List.set_cons_zero, List.set_cons_succ, List.getElem_toArray, List.getElem_cons_zero, List.getElem_cons_succ]
                              refine wpAnyH_take (i := 5) (v := ?v5r10) rfl (by kernel_rfl) (by kernel_rfl) (by kernel_rfl) (fun _ _ _ h => h) (Or.inl ⟨by rfl, ?hy5r10⟩) hHeld ?rest5r10
                              case hy5r10 => (intro w hSw; (try dsimp only at hSw); go_simp; try with_reducible rfl)
                              try simp only [Act.put, List.setIfInBounds_toArray, List.set_cons_zero, List.set_cons_succ, List.getElem_toArray, List.getElem_cons_zero, List.getElem_cons_succ]
                              refine wpAnyH_take (i := 6) (v := ?v6r10) rfl (by kernel_rfl) (by kernel_rfl) (by kernel_rfl) (fun _ _ _ h => h) (Or.inl ⟨by rfl, ?hy6r10⟩) hHeld ?rest6r10
                              case hy6r10 => (intro w hSw; (try dsimp only at hSw); go_simp; try with_reducible rfl)
                              try simp only [Act.put, List.setIfInBounds_toArray, List.set_cons_zero, List.set_cons_succ, List.getElem_toArray, List.getElem_cons_zero, List.getElem_cons_succ]
                              refine wpAnyH_take (i := 7) (v := undef) rfl (by kernel_rfl) (by kernel_rfl) (by kernel_rfl) (fun _ _ _ h => h) (Or.inr ⟨by rfl, rfl⟩) hHeld ?rest7r10
                              case rest7r10 =>
                              try simp only [Act.put, List.setIfInBounds_toArray, List.set_cons_zero, List.set_cons_succ, List.getElem_toArray, List.getElem_cons_zero, List.getElem_cons_succ]
                              refine wpAnyH_take (i := 8) (v := undef) rfl (by kernel_rfl) (by kernel_rfl) (by kernel_rfl) (fun _ _ _ h => h) (Or.inr ⟨by rfl, rfl⟩) hHeld ?rest8r10
                              case rest8r10 =>
                              try simp only [Act.put, List.setIfInBounds_toArray, List.set_cons_zero, List.set_cons_succ, List.getElem_toArray, List.getElem_cons_zero, List.getElem_cons_succ]
                              refine wpAnyH_take (i := 9) (v := undef) rfl (by kernel_rfl) (by kernel_rfl) (by kernel_rfl) (fun _ _ _ h => h) (Or.inr ⟨by rfl, rfl⟩) hHeld ?rest9r10
                              case rest9r10 =>
                              try simp only [Act.put, List.setIfInBounds_toArray, List.set_cons_zero, List.set_cons_succ, List.getElem_toArray, List.getElem_cons_zero, List.getElem_cons_succ]
                              refine wpAnyH_take (i := 10) (v := undef) rfl (by kernel_rfl) (by kernel_rfl) (by kernel_rfl) (fun _ _ _ h => h) (Or.inr ⟨by rfl, rfl⟩) hHeld ?rest10r10
                              case rest10r10 =>
                              try simp only [Act.put, List.setIfInBounds_toArray, List.set_cons_zero, List.set_cons_succ, List.getElem_toArray, List.getElem_cons_zero, List.getElem_cons_succ]
                              refine wpAnyH_take (i := 11) (v := undef) rfl (by kernel_rfl) (by kernel_rfl) (by kernel_rfl) (fun _ _ _ h => h) (Or.inr ⟨by rfl, rfl⟩) hHeld ?rest11r10
                              case rest11r10 =>
                              try simp only [Act.put, List.setIfInBounds_toArray, List.set_cons_zero, List.set_cons_succ, List.getElem_toArray, List.getElem_cons_zero, List.getElem_cons_succ]
                              refine wpAnyH_take (i := 12) (v := undef) rfl (by kernel_rfl) (by kernel_rfl) (by kernel_rfl) (fun _ _ _ h => h) (Or.inr ⟨by rfl, rfl⟩) hHeld ?rest12r10
                              case rest12r10 =>
                              try simp only [Act.put, List.setIfInBounds_toArray, List.set_cons_zero, List.set_cons_succ, List.getElem_toArray, List.getElem_cons_zero, List.getElem_cons_succ]
                              refine wpAnyH_take (i := 13) (v := ?v13r10) rfl (by kernel_rfl) (by kernel_rfl) (by kernel_rfl) (fun _ _ _ h => h) (Or.inl ⟨by rfl, ?hy13r10⟩) hHeld ?rest13r10
                              case hy13r10 => (intro w hSw; (try dsimp only at hSw); go_simp; try with_reducible rfl)
                              try simp only [Act.put, List.setIfInBounds_toArray, List.set_cons_zero, List.set_cons_succ, List.getElem_toArray, List.getElem_cons_zero, List.getElem_cons_succ]
                              refine wpAnyH_take (i := 14) (v := ?v14r10) rfl (by kernel_rfl) (by kernel_rfl) (by kernel_rfl) (fun _ _ _ h => h) (Or.inl ⟨by rfl, ?hy14r10⟩) hHeld ?rest14r10
                              case hy14r10 => (intro w hSw; (try dsimp only at hSw); go_simp; try with_reducible rfl)
                              try simp only [Act.put, List.setIfInBounds_toArray, List.set_cons_zero, List.set_cons_succ, List.getElem_toArray, List.getElem_cons_zero, List.getElem_cons_succ]
                              refine wpAnyH_take (i := 15) (v := ?v15r10) rfl (by kernel_rfl) (by kernel_rfl) (by kernel_rfl) (fun _ _ _ h => h) (Or.inl ⟨by rfl, ?hy15r10⟩) hHeld ?rest15r10
                              case hy15r10 => (intro w hSw; (try dsimp only at hSw); go_simp; try with_reducible rfl)
                              try simp only [Act.put, List.setIfInBounds_toArray, List.set_cons_zero, List.set_cons_succ, List.getElem_toArray, List.getElem_cons_zero, List.getElem_cons_succ]
                              refine wpAnyH_take (i := 16) (v := ?v16r10) rfl (by kernel_rfl) (by kernel_rfl) (by kernel_rfl) (fun _ _ _ h => h) (Or.inl ⟨by rfl, ?hy16r10⟩) hHeld ?rest16r10
                              case hy16r10 => (intro w hSw; (try dsimp only at hSw); go_simp; try with_reducible rfl)
                              try simp only [Act.put, List.setIfInBounds_toArray, List.set_cons_zero, List.set_cons_succ, List.getElem_toArray, List.getElem_cons_zero, List.getElem_cons_succ]
                              refine wpAnyH_take (i := 17) (v := ?v17r10) rfl (by kernel_rfl) (by kernel_rfl) (by kernel_rfl) (fun _ _ _ h => h) (Or.inl ⟨by rfl, ?hy17r10⟩) hHeld ?rest17r10
                              case hy17r10 => (intro w hSw; (try dsimp only at hSw); go_simp; try with_reducible rfl)
                              try simp only [Act.put, List.setIfInBounds_toArray, List.set_cons_zero, List.set_cons_succ, List.getElem_toArray, List.getElem_cons_zero, List.getElem_cons_succ]
                              refine wpAnyH_take (i := 18) (v := ?v18r10) rfl (by kernel_rfl) (by kernel_rfl) (by kernel_rfl) (fun _ _ _ h => h) (Or.inl ⟨by rfl, ?hy18r10⟩) hHeld ?rest18r10
                              case hy18r10 => (intro w hSw; (try dsimp only at hSw); go_simp; try with_reducible rfl)
                              try simp only [Act.put, List.setIfInBounds_toArray, List.set_cons_zero, List.set_cons_succ, List.getElem_toArray, List.getElem_cons_zero, List.getElem_cons_succ]
                              refine wpAnyH_take (i := 19) (v := ?v19r10) rfl (by kernel_rfl) (by kernel_rfl) (by kernel_rfl) (fun _ _ _ h => h) (Or.inl ⟨by rfl, ?hy19r10⟩) hHeld ?rest19r10
                              case hy19r10 => (intro w hSw; (try dsimp only at hSw); go_simp; try with_reducible rfl)
                              try simp only [Act.put, List.setIfInBounds_toArray, List.set_cons_zero, List.set_cons_succ, List.getElem_toArray, List.getElem_cons_zero, List.getElem_cons_succ]
                              refine wpAnyH_take (i := 20) (v := ?v20r10) rfl (by kernel_rfl) (by kernel_rfl) (by kernel_rfl) (fun _ _ _ h => h) (Or.inl ⟨by rfl, ?hy20r10⟩) hHeld ?rest20r10
                              case hy20r10 => (intro w hSw; (try dsimp only at hSw); go_simp; try with_reducible rfl)
                              try simp only [Act.put, List.setIfInBounds_toArray, List.set_cons_zero, List.set_cons_succ, List.getElem_toArray, List.getElem_cons_zero, List.getElem_cons_succ]
                              refine wpAnyH_take (i := 21) (v := ?v21r10) rfl (by kernel_rfl) (by kernel_rfl) (by kernel_rfl) (fun _ _ _ h => h) (Or.inl ⟨by rfl, ?hy21r10⟩) hHeld ?rest21r10
                              case hy21r10 => (intro w hSw; (try dsimp only at hSw); go_simp; try with_reducible rfl)
                              try simp only [Act.put, List.setIfInBounds_toArray, List.set_cons_zero, List.set_cons_succ, List.getElem_toArray, List.getElem_cons_zero, List.getElem_cons_succ]
                              refine wpAnyH_ready (rs := [22]) (by kernel_rfl) (by simp) ?_
                              refine AllReadyH.cons rfl (fun K hK => ?_) AllReadyH.nil
                              go_simp; refine (KN.out _).mono ?_; rintro e w5 ⟨rfl, hb5⟩; have B5 : Hid (Below wr.drew.heap.size wr.drew w5) := hb5; clear hb5; go_wp2_with fail
                              refine hK.out _ _ ?hS22r10 (fun hHeld => ?rest22r10)
                              case hS22r10 => exact ⟨(B5.out.cell (p := ⟨b, off + k * 4, none⟩) (show b < wr.heap.size by omega)).trans q0, (B5.out.cell (p := ⟨b, off + k * 4 + 1, none⟩) (show b < wr.heap.size by omega)).trans q1, (B5.out.cell (p := ⟨w.heap.size, 0, none⟩) (show w.heap.size < wr.heap.size by omega)).trans f0⟩
                              clear hK K
                              try simp only [Act.put, List.setIfInBounds_toArray, List.set_cons_zero, List.set_cons_succ, List.getElem_toArray, List.getElem_cons_zero, List.getElem_cons_succ]
                              refine wpAnyH_take (i := 23) (v := ?v23r10) rfl (by kernel_rfl) (by kernel_rfl) (by kernel_rfl) (fun _ _ _ h => h) (Or.inl ⟨by rfl, ?hy23r10⟩) hHeld ?rest23r10
                              case hy23r10 => (intro w hSw; (try dsimp only at hSw); go_simp; try with_reducible rfl)
                              try simp only [Act.put, List.setIfInBounds_toArray, List.set_cons_zero, List.set_cons_succ, List.getElem_toArray, List.getElem_cons_zero, List.getElem_cons_succ]
                              refine wpAnyH_done (by kernel_rfl) ?_ _
                              refine NoPanic.normal ?_
                              have B6 : Hid (Below w.heap.size w w5) := (HW3.out.drew).trans (B5.out.mono (show w.heap.size ≤ wr.heap.size by omega))
                              clear hHeld
                              go_wp2_with fail
                              go_ret
                              refine ⟨?_, by first | exact B6.out | exact B6.out.drew⟩
                              rw [HR.out]
                              rfl
                            · rw [hk3] at q1
                              go_wp2_with fail
                              refine wp_region_noPanic ?_
                              refine wp_region_held_drew (S := (fun W : World => W.cell? ⟨b, off + k * 4, none⟩ = some (.string (tx y.p)) ∧ W.cell? ⟨b, off + k * 4 + 1, none⟩ = some (.int .i64 3) ∧ W.cell? ⟨w.heap.size, 0, none⟩ = some (.string (tx x.p)))) (by kernel_rfl) ?hSar11 (fun hHeld => ?restar11)
                              case hSar11 => exact ⟨q0, q1, f0⟩
                              case restar11 =>
                              refine wpAnyH_take (i := 0) (v := ?v0r11) rfl (by kernel_rfl) (by kernel_rfl) (by kernel_rfl) (fun _ _ _ h => h) (Or.inl ⟨by rfl, ?hy0r11⟩) hHeld ?rest0r11
                              case hy0r11 => (intro w hSw; (try dsimp only at hSw); go_simp; try with_reducible rfl)
                              try simp only [Act.put, List.setIfInBounds_toArray, List.set_cons_zero, List.set_cons_succ, List.getElem_toArray, List.getElem_cons_zero]
                              refine wpAnyH_take (i := 1) (v := ?v1r11) rfl (by kernel_rfl) (by kernel_rfl) (by kernel_rfl) (fun _ _ _ h => h) (Or.inl ⟨by rfl, ?hy1r11⟩) hHeld ?rest1r11
                              case hy1r11 => (intro w hSw; (try dsimp only at hSw); go_simp; try with_reducible rfl)
                              try simp only [Act.put, List.setIfInBounds_toArray, List.set_cons_zero, List.set_cons_succ, List.getElem_toArray, List.getElem_cons_zero, List.getElem_cons_succ]
                              refine wpAnyH_take (i := 2) (v := ?v2r11) rfl (by kernel_rfl) (by kernel_rfl) (by kernel_rfl) (fun _ _ _ h => h) (Or.inl ⟨by rfl, ?hy2r11⟩) hHeld ?rest2r11
                              case hy2r11 => (intro w hSw; (try dsimp only at hSw); go_simp; try with_reducible rfl)
                              try simp only [Act.put, List.setIfInBounds_toArray, List.set_cons_zero, List.set_cons_succ, List.getElem_toArray, List.getElem_cons_zero, List.getElem_cons_succ]
                              refine wpAnyH_take (i := 3) (v := ?v3r11) rfl (by kernel_rfl) (by kernel_rfl) (by kernel_rfl) (fun _ _ _ h => h) (Or.inl ⟨by rfl, ?hy3r11⟩) hHeld ?rest3r11
                              case hy3r11 => (intro w hSw; (try dsimp only at hSw); go_simp; try with_reducible rfl)
                              try simp only [Act.put, List.setIfInBounds_toArray, List.set_cons_zero, List.set_cons_succ, List.getElem_toArray, List.getElem_cons_zero, List.getElem_cons_succ]
                              refine wpAnyH_take (i := 4) (v := ?v4r11) rfl (by kernel_rfl) (by kernel_rfl) (by kernel_rfl) (fun _ _ _ h => h) (Or.inl ⟨by rfl, ?hy4r11⟩) hHeld ?rest4r11
                              case hy4r11 => (intro w hSw; (try dsimp only at hSw); go_simp; try with_reducible rfl)
                              try simp only [Act.put, List.setIfInBounds_toArray, List.set_cons_zero, List.set_cons_succ, List.getElem_toArray, List.getElem_cons_zero, List.getElem_cons_succ]
                              refine wpAnyH_take (i := 5) (v := ?v5r11) rfl (by kernel_rfl) (by kernel_rfl) (by kernel_rfl) (fun _ _ _ h => h) (Or.inl ⟨by rfl, ?hy5r11⟩) hHeld ?rest5r11
                              case hy5r11 => (intro w hSw; (try dsimp only at hSw); go_simp; try with_reducible rfl)
                              try simp only [Act.put, List.setIfInBounds_toArray, List.set_cons_zero, List.set_cons_succ, List.getElem_toArray, List.getElem_cons_zero, List.getElem_cons_succ]
                              refine wpAnyH_take (i := 6) (v := ?v6r11) rfl (by kernel_rfl) (by kernel_rfl) (by kernel_rfl) (fun _ _ _ h => h) (Or.inl ⟨by rfl, ?hy6r11⟩) hHeld ?rest6r11
                              case hy6r11 => (intro w hSw; (try dsimp only at hSw); go_simp; try with_reducible rfl)
                              try simp only [Act.put, List.setIfInBounds_toArray, List.set_cons_zero, List.set_cons_succ, List.getElem_toArray, List.getElem_cons_zero, List.getElem_cons_succ]
                              refine wpAnyH_take (i := 7) (v := ?v7r11) rfl (by kernel_rfl) (by kernel_rfl) (by kernel_rfl) (fun _ _ _ h => h) (Or.inl ⟨by rfl, ?hy7r11⟩) hHeld ?rest7r11
                              case hy7r11 => (intro w hSw; (try dsimp only at hSw); go_simp; try with_reducible rfl)
                              try simp only [Act.put, List.setIfInBounds_toArray, List.set_cons_zero, List.set_cons_succ, List.getElem_toArray, List.getElem_cons_zero, List.getElem_cons_succ]
                              refine wpAnyH_take (i := 8) (v := ?v8r11) rfl (by kernel_rfl) (by kernel_rfl) (by kernel_rfl) (fun _ _ _ h => h) (Or.inl ⟨by rfl, ?hy8r11⟩) hHeld ?rest8r11
                              case hy8r11 => (intro w hSw; (try dsimp only at hSw); go_simp; try with_reducible rfl)
                              try simp only [Act.put, List.setIfInBounds_toArray, List.set_cons_zero, List.set_cons_succ, List.getElem_toArray, List.getElem_cons_zero, List.getElem_cons_succ]
                              refine wpAnyH_take (i := 9) (v := ?v9r11) rfl (by kernel_rfl) (by kernel_rfl) (by kernel_rfl) (fun _ _ _ h => h) (Or.inl ⟨by rfl, ?hy9r11⟩) hHeld ?rest9r11
                              case hy9r11 => (intro w hSw; (try dsimp only at hSw); go_simp; try with_reducible rfl)
                              try simp only [Act.put, List.setIfInBounds_toArray, List.set_cons_zero, List.set_cons_succ, List.getElem_toArray, List.getElem_cons_zero, List.getElem_cons_succ]
                              refine wpAnyH_take (i := 10) (v := ?v10r11) rfl (by kernel_rfl) (by kernel_rfl) (by kernel_rfl) (fun _ _ _ h => h) (Or.inl ⟨by rfl, ?hy10r11⟩) hHeld ?rest10r11
                              case hy10r11 => (intro w hSw; (try dsimp only at hSw); go_simp; try with_reducible rfl)
                              try simp only [Act.put, List.setIfInBounds_toArray, List.set_cons_zero, List.set_cons_succ, List.getElem_toArray, List.getElem_cons_zero, List.getElem_cons_succ]
                              refine wpAnyH_take (i := 11) (v := ?v11r11) rfl (by kernel_rfl) (by kernel_rfl) (by kernel_rfl) (fun _ _ _ h => h) (Or.inl ⟨by rfl, ?hy11r11⟩) hHeld ?rest11r11
                              case hy11r11 => (intro w hSw; (try dsimp only at hSw); go_simp; try with_reducible rfl)
                              try simp only [Act.put, List.setIfInBounds_toArray, List.set_cons_zero, List.set_cons_succ, List.getElem_toArray, List.getElem_cons_zero, List.getElem_cons_succ]
                              refine wpAnyH_take (i := 12) (v := ?v12r11) rfl (by kernel_rfl) (by kernel_rfl) (by kernel_rfl) (fun _ _ _ h => h) (Or.inl ⟨by rfl, ?hy12r11⟩) hHeld ?rest12r11
                              case hy12r11 => (intro w hSw; (try dsimp only at hSw); go_simp; try with_reducible rfl)
                              try simp only [Act.put, List.setIfInBounds_toArray, List.set_cons_zero, List.set_cons_succ, List.getElem_toArray, List.getElem_cons_zero, List.getElem_cons_succ]
                              refine wpAnyH_take (i := 13) (v := ?v13r11) rfl (by kernel_rfl) (by kernel_rfl) (by kernel_rfl) (fun _ _ _ h => h) (Or.inl ⟨by rfl, ?hy13r11⟩) hHeld ?rest13r11
                              case hy13r11 => (intro w hSw; (try dsimp only at hSw); go_simp; try with_reducible rfl)
                              try simp only [Act.put, List.setIfInBounds_toArray, List.set_cons_zero, List.set_cons_succ, List.getElem_toArray, List.getElem_cons_zero, List.getElem_cons_succ]
                              refine wpAnyH_take (i := 14) (v := ?v14r11) rfl (by kernel_rfl) (by kernel_rfl) (by kernel_rfl) (fun _ _ _ h => h) (Or.inl ⟨by rfl, ?hy14r11⟩) hHeld ?rest14r11
                              case hy14r11 => (intro w hSw; (try dsimp only at hSw); go_simp; try with_reducible rfl)
                              try simp only [Act.put, List.setIfInBounds_toArray, List.set_cons_zero, List.set_cons_succ, List.getElem_toArray, List.getElem_cons_zero, List.getElem_cons_succ]
                              refine wpAnyH_take (i := 15) (v := ?v15r11) rfl (by kernel_rfl) (by kernel_rfl) (by kernel_rfl) (fun _ _ _ h => h) (Or.inl ⟨by rfl, ?hy15r11⟩) hHeld ?rest15r11
                              case hy15r11 => (intro w hSw; (try dsimp only at hSw); go_simp; try with_reducible rfl)
                              try simp only [Act.put, List.setIfInBounds_toArray, List.set_cons_zero, List.set_cons_succ, List.getElem_toArray, List.getElem_cons_zero, List.getElem_cons_succ]
                              refine wpAnyH_take (i := 16) (v := ?v16r11) rfl (by kernel_rfl) (by kernel_rfl) (by kernel_rfl) (fun _ _ _ h => h) (Or.inl ⟨by rfl, ?hy16r11⟩) hHeld ?rest16r11
                              case hy16r11 => (intro w hSw; (try dsimp only at hSw); go_simp; try with_reducible rfl)
                              try simp only [Act.put, List.setIfInBounds_toArray, List.set_cons_zero, List.set_cons_succ, List.getElem_toArray, List.getElem_cons_zero, List.getElem_cons_succ]
                              refine wpAnyH_take (i := 17) (v := ?v17r11) rfl (by kernel_rfl) (by kernel_rfl) (by kernel_rfl) (fun _ _ _ h => h) (Or.inl ⟨by rfl, ?hy17r11⟩) hHeld ?rest17r11
                              case hy17r11 => (intro w hSw; (try dsimp only at hSw); go_simp; try with_reducible rfl)
                              try simp only [Act.put, List.setIfInBounds_toArray, List.set_cons_zero, List.set_cons_succ, List.getElem_toArray, List.getElem_cons_zero, List.getElem_cons_succ]
                              refine wpAnyH_take (i := 18) (v := ?v18r11) rfl (by kernel_rfl) (by kernel_rfl) (by kernel_rfl) (fun _ _ _ h => h) (Or.inl ⟨by rfl, ?hy18r11⟩) hHeld ?rest18r11
                              case hy18r11 => (intro w hSw; (try dsimp only at hSw); go_simp; try with_reducible rfl)
                              try simp only [Act.put, List.setIfInBounds_toArray, List.set_cons_zero, List.set_cons_succ, List.getElem_toArray, List.getElem_cons_zero, List.getElem_cons_succ]
                              refine wpAnyH_take (i := 19) (v := ?v19r11) rfl (by kernel_rfl) (by kernel_rfl) (by kernel_rfl) (fun _ _ _ h => h) (Or.inl ⟨by rfl, ?hy19r11⟩) hHeld ?rest19r11
                              case hy19r11 => (intro w hSw; (try dsimp only at hSw); go_simp; try with_reducible rfl)
                              try simp only [Act.put, List.setIfInBounds_toArray, List.set_cons_zero, List.set_cons_succ, List.getElem_toArray, List.getElem_cons_zero, List.getElem_cons_succ]
                              refine wpAnyH_take (i := 20) (v := ?v20r11) rfl (by kernel_rfl) (by kernel_rfl) (by kernel_rfl) (fun _ _ _ h => h) (Or.inl ⟨by rfl, ?hy20r11⟩) hHeld ?rest20r11
                              case hy20r11 => (intro w hSw; (try dsimp only at hSw); go_simp; try with_reducible rfl)
                              try simp only [Act.put, List.setIfInBounds_toArray, List.set_cons_zero, List.set_cons_succ, List.getElem_toArray, List.getElem_cons_zero, List.getElem_cons_succ]
                              refine wpAnyH_take (i := 21) (v := ?v21r11) rfl (by kernel_rfl) (by kernel_rfl) (by kernel_rfl) (fun _ _ _ h => h) (Or.inl ⟨by rfl, ?hy21r11⟩) hHeld ?rest21r11
                              case hy21r11 => (intro w hSw; (try dsimp only at hSw); go_simp; try with_reducible rfl)
                              try simp only [Act.put, List.setIfInBounds_toArray, List.set_cons_zero, List.set_cons_succ, List.getElem_toArray, List.getElem_cons_zero, List.getElem_cons_succ]
                              refine wpAnyH_ready (rs := [22]) (by kernel_rfl) (by simp) ?_
                              refine AllReadyH.cons rfl (fun K hK => ?_) AllReadyH.nil
                              go_simp; refine (KN.out _).mono ?_; rintro e w5 ⟨rfl, hb5⟩; have B5 : Hid (Below wr.drew.heap.size wr.drew w5) := hb5; clear hb5; go_wp2_with fail
                              refine hK.out _ _ ?hS22r11 (fun hHeld => ?rest22r11)
                              case hS22r11 => exact ⟨(B5.out.cell (p := ⟨b, off + k * 4, none⟩) (show b < wr.heap.size by omega)).trans q0, (B5.out.cell (p := ⟨b, off + k * 4 + 1, none⟩) (show b < wr.heap.size by omega)).trans q1, (B5.out.cell (p := ⟨w.heap.size, 0, none⟩) (show w.heap.size < wr.heap.size by omega)).trans f0⟩
                              clear hK K
                              try simp only [Act.put, List.setIfInBounds_toArray, List.set_cons_zero, List.set_cons_succ, List.getElem_toArray, List.getElem_cons_zero, List.getElem_cons_succ]
                              refine wpAnyH_take (i := 23) (v := ?v23r11) rfl (by kernel_rfl) (by kernel_rfl) (by kernel_rfl) (fun _ _ _ h => h) (Or.inl ⟨by rfl, ?hy23r11⟩) hHeld ?rest23r11
                              case hy23r11 => (intro w hSw; (try dsimp only at hSw); go_simp; try with_reducible rfl)
                              try simp only [Act.put, List.setIfInBounds_toArray, List.set_cons_zero, List.set_cons_succ, List.getElem_toArray, List.getElem_cons_zero, List.getElem_cons_succ]
                              refine wpAnyH_done (by kernel_rfl) ?_ _
                              refine NoPanic.normal ?_
                              have B6 : Hid (Below w.heap.size w w5) := (HW3.out.drew).trans (B5.out.mono (show w.heap.size ≤ wr.heap.size by omega))
                              clear hHeld
                              go_wp2_with fail
                              go_ret
                              refine ⟨?_, by first | exact B6.out | exact B6.out.drew⟩
                              rw [HR.out]
                              rfl
                          | false =>
                            rw [hin] at KN
                            have HA2 : Hid (anyIn (l.take (k + 1)) x = false) := by
                              show _ = _
                              rw [HAS.out, HA.out, hin, Bool.and_false]
                              rfl
                            rcases hor with hk1 | ⟨hk1, hk3⟩
                            · rw [hk1] at q1
                              go_wp2_with fail
                              refine wp_region_noPanic ?_
                              refine wp_region_held_drew (S := (fun W : World => W.cell? ⟨b, off + k * 4, none⟩ = some (.string (tx y.p)) ∧ W.cell? ⟨b, off + k * 4 + 1, none⟩ = some (.int .i64 1) ∧ W.cell? ⟨w.heap.size, 0, none⟩ = some (.string (tx x.p)))) (by kernel_rfl) ?hSar12 (fun hHeld => ?restar12)
                              case hSar12 => exact ⟨q0, q1, f0⟩
                              case restar12 =>
                              refine wpAnyH_take (i := 0) (v := ?v0r12) rfl (by kernel_rfl) (by kernel_rfl) (by kernel_rfl) (fun _ _ _ h => h) (Or.inl ⟨by rfl, ?hy0r12⟩) hHeld ?rest0r12
                              case hy0r12 => (intro w hSw; (try dsimp only at hSw); go_simp; try with_reducible rfl)
                              try simp only [Act.put, List.setIfInBounds_toArray, List.set_cons_zero, List.set_cons_succ, List.getElem_toArray, List.getElem_cons_zero]
                              refine wpAnyH_take (i := 1) (v := ?v1r12) rfl (by kernel_rfl) (by kernel_rfl) (by kernel_rfl) (fun _ _ _ h => h) (Or.inl ⟨by rfl, ?hy1r12⟩) hHeld ?rest1r12
                              case hy1r12 => (intro w hSw; (try dsimp only at hSw); go_simp; try with_reducible rfl)
                              try simp only [Act.put, List.setIfInBounds_toArray, List.set_cons_zero, List.set_cons_succ, List.getElem_toArray, List.getElem_cons_zero, List.getElem_cons_succ]
                              refine wpAnyH_take (i := 2) (v := ?v2r12) rfl (by kernel_rfl) (by kernel_rfl) (by kernel_rfl) (fun _ _ _ h => h) (Or.inl ⟨by rfl, ?hy2r12⟩) hHeld ?rest2r12
                              case hy2r12 => (intro w hSw; (try dsimp only at hSw); go_simp; try with_reducible rfl)
                              try simp only [Act.put, List.setIfInBounds_toArray, List.set_cons_zero, List.set_cons_succ, List.getElem_toArray, List.getElem_cons_zero, List.getElem_cons_succ]
                              refine wpAnyH_take (i := 3) (v := ?v3r12) rfl (by kernel_rfl) (by kernel_rfl) (by kernel_rfl) (fun _ _ _ h => h) (Or.inl ⟨by rfl, ?hy3r12⟩) hHeld ?rest3r12
                              case hy3r12 => (intro w hSw; (try dsimp only at hSw); go_simp; try with_reducible rfl)
                              try simp only [Act.put, List.setIfInBounds_toArray, List.set_cons_zero, List.set_cons_succ, List.getElem_toArray, List.getElem_cons_zero, List.getElem_cons_succ]
                              refine wpAnyH_take (i := 4) (v := ?v4r12) rfl (by kernel_rfl) (by kernel_rfl) (by kernel_rfl) (fun _ _ _ h => h) (Or.inl ⟨by rfl, ?hy4r12⟩) hHeld ?rest4r12
                              case hy4r12 => (intro w hSw; (try dsimp only at hSw); go_simp; try with_reducible rfl)
                              try simp only [Act.put, List.setIfInBounds_toArray, List.set_cons_zero, List.set_cons_succ, List.getElem_toArray, List.getElem_cons_zero, List.getElem_cons_succ]
                              refine wpAnyH_take (i := 5) (v := ?v5r12) rfl (by kernel_rfl) (by kernel_rfl) (by kernel_rfl) (fun _ _ _ h => h) (Or.inl ⟨by rfl, ?hy5r12⟩) hHeld ?rest5r12
                              case hy5r12 => (intro w hSw; (try dsimp only at hSw); go_simp; try with_reducible rfl)
                              try simp only [Act.put, List.setIfInBounds_toArray, List.set_cons_zero, List.set_cons_succ, List.getElem_toArray, List.getElem_cons_zero, List.getElem_cons_succ]
                              refine wpAnyH_take (i := 6) (v := ?v6r12) rfl (by kernel_rfl) (by kernel_rfl) (by kernel_rfl) (fun _ _ _ h => h) (Or.inl ⟨by rfl, ?hy6r12⟩) hHeld ?rest6r12
                              case hy6r12 => (intro w hSw; (try dsimp only at hSw); go_simp; try with_reducible rfl)
                              try simp only [Act.put, List.setIfInBounds_toArray, List.set_cons_zero, List.set_cons_succ, List.getElem_toArray, List.getElem_cons_zero, List.getElem_cons_succ]
                              refine wpAnyH_take (i := 7) (v := undef) rfl (by kernel_rfl) (by kernel_rfl) (by kernel_rfl) (fun _ _ _ h => h) (Or.inr ⟨by rfl, rfl⟩) hHeld ?rest7r12
                              case rest7r12 =>
                              try simp only [Act.put, List.setIfInBounds_toArray, List.set_cons_zero, List.set_cons_succ, List.getElem_toArray, List.getElem_cons_zero, List.getElem_cons_succ]
                              refine wpAnyH_take (i := 8) (v := undef) rfl (by kernel_rfl) (by kernel_rfl) (by kernel_rfl) (fun _ _ _ h => h) (Or.inr ⟨by rfl, rfl⟩) hHeld ?rest8r12
                              case rest8r12 =>
                              try simp only [Act.put, List.setIfInBounds_toArray, List.set_cons_zero, List.set_cons_succ, List.getElem_toArray, List.getElem_cons_zero, List.getElem_cons_succ]
                              refine wpAnyH_take (i := 9) (v := undef) rfl (by kernel_rfl) (by kernel_rfl) (by kernel_rfl) (fun _ _ _ h => h) (Or.inr ⟨by rfl, rfl⟩) hHeld ?rest9r12
                              case rest9r12 =>
                              try simp only [Act.put, List.setIfInBounds_toArray, List.set_cons_zero, List.set_cons_succ, List.getElem_toArray, List.getElem_cons_zero, List.getElem_cons_succ]
                              refine wpAnyH_take (i := 10) (v := undef) rfl (by kernel_rfl) (by kernel_rfl) (by kernel_rfl) (fun _ _ _ h => h) (Or.inr ⟨by rfl, rfl⟩) hHeld ?rest10r12
                              case rest10r12 =>
                              try simp only [Act.put, List.setIfInBounds_toArray, List.set_cons_zero, List.set_cons_succ, List.getElem_toArray, List.getElem_cons_zero, List.getElem_cons_succ]
                              refine wpAnyH_take (i := 11) (v := undef) rfl (by kernel_rfl) (by kernel_rfl) (by kernel_rfl) (fun _ _ _ h => h) (Or.inr ⟨by rfl, rfl⟩) hHeld ?rest11r12
                              case rest11r12 =>
                              try simp only [Act.put, List.setIfInBounds_toArray, List.set_cons_zero, List.set_cons_succ, List.getElem_toArray, List.getElem_cons_zero, List.getElem_cons_succ]
                              refine wpAnyH_take (i := 12) (v := undef) rfl (by kernel_rfl) (by kernel_rfl) (by kernel_rfl) (fun _ _ _ h => h) (Or.inr ⟨by rfl, rfl⟩) hHeld ?rest12r12
                              case rest12r12 =>
                              try simp only [Act.put, List.setIfInBounds_toArray, List.set_cons_zero, List.set_cons_succ, List.getElem_toArray, List.getElem_cons_zero, List.getElem_cons_succ]
                              refine wpAnyH_take (i := 13) (v := ?v13r12) rfl (by kernel_rfl) (by kernel_rfl) (by kernel_rfl) (fun _ _ _ h => h) (Or.inl ⟨by rfl, ?hy13r12⟩) hHeld ?rest13r12
                              case hy13r12 => (intro w hSw; (try dsimp only at hSw); go_simp; try with_reducible rfl)
                              try simp only [Act.put, List.setIfInBounds_toArray, List.set_cons_zero, List.set_cons_succ, List.getElem_toArray, List.getElem_cons_zero, List.getElem_cons_succ]
                              refine wpAnyH_take (i := 14) (v := ?v14r12) rfl (by kernel_rfl) (by kernel_rfl) (by kernel_rfl) (fun _ _ _ h => h) (Or.inl ⟨by rfl, ?hy14r12⟩) hHeld ?rest14r12
                              case hy14r12 => (intro w hSw; (try dsimp only at hSw); go_simp; try with_reducible rfl)
                              try simp only [Act.put, List.setIfInBounds_toArray, List.set_cons_zero, List.set_cons_succ, List.getElem_toArray, List.getElem_cons_zero, List.getElem_cons_succ]
                              refine wpAnyH_take (i := 15) (v := ?v15r12) rfl (by kernel_rfl) (by kernel_rfl) (by kernel_rfl) (fun _ _ _ h => h) (Or.inl ⟨by rfl, ?hy15r12⟩) hHeld ?rest15r12
                              case hy15r12 => (intro w hSw; (try dsimp only at hSw); go_simp; try with_reducible rfl)
                              try simp only [Act.put, List.setIfInBounds_toArray, List.set_cons_zero, List.set_cons_succ, List.getElem_toArray, List.getElem_cons_zero, List.getElem_cons_succ]
                              refine wpAnyH_take (i := 16) (v := ?v16r12) rfl (by kernel_rfl) (by kernel_rfl) (by kernel_rfl) (fun _ _ _ h => h) (Or.inl ⟨by rfl, ?hy16r12⟩) hHeld ?rest16r12
                              case hy16r12 => (intro w hSw; (try dsimp only at hSw); go_simp; try with_reducible rfl)
                              try simp only [Act.put, List.setIfInBounds_toArray, List.set_cons_zero, List.set_cons_succ, List.getElem_toArray, List.getElem_cons_zero, List.getElem_cons_succ]
                              refine wpAnyH_take (i := 17) (v := ?v17r12) rfl (by kernel_rfl) (by kernel_rfl) (by kernel_rfl) (fun _ _ _ h => h) (Or.inl ⟨by rfl, ?hy17r12⟩) hHeld ?rest17r12
                              case hy17r12 => (intro w hSw; (try dsimp only at hSw); go_simp; try with_reducible rfl)
                              try simp only [Act.put, List.setIfInBounds_toArray, List.set_cons_zero, List.set_cons_succ, List.getElem_toArray, List.getElem_cons_zero, List.getElem_cons_succ]
                              refine wpAnyH_take (i := 18) (v := ?v18r12) rfl (by kernel_rfl) (by kernel_rfl) (by kernel_rfl) (fun _ _ _ h => h) (Or.inl ⟨by rfl, ?hy18r12⟩) hHeld ?rest18r12
                              case hy18r12 => (intro w hSw; (try dsimp only at hSw); go_simp; try with_reducible rfl)
                              try simp only [Act.put, List.setIfInBounds_toArray, List.set_cons_zero, List.set_cons_succ, List.getElem_toArray, List.getElem_cons_zero, List.getElem_cons_succ]
                              refine wpAnyH_take (i := 19) (v := ?v19r12) rfl (by kernel_rfl) (by kernel_rfl) (by kernel_rfl) (fun _ _ _ h => h) (Or.inl ⟨by rfl, ?hy19r12⟩) hHeld ?rest19r12
                              case hy19r12 => (intro w hSw; (try dsimp only at hSw); go_simp; try with_reducible rfl)
                              try simp only [Act.put, List.setIfInBounds_toArray, List.set_cons_zero, List.set_cons_succ, List.getElem_toArray, List.getElem_cons_zero, List.getElem_cons_succ]
                              refine wpAnyH_take (i := 20) (v := ?v20r12) rfl (by kernel_rfl) (by kernel_rfl) (by kernel_rfl) (fun _ _ _ h => h) (Or.inl ⟨by rfl, ?hy20r12⟩) hHeld ?rest20r12
                              case hy20r12 => (intro w hSw; (try dsimp only at hSw); go_simp; try with_reducible rfl)
                              try simp only [Act.put, List.setIfInBounds_toArray, List.set_cons_zero, List.set_cons_succ, List.getElem_toArray, List.getElem_cons_zero, List.getElem_cons_succ]
                              refine wpAnyH_take (i := 21) (v := ?v21r12) rfl (by kernel_rfl) (by kernel_rfl) (by kernel_rfl) (fun _ _ _ h => h) (Or.inl ⟨by rfl, ?hy21r12⟩) hHeld ?rest21r12
                              case hy21r12 => (intro w hSw; (try dsimp only at hSw); go_simp; try with_reducible rfl)
                              try simp only [Act.put, List.setIfInBounds_toArray, List.set_cons_zero, List.set_cons_succ, List.getElem_toArray, List.getElem_cons_zero, List.getElem_cons_succ]
                              refine wpAnyH_ready (rs := [22]) (by kernel_rfl) (by simp) ?_
                              refine AllReadyH.cons rfl (fun K hK => ?_) AllReadyH.nil
                              go_simp; refine (KN.out _).mono ?_; rintro e w5 ⟨rfl, hb5⟩; have B5 : Hid (Below wr.drew.heap.size wr.drew w5) := hb5; clear hb5; go_wp2_with fail
                              refine hK.out _ _ ?hS22r12 (fun hHeld => ?rest22r12)
                              case hS22r12 => exact ⟨(B5.out.cell (p := ⟨b, off + k * 4, none⟩) (show b < wr.heap.size by omega)).trans q0, (B5.out.cell (p := ⟨b, off + k * 4 + 1, none⟩) (show b < wr.heap.size by omega)).trans q1, (B5.out.cell (p := ⟨w.heap.size, 0, none⟩) (show w.heap.size < wr.heap.size by omega)).trans f0⟩
                              clear hK K
                              try simp only [Act.put, List.setIfInBounds_toArray, List.set_cons_zero, List.set_cons_succ, List.getElem_toArray, List.getElem_cons_zero, List.getElem_cons_succ]
                              refine wpAnyH_take (i := 23) (v := ?v23r12) rfl (by kernel_rfl) (by kernel_rfl) (by kernel_rfl) (fun _ _ _ h => h) (Or.inl ⟨by rfl, ?hy23r12⟩) hHeld ?rest23r12
                              case hy23r12 => (intro w hSw; (try dsimp only at hSw); go_simp; try with_reducible rfl)
                              try simp only [Act.put, List.setIfInBounds_toArray, List.set_cons_zero, List.set_cons_succ, List.getElem_toArray, List.getElem_cons_zero, List.getElem_cons_succ]
                              refine wpAnyH_done (by kernel_rfl) ?_ _
                              refine NoPanic.normal ?_
                              have B6 : Hid (Below w.heap.size w w5) := (HW3.out.drew).trans (B5.out.mono (show w.heap.size ≤ wr.heap.size by omega))
                              have G6 : Hid (w5.heap[w.heap.size]? = some (.cells (ec (tx x.p) x.k x.m (tx x.b)) 34)) := (B5.out.block w.heap.size (show w.heap.size < wr.heap.size by omega)).trans HG3.out
                              clear hHeld
                              go_wp2_with fail
                              go_roundg (j - (k + 1))
                              case measure => omega
                              case rel => exact ⟨k + 1, by omega, rfl, by go_num, HA2, (by first | exact B6.out | exact B6.out.drew), G6⟩
                            · rw [hk3] at q1
                              go_wp2_with fail
                              refine wp_region_noPanic ?_
                              refine wp_region_held_drew (S := (fun W : World => W.cell? ⟨b, off + k * 4, none⟩ = some (.string (tx y.p)) ∧ W.cell? ⟨b, off + k * 4 + 1, none⟩ = some (.int .i64 3) ∧ W.cell? ⟨w.heap.size, 0, none⟩ = some (.string (tx x.p)))) (by kernel_rfl) ?hSar13 (fun hHeld => ?restar13)
                              case hSar13 => exact ⟨q0, q1, f0⟩
                              case restar13 =>
                              refine wpAnyH_take (i := 0) (v := ?v0r13) rfl (by kernel_rfl) (by kernel_rfl) (by kernel_rfl) (fun _ _ _ h => h) (Or.inl ⟨by rfl, ?hy0r13⟩) hHeld ?rest0r13
                              case hy0r13 => (intro w hSw; (try dsimp only at hSw); go_simp; try with_reducible rfl)
                              try simp only [Act.put, List.setIfInBounds_toArray, List.set_cons_zero, List.set_cons_succ, List.getElem_toArray, List.getElem_cons_zero]
                              refine wpAnyH_take (i := 1) (v := ?v1r13) rfl (by kernel_rfl) (by kernel_rfl) (by kernel_rfl) (fun _ _ _ h => h) (Or.inl ⟨by rfl, ?hy1r13⟩) hHeld ?rest1r13
                              case hy1r13 => (intro w hSw; (try dsimp only at hSw); go_simp; try with_reducible rfl)
                              try simp only [Act.put, List.setIfInBounds_toArray, List.set_cons_zero, List.set_cons_succ, List.getElem_toArray, List.getElem_cons_zero, List.getElem_cons_succ]
                              refine wpAnyH_take (i := 2) (v := ?v2r13) rfl (by kernel_rfl) (by kernel_rfl) (by kernel_rfl) (fun _ _ _ h => h) (Or.inl ⟨by rfl, ?hy2r13⟩) hHeld ?rest2r13
                              case hy2r13 => (intro w hSw; (try dsimp only at hSw); go_simp; try with_reducible rfl)
                              try simp only [Act.put, List.setIfInBounds_toArray, List.set_cons_zero, List.set_cons_succ, List.getElem_toArray, List.getElem_cons_zero, List.getElem_cons_succ]
                              refine wpAnyH_take (i := 3) (v := ?v3r13) rfl (by kernel_rfl) (by kernel_rfl) (by kernel_rfl) (fun _ _ _ h => h) (Or.inl ⟨by rfl, ?hy3r13⟩) hHeld ?rest3r13
                              case hy3r13 => (intro w hSw; (try dsimp only at hSw); go_simp; try with_reducible rfl)
                              try simp only [Act.put, List.setIfInBounds_toArray, List.set_cons_zero, List.set_cons_succ, List.getElem_toArray, List.getElem_cons_zero, List.getElem_cons_succ]
                              refine wpAnyH_take (i := 4) (v := ?v4r13) rfl (by kernel_rfl) (by kernel_rfl) (by kernel_rfl) (fun _ _ _ h => h) (Or.inl ⟨by rfl, ?hy4r13⟩) hHeld ?rest4r13
                              case hy4r13 => (intro w hSw; (try dsimp only at hSw); go_simp; try with_reducible rfl)
                              try simp only [Act.put, List.setIfInBounds_toArray, List.set_cons_zero, List.set_cons_succ, List.getElem_toArray, List.getElem_cons_zero, List.getElem_cons_succ]
                              refine wpAnyH_take (i := 5) (v := ?v5r13) rfl (by kernel_rfl) (by kernel_rfl) (by kernel_rfl) (fun _ _ _ h => h) (Or.inl ⟨by rfl, ?hy5r13⟩) hHeld ?rest5r13
                              case hy5r13 => (intro w hSw; (try dsimp only at hSw); go_simp; try with_reducible rfl)
                              try simp only [Act.put, List.setIfInBounds_toArray, List.set_cons_zero, List.set_cons_succ, List.getElem_toArray, List.getElem_cons_zero, List.getElem_cons_succ]
                              refine wpAnyH_take (i := 6) (v := ?v6r13) rfl (by kernel_rfl) (by kernel_rfl) (by kernel_rfl) (fun _ _ _ h => h) (Or.inl ⟨by rfl, ?hy6r13⟩) hHeld ?rest6r13
                              case hy6r13 => (intro w hSw; (try dsimp only at hSw); go_simp; try with_reducible rfl)
                              try simp only [Act.put, List.setIfInBounds_toArray, List.set_cons_zero, List.set_cons_succ, List.getElem_toArray, List.getElem_cons_zero, List.getElem_cons_succ]
                              refine wpAnyH_take (i := 7) (v := ?v7r13) rfl (by kernel_rfl) (by kernel_rfl) (by kernel_rfl) (fun _ _ _ h => h) (Or.inl ⟨by rfl, ?hy7r13⟩) hHeld ?rest7r13
                              case hy7r13 => (intro w hSw; (try dsimp only at hSw); go_simp; try with_reducible rfl)
                              try simp only [Act.put, List.setIfInBounds_toArray, List.set_cons_zero, List.set_cons_succ, List.getElem_toArray, List.getElem_cons_zero, List.getElem_cons_succ]
                              refine wpAnyH_take (i := 8) (v := ?v8r13) rfl (by kernel_rfl) (by kernel_rfl) (by kernel_rfl) (fun _ _ _ h => h) (Or.inl ⟨by rfl, ?hy8r13⟩) hHeld ?rest8r13
                              case hy8r13 => (intro w hSw; (try dsimp only at hSw); go_simp; try with_reducible rfl)
                              try simp only [Act.put, List.setIfInBounds_toArray, List.set_cons_zero, List.set_cons_succ, List.getElem_toArray, List.getElem_cons_zero, List.getElem_cons_succ]
                              refine wpAnyH_take (i := 9) (v := ?v9r13) rfl (by kernel_rfl) (by kernel_rfl) (by kernel_rfl) (fun _ _ _ h => h) (Or.inl ⟨by rfl, ?hy9r13⟩) hHeld ?rest9r13
                              case hy9r13 => (intro w hSw; (try dsimp only at hSw); go_simp; try with_reducible rfl)
                              try simp only [Act.put, List.setIfInBounds_toArray, List.set_cons_zero, List.set_cons_succ, List.getElem_toArray, List.getElem_cons_zero, List.getElem_cons_succ]
                              refine wpAnyH_take (i := 10) (v := ?v10r13) rfl (by kernel_rfl) (by kernel_rfl) (by kernel_rfl) (fun _ _ _ h => h) (Or.inl ⟨by rfl, ?hy10r13⟩) hHeld ?rest10r13
                              case hy10r13 => (intro w hSw; (try dsimp only at hSw); go_simp; try with_reducible rfl)
                              try simp only [Act.put, List.setIfInBounds_toArray, List.set_cons_zero, List.set_cons_succ, List.getElem_toArray, List.getElem_cons_zero, List.getElem_cons_succ]
                              refine wpAnyH_take (i := 11) (v := ?v11r13) rfl (by kernel_rfl) (by kernel_rfl) (by kernel_rfl) (fun _ _ _ h => h) (Or.inl ⟨by rfl, ?hy11r13⟩) hHeld ?rest11r13
                              case hy11r13 => (intro w hSw; (try dsimp only at hSw); go_simp; try with_reducible rfl)
                              try simp only [Act.put, List.setIfInBounds_toArray, List.set_cons_zero, List.set_cons_succ, List.getElem_toArray, List.getElem_cons_zero, List.getElem_cons_succ]
                              refine wpAnyH_take (i := 12) (v := ?v12r13) rfl (by kernel_rfl) (by kernel_rfl) (by kernel_rfl) (fun _ _ _ h => h) (Or.inl ⟨by rfl, ?hy12r13⟩) hHeld ?rest12r13
                              case hy12r13 => (intro w hSw; (try dsimp only at hSw); go_simp; try with_reducible rfl)
                              try simp only [Act.put, List.setIfInBounds_toArray, List.set_cons_zero, List.set_cons_succ, List.getElem_toArray, List.getElem_cons_zero, List.getElem_cons_succ]
                              refine wpAnyH_take (i := 13) (v := ?v13r13) rfl (by kernel_rfl) (by kernel_rfl) (by kernel_rfl) (fun _ _ _ h => h) (Or.inl ⟨by rfl, ?hy13r13⟩) hHeld ?rest13r13
                              case hy13r13 => (intro w hSw; (try dsimp only at hSw); go_simp; try with_reducible rfl)
                              try simp only [Act.put, List.setIfInBounds_toArray, List.set_cons_zero, List.set_cons_succ, List.getElem_toArray, List.getElem_cons_zero, List.getElem_cons_succ]
                              refine wpAnyH_take (i := 14) (v := ?v14r13) rfl (by kernel_rfl) (by kernel_rfl) (by kernel_rfl) (fun _ _ _ h => h) (Or.inl ⟨by rfl, ?hy14r13⟩) hHeld ?rest14r13
                              case hy14r13 => (intro w hSw; (try dsimp only at hSw); go_simp; try with_reducible rfl)
                              try simp only [Act.put, List.setIfInBounds_toArray, List.set_cons_zero, List.set_cons_succ, List.getElem_toArray, List.getElem_cons_zero, List.getElem_cons_succ]
                              refine wpAnyH_take (i := 15) (v := ?v15r13) rfl (by kernel_rfl) (by kernel_rfl) (by kernel_rfl) (fun _ _ _ h => h) (Or.inl ⟨by rfl, ?hy15r13⟩) hHeld ?rest15r13
                              case hy15r13 => (intro w hSw; (try dsimp only at hSw); go_simp; try with_reducible rfl)
                              try simp only [Act.put, List.setIfInBounds_toArray, List.set_cons_zero, List.set_cons_succ, List.getElem_toArray, List.getElem_cons_zero, List.getElem_cons_succ]
                              refine wpAnyH_take (i := 16) (v := ?v16r13) rfl (by kernel_rfl) (by kernel_rfl) (by kernel_rfl) (fun _ _ _ h => h) (Or.inl ⟨by rfl, ?hy16r13⟩) hHeld ?rest16r13
                              case hy16r13 => (intro w hSw; (try dsimp only at hSw); go_simp; try with_reducible rfl)
                              try simp only [Act.put, List.setIfInBounds_toArray, List.set_cons_zero, List.set_cons_succ, List.getElem_toArray, List.getElem_cons_zero, List.getElem_cons_succ]
                              refine wpAnyH_take (i := 17) (v := ?v17r13) rfl (by kernel_rfl) (by kernel_rfl) (by kernel_rfl) (fun _ _ _ h => h) (Or.inl ⟨by rfl, ?hy17r13⟩) hHeld ?rest17r13
                              case hy17r13 => (intro w hSw; (try dsimp only at hSw); go_simp; try with_reducible rfl)
                              try simp only [Act.put, List.setIfInBounds_toArray, List.set_cons_zero, List.set_cons_succ, List.getElem_toArray, List.getElem_cons_zero, List.getElem_cons_succ]
                              refine wpAnyH_take (i := 18) (v := ?v18r13) rfl (by kernel_rfl) (by kernel_rfl) (by kernel_rfl) (fun _ _ _ h => h) (Or.inl ⟨by rfl, ?hy18r13⟩) hHeld ?rest18r13
                              case hy18r13 => (intro w hSw; (try dsimp only at hSw); go_simp; try with_reducible rfl)
                              try simp only [Act.put, List.setIfInBounds_toArray, List.set_cons_zero, List.set_cons_succ, List.getElem_toArray, List.getElem_cons_zero, List.getElem_cons_succ]
                              refine wpAnyH_take (i := 19) (v := ?v19r13) rfl (by kernel_rfl) (by kernel_rfl) (by kernel_rfl) (fun _ _ _ h => h) (Or.inl ⟨by rfl, ?hy19r13⟩) hHeld ?rest19r13
                              case hy19r13 => (intro w hSw; (try dsimp only at hSw); go_simp; try with_reducible rfl)
                              try simp only [Act.put, List.setIfInBounds_toArray, List.set_cons_zero, List.set_cons_succ, List.getElem_toArray, List.getElem_cons_zero, List.getElem_cons_succ]
                              refine wpAnyH_take (i := 20) (v := ?v20r13) rfl (by kernel_rfl) (by kernel_rfl) (by kernel_rfl) (fun _ _ _ h => h) (Or.inl ⟨by rfl, ?hy20r13⟩) hHeld ?rest20r13
                              case hy20r13 => (intro w hSw; (try dsimp only at hSw); go_simp; try with_reducible rfl)
                              try simp only [Act.put, List.setIfInBounds_toArray, List.set_cons_zero, List.set_cons_succ, List.getElem_toArray, List.getElem_cons_zero, List.getElem_cons_succ]
                              refine wpAnyH_take (i := 21) (v := ?v21r13) rfl (by kernel_rfl) (by kernel_rfl) (by kernel_rfl) (fun _ _ _ h => h) (Or.inl ⟨by rfl, ?hy21r13⟩) hHeld ?rest21r13
                              case hy21r13 => (intro w hSw; (try dsimp only at hSw); go_simp; try with_reducible rfl)
                              try simp only [Act.put, List.setIfInBounds_toArray, List.set_cons_zero, List.set_cons_succ, List.getElem_toArray, List.getElem_cons_zero, List.getElem_cons_succ]
                              refine wpAnyH_ready (rs := [22]) (by kernel_rfl) (by simp) ?_
                              refine AllReadyH.cons rfl (fun K hK => ?_) AllReadyH.nil
                              go_simp; refine (KN.out _).mono ?_; rintro e w5 ⟨rfl, hb5⟩; have B5 : Hid (Below wr.drew.heap.size wr.drew w5) := hb5; clear hb5; go_wp2_with fail
                              refine hK.out _ _ ?hS22r13 (fun hHeld => ?rest22r13)
                              case hS22r13 => exact ⟨(B5.out.cell (p := ⟨b, off + k * 4, none⟩) (show b < wr.heap.size by omega)).trans q0, (B5.out.cell (p := ⟨b, off + k * 4 + 1, none⟩) (show b < wr.heap.size by omega)).trans q1, (B5.out.cell (p := ⟨w.heap.size, 0, none⟩) (show w.heap.size < wr.heap.size by omega)).trans f0⟩
                              clear hK K
                              try simp only [Act.put, List.setIfInBounds_toArray, List.set_cons_zero, List.set_cons_succ, List.getElem_toArray, List.getElem_cons_zero, List.getElem_cons_succ]
                              refine wpAnyH_take (i := 23) (v := ?v23r13) rfl (by kernel_rfl) (by kernel_rfl) (by kernel_rfl) (fun _ _ _ h => h) (Or.inl ⟨by rfl, ?hy23r13⟩) hHeld ?rest23r13
                              case hy23r13 => (intro w hSw; (try dsimp only at hSw); go_simp; try with_reducible rfl)
                              try simp only [Act.put, List.setIfInBounds_toArray, List.set_cons_zero, List.set_cons_succ, List.getElem_toArray, List.getElem_cons_zero, List.getElem_cons_succ]
                              refine wpAnyH_done (by kernel_rfl) ?_ _
                              refine NoPanic.normal ?_
                              have B6 : Hid (Below w.heap.size w w5) := (HW3.out.drew).trans (B5.out.mono (show w.heap.size ≤ wr.heap.size by omega))
                              have G6 : Hid (w5.heap[w.heap.size]? = some (.cells (ec (tx x.p) x.k x.m (tx x.b)) 34)) := (B5.out.block w.heap.size (show w.heap.size < wr.heap.size by omega)).trans HG3.out
                              clear hHeld
                              go_wp2_with fail
                              go_roundg (j - (k + 1))
                              case measure => omega
                              case rel => exact ⟨k + 1, by omega, rfl, by go_num, HA2, (by first | exact B6.out | exact B6.out.drew), G6⟩
                        · have hs' : shutB y = false := by simpa using hs
                          rw [hs'] at hsh
                          have hn1 : decide (y.k = 1) = false := by
                            cases hd : decide (y.k = 1) with
                            | true => rw [hd] at hsh; simp at hsh
                            | false => rfl
                          have hn3 : decide (y.k = 3) = false := by
                            cases hd : decide (y.k = 3) with
                            | true => rw [hd] at hsh; simp at hsh
                            | false => rfl
                          have HA2 : Hid (anyIn (l.take (k + 1)) x = false) := by
                            show _ = _
                            rw [HAS.out, HA.out, hs']
                            rfl
                          have hq1 : ¬ y.k = 1 := by simpa using hn1
                          have hq3 : ¬ y.k = 3 := by simpa using hn3
                          have hb1 : (y.k == 1) = false := by simp [hq1]
                          have hb3 : (y.k == 3) = false := by simp [hq3]
                          clear hsh hs hs'
                          go_wp2_with fail
                          go_quiet (fail)
                          go_wp2_with fail
                          go_roundg (j - (k + 1))
                          case measure => omega
                          case rel => exact ⟨k + 1, by omega, rfl, by go_num, HA2, below_drewN HW3.out _, by show _ = _; rw [World.heap_drewN]; exact HG3.out⟩
                      · have e : k = j := by omega
                        subst e
                        have k1 : ¬ (k : Int) < (k : Int) := by omega
                        have HR : Hid (r = 0) := by
                          show _ = _
                          rw [HW2.out, if_neg HNL.out, if_neg (by rw [HA.out]; simp)]
                        go_wp2_with fail
                        go_ret
                        refine ⟨?_, HW3.out⟩
                        rw [HR.out]
                        rfl
                  · have e13 : decide (x.k = 3) = false := by simp [h2]
                    have e12 : (x.b == []) = true := by simp [h3]
                    clear e11 h3
                    go_wp2_with fail
                    refine wp_region_noPanic ?_
                    refine wp_region_held_drew (S := (fun W : World => W.cell? ⟨b, off + (j - 1) * 4, none⟩ = some (.string (tx y.p)) ∧ W.cell? ⟨w.heap.size, 0, none⟩ = some (.string (tx x.p)))) (by kernel_rfl) ?hSap14 (fun hHeld => ?restap14)
                    case hSap14 => exact ⟨q0, d0⟩
                    case restap14 =>
                    refine wpAnyH_take (i := 0) (v := ?v0p14) rfl (by kernel_rfl) (by kernel_rfl) (by kernel_rfl) (fun _ _ _ h => h) (Or.inl ⟨by rfl, ?hy0p14⟩) hHeld ?rest0p14
                    case hy0p14 => (intro w hSw; (try dsimp only at hSw); go_simp; try with_reducible rfl)
                    try simp only [Act.put, List.setIfInBounds_toArray, List.set_cons_zero, List.set_cons_succ, List.getElem_toArray, List.getElem_cons_zero]
                    refine wpAnyH_take (i := 1) (v := ?v1p14) rfl (by kernel_rfl) (by kernel_rfl) (by kernel_rfl) (fun _ _ _ h => h) (Or.inl ⟨by rfl, ?hy1p14⟩) hHeld ?rest1p14
                    case hy1p14 => (intro w hSw; (try dsimp only at hSw); go_simp; try with_reducible rfl)
                    try simp only [Act.put, List.setIfInBounds_toArray, List.set_cons_zero, List.set_cons_succ, List.getElem_toArray, List.getElem_cons_zero, List.getElem_cons_succ]
                    refine wpAnyH_take (i := 2) (v := ?v2p14) rfl (by kernel_rfl) (by kernel_rfl) (by kernel_rfl) (fun _ _ _ h => h) (Or.inl ⟨by rfl, ?hy2p14⟩) hHeld ?rest2p14
                    case hy2p14 => (intro w hSw; (try dsimp only at hSw); go_simp; try with_reducible rfl)
                    try simp only [Act.put, List.setIfInBounds_toArray, List.set_cons_zero, List.set_cons_succ, List.getElem_toArray, List.getElem_cons_zero, List.getElem_cons_succ]
                    refine wpAnyH_take (i := 3) (v := ?v3p14) rfl (by kernel_rfl) (by kernel_rfl) (by kernel_rfl) (fun _ _ _ h => h) (Or.inl ⟨by rfl, ?hy3p14⟩) hHeld ?rest3p14
                    case hy3p14 => (intro w hSw; (try dsimp only at hSw); go_simp; try with_reducible rfl)
                    try simp only [Act.put, List.setIfInBounds_toArray, List.set_cons_zero, List.set_cons_succ, List.getElem_toArray, List.getElem_cons_zero, List.getElem_cons_succ]
                    refine wpAnyH_take (i := 4) (v := ?v4p14) rfl (by kernel_rfl) (by kernel_rfl) (by kernel_rfl) (fun _ _ _ h => h) (Or.inl ⟨by rfl, ?hy4p14⟩) hHeld ?rest4p14
                    case hy4p14 => (intro w hSw; (try dsimp only at hSw); go_simp; try with_reducible rfl)
                    try simp only [Act.put, List.setIfInBounds_toArray, List.set_cons_zero, List.set_cons_succ, List.getElem_toArray, List.getElem_cons_zero, List.getElem_cons_succ]
                    refine wpAnyH_take (i := 5) (v := ?v5p14) rfl (by kernel_rfl) (by kernel_rfl) (by kernel_rfl) (fun _ _ _ h => h) (Or.inl ⟨by rfl, ?hy5p14⟩) hHeld ?rest5p14
                    case hy5p14 => (intro w hSw; (try dsimp only at hSw); go_simp; try with_reducible rfl)
                    try simp only [Act.put, List.setIfInBounds_toArray, List.set_cons_zero, List.set_cons_succ, List.getElem_toArray, List.getElem_cons_zero, List.getElem_cons_succ]
                    refine wpAnyH_take (i := 6) (v := ?v6p14) rfl (by kernel_rfl) (by kernel_rfl) (by kernel_rfl) (fun _ _ _ h => h) (Or.inl ⟨by rfl, ?hy6p14⟩) hHeld ?rest6p14
                    case hy6p14 => (intro w hSw; (try dsimp only at hSw); go_simp; try with_reducible rfl)
                    try simp only [Act.put, List.setIfInBounds_toArray, List.set_cons_zero, List.set_cons_succ, List.getElem_toArray, List.getElem_cons_zero, List.getElem_cons_succ]
                    refine wpAnyH_take (i := 7) (v := ?v7p14) rfl (by kernel_rfl) (by kernel_rfl) (by kernel_rfl) (fun _ _ _ h => h) (Or.inl ⟨by rfl, ?hy7p14⟩) hHeld ?rest7p14
                    case hy7p14 => (intro w hSw; (try dsimp only at hSw); go_simp; try with_reducible rfl)
                    try simp only [Act.put, List.setIfInBounds_toArray, List.set_cons_zero, List.set_cons_succ, List.getElem_toArray, List.getElem_cons_zero, List.getElem_cons_succ]
                    refine wpAnyH_take (i := 8) (v := ?v8p14) rfl (by kernel_rfl) (by kernel_rfl) (by kernel_rfl) (fun _ _ _ h => h) (Or.inl ⟨by rfl, ?hy8p14⟩) hHeld ?rest8p14
                    case hy8p14 => (intro w hSw; (try dsimp only at hSw); go_simp; try with_reducible rfl)
                    try simp only [Act.put, List.setIfInBounds_toArray, List.set_cons_zero, List.set_cons_succ, List.getElem_toArray, List.getElem_cons_zero, List.getElem_cons_succ]
                    refine wpAnyH_take (i := 9) (v := ?v9p14) rfl (by kernel_rfl) (by kernel_rfl) (by kernel_rfl) (fun _ _ _ h => h) (Or.inl ⟨by rfl, ?hy9p14⟩) hHeld ?rest9p14
                    case hy9p14 => (intro w hSw; (try dsimp only at hSw); go_simp; try with_reducible rfl)
                    try simp only [Act.put, List.setIfInBounds_toArray, List.set_cons_zero, List.set_cons_succ, List.getElem_toArray, List.getElem_cons_zero, List.getElem_cons_succ]
                    refine wpAnyH_take (i := 10) (v := ?v10p14) rfl (by kernel_rfl) (by kernel_rfl) (by kernel_rfl) (fun _ _ _ h => h) (Or.inl ⟨by rfl, ?hy10p14⟩) hHeld ?rest10p14
                    case hy10p14 => (intro w hSw; (try dsimp only at hSw); go_simp; try with_reducible rfl)
                    try simp only [Act.put, List.setIfInBounds_toArray, List.set_cons_zero, List.set_cons_succ, List.getElem_toArray, List.getElem_cons_zero, List.getElem_cons_succ]
                    refine wpAnyH_ready (rs := [11]) (by kernel_rfl) (by simp) ?_
                    refine AllReadyH.cons rfl (fun K hK => ?_) AllReadyH.nil
                    go_simp; refine (KL.out _).mono ?_; rintro e w3 ⟨rfl, hb3⟩; have B3 : Hid (Below w1.drew.heap.size w1.drew w3) := hb3; clear hb3; go_wp2_with fail
                    refine hK.out _ _ ?hS11p14 (fun hHeld => ?rest11p14)
                    case hS11p14 => exact ⟨(B3.out.cell (p := ⟨b, off + (j - 1) * 4, none⟩) (show b < w1.heap.size by omega)).trans q0, (B3.out.cell (p := ⟨w.heap.size, 0, none⟩) (show w.heap.size < w1.heap.size by omega)).trans d0⟩
                    clear hK K
                    try simp only [Act.put, List.setIfInBounds_toArray, List.set_cons_zero, List.set_cons_succ, List.getElem_toArray, List.getElem_cons_zero, List.getElem_cons_succ]
                    refine wpAnyH_take (i := 12) (v := ?v12p14) rfl (by kernel_rfl) (by kernel_rfl) (by kernel_rfl) (fun _ _ _ h => h) (Or.inl ⟨by rfl, ?hy12p14⟩) hHeld ?rest12p14
                    case hy12p14 => (intro w hSw; (try dsimp only at hSw); go_simp; try with_reducible rfl)
                    try simp only [Act.put, List.setIfInBounds_toArray, List.set_cons_zero, List.set_cons_succ, List.getElem_toArray, List.getElem_cons_zero, List.getElem_cons_succ]
                    refine wpAnyH_take (i := 13) (v := ?v13p14) rfl (by kernel_rfl) (by kernel_rfl) (by kernel_rfl) (fun _ _ _ h => h) (Or.inl ⟨by rfl, ?hy13p14⟩) hHeld ?rest13p14
                    case hy13p14 => (intro w hSw; (try dsimp only at hSw); go_simp; try with_reducible rfl)
                    try simp only [Act.put, List.setIfInBounds_toArray, List.set_cons_zero, List.set_cons_succ, List.getElem_toArray, List.getElem_cons_zero, List.getElem_cons_succ]
                    refine wpAnyH_done (by kernel_rfl) ?_ _
                    refine NoPanic.normal ?_
                    have B2 : Hid (Below w.heap.size w w3) := (B1.out.drew).trans (B3.out.mono (show w.heap.size ≤ w1.heap.size by omega))
                    have G2 : Hid (w3.heap[w.heap.size]? = some (.cells (ec (tx x.p) x.k x.m (tx x.b)) 34)) := (B3.out.block w.heap.size (show w.heap.size < w1.heap.size by omega)).trans G1.out
                    clear hHeld d0 d1 d2 d3 q0 q1 q2 q3 KL
                    go_wp2_with fail
                    go_loopg [6] j (fun g i wr => ∃ (k : Nat), k ≤ j ∧ g = j - k ∧ i = .int .i64 k ∧ Hid (anyIn (l.take k) x = false) ∧ Hid (Below w.heap.size w wr) ∧ Hid (wr.heap[w.heap.size]? = some (.cells (ec (tx x.p) x.k x.m (tx x.b)) 34)))
                    case atStart => exact ⟨0, Nat.zero_le _, rfl, rfl, (by show anyIn (l.take 0) x = false; simp [anyIn]), (by first | exact B2.out | exact B2.out.drew), G2⟩
                    case round =>
                      obtain ⟨k, hkj, rfl, rfl, HA, HW3, HG3⟩ := hrel
                      by_cases hlk : k < j
                      · have k1 : (k : Int) < (j : Int) := by omega
                        have k2 : (k : Int) < (n : Int) := by omega
                        obtain ⟨y, hy⟩ : ∃ y, l[k]? = some y := ⟨l[k]'(by rw [HN.out]; omega), List.getElem?_eq_getElem _⟩
                        have hyf := HF.out y (List.mem_of_getElem? hy)
                        have hry : Ec w b (off + k * 4) y := by
                          obtain ⟨b', off', e, _, h⟩ := HL.out.at hy
                          cases e
                          exact h
                        obtain ⟨q0, q1, q2, q3⟩ := hry.below HW3.out hbw
                        obtain ⟨f0, f1, f2, f3⟩ := ec_cells HG3.out
                        have KN : Hid (∀ w, Calls Tryd.prog 53 #[.string (tx y.p), .string (tx x.p)] w fun e w' => e = .returned (.bool (inn y.p x.p)) ∧ Below w.heap.size w w') := rin_is y.p x.p (by omega) (by omega)
                        have HAS : Hid (anyIn (l.take (k + 1)) x = (anyIn (l.take k) x || (shutB y && inn y.p x.p))) := anyIn_take hy
                        have HAO : Hid ((shutB y && inn y.p x.p) = true → anyIn (l.take j) x = true) := anyIn_of hy hlk
                        have hsh : shutB y = (decide (y.k = 1) || decide (y.k = 3)) := rfl
                        have hsz3 := HW3.out.size
                        have hlt3 : w.heap.size < wr.heap.size := (Array.getElem?_eq_some_iff.1 HG3.out).1
                        clear hy hry hyf
                        by_cases hs : shutB y = true
                        · have hor : y.k = 1 ∨ (¬ y.k = 1 ∧ y.k = 3) := by
                            by_cases h1 : y.k = 1
                            · exact .inl h1
                            · right; refine ⟨h1, ?_⟩
                              rw [hs] at hsh
                              simpa [h1] using hsh.symm
                          have HS2 : Hid (shutB y = true) := hs
                          clear hs hsh
                          cases hin : inn y.p x.p with
                          | true =>
                            rw [hin] at KN
                            have HR : Hid (r = 11) := by
                              show _ = _
                              rw [HW2.out, if_neg HNL.out, if_pos (HAO.out (by rw [HS2.out, hin]; rfl))]
                            rcases hor with hk1 | ⟨hk1, hk3⟩
                            · rw [hk1] at q1
                              go_wp2_with fail
                              refine wp_region_noPanic ?_
                              refine wp_region_held_drew (S := (fun W : World => W.cell? ⟨b, off + k * 4, none⟩ = some (.string (tx y.p)) ∧ W.cell? ⟨b, off + k * 4 + 1, none⟩ = some (.int .i64 1) ∧ W.cell? ⟨w.heap.size, 0, none⟩ = some (.string (tx x.p)))) (by kernel_rfl) ?hSar15 (fun hHeld => ?restar15)
                              case hSar15 => exact ⟨q0, q1, f0⟩
                              case restar15 =>
                              refine wpAnyH_take (i := 0) (v := ?v0r15) rfl (by kernel_rfl) (by kernel_rfl) (by kernel_rfl) (fun _ _ _ h => h) (Or.inl ⟨by rfl, ?hy0r15⟩) hHeld ?rest0r15
                              case hy0r15 => (intro w hSw; (try dsimp only at hSw); go_simp; try with_reducible rfl)
                              try simp only [Act.put, List.setIfInBounds_toArray, List.set_cons_zero, List.set_cons_succ, List.getElem_toArray, List.getElem_cons_zero]
                              refine wpAnyH_take (i := 1) (v := ?v1r15) rfl (by kernel_rfl) (by kernel_rfl) (by kernel_rfl) (fun _ _ _ h => h) (Or.inl ⟨by rfl, ?hy1r15⟩) hHeld ?rest1r15
                              case hy1r15 => (intro w hSw; (try dsimp only at hSw); go_simp; try with_reducible rfl)
                              try simp only [Act.put, List.setIfInBounds_toArray, List.set_cons_zero, List.set_cons_succ, List.getElem_toArray, List.getElem_cons_zero, List.getElem_cons_succ]
                              refine wpAnyH_take (i := 2) (v := ?v2r15) rfl (by kernel_rfl) (by kernel_rfl) (by kernel_rfl) (fun _ _ _ h => h) (Or.inl ⟨by rfl, ?hy2r15⟩) hHeld ?rest2r15
                              case hy2r15 => (intro w hSw; (try dsimp only at hSw); go_simp; try with_reducible rfl)
                              try simp only [Act.put, List.setIfInBounds_toArray, List.set_cons_zero, List.set_cons_succ, List.getElem_toArray, List.getElem_cons_zero, List.getElem_cons_succ]
                              refine wpAnyH_take (i := 3) (v := ?v3r15) rfl (by kernel_rfl) (by kernel_rfl) (by kernel_rfl) (fun _ _ _ h => h) (Or.inl ⟨by rfl, ?hy3r15⟩) hHeld ?rest3r15
                              case hy3r15 => (intro w hSw; (try dsimp only at hSw); go_simp; try with_reducible rfl)
                              try simp only [Act.put, List.setIfInBounds_toArray, List.set_cons_zero, List.set_cons_succ, List.getElem_toArray, List.getElem_cons_zero, List.getElem_cons_succ]
                              refine wpAnyH_take (i := 4) (v := ?v4r15) rfl (by kernel_rfl) (by kernel_rfl) (by kernel_rfl) (fun _ _ _ h => h) (Or.inl ⟨by rfl, ?hy4r15⟩) hHeld ?rest4r15
                              case hy4r15 => (intro w hSw; (try dsimp only at hSw); go_simp; try with_reducible rfl)
                              try simp only [Act.put, List.setIfInBounds_toArray, List.set_cons_zero, List.set_cons_succ, List.getElem_toArray, List.getElem_cons_zero, List.getElem_cons_succ]
                              refine wpAnyH_take (i := 5) (v := ?v5r15) rfl (by kernel_rfl) (by kernel_rfl) (by kernel_rfl) (fun _ _ _ h => h) (Or.inl ⟨by rfl, ?hy5r15⟩) hHeld ?rest5r15
                              case hy5r15 => (intro w hSw; (try dsimp only at hSw); go_simp; try with_reducible rfl)
                              try simp only [Act.put, List.setIfInBounds_toArray, List.set_cons_zero, List.set_cons_succ, List.getElem_toArray, List.getElem_cons_zero, List.getElem_cons_succ]
                              refine wpAnyH_take (i := 6) (v := ?v6r15) rfl (by kernel_rfl) (by kernel_rfl) (by kernel_rfl) (fun _ _ _ h => h) (Or.inl ⟨by rfl, ?hy6r15⟩) hHeld ?rest6r15
                              case hy6r15 => (intro w hSw; (try dsimp only at hSw); go_simp; try with_reducible rfl)
                              try simp only [Act.put, List.setIfInBounds_toArray, List.set_cons_zero, List.set_cons_succ, List.getElem_toArray, List.getElem_cons_zero, List.getElem_cons_succ]
                              refine wpAnyH_take (i := 7) (v := undef) rfl (by kernel_rfl) (by kernel_rfl) (by kernel_rfl) (fun _ _ _ h => h) (Or.inr ⟨by rfl, rfl⟩) hHeld ?rest7r15
                              case rest7r15 =>
                              try simp only [Act.put, List.setIfInBounds_toArray, List.set_cons_zero, List.set_cons_succ, List.getElem_toArray, List.getElem_cons_zero, List.getElem_cons_succ]
                              refine wpAnyH_take (i := 8) (v := undef) rfl (by kernel_rfl) (by kernel_rfl) (by kernel_rfl) (fun _ _ _ h => h) (Or.inr ⟨by rfl, rfl⟩) hHeld ?rest8r15
                              case rest8r15 =>
                              try simp only [Act.put, List.setIfInBounds_toArray, List.set_cons_zero, List.set_cons_succ, List.getElem_toArray, List.getElem_cons_zero, List.getElem_cons_succ]
                              refine wpAnyH_take (i := 9) (v := undef) rfl (by kernel_rfl) (by kernel_rfl) (by kernel_rfl) (fun _ _ _ h => h) (Or.inr ⟨by rfl, rfl⟩) hHeld ?rest9r15
                              case rest9r15 =>
                              try simp only [Act.put, List.setIfInBounds_toArray, List.set_cons_zero, List.set_cons_succ, List.getElem_toArray, List.getElem_cons_zero, List.getElem_cons_succ]
                              refine wpAnyH_take (i := 10) (v := undef) rfl (by kernel_rfl) (by kernel_rfl) (by kernel_rfl) (fun _ _ _ h => h) (Or.inr ⟨by rfl, rfl⟩) hHeld ?rest10r15
                              case rest10r15 =>
                              try simp only [Act.put, List.setIfInBounds_toArray, List.set_cons_zero, List.set_cons_succ, List.getElem_toArray, List.getElem_cons_zero, List.getElem_cons_succ]
                              refine wpAnyH_take (i := 11) (v := undef) rfl (by kernel_rfl) (by kernel_rfl) (by kernel_rfl) (fun _ _ _ h => h) (Or.inr ⟨by rfl, rfl⟩) hHeld ?rest11r15
                              case rest11r15 =>
                              try simp only [Act.put, List.setIfInBounds_toArray, List.set_cons_zero, List.set_cons_succ, List.getElem_toArray, List.getElem_cons_zero, List.getElem_cons_succ]
                              refine wpAnyH_take (i := 12) (v := undef) rfl (by kernel_rfl) (by kernel_rfl) (by kernel_rfl) (fun _ _ _ h => h) (Or.inr ⟨by rfl, rfl⟩) hHeld ?rest12r15
                              case rest12r15 =>
                              try simp only [Act.put, List.setIfInBounds_toArray, List.set_cons_zero, List.set_cons_succ, List.getElem_toArray, List.getElem_cons_zero, List.getElem_cons_succ]
                              refine wpAnyH_take (i := 13) (v := ?v13r15) rfl (by kernel_rfl) (by kernel_rfl) (by kernel_rfl) (fun _ _ _ h => h) (Or.inl ⟨by rfl, ?hy13r15⟩) hHeld ?rest13r15
                              case hy13r15 => (intro w hSw; (try dsimp only at hSw); go_simp; try with_reducible rfl)
                              try simp only [Act.put, List.setIfInBounds_toArray, List.set_cons_zero, List.set_cons_succ, List.getElem_toArray, List.getElem_cons_zero, List.getElem_cons_succ]
                              refine wpAnyH_take (i := 14) (v := ?v14r15) rfl (by kernel_rfl) (by kernel_rfl) (by kernel_rfl) (fun _ _ _ h => h) (Or.inl ⟨by rfl, ?hy14r15⟩) hHeld ?rest14r15
                              case hy14r15 => (intro w hSw; (try dsimp only at hSw); go_simp; try with_reducible rfl)
                              try simp only [Act.put, List.setIfInBounds_toArray, List.set_cons_zero, List.set_cons_succ, List.getElem_toArray, List.getElem_cons_zero, List.getElem_cons_succ]
                              refine wpAnyH_take (i := 15) (v := ?v15r15) rfl (by kernel_rfl) (by kernel_rfl) (by kernel_rfl) (fun _ _ _ h => h) (Or.inl ⟨by rfl, ?hy15r15⟩) hHeld ?rest15r15
                              case hy15r15 => (intro w hSw; (try dsimp only at hSw); go_simp; try with_reducible rfl)
                              try simp only [Act.put, List.setIfInBounds_toArray, List.set_cons_zero, List.set_cons_succ, List.getElem_toArray, List.getElem_cons_zero, List.getElem_cons_succ]
                              refine wpAnyH_take (i := 16) (v := ?v16r15) rfl (by kernel_rfl) (by kernel_rfl) (by kernel_rfl) (fun _ _ _ h => h) (Or.inl ⟨by rfl, ?hy16r15⟩) hHeld ?rest16r15
                              case hy16r15 => (intro w hSw; (try dsimp only at hSw); go_simp; try with_reducible rfl)
                              try simp only [Act.put, List.setIfInBounds_toArray, List.set_cons_zero, List.set_cons_succ, List.getElem_toArray, List.getElem_cons_zero, List.getElem_cons_succ]
                              refine wpAnyH_take (i := 17) (v := ?v17r15) rfl (by kernel_rfl) (by kernel_rfl) (by kernel_rfl) (fun _ _ _ h => h) (Or.inl ⟨by rfl, ?hy17r15⟩) hHeld ?rest17r15
                              case hy17r15 => (intro w hSw; (try dsimp only at hSw); go_simp; try with_reducible rfl)
                              try simp only [Act.put, List.setIfInBounds_toArray, List.set_cons_zero, List.set_cons_succ, List.getElem_toArray, List.getElem_cons_zero, List.getElem_cons_succ]
                              refine wpAnyH_take (i := 18) (v := ?v18r15) rfl (by kernel_rfl) (by kernel_rfl) (by kernel_rfl) (fun _ _ _ h => h) (Or.inl ⟨by rfl, ?hy18r15⟩) hHeld ?rest18r15
                              case hy18r15 => (intro w hSw; (try dsimp only at hSw); go_simp; try with_reducible rfl)
                              try simp only [Act.put, List.setIfInBounds_toArray, List.set_cons_zero, List.set_cons_succ, List.getElem_toArray, List.getElem_cons_zero, List.getElem_cons_succ]
                              refine wpAnyH_take (i := 19) (v := ?v19r15) rfl (by kernel_rfl) (by kernel_rfl) (by kernel_rfl) (fun _ _ _ h => h) (Or.inl ⟨by rfl, ?hy19r15⟩) hHeld ?rest19r15
                              case hy19r15 => (intro w hSw; (try dsimp only at hSw); go_simp; try with_reducible rfl)
                              try simp only [Act.put, List.setIfInBounds_toArray, List.set_cons_zero, List.set_cons_succ, List.getElem_toArray, List.getElem_cons_zero, List.getElem_cons_succ]
                              refine wpAnyH_take (i := 20) (v := ?v20r15) rfl (by kernel_rfl) (by kernel_rfl) (by kernel_rfl) (fun _ _ _ h => h) (Or.inl ⟨by rfl, ?hy20r15⟩) hHeld ?rest20r15
                              case hy20r15 => (intro w hSw; (try dsimp only at hSw); go_simp; try with_reducible rfl)
                              try simp only [Act.put, List.setIfInBounds_toArray, List.set_cons_zero, List.set_cons_succ, List.getElem_toArray, List.getElem_cons_zero, List.getElem_cons_succ]
                              refine wpAnyH_take (i := 21) (v := ?v21r15) rfl (by kernel_rfl) (by kernel_rfl) (by kernel_rfl) (fun _ _ _ h => h) (Or.inl ⟨by rfl, ?hy21r15⟩) hHeld ?rest21r15
                              case hy21r15 => (intro w hSw; (try dsimp only at hSw); go_simp; try with_reducible rfl)
                              try simp only [Act.put, List.setIfInBounds_toArray, List.set_cons_zero, List.set_cons_succ, List.getElem_toArray, List.getElem_cons_zero, List.getElem_cons_succ]
                              refine wpAnyH_ready (rs := [22]) (by kernel_rfl) (by simp) ?_
                              refine AllReadyH.cons rfl (fun K hK => ?_) AllReadyH.nil
                              go_simp; refine (KN.out _).mono ?_; rintro e w5 ⟨rfl, hb5⟩; have B5 : Hid (Below wr.drew.heap.size wr.drew w5) := hb5; clear hb5; go_wp2_with fail
                              refine hK.out _ _ ?hS22r15 (fun hHeld => ?rest22r15)
                              case hS22r15 => exact ⟨(B5.out.cell (p := ⟨b, off + k * 4, none⟩) (show b < wr.heap.size by omega)).trans q0, (B5.out.cell (p := ⟨b, off + k * 4 + 1, none⟩) (show b < wr.heap.size by omega)).trans q1, (B5.out.cell (p := ⟨w.heap.size, 0, none⟩) (show w.heap.size < wr.heap.size by omega)).trans f0⟩
                              clear hK K
                              try simp only [Act.put, List.setIfInBounds_toArray, List.set_cons_zero, List.set_cons_succ, List.getElem_toArray, List.getElem_cons_zero, List.getElem_cons_succ]
                              refine wpAnyH_take (i := 23) (v := ?v23r15) rfl (by kernel_rfl) (by kernel_rfl) (by kernel_rfl) (fun _ _ _ h => h) (Or.inl ⟨by rfl, ?hy23r15⟩) hHeld ?rest23r15
                              case hy23r15 => (intro w hSw; (try dsimp only at hSw); go_simp; try with_reducible rfl)
                              try simp only [Act.put, List.setIfInBounds_toArray, List.set_cons_zero, List.set_cons_succ, List.getElem_toArray, List.getElem_cons_zero, List.getElem_cons_succ]
                              refine wpAnyH_done (by kernel_rfl) ?_ _
                              refine NoPanic.normal ?_
                              have B6 : Hid (Below w.heap.size w w5) := (HW3.out.drew).trans (B5.out.mono (show w.heap.size ≤ wr.heap.size by omega))
                              clear hHeld
                              go_wp2_with fail
                              go_ret
                              refine ⟨?_, by first | exact B6.out | exact B6.out.drew⟩
                              rw [HR.out]
                              rfl
                            · rw [hk3] at q1
                              go_wp2_with fail
                              refine wp_region_noPanic ?_
                              refine wp_region_held_drew (S := (fun W : World => W.cell? ⟨b, off + k * 4, none⟩ = some (.string (tx y.p)) ∧ W.cell? ⟨b, off + k * 4 + 1, none⟩ = some (.int .i64 3) ∧ W.cell? ⟨w.heap.size, 0, none⟩ = some (.string (tx x.p)))) (by kernel_rfl) ?hSar16 (fun hHeld => ?restar16)
                              case hSar16 => exact ⟨q0, q1, f0⟩
                              case restar16 =>
                              refine wpAnyH_take (i := 0) (v := ?v0r16) rfl (by kernel_rfl) (by kernel_rfl) (by kernel_rfl) (fun _ _ _ h => h) (Or.inl ⟨by rfl, ?hy0r16⟩) hHeld ?rest0r16
                              case hy0r16 => (intro w hSw; (try dsimp only at hSw); go_simp; try with_reducible rfl)
                              try simp only [Act.put, List.setIfInBounds_toArray, List.set_cons_zero, List.set_cons_succ, List.getElem_toArray, List.getElem_cons_zero]
                              refine wpAnyH_take (i := 1) (v := ?v1r16) rfl (by kernel_rfl) (by kernel_rfl) (by kernel_rfl) (fun _ _ _ h => h) (Or.inl ⟨by rfl, ?hy1r16⟩) hHeld ?rest1r16
                              case hy1r16 => (intro w hSw; (try dsimp only at hSw); go_simp; try with_reducible rfl)
                              try simp only [Act.put, List.setIfInBounds_toArray, List.set_cons_zero, List.set_cons_succ, List.getElem_toArray, List.getElem_cons_zero, List.getElem_cons_succ]
                              refine wpAnyH_take (i := 2) (v := ?v2r16) rfl (by kernel_rfl) (by kernel_rfl) (by kernel_rfl) (fun _ _ _ h => h) (Or.inl ⟨by rfl, ?hy2r16⟩) hHeld ?rest2r16
                              case hy2r16 => (intro w hSw; (try dsimp only at hSw); go_simp; try with_reducible rfl)
                              try simp only [Act.put, List.setIfInBounds_toArray, List.set_cons_zero, List.set_cons_succ, List.getElem_toArray, List.getElem_cons_zero, List.getElem_cons_succ]
                              refine wpAnyH_take (i := 3) (v := ?v3r16) rfl (by kernel_rfl) (by kernel_rfl) (by kernel_rfl) (fun _ _ _ h => h) (Or.inl ⟨by rfl, ?hy3r16⟩) hHeld ?rest3r16
                              case hy3r16 => (intro w hSw; (try dsimp only at hSw); go_simp; try with_reducible rfl)
                              try simp only [Act.put, List.setIfInBounds_toArray, List.set_cons_zero, List.set_cons_succ, List.getElem_toArray, List.getElem_cons_zero, List.getElem_cons_succ]
                              refine wpAnyH_take (i := 4) (v := ?v4r16) rfl (by kernel_rfl) (by kernel_rfl) (by kernel_rfl) (fun _ _ _ h => h) (Or.inl ⟨by rfl, ?hy4r16⟩) hHeld ?rest4r16
                              case hy4r16 => (intro w hSw; (try dsimp only at hSw); go_simp; try with_reducible rfl)
                              try simp only [Act.put, List.setIfInBounds_toArray, List.set_cons_zero, List.set_cons_succ, List.getElem_toArray, List.getElem_cons_zero, List.getElem_cons_succ]
                              refine wpAnyH_take (i := 5) (v := ?v5r16) rfl (by kernel_rfl) (by kernel_rfl) (by kernel_rfl) (fun _ _ _ h => h) (Or.inl ⟨by rfl, ?hy5r16⟩) hHeld ?rest5r16
                              case hy5r16 => (intro w hSw; (try dsimp only at hSw); go_simp; try with_reducible rfl)
                              try simp only [Act.put, List.setIfInBounds_toArray, List.set_cons_zero, List.set_cons_succ, List.getElem_toArray, List.getElem_cons_zero, List.getElem_cons_succ]
                              refine wpAnyH_take (i := 6) (v := ?v6r16) rfl (by kernel_rfl) (by kernel_rfl) (by kernel_rfl) (fun _ _ _ h => h) (Or.inl ⟨by rfl, ?hy6r16⟩) hHeld ?rest6r16
                              case hy6r16 => (intro w hSw; (try dsimp only at hSw); go_simp; try with_reducible rfl)
                              try simp only [Act.put, List.setIfInBounds_toArray, List.set_cons_zero, List.set_cons_succ, List.getElem_toArray, List.getElem_cons_zero, List.getElem_cons_succ]
                              refine wpAnyH_take (i := 7) (v := ?v7r16) rfl (by kernel_rfl) (by kernel_rfl) (by kernel_rfl) (fun _ _ _ h => h) (Or.inl ⟨by rfl, ?hy7r16⟩) hHeld ?rest7r16
                              case hy7r16 => (intro w hSw; (try dsimp only at hSw); go_simp; try with_reducible rfl)
                              try simp only [Act.put, List.setIfInBounds_toArray, List.set_cons_zero, List.set_cons_succ, List.getElem_toArray, List.getElem_cons_zero, List.getElem_cons_succ]
                              refine wpAnyH_take (i := 8) (v := ?v8r16) rfl (by kernel_rfl) (by kernel_rfl) (by kernel_rfl) (fun _ _ _ h => h) (Or.inl ⟨by rfl, ?hy8r16⟩) hHeld ?rest8r16
                              case hy8r16 => (intro w hSw; (try dsimp only at hSw); go_simp; try with_reducible rfl)
                              try simp only [Act.put, List.setIfInBounds_toArray, List.set_cons_zero, List.set_cons_succ, List.getElem_toArray, List.getElem_cons_zero, List.getElem_cons_succ]
                              refine wpAnyH_take (i := 9) (v := ?v9r16) rfl (by kernel_rfl) (by kernel_rfl) (by kernel_rfl) (fun _ _ _ h => h) (Or.inl ⟨by rfl, ?hy9r16⟩) hHeld ?rest9r16
                              case hy9r16 => (intro w hSw; (try dsimp only at hSw); go_simp; try with_reducible rfl)
                              try simp only [Act.put, List.setIfInBounds_toArray, List.set_cons_zero, List.set_cons_succ, List.getElem_toArray, List.getElem_cons_zero, List.getElem_cons_succ]
                              refine wpAnyH_take (i := 10) (v := ?v10r16) rfl (by kernel_rfl) (by kernel_rfl) (by kernel_rfl) (fun _ _ _ h => h) (Or.inl ⟨by rfl, ?hy10r16⟩) hHeld ?rest10r16
                              case hy10r16 => (intro w hSw; (try dsimp only at hSw); go_simp; try with_reducible rfl)
                              try simp only [Act.put, List.setIfInBounds_toArray, List.set_cons_zero, List.set_cons_succ, List.getElem_toArray, List.getElem_cons_zero, List.getElem_cons_succ]
                              refine wpAnyH_take (i := 11) (v := ?v11r16) rfl (by kernel_rfl) (by kernel_rfl) (by kernel_rfl) (fun _ _ _ h => h) (Or.inl ⟨by rfl, ?hy11r16⟩) hHeld ?rest11r16
                              case hy11r16 => (intro w hSw; (try dsimp only at hSw); go_simp; try with_reducible rfl)
                              try simp only [Act.put, List.setIfInBounds_toArray, List.set_cons_zero, List.set_cons_succ, List.getElem_toArray, List.getElem_cons_zero, List.getElem_cons_succ]
                              refine wpAnyH_take (i := 12) (v := ?v12r16) rfl (by kernel_rfl) (by kernel_rfl) (by kernel_rfl) (fun _ _ _ h => h) (Or.inl ⟨by rfl, ?hy12r16⟩) hHeld ?rest12r16
                              case hy12r16 => (intro w hSw; (try dsimp only at hSw); go_simp; try with_reducible rfl)
                              try simp only [Act.put, List.setIfInBounds_toArray, List.set_cons_zero, List.set_cons_succ, List.getElem_toArray, List.getElem_cons_zero, List.getElem_cons_succ]
                              refine wpAnyH_take (i := 13) (v := ?v13r16) rfl (by kernel_rfl) (by kernel_rfl) (by kernel_rfl) (fun _ _ _ h => h) (Or.inl ⟨by rfl, ?hy13r16⟩) hHeld ?rest13r16
                              case hy13r16 => (intro w hSw; (try dsimp only at hSw); go_simp; try with_reducible rfl)
                              try simp only [Act.put, List.setIfInBounds_toArray, List.set_cons_zero, List.set_cons_succ, List.getElem_toArray, List.getElem_cons_zero, List.getElem_cons_succ]
                              refine wpAnyH_take (i := 14) (v := ?v14r16) rfl (by kernel_rfl) (by kernel_rfl) (by kernel_rfl) (fun _ _ _ h => h) (Or.inl ⟨by rfl, ?hy14r16⟩) hHeld ?rest14r16
                              case hy14r16 => (intro w hSw; (try dsimp only at hSw); go_simp; try with_reducible rfl)
                              try simp only [Act.put, List.setIfInBounds_toArray, List.set_cons_zero, List.set_cons_succ, List.getElem_toArray, List.getElem_cons_zero, List.getElem_cons_succ]
                              refine wpAnyH_take (i := 15) (v := ?v15r16) rfl (by kernel_rfl) (by kernel_rfl) (by kernel_rfl) (fun _ _ _ h => h) (Or.inl ⟨by rfl, ?hy15r16⟩) hHeld ?rest15r16
                              case hy15r16 => (intro w hSw; (try dsimp only at hSw); go_simp; try with_reducible rfl)
                              try simp only [Act.put, List.setIfInBounds_toArray, List.set_cons_zero, List.set_cons_succ, List.getElem_toArray, List.getElem_cons_zero, List.getElem_cons_succ]
                              refine wpAnyH_take (i := 16) (v := ?v16r16) rfl (by kernel_rfl) (by kernel_rfl) (by kernel_rfl) (fun _ _ _ h => h) (Or.inl ⟨by rfl, ?hy16r16⟩) hHeld ?rest16r16
                              case hy16r16 => (intro w hSw; (try dsimp only at hSw); go_simp; try with_reducible rfl)
                              try simp only [Act.put, List.setIfInBounds_toArray, List.set_cons_zero, List.set_cons_succ, List.getElem_toArray, List.getElem_cons_zero, List.getElem_cons_succ]
                              refine wpAnyH_take (i := 17) (v := ?v17r16) rfl (by kernel_rfl) (by kernel_rfl) (by kernel_rfl) (fun _ _ _ h => h) (Or.inl ⟨by rfl, ?hy17r16⟩) hHeld ?rest17r16
                              case hy17r16 => (intro w hSw; (try dsimp only at hSw); go_simp; try with_reducible rfl)
                              try simp only [Act.put, List.setIfInBounds_toArray, List.set_cons_zero, List.set_cons_succ, List.getElem_toArray, List.getElem_cons_zero, List.getElem_cons_succ]
                              refine wpAnyH_take (i := 18) (v := ?v18r16) rfl (by kernel_rfl) (by kernel_rfl) (by kernel_rfl) (fun _ _ _ h => h) (Or.inl ⟨by rfl, ?hy18r16⟩) hHeld ?rest18r16
                              case hy18r16 => (intro w hSw; (try dsimp only at hSw); go_simp; try with_reducible rfl)
                              try simp only [Act.put, List.setIfInBounds_toArray, List.set_cons_zero, List.set_cons_succ, List.getElem_toArray, List.getElem_cons_zero, List.getElem_cons_succ]
                              refine wpAnyH_take (i := 19) (v := ?v19r16) rfl (by kernel_rfl) (by kernel_rfl) (by kernel_rfl) (fun _ _ _ h => h) (Or.inl ⟨by rfl, ?hy19r16⟩) hHeld ?rest19r16
                              case hy19r16 => (intro w hSw; (try dsimp only at hSw); go_simp; try with_reducible rfl)
                              try simp only [Act.put, List.setIfInBounds_toArray, List.set_cons_zero, List.set_cons_succ, List.getElem_toArray, List.getElem_cons_zero, List.getElem_cons_succ]
                              refine wpAnyH_take (i := 20) (v := ?v20r16) rfl (by kernel_rfl) (by kernel_rfl) (by kernel_rfl) (fun _ _ _ h => h) (Or.inl ⟨by rfl, ?hy20r16⟩) hHeld ?rest20r16
                              case hy20r16 => (intro w hSw; (try dsimp only at hSw); go_simp; try with_reducible rfl)
                              try simp only [Act.put, List.setIfInBounds_toArray, List.set_cons_zero, List.set_cons_succ, List.getElem_toArray, List.getElem_cons_zero, List.getElem_cons_succ]
                              refine wpAnyH_take (i := 21) (v := ?v21r16) rfl (by kernel_rfl) (by kernel_rfl) (by kernel_rfl) (fun _ _ _ h => h) (Or.inl ⟨by rfl, ?hy21r16⟩) hHeld ?rest21r16
                              case hy21r16 => (intro w hSw; (try dsimp only at hSw); go_simp; try with_reducible rfl)
                              try simp only [Act.put, List.setIfInBounds_toArray, List.set_cons_zero, List.set_cons_succ, List.getElem_toArray, List.getElem_cons_zero, List.getElem_cons_succ]
                              refine wpAnyH_ready (rs := [22]) (by kernel_rfl) (by simp) ?_
                              refine AllReadyH.cons rfl (fun K hK => ?_) AllReadyH.nil
                              go_simp; refine (KN.out _).mono ?_; rintro e w5 ⟨rfl, hb5⟩; have B5 : Hid (Below wr.drew.heap.size wr.drew w5) := hb5; clear hb5; go_wp2_with fail
                              refine hK.out _ _ ?hS22r16 (fun hHeld => ?rest22r16)
                              case hS22r16 => exact ⟨(B5.out.cell (p := ⟨b, off + k * 4, none⟩) (show b < wr.heap.size by omega)).trans q0, (B5.out.cell (p := ⟨b, off + k * 4 + 1, none⟩) (show b < wr.heap.size by omega)).trans q1, (B5.out.cell (p := ⟨w.heap.size, 0, none⟩) (show w.heap.size < wr.heap.size by omega)).trans f0⟩
                              clear hK K
                              try simp only [Act.put, List.setIfInBounds_toArray, List.set_cons_zero, List.set_cons_succ, List.getElem_toArray, List.getElem_cons_zero, List.getElem_cons_succ]
                              refine wpAnyH_take (i := 23) (v := ?v23r16) rfl (by kernel_rfl) (by kernel_rfl) (by kernel_rfl) (fun _ _ _ h => h) (Or.inl ⟨by rfl, ?hy23r16⟩) hHeld ?rest23r16
                              case hy23r16 => (intro w hSw; (try dsimp only at hSw); go_simp; try with_reducible rfl)
                              try simp only [Act.put, List.setIfInBounds_toArray, List.set_cons_zero, List.set_cons_succ, List.getElem_toArray, List.getElem_cons_zero, List.getElem_cons_succ]
                              refine wpAnyH_done (by kernel_rfl) ?_ _
                              refine NoPanic.normal ?_
                              have B6 : Hid (Below w.heap.size w w5) := (HW3.out.drew).trans (B5.out.mono (show w.heap.size ≤ wr.heap.size by omega))
                              clear hHeld
                              go_wp2_with fail
                              go_ret
                              refine ⟨?_, by first | exact B6.out | exact B6.out.drew⟩
                              rw [HR.out]
                              rfl
                          | false =>
                            rw [hin] at KN
                            have HA2 : Hid (anyIn (l.take (k + 1)) x = false) := by
                              show _ = _
                              rw [HAS.out, HA.out, hin, Bool.and_false]
                              rfl
                            rcases hor with hk1 | ⟨hk1, hk3⟩
                            · rw [hk1] at q1
                              go_wp2_with fail
                              refine wp_region_noPanic ?_
                              refine wp_region_held_drew (S := (fun W : World => W.cell? ⟨b, off + k * 4, none⟩ = some (.string (tx y.p)) ∧ W.cell? ⟨b, off + k * 4 + 1, none⟩ = some (.int .i64 1) ∧ W.cell? ⟨w.heap.size, 0, none⟩ = some (.string (tx x.p)))) (by kernel_rfl) ?hSar17 (fun hHeld => ?restar17)
                              case hSar17 => exact ⟨q0, q1, f0⟩
                              case restar17 =>
                              refine wpAnyH_take (i := 0) (v := ?v0r17) rfl (by kernel_rfl) (by kernel_rfl) (by kernel_rfl) (fun _ _ _ h => h) (Or.inl ⟨by rfl, ?hy0r17⟩) hHeld ?rest0r17
                              case hy0r17 => (intro w hSw; (try dsimp only at hSw); go_simp; try with_reducible rfl)
                              try simp only [Act.put, List.setIfInBounds_toArray, List.set_cons_zero, List.set_cons_succ, List.getElem_toArray, List.getElem_cons_zero]
                              refine wpAnyH_take (i := 1) (v := ?v1r17) rfl (by kernel_rfl) (by kernel_rfl) (by kernel_rfl) (fun _ _ _ h => h) (Or.inl ⟨by rfl, ?hy1r17⟩) hHeld ?rest1r17
                              case hy1r17 => (intro w hSw; (try dsimp only at hSw); go_simp; try with_reducible rfl)
                              try simp only [Act.put, List.setIfInBounds_toArray, List.set_cons_zero, List.set_cons_succ, List.getElem_toArray, List.getElem_cons_zero, List.getElem_cons_succ]
                              refine wpAnyH_take (i := 2) (v := ?v2r17) rfl (by kernel_rfl) (by kernel_rfl) (by kernel_rfl) (fun _ _ _ h => h) (Or.inl ⟨by rfl, ?hy2r17⟩) hHeld ?rest2r17
                              case hy2r17 => (intro w hSw; (try dsimp only at hSw); go_simp; try with_reducible rfl)
                              try simp only [Act.put, List.setIfInBounds_toArray, List.set_cons_zero, List.set_cons_succ, List.getElem_toArray, List.getElem_cons_zero, List.getElem_cons_succ]
                              refine wpAnyH_take (i := 3) (v := ?v3r17) rfl (by kernel_rfl) (by kernel_rfl) (by kernel_rfl) (fun _ _ _ h => h) (Or.inl ⟨by rfl, ?hy3r17⟩) hHeld ?rest3r17
                              case hy3r17 => (intro w hSw; (try dsimp only at hSw); go_simp; try with_reducible rfl)
                              try simp only [Act.put, List.setIfInBounds_toArray, List.set_cons_zero, List.set_cons_succ, List.getElem_toArray, List.getElem_cons_zero, List.getElem_cons_succ]
                              refine wpAnyH_take (i := 4) (v := ?v4r17) rfl (by kernel_rfl) (by kernel_rfl) (by kernel_rfl) (fun _ _ _ h => h) (Or.inl ⟨by rfl, ?hy4r17⟩) hHeld ?rest4r17
                              case hy4r17 => (intro w hSw; (try dsimp only at hSw); go_simp; try with_reducible rfl)
                              try simp only [Act.put, List.setIfInBounds_toArray, List.set_cons_zero, List.set_cons_succ, List.getElem_toArray, List.getElem_cons_zero, List.getElem_cons_succ]
                              refine wpAnyH_take (i := 5) (v := ?v5r17) rfl (by kernel_rfl) (by kernel_rfl) (by kernel_rfl) (fun _ _ _ h => h) (Or.inl ⟨by rfl, ?hy5r17⟩) hHeld ?rest5r17
                              case hy5r17 => (intro w hSw; (try dsimp only at hSw); go_simp; try with_reducible rfl)
                              try simp only [Act.put, List.setIfInBounds_toArray, List.set_cons_zero, List.set_cons_succ, List.getElem_toArray, List.getElem_cons_zero, List.getElem_cons_succ]
                              refine wpAnyH_take (i := 6) (v := ?v6r17) rfl (by kernel_rfl) (by kernel_rfl) (by kernel_rfl) (fun _ _ _ h => h) (Or.inl ⟨by rfl, ?hy6r17⟩) hHeld ?rest6r17
                              case hy6r17 => (intro w hSw; (try dsimp only at hSw); go_simp; try with_reducible rfl)
                              try simp only [Act.put, List.setIfInBounds_toArray, List.set_cons_zero, List.set_cons_succ, List.getElem_toArray, List.getElem_cons_zero, List.getElem_cons_succ]
                              refine wpAnyH_take (i := 7) (v := undef) rfl (by kernel_rfl) (by kernel_rfl) (by kernel_rfl) (fun _ _ _ h => h) (Or.inr ⟨by rfl, rfl⟩) hHeld ?rest7r17
                              case rest7r17 =>
                              try simp only [Act.put, List.setIfInBounds_toArray, List.set_cons_zero, List.set_cons_succ, List.getElem_toArray, List.getElem_cons_zero, List.getElem_cons_succ]
                              refine wpAnyH_take (i := 8) (v := undef) rfl (by kernel_rfl) (by kernel_rfl) (by kernel_rfl) (fun _ _ _ h => h) (Or.inr ⟨by rfl, rfl⟩) hHeld ?rest8r17
                              case rest8r17 =>
                              try simp only [Act.put, List.setIfInBounds_toArray, List.set_cons_zero, List.set_cons_succ, List.getElem_toArray, List.getElem_cons_zero, List.getElem_cons_succ]
                              refine wpAnyH_take (i := 9) (v := undef) rfl (by kernel_rfl) (by kernel_rfl) (by kernel_rfl) (fun _ _ _ h => h) (Or.inr ⟨by rfl, rfl⟩) hHeld ?rest9r17
                              case rest9r17 =>
                              try simp only [Act.put, List.setIfInBounds_toArray, List.set_cons_zero, List.set_cons_succ, List.getElem_toArray, List.getElem_cons_zero, List.getElem_cons_succ]
                              refine wpAnyH_take (i := 10) (v := undef) rfl (by kernel_rfl) (by kernel_rfl) (by kernel_rfl) (fun _ _ _ h => h) (Or.inr ⟨by rfl, rfl⟩) hHeld ?rest10r17
                              case rest10r17 =>
                              try simp only [Act.put, List.setIfInBounds_toArray, List.set_cons_zero, List.set_cons_succ, List.getElem_toArray, List.getElem_cons_zero, List.getElem_cons_succ]
                              refine wpAnyH_take (i := 11) (v := undef) rfl (by kernel_rfl) (by kernel_rfl) (by kernel_rfl) (fun _ _ _ h => h) (Or.inr ⟨by rfl, rfl⟩) hHeld ?rest11r17
                              case rest11r17 =>
                              try simp only [Act.put, List.setIfInBounds_toArray, List.set_cons_zero, List.set_cons_succ, List.getElem_toArray, List.getElem_cons_zero, List.getElem_cons_succ]
                              refine wpAnyH_take (i := 12) (v := undef) rfl (by kernel_rfl) (by kernel_rfl) (by kernel_rfl) (fun _ _ _ h => h) (Or.inr ⟨by rfl, rfl⟩) hHeld ?rest12r17
                              case rest12r17 =>
                              try simp only [Act.put, List.setIfInBounds_toArray, List.set_cons_zero, List.set_cons_succ, List.getElem_toArray, List.getElem_cons_zero, List.getElem_cons_succ]
                              refine wpAnyH_take (i := 13) (v := ?v13r17) rfl (by kernel_rfl) (by kernel_rfl) (by kernel_rfl) (fun _ _ _ h => h) (Or.inl ⟨by rfl, ?hy13r17⟩) hHeld ?rest13r17
                              case hy13r17 => (intro w hSw; (try dsimp only at hSw); go_simp; try with_reducible rfl)
                              try simp only [Act.put, List.setIfInBounds_toArray, List.set_cons_zero, List.set_cons_succ, List.getElem_toArray, List.getElem_cons_zero, List.getElem_cons_succ]
                              refine wpAnyH_take (i := 14) (v := ?v14r17) rfl (by kernel_rfl) (by kernel_rfl) (by kernel_rfl) (fun _ _ _ h => h) (Or.inl ⟨by rfl, ?hy14r17⟩) hHeld ?rest14r17
                              case hy14r17 => (intro w hSw; (try dsimp only at hSw); go_simp; try with_reducible rfl)
                              try simp only [Act.put, List.setIfInBounds_toArray, List.set_cons_zero, List.set_cons_succ, List.getElem_toArray, List.getElem_cons_zero, List.getElem_cons_succ]
                              refine wpAnyH_take (i := 15) (v := ?v15r17) rfl (by kernel_rfl) (by kernel_rfl) (by kernel_rfl) (fun _ _ _ h => h) (Or.inl ⟨by rfl, ?hy15r17⟩) hHeld ?rest15r17
                              case hy15r17 => (intro w hSw; (try dsimp only at hSw); go_simp; try with_reducible rfl)
                              try simp only [Act.put, List.setIfInBounds_toArray, List.set_cons_zero, List.set_cons_succ, List.getElem_toArray, List.getElem_cons_zero, List.getElem_cons_succ]
                              refine wpAnyH_take (i := 16) (v := ?v16r17) rfl (by kernel_rfl) (by kernel_rfl) (by kernel_rfl) (fun _ _ _ h => h) (Or.inl ⟨by rfl, ?hy16r17⟩) hHeld ?rest16r17
                              case hy16r17 => (intro w hSw; (try dsimp only at hSw); go_simp; try with_reducible rfl)
                              try simp only [Act.put, List.setIfInBounds_toArray, List.set_cons_zero, List.set_cons_succ, List.getElem_toArray, List.getElem_cons_zero, List.getElem_cons_succ]
                              refine wpAnyH_take (i := 17) (v := ?v17r17) rfl (by kernel_rfl) (by kernel_rfl) (by kernel_rfl) (fun _ _ _ h => h) (Or.inl ⟨by rfl, ?hy17r17⟩) hHeld ?rest17r17
                              case hy17r17 => (intro w hSw; (try dsimp only at hSw); go_simp; try with_reducible rfl)
                              try simp only [Act.put, List.setIfInBounds_toArray, List.set_cons_zero, List.set_cons_succ, List.getElem_toArray, List.getElem_cons_zero, List.getElem_cons_succ]
                              refine wpAnyH_take (i := 18) (v := ?v18r17) rfl (by kernel_rfl) (by kernel_rfl) (by kernel_rfl) (fun _ _ _ h => h) (Or.inl ⟨by rfl, ?hy18r17⟩) hHeld ?rest18r17
                              case hy18r17 => (intro w hSw; (try dsimp only at hSw); go_simp; try with_reducible rfl)
                              try simp only [Act.put, List.setIfInBounds_toArray, List.set_cons_zero, List.set_cons_succ, List.getElem_toArray, List.getElem_cons_zero, List.getElem_cons_succ]
                              refine wpAnyH_take (i := 19) (v := ?v19r17) rfl (by kernel_rfl) (by kernel_rfl) (by kernel_rfl) (fun _ _ _ h => h) (Or.inl ⟨by rfl, ?hy19r17⟩) hHeld ?rest19r17
                              case hy19r17 => (intro w hSw; (try dsimp only at hSw); go_simp; try with_reducible rfl)
                              try simp only [Act.put, List.setIfInBounds_toArray, List.set_cons_zero, List.set_cons_succ, List.getElem_toArray, List.getElem_cons_zero, List.getElem_cons_succ]
                              refine wpAnyH_take (i := 20) (v := ?v20r17) rfl (by kernel_rfl) (by kernel_rfl) (by kernel_rfl) (fun _ _ _ h => h) (Or.inl ⟨by rfl, ?hy20r17⟩) hHeld ?rest20r17
                              case hy20r17 => (intro w hSw; (try dsimp only at hSw); go_simp; try with_reducible rfl)
                              try simp only [Act.put, List.setIfInBounds_toArray, List.set_cons_zero, List.set_cons_succ, List.getElem_toArray, List.getElem_cons_zero, List.getElem_cons_succ]
                              refine wpAnyH_take (i := 21) (v := ?v21r17) rfl (by kernel_rfl) (by kernel_rfl) (by kernel_rfl) (fun _ _ _ h => h) (Or.inl ⟨by rfl, ?hy21r17⟩) hHeld ?rest21r17
                              case hy21r17 => (intro w hSw; (try dsimp only at hSw); go_simp; try with_reducible rfl)
                              try simp only [Act.put, List.setIfInBounds_toArray, List.set_cons_zero, List.set_cons_succ, List.getElem_toArray, List.getElem_cons_zero, List.getElem_cons_succ]
                              refine wpAnyH_ready (rs := [22]) (by kernel_rfl) (by simp) ?_
                              refine AllReadyH.cons rfl (fun K hK => ?_) AllReadyH.nil
                              go_simp; refine (KN.out _).mono ?_; rintro e w5 ⟨rfl, hb5⟩; have B5 : Hid (Below wr.drew.heap.size wr.drew w5) := hb5; clear hb5; go_wp2_with fail
                              refine hK.out _ _ ?hS22r17 (fun hHeld => ?rest22r17)
                              case hS22r17 => exact ⟨(B5.out.cell (p := ⟨b, off + k * 4, none⟩) (show b < wr.heap.size by omega)).trans q0, (B5.out.cell (p := ⟨b, off + k * 4 + 1, none⟩) (show b < wr.heap.size by omega)).trans q1, (B5.out.cell (p := ⟨w.heap.size, 0, none⟩) (show w.heap.size < wr.heap.size by omega)).trans f0⟩
                              clear hK K
                              try simp only [Act.put, List.setIfInBounds_toArray, List.set_cons_zero, List.set_cons_succ, List.getElem_toArray, List.getElem_cons_zero, List.getElem_cons_succ]
                              refine wpAnyH_take (i := 23) (v := ?v23r17) rfl (by kernel_rfl) (by kernel_rfl) (by kernel_rfl) (fun _ _ _ h => h) (Or.inl ⟨by rfl, ?hy23r17⟩) hHeld ?rest23r17
                              case hy23r17 => (intro w hSw; (try dsimp only at hSw); go_simp; try with_reducible rfl)
                              try simp only [Act.put, List.setIfInBounds_toArray, List.set_cons_zero, List.set_cons_succ, List.getElem_toArray, List.getElem_cons_zero, List.getElem_cons_succ]
                              refine wpAnyH_done (by kernel_rfl) ?_ _
                              refine NoPanic.normal ?_
                              have B6 : Hid (Below w.heap.size w w5) := (HW3.out.drew).trans (B5.out.mono (show w.heap.size ≤ wr.heap.size by omega))
                              have G6 : Hid (w5.heap[w.heap.size]? = some (.cells (ec (tx x.p) x.k x.m (tx x.b)) 34)) := (B5.out.block w.heap.size (show w.heap.size < wr.heap.size by omega)).trans HG3.out
                              clear hHeld
                              go_wp2_with fail
                              go_roundg (j - (k + 1))
                              case measure => omega
                              case rel => exact ⟨k + 1, by omega, rfl, by go_num, HA2, (by first | exact B6.out | exact B6.out.drew), G6⟩
                            · rw [hk3] at q1
                              go_wp2_with fail
                              refine wp_region_noPanic ?_
                              refine wp_region_held_drew (S := (fun W : World => W.cell? ⟨b, off + k * 4, none⟩ = some (.string (tx y.p)) ∧ W.cell? ⟨b, off + k * 4 + 1, none⟩ = some (.int .i64 3) ∧ W.cell? ⟨w.heap.size, 0, none⟩ = some (.string (tx x.p)))) (by kernel_rfl) ?hSar18 (fun hHeld => ?restar18)
                              case hSar18 => exact ⟨q0, q1, f0⟩
                              case restar18 =>
                              refine wpAnyH_take (i := 0) (v := ?v0r18) rfl (by kernel_rfl) (by kernel_rfl) (by kernel_rfl) (fun _ _ _ h => h) (Or.inl ⟨by rfl, ?hy0r18⟩) hHeld ?rest0r18
                              case hy0r18 => (intro w hSw; (try dsimp only at hSw); go_simp; try with_reducible rfl)
                              try simp only [Act.put, List.setIfInBounds_toArray, List.set_cons_zero, List.set_cons_succ, List.getElem_toArray, List.getElem_cons_zero]
                              refine wpAnyH_take (i := 1) (v := ?v1r18) rfl (by kernel_rfl) (by kernel_rfl) (by kernel_rfl) (fun _ _ _ h => h) (Or.inl ⟨by rfl, ?hy1r18⟩) hHeld ?rest1r18
                              case hy1r18 => (intro w hSw; (try dsimp only at hSw); go_simp; try with_reducible rfl)
                              try simp only [Act.put, List.setIfInBounds_toArray, List.set_cons_zero, List.set_cons_succ, List.getElem_toArray, List.getElem_cons_zero, List.getElem_cons_succ]
                              refine wpAnyH_take (i := 2) (v := ?v2r18) rfl (by kernel_rfl) (by kernel_rfl) (by kernel_rfl) (fun _ _ _ h => h) (Or.inl ⟨by rfl, ?hy2r18⟩) hHeld ?rest2r18
                              case hy2r18 => (intro w hSw; (try dsimp only at hSw); go_simp; try with_reducible rfl)
                              try simp only [Act.put, List.setIfInBounds_toArray, List.set_cons_zero, List.set_cons_succ, List.getElem_toArray, List.getElem_cons_zero, List.getElem_cons_succ]
                              refine wpAnyH_take (i := 3) (v := ?v3r18) rfl (by kernel_rfl) (by kernel_rfl) (by kernel_rfl) (fun _ _ _ h => h) (Or.inl ⟨by rfl, ?hy3r18⟩) hHeld ?rest3r18
                              case hy3r18 => (intro w hSw; (try dsimp only at hSw); go_simp; try with_reducible rfl)
                              try simp only [Act.put, List.setIfInBounds_toArray, List.set_cons_zero, List.set_cons_succ, List.getElem_toArray, List.getElem_cons_zero, List.getElem_cons_succ]
                              refine wpAnyH_take (i := 4) (v := ?v4r18) rfl (by kernel_rfl) (by kernel_rfl) (by kernel_rfl) (fun _ _ _ h => h) (Or.inl ⟨by rfl, ?hy4r18⟩) hHeld ?rest4r18
                              case hy4r18 => (intro w hSw; (try dsimp only at hSw); go_simp; try with_reducible rfl)
                              try simp only [Act.put, List.setIfInBounds_toArray, List.set_cons_zero, List.set_cons_succ, List.getElem_toArray, List.getElem_cons_zero, List.getElem_cons_succ]
                              refine wpAnyH_take (i := 5) (v := ?v5r18) rfl (by kernel_rfl) (by kernel_rfl) (by kernel_rfl) (fun _ _ _ h => h) (Or.inl ⟨by rfl, ?hy5r18⟩) hHeld ?rest5r18
                              case hy5r18 => (intro w hSw; (try dsimp only at hSw); go_simp; try with_reducible rfl)
                              try simp only [Act.put, List.setIfInBounds_toArray, List.set_cons_zero, List.set_cons_succ, List.getElem_toArray, List.getElem_cons_zero, List.getElem_cons_succ]
                              refine wpAnyH_take (i := 6) (v := ?v6r18) rfl (by kernel_rfl) (by kernel_rfl) (by kernel_rfl) (fun _ _ _ h => h) (Or.inl ⟨by rfl, ?hy6r18⟩) hHeld ?rest6r18
                              case hy6r18 => (intro w hSw; (try dsimp only at hSw); go_simp; try with_reducible rfl)
                              try simp only [Act.put, List.setIfInBounds_toArray, List.set_cons_zero, List.set_cons_succ, List.getElem_toArray, List.getElem_cons_zero, List.getElem_cons_succ]
                              refine wpAnyH_take (i := 7) (v := ?v7r18) rfl (by kernel_rfl) (by kernel_rfl) (by kernel_rfl) (fun _ _ _ h => h) (Or.inl ⟨by rfl, ?hy7r18⟩) hHeld ?rest7r18
                              case hy7r18 => (intro w hSw; (try dsimp only at hSw); go_simp; try with_reducible rfl)
                              try simp only [Act.put, List.setIfInBounds_toArray, List.set_cons_zero, List.set_cons_succ, List.getElem_toArray, List.getElem_cons_zero, List.getElem_cons_succ]
                              refine wpAnyH_take (i := 8) (v := ?v8r18) rfl (by kernel_rfl) (by kernel_rfl) (by kernel_rfl) (fun _ _ _ h => h) (Or.inl ⟨by rfl, ?hy8r18⟩) hHeld ?rest8r18
                              case hy8r18 => (intro w hSw; (try dsimp only at hSw); go_simp; try with_reducible rfl)
                              try simp only [Act.put, List.setIfInBounds_toArray, List.set_cons_zero, List.set_cons_succ, List.getElem_toArray, List.getElem_cons_zero, List.getElem_cons_succ]
                              refine wpAnyH_take (i := 9) (v := ?v9r18) rfl (by kernel_rfl) (by kernel_rfl) (by kernel_rfl) (fun _ _ _ h => h) (Or.inl ⟨by rfl, ?hy9r18⟩) hHeld ?rest9r18
                              case hy9r18 => (intro w hSw; (try dsimp only at hSw); go_simp; try with_reducible rfl)
                              try simp only [Act.put, List.setIfInBounds_toArray, List.set_cons_zero, List.set_cons_succ, List.getElem_toArray, List.getElem_cons_zero, List.getElem_cons_succ]
                              refine wpAnyH_take (i := 10) (v := ?v10r18) rfl (by kernel_rfl) (by kernel_rfl) (by kernel_rfl) (fun _ _ _ h => h) (Or.inl ⟨by rfl, ?hy10r18⟩) hHeld ?rest10r18
                              case hy10r18 => (intro w hSw; (try dsimp only at hSw); go_simp; try with_reducible rfl)
                              try simp only [Act.put, List.setIfInBounds_toArray, List.set_cons_zero, List.set_cons_succ, List.getElem_toArray, List.getElem_cons_zero, List.getElem_cons_succ]
                              refine wpAnyH_take (i := 11) (v := ?v11r18) rfl (by kernel_rfl) (by kernel_rfl) (by kernel_rfl) (fun _ _ _ h => h) (Or.inl ⟨by rfl, ?hy11r18⟩) hHeld ?rest11r18
                              case hy11r18 => (intro w hSw; (try dsimp only at hSw); go_simp; try with_reducible rfl)
                              try simp only [Act.put, List.setIfInBounds_toArray, List.set_cons_zero, List.set_cons_succ, List.getElem_toArray, List.getElem_cons_zero, List.getElem_cons_succ]
                              refine wpAnyH_take (i := 12) (v := ?v12r18) rfl (by kernel_rfl) (by kernel_rfl) (by kernel_rfl) (fun _ _ _ h => h) (Or.inl ⟨by rfl, ?hy12r18⟩) hHeld ?rest12r18
                              case hy12r18 => (intro w hSw; (try dsimp only at hSw); go_simp; try with_reducible rfl)
                              try simp only [Act.put, List.setIfInBounds_toArray, List.set_cons_zero, List.set_cons_succ, List.getElem_toArray, List.getElem_cons_zero, List.getElem_cons_succ]
                              refine wpAnyH_take (i := 13) (v := ?v13r18) rfl (by kernel_rfl) (by kernel_rfl) (by kernel_rfl) (fun _ _ _ h => h) (Or.inl ⟨by rfl, ?hy13r18⟩) hHeld ?rest13r18
                              case hy13r18 => (intro w hSw; (try dsimp only at hSw); go_simp; try with_reducible rfl)
                              try simp only [Act.put, List.setIfInBounds_toArray, List.set_cons_zero, List.set_cons_succ, List.getElem_toArray, List.getElem_cons_zero, List.getElem_cons_succ]
                              refine wpAnyH_take (i := 14) (v := ?v14r18) rfl (by kernel_rfl) (by kernel_rfl) (by kernel_rfl) (fun _ _ _ h => h) (Or.inl ⟨by rfl, ?hy14r18⟩) hHeld ?rest14r18
                              case hy14r18 => (intro w hSw; (try dsimp only at hSw); go_simp; try with_reducible rfl)
                              try simp only [Act.put, List.setIfInBounds_toArray, List.set_cons_zero, List.set_cons_succ, List.getElem_toArray, List.getElem_cons_zero, List.getElem_cons_succ]
                              refine wpAnyH_take (i := 15) (v := ?v15r18) rfl (by kernel_rfl) (by kernel_rfl) (by kernel_rfl) (fun _ _ _ h => h) (Or.inl ⟨by rfl, ?hy15r18⟩) hHeld ?rest15r18
                              case hy15r18 => (intro w hSw; (try dsimp only at hSw); go_simp; try with_reducible rfl)
                              try simp only [Act.put, List.setIfInBounds_toArray, List.set_cons_zero, List.set_cons_succ, List.getElem_toArray, List.getElem_cons_zero, List.getElem_cons_succ]
                              refine wpAnyH_take (i := 16) (v := ?v16r18) rfl (by kernel_rfl) (by kernel_rfl) (by kernel_rfl) (fun _ _ _ h => h) (Or.inl ⟨by rfl, ?hy16r18⟩) hHeld ?rest16r18
                              case hy16r18 => (intro w hSw; (try dsimp only at hSw); go_simp; try with_reducible rfl)
                              try simp only [Act.put, List.setIfInBounds_toArray, List.set_cons_zero, List.set_cons_succ, List.getElem_toArray, List.getElem_cons_zero, List.getElem_cons_succ]
                              refine wpAnyH_take (i := 17) (v := ?v17r18) rfl (by kernel_rfl) (by kernel_rfl) (by kernel_rfl) (fun _ _ _ h => h) (Or.inl ⟨by rfl, ?hy17r18⟩) hHeld ?rest17r18
                              case hy17r18 => (intro w hSw; (try dsimp only at hSw); go_simp; try with_reducible rfl)
                              try simp only [Act.put, List.setIfInBounds_toArray, List.set_cons_zero, List.set_cons_succ, List.getElem_toArray, List.getElem_cons_zero, List.getElem_cons_succ]
                              refine wpAnyH_take (i := 18) (v := ?v18r18) rfl (by kernel_rfl) (by kernel_rfl) (by kernel_rfl) (fun _ _ _ h => h) (Or.inl ⟨by rfl, ?hy18r18⟩) hHeld ?rest18r18
                              case hy18r18 => (intro w hSw; (try dsimp only at hSw); go_simp; try with_reducible rfl)
                              try simp only [Act.put, List.setIfInBounds_toArray, List.set_cons_zero, List.set_cons_succ, List.getElem_toArray, List.getElem_cons_zero, List.getElem_cons_succ]
                              refine wpAnyH_take (i := 19) (v := ?v19r18) rfl (by kernel_rfl) (by kernel_rfl) (by kernel_rfl) (fun _ _ _ h => h) (Or.inl ⟨by rfl, ?hy19r18⟩) hHeld ?rest19r18
                              case hy19r18 => (intro w hSw; (try dsimp only at hSw); go_simp; try with_reducible rfl)
                              try simp only [Act.put, List.setIfInBounds_toArray, List.set_cons_zero, List.set_cons_succ, List.getElem_toArray, List.getElem_cons_zero, List.getElem_cons_succ]
                              refine wpAnyH_take (i := 20) (v := ?v20r18) rfl (by kernel_rfl) (by kernel_rfl) (by kernel_rfl) (fun _ _ _ h => h) (Or.inl ⟨by rfl, ?hy20r18⟩) hHeld ?rest20r18
                              case hy20r18 => (intro w hSw; (try dsimp only at hSw); go_simp; try with_reducible rfl)
                              try simp only [Act.put, List.setIfInBounds_toArray, List.set_cons_zero, List.set_cons_succ, List.getElem_toArray, List.getElem_cons_zero, List.getElem_cons_succ]
                              refine wpAnyH_take (i := 21) (v := ?v21r18) rfl (by kernel_rfl) (by kernel_rfl) (by kernel_rfl) (fun _ _ _ h => h) (Or.inl ⟨by rfl, ?hy21r18⟩) hHeld ?rest21r18
                              case hy21r18 => (intro w hSw; (try dsimp only at hSw); go_simp; try with_reducible rfl)
                              try simp only [Act.put, List.setIfInBounds_toArray, List.set_cons_zero, List.set_cons_succ, List.getElem_toArray, List.getElem_cons_zero, List.getElem_cons_succ]
                              refine wpAnyH_ready (rs := [22]) (by kernel_rfl) (by simp) ?_
                              refine AllReadyH.cons rfl (fun K hK => ?_) AllReadyH.nil
                              go_simp; refine (KN.out _).mono ?_; rintro e w5 ⟨rfl, hb5⟩; have B5 : Hid (Below wr.drew.heap.size wr.drew w5) := hb5; clear hb5; go_wp2_with fail
                              refine hK.out _ _ ?hS22r18 (fun hHeld => ?rest22r18)
                              case hS22r18 => exact ⟨(B5.out.cell (p := ⟨b, off + k * 4, none⟩) (show b < wr.heap.size by omega)).trans q0, (B5.out.cell (p := ⟨b, off + k * 4 + 1, none⟩) (show b < wr.heap.size by omega)).trans q1, (B5.out.cell (p := ⟨w.heap.size, 0, none⟩) (show w.heap.size < wr.heap.size by omega)).trans f0⟩
                              clear hK K
                              try simp only [Act.put, List.setIfInBounds_toArray, List.set_cons_zero, List.set_cons_succ, List.getElem_toArray, List.getElem_cons_zero, List.getElem_cons_succ]
                              refine wpAnyH_take (i := 23) (v := ?v23r18) rfl (by kernel_rfl) (by kernel_rfl) (by kernel_rfl) (fun _ _ _ h => h) (Or.inl ⟨by rfl, ?hy23r18⟩) hHeld ?rest23r18
                              case hy23r18 => (intro w hSw; (try dsimp only at hSw); go_simp; try with_reducible rfl)
                              try simp only [Act.put, List.setIfInBounds_toArray, List.set_cons_zero, List.set_cons_succ, List.getElem_toArray, List.getElem_cons_zero, List.getElem_cons_succ]
                              refine wpAnyH_done (by kernel_rfl) ?_ _
                              refine NoPanic.normal ?_
                              have B6 : Hid (Below w.heap.size w w5) := (HW3.out.drew).trans (B5.out.mono (show w.heap.size ≤ wr.heap.size by omega))
                              have G6 : Hid (w5.heap[w.heap.size]? = some (.cells (ec (tx x.p) x.k x.m (tx x.b)) 34)) := (B5.out.block w.heap.size (show w.heap.size < wr.heap.size by omega)).trans HG3.out
                              clear hHeld
                              go_wp2_with fail
                              go_roundg (j - (k + 1))
                              case measure => omega
                              case rel => exact ⟨k + 1, by omega, rfl, by go_num, HA2, (by first | exact B6.out | exact B6.out.drew), G6⟩
                        · have hs' : shutB y = false := by simpa using hs
                          rw [hs'] at hsh
                          have hn1 : decide (y.k = 1) = false := by
                            cases hd : decide (y.k = 1) with
                            | true => rw [hd] at hsh; simp at hsh
                            | false => rfl
                          have hn3 : decide (y.k = 3) = false := by
                            cases hd : decide (y.k = 3) with
                            | true => rw [hd] at hsh; simp at hsh
                            | false => rfl
                          have HA2 : Hid (anyIn (l.take (k + 1)) x = false) := by
                            show _ = _
                            rw [HAS.out, HA.out, hs']
                            rfl
                          have hq1 : ¬ y.k = 1 := by simpa using hn1
                          have hq3 : ¬ y.k = 3 := by simpa using hn3
                          have hb1 : (y.k == 1) = false := by simp [hq1]
                          have hb3 : (y.k == 3) = false := by simp [hq3]
                          clear hsh hs hs'
                          go_wp2_with fail
                          go_quiet (fail)
                          go_wp2_with fail
                          go_roundg (j - (k + 1))
                          case measure => omega
                          case rel => exact ⟨k + 1, by omega, rfl, by go_num, HA2, below_drewN HW3.out _, by show _ = _; rw [World.heap_drewN]; exact HG3.out⟩
                      · have e : k = j := by omega
                        subst e
                        have k1 : ¬ (k : Int) < (k : Int) := by omega
                        have HR : Hid (r = 0) := by
                          show _ = _
                          rw [HW2.out, if_neg HNL.out, if_neg (by rw [HA.out]; simp)]
                        go_wp2_with fail
                        go_ret
                        refine ⟨?_, HW3.out⟩
                        rw [HR.out]
                        rfl
end Go.Proofs.YtbefmcagpmgkiaaDoor
