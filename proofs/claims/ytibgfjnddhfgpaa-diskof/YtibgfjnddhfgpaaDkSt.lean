/- What disk sorts: what waits, by the block's number. -/
import Derived.Test.YtibgfjnddhfgpaaDkSo
namespace Go.Proofs.Ytibgfjnddhfgpaa
open Go.Shelf Go.RowKit Go.Lib Go.Sort
set_option linter.unusedVariables false
theorem ltOf_cfW (x y : Wt) : ltOf cfW x y = decide (x.1 < y.1) := by
  unfold ltOf cfW cI
  by_cases h : x.1 < y.1
  · simp [h]
  · by_cases h2 : y.1 < x.1 <;> simp [h, h2]
theorem swoW : SWO (ltOf cfW) where
  irrefl x := by rw [ltOf_cfW]; simp
  trans x y z h1 h2 := by rw [ltOf_cfW] at *; simp at *; omega
  ntrans x y z h1 h2 := by rw [ltOf_cfW] at *; simp at *; omega
theorem grownBy_sortedP {w : World} {g n : Nat} {os : Array Obj} (F : Array Value) : w.grownBy (grow (putRow id (Sort.ahead w n) g 0 F) os) (some g) := by
  refine ⟨rfl, rfl, rfl, by simp, fun k hk hne => ?_⟩
  rw [heap_grow_old _ _ (by simpa using hk)]
  have : g ≠ k := fun e => hne (by rw [e])
  simp [putRow, mapBlock, Sort.ahead, Array.getElem?_modify, this]
set_option maxHeartbeats 2000000 in
theorem sortW_is (w : World) (g n cap : Nat) (l : List Wt) (hn : l.length = n) (cur : Array Value) (hg : w.heap[g]? = some (.cells cur 83)) (hin : ∀ i x, l[i]? = some x → Wc w g (i * 2) x) (hn62 : n < 4611686018427387904) :
    Calls Try.prog 44 #[.slice (some ⟨g, 0, none⟩) n cap, .func (.func 45) #[] #[]] w fun e w' => e = .returned (.tuple #[]) ∧ ∃ l', l'.Perm l ∧ l'.Pairwise (fun x y => x.1 ≤ y.1) ∧ InW w' (some ⟨g, 0, none⟩) l' ∧ w.grownBy w' (some g) := by
  letI : Inhabited Wt := ⟨(0, 0)⟩
  have hgl : g < w.heap.size := (Array.getElem?_eq_some_iff.1 hg).1
  have hsz : l.toArray.size = n := by simpa using hn
  have hH : HoldsK wcl 2 w g 0 l.toArray := by
    intro j hj
    rw [size_flatK, hsz] at hj
    refine ⟨?_, frozen_of_row w g _ _ _ hg⟩
    rw [get_flatK wcl 2 l.toArray j (by rw [hsz]; exact hj)]
    have hi : j / 2 < l.length := by omega
    have e1 : l.toArray[j / 2]! = l[j / 2] := by simp [hi]
    obtain ⟨c0, c1⟩ := hin _ _ (List.getElem?_eq_getElem hi)
    rw [e1]
    have hj4 : 0 + j = j / 2 * 2 + j % 2 := by omega
    rw [hj4]
    rcases (by omega : j % 2 = 0 ∨ j % 2 = 1) with e | e <;> rw [e]
    · exact c0
    · exact c1
  have eg : ∀ args w, (callFunc 45 args).run Try.prog w = .ok (.enter 45 args) w := enters_of Try.func45 (by kernel_rfl) rfl
  have hcmp : CmpLays Try.prog 45 #[] wcl 2 cfW g 0 l.toArray.size w := fun m os dk _ x y => byBlock_is x y _
  have hcon := AnyQ.slices_SortFunc soLays 2 Try.isAgg83 Try.sizeOf83 wcl (fun _ => rfl) (fun x v hv => by simp [wcl] at hv; rcases hv with rfl | rfl <;> rfl) cfW swoW 45 #[] g 0 cap l.toArray w eg hcmp hH hgl (by rw [hsz]; exact hn62)
  change Calls Try.prog 44 _ _ _ at hcon
  rw [hsz] at hcon
  refine hcon.mono ?_
  rintro e w' ⟨rfl, d', m, os, ⟨hs', _, hperm⟩, hsort, rfl⟩
  rw [hsz] at hs'
  have hH2 : HoldsK wcl 2 (sortWorldK wcl 2 w g 0 m d' os) g 0 d' := holdsK_sortWorldK_c wcl 2 w g 0 l.toArray d' m os hH hgl (by rw [hsz]; exact hs')
  refine ⟨rfl, d'.toList, ?_, ?_, ?_, grownBy_sortedP _⟩
  · have e1 : (d'.extract 0 n).toList = d'.toList := by rw [← hs', Array.extract_size]
    have e2 : (l.toArray.extract 0 n).toList = l := by rw [← hsz, Array.extract_size]
    rw [e1, e2] at hperm
    exact hperm
  · rw [List.pairwise_iff_getElem]
    intro i j hi hj hij
    have hi' : i < d'.size := by simpa using hi
    have hj' : j < d'.size := by simpa using hj
    have := hsort i j (Nat.zero_le _) hij (by omega)
    rw [ltOf_cfW, getElem!_pos d' i hi', getElem!_pos d' j hj'] at this
    simpa using this
  · refine .inr ⟨g, 0, rfl, ?_, fun i x hx => ?_⟩
    · have := (grownBy_sortedP (w := w) (g := g) (n := m) (os := os) (flatK wcl 2 d')).size
      exact Nat.lt_of_lt_of_le hgl this
    · have hi : i < d'.size := by
        rcases Nat.lt_or_ge i d'.size with h | h
        · exact h
        · rw [Array.getElem?_toList, Array.getElem?_eq_none h] at hx
          simp at hx
      rw [Array.getElem?_toList, Array.getElem?_eq_getElem hi] at hx
      simp only [Option.some.injEq] at hx
      have hc : ∀ t, t < 2 → (sortWorldK wcl 2 w g 0 m d' os).cell? ⟨g, 0 + i * 2 + t, none⟩ = some ((wcl d'[i])[t]!) := by
        intro t ht
        have := (hH2 (i * 2 + t) (by rw [size_flatK]; omega)).1
        rw [get_flatK wcl 2 d' (i * 2 + t) (by omega), show (i * 2 + t) / 2 = i by omega, show (i * 2 + t) % 2 = t by omega, getElem!_pos d' i hi] at this
        rw [show 0 + i * 2 + t = 0 + (i * 2 + t) by omega]
        exact this
      subst hx
      exact ⟨hc 0 (by omega), hc 1 (by omega)⟩
end Go.Proofs.Ytibgfjnddhfgpaa
