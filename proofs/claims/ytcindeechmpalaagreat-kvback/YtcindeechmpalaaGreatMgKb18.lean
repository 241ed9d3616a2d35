/- The statements' own 'small' of changes. A map of changes by their keys, as a plain function: what is at a key, a store, a delete, and a range in whatever order. Changes held against each other; the document's Same. kv.change; how many keys a map has. -/
import Derived.Test.YtcindeechmpalaaGreatMgKb17
import Derived.Test.YtcindeechmpalaaGreatMgKb14
import Derived.Maps.Own
import Derived.Maps.OwnSet
import Derived.Maps.Views
import Derived.Maps.RangeWalk
import Derived.StringKeys
import Derived.Laws.StructEq
import Derived.Test.YtcindeechmpalaaGreatMgKb15
namespace Go.Proofs.YtcindeechmpalaaGreat
open Go.ChangeShapes Go.WideShapes Go.ChangeAt Go.RowKit Go.Deep
set_option linter.unusedVariables false
set_option linter.unusedSimpArgs false
/-- a text, cut; a change, cut; changes, cut -/
def cT (m : Nat) (s : ByteArray) : ByteArray := if m < s.size then s.extract 0 m else s
def smP (x : Pt) : Pt := ⟨cT 70 x.k, cT 1100 x.v, x.g⟩
def smK (l : List Pt) : List Pt := (l.take 70).map smP
theorem cT_size (m : Nat) (s : ByteArray) : (cT m s).size ≤ m := by
  unfold cT
  split
  · simp; omega
  · omega
theorem smK_len (l : List Pt) : (smK l).length ≤ 70 := by unfold smK; rw [List.length_map, List.length_take]; omega
theorem smK_fit (l : List Pt) : ∀ x ∈ smK l, x.k.size ≤ 70 ∧ x.v.size ≤ 1100 := by
  intro x hx
  obtain ⟨y, _, rfl⟩ := List.mem_map.1 hx
  exact ⟨cT_size 70 _, cT_size 1100 _⟩
theorem smK_fitP (l : List Pt) : FitP (smK l) := fun x hx => by
  have := smK_fit l x hx
  exact ⟨by omega, by omega⟩
set_option maxRecDepth 100000 in
set_option maxHeartbeats 4000000 in
theorem ksmall_is (l : List Pt) (n : Nat) (hn : l.length = n) (hn2 : n ≤ 140737488355328) (hf : FitP l) (a : Option Addr) (c : Nat) (w : World) (hl : InP w a l) :
    Calls Tryz.prog 14 #[.slice a n c] w fun e w' => ∃ v, e = .returned v ∧ OwnP w' w.heap.size v (smK l) ∧ Below w.heap.size w w' := by
  have HF : Hid (FitP l) := hf
  have HL : Hid (InP w a l) := hl
  have HN : Hid (l.length = n) := hn
  obtain ⟨h, hh⟩ : ∃ h, h = w.heap.size := ⟨_, rfl⟩
  have HH : Hid (h = w.heap.size) := hh
  clear hf hl hn hh
  go_enter Tryz.func14, Tryz.ntmps14
  go_wp2_with fail
  go_loopg [3, 4] 70 (fun g v i wr => ∃ (j : Nat), j ≤ n ∧ j ≤ 70 ∧ g = 70 - j ∧ i = .int .i64 (j : Int) ∧ Hid (OwnP wr h v ((l.take j).map smP)) ∧ Hid (Below h w wr))
  case atStart => exact ⟨0, Nat.zero_le _, Nat.zero_le _, rfl, rfl, OwnP.nil _ _, Below.refl _ _⟩
  case round =>
    obtain ⟨j, hj, hj2, rfl, rfl, HO, HBW⟩ := hrel
    have hsz : h ≤ wr.heap.size := by rw [HH.out]; exact HBW.out.size
    by_cases hjn : j < n
    · have i1 : (j : Int) < (n : Int) := by omega
      by_cases hj70 : j < 70
      · have i2 : (j : Int) < 70 := by omega
        have ri : IntKind.i64.wrap ((j : Int) + 1) = (j : Int) + 1 := by rw [IntKind.wrap_i64]; omega
        obtain ⟨x, hx⟩ : ∃ x, l[j]? = some x := ⟨l[j]'(by rw [HN.out]; exact hjn), by simp [HN.out, hjn]⟩
        obtain ⟨b, off, rfl, hbw, hpc⟩ := HL.out.at hx
        obtain ⟨c0, c1, c2⟩ := hpc.kept (HBW.out.block b (by rw [HH.out]; exact hbw))
        have HT : Hid ((l.take (j + 1)).map smP = (l.take j).map smP ++ [smP x]) := by
          show _ = _
          obtain ⟨h1, h2⟩ := List.getElem?_eq_some_iff.1 hx
          rw [List.take_succ_eq_append_getElem h1, h2, List.map_append]
          rfl
        have hLl : ((l.take j).map smP).length ≤ 1000000000 := by rw [List.length_map, List.length_take]; omega
        have hfx := HF.out x (List.mem_of_getElem? hx)
        obtain ⟨xk, xv, xg⟩ := x
        simp only at c0 c1 c2 hfx
        have HLl : Hid (((l.take j).map smP).length ≤ 1000000000) := hLl
        generalize (l.take j).map smP = A at *
        have HSM : Hid (smP ⟨xk, xv, xg⟩ = ⟨cT 70 xk, cT 1100 xv, xg⟩) := rfl
        clear hx hpc hLl
        obtain ⟨hk9, hv9⟩ := hfx
        generalize u3 = V at *
        have HOV : Hid (∀ k, V.ownBlock = some k → h ≤ k ∧ k < wr.heap.size) := fun k hk => HO.out.own k hk
        by_cases hk : 70 < xk.size
        · have t1 : (70 : Int) < (xk.size : Int) := by omega
          have t1b : decide ((70 : Int) < (xk.size : Int)) = true := by rw [decide_eq_true_eq]; omega
          by_cases hv : 1100 < xv.size
          · have t2 : (1100 : Int) < (xv.size : Int) := by omega
            have Y1 : Hid (∀ k, k < wr.heap.size → (wr.alloc (.cells #[.string (xk.extract 0 70), .string (xv.extract 0 1100), .bool xg] 45)).heap[k]? = wr.heap[k]?) := fun k hk => Below.heap_alloc _ _ _ hk
            have Z1 : Hid ((wr.alloc (.cells #[.string (xk.extract 0 70), .string (xv.extract 0 1100), .bool xg] 45)).heap.size = wr.heap.size + 1) := by show _ = _; simp
            have X8 : Hid (((wr.alloc (.cells #[.string (xk.extract 0 70), .string (xv.extract 0 1100), .bool xg] 45)).alloc (.cells #[.string (xk.extract 0 70), .string (xv.extract 0 1100), .bool xg] 45)).heap[wr.heap.size + 1]? = some (.cells (pC ⟨xk.extract 0 70, xv.extract 0 1100, xg⟩) 45)) := by show _ = _; rw [← Z1.out]; exact heap_alloc_new (wr.alloc (.cells #[.string (xk.extract 0 70), .string (xv.extract 0 1100), .bool xg] 45)) _
            have Y8 : Hid (∀ k, k < wr.heap.size → ((wr.alloc (.cells #[.string (xk.extract 0 70), .string (xv.extract 0 1100), .bool xg] 45)).alloc (.cells #[.string (xk.extract 0 70), .string (xv.extract 0 1100), .bool xg] 45)).heap[k]? = wr.heap[k]?) := fun k hk => (Below.heap_alloc _ _ _ (by rw [Z1.out]; omega)).trans (Y1.out k hk)
            have Z8 : Hid (((wr.alloc (.cells #[.string (xk.extract 0 70), .string (xv.extract 0 1100), .bool xg] 45)).alloc (.cells #[.string (xk.extract 0 70), .string (xv.extract 0 1100), .bool xg] 45)).heap.size = wr.heap.size + 2) := by show _ = _; simp
            have O8 : Hid (OwnP ((wr.alloc (.cells #[.string (xk.extract 0 70), .string (xv.extract 0 1100), .bool xg] 45)).alloc (.cells #[.string (xk.extract 0 70), .string (xv.extract 0 1100), .bool xg] 45)) h V A) := HO.out.kept fun k hk => Y8.out k (HOV.out k hk).2
            have B8 : Hid (Below h w ((wr.alloc (.cells #[.string (xk.extract 0 70), .string (xv.extract 0 1100), .bool xg] 45)).alloc (.cells #[.string (xk.extract 0 70), .string (xv.extract 0 1100), .bool xg] 45))) := HBW.out.trans ⟨rfl, rfl, rfl, by rw [Z8.out]; omega, fun k hk => Y8.out k (by omega)⟩
            have HS2 : Hid (smP ⟨xk, xv, xg⟩ = ⟨xk.extract 0 70, xv.extract 0 1100, xg⟩) := by show _ = _; rw [HSM.out]; unfold cT; rw [if_pos hk, if_pos hv]
            go_wp2_with (at_builtin; refine append_put rfl (.tmp 36) (.tmp 38) rfl h V A rfl O8.out (wr.heap.size + 1) 1 ⟨xk.extract 0 70, xv.extract 0 1100, xg⟩ rfl X8.out HLl.out (by rw [Z8.out]; omega) ?_; intro v9 u9 ho9 hg9; have O9 : Hid (OwnP u9 h v9 (A ++ [⟨xk.extract 0 70, xv.extract 0 1100, xg⟩])) := ho9; have B9 : Hid (Below h w u9) := B8.out.grown hg9 (by rw [Z8.out]; omega) (fun k hk => (HOV.out k hk).1); clear ho9 hg9)
            go_roundg (70 - (j + 1))
            case measure => omega
            case rel => exact ⟨j + 1, by omega, by omega, rfl, by simp, by rw [HT.out, HS2.out]; exact O9.out, B9.out⟩
          · have t2 : ¬ (1100 : Int) < (xv.size : Int) := by omega
            have Y1 : Hid (∀ k, k < wr.heap.size → (wr.alloc (.cells #[.string (xk.extract 0 70), .string (xv), .bool xg] 45)).heap[k]? = wr.heap[k]?) := fun k hk => Below.heap_alloc _ _ _ hk
            have Z1 : Hid ((wr.alloc (.cells #[.string (xk.extract 0 70), .string (xv), .bool xg] 45)).heap.size = wr.heap.size + 1) := by show _ = _; simp
            have X8 : Hid (((wr.alloc (.cells #[.string (xk.extract 0 70), .string (xv), .bool xg] 45)).alloc (.cells #[.string (xk.extract 0 70), .string (xv), .bool xg] 45)).heap[wr.heap.size + 1]? = some (.cells (pC ⟨xk.extract 0 70, xv, xg⟩) 45)) := by show _ = _; rw [← Z1.out]; exact heap_alloc_new (wr.alloc (.cells #[.string (xk.extract 0 70), .string (xv), .bool xg] 45)) _
            have Y8 : Hid (∀ k, k < wr.heap.size → ((wr.alloc (.cells #[.string (xk.extract 0 70), .string (xv), .bool xg] 45)).alloc (.cells #[.string (xk.extract 0 70), .string (xv), .bool xg] 45)).heap[k]? = wr.heap[k]?) := fun k hk => (Below.heap_alloc _ _ _ (by rw [Z1.out]; omega)).trans (Y1.out k hk)
            have Z8 : Hid (((wr.alloc (.cells #[.string (xk.extract 0 70), .string (xv), .bool xg] 45)).alloc (.cells #[.string (xk.extract 0 70), .string (xv), .bool xg] 45)).heap.size = wr.heap.size + 2) := by show _ = _; simp
            have O8 : Hid (OwnP ((wr.alloc (.cells #[.string (xk.extract 0 70), .string (xv), .bool xg] 45)).alloc (.cells #[.string (xk.extract 0 70), .string (xv), .bool xg] 45)) h V A) := HO.out.kept fun k hk => Y8.out k (HOV.out k hk).2
            have B8 : Hid (Below h w ((wr.alloc (.cells #[.string (xk.extract 0 70), .string (xv), .bool xg] 45)).alloc (.cells #[.string (xk.extract 0 70), .string (xv), .bool xg] 45))) := HBW.out.trans ⟨rfl, rfl, rfl, by rw [Z8.out]; omega, fun k hk => Y8.out k (by omega)⟩
            have HS2 : Hid (smP ⟨xk, xv, xg⟩ = ⟨xk.extract 0 70, xv, xg⟩) := by show _ = _; rw [HSM.out]; unfold cT; rw [if_pos hk, if_neg hv]
            go_wp2_with (at_builtin; refine append_put rfl (.tmp 36) (.tmp 38) rfl h V A rfl O8.out (wr.heap.size + 1) 1 ⟨xk.extract 0 70, xv, xg⟩ rfl X8.out HLl.out (by rw [Z8.out]; omega) ?_; intro v9 u9 ho9 hg9; have O9 : Hid (OwnP u9 h v9 (A ++ [⟨xk.extract 0 70, xv, xg⟩])) := ho9; have B9 : Hid (Below h w u9) := B8.out.grown hg9 (by rw [Z8.out]; omega) (fun k hk => (HOV.out k hk).1); clear ho9 hg9)
            go_roundg (70 - (j + 1))
            case measure => omega
            case rel => exact ⟨j + 1, by omega, by omega, rfl, by simp, by rw [HT.out, HS2.out]; exact O9.out, B9.out⟩
        · have t1 : ¬ (70 : Int) < (xk.size : Int) := by omega
          by_cases hv : 1100 < xv.size
          · have t2 : (1100 : Int) < (xv.size : Int) := by omega
            have Y1 : Hid (∀ k, k < wr.heap.size → (wr.alloc (.cells #[.string (xk), .string (xv.extract 0 1100), .bool xg] 45)).heap[k]? = wr.heap[k]?) := fun k hk => Below.heap_alloc _ _ _ hk
            have Z1 : Hid ((wr.alloc (.cells #[.string (xk), .string (xv.extract 0 1100), .bool xg] 45)).heap.size = wr.heap.size + 1) := by show _ = _; simp
            have X8 : Hid (((wr.alloc (.cells #[.string (xk), .string (xv.extract 0 1100), .bool xg] 45)).alloc (.cells #[.string (xk), .string (xv.extract 0 1100), .bool xg] 45)).heap[wr.heap.size + 1]? = some (.cells (pC ⟨xk, xv.extract 0 1100, xg⟩) 45)) := by show _ = _; rw [← Z1.out]; exact heap_alloc_new (wr.alloc (.cells #[.string (xk), .string (xv.extract 0 1100), .bool xg] 45)) _
            have Y8 : Hid (∀ k, k < wr.heap.size → ((wr.alloc (.cells #[.string (xk), .string (xv.extract 0 1100), .bool xg] 45)).alloc (.cells #[.string (xk), .string (xv.extract 0 1100), .bool xg] 45)).heap[k]? = wr.heap[k]?) := fun k hk => (Below.heap_alloc _ _ _ (by rw [Z1.out]; omega)).trans (Y1.out k hk)
            have Z8 : Hid (((wr.alloc (.cells #[.string (xk), .string (xv.extract 0 1100), .bool xg] 45)).alloc (.cells #[.string (xk), .string (xv.extract 0 1100), .bool xg] 45)).heap.size = wr.heap.size + 2) := by show _ = _; simp
            have O8 : Hid (OwnP ((wr.alloc (.cells #[.string (xk), .string (xv.extract 0 1100), .bool xg] 45)).alloc (.cells #[.string (xk), .string (xv.extract 0 1100), .bool xg] 45)) h V A) := HO.out.kept fun k hk => Y8.out k (HOV.out k hk).2
            have B8 : Hid (Below h w ((wr.alloc (.cells #[.string (xk), .string (xv.extract 0 1100), .bool xg] 45)).alloc (.cells #[.string (xk), .string (xv.extract 0 1100), .bool xg] 45))) := HBW.out.trans ⟨rfl, rfl, rfl, by rw [Z8.out]; omega, fun k hk => Y8.out k (by omega)⟩
            have HS2 : Hid (smP ⟨xk, xv, xg⟩ = ⟨xk, xv.extract 0 1100, xg⟩) := by show _ = _; rw [HSM.out]; unfold cT; rw [if_neg hk, if_pos hv]
            go_wp2_with (at_builtin; refine append_put rfl (.tmp 36) (.tmp 38) rfl h V A rfl O8.out (wr.heap.size + 1) 1 ⟨xk, xv.extract 0 1100, xg⟩ rfl X8.out HLl.out (by rw [Z8.out]; omega) ?_; intro v9 u9 ho9 hg9; have O9 : Hid (OwnP u9 h v9 (A ++ [⟨xk, xv.extract 0 1100, xg⟩])) := ho9; have B9 : Hid (Below h w u9) := B8.out.grown hg9 (by rw [Z8.out]; omega) (fun k hk => (HOV.out k hk).1); clear ho9 hg9)
            go_roundg (70 - (j + 1))
            case measure => omega
            case rel => exact ⟨j + 1, by omega, by omega, rfl, by simp, by rw [HT.out, HS2.out]; exact O9.out, B9.out⟩
          · have t2 : ¬ (1100 : Int) < (xv.size : Int) := by omega
            have Y1 : Hid (∀ k, k < wr.heap.size → (wr.alloc (.cells #[.string (xk), .string (xv), .bool xg] 45)).heap[k]? = wr.heap[k]?) := fun k hk => Below.heap_alloc _ _ _ hk
            have Z1 : Hid ((wr.alloc (.cells #[.string (xk), .string (xv), .bool xg] 45)).heap.size = wr.heap.size + 1) := by show _ = _; simp
            have X8 : Hid (((wr.alloc (.cells #[.string (xk), .string (xv), .bool xg] 45)).alloc (.cells #[.string (xk), .string (xv), .bool xg] 45)).heap[wr.heap.size + 1]? = some (.cells (pC ⟨xk, xv, xg⟩) 45)) := by show _ = _; rw [← Z1.out]; exact heap_alloc_new (wr.alloc (.cells #[.string (xk), .string (xv), .bool xg] 45)) _
            have Y8 : Hid (∀ k, k < wr.heap.size → ((wr.alloc (.cells #[.string (xk), .string (xv), .bool xg] 45)).alloc (.cells #[.string (xk), .string (xv), .bool xg] 45)).heap[k]? = wr.heap[k]?) := fun k hk => (Below.heap_alloc _ _ _ (by rw [Z1.out]; omega)).trans (Y1.out k hk)
            have Z8 : Hid (((wr.alloc (.cells #[.string (xk), .string (xv), .bool xg] 45)).alloc (.cells #[.string (xk), .string (xv), .bool xg] 45)).heap.size = wr.heap.size + 2) := by show _ = _; simp
            have O8 : Hid (OwnP ((wr.alloc (.cells #[.string (xk), .string (xv), .bool xg] 45)).alloc (.cells #[.string (xk), .string (xv), .bool xg] 45)) h V A) := HO.out.kept fun k hk => Y8.out k (HOV.out k hk).2
            have B8 : Hid (Below h w ((wr.alloc (.cells #[.string (xk), .string (xv), .bool xg] 45)).alloc (.cells #[.string (xk), .string (xv), .bool xg] 45))) := HBW.out.trans ⟨rfl, rfl, rfl, by rw [Z8.out]; omega, fun k hk => Y8.out k (by omega)⟩
            have HS2 : Hid (smP ⟨xk, xv, xg⟩ = ⟨xk, xv, xg⟩) := by show _ = _; rw [HSM.out]; unfold cT; rw [if_neg hk, if_neg hv]
            go_wp2_with (at_builtin; refine append_put rfl (.tmp 36) (.tmp 38) rfl h V A rfl O8.out (wr.heap.size + 1) 1 ⟨xk, xv, xg⟩ rfl X8.out HLl.out (by rw [Z8.out]; omega) ?_; intro v9 u9 ho9 hg9; have O9 : Hid (OwnP u9 h v9 (A ++ [⟨xk, xv, xg⟩])) := ho9; have B9 : Hid (Below h w u9) := B8.out.grown hg9 (by rw [Z8.out]; omega) (fun k hk => (HOV.out k hk).1); clear ho9 hg9)
            go_roundg (70 - (j + 1))
            case measure => omega
            case rel => exact ⟨j + 1, by omega, by omega, rfl, by simp, by rw [HT.out, HS2.out]; exact O9.out, B9.out⟩
      · have i2 : ¬ (j : Int) < 70 := by omega
        have HF2 : Hid (OwnP wr w.heap.size u3 (smK l)) := by
          have e : j = 70 := by omega
          subst e
          have := HO.out
          rw [HH.out] at this
          exact this
        have HB2 : Hid (Below w.heap.size w wr) := by rw [← HH.out]; exact HBW.out
        go_wp2_with fail
        go_ret
        exact ⟨_, rfl, HF2.out, HB2.out⟩
    · have i1 : ¬ (j : Int) < (n : Int) := by omega
      have HF2 : Hid (OwnP wr w.heap.size u3 (smK l)) := by
        have e : smK l = (l.take j).map smP := by
          unfold smK
          rw [List.take_of_length_le (by have := HN.out; omega), List.take_of_length_le (by have := HN.out; omega)]
        rw [e, ← HH.out]
        exact HO.out
      have HB2 : Hid (Below w.heap.size w wr) := by rw [← HH.out]; exact HBW.out
      go_wp2_with fail
      go_ret
      exact ⟨_, rfl, HF2.out, HB2.out⟩
end Go.Proofs.YtcindeechmpalaaGreat
namespace Go.Proofs.YtcindeechmpalaaGreat
open Go.ChangeShapes Go.WideShapes Go.ChangeAt Go.RowKit Go.Deep Go.Maps
set_option linter.unusedVariables false
/-- a text's bytes -/
def dL (s : ByteArray) : List UInt8 := s.data.toList
theorem dL_inj {s t : ByteArray} (h : dL s = dL t) : s = t := ByteArray.ext (Array.toList_inj.1 h)
theorem of_dL (p : List UInt8) : ∃ s : ByteArray, dL s = p := ⟨⟨p.toArray⟩, by simp [dL]⟩
def pA (x : Pt) : Value := .agg (pC x)
/-- what a change reads as -/
def pD (x : Pt) : DataW Unit := .agg [.lit (.string (dL x.k)), .lit (.string (dL x.v)), .lit (.bool x.g)]
def pRl : List Value → Option (DataW Unit × List MemPlace)
  | [.string k, .string v, .bool g] => some (.agg [.lit (.string (dL k)), .lit (.string (dL v)), .lit (.bool g)], [])
  | _ => none
def pR : Value → Option (DataW Unit × List MemPlace)
  | .agg cs => pRl cs.toList
  | _ => none
theorem pR_ag (x : Pt) : pR (pA x) = some (pD x, []) := rfl
theorem pR_inv {v : Value} {z : DataW Unit × List MemPlace} (h : pR v = some z) : ∃ x : Pt, v = pA x ∧ z = (pD x, []) := by
  unfold pR at h
  split at h
  · rename_i cs
    unfold pRl at h
    split at h
    · rename_i k v g hcs
      simp only [Option.some.injEq] at h
      refine ⟨⟨k, v, g⟩, ?_, h.symm⟩
      unfold pA pC
      congr 1
      exact Array.toList_inj.1 hcs
    · simp at h
  · simp at h
theorem pD_inj {x y : Pt} (h : pD x = pD y) : x = y := by
  obtain ⟨a, b, c⟩ := x
  obtain ⟨a', b', c'⟩ := y
  simp [pD] at h
  obtain ⟨h1, h2, rfl⟩ := h
  rw [dL_inj h1, dL_inj h2]
/-- a map's datum tells this function -/
def Pp (D : DataW Unit) (T : ByteArray → Option Pt) : Prop := ∀ p, Maps.has D (.string (dL p)) = (T p).isSome ∧ ∀ x, T p = some x → ∀ z, D.atKey (.string (dL p)) z = pD x
/-- block b is a map that tells this function, of at most n entries -/
def Pm (w : World) (b n : Nat) (T : ByteArray → Option Pt) : Prop := ∃ D, w.ownsMap Tryz.prog 9 pR b n D ∧ Pp D T
theorem lawK : Keyed Tryz.prog 9 := string_keyed Tryz.underlying9
theorem zeroPt (w : World) : (zeroValue 45).run Tryz.prog w = .ok (pA noP) w := by kernel_rfl
theorem keyK (p : ByteArray) (hp : p.size ≤ 140737488355328) : keyOf Tryz.prog 9 (.string p) = some (.string (dL p)) := by
  have := WideMaps.keyOf_string_mk (P := Tryz.prog) (k := 9) Tryz.underlying9 (s := p) (by simp only [maxLen]; omega)
  exact this
theorem keyK_inv {key : Value} {kl : Lit} (h : keyOf Tryz.prog 9 key = some kl) : ∃ p : ByteArray, key = .string p ∧ kl = .string (dL p) := by
  cases key <;> simp [keyOf, Tryz.underlying9, mapKey] at h
  rename_i s
  exact ⟨s, rfl, h.2.symm⟩
theorem Pp.put {D : DataW Unit} {T : ByteArray → Option Pt} (h : Pp D T) (hm : IsMap D) (p : ByteArray) (x : Pt) : Pp (D.put (.string (dL p)) (pD x)) (fun q => if q = p then some x else T q) := by
  intro q
  by_cases hq : q = p
  · subst hq
    simp only [if_pos]
    refine ⟨by rw [has_put_same hm (k := .string (dL q)) trivial]; rfl, fun y hy z => ?_⟩
    cases hy
    exact atKey_put_same hm (k := .string (dL q)) trivial _ _
  · have hne : (Lit.string (dL q)) ≠ .string (dL p) := fun e => hq (dL_inj (by injection e))
    simp only [if_neg hq]
    refine ⟨by rw [has_put_other hne]; exact (h q).1, fun y hy z => ?_⟩
    rw [atKey_put_other hne]
    exact (h q).2 y hy z
theorem Pp.del {D : DataW Unit} {T : ByteArray → Option Pt} (h : Pp D T) (p : ByteArray) : Pp (D.del (.string (dL p))) (fun q => if q = p then none else T q) := by
  intro q
  by_cases hq : q = p
  · subst hq
    simp only [if_pos]
    exact ⟨by rw [has_del_same]; rfl, fun y hy => by cases hy⟩
  · have hne : (Lit.string (dL q)) ≠ .string (dL p) := fun e => hq (dL_inj (by injection e))
    simp only [if_neg hq]
    refine ⟨by rw [has_del_other hne]; exact (h q).1, fun y hy z => ?_⟩
    rw [atKey_del_other hne]
    exact (h q).2 y hy z
theorem Pp.at {D : DataW Unit} {T : ByteArray → Option Pt} (h : Pp D T) (p : ByteArray) : D.atKey (.string (dL p)) (pD noP) = pD ((T p).getD noP) := by
  cases hp : T p with
  | none =>
    have := (h p).1
    rw [hp] at this
    rw [atKey_of_not_has (by simpa using this)]
    rfl
  | some x => exact (h p).2 x hp _
theorem Pm.empty (w : World) : Pm (w.alloc (.map #[] 0)) w.heap.size 0 (fun _ => none) := ⟨.map [], World.ownsMap_made w _ _ _, fun p => ⟨rfl, fun x hx => by cases hx⟩⟩
theorem Pm.mono {w : World} {b n n' : Nat} {T : ByteArray → Option Pt} (h : Pm w b n T) (hn : n ≤ n') : Pm w b n' T := by
  obtain ⟨D, h1, h2⟩ := h
  exact ⟨D, h1.mono hn, h2⟩
theorem Pm.lt {w : World} {b n : Nat} {T : ByteArray → Option Pt} (h : Pm w b n T) : b < w.heap.size := by
  obtain ⟨D, h1, h2⟩ := h
  exact h1.lt
theorem Pm.kept {w w' : World} {b n : Nat} {T : ByteArray → Option Pt} {row : Option Nat} (h : Pm w b n T) (hg : w.grownBy w' row) (hne : some b ≠ row) : Pm w' b n T := by
  obtain ⟨D, h1, h2⟩ := h
  exact ⟨D, h1.kept hg hne, h2⟩
theorem Pm.keep {w w' : World} {b n : Nat} {T : ByteArray → Option Pt} (h : Pm w b n T) (hb : Below w.heap.size w w') : Pm w' b n T :=
  h.kept (row := none) ⟨hb.os, hb.tape, hb.output, hb.size, fun i hi _ => hb.block i hi⟩ (by simp)
/-- 'm[k]' -/
theorem Pm.look {w : World} {b n : Nat} {T : ByteArray → Option Pt} (h : Pm w b n T) (p : ByteArray) (hp : p.size ≤ 140737488355328) : (Instr.lookup 65 (.map (some b)) (.string p) false).run Tryz.prog w = .ok (pA ((T p).getD noP)) w := by
  obtain ⟨D, h1, h2⟩ := h
  obtain ⟨v, ps, hrun, hv⟩ := h1.lookup lawK Tryz.underlying65 (zeroPt w) (pR_ag noP) (keyK p hp)
  obtain ⟨x, rfl, hx⟩ := pR_inv hv
  simp only [Prod.mk.injEq] at hx
  rw [h2.at p] at hx
  rw [pD_inj hx.1]
  exact hrun
section
variable {ops : Array Oper} {rest : List Oper} {o : Oper} {a : Act} {Q : Exit → Act → World → Prop}
/-- 'm[k] = v' -/
theorem wpList_put_pm {w : World} (hg : o.guard = none) (m x v : Operand) (hop : o.op = Op.mapUpdate 65 m x v) (b n : Nat) (T : ByteArray → Option Pt) (hm : a.eval m = .map (some b)) (hs : Pm w b n T) (hn : n < 4611686018427387904) (p : ByteArray) (hp : p.size ≤ 140737488355328) (y : Pt) (hx : a.eval x = .string p) (hv : a.eval v = pA y)
    (hK : ∀ w', Pm w' b (n + 1) (fun q => if q = p then some y else T q) → w.grownBy w' (some b) → wpList Tryz.prog ops Q rest (a.put o.dst undef) w') : wpList Tryz.prog ops Q (o :: rest) a w := by
  obtain ⟨D, h1, h2⟩ := hs
  refine wpList_mapUpdate_own w hg m x v 65 hop 9 45 lawK Tryz.underlying65 pR b n D hm h1 (by unfold maxLen; omega) _ _ _ hx hv (keyK p hp) _ [] (pR_ag y) ?_
  intro w' ho hgr
  exact hK w' ⟨_, ho, h2.put h1.isMap p y⟩ hgr
/-- 'delete(m, k)' -/
theorem wpList_del_pm {w : World} (hg : o.guard = none) (m x : Operand) (hop : o.op = Op.call { callee := Callee.builtin Builtin.delete, args := #[m, x], argTypes := #[65, 9] }) (b n : Nat) (T : ByteArray → Option Pt) (hm : a.eval m = .map (some b)) (hs : Pm w b n T) (p : ByteArray) (hp : p.size ≤ 140737488355328) (hx : a.eval x = .string p)
    (hK : ∀ w', Pm w' b n (fun q => if q = p then none else T q) → w.grownBy w' (some b) → wpList Tryz.prog ops Q rest (a.put o.dst (.tuple #[])) w') : wpList Tryz.prog ops Q (o :: rest) a w := by
  obtain ⟨D, h1, h2⟩ := hs
  refine wpList_delete_own w hg m x 65 9 hop 45 lawK Tryz.underlying65 pR b n D hm h1 _ _ hx (keyK p hp) ?_
  intro w' ho ht
  exact hK w' ⟨_, ho, h2.del p⟩ ht.grown
end
/-- block r ranges over the map in block b; 'left' is still to come -/
def Pn (w : World) (b r n : Nat) (T : ByteArray → Option Pt) (left : ByteArray → Bool) (cnt : Nat) : Prop := ∃ D leftD, w.ranges Tryz.prog 9 pR b r n D leftD cnt ∧ Pp D T ∧ ∀ p, leftD (.string (dL p)) = left p
theorem Pn.pm {w : World} {b r n cnt : Nat} {T : ByteArray → Option Pt} {left : ByteArray → Bool} (h : Pn w b r n T left cnt) : Pm w b n T := by
  obtain ⟨D, l, h1, h2, _⟩ := h
  exact ⟨D, h1.owns, h2⟩
theorem Pn.ne {w : World} {b r n cnt : Nat} {T : ByteArray → Option Pt} {left : ByteArray → Bool} (h : Pn w b r n T left cnt) : r ≠ b := by
  obtain ⟨D, l, h1, h2, _⟩ := h
  exact h1.ne
theorem Pn.lt {w : World} {b r n cnt : Nat} {T : ByteArray → Option Pt} {left : ByteArray → Bool} (h : Pn w b r n T left cnt) : r < w.heap.size := by
  obtain ⟨D, l, h1, h2, _⟩ := h
  exact h1.lt
theorem Pn.left_eq {w : World} {b r n cnt : Nat} {T : ByteArray → Option Pt} {left : ByteArray → Bool} (h : Pn w b r n T left cnt) : w.rangeLeft b r = cnt := by
  obtain ⟨D, l, h1, h2, _⟩ := h
  exact h1.left_eq
theorem Pn.kept {w w' : World} {b r n cnt : Nat} {T : ByteArray → Option Pt} {left : ByteArray → Bool} {row : Option Nat} (h : Pn w b r n T left cnt) (hg : w.grownBy w' row) (hb : some b ≠ row) (hr : some r ≠ row) : Pn w' b r n T left cnt := by
  obtain ⟨D, l, h1, h2, h3⟩ := h
  exact ⟨D, l, h1.kept hg hb hr, h2, h3⟩
theorem Pn.keep {w w' : World} {b r n cnt : Nat} {T : ByteArray → Option Pt} {left : ByteArray → Bool} (h : Pn w b r n T left cnt) (hb : Below w.heap.size w w') : Pn w' b r n T left cnt :=
  h.kept (row := none) ⟨hb.os, hb.tape, hb.output, hb.size, fun i hi _ => hb.block i hi⟩ (by simp) (by simp)
theorem strike_k (p q : ByteArray) : (Lit.string (dL q)).sameKey (.string (dL p)) = decide (q = p) := by
  exact Bool.eq_iff_iff.2 (by simp [Lit.sameKey]; exact ⟨dL_inj, fun h => by rw [h]⟩)
section
variable {ops : Array Oper} {rest : List Oper} {o : Oper} {a : Act} {Q : Exit → Act → World → Prop}
/-- 'range m' -/
theorem wpList_range_pm {w : World} (hg : o.guard = none) (m : Operand) (hop : o.op = Op.range 65 m) (b n : Nat) (T : ByteArray → Option Pt) (hm : a.eval m = .map (some b)) (hs : Pm w b n T)
    (hK : ∀ w' cnt, Pn w' b w.heap.size n T (fun p => (T p).isSome) cnt → w.grownBy w' none → w'.heap.size = w.heap.size + 1 → wpList Tryz.prog ops Q rest (a.put o.dst (.pointer (some ⟨w.heap.size, 0, none⟩))) w') : wpList Tryz.prog ops Q (o :: rest) a w := by
  obtain ⟨D, h1, h2⟩ := hs
  refine wpList_range_own w hg m 65 hop 9 45 lawK Tryz.underlying65 pR b n D hm h1 ?_
  intro w' hr hgr hsz
  exact hK w' _ ⟨D, _, hr, h2, fun p => (h2 p).1⟩ hgr hsz
/-- the step -/
theorem wpList_next_pm {w : World} (hg : o.guard = none) (it : Operand) (hop : o.op = Op.next it false) (b r n : Nat) (T : ByteArray → Option Pt) (left : ByteArray → Bool) (cnt : Nat) (hit : a.eval it = .pointer (some ⟨r, 0, none⟩)) (h : Pn w b r n T left cnt)
    (hDone : cnt = 0 → (∀ q, left q = false) → wpList Tryz.prog ops Q rest (a.put o.dst (.tuple #[.bool false])) w)
    (hMore : ∀ (p : ByteArray) (x : Pt) (w' : World) (cnt' : Nat), p.size ≤ 9223372036854775807 → left p = true → T p = some x → Pn w' b r n T (fun q => left q && !decide (q = p)) cnt' → cnt' < cnt → w.grownBy w' (some r) → w'.heap.size = w.heap.size →
      (Instr.entry (.pointer (some ⟨r, 0, none⟩))).run Tryz.prog w' = .ok (.tuple #[.string p, pA x]) w' → wpList Tryz.prog ops Q rest (a.put o.dst (.tuple #[.bool true, .string p, pA x])) w') :
    wpList Tryz.prog ops Q (o :: rest) a w := by
  obtain ⟨D, l, h1, h2, h3⟩ := h
  refine wpList_next_ranges w hg it hop 9 lawK pR (fun p : ByteArray => Value.string p) pA (fun key kl hk => ?_) (fun v y hy => ?_) b r n D l cnt hit h1 ?_ ?_
  · obtain ⟨p, e, _⟩ := keyK_inv hk
    exact ⟨p, e⟩
  · obtain ⟨x, e, _⟩ := pR_inv hy
    exact ⟨x, e⟩
  · intro h0 hl
    exact hDone h0 (fun q => by rw [← h3]; exact hl _)
  · intro p x kl y w' cnt' hkey hlk hv hat hrg hlt hgr hsz hen
    obtain ⟨p', e1, rfl⟩ := keyK_inv hkey
    have hpp : p' = p := by
      have : p = p' := by injection e1
      exact this.symm
    subst hpp
    have hsz9 : p'.size ≤ 9223372036854775807 := by
      have := hkey
      simp only [keyOf, Tryz.underlying9, mapKey] at this
      split at this
      · rename_i hle
        simpa [maxLen] using hle
      · simp at this
    obtain ⟨x', e2, rfl⟩ := pR_inv hv
    have hT : T p' = some x := by
      have hs := (h2 p').1
      have hh : Maps.has D (.string (dL p')) = true := has_true_of_atKey (y := pD x') (fun z => hat z)
      rw [hh] at hs
      obtain ⟨x2, hx2⟩ := Option.isSome_iff_exists.1 hs.symm
      have := (h2 p').2 x2 hx2 (pD noP)
      rw [hat] at this
      have e3 := pD_inj this
      have e4 : x = x' := by
        have := pR_ag x
        rw [hv] at this
        simp only [Option.some.injEq, Prod.mk.injEq, and_true] at this
        exact (pD_inj this).symm
      rw [hx2, ← e3, e4]
    refine hMore p' x w' cnt' hsz9 (by rw [← h3]; exact hlk) hT ⟨D, _, hrg, h2, fun q => ?_⟩ hlt hgr hsz hen
    rw [h3, strike_k]
/-- 'delete(m, k)' in the round -/
theorem wpList_del_pr {w : World} (hg : o.guard = none) (m x : Operand) (hop : o.op = Op.call { callee := Callee.builtin Builtin.delete, args := #[m, x], argTypes := #[65, 9] }) (b r n : Nat) (T : ByteArray → Option Pt) (left : ByteArray → Bool) (cnt : Nat) (hm : a.eval m = .map (some b)) (h : Pn w b r n T left cnt) (p : ByteArray) (hp : p.size ≤ maxLen) (hx : a.eval x = .string p)
    (hK : ∀ w' cnt', Pn w' b r n (fun q => if q = p then none else T q) (fun q => left q && !decide (q = p)) cnt' → cnt' ≤ cnt → w.grownBy w' (some b) → wpList Tryz.prog ops Q rest (a.put o.dst (.tuple #[])) w') : wpList Tryz.prog ops Q (o :: rest) a w := by
  obtain ⟨D, l, h1, h2, h3⟩ := h
  have hkey : keyOf Tryz.prog 9 (.string p) = some (.string (dL p)) := by
    have := WideMaps.keyOf_string_mk (P := Tryz.prog) (k := 9) Tryz.underlying9 (s := p) hp
    exact this
  refine wpList_delete_ranges w hg m x 65 9 hop 45 lawK Tryz.underlying65 pR b r n D l cnt hm h1 _ _ hx hkey ?_
  intro w' cnt' hr hle ht
  refine hK w' cnt' ⟨_, _, hr, h2.del p, fun q => ?_⟩ hle ht.grown
  rw [h3, strike_k]
end
end Go.Proofs.YtcindeechmpalaaGreat
namespace Go.Proofs.YtcindeechmpalaaGreat
open Go.ChangeShapes Go.WideShapes Go.ChangeAt Go.RowKit Go.Deep
set_option linter.unusedVariables false
set_option linter.unusedSimpArgs false
theorem toList_eq (a b : ByteArray) : (a.toList == b.toList) = decide (a = b) := by
  rw [Bool.eq_iff_iff, beq_iff_eq, decide_eq_true_iff]
  refine ⟨fun h => ?_, fun h => by rw [h]⟩
  have : sN a = sN b := by unfold sN; rw [h]
  rw [← sN_str a, ← sN_str b, this]
/-- two changes are alike -/
def ptE (x y : Pt) : Bool := decide (x.k = y.k) && (decide (x.v = y.v) && (x.g == y.g))
theorem ptE_iff (x y : Pt) : ptE x y = true ↔ x = y := by
  obtain ⟨a, b, c⟩ := x
  obtain ⟨a', b', c'⟩ := y
  unfold ptE
  simp
def sameB : List Pt → List Pt → Bool
  | [], [] => true
  | x :: l, y :: k => ptE x y && sameB l k
  | _, _ => false
theorem sameB_iff : ∀ l k : List Pt, sameB l k = true ↔ l = k
  | [], [] => by simp [sameB]
  | [], _ :: _ => by simp [sameB]
  | _ :: _, [] => by simp [sameB]
  | x :: l, y :: k => by
    rw [sameB, Bool.and_eq_true, ptE_iff, sameB_iff l k]
    simp
theorem sameB_no {l k : List Pt} (h : l ≠ k) : sameB l k = false := by
  cases hb : sameB l k with
  | false => rfl
  | true => exact absurd ((sameB_iff l k).1 hb) h
theorem equal_put (d : Nat) (x y : Pt) (w : World) : (Op.equalIn (d + 2) 45 (pA x) (pA y)).run Tryz.prog w = .ok (ptE x y) w := by
  unfold pA pC
  rw [run_equalIn_struct w (d + 1) 45 _ _ (by simp [Program.fieldsOf, Tryz.underlying45]) (by kernel_rfl)]
  have e1 := toList_eq x.k y.k
  have e2 := toList_eq x.v y.v
  unfold ptE
  simp only [Program.fieldsOf, Tryz.underlying45, Op.eqFields]
  simp [part, isAgg, run_underlying Tryz.underlying9, run_underlying Tryz.underlying4, run_equalIn_string w d 9 _ _ Tryz.underlying9, run_equalIn_bool w d 4 _ _ Tryz.underlying4, e1, e2]
  by_cases h1 : x.k = y.k <;> by_cases h2 : x.v = y.v <;> cases x.g <;> cases y.g <;> simp [h1, h2]
theorem guardP : Tryz.prog.eqGuardType Tryz.prog.depth 45 = false := by kernel_rfl
theorem InP.cells {w w' : World} {h : Nat} {a : Option Addr} {l : List Pt} (hi : InP w a l) (hw : Below w.heap.size w w') {j : Nat} {x : Pt} (hx : l[j]? = some x) : ∃ b off, a = some ⟨b, off, none⟩ ∧ Pc w' b (off + j * 3) x := by
  obtain ⟨b, off, e, hb, hp⟩ := hi.at hx
  exact ⟨b, off, e, hp.kept (hw.block b hb)⟩
set_option maxRecDepth 100000 in
set_option maxHeartbeats 4000000 in
theorem ksame_is (l1 l2 : List Pt) (n1 n2 c1 c2 : Nat) (a1 a2 : Option Addr) (w : World) (h1 : l1.length = n1) (h2 : l2.length = n2) (b1 : n1 ≤ 140737488355328) (b2 : n2 ≤ 140737488355328) (i1 : InP w a1 l1) (i2 : InP w a2 l2) :
    Calls Tryz.prog 28 #[.slice a1 n1 c1, .slice a2 n2 c2] w fun e w' => e = .returned (.bool (sameB l1 l2)) ∧ Below w.heap.size w w' := by
  have HR0 : Hid (∀ r, sameB l1 l2 = r → (l1 = l2 → r = true) ∧ (l1 ≠ l2 → r = false)) := fun r hr => by rw [← hr]; exact ⟨(sameB_iff l1 l2).2, sameB_no⟩
  obtain ⟨r, hr⟩ : ∃ r, sameB l1 l2 = r := ⟨_, rfl⟩
  have HR : Hid ((l1 = l2 → r = true) ∧ (l1 ≠ l2 → r = false)) := HR0.out r hr
  rw [hr]
  clear hr HR0
  by_cases hne : n1 = n2
  · subst hne
    have H1 : Hid (l1.length = n1) := h1
    have H2 : Hid (l2.length = n1) := h2
    have I1 : Hid (InP w a1 l1) := i1
    have I2 : Hid (InP w a2 l2) := i2
    clear h1 h2 i1 i2
    go_enter Tryz.func28, Tryz.ntmps28
    go_wp2_with fail
    go_loopg [5] n1 (fun g i wr => ∃ (j : Nat), j ≤ n1 ∧ g = n1 - j ∧ i = .int .i64 j ∧ Hid (l1.take j = l2.take j) ∧ Hid (Below w.heap.size w wr))
    case atStart => exact ⟨0, Nat.zero_le _, rfl, rfl, rfl, Below.refl _ _⟩
    case round =>
      obtain ⟨j, hj, rfl, rfl, HT, HW⟩ := hrel
      by_cases hlt : j < n1
      · have j1 : (j : Int) < (n1 : Int) := by omega
        obtain ⟨x, hx⟩ : ∃ x, l1[j]? = some x := ⟨l1[j]'(by rw [H1.out]; exact hlt), by simp [H1.out, hlt]⟩
        obtain ⟨y, hy⟩ : ∃ y, l2[j]? = some y := ⟨l2[j]'(by rw [H2.out]; exact hlt), by simp [H2.out, hlt]⟩
        obtain ⟨p1, o1, rfl, hr1⟩ := I1.out.cells (h := 0) HW.out hx
        obtain ⟨p2, o2, rfl, hr2⟩ := I2.out.cells (h := 0) HW.out hy
        obtain ⟨c0, c1', c2'⟩ := hr1
        obtain ⟨d0, d1, d2⟩ := hr2
        have HX : Hid (l1[j]? = some x) := hx
        have HY : Hid (l2[j]? = some y) := hy
        have hq : ∀ w, (Op.equalIn 10000 45 (.agg #[.string x.k, .string x.v, .bool x.g]) (.agg #[.string y.k, .string y.v, .bool y.g])).run Tryz.prog w = .ok (ptE x y) w := equal_put 9998 x y
        have hg := guardP
        have HXY : Hid (ptE x y = true ↔ x = y) := ptE_iff x y
        clear hx hy
        cases hxy : ptE x y with
        | true =>
          rw [hxy] at hq HXY
          clear hxy
          go_wp2_with fail
          go_quiet (fail)
          go_wp2_with fail
          go_roundg (n1 - (j + 1))
          case measure => omega
          case rel =>
            refine ⟨j + 1, by omega, rfl, by go_num, ?_, below_drewN HW.out _⟩
            obtain ⟨q1, e1⟩ := List.getElem?_eq_some_iff.1 HX.out
            obtain ⟨q2, e2⟩ := List.getElem?_eq_some_iff.1 HY.out
            show _ = _
            rw [List.take_succ_eq_append_getElem q1, List.take_succ_eq_append_getElem q2, HT.out, e1, e2, HXY.out.1 trivial]
        | false =>
          rw [hxy] at hq HXY
          have HF : Hid (l1 ≠ l2) := by
            intro e
            subst e
            have := HX.out.symm.trans HY.out
            have := HXY.out.2 (Option.some.inj this)
            cases this
          clear hxy
          go_wp2_with fail
          go_quiet (fail)
          go_wp2_with fail
          go_ret
          exact ⟨by rw [HR.out.2 HF.out]; rfl, below_drewN HW.out _⟩
      · obtain rfl : j = n1 := by omega
        have i1 : ¬ (j : Int) < (j : Int) := by omega
        have HF : Hid (l1 = l2) := by
          have := HT.out
          rwa [List.take_of_length_le (by rw [H1.out]; exact Nat.le_refl _), List.take_of_length_le (by rw [H2.out]; exact Nat.le_refl _)] at this
        go_wp2_with fail
        go_ret
        exact ⟨by rw [HR.out.1 HF.out]; rfl, HW.out⟩
  · have e1 : ((n1 : Int) == (n2 : Int)) = false := by rw [beq_eq_false_iff_ne]; omega
    have e2 : ((n1 : Int) != (n2 : Int)) = true := by simp [bne, e1]
    have e3 : ¬ (n1 : Int) = (n2 : Int) := by omega
    have HF : Hid (l1 ≠ l2) := fun e => hne (by rw [← h1, ← h2, e])
    clear i1 i2 h1 h2
    go_enter Tryz.func28, Tryz.ntmps28
    go_wp2_with fail
    go_ret
    exact ⟨by rw [HR.out.2 HF.out]; rfl, Below.refl _ _⟩
end Go.Proofs.YtcindeechmpalaaGreat
namespace Go.Proofs.YtcindeechmpalaaGreat
open Go.ChangeShapes Go.WideShapes Go.ChangeAt Go.RowKit Go.Deep Go.Maps
set_option linter.unusedVariables false
set_option linter.unusedSimpArgs false
/-- a change done -/
def ch1 (T : ByteArray → Option Pt) (x : Pt) : ByteArray → Option Pt := fun q => if q = x.k then (if x.g = true then none else some x) else T q
def chT (T : ByteArray → Option Pt) (l : List Pt) : ByteArray → Option Pt := l.foldl ch1 T
theorem chT_snoc (T : ByteArray → Option Pt) (l : List Pt) (x : Pt) : chT T (l ++ [x]) = ch1 (chT T l) x := by unfold chT; rw [List.foldl_append]; rfl
theorem chT_app (T : ByteArray → Option Pt) (l k : List Pt) : chT T (l ++ k) = chT (chT T l) k := by unfold chT; rw [List.foldl_append]
theorem nodup_le {A : Type} [DecidableEq A] : ∀ (l k : List A), l.Nodup → (∀ x ∈ l, x ∈ k) → l.length ≤ k.length
  | [], _, _, _ => Nat.zero_le _
  | x :: l, k, h, hs => by
    obtain ⟨h1, h2⟩ := List.nodup_cons.1 h
    have hx := hs x (by simp)
    have ih := nodup_le l (k.erase x) h2 (fun y hy => (List.mem_erase_of_ne (fun e => h1 (by rw [← e]; exact hy))).2 (hs y (by simp [hy])))
    rw [List.length_erase_of_mem hx] at ih
    have : 0 < k.length := List.length_pos_of_mem hx
    simp only [List.length_cons]
    omega
theorem pw_monoK {A : Type} {R S : A → A → Prop} : ∀ {l : List A}, (∀ a b, a ∈ l → b ∈ l → R a b → S a b) → l.Pairwise R → l.Pairwise S
  | [], _, _ => List.Pairwise.nil
  | x :: l, h, hp => by
    obtain ⟨h1, h2⟩ := List.pairwise_cons.1 hp
    exact List.pairwise_cons.2 ⟨fun y hy => h x y (by simp) (by simp [hy]) (h1 y hy), pw_monoK (fun a b ha hb => h a b (by simp [ha]) (by simp [hb])) h2⟩
/-- a list of just the keys of a map -/
def Ks (T : ByteArray → Option Pt) (l : List ByteArray) : Prop := l.Nodup ∧ ∀ k, (T k).isSome = true ↔ k ∈ l
def keyK' : Lit → ByteArray
  | .string p => ⟨p.toArray⟩
  | _ => ⟨#[]⟩
theorem keyK'_dL (p : ByteArray) : keyK' (.string (dL p)) = p := by
  unfold keyK' dL
  cases p
  simp
theorem pm_exact {w : World} {b n : Nat} {T : ByteArray → Option Pt} (h : Pm w b n T) (l : List ByteArray) (hl : Ks T l) : ∃ D, w.ownsMap Tryz.prog 9 pR b n D ∧ Maps.size D = l.length := by
  obtain ⟨D, h1, h2⟩ := h
  have ht := h1.tidy lawK
  have H1 := h1
  obtain ⟨es, clock, hb, F, hn, hD⟩ := h1
  obtain ⟨kvs, hk, hap⟩ := ht
  have hkd : kvs = (es.toList.map (Go.WideElems.rg Tryz.prog 9 pR)).foldr DataW.insert [] := by
    rw [hD] at hk
    injection hk with e
    exact e.symm
  have hkey : ∀ kv ∈ kvs, kv.1 = .string (dL (keyK' kv.1)) := fun kv hkv => by
    rw [hkd, mem_sorted, List.mem_map] at hkv
    obtain ⟨x, hx, rfl⟩ := hkv
    obtain ⟨y, hy⟩ := F.reads x hx
    have e : Go.WideElems.rg Tryz.prog 9 pR x = y := Go.WideElems.rg_of hy
    rw [e]
    obtain ⟨p, _, hp⟩ := keyK_inv (Go.WideElems.rd_key hy)
    rw [hp, keyK'_dL]
  have hin : ∀ kv ∈ kvs, (T (keyK' kv.1)).isSome = true := fun kv hkv => by
    rw [← (h2 (keyK' kv.1)).1, hk, Maps.has_eq, List.any_eq_true]
    refine ⟨kv, hkv, ?_⟩
    rw [hkey kv hkv, keyK'_dL, strike_k]
    simp
  have hall : ∀ q, (T q).isSome = true → q ∈ kvs.map (fun kv => keyK' kv.1) := fun q hq => by
    rw [← (h2 q).1, hk, Maps.has_eq, List.any_eq_true] at hq
    obtain ⟨kv, hkv, hs⟩ := hq
    rw [List.mem_map]
    refine ⟨kv, hkv, ?_⟩
    rw [hkey kv hkv, strike_k] at hs
    simpa using hs
  have hnd : (kvs.map (fun kv => keyK' kv.1)).Nodup := by
    rw [List.Nodup, List.pairwise_map]
    refine pw_monoK (fun a b ha hb' hne e => hne ?_) hap
    rw [hkey a ha, hkey b hb', e]
  refine ⟨D, H1, ?_⟩
  rw [hk, Maps.size_eq]
  have a1 := nodup_le (kvs.map (fun kv => keyK' kv.1)) l hnd (fun x hx => by
    obtain ⟨kv, hkv, rfl⟩ := List.mem_map.1 hx
    exact (hl.2 _).1 (hin kv hkv))
  have a2 := nodup_le l (kvs.map (fun kv => keyK' kv.1)) hl.1 (fun x hx => hall x ((hl.2 x).2 hx))
  rw [List.length_map] at a1 a2
  omega
/-- 'v, ok := m[k]' -/
theorem Pm.look2 {w : World} {b n : Nat} {T : ByteArray → Option Pt} (h : Pm w b n T) (p : ByteArray) (hp : p.size ≤ 140737488355328) : (Instr.lookup 65 (.map (some b)) (.string p) true).run Tryz.prog w = .ok (.tuple #[pA ((T p).getD noP), .bool (T p).isSome]) w := by
  obtain ⟨D, h1, h2⟩ := h
  obtain ⟨v, ps, hrun, hv⟩ := h1.look_ok lawK Tryz.underlying65 (zeroPt w) (pR_ag noP) (keyK p hp)
  obtain ⟨x, rfl, hx⟩ := pR_inv hv
  simp only [Prod.mk.injEq] at hx
  rw [h2.at p] at hx
  rw [pD_inj hx.1, ← (h2 p).1]
  exact hrun
set_option maxRecDepth 100000 in
set_option maxHeartbeats 4000000 in
theorem kSet_is (l : List Pt) (n : Nat) (hn : l.length = n) (hn2 : n ≤ 1000000) (hs : ∀ x ∈ l, x.k.size ≤ 140737488355328) (a : Option Addr) (c : Nat) (b N : Nat) (hN : N ≤ 1000000000) (T : ByteArray → Option Pt) (w : World) (hl : InP w a l) (hm : Pm w b N T) (hx : ∀ x, a = some x → l ≠ [] → x.block ≠ b) :
    Calls Tryz.prog 39 #[.map (some b), .slice a n c] w fun e w' => e = .returned (.tuple #[]) ∧ Pm w' b (N + n) (chT T l) ∧ w.grownBy w' (some b) := by
  have HL : Hid (InP w a l) := hl
  have HN : Hid (l.length = n) := hn
  have HM : Hid (Pm w b N T) := hm
  have HX : Hid (∀ x, a = some x → l ≠ [] → x.block ≠ b) := hx
  have HS : Hid (∀ x ∈ l, x.k.size ≤ 140737488355328) := hs
  clear hl hn hm hx hs
  go_enter Tryz.func39, Tryz.ntmps39
  go_wp2_with fail
  go_loopg [8] n (fun gg iv wr => ∃ j : Nat, j ≤ n ∧ gg = n - j ∧ iv = .int .i64 (j : Int) ∧ Hid (Pm wr b (N + j) (chT T (l.take j)) ∧ w.grownBy wr (some b)))
  case atStart => exact ⟨0, Nat.zero_le _, rfl, rfl, HM.out, ⟨rfl, rfl, rfl, Nat.le_refl _, fun _ _ _ => rfl⟩⟩
  case round =>
    obtain ⟨j, hj, rfl, rfl, RW⟩ := hrel
    by_cases hlt : j < n
    · have j1 : decide ((j : Int) < (n : Int)) = true := by rw [decide_eq_true_eq]; omega
      obtain ⟨x, hx⟩ : ∃ x, l[j]? = some x := ⟨l[j]'(by rw [HN.out]; exact hlt), by simp [HN.out, hlt]⟩
      obtain ⟨g, off, rfl, hgw, hpc⟩ := HL.out.at hx
      have hgb : g ≠ b := HX.out _ rfl (fun e => by rw [e] at hx; cases hx)
      obtain ⟨c0, c1, c2⟩ := hpc.kept (RW.out.2.block g hgw (fun e => hgb (Option.some.inj e)))
      have HTK : Hid (chT T (l.take (j + 1)) = ch1 (chT T (l.take j)) x) := by
        show _ = _
        obtain ⟨h1, h2⟩ := List.getElem?_eq_some_iff.1 hx
        rw [List.take_succ_eq_append_getElem h1, h2, chT_snoc]
      have ri : IntKind.i64.wrap ((j : Int) + 1) = (j : Int) + 1 := by rw [IntKind.wrap_i64]; omega
      have HXS : Hid (x.k.size ≤ 140737488355328) := HS.out x (List.mem_of_getElem? hx)
      clear hx hpc hgb
      obtain ⟨xk, xv, xg⟩ := x
      simp only at c0 c1 c2 HXS
      have hxs : xk.size ≤ 140737488355328 := HXS.out
      obtain ⟨u1, hu1⟩ : ∃ u1, wr.alloc (.cells #[.string xk, .string xv, .bool xg] 45) = u1 := ⟨_, rfl⟩
      have M1 : Hid (Pm u1 b (N + j) (chT T (l.take j))) := by rw [← hu1]; exact RW.out.1.keep (below1 _ _)
      have G1 : Hid (w.grownBy u1 (some b)) := by
        have a1 := RW.out.2
        have a2 := below1 wr (.cells #[.string xk, .string xv, .bool xg] 45)
        rw [hu1] at a2
        exact ⟨a2.os.trans a1.os, a2.tape.trans a1.tape, a2.output.trans a1.output, Nat.le_trans a1.size a2.size, fun k hk hr => (a2.block k (Nat.lt_of_lt_of_le hk a1.size)).trans (a1.block k hk hr)⟩
      have X1 : u1.heap[wr.heap.size]? = some (.cells (pC ⟨xk, xv, xg⟩) 45) := by rw [← hu1]; exact heap_alloc_new wr _
      obtain ⟨r0, r1, r2⟩ := pc_cells X1
      simp only at r0 r1 r2
      have U1E : Hid (wr.alloc (.cells #[.string xk, .string xv, .bool xg] 45) = u1) := hu1
      clear RW X1 hu1 r0 r1 r2
      cases xg
      · go_wp2_with (first | (at_mapUpdate; rw [show World.alloc wr _ = u1 from U1E.out]; refine wpList_put_pm rfl (.tmp 17) (.tmp 19) (.tmp 20) rfl b (N + j) _ rfl M1.out (by omega) xk hxs ⟨xk, xv, false⟩ rfl rfl ?_; intro w7 hs7 hg7; have S7 : Hid (Pm w7 b (N + j + 1) (fun q => if q = xk then some ⟨xk, xv, false⟩ else chT T (l.take j) q) ∧ u1.grownBy w7 (some b)) := ⟨hs7, hg7⟩; clear hs7 hg7))
        have RW9 : Hid (Pm w7 b (N + (j + 1)) (chT T (l.take (j + 1))) ∧ w.grownBy w7 (some b)) := by
          have a1 := G1.out
          have a2 := S7.out.2
          refine ⟨?_, ⟨a2.os.trans a1.os, a2.tape.trans a1.tape, a2.output.trans a1.output, Nat.le_trans a1.size a2.size, fun k hk hr => (a2.block k (Nat.lt_of_lt_of_le hk a1.size) hr).trans (a1.block k hk hr)⟩⟩
          rw [HTK.out]
          exact S7.out.1
        go_roundg (n - (j + 1))
        case measure => omega
        case rel => exact ⟨j + 1, by omega, rfl, by simp, RW9⟩
      · go_wp2_with (first | (at_delete; rw [show World.alloc wr _ = u1 from U1E.out]; refine wpList_del_pm rfl (.tmp 14) (.tmp 16) rfl b (N + j) _ rfl M1.out xk hxs rfl ?_; intro w7 hs7 hg7; have S7 : Hid (Pm w7 b (N + j) (fun q => if q = xk then none else chT T (l.take j) q) ∧ u1.grownBy w7 (some b)) := ⟨hs7, hg7⟩; clear hs7 hg7))
        have RW9 : Hid (Pm w7 b (N + (j + 1)) (chT T (l.take (j + 1))) ∧ w.grownBy w7 (some b)) := by
          have a1 := G1.out
          have a2 := S7.out.2
          refine ⟨?_, ⟨a2.os.trans a1.os, a2.tape.trans a1.tape, a2.output.trans a1.output, Nat.le_trans a1.size a2.size, fun k hk hr => (a2.block k (Nat.lt_of_lt_of_le hk a1.size) hr).trans (a1.block k hk hr)⟩⟩
          rw [HTK.out]
          exact S7.out.1.mono (by omega)
        go_roundg (n - (j + 1))
        case measure => omega
        case rel => exact ⟨j + 1, by omega, rfl, by simp, RW9⟩
    · have j1 : decide ((j : Int) < (n : Int)) = false := by rw [decide_eq_false_iff_not]; omega
      have HF : Hid (Pm wr b (N + n) (chT T l) ∧ w.grownBy wr (some b)) := by
        have q := RW.out.1
        rw [List.take_of_length_le (by have := HN.out; omega)] at q
        exact ⟨q.mono (by omega), RW.out.2⟩
      go_wp2_with fail
      go_end0
      exact ⟨rfl, HF.out⟩
end Go.Proofs.YtcindeechmpalaaGreat
