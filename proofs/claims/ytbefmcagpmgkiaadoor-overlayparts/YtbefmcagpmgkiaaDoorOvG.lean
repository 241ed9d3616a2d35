/- How many entries a map has; overlay.Diff. -/
import Derived.Test.YtbefmcagpmgkiaaDoorOvD
import Derived.Test.YtbefmcagpmgkiaaDoorLayS
import Derived.Test.YtbefmcagpmgkiaaDoorTrlR
namespace Go.Proofs.YtbefmcagpmgkiaaDoor
open Go.ChangeShapes Go.WideShapes Go.ChangeAt Go.RowKit Go.Deep Go.Maps
set_option linter.unusedVariables false
def keyT : Lit → Tx
  | .string p => p
  | _ => []
theorem les_not_trans {a b c : Tx} (h1 : les b a = false) (h2 : les c b = false) : les c a = false := by
  cases h : les c a with
  | false => rfl
  | true =>
    by_cases e : c = b
    · rw [e] at h; rw [h] at h1; cases h1
    · have h3 := les_total c b e
      rw [h2] at h3
      have h4 : les b c = true := by simpa using h3.symm
      rw [les_trans _ _ _ h4 h] at h1
      cases h1
/-- any entries may be put in order -/
theorem sort_ex (l : List En) : ∃ l' : List En, l'.Perm l ∧ l'.Pairwise (fun x y => les y.p x.p = false) := by
  refine ⟨l.mergeSort (fun x y => !les y.p x.p), List.mergeSort_perm _ _, ?_⟩
  have := List.pairwise_mergeSort (le := fun x y : En => !les y.p x.p) (fun a b c h1 h2 => by
    simp only [Bool.not_eq_true'] at h1 h2 ⊢
    exact les_not_trans h1 h2) (fun a b => by
    cases h : les b.p a.p with
    | false => rfl
    | true => rw [les_asym h]; rfl) l
  exact pw_mono (fun a b _ _ h => by simpa using h) this
/-- a map has as many entries as a list of them -/
theorem sc_exact {w : World} {b n : Nat} {T : Tx → Option En} (h : Sc w b n T) (hT : AtOwn T) : ∃ (D : DataW Unit) (l : List En), w.ownsMap Tryd.prog 9 eR b l.length D ∧ Rep D T ∧ Lst T l ∧ Maps.size D = l.length := by
  obtain ⟨D, h1, h2⟩ := h
  have ht := h1.tidy lawS
  obtain ⟨es, clock, hb, F, hn, hD⟩ := h1
  obtain ⟨kvs, hk, hap⟩ := ht
  have hkd : kvs = (es.toList.map (Go.WideElems.rg Tryd.prog 9 eR)).foldr DataW.insert [] := by
    rw [hD] at hk
    injection hk with e
    exact e.symm
  have hlen : kvs.length = es.size := by rw [hkd, length_sorted, List.length_map, Array.length_toList]
  have hkey : ∀ kv ∈ kvs, kv.1 = .string (keyT kv.1) := fun kv hkv => by
    rw [hkd, mem_sorted, List.mem_map] at hkv
    obtain ⟨x, hx, rfl⟩ := hkv
    obtain ⟨y, hy⟩ := F.reads x hx
    have e : Go.WideElems.rg Tryd.prog 9 eR x = y := Go.WideElems.rg_of hy
    rw [e]
    obtain ⟨p, _, hp⟩ := keyS_inv (Go.WideElems.rd_key hy)
    rw [hp]
    rfl
  have hin : ∀ kv ∈ kvs, (T (keyT kv.1)).isSome = true := fun kv hkv => by
    rw [← (h2 (keyT kv.1)).1, hk, Maps.has_eq, List.any_eq_true]
    refine ⟨kv, hkv, ?_⟩
    rw [hkey kv hkv]
    show (Lit.string _).sameKey (.string (keyT (.string _))) = true
    rw [strike_str]
    simp [keyT]
  have hall : ∀ q, (T q).isSome = true → q ∈ kvs.map (fun kv => keyT kv.1) := fun q hq => by
    rw [← (h2 q).1, hk, Maps.has_eq, List.any_eq_true] at hq
    obtain ⟨kv, hkv, hs⟩ := hq
    rw [List.mem_map]
    refine ⟨kv, hkv, ?_⟩
    rw [hkey kv hkv, strike_str] at hs
    simpa using hs
  have hnd : (kvs.map (fun kv => keyT kv.1)).Nodup := by
    rw [List.Nodup, List.pairwise_map]
    refine pw_mono (fun a b ha hb' hne e => hne ?_) hap
    rw [hkey a ha, hkey b hb', e]
  obtain ⟨l, hperm, hpw⟩ := sort_ex (kvs.map (fun kv => (T (keyT kv.1)).getD noE))
  have hg : Got T (fun _ => false) (kvs.map (fun kv => keyT kv.1)) (kvs.map (fun kv => (T (keyT kv.1)).getD noE)) := by
    refine ⟨hnd, ?_, fun q => ?_⟩
    · rw [List.map_map, List.map_map]
      apply List.map_congr_left
      intro kv hkv
      obtain ⟨x, hx⟩ := Option.isSome_iff_exists.1 (hin kv hkv)
      simp [hx]
    · cases hq : (T q).isSome with
      | false => rfl
      | true => rw [decide_eq_true (hall q hq)]; rfl
  have hll : l.length = es.size := by rw [hperm.length_eq, List.length_map, hlen]
  refine ⟨D, l, ⟨es, clock, hb, F, by omega, hD⟩, h2, lst_of hg (fun _ => rfl) hT hperm hpw, ?_⟩
  rw [hk, Maps.size_eq, hlen, hll]
section
variable {ops : Array Oper} {rest : List Oper} {o : Oper} {a : Act} {Q : Exit → Act → World → Prop}
/-- 'len(m)', just -/
theorem wpList_len_scx {w : World} (hg : o.guard = none) (m : Operand) (hop : o.op = Op.call { callee := Callee.builtin Builtin.len, args := #[m], argTypes := #[57] }) (b n : Nat) (T : Tx → Option En) (hm : a.eval m = .map (some b)) (hs : Sc w b n T) (hT : AtOwn T)
    (hK : ∀ l : List En, Lst T l → Sc w b l.length T → wpList Tryd.prog ops Q rest (a.put o.dst (.int .i64 (l.length : Int))) w) : wpList Tryd.prog ops Q (o :: rest) a w := by
  obtain ⟨D, l, h1, h2, h3, h4⟩ := sc_exact hs hT
  refine wpList_len_own w hg m 57 hop 9 34 Tryd.underlying57 eR b _ D hm h1 ?_
  rw [h4]
  exact hK l h3 ⟨D, h1, h2⟩
end
/-- '_, ok := m[k]' -/
theorem Sc.look2 {w : World} {b n : Nat} {T : Tx → Option En} (h : Sc w b n T) (p : Tx) (hp : p.length ≤ 140737488355328) : (Instr.lookup 57 (.map (some b)) (.string (tx p)) true).run Tryd.prog w = .ok (.tuple #[ag ((T p).getD noE), .bool (T p).isSome]) w := by
  obtain ⟨D, h1, h2⟩ := h
  obtain ⟨v, ps, hrun, hv⟩ := h1.look_ok lawS Tryd.underlying57 (zeroEn w) (eR_ag noE) (keyS p hp)
  obtain ⟨x, rfl, hx⟩ := eR_inv hv
  simp only [Prod.mk.injEq] at hx
  rw [h2.at p] at hx
  rw [eD_inj hx.1, ← (h2 p).1]
  exact hrun
end Go.Proofs.YtbefmcagpmgkiaaDoor
