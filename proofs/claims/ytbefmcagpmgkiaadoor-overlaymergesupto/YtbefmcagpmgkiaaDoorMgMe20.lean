/- The layer between two trees, plainly. How many entries a map has; overlay.Diff. -/
import Derived.Test.YtbefmcagpmgkiaaDoorMgMe14
import Derived.Test.YtbefmcagpmgkiaaDoorMgMe11
import Derived.Test.YtbefmcagpmgkiaaDoorMgMe12
namespace Go.Proofs.YtbefmcagpmgkiaaDoor
set_option linter.unusedVariables false
/-- what the layer that makes the first tree the second one has at a path -/
def dfT (A B : Tx → Option En) (q : Tx) : Option En :=
  match B q with
  | some x => if A q = some x then none else some x
  | none => if (A q).isSome = true ∧ oA B q = true then some (q, 3, 0, []) else none
theorem dfT_self (A : Tx → Option En) (q : Tx) : dfT A A q = none := by
  unfold dfT
  cases h : A q <;> simp
theorem dfT_in {A B : Tx → Option En} {q : Tx} {x : En} (h : dfT A B q = some x) : (B q = some x ∧ A q ≠ some x) ∨ (B q = none ∧ x = (q, 3, 0, []) ∧ (∃ z, A q = some z) ∧ oA B q = true) := by
  unfold dfT at h
  cases hB : B q with
  | some y =>
    rw [hB] at h
    simp only at h
    split at h
    · cases h
    · rename_i hn
      cases h
      exact .inl ⟨rfl, hn⟩
  | none =>
    rw [hB] at h
    simp only at h
    split at h
    · rename_i hh
      cases h
      exact .inr ⟨rfl, rfl, Option.isSome_iff_exists.1 hh.1, hh.2⟩
    · cases h
theorem dfT_own {A B : Tx → Option En} (hB : TreeT B) (q : Tx) (x : En) (h : dfT A B q = some x) : x.p = q := by
  rcases dfT_in h with ⟨h1, _⟩ | ⟨_, rfl, _⟩
  · exact hB.own _ _ h1
  · rfl
theorem dfT_fo {A B : Tx → Option En} (hA : TreeT A) (hB : TreeT B) {q : Tx} {x : En} (h : dfT A B q = some x) : fo x = 0 := by
  rcases dfT_in h with ⟨h1, _⟩ | ⟨_, rfl, ⟨z, hz⟩, _⟩
  · exact (hB.ok _ _ h1).1
  · obtain ⟨h0, hP⟩ := fo_path (hA.ok _ _ hz).1
    rw [hA.own _ _ hz] at h0 hP
    simp [fo, En.p, En.k, En.m, En.b, h0, hP]
theorem inn_upP {p q : Tx} (hq : isP q = true) (h0 : q ≠ []) (hp : p ≠ []) (hne : p ≠ q) (h : inn p q = true) : upP q ≠ [] ∧ inn p (upP q) = true := by
  have hpre := (inn_pcs p q hp).1 h
  obtain ⟨r, hr⟩ := hpre
  have hrn : r ≠ [] := by
    rintro rfl
    rw [List.append_nil] at hr
    exact hne (pcs_inj hr)
  have hd : (pcs q).dropLast = pcs p ++ r.dropLast := by rw [← hr, List.dropLast_append_of_ne_nil hrn]
  have hu : upP q ≠ [] := by
    intro e
    have := prt_up hq h0
    rw [e, pcs_path hq h0, hd] at this
    have h1 : prt [] = [] := by simp [prt]
    rw [h1] at this
    have h2 := congrArg List.length this
    have h3 := List.length_pos_iff.2 (pcs_ne p)
    simp only [List.length_nil, List.length_append] at h2
    omega
  refine ⟨hu, (inn_pcs p _ hp).2 ?_⟩
  rw [upP_pcs hq h0 hu, hd]
  exact List.prefix_append _ _
theorem kd_up {B : Tx → Option En} (hB : TreeT B) {p u : Tx} (hk : kd B u = 2) (hp : p ≠ []) (h : inn p u = true) : kd B p = 2 := by
  obtain ⟨z, hz, hzk⟩ := kd_two hk
  by_cases e : p = u
  · rw [e]; exact hk
  · exact hB.up _ _ p hz hp e h
/-- nothing of it lies below what is no directory -/
theorem dfT_shut {A B : Tx → Option En} (hA : TreeT A) (hB : TreeT B) {q p : Tx} {x : En} (h : dfT A B q = some x) (hp : p ≠ []) (hne : p ≠ q) (hin : inn p q = true) : kd B p = 2 := by
  rcases dfT_in h with ⟨h1, _⟩ | ⟨_, rfl, ⟨z, hz⟩, ho⟩
  · exact hB.up _ _ p h1 hp hne hin
  · obtain ⟨h0, hP⟩ := fo_path (hA.ok _ _ hz).1
    rw [hA.own _ _ hz] at h0 hP
    obtain ⟨hu, hi⟩ := inn_upP hP h0 hp hne hin
    unfold oA at ho
    rw [decide_eq_false hu, Bool.false_or, decide_eq_true_iff] at ho
    exact kd_up hB ho hp hi
theorem df_chk {A B : Tx → Option En} (hA : TreeT A) (hB : TreeT B) {d : List En} (hd : Lst (dfT A B) d) (h64 : d.length ≤ 64) : (chk d).2 = 0 := by
  refine (chk_iff d).2 ⟨h64, fun x hx => dfT_fo hA hB ((hd.mem x).1 hx), ?_⟩
  refine pw_mono ?_ hd.rise
  intro x y hx hy hlt
  rw [fb_iff]
  refine ⟨hlt, ?_⟩
  cases hin : inn x.p y.p with
  | false => simp
  | true =>
    have hx' := (hd.mem x).1 hx
    have hne : x.p ≠ y.p := fun e => by rw [e, les_irr] at hlt; cases hlt
    have hk := dfT_shut hA hB ((hd.mem y).1 hy) (fo_path (dfT_fo hA hB hx')).1 hne hin
    rcases dfT_in hx' with ⟨h1, _⟩ | ⟨h1, _⟩
    · rw [kd_some h1] at hk
      simp [shutB, hk]
    · unfold kd at hk
      rw [h1] at hk
      simp [noE, En.k] at hk
/-- where a directory is none any more, something of the layer hides what lies below -/
theorem df_hides {A B : Tx → Option En} (hA : TreeT A) (hB : TreeT B) : ∀ (n : Nat) (q : Tx), (pcs q).length ≤ n → isP q = true → q ≠ [] → kd A q = 2 → kd B q ≠ 2 → ∃ r y, dfT A B r = some y ∧ y.p = r ∧ inn r q = true ∧ y.k ≠ 2
  | 0, q, hn, _, _, _, _ => by
    have := List.length_pos_iff.2 (pcs_ne q)
    omega
  | n + 1, q, hn, hP, h0, hkA, hkB => by
    obtain ⟨z, hz, hzk⟩ := kd_two hkA
    by_cases ho : oA B q = true
    · cases hb : B q with
      | none =>
        have : dfT A B q = some (q, 3, 0, []) := by
          unfold dfT
          rw [hb]
          simp [hz, ho]
        exact ⟨q, _, this, rfl, inn_refl q, by simp [En.k]⟩
      | some y =>
        have hyk : y.k ≠ 2 := by rw [kd_some hb] at hkB; exact hkB
        have : dfT A B q = some y := by
          unfold dfT
          rw [hb]
          simp only
          rw [if_neg]
          intro e
          rw [hz] at e
          cases e
          exact hyk hzk
        exact ⟨q, y, this, hB.own _ _ hb, inn_refl q, hyk⟩
    · have hu : upP q ≠ [] ∧ kd B (upP q) ≠ 2 := by
        unfold oA at ho
        rw [Bool.or_eq_true, decide_eq_true_iff, decide_eq_true_iff, not_or] at ho
        exact ho
      have hin := upP_inn hP h0 hu.1
      have hkU := hA.up _ _ _ hz hu.1 (upP_neq hP h0) hin
      have hl : (pcs (upP q)).length ≤ n := by
        rw [upP_pcs hP h0 hu.1, List.length_dropLast]
        omega
      obtain ⟨r, y, h1, h2, h3, h4⟩ := df_hides hA hB n (upP q) hl (isP_inn hP hin) hu.1 hkU hu.2
      exact ⟨r, y, h1, h2, inn_trans h3 hin, h4⟩
/-- laid over the first tree it makes the second one -/
theorem df_makes {A B : Tx → Option En} (hA : TreeT A) (hB : TreeT B) {d : List En} (hd : Lst (dfT A B) d) (h64 : d.length ≤ 64) : mgT A d = B := by
  have hc := df_chk hA hB hd h64
  have hne : ∀ q, ent d q = dfT A B q := fun q => by
    cases he : ent d q with
    | some x =>
      obtain ⟨h1, h2⟩ := ent_some he
      rw [← h2, (hd.mem x).1 h1]
    | none =>
      cases hq : dfT A B q with
      | none => rfl
      | some x =>
        have h1 := dfT_own hB _ _ hq
        have h2 : x ∈ d := (hd.mem x).2 (by rw [h1]; exact hq)
        have := List.find?_eq_none.1 he x h2
        simp [h1] at this
  funext q
  by_cases hq : q = []
  · subst hq
    rw [(mgT_tree hA hc).root, hB.root]
  · rw [mgT_seen hA hc q hq]
    unfold seenL
    rw [hne]
    cases hdf : dfT A B q with
    | some x =>
      show vla x = B q
      rcases dfT_in hdf with ⟨h1, _⟩ | ⟨h1, rfl, _⟩
      · have := (hB.ok _ _ h1).2
        unfold vla
        rw [if_neg (by omega), if_neg (by omega), h1]
      · rw [h1]
        rfl
    | none =>
      show lay d q (A q) = B q
      have hway : way d q = true → kd B q = 2 := fun hw => by
        obtain ⟨y, hy, h2⟩ := List.any_eq_true.1 hw
        simp at h2
        have hy' := (hd.mem y).1 hy
        have hyq : q ≠ y.p := fun e => by rw [← e, hdf] at hy'; cases hy'
        exact dfT_shut hA hB hy' hq hyq h2.1
      have hhid : hid d q = true → ∃ y, dfT A B y.p = some y ∧ y.p ≠ q ∧ inn y.p q = true ∧ y.k ≠ 2 := fun hh => by
        obtain ⟨y, hy, h2⟩ := List.any_eq_true.1 hh
        simp at h2
        have hy' := (hd.mem y).1 hy
        exact ⟨y, hy', (fun e => by rw [e, hdf] at hy'; cases hy'), h2.1, h2.2⟩
      unfold lay
      cases hBq : B q with
      | some x =>
        have hAq : A q = some x := by
          unfold dfT at hdf
          rw [hBq] at hdf
          simp only at hdf
          split at hdf
          · assumption
          · cases hdf
        have hnh : hid d q = false := by
          cases hh : hid d q with
          | false => rfl
          | true =>
            obtain ⟨y, h1, h2, h3, h4⟩ := hhid hh
            have hk := hB.up _ _ y.p hBq (fo_path (dfT_fo hA hB h1)).1 h2 h3
            rcases dfT_in h1 with ⟨g1, _⟩ | ⟨g1, _⟩
            · rw [kd_some g1] at hk
              exact absurd hk h4
            · unfold kd at hk
              rw [g1] at hk
              simp [noE, En.k] at hk
        unfold bs
        rw [hnh, hAq]
        simp only [Bool.false_eq_true, if_false]
        unfold dr
        rw [if_neg]
        intro hw
        rw [Bool.and_eq_true] at hw
        have hk := hway hw.1
        rw [kd_some hBq] at hk
        have : kO (some x) = 2 := hk
        rw [this] at hw
        simp at hw
      | none =>
        have hnw : way d q = false := by
          cases hw : way d q with
          | false => rfl
          | true =>
            have hk := hway hw
            unfold kd at hk
            rw [hBq] at hk
            simp [noE, En.k] at hk
        rw [hnw, dr_false]
        cases hAq : A q with
        | none => unfold bs; split <;> rfl
        | some z =>
          obtain ⟨h0, hP⟩ := fo_path (hA.ok _ _ hAq).1
          rw [hA.own _ _ hAq] at h0 hP
          have hno : ¬ oA B q = true := by
            intro ho
            unfold dfT at hdf
            rw [hBq] at hdf
            simp [hAq, ho] at hdf
          have hu : upP q ≠ [] ∧ kd B (upP q) ≠ 2 := by
            unfold oA at hno
            rw [Bool.or_eq_true, decide_eq_true_iff, decide_eq_true_iff, not_or] at hno
            exact hno
          have hin := upP_inn hP h0 hu.1
          have hkU := hA.up _ _ _ hAq hu.1 (upP_neq hP h0) hin
          obtain ⟨r, y, h1, h2, h3, h4⟩ := df_hides hA hB _ (upP q) (Nat.le_refl _) (isP_inn hP hin) hu.1 hkU hu.2
          have hh : hid d q = true := by
            refine List.any_eq_true.2 ⟨y, (hd.mem y).2 (by rw [h2]; exact h1), ?_⟩
            rw [h2, inn_trans h3 hin]
            simp [h4]
          unfold bs
          rw [if_pos hh]
end Go.Proofs.YtbefmcagpmgkiaaDoor
namespace Go.Proofs.YtbefmcagpmgkiaaDoor
open Go.ChangeShapes Go.WideShapes Go.ChangeAt Go.RowKit Go.Deep Go.Maps
set_option linter.unusedVariables false
def keyT : Lit → Tx
  | .string p => p
  | _ => []
theorem les_not_trans {a b c : Tx} (h1 : les b a = false) (h2 : les c b = false) : les c a = false := by
  cases h : les c a with
  | false => rfl
  | true =>
    by_cases e : c = b
    · rw [e] at h; rw [h] at h1; cases h1
    · have h3 := les_total c b e
      rw [h2] at h3
      have h4 : les b c = true := by simpa using h3.symm
      rw [les_trans _ _ _ h4 h] at h1
      cases h1
/-- any entries may be put in order -/
theorem sort_ex (l : List En) : ∃ l' : List En, l'.Perm l ∧ l'.Pairwise (fun x y => les y.p x.p = false) := by
  refine ⟨l.mergeSort (fun x y => !les y.p x.p), List.mergeSort_perm _ _, ?_⟩
  have := List.pairwise_mergeSort (le := fun x y : En => !les y.p x.p) (fun a b c h1 h2 => by
    simp only [Bool.not_eq_true'] at h1 h2 ⊢
    exact les_not_trans h1 h2) (fun a b => by
    cases h : les b.p a.p with
    | false => rfl
    | true => rw [les_asym h]; rfl) l
  exact pw_mono (fun a b _ _ h => by simpa using h) this
/-- a map has as many entries as a list of them -/
theorem sc_exact {w : World} {b n : Nat} {T : Tx → Option En} (h : Sc w b n T) (hT : AtOwn T) : ∃ (D : DataW Unit) (l : List En), w.ownsMap Tryd.prog 9 eR b l.length D ∧ Rep D T ∧ Lst T l ∧ Maps.size D = l.length := by
  obtain ⟨D, h1, h2⟩ := h
  have ht := h1.tidy lawS
  obtain ⟨es, clock, hb, F, hn, hD⟩ := h1
  obtain ⟨kvs, hk, hap⟩ := ht
  have hkd : kvs = (es.toList.map (Go.WideElems.rg Tryd.prog 9 eR)).foldr DataW.insert [] := by
    rw [hD] at hk
    injection hk with e
    exact e.symm
  have hlen : kvs.length = es.size := by rw [hkd, length_sorted, List.length_map, Array.length_toList]
  have hkey : ∀ kv ∈ kvs, kv.1 = .string (keyT kv.1) := fun kv hkv => by
    rw [hkd, mem_sorted, List.mem_map] at hkv
    obtain ⟨x, hx, rfl⟩ := hkv
    obtain ⟨y, hy⟩ := F.reads x hx
    have e : Go.WideElems.rg Tryd.prog 9 eR x = y := Go.WideElems.rg_of hy
    rw [e]
    obtain ⟨p, _, hp⟩ := keyS_inv (Go.WideElems.rd_key hy)
    rw [hp]
    rfl
  have hin : ∀ kv ∈ kvs, (T (keyT kv.1)).isSome = true := fun kv hkv => by
    rw [← (h2 (keyT kv.1)).1, hk, Maps.has_eq, List.any_eq_true]
    refine ⟨kv, hkv, ?_⟩
    rw [hkey kv hkv]
    show (Lit.string _).sameKey (.string (keyT (.string _))) = true
    rw [strike_str]
    simp [keyT]
  have hall : ∀ q, (T q).isSome = true → q ∈ kvs.map (fun kv => keyT kv.1) := fun q hq => by
    rw [← (h2 q).1, hk, Maps.has_eq, List.any_eq_true] at hq
    obtain ⟨kv, hkv, hs⟩ := hq
    rw [List.mem_map]
    refine ⟨kv, hkv, ?_⟩
    rw [hkey kv hkv, strike_str] at hs
    simpa using hs
  have hnd : (kvs.map (fun kv => keyT kv.1)).Nodup := by
    rw [List.Nodup, List.pairwise_map]
    refine pw_mono (fun a b ha hb' hne e => hne ?_) hap
    rw [hkey a ha, hkey b hb', e]
  obtain ⟨l, hperm, hpw⟩ := sort_ex (kvs.map (fun kv => (T (keyT kv.1)).getD noE))
  have hg : Got T (fun _ => false) (kvs.map (fun kv => keyT kv.1)) (kvs.map (fun kv => (T (keyT kv.1)).getD noE)) := by
    refine ⟨hnd, ?_, fun q => ?_⟩
    · rw [List.map_map, List.map_map]
      apply List.map_congr_left
      intro kv hkv
      obtain ⟨x, hx⟩ := Option.isSome_iff_exists.1 (hin kv hkv)
      simp [hx]
    · cases hq : (T q).isSome with
      | false => rfl
      | true => rw [decide_eq_true (hall q hq)]; rfl
  have hll : l.length = es.size := by rw [hperm.length_eq, List.length_map, hlen]
  refine ⟨D, l, ⟨es, clock, hb, F, by omega, hD⟩, h2, lst_of hg (fun _ => rfl) hT hperm hpw, ?_⟩
  rw [hk, Maps.size_eq, hlen, hll]
section
variable {ops : Array Oper} {rest : List Oper} {o : Oper} {a : Act} {Q : Exit → Act → World → Prop}
/-- 'len(m)', just -/
theorem wpList_len_scx {w : World} (hg : o.guard = none) (m : Operand) (hop : o.op = Op.call { callee := Callee.builtin Builtin.len, args := #[m], argTypes := #[57] }) (b n : Nat) (T : Tx → Option En) (hm : a.eval m = .map (some b)) (hs : Sc w b n T) (hT : AtOwn T)
    (hK : ∀ l : List En, Lst T l → Sc w b l.length T → wpList Tryd.prog ops Q rest (a.put o.dst (.int .i64 (l.length : Int))) w) : wpList Tryd.prog ops Q (o :: rest) a w := by
  obtain ⟨D, l, h1, h2, h3, h4⟩ := sc_exact hs hT
  refine wpList_len_own w hg m 57 hop 9 34 Tryd.underlying57 eR b _ D hm h1 ?_
  rw [h4]
  exact hK l h3 ⟨D, h1, h2⟩
end
/-- '_, ok := m[k]' -/
theorem Sc.look2 {w : World} {b n : Nat} {T : Tx → Option En} (h : Sc w b n T) (p : Tx) (hp : p.length ≤ 140737488355328) : (Instr.lookup 57 (.map (some b)) (.string (tx p)) true).run Tryd.prog w = .ok (.tuple #[ag ((T p).getD noE), .bool (T p).isSome]) w := by
  obtain ⟨D, h1, h2⟩ := h
  obtain ⟨v, ps, hrun, hv⟩ := h1.look_ok lawS Tryd.underlying57 (zeroEn w) (eR_ag noE) (keyS p hp)
  obtain ⟨x, rfl, hx⟩ := eR_inv hv
  simp only [Prod.mk.injEq] at hx
  rw [h2.at p] at hx
  rw [eD_inj hx.1, ← (h2 p).1]
  exact hrun
end Go.Proofs.YtbefmcagpmgkiaaDoor
