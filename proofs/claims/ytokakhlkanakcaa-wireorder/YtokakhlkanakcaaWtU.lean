/- Messages that came in; what stands between two calls of WireOrder (gen_worder.py). -/
import Derived.Test.YtokakhlkanakcaaWtQ
import Derived.Test.YtokakhlkanakcaaWsI
import Derived.Maps.AppendAt
namespace Go.Proofs.Ytokakhlkanakcaa
open Go.ChangeShapes Go.WideShapes Go.ChangeAt Go.RowKit Go.Deep Go.Maps
set_option linter.unusedVariables false
set_option linter.unusedSimpArgs false
/-- a message and its packages -/
structure Mi where
  m : Mv
  L : List Pk
def MiIn (W : World) (v : Mi) : Prop := MsIn W v.m.k v.m.f v.m.t v.m.x v.m.pa v.m.pn v.m.pc v.L
theorem PkIn.keep {w w' : World} {p : Pk} (h : PkIn w p) (hb : Below w.heap.size w w') : PkIn w' p := ⟨h.1.keep hb, h.2⟩
theorem MiIn.keep {w w' : World} {v : Mi} (h : MiIn w v) (hb : Below w.heap.size w w') : MiIn w' v := ⟨h.1, h.2.1, h.2.2.1, h.2.2.2.1, h.2.2.2.2.1.keep hb, fun p hp => (h.2.2.2.2.2.1 p hp).keep hb, h.2.2.2.2.2.2⟩
/-- a slice of messages that came in -/
def InMs (W : World) (a : Option Addr) (n c : Nat) (l : List Mi) : Prop := l.length = n ∧ n ≤ c ∧ n ≤ 140737488351232 ∧ (0 < n → ∃ b off, a = some ⟨b, off, none⟩ ∧ b < W.heap.size ∧ ∀ i x, l[i]? = some x → Mc W b (off + i * 6) x.m) ∧ ∀ x ∈ l, MiIn W x
theorem InMs.keep {w w' : World} {a : Option Addr} {n c : Nat} {l : List Mi} (h : InMs w a n c l) (hb : Below w.heap.size w w') : InMs w' a n c l := by
  refine ⟨h.1, h.2.1, h.2.2.1, fun h0 => ?_, fun x hx => (h.2.2.2.2 x hx).keep hb⟩
  obtain ⟨b, off, e, h1, h2⟩ := h.2.2.2.1 h0
  exact ⟨b, off, e, Nat.lt_of_lt_of_le h1 hb.size, fun i x hx => (h2 i x hx).kept (hb.block b h1)⟩
theorem bytesMsg : Try.prog.bytesOf 31 = 64 := by kernel_rfl
theorem open_msgs {H : Type} {enc : TypeId × Value → H} {W : World} {fuel : Nat} {a : Option Addr} {len cap : Nat} {x : DataW H × List MemPlace} (h : DataW.trod enc Try.prog W 0 (fun _ => true) true fuel 26 [.slice a len cap] = some x) (hw : ∀ q ∈ x.1.weights Try.prog 26, q ≤ 140737488351232) :
    ∃ l, InMs W a len cap l := by
  rcases open_slice Try.underlying26 h with ⟨hcs, hx⟩ | ⟨a', len', cap', m, n, D, Pl, hcs, _, hl, hm, hmm, hx, hel⟩
  · simp only [List.cons.injEq, and_true, Value.slice.injEq] at hcs
    obtain ⟨rfl, rfl, rfl⟩ := hcs
    exact ⟨[], rfl, Nat.le_refl _, by omega, (fun h => by omega), fun p hp => by simp at hp⟩
  · simp only [List.cons.injEq, and_true, Value.slice.injEq] at hcs
    obtain ⟨rfl, rfl, rfl⟩ := hcs
    have hmc : m = cap := by simpa using hmm
    subst hmc hx
    have hwi : ∀ i, i < len → ∀ q ∈ (D i).weights Try.prog 31, q ≤ 140737488351232 := fun i hi q hq => hw q (by
      simp only [DataW.weights, Try.underlying26]
      refine List.mem_cons_of_mem _ (List.mem_append_left _ (mem_weightsAllW (d := D i) ?_ hq))
      exact List.mem_map.2 ⟨i, List.mem_range.2 hi, rfl⟩)
    have hlw : len ≤ 140737488351232 := by
      have := hw ((((List.range len).map D).length + ((List.range (m - len)).map fun j => D (len + j)).length) * Try.prog.bytesOf 31) (by simp only [DataW.weights, Try.underlying26, List.mem_cons]; exact Or.inl trivial)
      rw [bytesMsg, List.length_map, List.length_range] at this
      omega
    have each : ∀ i, i < len → ∃ v : Mi, (W.cell? (a'.add (i * 6)) = some (.int .i64 v.m.k) ∧ W.cell? (a'.add (i * 6 + 1)) = some (.int .i64 v.m.f) ∧ W.cell? (a'.add (i * 6 + 2)) = some (.int .i64 v.m.t) ∧ W.cell? (a'.add (i * 6 + 3)) = some (.int .i64 v.m.x) ∧ W.cell? (a'.add (i * 6 + 4)) = some (.bool v.m.y) ∧ W.cell? (a'.add (i * 6 + 5)) = some (.slice v.m.pa v.m.pn v.m.pc)) ∧ MiIn W v := by
      intro i hi
      obtain ⟨cs', h1, h2⟩ := hel i (by omega)
      rw [cellsMsg] at h1
      obtain ⟨m0, m1, m2, m3, m4, a, n, c, L, rfl, hv⟩ := open_msg h2 (hwi i hi)
      obtain ⟨_, hlen, hcell⟩ := World.cells?_some h1
      have e0 := hcell 0 (by omega)
      have e1 := hcell 1 (by omega)
      have e2 := hcell 2 (by omega)
      have e3 := hcell 3 (by omega)
      have e4 := hcell 4 (by omega)
      have e5 := hcell 5 (by omega)
      rw [add_add] at e0 e1 e2 e3 e4 e5
      exact ⟨⟨⟨m0, m1, m2, m3, m4, a, n, c⟩, L⟩, ⟨by simpa using e0, by simpa using e1, by simpa using e2, by simpa using e3, by simpa using e4, by simpa using e5⟩, hv⟩
    letI : Inhabited Mi := ⟨⟨noM, []⟩⟩
    obtain ⟨q, hq⟩ := choose_lt each
    refine ⟨(List.range len).map q, by simp, hl, hlw, fun h0 => ?_, fun p hp => ?_⟩
    · obtain ⟨b, off, spot⟩ := a'
      have hc := (hq 0 h0).1.1
      have hspot : spot = none := by simpa [Addr.add] using World.cell?_spot hc
      subst hspot
      rw [add_plain] at hc
      refine ⟨b, off, rfl, World.block_lt_of_cell? _ _ hc, fun i x hx => ?_⟩
      have hi : i < len := by
        have := (List.getElem?_eq_some_iff.1 hx).1
        simpa using this
      have hxq : x = q i := by simpa [hi] using hx.symm
      subst hxq
      have := (hq i hi).1
      rw [add_plain, add_plain, add_plain, add_plain, add_plain, add_plain] at this
      exact this
    · simp only [List.mem_map, List.mem_range] at hp
      obtain ⟨i, hi, rfl⟩ := hp
      exact (hq i hi).2
theorem append_msg_at {w : World} {ops : Array Oper} {rest : List Oper} {o : Oper} {act : Act} {Q : Exit → Act → World → Prop} (hgd : o.guard = none) (s x : Operand)
    (ho : o.op = .call { callee := .builtin .append, args := #[s, x], argTypes := #[26, 26] })
    (base : Nat) (v : Value) (l : List Mv) (hs : act.eval s = v) (hown : OwnM w base v l)
    (g c : Nat) (y : Mv) (hx : act.eval x = .slice (some ⟨g, 0, none⟩) 1 c) (hc : w.heap[g]? = some (.cells (mC y) 31))
    (hN : l.length ≤ 1000000000) (hbase : base ≤ w.heap.size)
    (h : ∀ v' w', OwnM w' base v' (l ++ [y]) → w.grownBy w' v.ownBlock → (v'.ownBlock = v.ownBlock ∨ v'.ownBlock = some w.heap.size) → wpList Try.prog ops Q rest (act.put o.dst v') w') :
    wpList Try.prog ops Q (o :: rest) act w := by
  obtain ⟨i, hi, hz, h1, h2⟩ := infoM
  refine wpList_append_own_at w hgd s x 26 ho base 31 i _ 6 64 Try.underlying26 hi hz h1 h2 rfl (by decide) v l.length _ hs hown ⟨g, 0, none⟩ 1 c (mcl y) hx rfl ?_ (by simp [mcl, Value.oneCell']) (by simp only [maxLen]; omega) (by omega) hbase ?_
  · intro j u hu
    obtain ⟨h0, h1, h2, h3, h4, h5⟩ := mc_cells hc
    rw [add_plain, Nat.zero_add]
    have hj : j < 6 := by
      have := (List.getElem?_eq_some_iff.1 hu).1
      simpa [mcl] using this
    rcases (by omega : j = 0 ∨ j = 1 ∨ j = 2 ∨ j = 3 ∨ j = 4 ∨ j = 5) with rfl | rfl | rfl | rfl | rfl | rfl <;> (simp [mcl] at hu; subst hu; assumption)
  · intro v' w' hown' hg _ hat
    refine h v' w' ?_ hg hat
    unfold OwnM
    rw [List.length_append]
    have : mcs (l ++ [y]) = mcs l ++ mcl y := by simp [mcs]
    rw [this]
    exact hown'
/-- the messages of one link, and of the box at its end -/
def tT (ff tt : Int) (A B : List Mv) : Pl → List Mv := fun p => if p = .inl (ff, tt) then A else if p = .inr tt then B else []
theorem tT_l (ff tt : Int) (A B : List Mv) : tT ff tt A B (.inl (ff, tt)) = A := if_pos rfl
theorem tT_r (ff tt : Int) (A B : List Mv) : tT ff tt A B (.inr tt) = B := by unfold tT; rw [if_neg (fun e => by cases e), if_pos rfl]
theorem tT_nil (ff tt : Int) : tT ff tt [] [] = fun _ => [] := by funext p; unfold tT; split <;> (try rfl); split <;> rfl
theorem tT_putl (ff tt : Int) (A B C : List Mv) : putT (tT ff tt A B) (.inl (ff, tt)) C = tT ff tt C B := by
  funext p
  unfold putT tT
  by_cases h : p = .inl (ff, tt)
  · simp [h]
  · simp [h]
theorem tT_putr (ff tt : Int) (A B C : List Mv) : putT (tT ff tt A B) (.inr tt) C = tT ff tt A C := by
  funext p
  unfold putT tT
  by_cases h : p = .inr tt
  · subst h; simp
  · simp [h]
/-- a message that was sent, and what the net has of it -/
structure Ent where
  m : Mv
  L : List Pk
  a : Option Addr
  c : Nat
  M : List Pk
def Ent.q (e : Ent) : Mv := ⟨e.m.k, e.m.f, e.m.t, e.m.x, e.m.y, e.a, e.m.pn, e.c⟩
def Ent.ok (w : World) (F : Nat → Prop) (ff tt : Int) (e : Ent) : Prop := Sf w F e.m e.L ∧ Sf w F e.q e.M ∧ Alike e.L e.M ∧ e.m.f = ff ∧ e.m.t = tt
/-- between two calls -/
structure Wo (w0 w : World) (F : Nat → Prop) (b N : Nat) (ff tt : Int) (A B : List Mv) (V : Value) (X : List Ent) : Prop where
  net : Net w F b N (tT ff tt A B)
  sent : OwnM w 0 V (X.map (·.m))
  sF : ∀ k, V.ownBlock = some k → ¬ F k ∧ w0.heap.size ≤ k
  nF : ∀ k, F k → w0.heap.size ≤ k
  bel : Below w0.heap.size w0 w
  ms : ∀ e ∈ X, e.ok w F ff tt
  ap : ∀ k, V.ownBlock = some k → ∀ e ∈ X, ¬ PkF e.m.pa e.L k ∧ ¬ PkF e.a e.M k
section
variable {w0 w w' : World} {F F' : Nat → Prop} {b N N' : Nat} {ff tt : Int} {A B A' B' : List Mv} {V : Value} {X : List Ent}
theorem Wo.keep (h : Wo w0 w F b N ff tt A B V X) (hb : Below w.heap.size w w') : Wo w0 w' F b N ff tt A B V X := ⟨h.net.keep hb, h.sent.keep hb, h.sF, h.nF, h.bel.trans (hb.mono h.bel.size), fun e he => ⟨(h.ms e he).1.keep hb, (h.ms e he).2.1.keep hb, (h.ms e he).2.2⟩, h.ap⟩
theorem Wo.step (h : Wo w0 w F b N ff tt A B V X) (n : Net w' F' b N' (tT ff tt A' B')) (hs : Step F F' w w') : Wo w0 w' F' b N' ff tt A' B' V X := by
  refine ⟨n, h.sent.kept fun k hk => hs.off.block k (h.sent.own k hk).2 (h.sF k hk).1, fun k hk => ⟨fun hF => ?_, (h.sF k hk).2⟩, fun k hk => (hs.sub k hk).elim (h.nF k) (fun e => Nat.le_trans h.bel.size e), h.bel.trans (hs.off.below h.nF h.bel.size), fun e he => ⟨(h.ms e he).1.step hs, (h.ms e he).2.1.step hs, (h.ms e he).2.2⟩, h.ap⟩
  rcases hs.sub k hF with e | e
  · exact (h.sF k hk).1 e
  · have := (h.sent.own k hk).2; omega
theorem Wo.more (h : Wo w0 w F b N ff tt A B V X) (hN : N ≤ N') : Wo w0 w F b N' ff tt A B V X := ⟨h.net.more hN, h.sent, h.sF, h.nF, h.bel, h.ms, h.ap⟩
end
theorem tT_dlv (ff tt : Int) (Y : List Mv) (k : Nat) (m : Mv) (hm : Y[k]? = some m) : putT (putT (tT ff tt (Y.drop k) (Y.take k)) (.inl (ff, tt)) (outL (tT ff tt (Y.drop k) (Y.take k) (.inl (ff, tt))) 0)) (.inr tt) (tT ff tt (Y.drop k) (Y.take k) (.inr tt) ++ [m]) = tT ff tt (Y.drop (k + 1)) (Y.take (k + 1)) := by
  have e1 : outL (Y.drop k) 0 = Y.drop (k + 1) := by simp [outL, List.drop_drop]
  have e2 : Y.take k ++ [m] = Y.take (k + 1) := by rw [List.take_add_one, hm]; rfl
  rw [tT_l, tT_r, tT_putl, tT_putr, e1, e2]
theorem alike_back {A B : List Pk} (h : Alike A B) : Alike B A := ⟨h.1.symm, fun i x y hx hy => by
  obtain ⟨h1, h2, h3, h4⟩ := h.2 i y x hy hx
  exact ⟨h1.symm, h2.symm, h3.symm, h4.symm⟩⟩
theorem drop_at {A : Type} {l : List A} {k : Nat} {x : A} (h : l[k]? = some x) : l.drop k = x :: l.drop (k + 1) := by
  obtain ⟨h1, h2⟩ := List.getElem?_eq_some_iff.1 h
  rw [List.drop_eq_getElem_cons h1, h2]
theorem mod_in6 (x : Int) : ∃ r : Nat, Int.tmod (Int.tmod x 6 + 6) 6 = (r : Int) ∧ r < 6 ∧ -6 < Int.tmod x 6 ∧ Int.tmod x 6 < 6 := by
  have g : -6 < Int.tmod x 6 ∧ Int.tmod x 6 < 6 := by
    rcases Int.le_total 0 x with g | g
    · rw [Int.tmod_eq_emod_of_nonneg g]
      omega
    · have e : x.tmod 6 = -((-x).tmod 6) := by rw [Int.neg_tmod, Int.neg_neg]
      rw [e, Int.tmod_eq_emod_of_nonneg (by omega)]
      omega
  have e := Int.tmod_eq_emod_of_nonneg (a := Int.tmod x 6 + 6) (b := 6) (by omega)
  have h0 := Int.emod_nonneg (Int.tmod x 6 + 6) (show (6 : Int) ≠ 0 by omega)
  have h1 := Int.emod_lt_of_pos (Int.tmod x 6 + 6) (show (0 : Int) < 6 by omega)
  exact ⟨(Int.tmod (Int.tmod x 6 + 6) 6).toNat, by rw [e]; omega, by rw [e]; omega, g⟩
end Go.Proofs.Ytokakhlkanakcaa
