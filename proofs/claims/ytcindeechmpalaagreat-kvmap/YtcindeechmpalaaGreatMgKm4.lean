/- Batches of changes, plainly: what may be, their bytes, how bytes are read. Blocks of a log: the head's bytes. A log's own block; size, start, placeOf, isNone, ready. headOf. -/
import Derived.Test.YtcindeechmpalaaGreatMgKm3
import Derived.Test.YtcindeechmpalaaGreatMgKm2
import Derived.Lib.BufferWrite
import Derived.Great.BuildSlice
import Derived.Laws.StructEq
namespace Go.Proofs.YtcindeechmpalaaGreat
set_option linter.unusedVariables false
/-- a number below 16384 by sevens -/
def vk (v : Nat) : List Int := if v < 128 then [(v : Int)] else [(v : Int) % 128 + 128, (v : Int) / 128]
theorem vk_sev (v n : Nat) (hv : v < 16384) (h : Sev (v : Int) n) : varL n v = vk v := by
  unfold vk
  split
  · rename_i h1
    have := sev_one v n 0 h ⟨by omega, by simp; omega, .inl rfl⟩
    subst this
    rfl
  · rename_i h1
    have := sev_one v n 1 h ⟨by omega, by simp; omega, .inr (by simp; omega)⟩
    subst this
    rfl
theorem vk_isSev (v : Nat) (hv : v < 16384) : ∃ n, Sev (v : Int) n ∧ varL n v = vk v ∧ n ≤ 1 := by
  by_cases h : v < 128
  · have hs : Sev (v : Int) 0 := ⟨by omega, by simp; omega, .inl rfl⟩
    exact ⟨0, hs, vk_sev v 0 hv hs, by omega⟩
  · have hs : Sev (v : Int) 1 := ⟨by omega, by simp; omega, .inr (by simp; omega)⟩
    exact ⟨1, hs, vk_sev v 1 hv hs, by omega⟩
theorem vk_len (v : Nat) : 1 ≤ (vk v).length ∧ (vk v).length ≤ 2 := by unfold vk; split <;> simp
theorem vk_bytes (v : Nat) (h : v < 16384) : IsBytes (vk v) := bytes_of_mem fun x hx => by
  unfold vk at hx
  split at hx <;> simp at hx <;> omega
/-- the bytes of a text, of a change, of changes, of a batch -/
def tB (s : ByteArray) : List Int := vk s.size ++ sN s
def cB (x : Pt) : List Int := if x.g = true then 1 :: tB x.k else 0 :: (tB x.k ++ tB x.v)
def csB (l : List Pt) : List Int := l.flatMap cB
def eB (l : List Pt) : List Int := vk l.length ++ csB l
/-- a change that may not be -/
def badP (x : Pt) : Bool := decide (x.k.size = 0) || decide (64 < x.k.size) || decide ((if x.g = true then 0 else 1024) < x.v.size)
def encA (l : List Pt) : Int × List Int := if l = [] ∨ l.any badP = true then (2, []) else if 64 < l.length then (3, []) else if 4096 < (eB l).length then (3, []) else (0, eB l)
theorem badP_no {x : Pt} (h : badP x = false) : 1 ≤ x.k.size ∧ x.k.size ≤ 64 ∧ x.v.size ≤ 1024 ∧ (x.g = true → x.v.size = 0) := by
  unfold badP at h
  simp only [Bool.or_eq_false_iff, decide_eq_false_iff_not] at h
  obtain ⟨⟨h1, h2⟩, h3⟩ := h
  by_cases hg : x.g = true
  · rw [if_pos hg] at h3
    exact ⟨by omega, by omega, by omega, fun _ => by omega⟩
  · rw [if_neg hg] at h3
    exact ⟨by omega, by omega, by omega, fun e => absurd e hg⟩
theorem tB_len (s : ByteArray) : (tB s).length = (vk s.size).length + s.size := by unfold tB; rw [List.length_append, sN_len]
theorem cB_len {x : Pt} (h : badP x = false) : 3 ≤ (cB x).length ∧ (cB x).length ≤ 1093 := by
  obtain ⟨h1, h2, h3, h4⟩ := badP_no h
  have a := vk_len x.k.size
  have b := vk_len x.v.size
  unfold cB
  split
  · rw [List.length_cons, tB_len]; omega
  · rw [List.length_cons, List.length_append, tB_len, tB_len]; omega
theorem csB_len {l : List Pt} (h : ∀ x ∈ l, badP x = false) : (csB l).length ≤ 1093 * l.length := by
  induction l with
  | nil => simp [csB]
  | cons x l ih =>
    have h1 := cB_len (h x (by simp))
    have h2 := ih (fun y hy => h y (by simp [hy]))
    unfold csB at h2 ⊢
    rw [List.flatMap_cons, List.length_append, List.length_cons]
    omega
theorem csB_snoc (l : List Pt) (x : Pt) : csB (l ++ [x]) = csB l ++ cB x := by simp [csB]
theorem csB_take {l : List Pt} {j : Nat} {x : Pt} (h : l[j]? = some x) : csB (l.take (j + 1)) = csB (l.take j) ++ cB x := by
  obtain ⟨hj, e⟩ := List.getElem?_eq_some_iff.1 h
  rw [List.take_succ_eq_append_getElem hj, e, csB_snoc]
theorem isB_app {A B : List Int} (ha : IsBytes A) (hb : IsBytes B) : IsBytes (A ++ B) := bytes_of_mem fun x hx => (List.mem_append.1 hx).elim (fun h => bytes_mem ha x h) (fun h => bytes_mem hb x h)
theorem isB_cons {a : Int} {B : List Int} (ha : 0 ≤ a ∧ a ≤ 255) (hb : IsBytes B) : IsBytes (a :: B) := bytes_of_mem fun x hx => (List.mem_cons.1 hx).elim (fun h => h ▸ ha) (fun h => bytes_mem hb x h)
theorem tB_bytes {s : ByteArray} (h : s.size < 16384) : IsBytes (tB s) := isB_app (vk_bytes _ h) (sN_bytes s)
theorem cB_bytes {x : Pt} (h : badP x = false) : IsBytes (cB x) := by
  obtain ⟨h1, h2, h3, h4⟩ := badP_no h
  unfold cB
  split
  · exact isB_cons ⟨by omega, by omega⟩ (tB_bytes (by omega))
  · exact isB_cons ⟨by omega, by omega⟩ (isB_app (tB_bytes (by omega)) (tB_bytes (by omega)))
theorem csB_bytes {l : List Pt} (h : ∀ x ∈ l, badP x = false) : IsBytes (csB l) := bytes_of_mem fun y hy => by
  obtain ⟨x, hx, hy2⟩ := List.mem_flatMap.1 hy
  exact bytes_mem (cB_bytes (h x hx)) y hy2
theorem encA_ok {l : List Pt} {B : List Int} (h : encA l = (0, B)) : B = eB l ∧ l ≠ [] ∧ l.length ≤ 64 ∧ (∀ x ∈ l, badP x = false) ∧ (eB l).length ≤ 4096 := by
  unfold encA at h
  split at h
  · exact absurd (Prod.mk.inj h).1 (by decide)
  · rename_i h1
    split at h
    · exact absurd (Prod.mk.inj h).1 (by decide)
    · rename_i h2
      split at h
      · exact absurd (Prod.mk.inj h).1 (by decide)
      · rename_i h3
        refine ⟨(Prod.mk.inj h).2.symm, fun e => h1 (.inl e), by omega, fun x hx => ?_, by omega⟩
        cases hb : badP x with
        | false => rfl
        | true => exact absurd (.inr (List.any_eq_true.2 ⟨x, hx, hb⟩)) h1
theorem encA_bytes {l : List Pt} {B : List Int} (h : encA l = (0, B)) : IsBytes B ∧ B.length ≤ 4096 := by
  obtain ⟨rfl, h1, h2, h3, h4⟩ := encA_ok h
  exact ⟨isB_app (vk_bytes _ (by omega)) (csB_bytes h3), h4⟩
/-- what is read: a number, a text, a change, changes, a batch -/
def rN (B : List Int) : Nat × List Int := ((rv B 0 0).1.toNat, B.drop (rv B 0 0).2.1.toNat)
def rT (B : List Int) : List Int × List Int := ((rN B).2.take (rN B).1, (rN B).2.drop (rN B).1)
def rX (B : List Int) : Pt × List Int :=
  if (rN B).1 = 1 then (⟨strOfNums (rT (rN B).2).1, ⟨#[]⟩, true⟩, (rT (rN B).2).2)
  else (⟨strOfNums (rT (rN B).2).1, strOfNums (rT (rT (rN B).2).2).1, false⟩, (rT (rT (rN B).2).2).2)
def rL : Nat → List Int → List Pt × List Int
  | 0, B => ([], B)
  | n + 1, B => ((rX B).1 :: (rL n (rX B).2).1, (rL n (rX B).2).2)
def rdB (B : List Int) : List Pt := (rL (min (rN B).1 64) (rN B).2).1
def decA (B : List Int) : Option (List Pt) := if encA (rdB B) = (0, B) then some (rdB B) else none
theorem rv_fits {B : List Int} (hb : IsBytes B) : 0 ≤ (rv B 0 0).1 ∧ (rv B 0 0).1 ≤ 18446744073709551615 ∧ 0 ≤ (rv B 0 0).2.1 ∧ (rv B 0 0).2.1 ≤ B.length := by
  rcases rv_only B 0 0 (fun c hc => bytes_mem hb c hc) (by omega) with (e | e) | ⟨n, u, e, _, h1, h2, u0, u1, u2, u3⟩
  · rw [e]; exact ⟨by decide, by decide, by decide, by show (0 : Int) ≤ _; omega⟩
  · rw [e]; exact ⟨by decide, by decide, by decide, by show (0 : Int) ≤ _; omega⟩
  · have h9 := (sev_of u n h2 u0 u1 u2 u3).2
    rw [e]
    refine ⟨?_, ?_, ?_, ?_⟩ <;> simp <;> omega
theorem drop_bytes {B : List Int} (hb : IsBytes B) (n : Nat) : IsBytes (B.drop n) := bytes_of_mem fun x hx => bytes_mem hb x (List.mem_of_mem_drop hx)
theorem take_bytes {B : List Int} (hb : IsBytes B) (n : Nat) : IsBytes (B.take n) := bytes_of_mem fun x hx => bytes_mem hb x (List.mem_of_mem_take hx)
theorem rN_bytes {B : List Int} (hb : IsBytes B) : IsBytes (rN B).2 := drop_bytes hb _
theorem rT_bytes {B : List Int} (hb : IsBytes B) : IsBytes (rT B).1 ∧ IsBytes (rT B).2 := ⟨take_bytes (rN_bytes hb) _, drop_bytes (rN_bytes hb) _⟩
theorem rX_bytes {B : List Int} (hb : IsBytes B) : IsBytes (rX B).2 := by
  unfold rX
  split
  · exact (rT_bytes (rN_bytes hb)).2
  · exact (rT_bytes (rT_bytes (rN_bytes hb)).2).2
theorem rN_len (B : List Int) : (rN B).2.length ≤ B.length := by unfold rN; rw [List.length_drop]; omega
theorem rT_len (B : List Int) : (rT B).2.length ≤ B.length ∧ (rT B).1.length ≤ B.length := by
  have := rN_len B
  unfold rT
  rw [List.length_drop, List.length_take]
  omega
theorem rX_len (B : List Int) : (rX B).2.length ≤ B.length := by
  have h1 := rN_len B
  have h2 := rT_len (rN B).2
  have h3 := rT_len (rT (rN B).2).2
  unfold rX
  split
  · exact Nat.le_trans h2.1 h1
  · exact Nat.le_trans h3.1 (Nat.le_trans h2.1 h1)
theorem rN_vk (n : Nat) (hn : n < 16384) (M : List Int) : rN (vk n ++ M) = (n, M) := by
  obtain ⟨k, h1, h2, h3⟩ := vk_isSev n hn
  unfold rN
  rw [← h2, rv_back (n : Int) k (by omega) (by omega) h1 M]
  refine Prod.ext_iff.2 ⟨by simp, ?_⟩
  show (varL k n ++ M).drop ((k : Int) + 1).toNat = M
  have : ((k : Int) + 1).toNat = (varL k (n : Int)).length := by rw [varL_length]; omega
  rw [this, List.drop_left]
theorem rT_tB (s : ByteArray) (hs : s.size < 16384) (M : List Int) : rT (tB s ++ M) = (sN s, M) := by
  unfold rT tB
  rw [List.append_assoc, rN_vk _ hs]
  have := sN_len s
  refine Prod.ext_iff.2 ⟨?_, ?_⟩
  · show (sN s ++ M).take s.size = sN s
    rw [← this, List.take_left]
  · show (sN s ++ M).drop s.size = M
    rw [← this, List.drop_left]
theorem rN_one (v : Nat) (hv : v < 128) (M : List Int) : rN ((v : Int) :: M) = (v, M) := by
  have := rN_vk v (by omega) M
  unfold vk at this
  rw [if_pos hv] at this
  exact this
theorem no_bytes {s : ByteArray} (h : s.size = 0) : s = ⟨#[]⟩ := by
  have h1 : sN s = [] := List.length_eq_zero_iff.1 (by rw [sN_len]; exact h)
  have h2 := sN_str s
  rw [h1] at h2
  exact h2.symm
theorem rX_cB (x : Pt) (hx : badP x = false) (M : List Int) : rX (cB x ++ M) = (x, M) := by
  obtain ⟨h1, h2, h3, h4⟩ := badP_no hx
  unfold cB
  by_cases hg : x.g = true
  · rw [if_pos hg]
    have e1 : rN (1 :: tB x.k ++ M) = (1, tB x.k ++ M) := rN_one 1 (by omega) _
    unfold rX
    rw [e1]
    show (if (1 : Nat) = 1 then _ else _) = _
    rw [if_pos rfl]
    show ((⟨strOfNums (rT (tB x.k ++ M)).1, ⟨#[]⟩, true⟩ : Pt), (rT (tB x.k ++ M)).2) = _
    rw [rT_tB _ (by omega)]
    show ((⟨strOfNums (sN x.k), ⟨#[]⟩, true⟩ : Pt), M) = _
    rw [sN_str, ← no_bytes (h4 hg), ← hg]
  · rw [if_neg hg]
    have e1 : rN (0 :: (tB x.k ++ tB x.v) ++ M) = (0, tB x.k ++ tB x.v ++ M) := rN_one 0 (by omega) _
    unfold rX
    rw [e1]
    show (if (0 : Nat) = 1 then _ else _) = _
    rw [if_neg (by omega)]
    show ((⟨strOfNums (rT (tB x.k ++ tB x.v ++ M)).1, strOfNums (rT (rT (tB x.k ++ tB x.v ++ M)).2).1, false⟩ : Pt), (rT (rT (tB x.k ++ tB x.v ++ M)).2).2) = _
    rw [List.append_assoc, rT_tB _ (by omega)]
    show ((⟨strOfNums (sN x.k), strOfNums (rT (tB x.v ++ M)).1, false⟩ : Pt), (rT (tB x.v ++ M)).2) = _
    rw [rT_tB _ (by omega)]
    show ((⟨strOfNums (sN x.k), strOfNums (sN x.v), false⟩ : Pt), M) = _
    have hf : x.g = false := by simpa using hg
    rw [sN_str, sN_str, ← hf]
theorem rL_csB : ∀ (l : List Pt) (M : List Int), (∀ x ∈ l, badP x = false) → rL l.length (csB l ++ M) = (l, M)
  | [], M, _ => rfl
  | x :: l, M, h => by
    have ih := rL_csB l M fun y hy => h y (by simp [hy])
    have e : csB (x :: l) ++ M = cB x ++ (csB l ++ M) := by unfold csB; rw [List.flatMap_cons, List.append_assoc]
    rw [e, List.length_cons, rL, rX_cB x (h x (by simp)), ih]
theorem rdB_eB {l : List Pt} (h1 : l.length ≤ 64) (h2 : ∀ x ∈ l, badP x = false) : rdB (eB l) = l := by
  unfold rdB eB
  rw [rN_vk _ (by omega)]
  show (rL (min l.length 64) (csB l)).1 = l
  have := rL_csB l [] h2
  rw [List.append_nil] at this
  rw [Nat.min_eq_left h1, this]
theorem dec_enc {l : List Pt} {B : List Int} (h : encA l = (0, B)) : decA B = some l := by
  obtain ⟨rfl, h1, h2, h3, h4⟩ := encA_ok h
  unfold decA
  rw [rdB_eB h2 h3, if_pos h]
theorem dec_some {B : List Int} {l : List Pt} (h : decA B = some l) : encA l = (0, B) := by
  unfold decA at h
  split at h
  · rename_i e
    cases h
    exact e
  · cases h
end Go.Proofs.YtcindeechmpalaaGreat
namespace Go.Proofs.YtcindeechmpalaaGreat
open Go.ChangeShapes Go.WideShapes Go.ChangeAt Go.RowKit Go.Deep
set_option linter.unusedVariables false
/-- bytes as cells -/
def bk (L : List Int) : Array Value := (L.map (Value.int .u8)).toArray
theorem bk_size (L : List Int) : (bk L).size = L.length := by simp [bk]
theorem bk_one (L : List Int) : ((bk L).all (·.oneCell')) = true := by
  rw [Array.all_eq_true_iff_forall_mem]; intro v hv; simp [bk] at hv; obtain ⟨z, _, rfl⟩ := hv; rfl
theorem bk_inj {A B : List Int} (h : bk A = bk B) : A = B := by
  have := congrArg Array.toList h
  simp only [bk] at this
  exact (List.map_inj_right (fun x y e => by injection e)).1 this
/-- block g is an array of these bytes -/
def Bk (w : World) (g : Nat) (L : List Int) : Prop := w.heap[g]? = some (.cells (bk L) 160)
theorem Bk.holds {w : World} {g : Nat} {L : List Int} (h : Bk w g L) : Holds w (some ⟨g, 0, none⟩) L := by
  refine .inr ⟨g, 0, rfl, fun i hi => ?_⟩
  simp only [World.cell?, show w.heap[g]? = _ from h]
  simp [bk, List.getD_eq_getElem?_getD, hi]
theorem Bk.at {w : World} {g : Nat} {L : List Int} (h : Bk w g L) (i : Nat) (hi : i < L.length) : w.cell? ⟨g, i, none⟩ = some (.int .u8 (L.getD i 0)) := by
  rcases h.holds with rfl | ⟨b, off, hx, hc⟩
  · simp at hi
  · simp only [Option.some.injEq, Addr.mk.injEq, and_true] at hx
    obtain ⟨rfl, rfl⟩ := hx
    have := hc i hi
    rwa [Nat.zero_add] at this
theorem Bk.frozen {w : World} {g : Nat} {L : List Int} (h : Bk w g L) (i : Nat) : w.frozen? ⟨g, i, none⟩ = false := by
  simp [World.frozen?, show w.heap[g]? = _ from h]
theorem Bk.lt {w : World} {g : Nat} {L : List Int} (h : Bk w g L) : g < w.heap.size := (Array.getElem?_eq_some_iff.1 h).1
theorem Bk.keep {w w' : World} {g : Nat} {L : List Int} (h : Bk w g L) (hb : Below w.heap.size w w') : Bk w' g L := (hb.block g h.lt).trans h
theorem Bk.set {w : World} {g : Nat} {L : List Int} (h : Bk w g L) (i : Nat) (x : Int) : Bk (w.setCell ⟨g, i, none⟩ (.int .u8 x)) g (L.set i x) := by
  unfold Bk at h ⊢
  have hlt := (Array.getElem?_eq_some_iff.1 h).1
  have hv := (Array.getElem?_eq_some_iff.1 h).2
  unfold World.setCell
  rw [Array.getElem?_eq_getElem (by simpa using hlt), Array.getElem_modify]
  simp [hv, bk, List.map_set]
theorem sizeB : (Tryz.prog.info? 160).map (·.size) = some 64 := by kernel_rfl
theorem sizeBl (L : List Int) (h : L.length = 64) : (Tryz.prog.info? 160).map (·.size) = some (bk L).size := by rw [bk_size, h]; exact sizeB
theorem grown_setRow (w : World) (g : Nat) (cs : Array Value) : w.grownBy (w.setRow g cs) (some g) := ⟨rfl, rfl, rfl, by simp [World.setRow], fun k hk hn => setRow_other w g k cs (fun e => hn (by rw [e]))⟩
theorem splice_map (L : List Int) (off : Nat) (B : List Int) : (L.map (Value.int .u8)).take off ++ B.map (Value.int .u8) ++ (L.map (Value.int .u8)).drop (off + B.length) = (splice L off B).map (Value.int .u8) := by
  simp [splice, List.map_take, List.map_drop]
/-- copy(x[off:], b), at the operation -/
theorem copyB {w : World} {ops : Array Oper} {rest : List Oper} {o : Oper} {act : Act} {Q : Exit → Act → World → Prop} (hgd : o.guard = none) (d s : Operand)
    (ho : o.op = .call { callee := .builtin .copy, args := #[d, s], argTypes := #[86, 86] })
    (g off dl dc : Nat) (L : List Int) (hd : act.eval d = .slice (some ⟨g, off, none⟩) dl dc) (hg : Bk w g L)
    (x : Addr) (m c : Nat) (B : List Int) (hs : act.eval s = .slice (some x) m c) (hm : B.length = m) (hh : Holds w (some x) B) (hle : m ≤ dl) (hfit : off + m ≤ L.length)
    (h : ∀ w', Bk w' g (splice L off B) → w.grownBy w' (some g) → w'.heap.size = w.heap.size → wpList Tryz.prog ops Q rest (act.put o.dst (.int .i64 (m : Int))) w') :
    wpList Tryz.prog ops Q (o :: rest) act w := by
  subst hm
  refine wpList_plain hgd fun K hK => ?_
  have hsrc : ∀ j v, (B.map (Value.int .u8))[j]? = some v → w.cell? (x.add j) = some v := by
    intro j v hv
    rw [List.getElem?_map] at hv
    cases hj : B[j]? with
    | none => rw [hj] at hv; cases hv
    | some y =>
      rw [hj] at hv
      obtain rfl := Option.some.inj hv
      have hlt := (List.getElem?_eq_some_iff.1 hj).1
      rcases hh with rfl | ⟨b, o2, hx, hc⟩
      · simp at hlt
      · obtain rfl := Option.some.inj hx
        rw [add_plain, hc j hlt, List.getD_eq_getElem?_getD, hj]
        rfl
  have hrun := run_copy_row (P := Tryz.prog) w 86 86 o.type 5 g off dl dc x B.length c (bk L) 160 (B.map (Value.int .u8)) Tryz.underlying86 (by kernel_rfl) hg (by rw [List.length_map]; exact (Nat.min_eq_left hle).symm) hsrc (by rw [List.length_map, bk_size]; exact hfit) (ints_oneCell _ _)
  unfold Oper.wp
  simp [execOp, ho, resolve, invoke, builtin, hd, hs, hrun, Result.andThen]
  refine hK _ _ (h _ ?_ (grown_setRow w g _) (by simp [World.setRow]))
  have e := setRow_heap w g (bk L) ((bk L).toList.take off ++ B.map (Value.int .u8) ++ (bk L).toList.drop (off + (B.map (Value.int .u8)).length)).toArray 160 (0, 0) hg
  unfold Bk
  have e2 := splice_map L off B
  simp only [bk] at e ⊢
  rw [← e2]
  simpa using e
/-- copy(x[:], "VH"), at the operation -/
theorem copyS {w : World} {ops : Array Oper} {rest : List Oper} {o : Oper} {act : Act} {Q : Exit → Act → World → Prop} (hgd : o.guard = none) (d s : Operand)
    (ho : o.op = .call { callee := .builtin .copy, args := #[d, s], argTypes := #[86, 9] })
    (g dl dc : Nat) (L : List Int) (hd : act.eval d = .slice (some ⟨g, 0, none⟩) dl dc) (hg : Bk w g L)
    (hs : act.eval s = .string ⟨#[86, 72]⟩) (hle : 2 ≤ dl) (hfit : 2 ≤ L.length)
    (h : ∀ w', Bk w' g (splice L 0 [86, 72]) → w.grownBy w' (some g) → w'.heap.size = w.heap.size → wpList Tryz.prog ops Q rest (act.put o.dst (.int .i64 2)) w') :
    wpList Tryz.prog ops Q (o :: rest) act w := by
  refine wpList_plain hgd fun K hK => ?_
  have hrun := Lib.run_copy_row_string (P := Tryz.prog) w 86 9 o.type 5 g 0 dl dc ⟨#[86, 72]⟩ (bk L) 160 Tryz.underlying86 (by kernel_rfl) hg hle (by rw [bk_size]; exact hfit)
  unfold Oper.wp
  simp [execOp, ho, resolve, invoke, builtin, hd, hs, hrun, Result.andThen]
  refine hK _ _ (h _ ?_ (grown_setRow w g _) (by simp [World.setRow]))
  have e := setRow_heap w g (bk L) ((bk L).toList.take 0 ++ [Value.int .u8 86, Value.int .u8 72] ++ (bk L).toList.drop 2).toArray 160 (0, 0) hg
  have e2 := splice_map L 0 [86, 72]
  unfold Bk
  simp only [bk] at e ⊢
  rw [← e2]
  have hb : Lib.byteCells [86, 72] = [Value.int .u8 86, Value.int .u8 72] := rfl
  have hz : (ByteArray.mk #[86, 72]).size = 2 := rfl
  simpa [hb, hz] using e
theorem fixA_fixL (v : Int) (k : Nat) : fixA v k k = bk (fixL v k) := by
  apply Array.ext
  · simp [fixA, bk, fixL]
  · intro i h1 h2
    have hi : i < k := by simpa [fixA] using h1
    simp [fixA, bk, fixL, show k - 1 - i < k by omega]
def hz64 : Array Value := #[.int .u8 0, .int .u8 0, .int .u8 0, .int .u8 0, .int .u8 0, .int .u8 0, .int .u8 0, .int .u8 0, .int .u8 0, .int .u8 0, .int .u8 0, .int .u8 0, .int .u8 0, .int .u8 0, .int .u8 0, .int .u8 0, .int .u8 0, .int .u8 0, .int .u8 0, .int .u8 0, .int .u8 0, .int .u8 0, .int .u8 0, .int .u8 0, .int .u8 0, .int .u8 0, .int .u8 0, .int .u8 0, .int .u8 0, .int .u8 0, .int .u8 0, .int .u8 0, .int .u8 0, .int .u8 0, .int .u8 0, .int .u8 0, .int .u8 0, .int .u8 0, .int .u8 0, .int .u8 0, .int .u8 0, .int .u8 0, .int .u8 0, .int .u8 0, .int .u8 0, .int .u8 0, .int .u8 0, .int .u8 0, .int .u8 0, .int .u8 0, .int .u8 0, .int .u8 0, .int .u8 0, .int .u8 0, .int .u8 0, .int .u8 0, .int .u8 0, .int .u8 0, .int .u8 0, .int .u8 0, .int .u8 0, .int .u8 0, .int .u8 0, .int .u8 0]
theorem hz64_is : hz64 = bk (List.replicate 64 0) := rfl
/-- the world in which bytes begins: the head, what is told, the block -/
def hdW (w : World) (no ar ln : Nat) : World := ((w.alloc (.cells #[.int .u64 (no : Int), .int .i64 (ar : Int), .int .i64 (ln : Int)] 125)).alloc (.cells hz64 160)).alloc (.cells hz64 160)
structure HdW (w : World) (no ar ln : Nat) (L : List Int) (w' : World) : Prop where
  bel : Below w.heap.size w w'
  sz : w.heap.size + 3 ≤ w'.heap.size
  par : w'.heap[w.heap.size]? = some (.cells #[.int .u64 (no : Int), .int .i64 (ar : Int), .int .i64 (ln : Int)] 125)
  res : w'.heap[w.heap.size + 1]? = some (.cells hz64 160)
  blk : Bk w' (w.heap.size + 2) L
theorem hdW_is (w : World) (no ar ln : Nat) : HdW w no ar ln (List.replicate 64 0) (hdW w no ar ln) := by
  refine ⟨(((Below.refl _ _).alloc (Nat.le_refl _) _).alloc (by simp) _).alloc (by simp; omega) _, by simp [hdW], ?_, ?_, ?_⟩
  · unfold hdW
    rw [Below.heap_alloc _ _ _ (by simp; omega)]
    exact heap_alloc2_old _ _ _
  · unfold hdW
    rw [Below.heap_alloc _ _ _ (by simp)]
    exact heap_alloc2_new _ _ _
  · unfold hdW Bk
    have := heap_alloc_new ((w.alloc (.cells #[.int .u64 (no : Int), .int .i64 (ar : Int), .int .i64 (ln : Int)] 125)).alloc (.cells hz64 160)) (.cells hz64 160)
    rw [World.size_alloc, World.size_alloc] at this
    rw [← hz64_is]
    exact this
theorem HdW.put {w : World} {no ar ln : Nat} {L L' : List Int} {w' w2 : World} (h : HdW w no ar ln L w') (hg : w'.grownBy w2 (some (w.heap.size + 2))) (hb : Bk w2 (w.heap.size + 2) L') : HdW w no ar ln L' w2 := by
  have hz := h.sz
  refine ⟨h.bel.grown hg h.bel.size (fun k e => by cases e; omega), Nat.le_trans h.sz hg.size, ?_, ?_, hb⟩
  · exact (hg.block _ (by omega) (fun e => by simp at e)).trans h.par
  · exact (hg.block _ (by omega) (fun e => by simp at e)).trans h.res
theorem HdW.keep {w : World} {no ar ln : Nat} {L : List Int} {w' w2 : World} (h : HdW w no ar ln L w') (hb : Below w'.heap.size w' w2) : HdW w no ar ln L w2 := by
  have hz := h.sz
  exact ⟨h.bel.trans (hb.mono h.bel.size), Nat.le_trans h.sz hb.size, (hb.block _ (by omega)).trans h.par, (hb.block _ (by omega)).trans h.res, h.blk.keep hb⟩
theorem HdW.cells {w : World} {no ar ln : Nat} {L : List Int} {w' : World} (h : HdW w no ar ln L w') : w'.cell? ⟨w.heap.size, 0, none⟩ = some (.int .u64 (no : Int)) ∧ w'.cell? ⟨w.heap.size, 1, none⟩ = some (.int .i64 (ar : Int)) ∧ w'.cell? ⟨w.heap.size, 2, none⟩ = some (.int .i64 (ln : Int)) := by
  refine ⟨?_, ?_, ?_⟩ <;> simp [World.cell?, h.par]
theorem grown_setCell (w : World) (g i : Nat) (v : Value) : w.grownBy (w.setCell ⟨g, i, none⟩ v) (some g) := ⟨rfl, rfl, rfl, by simp [World.setCell], fun k hk hn => Below.heap_setCell _ _ _ _ (fun e => hn (by rw [e]))⟩
theorem gB_alloc (w : World) (o : Obj) : Below w.heap.size w (w.alloc o) := (Below.refl _ _).alloc (Nat.le_refl _) _
set_option maxRecDepth 100000 in
set_option maxHeartbeats 4000000 in
theorem bytes_is (no ar ln : Nat) (hno : no < 18446744073709551616) (har : ar ≤ 1) (hln : ln < 4294967296) (w : World) :
    Calls Tryz.prog 127 #[.agg #[.int .u64 (no : Int), .int .i64 (ar : Int), .int .i64 (ln : Int)]] w fun e w' => e = .returned (.agg (bk (hdB no ar ln))) ∧ Below w.heap.size w w' := by
  have H0 : Hid (HdW w no ar ln (List.replicate 64 0) (hdW w no ar ln)) := hdW_is w no ar ln
  have ea : (ar : Int) % 256 = ar := by omega
  have el : (ln : Int) % 18446744073709551616 = ln := by omega
  go_enter Tryz.func127, Tryz.ntmps127
  go_wp2_with (refine copyS rfl (.tmp 10) (.const (.string ⟨#[86, 72]⟩)) rfl (w.heap.size + 2) 64 64 (List.replicate 64 0) rfl H0.out.blk rfl (by decide) (by decide) ?_; intro w1 hk1 hg1 hs1; have H1 : Hid (HdW w no ar ln hdL1 w1) := (HdW.put H0.out hg1 hk1); obtain ⟨c0, c1, c2⟩ := H1.out.cells; have d2 := H1.out.blk.at 2 (by decide); have f2 := H1.out.blk.frozen 2; clear hk1 hg1 hs1)
  have H2 : Hid (HdW w no ar ln (hdL2 ar) (w1.setCell ⟨w.heap.size + 2, 2, none⟩ (.int .u8 (ar : Int)))) := H1.out.put (grown_setCell _ _ _ _) (H1.out.blk.set 2 _)
  clear H1 c0 c1 c2 d2 f2
  generalize (w1.setCell ⟨w.heap.size + 1 + 1, 2, none⟩ (.int .u8 (ar : Int))) = w2 at *
  refine (fixed_ok (no : Int) 8 (by decide) (by decide) (by omega) (by omega) w2).mono ?_
  rintro e w3 ⟨rfl, hw3⟩
  have H3 : Hid (HdW w no ar ln (hdL2 ar) w3) := by rw [hw3]; exact H2.out.keep (gB_alloc _ _)
  have N3 : Hid (Holds w3 (some ⟨w2.heap.size, 0, none⟩) (fixL (no : Int) 8)) := by rw [hw3, fixA_fixL]; exact holds_laid _ _ _
  clear H2 hw3
  obtain ⟨c0, c1, c2⟩ := H3.out.cells
  go_wp2_with (refine copyB rfl (.tmp 22) (.tmp 23) rfl (w.heap.size + 2) 4 60 60 (hdL2 ar) rfl H3.out.blk _ 8 8 (fixL (no : Int) 8) rfl (fixL_length _ _) N3.out (by decide) (by rw [hdL2_len]; omega) ?_; intro w4 hk4 hg4 hs4; have H4 : Hid (HdW w no ar ln (hdL3 no ar) w4) := (HdW.put H3.out hg4 hk4); obtain ⟨d0, d1, d2⟩ := H4.out.cells; clear hk4 hg4 hs4)
  refine (fixed_ok (ln : Int) 4 (by decide) (by decide) (by omega) (by omega) w4).mono ?_
  rintro e w5 ⟨rfl, hw5⟩
  have H5 : Hid (HdW w no ar ln (hdL3 no ar) w5) := by rw [hw5]; exact H4.out.keep (gB_alloc _ _)
  have N5 : Hid (Holds w5 (some ⟨w4.heap.size, 0, none⟩) (fixL (ln : Int) 4)) := by rw [hw5, fixA_fixL]; exact holds_laid _ _ _
  clear H4 H3 N3 hw5 c0 c1 c2 d0 d1 d2
  go_wp2_with (refine copyB rfl (.tmp 32) (.tmp 33) rfl (w.heap.size + 2) 12 52 52 (hdL3 no ar) rfl H5.out.blk _ 4 4 (fixL (ln : Int) 4) rfl (fixL_length _ _) N5.out (by decide) (by rw [hdL3_len]; omega) ?_; intro w6 hk6 hg6 hs6; have H6 : Hid (HdW w no ar ln (hdL4 no ar ln) w6) := (HdW.put H5.out hg6 hk6); clear hk6 hg6 hs6)
  have h60 : Holds w6 (some ⟨w.heap.size + 2, 0, none⟩) (hd60 no ar ln) := by rw [← hdL4_take]; exact H6.out.blk.holds.take 60
  refine (sum_is (hd60 no ar ln) 60 _ 64 (hd60_len _ _ _) (by omega) (hd60_bytes no ar ln (by omega)) w6 h60).mono ?_
  rintro e w' ⟨rfl, hw⟩; obtain rfl := hw.symm; clear hw h60
  have hS : cmore 0 (hd60 no ar ln) < 4294967296 := cmore_lt _ _
  have EF : Hid (hdB no ar ln = splice (hdL4 no ar ln) 60 (le4 (cmore 0 (hd60 no ar ln) : Nat))) := (hdL5_is no ar ln).symm
  generalize cmore 0 (hd60 no ar ln) = T at *
  have eT : ((T : Nat) : Int) % 18446744073709551616 = T := by omega
  go_wp2_with fail
  refine (fixed4 T hS w6).mono ?_
  rintro e w7 ⟨rfl, hw7⟩
  have K7 : Hid (Calls Tryz.prog 160 #[.slice (some ⟨w6.heap.size, 0, none⟩) 4 4] w7 fun e w' => e = .returned (.tuple #[]) ∧ Owned w' w6.heap.size (.slice (some ⟨w6.heap.size, 0, none⟩) 4 4) (le4 T) ∧ Below w6.heap.size w6 w' ∧ w'.heap.size = w6.heap.size + 1) := by rw [hw7]; exact reverse_fix4 T w6
  clear hw7
  go_wp2_with fail
  refine K7.out.mono ?_
  rintro e w8 ⟨rfl, ho8, hb8, hs8⟩
  have H8 : Hid (HdW w no ar ln (hdL4 no ar ln) w8) := H6.out.keep hb8
  have N8 : Hid (Holds w8 (some ⟨w6.heap.size, 0, none⟩) (le4 T)) := ho8.holds.1
  clear H6 H5 N5 ho8 hb8 hs8 K7
  go_wp2_with (first | (refine copyB rfl (.tmp 44) (.tmp 45) rfl (w.heap.size + 2) 60 4 4 (hdL4 no ar ln) rfl H8.out.blk _ 4 4 (le4 T) rfl rfl N8.out (by decide) (by rw [hdL4_len]; omega) ?_; intro w9 hk9 hg9 hs9; have H9 : Hid (HdW w no ar ln (splice (hdL4 no ar ln) 60 (le4 T)) w9) := (HdW.put H8.out hg9 hk9); have hl9 : Hid ((splice (hdL4 no ar ln) 60 (le4 T)).length = 64) := (by show _ = _; rw [length_splice _ _ _ (by rw [hdL4_len, le4_length]; omega), hdL4_len]); generalize splice (hdL4 no ar ln) 60 (le4 T) = X at *; clear hk9 hg9 hs9) | (refine wpList_load_row rfl 160 (.tmp 3) rfl (w.heap.size + 2) rfl 160 (bk X) (0, 0) _ H9.out.blk Tryz.underlying160 rfl (sizeBl _ hl9.out) ?_) | (refine wpList_store_row rfl 160 (.tmp 2) (.tmp 47) rfl (w.heap.size + 1) (bk X) rfl rfl 160 hz64 H9.out.res (sizeBl _ hl9.out) (by rw [bk_size, hl9.out]; rfl) (bk_one _) ?_))
  refine bodyPost_ret (results_cell_row rfl _ _ (w.heap.size + 1) 160 (bk X) (0, 0) _ rfl (setRow_heap _ _ _ _ _ _ H9.out.res) Tryz.underlying160 rfl (sizeBl _ hl9.out)) rfl ⟨by rw [EF.out], ?_⟩
  exact below_setRow H9.out.bel (by omega) _
end Go.Proofs.YtcindeechmpalaaGreat
namespace Go.Proofs.YtcindeechmpalaaGreat
open Go.ChangeShapes Go.WideShapes Go.ChangeAt Go.RowKit Go.Deep
set_option linter.unusedVariables false
/-- the block of a log -/
def lgO (bd m no ar ln : Nat) (vr vw vf : Value) (lost : Bool) : Obj := .cells #[.pointer (some ⟨bd, 0, none⟩), .int .i64 (m : Int), .int .u64 (no : Int), .int .i64 (ar : Int), .int .i64 (ln : Int), vr, vw, vf, .bool lost] 127
def LgC (w : World) (bl bd m no ar ln : Nat) (vr vw vf : Value) (lost : Bool) : Prop := w.heap[bl]? = some (lgO bd m no ar ln vr vw vf lost)
structure Lg9 (w : World) (bl bd m no ar ln : Nat) (vr vw vf : Value) (lost : Bool) : Prop where
  c0 : w.cell? ⟨bl, 0, none⟩ = some (.pointer (some ⟨bd, 0, none⟩))
  c1 : w.cell? ⟨bl, 1, none⟩ = some (.int .i64 (m : Int))
  c2 : w.cell? ⟨bl, 2, none⟩ = some (.int .u64 (no : Int))
  c3 : w.cell? ⟨bl, 3, none⟩ = some (.int .i64 (ar : Int))
  c4 : w.cell? ⟨bl, 4, none⟩ = some (.int .i64 (ln : Int))
  c5 : w.cell? ⟨bl, 5, none⟩ = some vr
  c6 : w.cell? ⟨bl, 6, none⟩ = some vw
  c7 : w.cell? ⟨bl, 7, none⟩ = some vf
  c8 : w.cell? ⟨bl, 8, none⟩ = some (.bool lost)
  f : ∀ i, w.frozen? ⟨bl, i, none⟩ = false
theorem LgC.cells {w : World} {bl bd m no ar ln : Nat} {vr vw vf : Value} {lost : Bool} (h : LgC w bl bd m no ar ln vr vw vf lost) : Lg9 w bl bd m no ar ln vr vw vf lost := by
  unfold LgC lgO at h
  refine ⟨?_, ?_, ?_, ?_, ?_, ?_, ?_, ?_, ?_, fun i => ?_⟩
  all_goals first | (simp [World.cell?, h]; done) | simp [World.frozen?, h]
theorem LgC.lt {w : World} {bl bd m no ar ln : Nat} {vr vw vf : Value} {lost : Bool} (h : LgC w bl bd m no ar ln vr vw vf lost) : bl < w.heap.size := (Array.getElem?_eq_some_iff.1 h).1
theorem wsize_is (w : World) (bl m : Nat) (hm : m ≤ 4096) (c1 : w.cell? ⟨bl, 1, none⟩ = some (.int .i64 (m : Int))) : Calls Tryz.prog 88 #[.pointer (some ⟨bl, 0, none⟩)] w fun e w' => e = .returned (.int .i64 ((64 * m : Nat) : Int)) ∧ w' = w := by
  go_enter Tryz.func88, Tryz.ntmps88
  go_wp2
  go_ret
  exact ⟨by show Ending.returned (.int .i64 _) = _; congr 2; omega, rfl⟩
theorem wstart_is (w : World) (bl m : Nat) (hm : m ≤ 4096) (c1 : w.cell? ⟨bl, 1, none⟩ = some (.int .i64 (m : Int))) (ar : Nat) (ha : ar ≤ 1) : Calls Tryz.prog 116 #[.pointer (some ⟨bl, 0, none⟩), .int .i64 (ar : Int)] w fun e w' => e = .returned (.int .i64 ((2 + ar * m : Nat) : Int)) ∧ w' = w := by
  rcases (by omega : ar = 0 ∨ ar = 1) with rfl | rfl
  · go_enter Tryz.func116, Tryz.ntmps116
    go_wp2
    go_ret
    exact ⟨by show Ending.returned (.int .i64 _) = _; congr 2; omega, rfl⟩
  · go_enter Tryz.func116, Tryz.ntmps116
    go_wp2
    go_ret
    exact ⟨by show Ending.returned (.int .i64 _) = _; congr 2; omega, rfl⟩
theorem placeOf_is (w : World) (no : Nat) (hno : no < 18446744073709551616) : Calls Tryz.prog 129 #[.int .u64 (no : Int)] w fun e w' => e = .returned (.int .i64 ((no % 2 : Nat) : Int)) ∧ w' = w := by
  go_enter Tryz.func129, Tryz.ntmps129
  go_wp2
  go_ret
  exact ⟨rfl, rfl⟩
theorem isNone_no (w : World) (bl bd : Nat) (c0 : w.cell? ⟨bl, 0, none⟩ = some (.pointer (some ⟨bd, 0, none⟩))) : Calls Tryz.prog 72 #[.pointer (some ⟨bl, 0, none⟩)] w fun e w' => e = .returned (.bool false) ∧ w' = w := by
  go_enter Tryz.func72, Tryz.ntmps72
  go_wp2
  go_ret
  exact ⟨rfl, rfl⟩
theorem isNone_nil (w : World) : Calls Tryz.prog 72 #[.pointer none] w fun e w' => e = .returned (.bool true) ∧ w' = w := by
  go_enter Tryz.func72, Tryz.ntmps72
  go_wp2
  go_ret
  exact ⟨rfl, rfl⟩
theorem isNone_plain (w : World) (bl : Nat) (c0 : w.cell? ⟨bl, 0, none⟩ = some (.pointer none)) : Calls Tryz.prog 72 #[.pointer (some ⟨bl, 0, none⟩)] w fun e w' => e = .returned (.bool true) ∧ w' = w := by
  go_enter Tryz.func72, Tryz.ntmps72
  go_wp2
  go_ret
  exact ⟨rfl, rfl⟩
theorem wready_none (w : World) (p : Option Addr) (K : Hid (Calls Tryz.prog 72 #[.pointer p] w fun e w' => e = .returned (.bool true) ∧ w' = w)) : Calls Tryz.prog 86 #[.pointer p] w fun e w' => e = .returned (.int .i64 1) ∧ w' = w := by
  go_enter Tryz.func86, Tryz.ntmps86
  go_wp2_with fail
  refine K.out.mono ?_
  rintro e w1 ⟨rfl, rfl⟩
  go_wp2
  go_ret
  exact ⟨rfl, rfl⟩
theorem wready_is (w : World) (bl bd : Nat) (lost : Bool) (c0 : w.cell? ⟨bl, 0, none⟩ = some (.pointer (some ⟨bd, 0, none⟩))) (c8 : w.cell? ⟨bl, 8, none⟩ = some (.bool lost)) : Calls Tryz.prog 86 #[.pointer (some ⟨bl, 0, none⟩)] w fun e w' => e = .returned (.int .i64 (if lost then 15 else 0)) ∧ w' = w := by
  have K : Hid (Calls Tryz.prog 72 #[.pointer (some ⟨bl, 0, none⟩)] w fun e w' => e = .returned (.bool false) ∧ w' = w) := isNone_no w bl bd c0
  cases lost
  all_goals
    go_enter Tryz.func86, Tryz.ntmps86
    go_wp2_with fail
    refine K.out.mono ?_
    rintro e w1 ⟨rfl, rfl⟩
    go_wp2
    go_ret
    exact ⟨rfl, rfl⟩
end Go.Proofs.YtcindeechmpalaaGreat
namespace Go.Proofs.YtcindeechmpalaaGreat
open Go.ChangeShapes Go.WideShapes Go.ChangeAt Go.RowKit Go.Deep
set_option linter.unusedVariables false
/-- the head that a block has: number, area, length -/
def hN (b : List Int) : Nat := (val ((b.drop 4).take 8)).toNat
def hL (b : List Int) : Nat := (val ((b.drop 12).take 4)).toNat
def hA (b : List Int) : Nat := (b.getD 2 0).toNat
def hdOk (m place : Nat) (b : List Int) : Bool := decide (1 ≤ hN b ∧ hN b ≤ 1152921504606846976 ∧ hN b % 2 = place ∧ hA b ≤ 1 ∧ hL b ≤ 64 * m ∧ hdB (hN b) (hA b) (hL b) = b)
theorem hN_is (b : List Int) (hl : b.length = 64) (hb : IsBytes b) : val ((b.drop 4).take 8) = (hN b : Int) ∧ hN b < 18446744073709551616 := by
  have h1 : (b.drop 4).length = 60 := by simp [hl]
  have h2 := val_bd (b.drop 4) (bytes_of_mem fun x hx => bytes_mem hb x (List.mem_of_mem_drop hx)) 8 (by omega)
  unfold hN
  omega
theorem hL_is (b : List Int) (hl : b.length = 64) (hb : IsBytes b) : val ((b.drop 12).take 4) = (hL b : Int) ∧ hL b < 4294967296 := by
  have h1 : (b.drop 12).length = 52 := by simp [hl]
  have h2 := val_bd (b.drop 12) (bytes_of_mem fun x hx => bytes_mem hb x (List.mem_of_mem_drop hx)) 4 (by omega)
  unfold hL
  omega
theorem hA_is (b : List Int) (hl : b.length = 64) (hb : IsBytes b) : b.getD 2 0 = (hA b : Int) ∧ hA b ≤ 255 := by
  have := hb 2 (by omega)
  unfold hA
  omega
theorem all_range_ints : ∀ (xs ys : List Int), xs.length = ys.length → ((List.range xs.length).all fun i => decide (xs.getD i 0 = ys.getD i 0)) = decide (xs = ys)
  | [], [], _ => rfl
  | x :: xs, y :: ys, h => by
    have ih := all_range_ints xs ys (by simpa using h)
    rw [List.length_cons, List.range_succ_eq_map, List.all_cons, List.all_map]
    simp only [List.getD_cons_zero, Function.comp_def, List.getD_cons_succ, ih]
    by_cases h1 : x = y <;> by_cases h2 : xs = ys <;> simp [h1, h2]
  | [], _ :: _, h => by simp at h
  | _ :: _, [], h => by simp at h
theorem size8_run (w : World) : (sizeOf 5).run Tryz.prog w = .ok 1 w := by
  obtain ⟨i, hi8, _, h1, _⟩ := info8p
  simp [sizeOf, typeInfo, hi8, h1]
theorem equal_block (d : Nat) (A B : List Int) (hA : A.length = 64) (hB : B.length = 64) (w : World) :
    (Op.equalIn (d + 2) 160 (.agg (bk A)) (.agg (bk B))).run Tryz.prog w = .ok (decide (A = B)) w := by
  rw [← all_range_ints A B (hA.trans hB.symm), hA, List.range_eq_range', Op.equalIn]
  simp only [Sem.run_bind, run_underlying Tryz.underlying160, Result.andThen_ok, size8_run, Std.Legacy.Range.forIn_eq_forIn_range', Std.Legacy.Range.size, Nat.sub_zero, Nat.add_sub_cancel, Nat.div_one]
  have hl : ∀ i ∈ List.range' 0 64 1, i < 64 := fun i hi => by simpa using (List.mem_range'_1.1 hi).2
  generalize List.range' 0 64 1 = l at hl ⊢
  induction l with
  | nil => simp
  | cons i l ih =>
    have hi : i < 64 := hl i (by simp)
    have px : (part 5 (bk A) (i * 1)).run Tryz.prog w = .ok (.int .u8 (A.getD i 0)) w := by
      simp [part, isAgg, run_underlying Tryz.underlying5, bk, List.getD, List.getElem?_eq_getElem (show i < A.length by omega)]
    have py : (part 5 (bk B) (i * 1)).run Tryz.prog w = .ok (.int .u8 (B.getD i 0)) w := by
      simp [part, isAgg, run_underlying Tryz.underlying5, bk, List.getD, List.getElem?_eq_getElem (show i < B.length by omega)]
    have pe : (Op.equalIn (d + 1) 5 (.int .u8 (A.getD i 0)) (.int .u8 (B.getD i 0))).run Tryz.prog w = .ok (decide (A.getD i 0 = B.getD i 0)) w := by
      rw [run_equalIn_int w d 5 .u8 .u8 _ _ Tryz.underlying5]
      congr 1
    simp only [List.forIn_cons, Sem.run_bind, px, py, pe, Result.andThen_ok, List.all_cons]
    cases hb : decide (A.getD i 0 = B.getD i 0)
    · simp
    · simp only [Bool.not_true, Bool.false_eq_true, if_false, Sem.run_pure, Result.andThen_ok, Bool.true_and]
      exact ih fun j hj => hl j (by simp [hj])
theorem eq_block (A B : List Int) (hA : A.length = 64) (hB : B.length = 64) (w : World) :
    (Op.equalIn 10000 160 (.agg (bk A)) (.agg (bk B))).run Tryz.prog w = .ok (decide (A = B)) w := equal_block 9998 A B hA hB w
theorem guard_block : Tryz.prog.eqGuardType Tryz.prog.depth 160 = false := by kernel_rfl
/-- the world in which headOf begins -/
def hoW (w : World) (b : List Int) : World := (w.alloc (.cells (bk b) 160)).alloc (.cells #[.int .u64 0, .int .i64 0, .int .i64 0] 125)
structure HoW (w : World) (b : List Int) (w' : World) : Prop where
  bel : Below w.heap.size w w'
  sz : w'.heap.size = w.heap.size + 2
  blk : Bk w' w.heap.size b
  res : w'.heap[w.heap.size + 1]? = some (.cells #[.int .u64 0, .int .i64 0, .int .i64 0] 125)
theorem hoW_is (w : World) (b : List Int) : HoW w b (hoW w b) := by
  refine ⟨((Below.refl _ _).alloc (Nat.le_refl _) _).alloc (by simp) _, by simp [hoW], ?_, heap_alloc2_new _ _ _⟩
  exact heap_alloc2_old _ _ _
/-- what headOf tells -/
def HdSaid (m place : Nat) (b : List Int) (w : World) (e : Ending) (w' : World) : Prop :=
  ∃ no ar ln : Nat, e = .returned (.tuple #[.agg #[.int .u64 (no : Int), .int .i64 (ar : Int), .int .i64 (ln : Int)], .bool (hdOk m place b)]) ∧ (hdOk m place b = true → no = hN b ∧ ar = hA b ∧ ln = hL b) ∧ Below w.heap.size w w'
theorem said_no {m place : Nat} {b : List Int} {w w' : World} (h : hdOk m place b = false) (hb : Below w.heap.size w w') : HdSaid m place b w (.returned (.tuple #[.agg #[.int .u64 0, .int .i64 0, .int .i64 0], .bool false])) w' := by
  refine ⟨0, 0, 0, by rw [h]; rfl, fun e => ?_, hb⟩
  rw [h] at e
  cases e
theorem size3H : (Tryz.prog.info? 125).map (·.size) = some 3 := by kernel_rfl
theorem hd_one (a b c : Int) : (#[Value.int .u64 a, .int .i64 b, .int .i64 c]).all (·.oneCell') = true := by simp [Value.oneCell']
theorem results_hd {fn : Func} {p q : Tmp} (h : fn.results = #[.cell p 125, .tmp q]) (tmps : Array Value) (w : World) (g : Nat) (D : Array Value) (hD : D.size = 3)
    (hp : tmps.getD p undef = .pointer (some ⟨g, 0, none⟩)) (v : Value) (hq : tmps.getD q undef = v) (hg : w.heap[g]? = some (.cells D 125)) :
    (results fn tmps).run Tryz.prog w = .ok (.tuple #[.agg D, v]) w := by
  have hp' : tmps[p]?.getD undef = .pointer (some ⟨g, 0, none⟩) := by simpa using hp
  have hq' : tmps[q]?.getD undef = v := by simpa using hq
  simp [results, h, hp', hq', asAddr, run_loadVar_row w g 125 125 D (0, 0) _ hg Tryz.underlying125 rfl (by rw [hD]; exact size3H)]
set_option maxRecDepth 100000 in
set_option maxHeartbeats 4000000 in
theorem headOf_no (w : World) (bl m : Nat) (hm : m ≤ 4096) (c1 : w.cell? ⟨bl, 1, none⟩ = some (.int .i64 (m : Int))) (b : List Int) (hl : b.length = 64) (hb : IsBytes b) (place : Nat) (hp : place ≤ 1)
    (hno : ¬ (1 ≤ hN b ∧ hN b ≤ 1152921504606846976 ∧ hN b % 2 = place ∧ hA b ≤ 1 ∧ hL b ≤ 64 * m)) :
    Calls Tryz.prog 131 #[.pointer (some ⟨bl, 0, none⟩), .agg (bk b), .int .i64 (place : Int)] w (HdSaid m place b w) := by
  have hok : hdOk m place b = false := by
    unfold hdOk
    rw [decide_eq_false_iff_not]
    rintro ⟨a1, a2, a3, a4, a5, _⟩
    exact hno ⟨a1, a2, a3, a4, a5⟩
  obtain ⟨n1, n2⟩ := hN_is b hl hb
  obtain ⟨l1, l2⟩ := hL_is b hl hb
  obtain ⟨q1, q2⟩ := hA_is b hl hb
  have hbl := World.block_lt_of_cell? _ _ c1
  have K0 : Hid (HoW w b (hoW w b)) := hoW_is w b
  have c1' : (hoW w b).cell? ⟨bl, 1, none⟩ = some (.int .i64 (m : Int)) := (K0.out.bel.cell hbl).trans c1
  have KS : Hid (Calls Tryz.prog 88 #[.pointer (some ⟨bl, 0, none⟩)] (hoW w b) fun e w' => e = .returned (.int .i64 ((64 * m : Nat) : Int)) ∧ w' = hoW w b) := wsize_is _ bl m hm c1'
  have KP : Hid (Calls Tryz.prog 129 #[.int .u64 (hN b : Int)] (hoW w b) fun e w' => e = .returned (.int .i64 ((hN b % 2 : Nat) : Int)) ∧ w' = hoW w b) := placeOf_is _ _ n2
  have R1 : Hid (Calls Tryz.prog 162 #[.slice (some ⟨w.heap.size, 4, none⟩) 60 60, .int .i64 8] (hoW w b) fun e w' => e = .returned (.tuple #[.int .u64 (hN b : Int), .int .i64 0]) ∧ w' = hoW w b) := by
    have := readFixed_ok (b.drop 4) 60 8 (some ⟨w.heap.size, 4, none⟩) 60 (by simp [hl]) (by omega) (bytes_of_mem fun x hx => bytes_mem hb x (List.mem_of_mem_drop hx)) (hoW w b) (by have := K0.out.blk.holds.drop 4; simpa [add_plain] using this) (by omega) (by omega) (by omega)
    rwa [n1] at this
  have R2 : Hid (Calls Tryz.prog 162 #[.slice (some ⟨w.heap.size, 12, none⟩) 52 52, .int .i64 4] (hoW w b) fun e w' => e = .returned (.tuple #[.int .u64 (hL b : Int), .int .i64 0]) ∧ w' = hoW w b) := by
    have := readFixed_ok (b.drop 12) 52 4 (some ⟨w.heap.size, 12, none⟩) 52 (by simp [hl]) (by omega) (bytes_of_mem fun x hx => bytes_mem hb x (List.mem_of_mem_drop hx)) (hoW w b) (by have := K0.out.blk.holds.drop 12; simpa [add_plain] using this) (by omega) (by omega) (by omega)
    rwa [l1] at this
  have d2 := K0.out.blk.at 2 (by omega)
  rw [q1] at d2
  have HOK : Hid (hdOk m place b = false) := hok
  clear n1 l1 q1 hb hok
  go_enter Tryz.func131, Tryz.ntmps131
  go_wp2_with fail
  refine R1.out.mono ?_
  rintro e w1 ⟨rfl, rfl⟩
  go_wp2_with fail
  refine R2.out.mono ?_
  rintro e w1 ⟨rfl, rfl⟩
  clear R1 R2
  have HB : Hid (∃ x y z, hN b = x ∧ hA b = y ∧ hL b = z) := ⟨_, _, _, rfl, rfl, rfl⟩
  generalize hN b = no at *
  generalize hA b = ar at *
  generalize hL b = ln at *
  generalize hoW w b = W at *
  generalize hq : no % 2 = q at *
  have HQ : Hid (no % 2 = q) := hq
  clear hq
  by_cases t1 : no < 1
  · have e1 : (no : Int) < 1 := by omega
    go_wp2_with (refine wpList_store_row rfl 125 (.tmp 6) (.tmp 47) rfl (w.heap.size + 1) #[.int .u64 0, .int .i64 0, .int .i64 0] rfl rfl 125 _ K0.out.res size3H rfl (hd_one _ _ _) ?_)
    refine bodyPost_ret (results_hd rfl _ _ (w.heap.size + 1) _ rfl rfl _ rfl (setRow_heap _ _ _ _ _ _ K0.out.res)) rfl ?_; exact said_no HOK.out (below_setRow K0.out.bel (Nat.le_succ _) _)
  have e1 : ¬ (no : Int) < 1 := by omega
  by_cases t2 : 1152921504606846976 < no
  · have e2 : (1152921504606846976 : Int) < no := by omega
    go_wp2_with (refine wpList_store_row rfl 125 (.tmp 6) (.tmp 47) rfl (w.heap.size + 1) #[.int .u64 0, .int .i64 0, .int .i64 0] rfl rfl 125 _ K0.out.res size3H rfl (hd_one _ _ _) ?_)
    refine bodyPost_ret (results_hd rfl _ _ (w.heap.size + 1) _ rfl rfl _ rfl (setRow_heap _ _ _ _ _ _ K0.out.res)) rfl ?_; exact said_no HOK.out (below_setRow K0.out.bel (Nat.le_succ _) _)
  have e2 : ¬ (1152921504606846976 : Int) < no := by omega
  by_cases t3 : q = place
  · subst t3
    by_cases t4 : 1 < ar
    · have e4 : (1 : Int) < ar := by omega
      go_wp2_with (first | (refine wpList_store_row rfl 125 (.tmp 6) (.tmp 47) rfl (w.heap.size + 1) #[.int .u64 0, .int .i64 0, .int .i64 0] rfl rfl 125 _ K0.out.res size3H rfl (hd_one _ _ _) ?_) | (go_at_call 129; refine KP.out.mono ?_; rintro e w' ⟨rfl, hw⟩; obtain rfl := hw.symm; clear hw))
      refine bodyPost_ret (results_hd rfl _ _ (w.heap.size + 1) _ rfl rfl _ rfl (setRow_heap _ _ _ _ _ _ K0.out.res)) rfl ?_; exact said_no HOK.out (below_setRow K0.out.bel (Nat.le_succ _) _)
    · have e4 : ¬ (1 : Int) < ar := by omega
      have t5 : 64 * m < ln := by omega
      have e5 : (64 * (m : Int)) < ln := by omega
      have e6 : (64 * (m : Int)) % 18446744073709551616 = 64 * (m : Int) := by omega
      go_wp2_with (first | (refine wpList_store_row rfl 125 (.tmp 6) (.tmp 47) rfl (w.heap.size + 1) #[.int .u64 0, .int .i64 0, .int .i64 0] rfl rfl 125 _ K0.out.res size3H rfl (hd_one _ _ _) ?_) | (go_at_call 129; refine KP.out.mono ?_; rintro e w' ⟨rfl, hw⟩; obtain rfl := hw.symm; clear hw) | (go_at_call 88; refine KS.out.mono ?_; rintro e w' ⟨rfl, hw⟩; obtain rfl := hw.symm; clear hw))
      refine bodyPost_ret (results_hd rfl _ _ (w.heap.size + 1) _ rfl rfl _ rfl (setRow_heap _ _ _ _ _ _ K0.out.res)) rfl ?_; exact said_no HOK.out (below_setRow K0.out.bel (Nat.le_succ _) _)
  · have e3 : ¬ (q : Int) = (place : Int) := by omega
    go_wp2_with (first | (refine wpList_store_row rfl 125 (.tmp 6) (.tmp 47) rfl (w.heap.size + 1) #[.int .u64 0, .int .i64 0, .int .i64 0] rfl rfl 125 _ K0.out.res size3H rfl (hd_one _ _ _) ?_) | (go_at_call 129; refine KP.out.mono ?_; rintro e w' ⟨rfl, hw⟩; obtain rfl := hw.symm; clear hw))
    refine bodyPost_ret (results_hd rfl _ _ (w.heap.size + 1) _ rfl rfl _ rfl (setRow_heap _ _ _ _ _ _ K0.out.res)) rfl ?_; exact said_no HOK.out (below_setRow K0.out.bel (Nat.le_succ _) _)
end Go.Proofs.YtcindeechmpalaaGreat
