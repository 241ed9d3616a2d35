/- Layers as plain lists of entries: what may be, its size, its bytes, and how bytes are read; of no program. Manifests as plain data: what may be, its size, its bytes, and how bytes are read; of no program. manifest.isDigit, mayStand, isName, isNumber; cmp.Compare, strings.Compare. -/
import Derived.Test.YthaeidbnbgghkabMgCc0
import Derived.Test.YthaeidbnbgghkabMgCc1
namespace Go.Proofs.Ythaeidbnbgghkab
open Go.Lib
set_option linter.unusedVariables false
/-- an entry: path, kind, mode, body -/
abbrev En := Tx × Int × Int × Tx
def En.p (x : En) : Tx := x.1
def En.k (x : En) : Int := x.2.1
def En.m (x : En) : Int := x.2.2.1
def En.b (x : En) : Tx := x.2.2.2
/-- the root, with no kind -/
def noE : En := ([], 0, 0, [])
/-- what is wrong with an entry, whatever stands ahead -/
def fo (x : En) : Int :=
  if x.p = [] ∨ isP x.p = false then 12
  else if x.k < 1 ∨ 4 < x.k then 13
  else if x.m < 0 ∨ 511 < x.m ∨ (x.k = 3 ∧ x.m ≠ 0) then 2
  else if x.k ≠ 1 ∧ x.b ≠ [] then 5
  else if 256 < x.b.length then 3 else 0
/-- a file or a whiteout -/
def shutB (x : En) : Bool := decide (x.k = 1) || decide (x.k = 3)
/-- what is wrong with an entry's place -/
def fb (a x : En) : Int := if les a.p x.p = false then 14 else if (shutB a && inn a.p x.p) = true then 11 else 0
def ck : En → Nat → List En → Nat × Int
  | _, _, [] => (0, 0)
  | a, i, x :: r => if fo x ≠ 0 then (i, fo x) else if fb a x ≠ 0 then (i, fb a x) else ck x (i + 1) r
def chk (l : List En) : Nat × Int := if 64 < l.length then (0, 3) else ck noE 0 l
def sz : List En → Nat
  | [] => 0
  | x :: r => x.p.length + x.b.length + sz r
theorem fb_iff (a x : En) : fb a x = 0 ↔ les a.p x.p = true ∧ (shutB a && inn a.p x.p) = false := by
  unfold fb
  split
  · rename_i h; rw [h]; simp
  · rename_i h
    split
    · rename_i h2; simp [h2]
    · rename_i h2
      constructor
      · intro _; exact ⟨by simpa using h, by simpa using h2⟩
      · intro _; rfl
theorem les_asym {p q : Tx} (h : les p q = true) : les q p = false := by
  rw [Bool.eq_false_iff]
  intro h2
  have := les_trans p q p h h2
  rw [les_irr] at this
  simp at this
theorem fb_trans {a b c : En} (h1 : fb a b = 0) (h2 : fb b c = 0) : fb a c = 0 := by
  rw [fb_iff] at *
  refine ⟨les_trans _ _ _ h1.1 h2.1, ?_⟩
  rw [Bool.and_eq_false_iff]
  rcases Bool.and_eq_false_iff.1 h1.2 with h | h
  · exact .inl h
  · right
    rw [Bool.eq_false_iff]
    intro hc
    rw [near a.p b.p c.p hc (les_asym h1.1) h2.1] at h
    simp at h
theorem les_nil {p : Tx} (h : p ≠ []) : les [] p = true := by
  rw [← les_pcs0]
  unfold pcs0
  rw [if_pos rfl, if_neg h]
  cases hp : pcs p with
  | nil => exact absurd hp (pcs_ne p)
  | cons x xs => rfl
theorem fo_path {x : En} (h : fo x = 0) : x.p ≠ [] ∧ isP x.p = true := by
  unfold fo at h
  split at h
  · simp at h
  · rename_i h2
    constructor
    · exact fun e => h2 (.inl e)
    · cases hp : isP x.p with
      | true => rfl
      | false => exact absurd (.inr hp) h2
theorem fo_all {x : En} (h : fo x = 0) : (x.p ≠ [] ∧ isP x.p = true) ∧ (1 ≤ x.k ∧ x.k ≤ 4) ∧ (0 ≤ x.m ∧ x.m ≤ 511) ∧ (x.k ≠ 1 → x.b = []) ∧ x.b.length ≤ 256 := by
  have h0 := fo_path h
  unfold fo at h
  split at h
  · simp at h
  · split at h
    · simp at h
    · split at h
      · simp at h
      · split at h
        · simp at h
        · split at h
          · simp at h
          · rename_i h1 h2 h3 h4 h5
            refine ⟨h0, by omega, by omega, fun hk => ?_, by omega⟩
            exact Classical.byContradiction fun hb => h4 ⟨hk, hb⟩
theorem fb_root {x : En} (h : fo x = 0) : fb noE x = 0 := (fb_iff _ _).2 ⟨les_nil (fo_path h).1, rfl⟩
theorem ck_ok : ∀ (l : List En) (a : En) (i : Nat), (ck a i l).2 = 0 → (∀ x ∈ l, fo x = 0) ∧ (a :: l).Pairwise (fun y x => fb y x = 0)
  | [], a, i, _ => ⟨by simp, by simp⟩
  | x :: r, a, i, h => by
    unfold ck at h
    split at h
    · rename_i h1; exact absurd h h1
    · split at h
      · rename_i h1; exact absurd h h1
      · rename_i h1 h2
        have h1' : fo x = 0 := Classical.byContradiction h1
        have h2' : fb a x = 0 := Classical.byContradiction h2
        obtain ⟨i1, i2⟩ := ck_ok r x (i + 1) h
        refine ⟨?_, ?_⟩
        · intro y hy
          rcases List.mem_cons.1 hy with rfl | hy
          · exact h1'
          · exact i1 y hy
        · refine List.pairwise_cons.2 ⟨?_, i2⟩
          intro y hy
          rcases List.mem_cons.1 hy with rfl | hy
          · exact h2'
          · exact fb_trans h2' ((List.pairwise_cons.1 i2).1 y hy)
theorem ck_of : ∀ (l : List En) (a : En) (i : Nat), (∀ x ∈ l, fo x = 0) → (a :: l).Pairwise (fun y x => fb y x = 0) → ck a i l = (0, 0)
  | [], a, i, _, _ => rfl
  | x :: r, a, i, h1, h2 => by
    obtain ⟨g1, g2⟩ := List.pairwise_cons.1 h2
    unfold ck
    rw [if_neg (by rw [h1 x (by simp)]; simp), if_neg (by rw [g1 x (by simp)]; simp)]
    exact ck_of r x (i + 1) (fun y hy => h1 y (by simp [hy])) g2
/-- the layer may be -/
theorem chk_iff (l : List En) : (chk l).2 = 0 ↔ l.length ≤ 64 ∧ (∀ x ∈ l, fo x = 0) ∧ l.Pairwise (fun y x => fb y x = 0) := by
  unfold chk
  split
  · rename_i h; constructor
    · intro h2; simp at h2
    · intro h2; omega
  · rename_i h; constructor
    · intro h2
      obtain ⟨g1, g2⟩ := ck_ok l noE 0 h2
      exact ⟨by omega, g1, (List.pairwise_cons.1 g2).2⟩
    · rintro ⟨_, g1, g2⟩
      rw [ck_of l noE 0 g1 (List.pairwise_cons.2 ⟨fun x hx => fb_root (g1 x hx), g2⟩)]
theorem chk_zero (l : List En) (h : (chk l).2 = 0) : chk l = (0, 0) := by
  obtain ⟨h1, h2, h3⟩ := (chk_iff l).1 h
  unfold chk
  rw [if_neg (by omega)]
  exact ck_of l noE 0 h2 (List.pairwise_cons.2 ⟨fun x hx => fb_root (h2 x hx), h3⟩)
theorem chk_sub {l m : List En} (h : (chk l).2 = 0) (hs : m.Sublist l) : chk m = (0, 0) := by
  obtain ⟨h1, h2, h3⟩ := (chk_iff l).1 h
  exact chk_zero m ((chk_iff m).2 ⟨Nat.le_trans hs.length_le h1, fun x hx => h2 x (hs.mem hx), h3.sublist hs⟩)
/-- the numbers of a text's bytes -/
def nm (t : Tx) : List Int := t.map fun b => (b.toNat : Int)
theorem nm_length (t : Tx) : (nm t).length = t.length := by simp [nm]
theorem nm_bytes (t : Tx) : IsBytes (nm t) := bytes_of_mem fun x hx => by
  simp only [nm, List.mem_map] at hx
  obtain ⟨b, _, rfl⟩ := hx
  have := b.toNat_lt
  omega
theorem bytes_nm (t : Tx) : bytesOf (nm t) = t := by
  induction t with
  | nil => rfl
  | cons b t ih =>
    simp only [nm, List.map_cons, bytesOf] at ih ⊢
    simp [ih]
theorem nm_bytesOf (L : List Int) (h : IsBytes L) : nm (bytesOf L) = L := by
  have h2 := bytes_mem h
  clear h
  induction L with
  | nil => rfl
  | cons x L ih =>
    have hx := h2 x (by simp)
    have := ih (fun y hy => h2 y (by simp [hy]))
    simp only [nm, bytesOf, List.map_cons, List.map_map] at this ⊢
    rw [this]
    congr 1
    simp
    omega
/-- a number below 16384 by sevens -/
def vr (v : Nat) : List Int := if v < 128 then [(v : Int)] else [(v : Int) % 128 + 128, (v : Int) / 128]
theorem vr_sev (v n : Nat) (hv : v < 16384) (h : Sev (v : Int) n) : varL n v = vr v := by
  unfold vr
  split
  · rename_i h1
    have := sev_one v n 0 h ⟨by omega, by simp; omega, .inl rfl⟩
    subst this
    rfl
  · rename_i h1
    have := sev_one v n 1 h ⟨by omega, by simp; omega, .inr (by simp; omega)⟩
    subst this
    rfl
theorem vr_isSev (v : Nat) (hv : v < 16384) : ∃ n, Sev (v : Int) n ∧ varL n v = vr v ∧ n ≤ 1 := by
  by_cases h : v < 128
  · have hs : Sev (v : Int) 0 := ⟨by omega, by simp; omega, .inl rfl⟩
    exact ⟨0, hs, vr_sev v 0 hv hs, by omega⟩
  · have hs : Sev (v : Int) 1 := ⟨by omega, by simp; omega, .inr (by simp; omega)⟩
    exact ⟨1, hs, vr_sev v 1 hv hs, by omega⟩
theorem vr_len (v : Nat) : 1 ≤ (vr v).length ∧ (vr v).length ≤ 2 := by unfold vr; split <;> simp
theorem vr_bytes (v : Nat) (h : v < 16384) : IsBytes (vr v) := bytes_of_mem fun x hx => by
  unfold vr at hx
  split at hx <;> simp at hx <;> omega
/-- the bytes of an entry, of a layer -/
def ee (x : En) : List Int := [x.k, x.m / 256, x.m % 256] ++ (vr x.p.length ++ nm x.p) ++ (if x.k = 1 then vr x.b.length ++ nm x.b else [])
theorem ee_is (p : Tx) (k m : Int) (b : Tx) : ee (p, k, m, b) = [k, m / 256, m % 256] ++ (vr p.length ++ nm p) ++ (if k = 1 then vr b.length ++ nm b else []) := rfl
def ees : List En → List Int
  | [] => []
  | x :: r => ee x ++ ees r
theorem ees_snoc (l : List En) (x : En) : ees (l ++ [x]) = ees l ++ ee x := by
  induction l with
  | nil => simp [ees]
  | cons y l ih => simp [ees, ih]
theorem ees_app (l m : List En) : ees (l ++ m) = ees l ++ ees m := by
  induction l with
  | nil => simp [ees]
  | cons y l ih => simp [ees, ih]
def enc (l : List En) : List Int := [86, 76, 1] ++ vr l.length ++ ees l
/-- a number, a text, an entry, entries, read off the front -/
def rn (L : List Int) : Option (Int × List Int) := if (rv L 0 0).2.2 = 0 then some ((rv L 0 0).1, L.drop (rv L 0 0).2.1.toNat) else none
def rt (L : List Int) : Option (Tx × List Int) := match rn L with
  | none => none
  | some (v, r) => if r.length < v.toNat then none else some (bytesOf (r.take v.toNat), r.drop v.toNat)
def re (L : List Int) : Option (En × List Int) := match L with
  | k :: m1 :: m2 :: r => match rt r with
    | none => none
    | some (p, r) => if k = 1 then (match rt r with
        | none => none
        | some (b, r) => some ((p, k, 256 * m1 + m2, b), r)) else some ((p, k, 256 * m1 + m2, []), r)
  | _ => none
def rl : Nat → List En → List Int → Option (List En × List Int)
  | 0, acc, L => some (acc, L)
  | n + 1, acc, L => match re L with
    | none => none
    | some (x, r) => rl n (acc ++ [x]) r
/-- a count, and so many entries -/
def rc (L : List Int) : Option (List En × List Int) := match rn L with
  | none => none
  | some (c, r) => if 64 < c then none else rl c.toNat [] r
/-- Decode's answer -/
def dec (L : List Int) : Option (List En) := if L.take 3 = [86, 76, 1] then (match rc (L.drop 3) with
  | none => none
  | some (l, r) => if (chk l).2 = 0 ∧ r = [] then some l else none) else none
theorem rn_vr (v : Nat) (hv : v < 16384) (M : List Int) : rn (vr v ++ M) = some ((v : Int), M) := by
  obtain ⟨n, h1, h2, h3⟩ := vr_isSev v hv
  have := rv_back v n (by omega) (by omega) h1 M
  rw [h2] at this
  unfold rn
  rw [this]
  have hl : (vr v).length = n + 1 := by rw [← h2, varL_length]
  simp only [if_true]
  rw [show (((n : Int) + 1).toNat) = (vr v).length by omega, List.drop_left]
theorem rt_text (t : Tx) (ht : t.length < 16384) (M : List Int) : rt (vr t.length ++ nm t ++ M) = some (t, M) := by
  unfold rt
  rw [List.append_assoc, rn_vr _ ht]
  simp only
  rw [if_neg (by simp [nm_length])]
  have e : ((t.length : Nat) : Int).toNat = (nm t).length := by rw [nm_length]; omega
  rw [e, List.take_left, List.drop_left, bytes_nm]
theorem re_ee (x : En) (hx : fo x = 0) (hp : x.p.length < 16384) (M : List Int) : re (ee x ++ M) = some (x, M) := by
  obtain ⟨_, ⟨k1, k2⟩, ⟨m1, m2⟩, hb, hl⟩ := fo_all hx
  obtain ⟨p, k, m, b⟩ := x
  simp only [En.p, En.k, En.m, En.b] at *
  rw [ee_is]
  unfold re
  have em : 256 * (m / 256) + m % 256 = m := by omega
  by_cases hk : k = 1
  · subst hk
    simp only [if_true, List.cons_append, List.nil_append]
    have h1 := rt_text p hp ((vr b.length ++ nm b) ++ M)
    have h2 := rt_text b (by omega) M
    have e1 : (vr p.length ++ nm p ++ (vr b.length ++ nm b) ++ M) = vr p.length ++ nm p ++ (vr b.length ++ nm b ++ M) := by simp
    rw [e1, h1]
    simp only
    rw [h2]
    simp only
    rw [em]
  · rw [if_neg hk, List.append_nil]
    simp only [List.cons_append, List.nil_append]
    rw [rt_text p hp M]
    simp only
    rw [if_neg hk, em, hb hk]
theorem rl_ees (l : List En) (acc : List En) (h : ∀ x ∈ l, fo x = 0) (hp : ∀ x ∈ l, x.p.length < 16384) (M : List Int) : rl l.length acc (ees l ++ M) = some (acc ++ l, M) := by
  induction l generalizing acc with
  | nil => simp [rl, ees]
  | cons x l ih =>
    simp only [List.length_cons, rl, ees, List.append_assoc]
    rw [re_ee x (h x (by simp)) (hp x (by simp))]
    simp only
    rw [ih (acc ++ [x]) (fun y hy => h y (by simp [hy])) (fun y hy => hp y (by simp [hy]))]
    simp
theorem rc_enc (l : List En) (h64 : l.length ≤ 64) (h : ∀ x ∈ l, fo x = 0) (hp : ∀ x ∈ l, x.p.length < 16384) (M : List Int) : rc (vr l.length ++ ees l ++ M) = some (l, M) := by
  unfold rc
  rw [List.append_assoc, rn_vr _ (by omega)]
  simp only
  rw [if_neg (by omega), Int.toNat_natCast, rl_ees l [] h hp]
  rfl
/-- what is read was written so -/
theorem rn_some {L : List Int} (hb : IsBytes L) {v : Int} {r : List Int} (h : rn L = some (v, r)) : 0 ≤ v ∧ v ≤ 18446744073709551615 ∧ ∃ n, Sev v n ∧ L = varL n v ++ r := by
  unfold rn at h
  split at h
  · rename_i h0
    simp only [Option.some.injEq, Prod.mk.injEq] at h
    obtain ⟨rfl, rfl⟩ := h
    rcases rv_only L 0 0 (bytes_mem hb) (by omega) with (h1 | h1) | ⟨n, u, e1, e2, e3, e4, u0, u1, u2, u3⟩
    · rw [h1] at h0; simp at h0
    · rw [h1] at h0; simp at h0
    · obtain ⟨s1, s2⟩ := sev_of u n e4 u0 u1 u2 u3
      rw [e1]
      simp only [Int.pow_zero, Int.mul_one, Int.zero_add]
      refine ⟨u0, s2, n, s1, ?_⟩
      rw [show (((0 + n : Nat) : Int) + 1).toNat = n + 1 by omega, ← e2, List.take_append_drop]
  · simp at h
theorem bytes_drop {L : List Int} (h : IsBytes L) (n : Nat) : IsBytes (L.drop n) := bytes_of_mem fun x hx => bytes_mem h x (List.mem_of_mem_drop hx)
theorem bytes_take {L : List Int} (h : IsBytes L) (n : Nat) : IsBytes (L.take n) := bytes_of_mem fun x hx => bytes_mem h x (List.mem_of_mem_take hx)
theorem bytes_right {A B : List Int} (h : IsBytes (A ++ B)) : IsBytes B := bytes_of_mem fun x hx => bytes_mem h x (by simp [hx])
theorem rt_some {L : List Int} (hb : IsBytes L) {t : Tx} {r : List Int} (h : rt L = some (t, r)) : IsBytes r ∧ (t.length < 16384 → L = vr t.length ++ nm t ++ r) ∧ t.length ≤ L.length ∧ r.length ≤ L.length := by
  unfold rt at h
  split at h
  · simp at h
  · rename_i v s hn
    obtain ⟨v0, v1, n, hs, hL⟩ := rn_some hb hn
    have hbs : IsBytes s := by rw [hL] at hb; exact bytes_right hb
    split at h
    · simp at h
    · rename_i hle
      simp only [Option.some.injEq, Prod.mk.injEq] at h
      obtain ⟨rfl, rfl⟩ := h
      have hlen : (bytesOf (s.take v.toNat)).length = v.toNat := by simp [bytesOf]; omega
      have hsl : s.length ≤ L.length := by rw [hL]; simp
      refine ⟨bytes_drop hbs _, fun ht => ?_, by omega, by rw [List.length_drop]; omega⟩
      rw [hlen] at ht ⊢
      have e : varL n v = vr v.toNat := by
        have := vr_sev v.toNat n ht (by rw [Int.toNat_of_nonneg v0]; exact hs)
        rwa [Int.toNat_of_nonneg v0] at this
      rw [nm_bytesOf _ (bytes_take hbs _), List.append_assoc, List.take_append_drop, ← e]
      exact hL
theorem isP_short {p : Tx} (h : isP p = true) : p.length < 16384 := by
  have h1 := (isP_iff p).1 h
  rcases cln_cases p with ⟨l, e, h2, h3, _⟩ | e | e
  · rw [h1] at e
    rw [(Prod.mk.inj e).1]
    have : ∀ (l : List Tx), (∀ p ∈ l, p.length ≤ 24) → (jn l).length ≤ 25 * l.length := by
      intro l
      induction l with
      | nil => simp [jn_nil]
      | cons x l ih =>
        intro hl
        have hx := hl x (by simp)
        have := ih (fun p hp => hl p (by simp [hp]))
        cases l with
        | nil => rw [jn_one]; simp; omega
        | cons y l => rw [jn_cons]; simp at this ⊢; omega
    have := this l (fun p hp => ((isPart_iff p).1 (h2 p hp)).2.2.1)
    omega
  · rw [h1] at e; simp at e
  · rw [h1] at e; simp at e
theorem re_some {L : List Int} (hb : IsBytes L) {x : En} {r : List Int} (h : re L = some (x, r)) : IsBytes r ∧ (fo x = 0 → L = ee x ++ r) := by
  unfold re at h
  split at h
  · rename_i k m1 m2 s
    have b0 := hb 0 (by simp)
    have b1 := hb 1 (by simp)
    have b2 := hb 2 (by simp)
    simp at b0 b1 b2
    have hbs : IsBytes s := by
      have := bytes_drop hb 3
      simpa using this
    split at h
    · simp at h
    · rename_i p s2 hp
      obtain ⟨q1, q2, _⟩ := rt_some hbs hp
      split at h
      · rename_i hk
        split at h
        · simp at h
        · rename_i b s3 hb3
          obtain ⟨q3, q4, _⟩ := rt_some q1 hb3
          simp only [Option.some.injEq, Prod.mk.injEq] at h
          obtain ⟨rfl, rfl⟩ := h
          refine ⟨q3, fun hf => ?_⟩
          obtain ⟨⟨_, f1⟩, f2, f3, f4, f5⟩ := fo_all hf
          have f1' := isP_short f1
          simp only [En.p, En.k, En.m, En.b] at *
          rw [ee_is, if_pos hk, q2 (by omega), q4 (by omega), show (256 * m1 + m2) / 256 = m1 by omega, show (256 * m1 + m2) % 256 = m2 by omega]
          simp
      · rename_i hk
        simp only [Option.some.injEq, Prod.mk.injEq] at h
        obtain ⟨rfl, rfl⟩ := h
        refine ⟨q1, fun hf => ?_⟩
        obtain ⟨⟨_, f1⟩, f2, f3, f4, f5⟩ := fo_all hf
        have f1' := isP_short f1
        simp only [En.p, En.k, En.m, En.b] at *
        rw [ee_is, if_neg hk, q2 (by omega), show (256 * m1 + m2) / 256 = m1 by omega, show (256 * m1 + m2) % 256 = m2 by omega]
        simp
  · simp at h
theorem rl_some : ∀ (n : Nat) (acc : List En) (L : List Int), IsBytes L → ∀ (l : List En) (r : List Int), rl n acc L = some (l, r) → IsBytes r ∧ ∃ m, l = acc ++ m ∧ m.length = n ∧ ((∀ x ∈ m, fo x = 0) → L = ees m ++ r)
  | 0, acc, L, hb, l, r, h => by
    simp only [rl, Option.some.injEq, Prod.mk.injEq] at h
    obtain ⟨rfl, rfl⟩ := h
    exact ⟨hb, [], by simp, rfl, fun _ => by simp [ees]⟩
  | n + 1, acc, L, hb, l, r, h => by
    unfold rl at h
    split at h
    · simp at h
    · rename_i x s hx
      obtain ⟨q1, q2⟩ := re_some hb hx
      obtain ⟨q3, m, e1, e2, e3⟩ := rl_some n (acc ++ [x]) s q1 l r h
      refine ⟨q3, x :: m, by rw [e1]; simp, by simp [e2], fun hf => ?_⟩
      rw [q2 (hf x (by simp)), e3 (fun y hy => hf y (by simp [hy]))]
      simp [ees]
theorem rc_some {L : List Int} (hb : IsBytes L) {l : List En} {r : List Int} (h : rc L = some (l, r)) : l.length ≤ 64 ∧ ((∀ x ∈ l, fo x = 0) → L = vr l.length ++ ees l ++ r) := by
  unfold rc at h
  split at h
  · simp at h
  · rename_i c s hn
    obtain ⟨v0, v1, n, hs, hL⟩ := rn_some hb hn
    have hbs : IsBytes s := by rw [hL] at hb; exact bytes_right hb
    split at h
    · simp at h
    · rename_i h64
      obtain ⟨q3, m, e1, e2, e3⟩ := rl_some c.toNat [] s hbs l r h
      simp only [List.nil_append] at e1
      subst e1
      refine ⟨by omega, fun hf => ?_⟩
      rw [hL, e3 hf, e2]
      have e : varL n c = vr c.toNat := by
        have := vr_sev c.toNat n (by omega) (by rw [Int.toNat_of_nonneg v0]; exact hs)
        rwa [Int.toNat_of_nonneg v0] at this
      rw [e]
      simp
theorem enc_take (l : List En) (M : List Int) : (enc l ++ M).take 3 = [86, 76, 1] := by simp [enc]
theorem enc_drop (l : List En) (M : List Int) : (enc l ++ M).drop 3 = vr l.length ++ ees l ++ M := by simp [enc]
theorem rc_of_enc {l : List En} (h : (chk l).2 = 0) (M : List Int) : rc ((enc l ++ M).drop 3) = some (l, M) := by
  obtain ⟨h1, h2, h3⟩ := (chk_iff l).1 h
  rw [enc_drop]
  exact rc_enc l h1 h2 (fun x hx => isP_short (fo_path (h2 x hx)).2) M
theorem dec_enc {l : List En} (h : (chk l).2 = 0) : dec (enc l) = some l := by
  have h1 := rc_of_enc h []
  rw [List.append_nil] at h1
  have h2 := enc_take l []
  rw [List.append_nil] at h2
  unfold dec
  rw [if_pos h2, h1]
  simp [h]
theorem dec_some {L : List Int} (hb : IsBytes L) {l : List En} (h : dec L = some l) : (chk l).2 = 0 ∧ enc l = L := by
  unfold dec at h
  split at h
  · rename_i h3
    split at h
    · simp at h
    · rename_i m r hr
      split at h
      · rename_i hc
        simp only [Option.some.injEq] at h
        subst h
        obtain ⟨q1, q2⟩ := rc_some (bytes_drop hb 3) hr
        refine ⟨hc.1, ?_⟩
        have := q2 ((chk_iff m).1 hc.1).2.1
        rw [hc.2, List.append_nil] at this
        rw [← List.take_append_drop 3 L, h3, this]
        simp [enc]
      · simp at h
  · simp at h
theorem dec_more {l : List En} (h : (chk l).2 = 0) (M : List Int) (hM : M ≠ []) : dec (enc l ++ M) = none := by
  unfold dec
  rw [if_pos (enc_take l M), rc_of_enc h M]
  simp only
  rw [if_neg (by simp [hM])]
theorem vr_bytes' (l : List En) (h : (chk l).2 = 0) : IsBytes (enc l) := by
  obtain ⟨h1, h2, h3⟩ := (chk_iff l).1 h
  have hee : ∀ x ∈ l, IsBytes (ee x) := by
    intro x hx
    obtain ⟨⟨_, f1⟩, f2, f3, f4, f5⟩ := fo_all (h2 x hx)
    have f1' := isP_short f1
    unfold ee
    refine bytes_app (bytes_app (bytes_of_mem fun y hy => ?_) (bytes_app (vr_bytes _ f1') (nm_bytes _))) ?_
    · simp at hy; omega
    · split
      · exact bytes_app (vr_bytes _ (by omega)) (nm_bytes _)
      · exact fun i hi => by simp at hi
  have hes : IsBytes (ees l) := by
    clear h h1 h2 h3
    induction l with
    | nil => exact fun i hi => by simp [ees] at hi
    | cons x l ih => exact bytes_app (hee x (by simp)) (ih (fun y hy => hee y (by simp [hy])))
  unfold enc
  refine bytes_app (bytes_app (bytes_of_mem fun y hy => ?_) (vr_bytes _ (by omega))) hes
  simp at hy; omega
theorem dec_cut {l : List En} (h : (chk l).2 = 0) (n : Nat) (hn : n < (enc l).length) : dec ((enc l).take n) = none := by
  cases hd : dec ((enc l).take n) with
  | none => rfl
  | some m =>
    exfalso
    obtain ⟨c1, c2⟩ := dec_some (bytes_take (vr_bytes' l h) n) hd
    have h1 := rc_of_enc c1 ((enc l).drop n)
    rw [c2, List.take_append_drop] at h1
    have h2 := rc_of_enc h []
    rw [List.append_nil, h1] at h2
    simp only [Option.some.injEq, Prod.mk.injEq] at h2
    have := congrArg List.length h2.2
    rw [List.length_drop] at this
    simp at this
    omega
/-- by the document: what would be read, held against its own bytes -/
theorem dec_ref (L : List Int) (hb : IsBytes L) (h3 : 3 ≤ L.length) (g : List En) (hg : g = (match rc (L.drop 3) with | none => [] | some (l, _) => l)) :
    dec L = if (chk g).2 = 0 ∧ enc g = L then some g else none := by
  split
  · rename_i h; rw [← h.2]; exact dec_enc h.1
  · rename_i h
    cases hd : dec L with
    | none => rfl
    | some m =>
      exfalso
      obtain ⟨c1, c2⟩ := dec_some hb hd
      have h1 := rc_of_enc c1 []
      rw [List.append_nil, c2] at h1
      rw [h1] at hg
      simp only at hg
      subst hg
      exact h ⟨c1, c2⟩
end Go.Proofs.Ythaeidbnbgghkab
namespace Go.Proofs.Ythaeidbnbgghkab
open Go.Lib
set_option linter.unusedVariables false
/-- a layer's reference: digest, size -/
abbrev Rf := List Int × Int
/-- a manifest: name, version, layers -/
abbrev Mf := Tx × Tx × List Rf
/-- may a name have that byte -/
def mayN (b : UInt8) : Bool := (decide (97 ≤ b.toNat) && decide (b.toNat ≤ 122)) || ((decide (48 ≤ b.toNat) && decide (b.toNat ≤ 57)) || (b == 45 || b == 46))
def nmOk (s : Tx) : Bool := decide (1 ≤ s.length) && decide (s.length ≤ 16) && s.all mayN
def mck : List (List Int) → List Rf → Int
  | _, [] => 0
  | seen, x :: r => if x.2 < 0 ∨ 2147483647 < x.2 then 2 else if x.1 ∈ seen then 8 else mck (seen ++ [x.1]) r
/-- what is wrong with a manifest -/
def mchk (m : Mf) : Int :=
  if nmOk m.1 = false ∨ nmOk m.2.1 = false then 2
  else if m.2.2 = [] then 9
  else if 8 < m.2.2.length then 3
  else mck [] m.2.2
def ssz : List Rf → Int
  | [] => 0
  | x :: r => x.2 + ssz r
def msz (m : Mf) : Int := if mchk m = 0 then ssz m.2.2 else 0
/-- digests have 32 bytes -/
def Dgs (l : List Rf) : Prop := ∀ x ∈ l, x.1.length = 32 ∧ IsBytes x.1
/-- how many sevens a size needs, less one -/
def svn (v : Int) : Nat := if v < 128 then 0 else if v < 16384 then 1 else if v < 2097152 then 2 else if v < 268435456 then 3 else 4
theorem svn_sev (v : Int) (h0 : 0 ≤ v) (h1 : v ≤ 2147483647) : Sev v (svn v) := by
  unfold svn
  repeat' split
  · exact ⟨by omega, by simp; omega, .inl rfl⟩
  · exact ⟨by omega, by simp; omega, .inr (by simp; omega)⟩
  · exact ⟨by omega, by simp; omega, .inr (by simp; omega)⟩
  · exact ⟨by omega, by simp; omega, .inr (by simp; omega)⟩
  · exact ⟨by omega, by simp; omega, .inr (by simp; omega)⟩
/-- a size by sevens -/
def vz (v : Int) : List Int := varL (svn v) v
theorem vz_sev (v : Int) (n : Nat) (h0 : 0 ≤ v) (h1 : v ≤ 2147483647) (h : Sev v n) : varL n v = vz v := by
  rw [sev_one v n (svn v) h (svn_sev v h0 h1)]
  rfl
theorem vz_len (v : Int) : 1 ≤ (vz v).length ∧ (vz v).length ≤ 5 := by
  unfold vz
  rw [varL_length]
  unfold svn
  repeat' split
  all_goals omega
theorem vz_bytes (v : Int) (h0 : 0 ≤ v) (h1 : v ≤ 2147483647) : IsBytes (vz v) := bytes_of_mem (varL_bytes _ _ h0 (svn_sev v h0 h1).2.1)
/-- the bytes of layers, of a manifest -/
def mel : List Rf → List Int
  | [] => []
  | x :: r => x.1 ++ vz x.2 ++ mel r
theorem mel_snoc (l : List Rf) (x : Rf) : mel (l ++ [x]) = mel l ++ (x.1 ++ vz x.2) := by
  induction l with
  | nil => simp [mel]
  | cons y l ih => simp [mel, ih]
def menc (m : Mf) : List Int := [86, 77, 1] ++ (vr m.1.length ++ nm m.1) ++ (vr m.2.1.length ++ nm m.2.1) ++ [(m.2.2.length : Int)] ++ mel m.2.2
theorem mck_ok : ∀ (l : List Rf) (seen : List (List Int)), mck seen l = 0 ↔ (∀ x ∈ l, 0 ≤ x.2 ∧ x.2 ≤ 2147483647) ∧ (∀ x ∈ l, x.1 ∉ seen) ∧ l.Pairwise (fun x y => x.1 ≠ y.1)
  | [], seen => by simp [mck]
  | x :: r, seen => by
    unfold mck
    split
    · rename_i h
      constructor
      · intro h2; simp at h2
      · intro h2; have := h2.1 x (by simp); omega
    · rename_i h
      split
      · rename_i h3
        constructor
        · intro h2; simp at h2
        · intro h2; exact absurd h3 (h2.2.1 x (by simp))
      · rename_i h3
        rw [mck_ok r (seen ++ [x.1])]
        constructor
        · rintro ⟨a1, a2, a3⟩
          refine ⟨?_, ?_, ?_⟩
          · intro y hy
            rcases List.mem_cons.1 hy with rfl | hy
            · omega
            · exact a1 y hy
          · intro y hy
            rcases List.mem_cons.1 hy with rfl | hy
            · exact h3
            · intro hm; exact a2 y hy (by simp [hm])
          · refine List.pairwise_cons.2 ⟨fun y hy e => a2 y hy (by simp [e]), a3⟩
        · rintro ⟨a1, a2, a3⟩
          obtain ⟨p1, p2⟩ := List.pairwise_cons.1 a3
          refine ⟨fun y hy => a1 y (by simp [hy]), fun y hy hm => ?_, p2⟩
          rcases List.mem_append.1 hm with hm | hm
          · exact a2 y (by simp [hy]) hm
          · simp at hm; exact p1 y hy hm.symm
theorem mchk_ok {m : Mf} (h : mchk m = 0) : (nmOk m.1 = true ∧ nmOk m.2.1 = true) ∧ m.2.2 ≠ [] ∧ m.2.2.length ≤ 8 ∧ ∀ x ∈ m.2.2, 0 ≤ x.2 ∧ x.2 ≤ 2147483647 := by
  unfold mchk at h
  split at h
  · simp at h
  · rename_i h1
    split at h
    · simp at h
    · rename_i h2
      split at h
      · simp at h
      · rename_i h3
        refine ⟨⟨?_, ?_⟩, h2, by omega, ((mck_ok _ _).1 h).1⟩
        · cases hn : nmOk m.1 with
          | true => rfl
          | false => exact absurd (.inl hn) h1
        · cases hn : nmOk m.2.1 with
          | true => rfl
          | false => exact absurd (.inr hn) h1
theorem nmOk_len {s : Tx} (h : nmOk s = true) : 1 ≤ s.length ∧ s.length ≤ 16 := by
  simp only [nmOk, Bool.and_eq_true, decide_eq_true_eq] at h
  exact h.1
/-- a number read off the front: none is 0, and nothing is taken -/
def gn (L : List Int) : Int × List Int := ((rv L 0 0).1, L.drop (rv L 0 0).2.1.toNat)
def gt (L : List Int) : Tx × List Int := (bytesOf ((gn L).2.take (gn L).1.toNat), (gn L).2.drop (gn L).1.toNat)
/-- a number of 64 bits as an int -/
def wr64 (v : Int) : Int := if v < 9223372036854775808 then v else v - 18446744073709551616
/-- a digest: what is left, and noughts -/
def dg32 (L : List Int) : List Int := L.take 32 ++ List.replicate (32 - L.length) 0
def gl : Nat → List Int → List Rf
  | 0, _ => []
  | n + 1, L => (dg32 L, wr64 (gn (L.drop 32)).1) :: gl n (gn (L.drop 32)).2
/-- the manifest whose bytes they are, if they are any's -/
def mread (L : List Int) : Mf :=
  ((gt (L.drop 3)).1, (gt (gt (L.drop 3)).2).1, gl ((gt (gt (L.drop 3)).2).2.headD 0).toNat ((gt (gt (L.drop 3)).2).2.drop 1))
def mdec (L : List Int) : Option Mf := if mchk (mread L) = 0 ∧ menc (mread L) = L then some (mread L) else none
theorem gn_vz (v : Int) (h0 : 0 ≤ v) (h1 : v ≤ 2147483647) (M : List Int) : gn (vz v ++ M) = (v, M) := by
  have := rv_back v (svn v) h0 (by omega) (svn_sev v h0 h1) M
  unfold gn vz
  rw [this]
  simp only
  rw [show ((svn v : Int) + 1).toNat = (varL (svn v) v).length by rw [varL_length]; omega, List.drop_left]
theorem vr_vz (v : Nat) (hv : v < 16384) : vr v = vz v := by
  obtain ⟨n, h1, h2, h3⟩ := vr_isSev v hv
  rw [← h2]
  exact vz_sev v n (by omega) (by omega) h1
theorem gt_text (t : Tx) (ht : t.length < 16384) (M : List Int) : gt (vr t.length ++ nm t ++ M) = (t, M) := by
  unfold gt
  rw [List.append_assoc, vr_vz _ ht, gn_vz _ (by omega) (by omega)]
  simp only
  have e : ((t.length : Nat) : Int).toNat = (nm t).length := by rw [nm_length]; omega
  rw [e, List.take_left, List.drop_left, bytes_nm]
theorem gl_mel (l : List Rf) (h : ∀ x ∈ l, 0 ≤ x.2 ∧ x.2 ≤ 2147483647) (hd : Dgs l) (M : List Int) : gl l.length (mel l ++ M) = l := by
  induction l with
  | nil => rfl
  | cons x l ih =>
    have hx := h x (by simp)
    have h32 := (hd x (by simp)).1
    simp only [List.length_cons, gl, mel]
    have e1 : (x.1 ++ vz x.2 ++ mel l ++ M).drop 32 = vz x.2 ++ (mel l ++ M) := by
      rw [List.append_assoc, List.append_assoc, ← h32, List.drop_left]
    have e2 : dg32 (x.1 ++ vz x.2 ++ mel l ++ M) = x.1 := by
      unfold dg32
      rw [List.append_assoc, List.append_assoc, show (32 - (x.1 ++ (vz x.2 ++ (mel l ++ M))).length) = 0 by rw [List.length_append]; omega, ← h32, List.take_left]
      simp
    rw [e1, e2, gn_vz _ hx.1 hx.2]
    simp only
    rw [ih (fun y hy => h y (by simp [hy])) (fun y hy => hd y (by simp [hy]))]
    congr 2
    unfold wr64
    rw [if_pos (by omega)]
theorem mread_menc {m : Mf} (h : mchk m = 0) (hd : Dgs m.2.2) (M : List Int) : mread (menc m ++ M) = m := by
  obtain ⟨⟨n1, n2⟩, h2, h3, h4⟩ := mchk_ok h
  have l1 := nmOk_len n1
  have l2 := nmOk_len n2
  obtain ⟨a, b, l⟩ := m
  simp only at *
  unfold mread menc
  simp only
  have e0 : ([86, 77, 1] ++ (vr a.length ++ nm a) ++ (vr b.length ++ nm b) ++ [(l.length : Int)] ++ mel l ++ M).drop 3 = vr a.length ++ nm a ++ (vr b.length ++ nm b ++ ((l.length : Int) :: (mel l ++ M))) := by simp
  rw [e0, gt_text a (by omega)]
  simp only
  rw [gt_text b (by omega)]
  simp only [List.headD_cons, List.drop_one, List.tail_cons, Int.toNat_natCast]
  rw [gl_mel l h4 hd M]
theorem mdec_menc {m : Mf} (h : mchk m = 0) (hd : Dgs m.2.2) : mdec (menc m) = some m := by
  have := mread_menc h hd []
  rw [List.append_nil] at this
  unfold mdec
  rw [this, if_pos ⟨h, rfl⟩]
theorem mdec_some {L : List Int} {m : Mf} (h : mdec L = some m) : mchk m = 0 ∧ menc m = L ∧ mread L = m := by
  unfold mdec at h
  split at h
  · rename_i h2
    cases h
    exact ⟨h2.1, h2.2, rfl⟩
  · simp at h
theorem gl_dgs : ∀ (n : Nat) (L : List Int), IsBytes L → Dgs (gl n L)
  | 0, L, h => by intro x hx; simp [gl] at hx
  | n + 1, L, h => by
    intro x hx
    simp only [gl, List.mem_cons] at hx
    rcases hx with rfl | hx
    · refine ⟨by simp [dg32]; omega, bytes_app (bytes_take h 32) (bytes_of_mem fun x hx => ?_)⟩
      have := (List.mem_replicate.1 hx).2
      omega
    · exact gl_dgs n _ (bytes_drop (bytes_drop h 32) _) x hx
theorem mread_dgs {L : List Int} (h : IsBytes L) : Dgs (mread L).2.2 := by
  have g : ∀ M, IsBytes M → IsBytes (gt M).2 := fun M hM => bytes_drop (bytes_drop hM _) _
  exact gl_dgs _ _ (bytes_drop (g _ (g _ (bytes_drop h 3))) 1)
theorem mdec_more {L : List Int} (hL : IsBytes L) {m : Mf} (h : mdec L = some m) (M : List Int) (hM : M ≠ []) : mdec (L ++ M) = none := by
  obtain ⟨h1, h2, h3⟩ := mdec_some h
  have hd : Dgs m.2.2 := by rw [← h3]; exact mread_dgs hL
  have := mread_menc h1 hd M
  rw [h2] at this
  unfold mdec
  rw [this, if_neg]
  rintro ⟨_, e⟩
  rw [h2] at e
  have := congrArg List.length e
  rw [List.length_append] at this
  exact hM (List.length_eq_zero_iff.1 (by omega))
theorem mdec_cut {L : List Int} (hL : IsBytes L) {m : Mf} (h : mdec L = some m) (n : Nat) (hn : n < L.length) : mdec (L.take n) = none := by
  cases hd : mdec (L.take n) with
  | none => rfl
  | some m' =>
    exfalso
    obtain ⟨h1, h2, h3⟩ := mdec_some h
    have := mdec_more (bytes_take hL n) hd (L.drop n) (by
      intro e
      have := congrArg List.length e
      simp at this
      omega)
    rw [List.take_append_drop, h] at this
    simp at this
/-- whatever else is guessed: Decode's answer is the one that is written so -/
theorem mdec_iff {L : List Int} (hL : IsBytes L) (m : Mf) (hd : Dgs m.2.2) : mdec L = some m ↔ mchk m = 0 ∧ menc m = L := by
  constructor
  · intro h
    obtain ⟨h1, h2, h3⟩ := mdec_some h
    exact ⟨h1, h2⟩
  · rintro ⟨h1, h2⟩
    rw [← h2]
    exact mdec_menc h1 hd
end Go.Proofs.Ythaeidbnbgghkab
namespace Go.Proofs.Ythaeidbnbgghkab
open Go.ChangeShapes Go.WideShapes Go.ChangeAt Go.RowKit Go.Deep
set_option linter.unusedVariables false
theorem run_index_txD (L : Tx) (j : Nat) (h : j < L.length) (w : World) : (Instr.index 9 (.string (tx L)) (.int .i64 (j : Int))).run Try.prog w = .ok (.int .u8 ((L.getD j 0).toNat : Int)) w := by
  have hs := tx_size L
  rw [run_index_string (P := Try.prog) w 9 (tx L) .i64 _ Try.underlying9, dif_pos ⟨by omega, by omega⟩]
  congr 2
  have : ((tx L)[((j : Int)).toNat]'(by omega)) = L.getD j 0 := by
    simp only [Int.toNat_natCast]
    show (tx L).data[j]'_ = _
    simp [tx, List.getD, h]
  rw [this]
theorem dig_eq (b : UInt8) : dig b = (decide ((48 : Int) ≤ (b.toNat : Int)) && decide ((b.toNat : Int) ≤ 57)) := by
  unfold dig
  rw [Bool.eq_iff_iff]
  simp
  omega
theorem mayN_eq (b : UInt8) : mayN b = ((decide ((97 : Int) ≤ (b.toNat : Int)) && decide ((b.toNat : Int) ≤ 122)) || (dig b || (decide ((b.toNat : Int) = 45) || decide ((b.toNat : Int) = 46)))) := by
  have h1 : (b == 45) = decide ((b.toNat : Int) = 45) := by
    rw [Bool.eq_iff_iff]
    simp only [beq_iff_eq, decide_eq_true_eq]
    constructor
    · intro h; rw [h]; rfl
    · intro h; exact UInt8.toNat_inj.1 (by show b.toNat = 45; omega)
  have h2 : (b == 46) = decide ((b.toNat : Int) = 46) := by
    rw [Bool.eq_iff_iff]
    simp only [beq_iff_eq, decide_eq_true_eq]
    constructor
    · intro h; rw [h]; rfl
    · intro h; exact UInt8.toNat_inj.1 (by show b.toNat = 46; omega)
  unfold mayN
  rw [h1, h2, dig_eq]
  rw [Bool.eq_iff_iff]
  simp
  omega
theorem isDigit_is (b : UInt8) (w : World) : Calls Try.prog 67 #[.int .u8 (b.toNat : Int)] w fun e w' => e = .returned (.bool (dig b)) ∧ w' = w := by
  go_enter Try.func67, Try.ntmps67
  go_wp2
  all_goals (
    go_ret
    refine ⟨?_, rfl⟩
    rw [dig_eq]
    show Ending.returned (Value.bool _) = _
    congr 2
    first
      | (simp_all; done)
      | (simp_all; omega)
      | (rw [Bool.eq_iff_iff]; simp; omega))
theorem mayStandN_is (b : UInt8) (w : World) : Calls Try.prog 54 #[.int .u8 (b.toNat : Int)] w fun e w' => e = .returned (.bool (mayN b)) ∧ w' = w := by
  have K : Hid (Calls Try.prog 67 #[.int .u8 (b.toNat : Int)] w fun e w' => e = .returned (.bool (dig b)) ∧ w' = w) := isDigit_is b w
  rw [mayN_eq]
  generalize hd : dig b = d at *
  have hb := b.toNat_lt
  generalize b.toNat = q at *
  clear hd
  by_cases h1 : (97 : Int) ≤ (q : Int) ∧ (q : Int) ≤ 122
  · have e1 : decide ((97 : Int) ≤ (q : Int)) = true := by simp; omega
    have e2 : decide ((q : Int) ≤ 122) = true := by simp; omega
    rw [e1, e2]
    have i1 : (97 : Int) ≤ (q : Int) := h1.1
    have i2 : (q : Int) ≤ 122 := h1.2
    clear e1 e2 h1
    go_enter Try.func54, Try.ntmps54
    go_wp2_with fail
    go_ret
    exact ⟨rfl, rfl⟩
  · have e0 : (decide ((97 : Int) ≤ (q : Int)) && decide ((q : Int) ≤ 122)) = false := by
      rw [Bool.eq_false_iff]
      intro h
      simp at h
      omega
    rw [e0, Bool.false_or]
    have fin : ∀ {P : Prop}, (¬ (97 : Int) ≤ (q : Int) → P) → ((97 : Int) ≤ (q : Int) → ¬ (q : Int) ≤ 122 → P) → P := fun a b => by
      by_cases h : (97 : Int) ≤ (q : Int)
      · exact b h (fun h2 => h1 ⟨h, h2⟩)
      · exact a h
    clear e0 h1
    refine fin ?_ ?_
    · intro i1
      clear fin
      go_enter Try.func54, Try.ntmps54
      go_wp2_with fail
      refine K.out.mono ?_
      rintro e w' ⟨rfl, hw⟩
      obtain rfl := hw.symm
      clear hw K
      cases d with
      | true =>
        go_wp2_with fail
        go_ret
        exact ⟨rfl, rfl⟩
      | false =>
        go_wp2_with fail
        all_goals (
          go_ret
          refine ⟨?_, rfl⟩
          show Ending.returned (Value.bool _) = _
          congr 2
          first
            | done
            | (simp_all; done)
            | (simp_all; omega)
            | (rw [Bool.eq_iff_iff]; simp; omega))
    · intro i1 i2
      clear fin
      go_enter Try.func54, Try.ntmps54
      go_wp2_with fail
      refine K.out.mono ?_
      rintro e w' ⟨rfl, hw⟩
      obtain rfl := hw.symm
      clear hw K
      cases d with
      | true =>
        go_wp2_with fail
        go_ret
        exact ⟨rfl, rfl⟩
      | false =>
        go_wp2_with fail
        all_goals (
          go_ret
          refine ⟨?_, rfl⟩
          show Ending.returned (Value.bool _) = _
          congr 2
          first
            | done
            | (simp_all; done)
            | (simp_all; omega)
            | (rw [Bool.eq_iff_iff]; simp; omega))
theorem all_take {f : UInt8 → Bool} {S : Tx} {i : Nat} (h : i < S.length) : (S.take (i + 1)).all f = ((S.take i).all f && f (S.getD i 0)) := by
  rw [List.take_succ_eq_append_getElem h, List.all_append]
  simp [List.getD, h]
theorem all_no {f : UInt8 → Bool} {S : Tx} {i : Nat} (h : i < S.length) (hf : f (S.getD i 0) = false) : S.all f = false := by
  rw [List.all_eq_false]
  refine ⟨S[i], List.getElem_mem _, ?_⟩
  have : S.getD i 0 = S[i] := by simp [List.getD, h]
  rw [← this, hf]
  simp
set_option maxHeartbeats 2000000 in
theorem isName_is (S : Tx) (hl : S.length ≤ 140737488355328) (w : World) : Calls Try.prog 48 #[.string (tx S)] w fun e w' => e = .returned (.bool (nmOk S)) ∧ Below w.heap.size w w' := by
  have hs := tx_size S
  obtain ⟨n, hn⟩ : ∃ n, n = S.length := ⟨_, rfl⟩
  rw [← hn] at hs hl
  have HN : Hid (S.length = n) := hn.symm
  by_cases h0 : S.length = 0
  · have HR : Hid (nmOk S = false) := by show _ = _; unfold nmOk; rw [h0]; rfl
    rw [HR.out]
    have i0 : ((n : Nat) : Int) = 0 := by omega
    clear h0 hn
    go_enter Try.func48, Try.ntmps48
    go_wp2_with fail
    go_ret
    exact ⟨rfl, Below.refl _ _⟩
  · have i0 : ¬ ((n : Nat) : Int) = 0 := by omega
    by_cases h16 : 16 < S.length
    · have HR : Hid (nmOk S = false) := by
        show _ = _
        unfold nmOk
        have : decide (S.length ≤ 16) = false := by simp; omega
        rw [this]
        simp
      rw [HR.out]
      have i1 : (16 : Int) < ((n : Nat) : Int) := by omega
      clear h0 hn h16
      go_enter Try.func48, Try.ntmps48
      go_wp2_with fail
      go_ret
      exact ⟨rfl, Below.refl _ _⟩
    · have i1 : ¬ (16 : Int) < ((n : Nat) : Int) := by omega
      have HR : Hid (nmOk S = S.all mayN) := by
        show _ = _
        unfold nmOk
        have e1 : decide (1 ≤ S.length) = true := by simp; omega
        have e2 : decide (S.length ≤ 16) = true := by simp; omega
        rw [e1, e2]
        simp
      rw [HR.out]
      obtain ⟨r, hr⟩ : ∃ r, r = S.all mayN := ⟨_, rfl⟩
      have HA : Hid (S.all mayN = r) := hr.symm
      rw [← hr]
      clear hr h0 h16 hn
      go_enter Try.func48, Try.ntmps48
      go_wp2_with fail
      go_loopg [14] n (fun g i wr => ∃ (j : Nat), j ≤ n ∧ g = n - j ∧ i = .int .i64 j ∧ Hid ((S.take j).all mayN = true) ∧ wr = w)
      case atStart => exact ⟨0, Nat.zero_le _, rfl, rfl, rfl, rfl⟩
      case round =>
        obtain ⟨j, hj, rfl, rfl, HT, rfl⟩ := hrel
        by_cases hlt : j < n
        · have j1 : (j : Int) < ((n : Nat) : Int) := by omega
          have hlt' : j < S.length := by rw [HN.out]; exact hlt
          have ix := run_index_txD S j hlt'
          have K : Hid (∀ w, Calls Try.prog 54 #[.int .u8 ((S.getD j 0).toNat : Int)] w fun e w' => e = .returned (.bool (mayN (S.getD j 0))) ∧ w' = w) := mayStandN_is _
          cases hm : mayN (S.getD j 0) with
          | true =>
            have HT2 : Hid ((S.take (j + 1)).all mayN = true) := by show _ = _; rw [all_take hlt', HT.out, hm]; rfl
            rw [hm] at K
            clear hlt'
            generalize S.getD j 0 = y at *
            go_wp2_with fail
            refine (K.out _).mono ?_
            rintro e w' ⟨rfl, hw⟩
            obtain rfl := hw.symm
            clear hw
            go_wp2_with fail
            go_roundg (n - (j + 1))
            case measure => omega
            case rel => exact ⟨j + 1, by omega, rfl, by go_num, HT2, rfl⟩
          | false =>
            have HF : Hid (r = false) := by show _ = _; rw [← HA.out]; exact all_no hlt' hm
            rw [hm] at K
            clear hlt'
            generalize S.getD j 0 = y at *
            go_wp2_with fail
            refine (K.out _).mono ?_
            rintro e w' ⟨rfl, hw⟩
            obtain rfl := hw.symm
            clear hw
            go_wp2_with fail
            go_ret
            refine ⟨?_, Below.refl _ _⟩
            rw [HF.out]
            rfl
        · have e : j = n := by omega
          subst e
          have j1 : ¬ ((j : Nat) : Int) < ((j : Nat) : Int) := by omega
          have HF : Hid (r = true) := by show _ = _; rw [← HA.out]; have := HT.out; rwa [List.take_of_length_le (by rw [HN.out]; omega)] at this
          go_wp2_with fail
          go_ret
          refine ⟨?_, Below.refl _ _⟩
          rw [HF.out]
          rfl
end Go.Proofs.Ythaeidbnbgghkab
