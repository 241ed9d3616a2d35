/- Plain facts on SHA-256, over numbers without a bound: no Go in sight. Rows of numbers of 32 bits; contracts of sha.rot and of one step of a block. Rows of numbers of 32 bits; one step of a block: turned. -/
import Derived.Test.YtlddoobomjcldaaDoorMgLc0
import Derived.Deep.WholeRow
import Derived.Deep.MidRow
import Derived.Deep.RegionWith
import Derived.Deep.RegionHeld3
import Derived.Lib.SlBytesConst
namespace Go.Proofs.YtlddoobomjcldaaDoor
set_option linter.unusedVariables false

def ad (a b : Nat) : Nat := (a + b) % 4294967296
def xo (a b : Nat) : Nat := (a ^^^ b) % 4294967296
def an (a b : Nat) : Nat := (a &&& b) % 4294967296
/-- x turned to the right by n -/
def rotr (x n : Nat) : Nat := ad (x / 2 ^ n) (x * 2 ^ (32 - n) % 4294967296)
theorem ad_lt (a b : Nat) : ad a b < 4294967296 := Nat.mod_lt _ (by decide)
theorem xo_lt (a b : Nat) : xo a b < 4294967296 := Nat.mod_lt _ (by decide)
theorem an_lt (a b : Nat) : an a b < 4294967296 := Nat.mod_lt _ (by decide)
theorem rotr_lt (x n : Nat) : rotr x n < 4294967296 := ad_lt _ _
/-- one step of a block's 64 -/
def turnT (l : List Nat) (add : Nat) : Nat :=
  ad (ad (ad (l.getD 7 0) (xo (xo (rotr (l.getD 4 0) 6) (rotr (l.getD 4 0) 11)) (rotr (l.getD 4 0) 25))) (xo (an (l.getD 4 0) (l.getD 5 0)) (an (xo 4294967295 (l.getD 4 0)) (l.getD 6 0)))) add
def turnU (l : List Nat) : Nat :=
  ad (xo (xo (rotr (l.getD 0 0) 2) (rotr (l.getD 0 0) 13)) (rotr (l.getD 0 0) 22)) (xo (xo (an (l.getD 0 0) (l.getD 1 0)) (an (l.getD 0 0) (l.getD 2 0))) (an (l.getD 1 0) (l.getD 2 0)))
def turn (l : List Nat) (add : Nat) : List Nat :=
  [ad (turnT l add) (turnU l), l.getD 0 0, l.getD 1 0, l.getD 2 0, ad (l.getD 3 0) (turnT l add), l.getD 4 0, l.getD 5 0, l.getD 6 0]
/-- the numbers k -/
def kT : List Nat := [1116352408, 1899447441, 3049323471, 3921009573, 961987163, 1508970993, 2453635748, 2870763221, 3624381080, 310598401, 607225278, 1426881987, 1925078388, 2162078206, 2614888103, 3248222580, 3835390401, 4022224774, 264347078, 604807628, 770255983, 1249150122, 1555081692, 1996064986, 2554220882, 2821834349, 2952996808, 3210313671, 3336571891, 3584528711, 113926993, 338241895, 666307205, 773529912, 1294757372, 1396182291, 1695183700, 1986661051, 2177026350, 2456956037, 2730485921, 2820302411, 3259730800, 3345764771, 3516065817, 3600352804, 4094571909, 275423344, 430227734, 506948616, 659060556, 883997877, 958139571, 1322822218, 1537002063, 1747873779, 1955562222, 2024104815, 2227730452, 2361852424, 2428436474, 2756734187, 3204031479, 3329325298]
def sg0 (x : Nat) : Nat := xo (xo (rotr x 7) (rotr x 18)) (x / 8)
def sg1 (x : Nat) : Nat := xo (xo (rotr x 17) (rotr x 19)) (x / 1024)
/-- a byte comes into the words -/
def wb (l : List Nat) (c : Nat) (b : Nat) : List Nat := l.set (c / 4) (ad (l.getD (c / 4) 0 * 256 % 4294967296) b)
/-- the next word of those that are made -/
def wn (l : List Nat) (i : Nat) : Nat := ad (ad (ad (l.getD (i - 16) 0) (sg0 (l.getD (i - 15) 0))) (l.getD (i - 7) 0)) (sg1 (l.getD (i - 2) 0))
def ws (B : List Int) : Nat → List Nat
  | 0 => List.replicate 64 0
  | c + 1 => wb (ws B c) c (B.getD c 0).toNat
def wx (l : List Nat) : Nat → List Nat
  | 0 => l
  | k + 1 => (wx l k).set (16 + k) (wn (wx l k) (16 + k))
def words (B : List Int) : List Nat := wx (ws B 64) 48
/-- the numbers behind i steps -/
def tn (s W : List Nat) : Nat → List Nat
  | 0 => s
  | i + 1 => turn (tn s W i) (ad (kT.getD i 0) (W.getD i 0))
/-- the first i of them added -/
def adds (s t : List Nat) : Nat → List Nat
  | 0 => s
  | i + 1 => (adds s t i).set i (ad ((adds s t i).getD i 0) (t.getD i 0))
def blk (s : List Nat) (B : List Int) : List Nat := adds s (tn s (words B) 64) 8
def first8 : List Nat := [1779033703, 3144134277, 1013904242, 2773480762, 1359893119, 2600822924, 528734635, 1541459225]
/-- what n whole blocks made of the numbers -/
def numsN (L : List Int) : Nat → List Nat
  | 0 => first8
  | n + 1 => blk (numsN L n) ((L.drop (64 * n)).take 64)
def nums (L : List Int) : List Nat := numsN L (L.length / 64)
/-- how many zeros come behind n bytes -/
def zerosN (n : Nat) : Nat := (64 - (n + 9) % 64) % 64
/-- what comes behind n bytes -/
def endL (n : Nat) : List Int := 128 :: (List.replicate (zerosN n) 0 ++ Go.Proofs.YtlddoobomjcldaaDoor.fixL (8 * n : Nat) 8)
def digL (s : List Nat) : List Int := (List.range 32).map fun i => ((s.getD (i / 4) 0 / 2 ^ (24 - 8 * (i % 4)) % 256 : Nat) : Int)
/-- the sum of bytes -/
def shaL (L : List Int) : List Int := digL (nums (L ++ endL L.length))
set_option maxRecDepth 100000 in
theorem abc_sum : shaL [97, 98, 99] = [186, 120, 22, 191, 143, 1, 207, 234, 65, 65, 64, 222, 93, 174, 34, 35, 176, 3, 97, 163, 150, 23, 122, 156, 180, 16, 255, 97, 242, 0, 21, 173] := by decide +kernel
end Go.Proofs.YtlddoobomjcldaaDoor
namespace Go.Proofs.YtlddoobomjcldaaDoor
open Go.ChangeShapes Go.WideShapes Go.ChangeAt Go.RowKit Go.Deep
set_option linter.unusedVariables false
theorem add32 (a b : Nat) : ((a : Int) + (b : Int)) % 4294967296 = ((ad a b : Nat) : Int) := by simp [ad]
theorem mod_of_lt {a : Nat} (h : a < 4294967296) : a % 4294967296 = a := Nat.mod_eq_of_lt h
theorem xor32 (a b : Nat) (ha : a < 4294967296) (hb : b < 4294967296) : bits .xor .u32 (a : Int) (b : Int) = ((xo a b : Nat) : Int) := by
  rw [u32_xor_nat a b ha hb]
  have h : a ^^^ b < 2 ^ 32 := Nat.xor_lt_two_pow (by simpa using ha) (by simpa using hb)
  unfold xo
  rw [Nat.mod_eq_of_lt (by simpa using h)]
theorem and32 (a b : Nat) (ha : a < 4294967296) (hb : b < 4294967296) : bits .and .u32 (a : Int) (b : Int) = ((an a b : Nat) : Int) := by
  rw [u32_and_nat a b ha hb]
  have h : a &&& b < 2 ^ 32 := Nat.and_lt_two_pow a (by simpa using hb)
  unfold an
  rw [Nat.mod_eq_of_lt (by simpa using h)]
theorem or_add (x n : Nat) (hx : x < 4294967296) (hn : n ≤ 32) : (x * 2 ^ (32 - n) % 4294967296) ||| (x / 2 ^ n) = rotr x n := by
  have e32 : (4294967296 : Nat) = 2 ^ 32 := by decide
  have hsplit : (2 : Nat) ^ 32 = 2 ^ n * 2 ^ (32 - n) := by rw [← Nat.pow_add]; congr 1; omega
  have hlow : x / 2 ^ n < 2 ^ (32 - n) := by
    rw [Nat.div_lt_iff_lt_mul (Nat.two_pow_pos n), Nat.mul_comm, ← hsplit, ← e32]; exact hx
  have hhigh : x * 2 ^ (32 - n) % 4294967296 = (x % 2 ^ n) * 2 ^ (32 - n) := by
    rw [e32, hsplit, Nat.mul_mod_mul_right]
  have hor : (x % 2 ^ n) * 2 ^ (32 - n) ||| (x / 2 ^ n) = (x % 2 ^ n) * 2 ^ (32 - n) + x / 2 ^ n := by
    have := Nat.shiftLeft_add_eq_or_of_lt hlow (x % 2 ^ n)
    rw [Nat.shiftLeft_eq] at this
    exact this.symm
  have hm : x % 2 ^ n < 2 ^ n := Nat.mod_lt _ (Nat.two_pow_pos n)
  have hsum : (x % 2 ^ n) * 2 ^ (32 - n) + x / 2 ^ n < 4294967296 := by
    have h1 : (x % 2 ^ n + 1) * 2 ^ (32 - n) ≤ 2 ^ n * 2 ^ (32 - n) := Nat.mul_le_mul_right _ hm
    rw [← hsplit, ← e32, Nat.add_mul, Nat.one_mul] at h1
    omega
  unfold rotr ad
  rw [hhigh, hor, Nat.add_comm (x / 2 ^ n), Nat.mod_eq_of_lt hsum]
theorem shl_lt (x n : Nat) : x * 2 ^ n % 4294967296 < 4294967296 := Nat.mod_lt _ (by decide)
theorem shr_lt (x n : Nat) (h : x < 4294967296) : x / 2 ^ n < 4294967296 := Nat.lt_of_le_of_lt (Nat.div_le_self _ _) h
theorem orI (x n : Nat) (hx : x < 4294967296) (hn : n ≤ 32) : bits .or .u32 ((x : Int) * 2 ^ (32 - n) % 4294967296) ((x : Int) / 2 ^ n) = ((rotr x n : Nat) : Int) := by
  have e1 : (x : Int) * 2 ^ (32 - n) % 4294967296 = ((x * 2 ^ (32 - n) % 4294967296 : Nat) : Int) := by simp
  have e2 : (x : Int) / 2 ^ n = ((x / 2 ^ n : Nat) : Int) := by simp
  rw [e1, e2, u32_or_nat _ _ (shl_lt _ _) (shr_lt x n hx), or_add x n hx hn]
theorem rotateLeft_is (x n : Nat) (hx : x < 4294967296) (hn : n ∈ [2, 6, 7, 11, 13, 17, 18, 19, 22, 25]) (w : World) :
    Calls Tryd.prog 115 #[.int .u32 x, .int .i64 (-(n : Int))] w fun e w' => e = .returned (.int .u32 (rotr x n : Nat)) ∧ w' = w := by
  have k : Hid (∀ n, n ≤ 32 → bits .or .u32 ((x : Int) * 2 ^ (32 - n) % 4294967296) ((x : Int) / 2 ^ n) = ((rotr x n : Nat) : Int)) := fun n h => orI x n hx h
  simp only [List.mem_cons, List.not_mem_nil, or_false] at hn
  rcases hn with rfl | rfl | rfl | rfl | rfl | rfl | rfl | rfl | rfl | rfl
  · have ea : bits .and .u64 (IntKind.u64.wrap (-2)) 31 = 30 := by decide
    go_enter Tryd.func115, Tryd.ntmps115
    go_wp2
    go_ret
    exact ⟨by have := k.out 2 (by decide); simpa using this, rfl⟩
  · have ea : bits .and .u64 (IntKind.u64.wrap (-6)) 31 = 26 := by decide
    go_enter Tryd.func115, Tryd.ntmps115
    go_wp2
    go_ret
    exact ⟨by have := k.out 6 (by decide); simpa using this, rfl⟩
  · have ea : bits .and .u64 (IntKind.u64.wrap (-7)) 31 = 25 := by decide
    go_enter Tryd.func115, Tryd.ntmps115
    go_wp2
    go_ret
    exact ⟨by have := k.out 7 (by decide); simpa using this, rfl⟩
  · have ea : bits .and .u64 (IntKind.u64.wrap (-11)) 31 = 21 := by decide
    go_enter Tryd.func115, Tryd.ntmps115
    go_wp2
    go_ret
    exact ⟨by have := k.out 11 (by decide); simpa using this, rfl⟩
  · have ea : bits .and .u64 (IntKind.u64.wrap (-13)) 31 = 19 := by decide
    go_enter Tryd.func115, Tryd.ntmps115
    go_wp2
    go_ret
    exact ⟨by have := k.out 13 (by decide); simpa using this, rfl⟩
  · have ea : bits .and .u64 (IntKind.u64.wrap (-17)) 31 = 15 := by decide
    go_enter Tryd.func115, Tryd.ntmps115
    go_wp2
    go_ret
    exact ⟨by have := k.out 17 (by decide); simpa using this, rfl⟩
  · have ea : bits .and .u64 (IntKind.u64.wrap (-18)) 31 = 14 := by decide
    go_enter Tryd.func115, Tryd.ntmps115
    go_wp2
    go_ret
    exact ⟨by have := k.out 18 (by decide); simpa using this, rfl⟩
  · have ea : bits .and .u64 (IntKind.u64.wrap (-19)) 31 = 13 := by decide
    go_enter Tryd.func115, Tryd.ntmps115
    go_wp2
    go_ret
    exact ⟨by have := k.out 19 (by decide); simpa using this, rfl⟩
  · have ea : bits .and .u64 (IntKind.u64.wrap (-22)) 31 = 10 := by decide
    go_enter Tryd.func115, Tryd.ntmps115
    go_wp2
    go_ret
    exact ⟨by have := k.out 22 (by decide); simpa using this, rfl⟩
  · have ea : bits .and .u64 (IntKind.u64.wrap (-25)) 31 = 7 := by decide
    go_enter Tryd.func115, Tryd.ntmps115
    go_wp2
    go_ret
    exact ⟨by have := k.out 25 (by decide); simpa using this, rfl⟩
theorem rot_is (x n : Nat) (hx : x < 4294967296) (hn : n ∈ [2, 6, 7, 11, 13, 17, 18, 19, 22, 25]) (w : World) :
    Calls Tryd.prog 103 #[.int .u32 x, .int .i64 (n : Int)] w fun e w' => e = .returned (.int .u32 (rotr x n : Nat)) ∧ w' = w := by
  have H : Hid (Calls Tryd.prog 115 #[.int .u32 x, .int .i64 (-(n : Int))] w fun e w' => e = .returned (.int .u32 (rotr x n : Nat)) ∧ w' = w) := rotateLeft_is x n hx hn w
  have hn' : n ≤ 25 := by
    simp only [List.mem_cons, List.not_mem_nil, or_false] at hn
    omega
  clear hn
  go_enter Tryd.func103, Tryd.ntmps103
  go_wp2_with (go_at_call 115; refine H.out.mono ?_; rintro e w' ⟨rfl, hw⟩; obtain rfl := hw.symm; clear hw)
  go_ret
  exact ⟨rfl, rfl⟩
end Go.Proofs.YtlddoobomjcldaaDoor
namespace Go.Proofs.YtlddoobomjcldaaDoor
open Go.ChangeShapes Go.WideShapes Go.ChangeAt Go.RowKit Go.Deep
set_option linter.unusedVariables false
/-- numbers as cells -/
def u32s (l : List Nat) : Array Value := (l.map fun x : Nat => Value.int .u32 (x : Int)).toArray
theorem u32s_size (l : List Nat) : (u32s l).size = l.length := by simp [u32s]
theorem u32s_get (l : List Nat) (i : Nat) (h : i < l.length) : (u32s l)[i]? = some (.int .u32 ((l.getD i 0 : Nat) : Int)) := by
  simp [u32s, List.getD, List.getElem?_eq_getElem h]
theorem u32s_set (l : List Nat) (i x : Nat) : (u32s l).setIfInBounds i (.int .u32 (x : Int)) = u32s (l.set i x) := by
  simp [u32s, List.map_set]
theorem u32s_one (l : List Nat) : (u32s l).all (·.oneCell') = true := by
  rw [Array.all_eq_true]
  intro i h
  simp [u32s, Value.oneCell']
def all32 (l : List Nat) : Prop := ∀ x ∈ l, x < 4294967296
theorem all32.get {l : List Nat} (h : all32 l) (i : Nat) : l.getD i 0 < 4294967296 := by
  by_cases hi : i < l.length
  · have := h _ (List.getElem_mem hi)
    simpa [List.getD, List.getElem?_eq_getElem hi] using this
  · simp [List.getD, List.getElem?_eq_none (by omega : l.length ≤ i)]
theorem all32.set {l : List Nat} (h : all32 l) (i x : Nat) (hx : x < 4294967296) : all32 (l.set i x) := by
  intro y hy
  rcases List.mem_or_eq_of_mem_set hy with h1 | rfl
  · exact h y h1
  · exact hx
theorem list8 (l : List Nat) (h : l.length = 8) : ∃ a b c d e f g i, l = [a, b, c, d, e, f, g, i] := by
  match l, h with
  | [a, b, c, d, e, f, g, i], _ => exact ⟨a, b, c, d, e, f, g, i, rfl⟩
theorem turn_len (l : List Nat) (add : Nat) : (turn l add).length = 8 := rfl
theorem turn_all (l : List Nat) (add : Nat) (h : all32 l) : all32 (turn l add) := by
  intro x hx
  simp only [turn, List.mem_cons, List.not_mem_nil, or_false] at hx
  rcases hx with rfl | rfl | rfl | rfl | rfl | rfl | rfl | rfl
  · exact ad_lt _ _
  · exact h.get _
  · exact h.get _
  · exact h.get _
  · exact ad_lt _ _
  · exact h.get _
  · exact h.get _
  · exact h.get _
theorem heap_two (w : World) (a b : Obj) : ((w.alloc a).alloc b).drew.heap[w.heap.size + 1]? = some b := by
  have := heap_alloc_last (w.alloc a) b
  rwa [World.size_alloc] at this
theorem size8 : (Tryd.prog.info? 119).map (·.size) = some 8 := by kernel_rfl
theorem size8l (l : List Nat) (h : l.length = 8) : (Tryd.prog.info? 119).map (·.size) = some (u32s l).size := by rw [u32s_size, h]; exact size8
set_option maxHeartbeats 4000000 in
theorem turned_lit (a b c d e f g h x : Nat) (ha : a < 4294967296) (hb : b < 4294967296) (hc : c < 4294967296) (hd : d < 4294967296) (he : e < 4294967296) (hf : f < 4294967296) (hg : g < 4294967296) (hh : h < 4294967296) (hx : x < 4294967296) (w : World) :
    Calls Tryd.prog 96 #[.agg #[.int .u32 (a : Nat), .int .u32 (b : Nat), .int .u32 (c : Nat), .int .u32 (d : Nat), .int .u32 (e : Nat), .int .u32 (f : Nat), .int .u32 (g : Nat), .int .u32 (h : Nat)], .int .u32 (x : Nat)] w fun o w' => o = .returned (.agg (u32s (turn [a, b, c, d, e, f, g, h] x))) ∧ Below w.heap.size w w' := by
  have X : ∀ a b : Nat, a < 4294967296 → b < 4294967296 → bits .xor .u32 (a : Int) (b : Int) = ((xo a b : Nat) : Int) := xor32
  have AN : ∀ a b : Nat, a < 4294967296 → b < 4294967296 → bits .and .u32 (a : Int) (b : Int) = ((an a b : Nat) : Int) := and32
  have L1 := rotr_lt
  have L2 := xo_lt
  have L3 := an_lt
  have ce : bits .xor .u32 IntKind.u32.max (e : Int) = ((xo 4294967295 e : Nat) : Int) := by
    rw [show IntKind.u32.max = ((4294967295 : Nat) : Int) by decide]
    exact xor32 _ _ (by decide) he
  go_enter Tryd.func96, Tryd.ntmps96
  go_wp2_with fail
  refine wp_region_noPanic ?_
  refine wp_region_held_drew (S := (fun W : World => W.cell? ⟨w.heap.size, 0, none⟩ = some (.int .u32 (a : Nat)) ∧ W.cell? ⟨w.heap.size, 1, none⟩ = some (.int .u32 (b : Nat)) ∧ W.cell? ⟨w.heap.size, 2, none⟩ = some (.int .u32 (c : Nat)) ∧ W.cell? ⟨w.heap.size, 3, none⟩ = some (.int .u32 (d : Nat)) ∧ W.cell? ⟨w.heap.size, 4, none⟩ = some (.int .u32 (e : Nat)) ∧ W.cell? ⟨w.heap.size, 5, none⟩ = some (.int .u32 (f : Nat)) ∧ W.cell? ⟨w.heap.size, 6, none⟩ = some (.int .u32 (g : Nat)) ∧ W.cell? ⟨w.heap.size, 7, none⟩ = some (.int .u32 (h : Nat)))) (by kernel_rfl) ?hSa (fun hHeld => ?resta)
  case hSa => simp [go_sem]
  case resta =>
    refine wpAnyH_take (i := 0) (v := ?v0) rfl (by kernel_rfl) (by kernel_rfl) (by kernel_rfl) (fun _ _ _ h => h) (Or.inl ⟨by rfl, ?hy0⟩) hHeld ?rest0
    case hy0 => (intro w hSw; (try dsimp only at hSw); go_simp; try with_reducible rfl)
    try simp only [Act.put, List.setIfInBounds_toArray, List.set_cons_zero, List.set_cons_succ, List.getElem_toArray, List.getElem_cons_zero]
    refine wpAnyH_take (i := 1) (v := .int .u32 (a : Nat)) rfl (by kernel_rfl) (by kernel_rfl) (by kernel_rfl) (fun _ _ _ h => h) (Or.inl ⟨by rfl, ?hy1⟩) hHeld ?rest1
    case hy1 => (intro w hSw; obtain ⟨h0, h1, h2, h3, h4, h5, h6, h7⟩ := hSw; go_simp; try with_reducible rfl)
    try simp only [Act.put, List.setIfInBounds_toArray, List.set_cons_zero, List.set_cons_succ, List.getElem_toArray, List.getElem_cons_zero, List.getElem_cons_succ]
    refine wpAnyH_take (i := 2) (v := ?v2) rfl (by kernel_rfl) (by kernel_rfl) (by kernel_rfl) (fun _ _ _ h => h) (Or.inl ⟨by rfl, ?hy2⟩) hHeld ?rest2
    case hy2 => (intro w hSw; (try dsimp only at hSw); go_simp; try with_reducible rfl)
    try simp only [Act.put, List.setIfInBounds_toArray, List.set_cons_zero, List.set_cons_succ, List.getElem_toArray, List.getElem_cons_zero, List.getElem_cons_succ]
    refine wpAnyH_take (i := 3) (v := .int .u32 (b : Nat)) rfl (by kernel_rfl) (by kernel_rfl) (by kernel_rfl) (fun _ _ _ h => h) (Or.inl ⟨by rfl, ?hy3⟩) hHeld ?rest3
    case hy3 => (intro w hSw; obtain ⟨h0, h1, h2, h3, h4, h5, h6, h7⟩ := hSw; go_simp; try with_reducible rfl)
    try simp only [Act.put, List.setIfInBounds_toArray, List.set_cons_zero, List.set_cons_succ, List.getElem_toArray, List.getElem_cons_zero, List.getElem_cons_succ]
    refine wpAnyH_take (i := 4) (v := ?v4) rfl (by kernel_rfl) (by kernel_rfl) (by kernel_rfl) (fun _ _ _ h => h) (Or.inl ⟨by rfl, ?hy4⟩) hHeld ?rest4
    case hy4 => (intro w hSw; (try dsimp only at hSw); go_simp; try with_reducible rfl)
    try simp only [Act.put, List.setIfInBounds_toArray, List.set_cons_zero, List.set_cons_succ, List.getElem_toArray, List.getElem_cons_zero, List.getElem_cons_succ]
    refine wpAnyH_take (i := 5) (v := .int .u32 (c : Nat)) rfl (by kernel_rfl) (by kernel_rfl) (by kernel_rfl) (fun _ _ _ h => h) (Or.inl ⟨by rfl, ?hy5⟩) hHeld ?rest5
    case hy5 => (intro w hSw; obtain ⟨h0, h1, h2, h3, h4, h5, h6, h7⟩ := hSw; go_simp; try with_reducible rfl)
    try simp only [Act.put, List.setIfInBounds_toArray, List.set_cons_zero, List.set_cons_succ, List.getElem_toArray, List.getElem_cons_zero, List.getElem_cons_succ]
    refine wpAnyH_take (i := 6) (v := ?v6) rfl (by kernel_rfl) (by kernel_rfl) (by kernel_rfl) (fun _ _ _ h => h) (Or.inl ⟨by rfl, ?hy6⟩) hHeld ?rest6
    case hy6 => (intro w hSw; (try dsimp only at hSw); go_simp; try with_reducible rfl)
    try simp only [Act.put, List.setIfInBounds_toArray, List.set_cons_zero, List.set_cons_succ, List.getElem_toArray, List.getElem_cons_zero, List.getElem_cons_succ]
    refine wpAnyH_take (i := 7) (v := .int .u32 (d : Nat)) rfl (by kernel_rfl) (by kernel_rfl) (by kernel_rfl) (fun _ _ _ h => h) (Or.inl ⟨by rfl, ?hy7⟩) hHeld ?rest7
    case hy7 => (intro w hSw; obtain ⟨h0, h1, h2, h3, h4, h5, h6, h7⟩ := hSw; go_simp; try with_reducible rfl)
    try simp only [Act.put, List.setIfInBounds_toArray, List.set_cons_zero, List.set_cons_succ, List.getElem_toArray, List.getElem_cons_zero, List.getElem_cons_succ]
    refine wpAnyH_take (i := 8) (v := ?v8) rfl (by kernel_rfl) (by kernel_rfl) (by kernel_rfl) (fun _ _ _ h => h) (Or.inl ⟨by rfl, ?hy8⟩) hHeld ?rest8
    case hy8 => (intro w hSw; (try dsimp only at hSw); go_simp; try with_reducible rfl)
    try simp only [Act.put, List.setIfInBounds_toArray, List.set_cons_zero, List.set_cons_succ, List.getElem_toArray, List.getElem_cons_zero, List.getElem_cons_succ]
    refine wpAnyH_take (i := 9) (v := .int .u32 (e : Nat)) rfl (by kernel_rfl) (by kernel_rfl) (by kernel_rfl) (fun _ _ _ h => h) (Or.inl ⟨by rfl, ?hy9⟩) hHeld ?rest9
    case hy9 => (intro w hSw; obtain ⟨h0, h1, h2, h3, h4, h5, h6, h7⟩ := hSw; go_simp; try with_reducible rfl)
    try simp only [Act.put, List.setIfInBounds_toArray, List.set_cons_zero, List.set_cons_succ, List.getElem_toArray, List.getElem_cons_zero, List.getElem_cons_succ]
    refine wpAnyH_take (i := 10) (v := ?v10) rfl (by kernel_rfl) (by kernel_rfl) (by kernel_rfl) (fun _ _ _ h => h) (Or.inl ⟨by rfl, ?hy10⟩) hHeld ?rest10
    case hy10 => (intro w hSw; (try dsimp only at hSw); go_simp; try with_reducible rfl)
    try simp only [Act.put, List.setIfInBounds_toArray, List.set_cons_zero, List.set_cons_succ, List.getElem_toArray, List.getElem_cons_zero, List.getElem_cons_succ]
    refine wpAnyH_take (i := 11) (v := .int .u32 (f : Nat)) rfl (by kernel_rfl) (by kernel_rfl) (by kernel_rfl) (fun _ _ _ h => h) (Or.inl ⟨by rfl, ?hy11⟩) hHeld ?rest11
    case hy11 => (intro w hSw; obtain ⟨h0, h1, h2, h3, h4, h5, h6, h7⟩ := hSw; go_simp; try with_reducible rfl)
    try simp only [Act.put, List.setIfInBounds_toArray, List.set_cons_zero, List.set_cons_succ, List.getElem_toArray, List.getElem_cons_zero, List.getElem_cons_succ]
    refine wpAnyH_take (i := 12) (v := ?v12) rfl (by kernel_rfl) (by kernel_rfl) (by kernel_rfl) (fun _ _ _ h => h) (Or.inl ⟨by rfl, ?hy12⟩) hHeld ?rest12
    case hy12 => (intro w hSw; (try dsimp only at hSw); go_simp; try with_reducible rfl)
    try simp only [Act.put, List.setIfInBounds_toArray, List.set_cons_zero, List.set_cons_succ, List.getElem_toArray, List.getElem_cons_zero, List.getElem_cons_succ]
    refine wpAnyH_take (i := 13) (v := .int .u32 (g : Nat)) rfl (by kernel_rfl) (by kernel_rfl) (by kernel_rfl) (fun _ _ _ h => h) (Or.inl ⟨by rfl, ?hy13⟩) hHeld ?rest13
    case hy13 => (intro w hSw; obtain ⟨h0, h1, h2, h3, h4, h5, h6, h7⟩ := hSw; go_simp; try with_reducible rfl)
    try simp only [Act.put, List.setIfInBounds_toArray, List.set_cons_zero, List.set_cons_succ, List.getElem_toArray, List.getElem_cons_zero, List.getElem_cons_succ]
    refine wpAnyH_take (i := 14) (v := ?v14) rfl (by kernel_rfl) (by kernel_rfl) (by kernel_rfl) (fun _ _ _ h => h) (Or.inl ⟨by rfl, ?hy14⟩) hHeld ?rest14
    case hy14 => (intro w hSw; (try dsimp only at hSw); go_simp; try with_reducible rfl)
    try simp only [Act.put, List.setIfInBounds_toArray, List.set_cons_zero, List.set_cons_succ, List.getElem_toArray, List.getElem_cons_zero, List.getElem_cons_succ]
    refine wpAnyH_take (i := 15) (v := .int .u32 (h : Nat)) rfl (by kernel_rfl) (by kernel_rfl) (by kernel_rfl) (fun _ _ _ h => h) (Or.inl ⟨by rfl, ?hy15⟩) hHeld ?rest15
    case hy15 => (intro w hSw; obtain ⟨h0, h1, h2, h3, h4, h5, h6, h7⟩ := hSw; go_simp; try with_reducible rfl)
    try simp only [Act.put, List.setIfInBounds_toArray, List.set_cons_zero, List.set_cons_succ, List.getElem_toArray, List.getElem_cons_zero, List.getElem_cons_succ]
    refine wpAnyH_take (i := 16) (v := ?v16) rfl (by kernel_rfl) (by kernel_rfl) (by kernel_rfl) (fun _ _ _ h => h) (Or.inl ⟨by rfl, ?hy16⟩) hHeld ?rest16
    case hy16 => (intro w hSw; (try dsimp only at hSw); go_simp; try with_reducible rfl)
    try simp only [Act.put, List.setIfInBounds_toArray, List.set_cons_zero, List.set_cons_succ, List.getElem_toArray, List.getElem_cons_zero, List.getElem_cons_succ]
    refine wpAnyH_take (i := 17) (v := ?v17) rfl (by kernel_rfl) (by kernel_rfl) (by kernel_rfl) (fun _ _ _ h => h) (Or.inl ⟨by rfl, ?hy17⟩) hHeld ?rest17
    case hy17 => (intro w hSw; (try dsimp only at hSw); go_simp; try with_reducible rfl)
    try simp only [Act.put, List.setIfInBounds_toArray, List.set_cons_zero, List.set_cons_succ, List.getElem_toArray, List.getElem_cons_zero, List.getElem_cons_succ]
    refine wpAnyH_take (i := 18) (v := ?v18) rfl (by kernel_rfl) (by kernel_rfl) (by kernel_rfl) (fun _ _ _ h => h) (Or.inl ⟨by rfl, ?hy18⟩) hHeld ?rest18
    case hy18 => (intro w hSw; (try dsimp only at hSw); go_simp; try with_reducible rfl)
    try simp only [Act.put, List.setIfInBounds_toArray, List.set_cons_zero, List.set_cons_succ, List.getElem_toArray, List.getElem_cons_zero, List.getElem_cons_succ]
    refine wpAnyH_take (i := 19) (v := ?v19) rfl (by kernel_rfl) (by kernel_rfl) (by kernel_rfl) (fun _ _ _ h => h) (Or.inl ⟨by rfl, ?hy19⟩) hHeld ?rest19
    case hy19 => (intro w hSw; (try dsimp only at hSw); go_simp; try with_reducible rfl)
    try simp only [Act.put, List.setIfInBounds_toArray, List.set_cons_zero, List.set_cons_succ, List.getElem_toArray, List.getElem_cons_zero, List.getElem_cons_succ]
    refine wpAnyH_take (i := 20) (v := ?v20) rfl (by kernel_rfl) (by kernel_rfl) (by kernel_rfl) (fun _ _ _ h => h) (Or.inl ⟨by rfl, ?hy20⟩) hHeld ?rest20
    case hy20 => (intro w hSw; (try dsimp only at hSw); go_simp; try with_reducible rfl)
    try simp only [Act.put, List.setIfInBounds_toArray, List.set_cons_zero, List.set_cons_succ, List.getElem_toArray, List.getElem_cons_zero, List.getElem_cons_succ]
    refine wpAnyH_take (i := 21) (v := ?v21) rfl (by kernel_rfl) (by kernel_rfl) (by kernel_rfl) (fun _ _ _ h => h) (Or.inl ⟨by rfl, ?hy21⟩) hHeld ?rest21
    case hy21 => (intro w hSw; (try dsimp only at hSw); go_simp; try with_reducible rfl)
    try simp only [Act.put, List.setIfInBounds_toArray, List.set_cons_zero, List.set_cons_succ, List.getElem_toArray, List.getElem_cons_zero, List.getElem_cons_succ]
    refine wpAnyH_take (i := 22) (v := ?v22) rfl (by kernel_rfl) (by kernel_rfl) (by kernel_rfl) (fun _ _ _ h => h) (Or.inl ⟨by rfl, ?hy22⟩) hHeld ?rest22
    case hy22 => (intro w hSw; (try dsimp only at hSw); go_simp; try with_reducible rfl)
    try simp only [Act.put, List.setIfInBounds_toArray, List.set_cons_zero, List.set_cons_succ, List.getElem_toArray, List.getElem_cons_zero, List.getElem_cons_succ]
    refine wpAnyH_take (i := 23) (v := ?v23) rfl (by kernel_rfl) (by kernel_rfl) (by kernel_rfl) (fun _ _ _ h => h) (Or.inl ⟨by rfl, ?hy23⟩) hHeld ?rest23
    case hy23 => (intro w hSw; (try dsimp only at hSw); go_simp; try with_reducible rfl)
    try simp only [Act.put, List.setIfInBounds_toArray, List.set_cons_zero, List.set_cons_succ, List.getElem_toArray, List.getElem_cons_zero, List.getElem_cons_succ]
    refine wpAnyH_done (by kernel_rfl) ?_ _
    refine NoPanic.normal ?_
    clear hHeld
    go_wp2_with (go_at_call 103; refine (rot_is _ _ (by assumption) (by decide) _).mono ?_; rintro o w' ⟨rfl, hw⟩; obtain rfl := hw.symm; clear hw)
    refine bodyPost_ret (results_cell_row rfl _ _ (w.heap.size + 1) 119 _ (0, 0) _ rfl (heap_two _ _ _) Tryd.underlying119 rfl size8) rfl ⟨?_, ?_⟩
    · congr 2
      simp [u32s, turn, turnT, turnU, ad]
    · exact (((Below.refl _ _).alloc (Nat.le_refl _) _).alloc (by simp) _).drew
theorem turned_is (l : List Nat) (hl : l.length = 8) (h : all32 l) (x : Nat) (hx : x < 4294967296) (w : World) :
    Calls Tryd.prog 96 #[.agg (u32s l), .int .u32 (x : Nat)] w fun o w' => o = .returned (.agg (u32s (turn l x))) ∧ Below w.heap.size w w' := by
  obtain ⟨a, b, c, d, e, f, g, i, rfl⟩ := list8 l hl
  exact turned_lit a b c d e f g i x (h a (by simp)) (h b (by simp)) (h c (by simp)) (h d (by simp)) (h e (by simp)) (h f (by simp)) (h g (by simp)) (h i (by simp)) hx w
end Go.Proofs.YtlddoobomjcldaaDoor
