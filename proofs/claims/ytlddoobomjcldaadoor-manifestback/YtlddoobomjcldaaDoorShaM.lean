/- Plain facts on SHA-256, over numbers without a bound: no Go in sight. -/
import Derived.Test.YtlddoobomjcldaaDoorNumM
namespace Go.Proofs.YtlddoobomjcldaaDoor
set_option linter.unusedVariables false

def ad (a b : Nat) : Nat := (a + b) % 4294967296
def xo (a b : Nat) : Nat := (a ^^^ b) % 4294967296
def an (a b : Nat) : Nat := (a &&& b) % 4294967296
/-- x turned to the right by n -/
def rotr (x n : Nat) : Nat := ad (x / 2 ^ n) (x * 2 ^ (32 - n) % 4294967296)
theorem ad_lt (a b : Nat) : ad a b < 4294967296 := Nat.mod_lt _ (by decide)
theorem xo_lt (a b : Nat) : xo a b < 4294967296 := Nat.mod_lt _ (by decide)
theorem an_lt (a b : Nat) : an a b < 4294967296 := Nat.mod_lt _ (by decide)
theorem rotr_lt (x n : Nat) : rotr x n < 4294967296 := ad_lt _ _
/-- one step of a block's 64 -/
def turnT (l : List Nat) (add : Nat) : Nat :=
  ad (ad (ad (l.getD 7 0) (xo (xo (rotr (l.getD 4 0) 6) (rotr (l.getD 4 0) 11)) (rotr (l.getD 4 0) 25))) (xo (an (l.getD 4 0) (l.getD 5 0)) (an (xo 4294967295 (l.getD 4 0)) (l.getD 6 0)))) add
def turnU (l : List Nat) : Nat :=
  ad (xo (xo (rotr (l.getD 0 0) 2) (rotr (l.getD 0 0) 13)) (rotr (l.getD 0 0) 22)) (xo (xo (an (l.getD 0 0) (l.getD 1 0)) (an (l.getD 0 0) (l.getD 2 0))) (an (l.getD 1 0) (l.getD 2 0)))
def turn (l : List Nat) (add : Nat) : List Nat :=
  [ad (turnT l add) (turnU l), l.getD 0 0, l.getD 1 0, l.getD 2 0, ad (l.getD 3 0) (turnT l add), l.getD 4 0, l.getD 5 0, l.getD 6 0]
/-- the numbers k -/
def kT : List Nat := [1116352408, 1899447441, 3049323471, 3921009573, 961987163, 1508970993, 2453635748, 2870763221, 3624381080, 310598401, 607225278, 1426881987, 1925078388, 2162078206, 2614888103, 3248222580, 3835390401, 4022224774, 264347078, 604807628, 770255983, 1249150122, 1555081692, 1996064986, 2554220882, 2821834349, 2952996808, 3210313671, 3336571891, 3584528711, 113926993, 338241895, 666307205, 773529912, 1294757372, 1396182291, 1695183700, 1986661051, 2177026350, 2456956037, 2730485921, 2820302411, 3259730800, 3345764771, 3516065817, 3600352804, 4094571909, 275423344, 430227734, 506948616, 659060556, 883997877, 958139571, 1322822218, 1537002063, 1747873779, 1955562222, 2024104815, 2227730452, 2361852424, 2428436474, 2756734187, 3204031479, 3329325298]
def sg0 (x : Nat) : Nat := xo (xo (rotr x 7) (rotr x 18)) (x / 8)
def sg1 (x : Nat) : Nat := xo (xo (rotr x 17) (rotr x 19)) (x / 1024)
/-- a byte comes into the words -/
def wb (l : List Nat) (c : Nat) (b : Nat) : List Nat := l.set (c / 4) (ad (l.getD (c / 4) 0 * 256 % 4294967296) b)
/-- the next word of those that are made -/
def wn (l : List Nat) (i : Nat) : Nat := ad (ad (ad (l.getD (i - 16) 0) (sg0 (l.getD (i - 15) 0))) (l.getD (i - 7) 0)) (sg1 (l.getD (i - 2) 0))
def ws (B : List Int) : Nat → List Nat
  | 0 => List.replicate 64 0
  | c + 1 => wb (ws B c) c (B.getD c 0).toNat
def wx (l : List Nat) : Nat → List Nat
  | 0 => l
  | k + 1 => (wx l k).set (16 + k) (wn (wx l k) (16 + k))
def words (B : List Int) : List Nat := wx (ws B 64) 48
/-- the numbers behind i steps -/
def tn (s W : List Nat) : Nat → List Nat
  | 0 => s
  | i + 1 => turn (tn s W i) (ad (kT.getD i 0) (W.getD i 0))
/-- the first i of them added -/
def adds (s t : List Nat) : Nat → List Nat
  | 0 => s
  | i + 1 => (adds s t i).set i (ad ((adds s t i).getD i 0) (t.getD i 0))
def blk (s : List Nat) (B : List Int) : List Nat := adds s (tn s (words B) 64) 8
def first8 : List Nat := [1779033703, 3144134277, 1013904242, 2773480762, 1359893119, 2600822924, 528734635, 1541459225]
/-- what n whole blocks made of the numbers -/
def numsN (L : List Int) : Nat → List Nat
  | 0 => first8
  | n + 1 => blk (numsN L n) ((L.drop (64 * n)).take 64)
def nums (L : List Int) : List Nat := numsN L (L.length / 64)
/-- how many zeros come behind n bytes -/
def zerosN (n : Nat) : Nat := (64 - (n + 9) % 64) % 64
/-- what comes behind n bytes -/
def endL (n : Nat) : List Int := 128 :: (List.replicate (zerosN n) 0 ++ Go.Proofs.YtlddoobomjcldaaDoor.fixL (8 * n : Nat) 8)
def digL (s : List Nat) : List Int := (List.range 32).map fun i => ((s.getD (i / 4) 0 / 2 ^ (24 - 8 * (i % 4)) % 256 : Nat) : Int)
/-- the sum of bytes -/
def shaL (L : List Int) : List Int := digL (nums (L ++ endL L.length))
set_option maxRecDepth 100000 in
theorem abc_sum : shaL [97, 98, 99] = [186, 120, 22, 191, 143, 1, 207, 234, 65, 65, 64, 222, 93, 174, 34, 35, 176, 3, 97, 163, 150, 23, 122, 156, 180, 16, 255, 97, 242, 0, 21, 173] := by decide +kernel
end Go.Proofs.YtlddoobomjcldaaDoor
