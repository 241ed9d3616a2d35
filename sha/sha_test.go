package sha

import (
	"bytes"
	"crypto/sha256"
	"encoding/hex"
	"math"
	"math/big"
	"math/rand"
	"slices"
	"strings"
	"testing"

	"veneer/api"
)

// some is n bytes, always the same ones for a seed.
func some(seed int64, n int) []byte {
	out := make([]byte, n)
	rand.New(rand.NewSource(seed)).Read(out)
	return out
}

// sumOf is what the library says.
func sumOf(b []byte) api.Digest {
	return api.Digest(sha256.Sum256(b))
}

// edges are lengths around which the end of the bytes takes another block, or none.
func edges() []int {
	var out []int
	for _, whole := range []int{0, 64, 128, 192, 640, 4096, 65536} {
		for _, over := range []int{-2, -1, 0, 1, 2, 31, 32, 54, 55, 56, 57, 62, 63} {
			if whole+over >= 0 {
				out = append(out, whole+over)
			}
		}
	}
	return out
}

// digests are of all kinds: none, all bits, each byte by itself, and some others.
func digests() []api.Digest {
	var zero, full, rising api.Digest
	for i := range full {
		full[i], rising[i] = 255, byte(i*7+1)
	}
	out := []api.Digest{zero, full, rising}
	for i := range zero {
		one := zero
		one[i] = 0xa5
		out = append(out, one)
	}
	for i := range 20 {
		out = append(out, api.Digest(some(int64(i), 32)))
	}
	return out
}

// none are Hashes that neither New nor Copy gave.
func none() []*Hash {
	var plain Hash
	return []*Hash{nil, &plain, {}, new(Hash)}
}

// P3.1

func TestSumOfKnown(t *testing.T) {
	for _, x := range []struct{ text, want string }{
		{"", "e3b0c44298fc1c149afbf4c8996fb92427ae41e4649b934ca495991b7852b855"},
		{"abc", "ba7816bf8f01cfea414140de5dae2223b00361a396177a9cb410ff61f20015ad"},
		{"abcdbcdecdefdefgefghfghighijhijkijkljklmklmnlmnomnopnopq", "248d6a61d20638b8e5c026930c3e6039a33ce45964ff2167f6ecedd419db06c1"},
		{"abcdefghbcdefghicdefghijdefghijkefghijklfghijklmghijklmnhijklmnoijklmnopjklmnopqklmnopqrlmnopqrsmnopqrstnopqrstu", "cf5b16a778af8380036ce59e7b0492370b249b11e8f07a51afac45037afee9d1"},
		{strings.Repeat("a", 1000000), "cdc76e5c9914fb9281a1c7e284d73e67f1809a48a497200e046d39ccc7112cd0"},
	} {
		if got := Sum([]byte(x.text)); hex.EncodeToString(got[:]) != x.want {
			t.Errorf("Sum of %d bytes = %x, want %s", len(x.text), got, x.want)
		}
	}
}

func TestSumOfNothing(t *testing.T) {
	if Sum(nil) != sumOf(nil) || Sum([]byte{}) != sumOf(nil) || Sum(make([]byte, 0, 100)) != sumOf(nil) {
		t.Error("the sum of nothing")
	}
}

func TestSumOfEachLength(t *testing.T) {
	for n := range 1000 {
		for _, b := range [][]byte{make([]byte, n), bytes.Repeat([]byte{128}, n), bytes.Repeat([]byte{255}, n), some(int64(n), n)} {
			if Sum(b) != sumOf(b) {
				t.Fatalf("Sum of %d bytes", n)
			}
		}
	}
}

func TestSumAtTheEdges(t *testing.T) {
	for _, n := range edges() {
		if b := some(int64(n), n); Sum(b) != sumOf(b) {
			t.Errorf("Sum of %d bytes", n)
		}
	}
}

func TestSumOfMany(t *testing.T) {
	n := 1<<21 + 77 // its bits take more than three bytes to count
	if b := some(1, n); Sum(b) != sumOf(b) {
		t.Errorf("Sum of %d bytes", n)
	}
}

func TestEndCountsInEightBytes(t *testing.T) {
	// more bytes than a test would sum: the count alone
	for _, n := range []int{0, 1, 55, 56, 63, 64, 1<<29 - 1, 1 << 29, math.MaxInt32} {
		e := end(n)
		count := new(big.Int).SetBytes(e[len(e)-8:])
		if e[0] != 128 || (n+len(e))%64 != 0 || len(e) > 72 || count.Cmp(big.NewInt(8*int64(n))) != 0 {
			t.Errorf("the end of %d bytes is %v", n, e)
		}
		for _, c := range e[1 : len(e)-8] {
			if c != 0 {
				t.Errorf("the end of %d bytes is %v", n, e)
			}
		}
	}
}

func TestBytesAreLeftAlone(t *testing.T) {
	for _, n := range []int{0, 1, 16, 55, 56, 63, 64, 65, 200} {
		memory := some(6, 300)
		before := slices.Clone(memory)
		first := Sum(memory[8 : 8+n])
		h := New()
		h.Write(memory[8 : 8+n])
		if h.Sum() != first || !bytes.Equal(memory, before) {
			t.Errorf("%d bytes have changed", n)
		}
		memory[7], memory[8+n] = ^memory[7], ^memory[8+n] // what lies ahead, and behind the end, is none of it
		if Sum(memory[8:8+n]) != first {
			t.Errorf("the sum of %d bytes hangs on bytes outside", n)
		}
	}
}

// P3.2

func TestHexOfKnown(t *testing.T) {
	if s := Hex(api.Digest{}); s != strings.Repeat("0", 64) {
		t.Error(s)
	}
	if s := Hex(Sum([]byte("abc"))); s[:16] != "ba7816bf8f01cfea" {
		t.Error(s)
	}
}

func TestHexOfEachByte(t *testing.T) {
	for place := range 32 {
		for c := range 256 {
			d := api.Digest(some(int64(place), 32))
			d[place] = byte(c)
			s := Hex(d)
			if s != hex.EncodeToString(d[:]) {
				t.Fatalf("Hex(%v) = %s", d, s)
			}
			if got, e := Read(s); got != d || e != api.OK {
				t.Fatalf("Read(%s) = %v, %d", s, got, int(e))
			}
		}
	}
}

func TestReadOfHex(t *testing.T) {
	for _, d := range digests() {
		if got, e := Read(Hex(d)); got != d || e != api.OK {
			t.Errorf("Read(%s) = %v, %d", Hex(d), got, int(e))
		}
	}
}

// isRefused fails where a text is read.
func isRefused(t *testing.T, s string) {
	t.Helper()
	if d, e := Read(s); d != (api.Digest{}) || e != api.ErrForm {
		t.Errorf("Read(%q) = %v, %d", s, d, int(e))
	}
}

func TestReadOfOtherLengths(t *testing.T) {
	s := strings.Repeat(Hex(Sum(nil)), 4)
	for n := range len(s) + 1 {
		if n != 64 {
			isRefused(t, s[:n])
		}
	}
	for _, x := range []string{" ", "\n", "\x00", "0x"} {
		isRefused(t, s[:64]+x)
		isRefused(t, x+s[:64])
	}
}

func TestReadOfOtherSigns(t *testing.T) {
	s := []byte(Hex(Sum([]byte("abc"))))
	for place := range s {
		for c := range 256 {
			other := slices.Clone(s)
			other[place] = byte(c)
			if !bytes.ContainsRune([]byte("0123456789abcdef"), rune(c)) {
				isRefused(t, string(other))
			} else if d, e := Read(string(other)); Hex(d) != string(other) || e != api.OK {
				t.Errorf("Read(%s) = %v, %d", other, d, int(e))
			}
		}
	}
}

func TestReadOfWrongTexts(t *testing.T) {
	s := Hex(Sum([]byte("abc")))
	isRefused(t, strings.ToUpper(s))
	isRefused(t, "0x"+s[2:])
	isRefused(t, "+"+s[1:])
	isRefused(t, " "+s[:63])
	isRefused(t, s[:63]+"\n")
	isRefused(t, strings.Repeat("é", 32)) // 64 bytes
	isRefused(t, strings.Repeat("é", 64)) // 64 runes
	isRefused(t, strings.Repeat("\xff", 64))
	isRefused(t, strings.Repeat("0", 62)+"é")
}

// P3.3

// firstBits is Top as P3.3 tells it.
func firstBits(d api.Digest, n int) uint64 {
	whole := new(big.Int).SetBytes(d[:])
	return whole.Rsh(whole, uint(256-n)).Uint64()
}

func TestTopOfKnown(t *testing.T) {
	if v := Top(Sum([]byte("abc")), 12); v != 2983 {
		t.Error(v)
	}
	if v := Top(api.Digest{0x80}, 1); v != 1 {
		t.Error(v)
	}
	if v := Top(api.Digest{0x7f, 0xff}, 1); v != 0 {
		t.Error(v)
	}
}

func TestTopOfEachNumberOfBits(t *testing.T) {
	for _, d := range digests() {
		for n := range 65 {
			if got, want := Top(d, n), firstBits(d, n); got != want {
				t.Errorf("Top(%v, %d) = %x, want %x", d, n, got, want)
			}
		}
	}
}

func TestTopOutside(t *testing.T) {
	for _, d := range digests() {
		for _, n := range []int{-1, -2, -63, -64, -65, -256, math.MinInt32, math.MinInt + 64, math.MinInt} {
			if v := Top(d, n); v != 0 {
				t.Errorf("Top(%v, %d) = %x", d, n, v)
			}
		}
		for _, n := range []int{65, 66, 72, 127, 128, 255, 256, 257, math.MaxInt32, math.MaxInt - 63, math.MaxInt} {
			if v := Top(d, n); v != firstBits(d, 64) {
				t.Errorf("Top(%v, %d) = %x", d, n, v)
			}
		}
	}
}

// P3.4

// isAt fails where a Hash is not one to which b was written.
func isAt(t *testing.T, h *Hash, b []byte) {
	t.Helper()
	if h == nil || h.Len() != len(b) || h.Sum() != sumOf(b) {
		t.Fatalf("the Hash is not at the %d bytes that were written", len(b))
	}
}

func TestNewHasNothing(t *testing.T) {
	h := New()
	isAt(t, h, nil)
	h.Write(nil)
	h.Write([]byte{})
	isAt(t, h, nil)
	h.Write([]byte("abc"))
	isAt(t, h, []byte("abc"))
	isAt(t, New(), nil)
}

func TestSumGoesOn(t *testing.T) {
	b := some(11, 300)
	h := New()
	for i, c := range b {
		isAt(t, h, b[:i])
		isAt(t, h, b[:i])
		h.Write([]byte{c})
	}
	isAt(t, h, b)
}

func TestCopyGoesItsOwnWay(t *testing.T) {
	for _, n := range []int{0, 1, 2, 55, 56, 63, 64, 65, 119, 120, 127, 128, 129} {
		for _, m := range []int{0, 1, 8, 55, 56, 63, 64, 65, 128, 200} {
			b, x, y := some(1, n), some(2, m), some(3, m+9)
			h := New()
			h.Write(b)
			c := h.Copy()
			isAt(t, c, b)
			h.Write(x)
			isAt(t, c, b)
			isAt(t, h, slices.Concat(b, x))
			c.Write(y)
			isAt(t, c, slices.Concat(b, y))
			isAt(t, h, slices.Concat(b, x))
			of := c.Copy()
			of.Write(x)
			isAt(t, of, slices.Concat(b, y, x))
			isAt(t, c, slices.Concat(b, y))
		}
	}
}

func TestCopyIsAnother(t *testing.T) {
	h := New()
	if h.Copy() == h || h.Copy() == h.Copy() {
		t.Error("the same Hash")
	}
}

func TestTwoHashesShareNothing(t *testing.T) {
	a, b := New(), New()
	a.Write([]byte("abc"))
	isAt(t, b, nil)
	b.Write(some(4, 100))
	isAt(t, a, []byte("abc"))
}

func TestWrittenBytesAreNotKept(t *testing.T) {
	for n := range 200 {
		b := some(int64(n), n)
		before := slices.Clone(b)
		h := New()
		h.Write(b)
		for i := range b {
			b[i] = ^b[i]
		}
		isAt(t, h, before)
		h.Write(nil)
		isAt(t, h, before)
	}
}

func TestHashThatIsNone(t *testing.T) {
	for _, h := range none() {
		for _, b := range [][]byte{nil, {1}, some(1, 64), some(2, 200)} {
			h.Write(b)
			if h.Sum() != (api.Digest{}) || h.Len() != 0 || h.Copy() != nil {
				t.Errorf("a Hash that is none: %v, %d, %v", h.Sum(), h.Len(), h.Copy())
			}
			if h != nil && *h != (Hash{}) {
				t.Error("a Write has done something")
			}
		}
	}
}

func TestCopyOfNoneStaysNone(t *testing.T) {
	for _, h := range none() {
		c := h.Copy()
		c.Write([]byte("abc"))
		if c != nil || c.Sum() != (api.Digest{}) || c.Len() != 0 || c.Copy() != nil {
			t.Error("a copy of none")
		}
	}
}

// P3.5

func TestTwoCutsAnywhere(t *testing.T) {
	for _, n := range []int{0, 1, 55, 56, 63, 64, 65, 128, 150} {
		b := some(int64(n), n)
		want := sumOf(b)
		for i := range n + 1 {
			for j := i; j <= n; j++ {
				h := New()
				h.Write(b[:i])
				h.Write(b[i:j])
				h.Write(b[j:])
				if h.Sum() != want || h.Len() != n {
					t.Fatalf("%d bytes, cut at %d and %d", n, i, j)
				}
			}
		}
	}
}

func TestPartsOfOneSize(t *testing.T) {
	b := some(8, 1000)
	for size := 1; size <= len(b); size++ {
		h := New()
		for part := range slices.Chunk(b, size) {
			h.Write(part)
		}
		isAt(t, h, b)
	}
}

func TestManyCutsWithOthersBetween(t *testing.T) {
	for seed := range 300 {
		r := rand.New(rand.NewSource(int64(seed)))
		b := some(int64(seed), r.Intn(700))
		h, at := New(), 0
		for at < len(b) {
			n := min(r.Intn(100), len(b)-at)
			h.Write(b[at : at+n])
			at += n
			switch r.Intn(5) {
			case 0:
				isAt(t, h, b[:at])
			case 1:
				h = h.Copy()
			case 2:
				h.Copy().Write(some(9, 70))
			case 3:
				h.Write(nil)
			}
		}
		isAt(t, h, b)
	}
}
