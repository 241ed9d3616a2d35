package crc

import (
	"bytes"
	"hash/crc32"
	"math"
	"math/bits"
	"math/rand"
	"slices"
	"testing"

	"veneer/api"
)

// registers are sums of all kinds: none, all bits, each bit alone, and some others.
func registers() []uint32 {
	out := []uint32{0, math.MaxUint32, 1, 0xcbf43926, 0xedb88320, 0x12345678, 0x80000001}
	for i := range 32 {
		out = append(out, 1<<i, ^uint32(1<<i))
	}
	return out
}

// some is n bytes, always the same ones for a seed.
func some(seed int64, n int) []byte {
	out := make([]byte, n)
	rand.New(rand.NewSource(seed)).Read(out)
	return out
}

// goOn is More as P2.1 tells it, bit by bit.
func goOn(sum uint32, b []byte) uint32 {
	register := sum ^ math.MaxUint32
	for _, c := range b {
		register ^= uint32(c)
		for range 8 {
			if out := register % 2; out == 1 {
				register = register/2 ^ 0xedb88320
			} else {
				register = register / 2
			}
		}
	}
	return register ^ math.MaxUint32
}

// zeros is what n bytes 0 make of a register that begins as it is, and is not turned.
func zeros(register uint32, n int) uint32 {
	return ^goOn(^register, make([]byte, n))
}

// P2.1

func TestSumOfKnown(t *testing.T) {
	for _, x := range []struct {
		text string
		want uint32
	}{
		{"", 0},
		{"123456789", 0xcbf43926},
		{"\x00", 0xd202ef8d},
		{"\xff", 0xff000000},
		{"\xff\xff\xff\xff", 0xffffffff},
		{"\x00\x00\x00\x00", 0x2144df1c},
		{"a", 0xe8b7be43},
		{"abc", 0x352441c2},
		{"The quick brown fox jumps over the lazy dog", 0x414fa339},
	} {
		if got := Sum([]byte(x.text)); got != x.want {
			t.Errorf("Sum(%q) = %x, want %x", x.text, got, x.want)
		}
	}
}

func TestSumOfNothing(t *testing.T) {
	if a, b := Sum(nil), Sum([]byte{}); a != 0 || b != 0 {
		t.Errorf("Sum of nothing = %x, %x", a, b)
	}
	for _, s := range registers() {
		if a, b := More(s, nil), More(s, []byte{}); a != s || b != s {
			t.Errorf("More(%x, nothing) = %x, %x", s, a, b)
		}
	}
}

func TestSumOfEachByte(t *testing.T) {
	for c := range 256 {
		for _, b := range [][]byte{{byte(c)}, {0, byte(c)}, {byte(c), 0, 255}} {
			if got, want := Sum(b), crc32.ChecksumIEEE(b); got != want {
				t.Errorf("Sum(%v) = %x, want %x", b, got, want)
			}
		}
	}
}

func TestSumOfManyLengths(t *testing.T) {
	for n := range 600 {
		b := some(int64(n), n)
		if got, want := Sum(b), crc32.ChecksumIEEE(b); got != want {
			t.Errorf("Sum of %d bytes = %x, want %x", n, got, want)
		}
	}
	for _, n := range []int{4096, 65535, 65536, 65537, 1 << 20} {
		b := some(int64(n), n)
		if got, want := Sum(b), crc32.ChecksumIEEE(b); got != want {
			t.Errorf("Sum of %d bytes = %x, want %x", n, got, want)
		}
	}
}

func TestMoreGoesOnFromAnySum(t *testing.T) {
	for _, s := range registers() {
		for n := range 40 {
			b := some(int64(n), n)
			if got, want := More(s, b), goOn(s, b); got != want {
				t.Errorf("More(%x, %v) = %x, want %x", s, b, got, want)
			}
			if got, want := More(s, b), crc32.Update(s, crc32.IEEETable, b); got != want {
				t.Errorf("More(%x, %v) = %x, want %x", s, b, got, want)
			}
		}
	}
}

func TestMoreOfPartsCutAnywhere(t *testing.T) {
	b := some(5, 90)
	want := Sum(b)
	for i := range len(b) + 1 {
		if got := More(Sum(b[:i]), b[i:]); got != want {
			t.Errorf("cut at %d: %x, want %x", i, got, want)
		}
		for j := i; j <= len(b); j++ {
			if got := More(More(Sum(b[:i]), b[i:j]), b[j:]); got != want {
				t.Errorf("cut at %d and %d: %x, want %x", i, j, got, want)
			}
		}
	}
}

func TestBytesAreLeftAlone(t *testing.T) {
	memory := some(6, 64)
	before := slices.Clone(memory)
	first := Sum(memory[8:24])
	More(7, memory[8:24])
	if !bytes.Equal(memory, before) {
		t.Error("the bytes have changed")
	}
	memory[24], memory[7] = ^memory[24], ^memory[7] // what lies behind the end, and ahead, is none of it
	if Sum(memory[8:24]) != first {
		t.Error("the sum hangs on bytes outside")
	}
}

// P2.2

func TestJoinOfKnown(t *testing.T) {
	for _, x := range []struct {
		a, b string
	}{
		{"1234", "56789"}, {"", "123456789"}, {"123456789", ""}, {"12345678", "9"},
	} {
		if got, e := Join(Sum([]byte(x.a)), Sum([]byte(x.b)), len(x.b)); got != 0xcbf43926 || e != api.OK {
			t.Errorf("Join of %q and %q = %x, %d", x.a, x.b, got, int(e))
		}
	}
}

func TestJoinOfPartsCutAnywhere(t *testing.T) {
	for _, n := range []int{0, 1, 2, 33, 300} {
		b := some(int64(n), n)
		for i := range n + 1 {
			if got, e := Join(Sum(b[:i]), Sum(b[i:]), n-i); got != Sum(b) || e != api.OK {
				t.Errorf("%d bytes cut at %d: %x, %d, want %x", n, i, got, int(e), Sum(b))
			}
		}
	}
}

func TestJoinOfGreatParts(t *testing.T) {
	b := some(9, 65536+65536)
	for _, n := range []int{0, 1, 2, 255, 256, 257, 4095, 4096, 32767, 32768, 32769, 43690, 21845, 65534, 65535, 65536} {
		for _, ahead := range []int{0, 1, 1000, 65536} {
			all := b[:ahead+n]
			if got, e := Join(Sum(all[:ahead]), Sum(all[ahead:]), n); got != Sum(all) || e != api.OK {
				t.Errorf("%d and %d bytes: %x, %d, want %x", ahead, n, got, int(e), Sum(all))
			}
		}
	}
}

func TestJoinOfAnyNumbers(t *testing.T) {
	for _, a := range registers() {
		for _, b := range []uint32{0, 1, 0xcafe, 0x80000000, math.MaxUint32} {
			for _, n := range []int{0, 1, 2, 3, 4, 5, 7, 8, 64, 100, 1023, 1024} {
				if got, e := Join(a, b, n); got != zeros(a, n)^b || e != api.OK {
					t.Errorf("Join(%x, %x, %d) = %x, %d, want %x", a, b, n, got, int(e), zeros(a, n)^b)
				}
			}
		}
	}
}

func TestJoinOfNoBytes(t *testing.T) {
	for _, a := range registers() {
		for _, b := range registers() {
			if got, e := Join(a, b, 0); got != a^b || e != api.OK {
				t.Errorf("Join(%x, %x, 0) = %x, %d", a, b, got, int(e))
			}
		}
	}
}

func TestJoinOfEachLength(t *testing.T) {
	const a, b = 0x9e3779b9, 0x7f4a7c15
	went := uint32(a)
	for n := range 65537 {
		if n > 0 {
			went = zeros(went, 1)
		}
		if n < 2000 || n > 64000 || n%7 == 0 {
			if got, e := Join(a, b, n); got != went^b || e != api.OK {
				t.Fatalf("Join of %d bytes = %x, %d, want %x", n, got, int(e), went^b)
			}
		}
	}
}

func TestJoinOfLengthsOutside(t *testing.T) {
	for _, n := range []int{math.MinInt, math.MinInt32, -65536, -2, -1, 65537, 65538, 131072, math.MaxInt32, math.MaxInt} {
		for _, s := range []uint32{0, 7, math.MaxUint32} {
			if got, e := Join(s, 9, n); got != 0 || e != api.ErrArg {
				t.Errorf("Join(%x, 9, %d) = %x, %d", s, n, got, int(e))
			}
		}
	}
}

// P2.3

// change turns bits of b from the bit of the number at on, of each byte the lowest first.
func change(b []byte, at int, pattern uint32) []byte {
	out := slices.Clone(b)
	for i := range 32 {
		if pattern>>i&1 == 1 {
			out[(at+i)/8] ^= 1 << ((at + i) % 8)
		}
	}
	return out
}

// isTold fails where a change leaves the sum as it was, from the beginning on or going on from another sum.
func isTold(t *testing.T, b []byte, at int, pattern uint32) {
	t.Helper()
	other := change(b, at, pattern)
	if Sum(b) == Sum(other) || More(0xcafe, b) == More(0xcafe, other) {
		t.Errorf("%d bytes, pattern %x at bit %d: the sum is the same", len(b), pattern, at)
	}
}

func TestBitsSideBySideAreTold(t *testing.T) {
	patterns := []uint32{math.MaxUint32, 0x80000001, 0xedb88320, 0xdb710641, 0x04c11db7, 0x55555555, 0xaaaaaaaa, 0x00ffff00}
	for i := range 32 {
		patterns = append(patterns, 1<<i, 1<<i|1, math.MaxUint32>>i, math.MaxUint32<<i)
	}
	r := rand.New(rand.NewSource(23))
	for range 200 {
		patterns = append(patterns, r.Uint32()|1)
	}
	for _, n := range []int{4, 5, 9, 40} {
		for _, b := range [][]byte{make([]byte, n), bytes.Repeat([]byte{255}, n), some(int64(n), n)} {
			for at := range 8*n - 31 {
				for _, p := range patterns {
					isTold(t, b, at, p)
				}
			}
		}
	}
}

func TestShortChangesAreTold(t *testing.T) {
	for n := 1; n < 6; n++ {
		b := some(int64(n), n)
		for p := uint32(1); p < 1<<11; p++ {
			for at := 0; at+bits.Len32(p) <= 8*n; at++ {
				isTold(t, b, at, p)
			}
		}
	}
}

func TestChangesOfLongBytesAreTold(t *testing.T) {
	b := some(77, 4096)
	r := rand.New(rand.NewSource(78))
	for range 300 {
		isTold(t, b, r.Intn(8*len(b)-31), r.Uint32()|1)
	}
}

func TestThirtyThreeBitsMayHide(t *testing.T) {
	// 32 is the most there is: the polynomial itself, of 33 bits, leaves the sum as it was.
	b := some(80, 12)
	other := change(change(b, 13, 1), 14, bits.Reverse32(0x04c11db7))
	if bytes.Equal(b, other) || Sum(b) != Sum(other) {
		t.Errorf("%x, %x", Sum(b), Sum(other))
	}
}
