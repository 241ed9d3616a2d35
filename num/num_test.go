package num

import (
	"bytes"
	"math"
	"math/big"
	"testing"

	"veneer/api"
)

// edges are the numbers around which widths, sevens of bits and signs change.
func edges() []uint64 {
	out := []uint64{0, 1, 2, 3, 100, 300, math.MaxUint64}
	for shift := range 64 {
		p := uint64(1) << shift
		out = append(out, p-1, p, p+1, math.MaxUint64-p, math.MaxUint64-p+1)
	}
	return out
}

func badWidths() []int {
	return []int{math.MinInt, -8, -1, 0, 9, 10, 64, math.MaxInt}
}

// greatest is the greatest number that a width holds.
func greatest(width int) uint64 {
	return math.MaxUint64 >> (64 - 8*width)
}

// P1.1

func TestFixedBytes(t *testing.T) {
	for _, x := range []struct {
		v     uint64
		width int
		want  []byte
	}{
		{0, 1, []byte{0}},
		{255, 1, []byte{255}},
		{258, 2, []byte{1, 2}},
		{258, 3, []byte{0, 1, 2}},
		{0x01020304, 4, []byte{1, 2, 3, 4}},
		{0x0102030405, 5, []byte{1, 2, 3, 4, 5}},
		{0x010203040506, 6, []byte{1, 2, 3, 4, 5, 6}},
		{0x01020304050607, 7, []byte{1, 2, 3, 4, 5, 6, 7}},
		{0x0102030405060708, 8, []byte{1, 2, 3, 4, 5, 6, 7, 8}},
		{math.MaxUint64, 8, []byte{255, 255, 255, 255, 255, 255, 255, 255}},
		{1, 8, []byte{0, 0, 0, 0, 0, 0, 0, 1}},
	} {
		if got, e := Fixed(x.v, x.width); !bytes.Equal(got, x.want) || e != api.OK {
			t.Errorf("Fixed(%d, %d) = %v, %d", x.v, x.width, got, int(e))
		}
		if v, e := ReadFixed(x.want, x.width); v != x.v || e != api.OK {
			t.Errorf("ReadFixed(%v, %d) = %d, %d", x.want, x.width, v, int(e))
		}
	}
}

func TestFixedWidthsOutside(t *testing.T) {
	for _, width := range badWidths() {
		for _, v := range []uint64{0, 255, math.MaxUint64} {
			if got, e := Fixed(v, width); len(got) != 0 || e != api.ErrArg {
				t.Errorf("Fixed(%d, %d) = %v, %d", v, width, got, int(e))
			}
		}
		for _, b := range [][]byte{nil, {}, {7}, make([]byte, 100)} {
			if v, e := ReadFixed(b, width); v != 0 || e != api.ErrArg {
				t.Errorf("ReadFixed(%v, %d) = %d, %d", b, width, v, int(e))
			}
		}
	}
}

func TestFixedAtAndAboveWhatAWidthHolds(t *testing.T) {
	for width := 1; width <= 8; width++ {
		top := greatest(width)
		if got, e := Fixed(top, width); !bytes.Equal(got, bytes.Repeat([]byte{255}, width)) || e != api.OK {
			t.Errorf("Fixed(%d, %d) = %v, %d", top, width, got, int(e))
		}
		if width == 8 {
			continue
		}
		for _, v := range []uint64{top + 1, top + 2, math.MaxUint64} {
			if got, e := Fixed(v, width); len(got) != 0 || e != api.ErrBig {
				t.Errorf("Fixed(%d, %d) = %v, %d", v, width, got, int(e))
			}
		}
	}
}

func TestReadFixedTooFewBytes(t *testing.T) {
	for width := 1; width <= 8; width++ {
		for have := range width {
			b := bytes.Repeat([]byte{9}, 20)[:have]
			if v, e := ReadFixed(b, width); v != 0 || e != api.ErrEnd {
				t.Errorf("ReadFixed of %d bytes, width %d = %d, %d", have, width, v, int(e))
			}
		}
	}
	if v, e := ReadFixed(nil, 1); v != 0 || e != api.ErrEnd {
		t.Errorf("ReadFixed(nil, 1) = %d, %d", v, int(e))
	}
}

// P1.2

func TestVarBytes(t *testing.T) {
	for _, x := range []struct {
		v    uint64
		want []byte
	}{
		{0, []byte{0}},
		{1, []byte{1}},
		{127, []byte{127}},
		{128, []byte{128, 1}},
		{300, []byte{172, 2}},
		{1<<14 - 1, []byte{255, 127}},
		{1 << 14, []byte{128, 128, 1}},
		{1<<63 - 1, []byte{255, 255, 255, 255, 255, 255, 255, 255, 127}},
		{1 << 63, []byte{128, 128, 128, 128, 128, 128, 128, 128, 128, 1}},
		{math.MaxUint64, []byte{255, 255, 255, 255, 255, 255, 255, 255, 255, 1}},
	} {
		if got := Var(x.v); !bytes.Equal(got, x.want) {
			t.Errorf("Var(%d) = %v", x.v, got)
		}
		if v, n, e := ReadVar(x.want); v != x.v || n != len(x.want) || e != api.OK {
			t.Errorf("ReadVar(%v) = %d, %d, %d", x.want, v, n, int(e))
		}
	}
}

func TestVarIsTheShortestForm(t *testing.T) {
	for _, v := range edges() {
		b := Var(v)
		for i, c := range b {
			if last := i == len(b)-1; last == (c >= 128) {
				t.Errorf("Var(%d) = %v: byte %d", v, b, i)
			}
		}
		if last := b[len(b)-1]; last == 0 && len(b) > 1 {
			t.Errorf("Var(%d) = %v: the last byte is 0", v, b)
		}
	}
}

// ahead is n bytes that each say that another one follows, and behind them the given ones.
func ahead(n int, behind ...byte) []byte {
	return append(bytes.Repeat([]byte{128}, n), behind...)
}

func TestReadVarRefuses(t *testing.T) {
	type wrong struct {
		b []byte
		e api.Errno
	}
	all := []wrong{{nil, api.ErrEnd}, {[]byte{}, api.ErrEnd}, {[]byte{255}, api.ErrEnd}, {[]byte{172, 0}, api.ErrForm}, {[]byte{172, 0, 1}, api.ErrForm}, {[]byte{172, 128, 0}, api.ErrForm}}
	for n := 1; n <= 9; n++ {
		all = append(all, wrong{ahead(n), api.ErrEnd}, wrong{ahead(n, 0), api.ErrForm}, wrong{ahead(n, 0, 5), api.ErrForm})
	}
	for _, tenth := range []byte{2, 3, 127, 128, 129, 255} {
		all = append(all, wrong{ahead(9, tenth), api.ErrForm}, wrong{ahead(9, tenth, 1), api.ErrForm})
	}
	all = append(all, wrong{ahead(10), api.ErrForm}, wrong{ahead(50), api.ErrForm}, wrong{ahead(10, 1), api.ErrForm})
	for _, x := range all {
		if v, n, e := ReadVar(x.b); v != 0 || n != 0 || e != x.e {
			t.Errorf("ReadVar(%v) = %d, %d, %d; want %d", x.b, v, n, int(e), int(x.e))
		}
	}
}

func TestReadVarTenthByte(t *testing.T) {
	if v, n, e := ReadVar(ahead(9, 1)); v != 1<<63 || n != 10 || e != api.OK {
		t.Error(v, n, int(e))
	}
	if v, n, e := ReadVar(ahead(8, 1)); v != 1<<56 || n != 9 || e != api.OK {
		t.Error(v, n, int(e))
	}
}

func TestReadVarDoesNotLookBehind(t *testing.T) {
	for _, behind := range [][]byte{{7}, {0}, {128}, {255, 255}, ahead(12)} {
		if v, n, e := ReadVar(append([]byte{172, 2}, behind...)); v != 300 || n != 2 || e != api.OK {
			t.Errorf("behind %v: %d, %d, %d", behind, v, n, int(e))
		}
		if v, n, e := ReadVar(append([]byte{0}, behind...)); v != 0 || n != 1 || e != api.OK {
			t.Errorf("behind %v: %d, %d, %d", behind, v, n, int(e))
		}
	}
}

func TestReadersDoNotReadPastTheLength(t *testing.T) {
	whole := []byte{172, 2, 1, 1}
	if v, n, e := ReadVar(whole[:1]); v != 0 || n != 0 || e != api.ErrEnd {
		t.Error(v, n, int(e))
	}
	if v, e := ReadFixed(whole[:2], 3); v != 0 || e != api.ErrEnd {
		t.Error(v, int(e))
	}
}

// P1.3

func TestZigZag(t *testing.T) {
	for _, x := range []struct {
		n int64
		v uint64
	}{
		{0, 0}, {-1, 1}, {1, 2}, {-2, 3}, {2, 4}, {-150, 299}, {150, 300},
		{math.MaxInt32, 1<<32 - 2}, {math.MinInt32, 1<<32 - 1},
		{math.MaxInt64 - 1, 1<<64 - 4}, {math.MinInt64 + 1, 1<<64 - 3},
		{math.MaxInt64, 1<<64 - 2}, {math.MinInt64, 1<<64 - 1},
	} {
		if got := Zig(x.n); got != x.v {
			t.Errorf("Zig(%d) = %d", x.n, got)
		}
		if got := Zag(x.v); got != x.n {
			t.Errorf("Zag(%d) = %d", x.v, got)
		}
	}
}

func TestZigAndZagUndoEachOther(t *testing.T) {
	for _, v := range edges() {
		if got := Zig(Zag(v)); got != v {
			t.Errorf("Zig(Zag(%d)) = %d", v, got)
		}
		if got := Zag(Zig(int64(v))); got != int64(v) {
			t.Errorf("Zag(Zig(%d)) = %d", int64(v), got)
		}
	}
}

// P1.4

// checkSum holds an answer against the same sum of whole numbers without bounds.
func checkSum(t *testing.T, name string, a, b, got uint64, e api.Errno, exact *big.Int) {
	t.Helper()
	want, wantErr := uint64(0), api.ErrBig
	if exact.IsUint64() {
		want, wantErr = exact.Uint64(), api.OK
	}
	if got != want || e != wantErr {
		t.Errorf("%s(%d, %d) = %d, %d; want %d, %d", name, a, b, got, int(e), want, int(wantErr))
	}
}

func TestSumsAtTheirEdges(t *testing.T) {
	for _, a := range edges() {
		for _, b := range edges() {
			x, y := new(big.Int).SetUint64(a), new(big.Int).SetUint64(b)
			v, e := Add(a, b)
			checkSum(t, "Add", a, b, v, e, new(big.Int).Add(x, y))
			v, e = Sub(a, b)
			checkSum(t, "Sub", a, b, v, e, new(big.Int).Sub(x, y))
			v, e = Mul(a, b)
			checkSum(t, "Mul", a, b, v, e, new(big.Int).Mul(x, y))
		}
	}
}

func TestSumsByHand(t *testing.T) {
	const top = math.MaxUint64
	for _, x := range []struct {
		name string
		call func(a, b uint64) (uint64, api.Errno)
		a, b uint64
		want uint64
		e    api.Errno
	}{
		{"Add", Add, 2, 3, 5, api.OK},
		{"Add", Add, top, 0, top, api.OK},
		{"Add", Add, top, 1, 0, api.ErrBig},
		{"Add", Add, top, top, 0, api.ErrBig},
		{"Sub", Sub, 5, 3, 2, api.OK},
		{"Sub", Sub, 3, 3, 0, api.OK},
		{"Sub", Sub, 2, 3, 0, api.ErrBig},
		{"Sub", Sub, 0, top, 0, api.ErrBig},
		{"Mul", Mul, 6, 7, 42, api.OK},
		{"Mul", Mul, 0, top, 0, api.OK},
		{"Mul", Mul, 1, top, top, api.OK},
		{"Mul", Mul, 1<<32 - 1, 1<<32 + 1, top, api.OK},
		{"Mul", Mul, 1 << 32, 1 << 32, 0, api.ErrBig},
		{"Mul", Mul, 2, 1 << 63, 0, api.ErrBig},
		{"Mul", Mul, top, top, 0, api.ErrBig},
	} {
		if got, e := x.call(x.a, x.b); got != x.want || e != x.e {
			t.Errorf("%s(%d, %d) = %d, %d", x.name, x.a, x.b, got, int(e))
		}
	}
}

// P1.5

func TestWhatIsWrittenIsReadAgain(t *testing.T) {
	for _, behind := range [][]byte{nil, {0}, {1, 2, 3}, {128, 255}, ahead(12)} {
		for _, v := range edges() {
			b := Var(v)
			if got, n, e := ReadVar(append(b[:len(b):len(b)], behind...)); got != v || n != len(b) || e != api.OK {
				t.Errorf("Var(%d) with %v behind: %d, %d, %d", v, behind, got, n, int(e))
			}
			for width := 1; width <= 8; width++ {
				if v > greatest(width) {
					continue
				}
				f, e := Fixed(v, width)
				if e != api.OK || len(f) != width {
					t.Fatalf("Fixed(%d, %d) = %v, %d", v, width, f, int(e))
				}
				if got, e := ReadFixed(append(f[:width:width], behind...), width); got != v || e != api.OK {
					t.Errorf("Fixed(%d, %d) with %v behind: %d, %d", v, width, behind, got, int(e))
				}
			}
		}
	}
}

func TestAGreaterNumberIsAGreaterRow(t *testing.T) {
	for width := 1; width <= 8; width++ {
		for _, a := range edges() {
			for _, b := range edges() {
				if a >= b || b > greatest(width) {
					continue
				}
				x, _ := Fixed(a, width)
				y, _ := Fixed(b, width)
				if bytes.Compare(x, y) >= 0 {
					t.Errorf("width %d: %d is %v, %d is %v", width, a, x, b, y)
				}
			}
		}
	}
}

// What is handed out is new memory, and what is handed in is not changed (DOC.md, rule 5).

func TestAnswersAreNewMemory(t *testing.T) {
	a, _ := Fixed(258, 3)
	a[0] = 9
	if b, _ := Fixed(258, 3); !bytes.Equal(b, []byte{0, 1, 2}) {
		t.Error(b)
	}
	c := Var(300)
	c[0] = 9
	if d := Var(300); !bytes.Equal(d, []byte{172, 2}) {
		t.Error(d)
	}
}

func TestArgumentsAreNotChanged(t *testing.T) {
	in := []byte{172, 2, 7}
	ReadVar(in)
	ReadFixed(in, 3)
	if !bytes.Equal(in, []byte{172, 2, 7}) {
		t.Error(in)
	}
}
