package manifest

import (
	"bytes"
	"cmp"
	"crypto/sha256"
	"encoding/binary"
	"fmt"
	"math"
	"math/big"
	"math/rand"
	"slices"
	"strings"
	"testing"

	"veneer/api"
)

const (
	letters = "abcdefghijklmnopqrstuvwxyz0123456789-." // the bytes that a name may have
	most    = 1<<31 - 1                                // the greatest Size
)

// digest is one of which the first and the last byte are told, and none between is a letter.
func digest(first, last byte) api.Digest {
	var d api.Digest
	for i := range d {
		d[i] = 0xe0
	}
	d[0], d[31] = first, last
	return d
}

// many is n layers with unlike digests.
func many(n int) []api.Ref {
	l := make([]api.Ref, n)
	for i := range l {
		l[i] = api.Ref{Sum: digest(byte(i), byte(i/256)), Size: 100 * i}
	}
	return l
}

// with is a manifest that may be, if these layers may.
func with(l ...api.Ref) api.Manifest {
	return api.Manifest{Name: "img", Version: "1.2", Layers: l}
}

// show is a manifest as a text that is not too long.
func show(m api.Manifest) string {
	out := fmt.Sprintf("%.40q %.40q", m.Name, m.Version)
	for _, x := range m.Layers {
		out += fmt.Sprintf(" %x..%x:%d", x.Sum[:2], x.Sum[31:], x.Size)
	}
	return fmt.Sprintf("(%.300s)", out)
}

func isSame(m, n api.Manifest) bool {
	return m.Name == n.Name && m.Version == n.Version && slices.Equal(m.Layers, n.Layers)
}

func isEmpty(m api.Manifest) bool {
	return m.Name == "" && m.Version == "" && len(m.Layers) == 0
}

// checkOf is what P7.1 says of m, word by word.
func checkOf(m api.Manifest) api.Errno {
	for _, s := range []string{m.Name, m.Version} {
		if len(s) < 1 || len(s) > 16 || strings.Trim(s, letters) != "" {
			return api.ErrArg
		}
	}
	if len(m.Layers) < 1 {
		return api.ErrNone
	}
	if len(m.Layers) > 8 {
		return api.ErrBig
	}
	for i, x := range m.Layers {
		if x.Size < 0 || x.Size > most {
			return api.ErrArg
		}
		if slices.ContainsFunc(m.Layers[:i], func(y api.Ref) bool { return y.Sum == x.Sum }) {
			return api.ErrThere
		}
	}
	return api.OK
}

// bytesOf is what the chapter calls the bytes of a manifest, also of one that may not be.
func bytesOf(m api.Manifest) []byte {
	out := []byte{'V', 'M', 1}
	for _, s := range []string{m.Name, m.Version} {
		out = append(binary.AppendUvarint(out, uint64(len(s))), s...)
	}
	out = append(out, byte(len(m.Layers)))
	for _, x := range m.Layers {
		out = binary.AppendUvarint(append(out, x.Sum[:]...), uint64(x.Size))
	}
	return out
}

// isTold fails where Check, Size, Encode or Id of m, or Decode of its bytes, are not as the chapter tells.
func isTold(t *testing.T, m api.Manifest) {
	t.Helper()
	want := checkOf(m)
	if e := Check(m); e != want {
		t.Fatalf("Check%s = %d, want %d", show(m), int(e), int(want))
	}
	b, e := Encode(m)
	d, idError := Id(m)
	if want != api.OK {
		if len(b) != 0 || e != want || d != (api.Digest{}) || idError != want || Size(m) != 0 {
			t.Fatalf("Encode, Id, Size of %s: % x, %d, % x, %d, %d, want %d alone", show(m), b, int(e), d, int(idError), Size(m), int(want))
		}
		return
	}
	size := 0
	for _, x := range m.Layers {
		size += x.Size
	}
	if got := Size(m); got != size {
		t.Fatalf("Size%s = %d, want %d", show(m), got, size)
	}
	row := bytesOf(m)
	if !bytes.Equal(b, row) || e != api.OK {
		t.Fatalf("Encode%s = % x, %d, want % x", show(m), b, int(e), row)
	}
	if d != sha256.Sum256(row) || idError != api.OK {
		t.Fatalf("Id%s = % x, %d", show(m), d, int(idError))
	}
	if got, e := Decode(row); !isSame(got, m) || e != api.OK {
		t.Fatalf("Decode(% x) = %s, %d, want %s", row, show(got), int(e), show(m))
	}
}

// isChecked fails where Check of m is not that error, or where the others are not as the chapter tells.
func isChecked(t *testing.T, m api.Manifest, why api.Errno) {
	t.Helper()
	if e := Check(m); e != why {
		t.Fatalf("Check%s = %d, want %d", show(m), int(e), int(why))
	}
	isTold(t, m)
}

// isRefused fails where Decode of b tells anything but ErrForm.
func isRefused(t *testing.T, b []byte) {
	t.Helper()
	if m, e := Decode(b); !isEmpty(m) || e != api.ErrForm {
		t.Fatalf("Decode(% .300x) = %s, %d", b, show(m), int(e))
	}
}

// isOne fails where Decode of b tells a manifest that may not be, or that has other bytes. With isTold of those that may be it says all of Decode.
func isOne(t *testing.T, b []byte) bool {
	t.Helper()
	m, e := Decode(b)
	if e != api.OK {
		isRefused(t, b)
		return false
	}
	if checkOf(m) != api.OK || !bytes.Equal(bytesOf(m), b) {
		t.Fatalf("Decode(% .300x) = %s", b, show(m))
	}
	return true
}

// manifests are some that may be: with the least and the greatest of all.
func manifests() []api.Manifest {
	long := strings.Repeat("z", 16)
	greatest := many(8)
	for i := range greatest {
		greatest[i].Size = most
	}
	return []api.Manifest{
		{Name: "a", Version: "1", Layers: make([]api.Ref, 1)},
		{Name: "-", Version: ".", Layers: many(1)},
		{Name: ".", Version: "-", Layers: many(2)},
		{Name: "img", Version: "1.2", Layers: []api.Ref{{Size: 300}, {Sum: api.Digest{1}, Size: 5}}},
		{Name: "1.2", Version: "img", Layers: []api.Ref{{Sum: api.Digest{1}, Size: 5}, {Size: 300}}},
		{Name: "..", Version: "...", Layers: []api.Ref{{Sum: digest(255, 255), Size: 127}, {Sum: digest(255, 254), Size: 128}}},
		{Name: long, Version: "0", Layers: []api.Ref{{Sum: digest('V', 'M'), Size: 16383}, {Sum: digest('V', 'N'), Size: 16384}}},
		{Name: "0", Version: long, Layers: []api.Ref{{Size: most}, {Sum: digest(1, 1), Size: most}}},
		{Name: long, Version: long, Layers: many(7)},
		{Name: "a", Version: "1", Layers: many(8)},
		{Name: long, Version: long, Layers: greatest},
	}
}

// P7.1

func TestCheckOfKnown(t *testing.T) {
	x, y := api.Ref{Sum: digest(1, 1), Size: 7}, api.Ref{Sum: digest(2, 1), Size: 7}
	for _, c := range []struct {
		m   api.Manifest
		why api.Errno
	}{
		{api.Manifest{}, api.ErrArg},
		{api.Manifest{Name: "a"}, api.ErrArg},
		{api.Manifest{Version: "1"}, api.ErrArg},
		{api.Manifest{Layers: many(1)}, api.ErrArg},
		{api.Manifest{Name: "A", Version: "1"}, api.ErrArg},
		{api.Manifest{Name: "a", Version: "1"}, api.ErrNone},
		{api.Manifest{Name: "a", Version: "1", Layers: []api.Ref{}}, api.ErrNone},
		{api.Manifest{Name: "a", Version: "1", Layers: many(1)}, api.OK},
		{with(x), api.OK},
		{with(x, y), api.OK},
		{with(y, x), api.OK},
		{with(x, x), api.ErrThere},
		{with(x, y, x), api.ErrThere},
	} {
		isChecked(t, c.m, c.why)
	}
	for _, m := range manifests() {
		isChecked(t, m, api.OK)
	}
}

// isNamed fails where a manifest with s as its Name, or as its Version, is not told why.
func isNamed(t *testing.T, s string, why api.Errno) {
	t.Helper()
	for _, m := range []api.Manifest{
		{Name: s, Version: "1", Layers: many(2)},
		{Name: "a", Version: s, Layers: many(2)},
		{Name: s, Version: s, Layers: many(2)},
	} {
		isChecked(t, m, why)
	}
}

func TestCheckOfLengths(t *testing.T) {
	for n := range 100 {
		why := api.OK
		if n < 1 || n > 16 {
			why = api.ErrArg
		}
		for _, c := range []string{"a", "z", "0", "9", "-", "."} {
			isNamed(t, strings.Repeat(c, n), why)
		}
	}
	for _, n := range []int{255, 256, 257, 272, 1<<16 + 1, 1<<20 + 16} {
		isNamed(t, strings.Repeat("a", n), api.ErrArg)
	}
}

func TestCheckOfEachByte(t *testing.T) {
	allowed := 0
	for c := range 256 {
		why := api.ErrArg
		if strings.IndexByte(letters, byte(c)) >= 0 {
			why = api.OK
			allowed++
		}
		for n := 1; n <= 16; n++ {
			for at := range n {
				s := []byte(strings.Repeat("a", n))
				s[at] = byte(c)
				isNamed(t, string(s), why)
			}
		}
	}
	if allowed != 26+10+2 {
		t.Error(allowed, "bytes may stand in a name")
	}
	for _, s := range []string{"é", "aé", "１", "٣", "a b", " a", "a ", "a_b", "a/b", "a:b", "a+b", "a\n", "\x00", "a\x00", "\xff", "Abc", "abC"} {
		isNamed(t, s, api.ErrArg)
	}
	for _, s := range []string{"a.b", ".a", "a.", "..", "a-b", "-a", "a-", "--", "0", "007", "1.2-rc.3"} {
		isNamed(t, s, api.OK)
	}
}

func TestCheckCountsLayers(t *testing.T) {
	for n := range 300 {
		why := api.OK
		switch {
		case n == 0:
			why = api.ErrNone
		case n > 8:
			why = api.ErrBig
		}
		isChecked(t, with(many(n)...), why)
	}
	for _, n := range []int{9, 10, 255, 256, 257, 264, 1000, 1<<16 + 1} {
		isChecked(t, with(make([]api.Ref, n)...), api.ErrBig)
	}
}

func TestCheckOfSizes(t *testing.T) {
	for _, size := range []int{0, 1, 127, 128, 255, 256, 16383, 16384, 65535, 65536, 1<<21 - 1, 1 << 21, 1<<28 - 1, 1 << 28, 1 << 30, most - 1, most} {
		for n := 1; n <= 8; n++ {
			for at := range n {
				l := many(n)
				l[at].Size = size
				isChecked(t, with(l...), api.OK)
			}
		}
	}
	for _, size := range []int{-1, -2, -most, -most - 1, -most - 2, most + 1, most + 2, 1<<32 - 1, 1 << 32, 1<<32 + 1, 1<<32 + 300, 1 << 33, 1 << 62, math.MaxInt, math.MaxInt - 1, math.MinInt, math.MinInt + 1, math.MinInt + 300} {
		for n := 1; n <= 8; n++ {
			for at := range n {
				l := many(n)
				l[at].Size = size
				isChecked(t, with(l...), api.ErrArg)
			}
		}
	}
}

func TestCheckOfDigests(t *testing.T) {
	for n := 2; n <= 8; n++ {
		for i := range n {
			for k := range i {
				l := many(n)
				l[i].Sum = l[k].Sum
				isChecked(t, with(l...), api.ErrThere)
				l[i].Size = l[k].Size
				isChecked(t, with(l...), api.ErrThere)
			}
		}
		isChecked(t, with(make([]api.Ref, n)...), api.ErrThere)
		alike := many(n) // unlike by their digests alone
		for i := range alike {
			alike[i].Size = 9
		}
		isChecked(t, with(alike...), api.OK)
	}
	for at := range 32 { // unlike by one bit
		for bit := range 8 {
			x, y := api.Ref{Sum: digest(1, 2)}, api.Ref{Sum: digest(1, 2)}
			y.Sum[at] ^= 1 << bit
			isChecked(t, with(x, y), api.OK)
			isChecked(t, with(x, y, x), api.ErrThere)
			isChecked(t, with(x, y, y), api.ErrThere)
		}
	}
	none := api.Ref{} // a digest of noughts is one as any other
	isChecked(t, with(none), api.OK)
	isChecked(t, with(api.Ref{Sum: digest(1, 1)}, none), api.OK)
	isChecked(t, with(none, api.Ref{Sum: digest(1, 1)}, none), api.ErrThere)
}

func TestCheckTellsTheFirst(t *testing.T) {
	x, y := api.Ref{Sum: digest(1, 1), Size: 1}, api.Ref{Sum: digest(2, 2), Size: 2}
	low, high, again := x, y, x
	low.Size, high.Size, again.Size = -1, most+1, -1
	lists := []struct {
		l   []api.Ref
		why api.Errno
	}{
		{nil, api.ErrNone},
		{[]api.Ref{low}, api.ErrArg},
		{[]api.Ref{low, x}, api.ErrArg},
		{[]api.Ref{x, again}, api.ErrArg}, // of one layer the Size comes first
		{[]api.Ref{x, x, high}, api.ErrThere},
		{[]api.Ref{x, y, y, low, high}, api.ErrThere},
		{[]api.Ref{x, high, x}, api.ErrArg},
		{[]api.Ref{high, x, x}, api.ErrArg},
		{[]api.Ref{x, y, x, again}, api.ErrThere},
		{slices.Repeat([]api.Ref{x}, 8), api.ErrThere},
		{slices.Repeat([]api.Ref{x}, 9), api.ErrBig},
		{slices.Repeat([]api.Ref{low}, 8), api.ErrArg},
		{slices.Repeat([]api.Ref{low}, 9), api.ErrBig},
		{append(many(8), low), api.ErrBig},
		{append(many(8), many(1)...), api.ErrBig},
	}
	for _, c := range lists {
		isChecked(t, with(c.l...), c.why)
		for _, bad := range []string{"", "A", "a_", strings.Repeat("a", 17)} {
			isChecked(t, api.Manifest{Name: bad, Version: "1", Layers: c.l}, api.ErrArg)
			isChecked(t, api.Manifest{Name: "a", Version: bad, Layers: c.l}, api.ErrArg)
			isChecked(t, api.Manifest{Name: bad, Version: bad, Layers: c.l}, api.ErrArg)
		}
	}
}

func TestAllOfShortLists(t *testing.T) {
	var refs []api.Ref
	for _, d := range []api.Digest{{}, digest(1, 0), digest(1, 1)} {
		for _, size := range []int{-1, 0, 5, most, most + 1} {
			refs = append(refs, api.Ref{Sum: d, Size: size})
		}
	}
	for _, name := range []string{"", "a", "A"} {
		for _, version := range []string{"", "1", "_"} {
			isTold(t, api.Manifest{Name: name, Version: version})
			for _, x := range refs {
				isTold(t, api.Manifest{Name: name, Version: version, Layers: []api.Ref{x}})
				for _, y := range refs {
					isTold(t, api.Manifest{Name: name, Version: version, Layers: []api.Ref{x, y}})
					for _, z := range refs {
						isTold(t, api.Manifest{Name: name, Version: version, Layers: []api.Ref{x, y, z}})
					}
				}
			}
		}
	}
}

// someManifest is one by chance, that mostly may be.
func someManifest(r *rand.Rand, seldom int) api.Manifest {
	text := func() string {
		b := make([]byte, 1+r.Intn(16))
		for i := range b {
			b[i] = letters[r.Intn(len(letters))]
		}
		if r.Intn(seldom) == 0 {
			b[r.Intn(len(b))] = byte(r.Intn(256))
		}
		if r.Intn(seldom) == 0 {
			b = slices.Repeat(b, r.Intn(3))
		}
		return string(b)
	}
	m := api.Manifest{Name: text(), Version: text(), Layers: make([]api.Ref, 1+r.Intn(8))}
	for i := range m.Layers {
		x := &m.Layers[i]
		r.Read(x.Sum[:])
		x.Size = r.Intn(1 << (1 + r.Intn(31)))
		if r.Intn(seldom) == 0 {
			x.Size = []int{-1, most, most + 1, 1 << 32, -r.Int(), r.Int()}[r.Intn(6)]
		}
		if r.Intn(seldom) == 0 {
			x.Sum = m.Layers[r.Intn(i+1)].Sum
		}
	}
	if r.Intn(seldom) == 0 {
		m.Layers = slices.Repeat(m.Layers, r.Intn(3))
	}
	return m
}

func TestAllByChance(t *testing.T) {
	r := rand.New(rand.NewSource(1))
	told := map[api.Errno]int{}
	for range 40000 {
		m := someManifest(r, 20)
		isTold(t, m)
		told[checkOf(m)]++
	}
	for _, why := range []api.Errno{api.OK, api.ErrArg, api.ErrNone, api.ErrBig, api.ErrThere} {
		if told[why] < 50 {
			t.Errorf("only %d are told %d", told[why], int(why))
		}
	}
}

// P7.2

func TestSize(t *testing.T) {
	greatest := many(8)
	for i := range greatest {
		greatest[i].Size = most
	}
	more := append(slices.Clone(greatest), api.Ref{Sum: digest(9, 9), Size: 1})
	for _, c := range []struct {
		m    api.Manifest
		want int
	}{
		{with(api.Ref{Size: 0}), 0},
		{with(api.Ref{Size: 5}), 5},
		{with(api.Ref{Size: 300}, api.Ref{Sum: api.Digest{1}, Size: 5}), 305},
		{with(many(8)...), 2800},
		{with(greatest[:1]...), most},
		{with(greatest[:2]...), 1<<32 - 2},
		{with(greatest...), 17179869176},
		{with(more...), 0},
		{with(), 0},
		{api.Manifest{}, 0},
		{api.Manifest{Name: "A", Version: "1", Layers: greatest}, 0},
		{api.Manifest{Name: "a", Version: "", Layers: greatest}, 0},
		{api.Manifest{Layers: many(3)}, 0},
		{with(api.Ref{Size: most + 1}), 0},
		{with(api.Ref{Size: -1}), 0},
		{with(api.Ref{Size: 7}, api.Ref{Sum: digest(1, 1), Size: -7}, api.Ref{Sum: digest(2, 2), Size: 9}), 0},
		{with(api.Ref{Size: 7}, api.Ref{Size: 7}), 0},
		{with(api.Ref{Size: math.MaxInt}, api.Ref{Sum: digest(1, 1), Size: 1}), 0},
	} {
		if got := Size(c.m); got != c.want {
			t.Errorf("Size%s = %d, want %d", show(c.m), got, c.want)
		}
	}
}

// P7.3

func TestEncodeOfKnown(t *testing.T) {
	x, y := digest(1, 2), digest(3, 4)
	none := string(make([]byte, 32))
	long := strings.Repeat("z", 16)
	for _, c := range []struct {
		m    api.Manifest
		want string
	}{
		{api.Manifest{Name: "a", Version: "1", Layers: []api.Ref{{}}}, "VM\x01\x01a\x011\x01" + none + "\x00"},
		{api.Manifest{Name: "img", Version: "1.2", Layers: []api.Ref{{Sum: x, Size: 300}, {Sum: y, Size: 5}}}, "VM\x01\x03img\x031.2\x02" + string(x[:]) + "\xac\x02" + string(y[:]) + "\x05"},
		{api.Manifest{Name: long, Version: "..", Layers: []api.Ref{{Sum: y, Size: most}}}, "VM\x01\x10" + long + "\x02..\x01" + string(y[:]) + "\xff\xff\xff\xff\x07"},
		{api.Manifest{Name: "-", Version: long, Layers: []api.Ref{{Sum: y, Size: 127}, {Sum: x, Size: 128}}}, "VM\x01\x01-\x10" + long + "\x02" + string(y[:]) + "\x7f" + string(x[:]) + "\x80\x01"},
	} {
		if b, e := Encode(c.m); string(b) != c.want || e != api.OK {
			t.Errorf("Encode%s = %q, %d", show(c.m), b, int(e))
		}
		if m, e := Decode([]byte(c.want)); !isSame(m, c.m) || e != api.OK {
			t.Errorf("Decode(%q) = %s, %d", c.want, show(m), int(e))
		}
		if d, e := Id(c.m); d != sha256.Sum256([]byte(c.want)) || e != api.OK {
			t.Errorf("Id%s = % x, %d", show(c.m), d, int(e))
		}
	}
}

// rest is the bytes of a manifest behind its head.
func rest() string { return string(bytesOf(with(many(2)...))[3:]) }

func TestDecodeOfHeads(t *testing.T) {
	for at := range 3 {
		for c := range 256 {
			head := []byte{'V', 'M', 1}
			isRight := head[at] == byte(c)
			head[at] = byte(c)
			b := append(head, rest()...)
			if isOne(t, b) != isRight {
				t.Errorf("Decode(% x) is %v", b, !isRight)
			}
		}
	}
	for _, s := range []string{"", "V", "VM", "M", "\x01", "vm\x01", "MV\x01", "VL\x01", "VM\x00", "VM\x02", "VM1", " VM\x01", "\x00VM\x01", "VVM\x01", "VM\x00\x01", "VM\x01\x00", "VM\x01VM\x01"} {
		isRefused(t, []byte(s))
		isRefused(t, []byte(s+rest()))
	}
	isRefused(t, nil)
	isRefused(t, []byte("VM\x01"))
}

func TestDecodeOfCutAndLongerRows(t *testing.T) {
	for _, m := range manifests() {
		b := bytesOf(m)
		for n := range len(b) {
			isRefused(t, b[:n])
			isRefused(t, b[n+1:])
		}
		for c := range 256 {
			isRefused(t, append(slices.Clone(b), byte(c)))
			isRefused(t, append([]byte{byte(c)}, b...))
		}
		isRefused(t, append(slices.Clone(b), b...))
		isRefused(t, append(slices.Clone(b), b[3:]...))
		isRefused(t, append(slices.Clone(b), make([]byte, 33)...))
	}
}

// row is a row of bytes out of parts: texts, digests, and numbers of one byte.
func row(parts ...any) []byte {
	out := []byte("VM\x01")
	for _, p := range parts {
		switch x := p.(type) {
		case int:
			out = append(out, byte(x))
		case string:
			out = append(out, x...)
		case []byte:
			out = append(out, x...)
		case api.Digest:
			out = append(out, x[:]...)
		}
	}
	return out
}

func TestDecodeOfLongerNumbers(t *testing.T) {
	d := digest(1, 2)
	longer := func(v uint64, n int) []byte { // a number with n bytes more than it needs
		b := binary.AppendUvarint(nil, v)
		for range n {
			b[len(b)-1] |= 128
			b = append(b, 0)
		}
		return b
	}
	if !isOne(t, row(1, "a", 1, "1", 1, d, 0)) {
		t.Error("a right row is refused")
	}
	for n := 1; n <= 12; n++ {
		isRefused(t, row(longer(1, n), "a", 1, "1", 1, d, 0))
		isRefused(t, row(1, "a", longer(1, n), "1", 1, d, 0))
		isRefused(t, row(1, "a", 1, "1", longer(1, n), d, 0))
		for _, size := range []uint64{0, 1, 5, 127, 128, 300, 16384, most} {
			isRefused(t, row(1, "a", 1, "1", 1, d, longer(size, n)))
			isRefused(t, row(1, "a", 1, "1", 2, d, longer(size, n), digest(3, 4), 0))
			isRefused(t, row(1, "a", 1, "1", 2, digest(3, 4), 0, d, longer(size, n)))
		}
	}
	for _, wrong := range []string{"\x81\x80\x80\x80\x80\x80\x80\x80\x80\x02", "\x81\x80\x80\x80\x80\x80\x80\x80\x80\x80\x01", "\xff\xff\xff\xff\xff\xff\xff\xff\xff\xff"} { // numbers above all
		isRefused(t, row(wrong, "a", 1, "1", 1, d, 0))
		isRefused(t, row(1, "a", wrong, "1", 1, d, 0))
		isRefused(t, row(1, "a", 1, "1", 1, d, wrong))
	}
}

func TestDecodeOfTooGreatNumbers(t *testing.T) {
	d := digest(1, 2)
	name := strings.Repeat("a", 10)
	numbers := []uint64{0, 9, 11, 12, 16, 17, 46, 47, 127, 128, 255, 256, 266, 1 << 16, 1<<31 - 1, 1 << 31, 1<<32 - 1, 1 << 32, 1<<32 + 1, 1<<32 + 10, 1 << 62, 1<<63 - 1, 1 << 63, 1<<63 + 1, 1<<63 + 10, 1<<64 - 10, 1<<64 - 1}
	for _, v := range numbers {
		n := binary.AppendUvarint(nil, v)
		isRefused(t, row(n, name, 1, "1", 1, d, 0))
		isRefused(t, row(1, "a", n, name, 1, d, 0))
		isRefused(t, row(n, name))
		isRefused(t, row(1, "a", n, name))
		isRefused(t, row(n))
	}
	if !isOne(t, row(10, name, 1, "1", 1, d, 0)) || !isOne(t, row(1, "a", 10, name, 1, d, 0)) {
		t.Error("a right row is refused")
	}
	for _, v := range []uint64{1 << 31, 1<<31 + 1, 1<<32 - 1, 1 << 32, 1<<32 + 1, 1<<32 + 300, 1 << 62, 1<<63 - 1, 1 << 63, 1<<63 + 1, 1<<63 + 300, 1<<64 - 1, 1<<64 - 300} {
		n := binary.AppendUvarint(nil, v) // as a Size
		isRefused(t, row(1, "a", 1, "1", 1, d, n))
		isRefused(t, row(1, "a", 1, "1", 2, d, n, digest(3, 4), 0))
		isRefused(t, row(1, "a", 1, "1", 2, digest(3, 4), 0, d, n))
	}
}

func TestDecodeOfCounts(t *testing.T) {
	for has := range 12 {
		m := with(many(has)...)
		b := bytesOf(m)
		at := 3 + 4 + 4
		for c := range 256 {
			b[at] = byte(c)
			if isOne(t, b) != (c == has && has >= 1 && has <= 8) {
				t.Errorf("%d layers, and %d are told", has, c)
			}
		}
	}
	for _, n := range []int{256, 257, 264, 300} {
		isRefused(t, bytesOf(with(many(n)...)))
	}
	isRefused(t, row(1, "a", 1, "1", "\x80\x02", make([]byte, 256*33))) // how many is a byte, and no Var
}

func TestDecodeOfOnesThatMayNotBe(t *testing.T) {
	x, y := api.Ref{Sum: digest(1, 1), Size: 7}, api.Ref{Sum: digest(2, 2), Size: 7}
	for _, m := range []api.Manifest{
		{},
		{Name: "a", Version: "1"},
		{Name: "", Version: "1", Layers: many(1)},
		{Name: "a", Version: "", Layers: many(1)},
		{Name: "A", Version: "1", Layers: many(1)},
		{Name: "a", Version: "a_b", Layers: many(1)},
		{Name: "a\x00", Version: "1", Layers: many(1)},
		{Name: strings.Repeat("a", 17), Version: "1", Layers: many(1)},
		{Name: "a", Version: strings.Repeat("1", 17), Layers: many(1)},
		{Name: strings.Repeat("a", 300), Version: "1", Layers: many(1)},
		with(many(9)...),
		with(many(100)...),
		with(many(255)...),
		with(api.Ref{Size: -1}),
		with(api.Ref{Size: most + 1}),
		with(api.Ref{Size: math.MaxInt}),
		with(api.Ref{Size: math.MinInt}),
		with(x, x),
		with(x, y, x),
		with(make([]api.Ref, 8)...),
	} {
		isRefused(t, bytesOf(m))
	}
	for c := range 256 {
		isRight := strings.IndexByte(letters, byte(c)) >= 0
		for _, m := range []api.Manifest{
			{Name: string([]byte{'a', byte(c)}), Version: "1", Layers: many(1)},
			{Name: "a", Version: string([]byte{byte(c), '1'}), Layers: many(1)},
		} {
			if isOne(t, bytesOf(m)) != isRight {
				t.Errorf("Decode of the bytes of %s is %v", show(m), !isRight)
			}
		}
	}
}

// shortRows yields all rows of at most so many bytes out of alphabet.
func shortRows(alphabet string, most int, yield func([]byte)) {
	var behind func(b []byte)
	behind = func(b []byte) {
		yield(b)
		if len(b) == most {
			return
		}
		for i := range len(alphabet) {
			behind(append(b[:len(b):len(b)], alphabet[i]))
		}
	}
	behind(nil)
}

func TestDecodeOfAllShort(t *testing.T) {
	d := digest(0xe1, 0xe2)
	found := 0
	shortRows("\x00\x01\x02a.\x80\x81", 6, func(b []byte) {
		if isOne(t, row(b, d, 0)) {
			found++
		}
		isRefused(t, row(b))
	})
	if want := 2*2 + 2*2*2*2; found != want { // of names and versions of one byte each, and of one and two
		t.Errorf("%d rows ahead of a digest are a manifest's, not %d", found, want)
	}
	found = 0
	shortRows("\x00\x01\x07\x08\x7f\x80\xff", 6, func(b []byte) {
		if isOne(t, row(1, "a", 1, "1", 1, d, b)) {
			found++
		}
	})
	// a Size of one to four bytes: its last one is not 0, but where it is the only one; of five: its last one is 1 or 7
	if want := 5 + 4*2 + 4*4 + 4*8 + 2*16; found != want {
		t.Errorf("%d rows behind a digest are a manifest's, not %d", found, want)
	}
}

func TestDecodeOfChangedRows(t *testing.T) {
	for _, m := range manifests() {
		b := bytesOf(m)
		for i := range b {
			for c := range 256 {
				changed := slices.Clone(b)
				changed[i] = byte(c)
				isOne(t, changed)
			}
		}
	}
}

func TestDecodeByChance(t *testing.T) {
	r := rand.New(rand.NewSource(2))
	right, wrong := 0, 0
	for range 40000 {
		b := bytesOf(someManifest(r, 60))
		for range r.Intn(3) {
			switch i := r.Intn(len(b)); r.Intn(4) {
			case 0:
				b[i] = byte(r.Intn(256))
			case 1:
				b = slices.Delete(b, i, i+r.Intn(len(b)-i))
			case 2:
				b = slices.Insert(b, i, byte(r.Intn(5)))
			case 3:
				b[i] ^= 1 << r.Intn(8)
			}
			if len(b) == 0 {
				break
			}
		}
		if isOne(t, b) {
			right++
		} else {
			wrong++
		}
	}
	if right < 1000 || wrong < 1000 {
		t.Error("too few of a kind:", right, wrong)
	}
	for range 20000 {
		b := make([]byte, r.Intn(120))
		r.Read(b)
		isOne(t, append([]byte("VM\x01"), b...))
		isOne(t, b)
	}
}

// P7.4

func isDigits(s string) bool {
	return s != "" && strings.Trim(s, "0123456789") == ""
}

// orderOf is what P7.4 says of two texts, word by word.
func orderOf(a, b string) int {
	piecesA, piecesB := strings.Split(a, "."), strings.Split(b, ".")
	for i := range min(len(piecesA), len(piecesB)) {
		x, y := piecesA[i], piecesB[i]
		switch {
		case x == y:
			continue
		case isDigits(x) && !isDigits(y):
			return -1
		case !isDigits(x) && isDigits(y):
			return 1
		case isDigits(x):
			numberX, _ := new(big.Int).SetString(x, 10)
			numberY, _ := new(big.Int).SetString(y, 10)
			if c := numberX.Cmp(numberY); c != 0 {
				return c
			}
		}
		return bytes.Compare([]byte(x), []byte(y))
	}
	return cmp.Compare(len(piecesA), len(piecesB))
}

// isOrdered fails where Order of the two, either way about, is not as the chapter tells.
func isOrdered(t *testing.T, a, b string) {
	t.Helper()
	want := orderOf(a, b)
	if got, back := Order(a, b), Order(b, a); got != want || back != -want {
		t.Fatalf("Order(%.100q, %.100q) = %d, and %d the other way about, want %d", a, b, got, back, want)
	}
}

func TestOrderOfRising(t *testing.T) {
	long := strings.Repeat("9", 400)
	for _, rising := range [][]string{
		{"1.9", "1.10", "1.11", "1.100", "2", "2.0", "10"},
		{"1", "1.0", "1.0.0", "1.1", "1.", "1..", "1.a", "2", "a"},
		{"0", "00", "000", "0001", "001", "01", "1", "002", "02", "2"},
		{"0", "0.0", "00", "00.0", "1", "", ".0", ".", "..", "...", ".a", "-", "a"},
		{"1.2", "1.a", "1a", "a.1", "a.a"},
		{"9", "10", "09a", "1-", "10a", "9a", "a", "a0", "a1", "a10", "a9", "b"}, // of digits and others: by bytes
		{"1.0.9", "1.0.10", "1.00.9", "1.01.0", "1.1.0", "01a"},
		{"18446744073709551615", "018446744073709551616", "18446744073709551616", "18446744073709551617", "99999999999999999999", "100000000000000000000"},
		{"9223372036854775807", "9223372036854775808", "36893488147419103231", "36893488147419103232"},
		{long, "0" + long + "0", long + "0", long + "1", "1" + long + "0", "1" + long + "1", long + "a", long + "b"},
		{"1.x." + long + ".1", "1.x." + long + ".02", "1.x." + long + ".2", "1.x.1" + long},
		{"1", "\x00", "-1", "/", "/1", "1-", "1/", "1:", ":", "A", "a", "\x7f", "\xc3\xa9", "\xd9\xa3", "\xff"},
		{"ab", "ab.c", "ab.c-", "abc"},
		{"a", "a.", "a..", "a...", "a.-", "a.a", "a-", "aa"},
		{"a", "a.0", "a.0.", "a.", "a..0", "a..", "aa"},
		{"2", "+1", "-1", "-2", "0x1", "1_0", "1e3"},
	} {
		for i, a := range rising {
			for k, b := range rising {
				if got := Order(a, b); got != cmp.Compare(i, k) {
					t.Errorf("Order(%.60q, %.60q) = %d", a, b, got)
				}
				isOrdered(t, a, b)
			}
		}
	}
}

func TestOrderOfNoughtsAhead(t *testing.T) {
	for ahead := range 40 {
		for more := range 40 {
			for _, n := range []string{"", "1", "9", "10", "12345678901234567890123"} {
				x, y := strings.Repeat("0", ahead)+n, strings.Repeat("0", more)+n
				isOrdered(t, x, y)
				isOrdered(t, x, y+"1")
				isOrdered(t, x+".2", y+".1")
				isOrdered(t, "a."+x, "a."+y+".0")
			}
		}
	}
}

func TestOrderOfAllShort(t *testing.T) {
	for _, c := range []struct {
		alphabet string
		most     int
	}{{"01a.", 4}, {"029-.", 3}, {"\x00./0:\xff", 3}, {".0", 7}, {".a1", 5}} {
		var all []string
		shortRows(c.alphabet, c.most, func(b []byte) { all = append(all, string(b)) })
		for _, a := range all {
			for _, b := range all {
				if got := Order(a, b); got != orderOf(a, b) {
					t.Fatalf("Order(%q, %q) = %d, want %d", a, b, got, orderOf(a, b))
				}
			}
		}
	}
}

// someText is a text by chance.
func someText(r *rand.Rand) string {
	b := make([]byte, r.Intn(50))
	alphabet := []string{"0123456789.", "0.", "01a.", letters}[r.Intn(4)]
	for i := range b {
		b[i] = alphabet[r.Intn(len(alphabet))]
	}
	return string(b)
}

func TestOrderByChance(t *testing.T) {
	r := rand.New(rand.NewSource(3))
	for range 100000 {
		a := someText(r)
		b := []byte(a)
		for range r.Intn(3) { // texts that are nearly alike
			i := r.Intn(len(b) + 1)
			b = slices.Concat(b[:i], []byte{"019a.-"[r.Intn(6)]}, b[min(len(b), i+r.Intn(2)):])
		}
		isOrdered(t, a, string(b))
		isOrdered(t, a, someText(r))
		isOrdered(t, a, a+someText(r))
		isOrdered(t, a, a)
	}
}

func TestOrderOfLongTexts(t *testing.T) {
	for _, long := range []string{strings.Repeat("7", 1<<16), strings.Repeat("0", 1<<16), strings.Repeat(".", 1<<16), strings.Repeat("1.", 1<<15), strings.Repeat("a", 1<<16)} {
		for _, end := range []string{"", "0", "1", ".", "a", ".0", ".a"} {
			for _, other := range []string{"", "0", "2", ".", "b"} {
				a, b := long+end, long+other
				back := Order(b, a)
				if got := Order(a, b); got != -back || (got == 0) != (a == b) {
					t.Errorf("Order(%.5q.. %q, %.5q.. %q) = %d", a, end, b, other, got)
				}
			}
		}
	}
	long := strings.Repeat("0", 1<<20)
	if Order(long+"1", "1") != -1 || Order(long+"2", "1") != 1 || Order("1."+long, "1.a") != -1 || Order(long, "0") != 1 {
		t.Error("many noughts are not passed over")
	}
}

// P7.5

func TestWhatIsEncodedIsDecoded(t *testing.T) {
	r := rand.New(rand.NewSource(4))
	all := manifests()
	for _, name := range []string{"a", "b", "ab", "a1", "a.1"} {
		for _, version := range []string{"1", "11", "b1", "1.1"} {
			for _, size := range []int{0, 1, 128} {
				x, y := api.Ref{Sum: digest(1, 1), Size: size}, api.Ref{Sum: digest(2, 2)}
				for _, l := range [][]api.Ref{{x}, {y}, {x, y}, {y, x}} {
					all = append(all, api.Manifest{Name: name, Version: version, Layers: l})
				}
			}
		}
	}
	for range 2000 {
		all = append(all, someManifest(r, 1000))
	}
	rows := map[string]api.Manifest{}
	for _, m := range all {
		b, e := Encode(m)
		if e != api.OK {
			continue
		}
		got, e := Decode(b)
		if !isSame(got, m) || e != api.OK {
			t.Fatalf("%s becomes %s, %d", show(m), show(got), int(e))
		}
		again, e := Encode(got)
		if !bytes.Equal(again, b) || e != api.OK {
			t.Fatalf("% x becomes % x, %d", b, again, int(e))
		}
		if other, ok := rows[string(b)]; ok && !isSame(other, m) {
			t.Fatalf("%s and %s have one row", show(m), show(other))
		}
		rows[string(b)] = m
	}
	if len(rows) < 1000 {
		t.Error("too few:", len(rows))
	}
}

func TestOrderIsOneOrder(t *testing.T) {
	var all []string
	shortRows("01a.", 3, func(b []byte) { all = append(all, string(b)) })
	all = append(all, "1.9", "1.10", "1.09", "1.1.", "01.1", "001", "1.a.2", "10.0", "-", "\xff", "99999999999999999999", "100000000000000000000", "99999999999999999999a")
	slices.Sort(all)
	all = slices.Compact(all)
	slices.SortFunc(all, Order)
	for i, a := range all {
		for k, b := range all { // where all stand in a row, any two go by their places: so do any three
			if got := Order(a, b); got != cmp.Compare(i, k) {
				t.Fatalf("Order(%q, %q) = %d, at %d and %d", a, b, got, i, k)
			}
		}
	}
}

// Memory

func TestWhatIsHandedInStays(t *testing.T) {
	hidden := append(many(2), api.Ref{Sum: digest(0, 0), Size: -1}, api.Ref{Sum: digest(1, 0), Size: 5})
	before := slices.Clone(hidden)
	m := with(hidden[:2]...)
	m.Layers = hidden[:2]
	b, e := Encode(m)
	d, idError := Id(m)
	if why := Check(m); why != api.OK || e != api.OK || Size(m) != 100 || idError != api.OK || d != sha256.Sum256(bytesOf(m)) {
		t.Error("what lies behind the list is read:", int(why), int(e), Size(m), int(idError))
	}
	if !slices.Equal(hidden, before) {
		t.Errorf("changed: %s", show(with(hidden...)))
	}
	empty := with()
	empty.Layers = hidden[:0]
	isChecked(t, empty, api.ErrNone)
	rest := append(slices.Clone(b), hidden[3].Sum[:]...)
	again := slices.Clone(rest)
	got, e := Decode(rest[:len(b)])
	if !isSame(got, m) || e != api.OK || !bytes.Equal(rest, again) {
		t.Errorf("Decode of what has more behind it: %s, %d", show(got), int(e))
	}
	for n := range len(b) {
		isRefused(t, rest[:n])
	}
	for i := range rest {
		rest[i] = 'z'
	}
	if !isSame(got, m) {
		t.Errorf("what was told has changed: %s", show(got))
	}
}

func TestWhatIsHandedOutIsNew(t *testing.T) {
	m := with(many(3)...)
	first, _ := Encode(m)
	second, _ := Encode(m)
	kept := slices.Clone(second)
	_ = append(first, "more"...)
	for i := range first {
		first[i] = 0
	}
	if !bytes.Equal(second, kept) {
		t.Errorf("% x", second)
	}
	one, _ := Decode(second)
	two, _ := Decode(second)
	_ = append(one.Layers, api.Ref{Size: 1})
	clear(one.Layers)
	if !isSame(two, m) || !bytes.Equal(second, kept) {
		t.Errorf("%s % x", show(two), second)
	}
	third, e := Encode(m)
	if !bytes.Equal(third, kept) || e != api.OK {
		t.Errorf("% x, %d", third, int(e))
	}
}
