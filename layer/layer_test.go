package layer

import (
	"bytes"
	"crypto/sha256"
	"encoding/binary"
	"fmt"
	"math"
	"math/rand"
	"slices"
	"strconv"
	"strings"
	"testing"

	"veneer/api"
)

const letters = "abcdefghijklmnopqrstuvwxyz0123456789_-." // the bytes that a part may have

// Short hands for entries that may be.

func file(path, body string) api.Entry { return api.Entry{Path: path, Kind: 1, Mode: 420, Body: body} }
func dir(path string) api.Entry        { return api.Entry{Path: path, Kind: 2, Mode: 493} }
func white(path string) api.Entry      { return api.Entry{Path: path, Kind: 3} }
func blind(path string) api.Entry      { return api.Entry{Path: path, Kind: 4, Mode: 511} }

// show is entries as a text that is not too long.
func show(l []api.Entry) string {
	return fmt.Sprintf("%.300s", fmt.Sprintf("%q", fmt.Sprint(l)))
}

// rows is n parts alike, with a stroke between.
func rows(part string, n int) string {
	return strings.Join(slices.Repeat([]string{part}, n), "/")
}

// isPath tells whether a path may be an entry's, as chapters 5 and 6 tell it.
func isPath(p string) bool {
	parts := strings.Split(p, "/")
	return len(parts) <= 8 && !slices.ContainsFunc(parts, func(s string) bool {
		return s == "" || s == "." || s == ".." || len(s) > 24 || strings.Trim(s, letters) != ""
	})
}

// checkOf is what P6.1 says of l, word by word.
func checkOf(l []api.Entry) (int, api.Errno) {
	if len(l) > 64 {
		return 0, api.ErrBig
	}
	for i, x := range l {
		parts := strings.Split(x.Path, "/")
		isBelow := func(y api.Entry) bool {
			of := strings.Split(y.Path, "/")
			return (y.Kind == 1 || y.Kind == 3) && len(of) < len(parts) && slices.Equal(of, parts[:len(of)])
		}
		switch {
		case !isPath(x.Path):
			return i, api.ErrPath
		case x.Kind != 1 && x.Kind != 2 && x.Kind != 3 && x.Kind != 4:
			return i, api.ErrKind
		case x.Mode < 0, x.Mode > 511, x.Kind == 3 && x.Mode != 0:
			return i, api.ErrArg
		case x.Kind != 1 && x.Body != "":
			return i, api.ErrForm
		case len(x.Body) > 256:
			return i, api.ErrBig
		case i > 0 && slices.Compare(strings.Split(l[i-1].Path, "/"), parts) >= 0:
			return i, api.ErrOrder
		case slices.ContainsFunc(l[:i], isBelow):
			return i, api.ErrState
		}
	}
	return 0, api.OK
}

// bytesOf is what the chapter calls the bytes of a layer, also of entries that may not be.
func bytesOf(l []api.Entry) []byte {
	out := binary.AppendUvarint([]byte{'V', 'L', 1}, uint64(len(l)))
	for _, x := range l {
		out = append(out, byte(x.Kind), byte(x.Mode/256), byte(x.Mode%256))
		out = append(binary.AppendUvarint(out, uint64(len(x.Path))), x.Path...)
		if x.Kind == 1 {
			out = append(binary.AppendUvarint(out, uint64(len(x.Body))), x.Body...)
		}
	}
	return out
}

// isTold fails where Check, Size, Encode or Id of l, or Decode of its bytes, are not as the chapter tells.
func isTold(t *testing.T, l []api.Entry) {
	t.Helper()
	wantAt, want := checkOf(l)
	if at, e := Check(l); at != wantAt || e != want {
		t.Fatalf("Check(%s) = %d, %d, want %d, %d", show(l), at, int(e), wantAt, int(want))
	}
	size := 0
	for _, x := range l {
		size += len(x.Path + x.Body)
	}
	if got := Size(l); got != size {
		t.Fatalf("Size(%s) = %d, want %d", show(l), got, size)
	}
	b, e := Encode(l)
	d, idError := Id(l)
	if want != api.OK {
		if len(b) != 0 || e != want || d != (api.Digest{}) || idError != want {
			t.Fatalf("Encode, Id of %s: % x, %d, % x, %d, want %d alone", show(l), b, int(e), d, int(idError), int(want))
		}
		return
	}
	row := bytesOf(l)
	if !bytes.Equal(b, row) || e != api.OK {
		t.Fatalf("Encode(%s) = % x, %d, want % x", show(l), b, int(e), row)
	}
	if d != sha256.Sum256(row) || idError != api.OK {
		t.Fatalf("Id(%s) = % x, %d", show(l), d, int(idError))
	}
	if got, e := Decode(row); !slices.Equal(got, l) || e != api.OK {
		t.Fatalf("Decode(% x) = %s, %d, want %s", row, show(got), int(e), show(l))
	}
}

// isRefused fails where Decode of b tells anything but ErrForm.
func isRefused(t *testing.T, b []byte) {
	t.Helper()
	if l, e := Decode(b); len(l) != 0 || e != api.ErrForm {
		t.Fatalf("Decode(% .300x) = %s, %d", b, show(l), int(e))
	}
}

// isOne fails where Decode of b tells a layer that may not be, or that has other bytes. With isTold of layers that may be it says all of Decode.
func isOne(t *testing.T, b []byte) bool {
	t.Helper()
	l, e := Decode(b)
	if e != api.OK {
		isRefused(t, b)
		return false
	}
	if _, why := checkOf(l); why != api.OK || !bytes.Equal(bytesOf(l), b) {
		t.Fatalf("Decode(% .300x) = %s", b, show(l))
	}
	return true
}

// isChecked fails where Check of l is not that place, and that error, or where the others are not as the chapter tells.
func isChecked(t *testing.T, l []api.Entry, at int, why api.Errno) {
	t.Helper()
	if got, e := Check(l); got != at || e != why {
		t.Fatalf("Check(%s) = %d, %d, want %d, %d", show(l), got, int(e), at, int(why))
	}
	isTold(t, l)
}

// many is n files that rise.
func many(n int) []api.Entry {
	l := make([]api.Entry, n)
	for i := range l {
		l[i] = file("f"+strconv.Itoa(1000+i), strconv.Itoa(i))
	}
	return l
}

// layers are layers that may be: with none, with each kind, with the least and the greatest of all.
func layers() [][]api.Entry {
	greatest := many(64)
	for i := range greatest {
		greatest[i] = api.Entry{Path: rows(strings.Repeat("x", 24), 7) + "/" + strconv.Itoa(1000+i) + strings.Repeat("y", 20), Kind: 1, Mode: 511, Body: strings.Repeat("\xff", 256)}
	}
	return [][]api.Entry{
		nil,
		{file("a/b", "hi")},
		{file("a", "")},
		{file("a", "\x00")},
		{dir("a")},
		{white("a")},
		{blind("a")},
		{{Path: "a", Kind: 1}},
		{{Path: "a", Kind: 2}},
		{{Path: "a", Kind: 4, Mode: 256}},
		{file(strings.Repeat("z", 24), strings.Repeat("b", 127))},
		{file(rows(strings.Repeat("z", 24), 5)+"/zz", strings.Repeat("b", 128))},
		{file(rows(strings.Repeat("z", 24), 5)+"/zzz", strings.Repeat("b", 256))},
		{dir(rows(strings.Repeat("z", 24), 8))},
		{dir("a"), file("a/b", "x"), white("a/c"), blind("a/d"), file("a/d/e", "VL\x01\x00"), file("a-b", ""), dir("b")},
		{blind("usr"), dir("usr/bin"), file("usr/bin/x", "y"), white("usr/lib"), file("usrx", "z")},
		many(2),
		many(63),
		many(64),
		greatest,
	}
}

// P6.1

func TestCheckOfKnown(t *testing.T) {
	for _, x := range []struct {
		l   []api.Entry
		at  int
		why api.Errno
	}{
		{nil, 0, api.OK},
		{[]api.Entry{}, 0, api.OK},
		{[]api.Entry{file("a/b", "hi")}, 0, api.OK},
		{[]api.Entry{dir("a"), file("a/b", ""), file("a/b/c", "")}, 2, api.ErrState},
		{[]api.Entry{file("b", ""), file("a", "")}, 1, api.ErrOrder},
		{[]api.Entry{file("a", ""), file("a", "")}, 1, api.ErrOrder},
		{[]api.Entry{dir("a"), dir("a")}, 1, api.ErrOrder},
		{[]api.Entry{white("a"), dir("a")}, 1, api.ErrOrder},
		{[]api.Entry{dir("a"), dir("a/b"), dir("a")}, 2, api.ErrOrder},
		{[]api.Entry{dir("a/b"), dir("a")}, 1, api.ErrOrder},
		{[]api.Entry{dir("a-b"), dir("a/b")}, 1, api.ErrOrder},
		{[]api.Entry{dir("a/b"), dir("a-b")}, 0, api.OK},
		{[]api.Entry{dir("a"), dir("c"), dir("b")}, 2, api.ErrOrder},
		{[]api.Entry{dir("b"), dir("a"), dir("b")}, 1, api.ErrOrder},
		{[]api.Entry{{}}, 0, api.ErrPath},
		{[]api.Entry{dir("")}, 0, api.ErrPath},
		{[]api.Entry{dir("a"), dir("")}, 1, api.ErrPath},
	} {
		isChecked(t, x.l, x.at, x.why)
	}
}

func TestCheckCountsEntries(t *testing.T) {
	for n := range 64 {
		isChecked(t, many(n+1), 0, api.OK)
	}
	for _, n := range []int{65, 66, 128, 1000} {
		isChecked(t, many(n), 0, api.ErrBig)
		isChecked(t, make([]api.Entry, n), 0, api.ErrBig)
	}
	last := many(64)
	last[63].Kind = 5
	isChecked(t, last, 63, api.ErrKind)
	isChecked(t, make([]api.Entry, 64), 0, api.ErrPath)
}

func TestCheckOfPaths(t *testing.T) {
	for _, p := range []string{"a", "...", "..a", "a.", "0", "_", "-", "a/b", strings.Repeat("a", 24), rows(strings.Repeat("a", 24), 8)} {
		isChecked(t, []api.Entry{dir(p)}, 0, api.OK)
	}
	for _, p := range []string{"", "/", "//", "/a", "a/", "a//b", ".", "..", "./a", "a/.", "a/../b", "..", "A", "a/B", "a b", "a\x00", "é", "\xff", "a:b",
		strings.Repeat("a", 25), "a/" + strings.Repeat("a", 25), rows("a", 9), strings.Repeat("a", 1<<20)} {
		isChecked(t, []api.Entry{dir(p)}, 0, api.ErrPath)
		isChecked(t, []api.Entry{{Path: p, Kind: -1, Mode: -1, Body: strings.Repeat("x", 257)}}, 0, api.ErrPath)
		isChecked(t, []api.Entry{dir("0"), dir(p), dir("c")}, 1, api.ErrPath)
		isChecked(t, []api.Entry{file("a", ""), dir(p)}, 1, api.ErrPath)
	}
}

func TestCheckOfKinds(t *testing.T) {
	for kind := range 6 {
		why := api.OK
		if kind == 0 || kind == 5 {
			why = api.ErrKind
		}
		isChecked(t, []api.Entry{{Path: "a", Kind: kind}}, 0, why)
	}
	for _, kind := range []int{-1, -3, 6, 127, 255, 256, 257, 258, 259, 260, 1 << 16, 1<<32 + 1, math.MaxInt, math.MinInt, math.MinInt + 1} {
		isChecked(t, []api.Entry{{Path: "a", Kind: kind}}, 0, api.ErrKind)
		isChecked(t, []api.Entry{{Path: "a", Kind: kind, Mode: 512, Body: strings.Repeat("x", 257)}}, 0, api.ErrKind)
		isChecked(t, []api.Entry{dir("b"), {Path: "a", Kind: kind}}, 1, api.ErrKind)
		isChecked(t, []api.Entry{white("a"), {Path: "a/b", Kind: kind}}, 1, api.ErrKind)
	}
}

func TestCheckOfModes(t *testing.T) {
	for kind := 1; kind <= 4; kind++ {
		for mode := -2; mode < 520; mode++ {
			why := api.OK
			if mode < 0 || mode > 511 || kind == 3 && mode != 0 {
				why = api.ErrArg
			}
			isChecked(t, []api.Entry{{Path: "a", Kind: kind, Mode: mode}}, 0, why)
		}
		for _, mode := range []int{-1 << 16, 1 << 16, 1<<16 + 1, 1 << 32, 1<<32 + 511, math.MaxInt, math.MinInt, math.MinInt + 511} {
			isChecked(t, []api.Entry{{Path: "a", Kind: kind, Mode: mode}}, 0, api.ErrArg)
			isChecked(t, []api.Entry{{Path: "a", Kind: kind, Mode: mode, Body: strings.Repeat("x", 257)}}, 0, api.ErrArg)
			isChecked(t, []api.Entry{dir("b"), {Path: "a", Kind: kind, Mode: mode}}, 1, api.ErrArg)
			isChecked(t, []api.Entry{white("a"), {Path: "a/b", Kind: kind, Mode: mode}}, 1, api.ErrArg)
		}
	}
}

func TestCheckOfBodies(t *testing.T) {
	for _, n := range []int{0, 1, 127, 128, 255, 256, 257, 258, 300, 512, 1 << 20} {
		body := strings.Repeat("x", n)
		why := api.OK
		if n > 256 {
			why = api.ErrBig
		}
		isChecked(t, []api.Entry{file("a", body)}, 0, why)
		if n == 0 {
			continue
		}
		for kind := 2; kind <= 4; kind++ {
			isChecked(t, []api.Entry{{Path: "a", Kind: kind, Body: body}}, 0, api.ErrForm)
			isChecked(t, []api.Entry{dir("b"), {Path: "a", Kind: kind, Body: body}}, 1, api.ErrForm)
			isChecked(t, []api.Entry{white("a"), {Path: "a/b", Kind: kind, Body: body}}, 1, api.ErrForm)
		}
	}
	long := file("a/b", strings.Repeat("x", 257))
	isChecked(t, []api.Entry{dir("b"), long}, 1, api.ErrBig)
	isChecked(t, []api.Entry{white("a"), long}, 1, api.ErrBig)
}

func TestCheckOfWhatLiesBelow(t *testing.T) {
	for _, shut := range []api.Entry{file("a", "x"), white("a")} {
		for _, below := range []string{"a/b", "a/a", "a/b/c", "a/-", rows("a", 8)} {
			isChecked(t, []api.Entry{shut, dir(below)}, 1, api.ErrState)
			isChecked(t, []api.Entry{dir("0"), shut, dir(below), dir("b")}, 2, api.ErrState)
			isChecked(t, []api.Entry{shut, white(below), dir("a/c")}, 1, api.ErrState)
			isChecked(t, []api.Entry{shut, dir("a-b"), dir(below)}, 2, api.ErrOrder)
			isChecked(t, []api.Entry{shut, dir("b"), dir(below)}, 2, api.ErrOrder)
		}
		for _, beside := range []string{"a-", "a-b", "a.b", "a0", "aa", "ab", "aa/b", "a-/b", "b", "b/a", "b/a/c"} {
			isChecked(t, []api.Entry{shut, file(beside, "")}, 0, api.OK)
			isChecked(t, []api.Entry{dir("0"), shut, white(beside), dir("c")}, 0, api.OK)
		}
	}
	for _, open := range []api.Entry{dir("a"), blind("a")} {
		isChecked(t, []api.Entry{open, file("a/b", "")}, 0, api.OK)
		isChecked(t, []api.Entry{open, file("a/b", ""), dir("a/c"), dir("a/c/d")}, 0, api.OK)
		isChecked(t, []api.Entry{open, dir("a/b"), file("a/b/c", ""), file("a/b/c/d", "")}, 3, api.ErrState)
		isChecked(t, []api.Entry{open, file("a/b", ""), file("a/b-c", ""), file("a/c", "")}, 0, api.OK)
		isChecked(t, []api.Entry{open, dir("a/b/c/d"), white("a/c"), dir("a/c/d/e/f")}, 3, api.ErrState)
	}
}

func TestCheckTellsTheFirst(t *testing.T) {
	wrong := []struct {
		x   api.Entry
		why api.Errno
	}{
		{api.Entry{Path: "B", Kind: 2}, api.ErrPath},
		{api.Entry{Path: "b", Kind: 5}, api.ErrKind},
		{api.Entry{Path: "b", Kind: 2, Mode: 512}, api.ErrArg},
		{api.Entry{Path: "b", Kind: 2, Body: "x"}, api.ErrForm},
		{api.Entry{Path: "b", Kind: 1, Body: strings.Repeat("x", 257)}, api.ErrBig},
		{api.Entry{Path: "a", Kind: 2}, api.ErrOrder},
		{api.Entry{Path: "a/b", Kind: 2}, api.ErrState},
	}
	for _, x := range wrong {
		for _, y := range wrong {
			isChecked(t, []api.Entry{file("a", ""), x.x, y.x}, 1, x.why)
			isChecked(t, []api.Entry{dir("0"), file("a", ""), x.x, file("b/c", ""), y.x}, 2, x.why)
		}
	}
}

// some are entries out of all that these may have.
func some(paths []string, kinds, modes []int, bodies []string) []api.Entry {
	var out []api.Entry
	for _, p := range paths {
		for _, k := range kinds {
			for _, m := range modes {
				for _, b := range bodies {
					out = append(out, api.Entry{Path: p, Kind: k, Mode: m, Body: b})
				}
			}
		}
	}
	return out
}

func TestAllOfShortLists(t *testing.T) {
	long, longer := strings.Repeat("x", 256), strings.Repeat("x", 257)
	ones := some([]string{"", "A", "a", "a/b", "a/", rows("a", 8), rows("a", 9)}, []int{-1, 0, 1, 2, 3, 4, 5, 257}, []int{-1, 0, 1, 256, 511, 512}, []string{"", "x", long, longer})
	for _, x := range ones {
		isTold(t, []api.Entry{x})
	}
	twos := some([]string{"", "a", "a/b", "a-b"}, []int{0, 1, 2, 3, 4}, []int{-1, 0, 511}, []string{"", "x", longer})
	for _, x := range twos {
		for _, y := range twos {
			isTold(t, []api.Entry{x, y})
		}
	}
	threes := some([]string{"a", "a/b", "a/b/c", "a-b", "b"}, []int{1, 2, 3, 4, 5}, []int{0, 1}, []string{""})
	for _, x := range threes {
		for _, y := range threes {
			for _, z := range threes {
				isTold(t, []api.Entry{x, y, z})
			}
		}
	}
}

// someLayer is entries by chance, that mostly may be, and mostly rise.
func someLayer(r *rand.Rand, seldom int) []api.Entry {
	parts := []string{"a", "b", "a-b", "ab", "...", strings.Repeat("x", 24)}
	l := make([]api.Entry, r.Intn(12))
	for i := range l {
		depth := 1 + r.Intn(4)
		path := make([]string, depth)
		for k := range path {
			path[k] = parts[r.Intn(len(parts))]
		}
		x := api.Entry{Path: strings.Join(path, "/"), Kind: []int{1, 2, 2, 2, 3, 4, 4}[r.Intn(7)]}
		if x.Kind == 1 {
			body := make([]byte, []int{0, 1, 5, 127, 128, 256}[r.Intn(6)])
			r.Read(body)
			x.Body = string(body)
		}
		if x.Kind != 3 {
			x.Mode = r.Intn(512)
		}
		l[i] = x
	}
	slices.SortFunc(l, func(x, y api.Entry) int {
		return slices.Compare(strings.Split(x.Path, "/"), strings.Split(y.Path, "/"))
	})
	l = slices.CompactFunc(l, func(x, y api.Entry) bool { return x.Path == y.Path })
	for i := range l {
		if r.Intn(seldom) > 0 {
			continue
		}
		switch r.Intn(6) {
		case 0:
			l[i].Path = []string{"", "A", "a/", rows("a", 9)}[r.Intn(4)]
		case 1:
			l[i].Kind = r.Intn(7) - 1
		case 2:
			l[i].Mode = []int{-1, 1, 512, 1 << 16}[r.Intn(4)]
		case 3:
			l[i].Body = strings.Repeat("y", []int{1, 256, 257}[r.Intn(3)])
		case 4:
			k := r.Intn(len(l))
			l[i], l[k] = l[k], l[i]
		case 5:
			l[i] = l[r.Intn(len(l))]
		}
	}
	return l
}

func TestAllByChance(t *testing.T) {
	r := rand.New(rand.NewSource(1))
	told := map[api.Errno]int{}
	for range 40000 {
		l := someLayer(r, 12)
		isTold(t, l)
		_, why := checkOf(l)
		told[why]++
	}
	for _, why := range []api.Errno{api.OK, api.ErrPath, api.ErrKind, api.ErrArg, api.ErrForm, api.ErrBig, api.ErrOrder, api.ErrState} {
		if told[why] < 50 {
			t.Errorf("only %d are told %d", told[why], int(why))
		}
	}
}

// P6.2

func TestSize(t *testing.T) {
	if Size(nil) != 0 || Size([]api.Entry{}) != 0 || Size(make([]api.Entry, 100)) != 0 {
		t.Error("nothing has a size")
	}
	for _, x := range []struct {
		l    []api.Entry
		want int
	}{
		{[]api.Entry{file("a/b", "hi")}, 5},
		{[]api.Entry{dir("a"), file("a/b", "hi"), white("a/c"), blind("b")}, 10},
		{[]api.Entry{{Path: "", Kind: 9, Mode: -1, Body: "xyz"}}, 3},
		{[]api.Entry{{Path: "A//..", Kind: 3, Mode: 7, Body: "xyz"}, {Path: "A//..", Body: "\x00"}}, 14},
		{[]api.Entry{file("b", ""), file("a", ""), file("a/c", "\xff\xff")}, 7},
		{[]api.Entry{file("é", "é")}, 4},
		{[]api.Entry{file("a", strings.Repeat("x", 1<<20))}, 1<<20 + 1},
		{slices.Repeat([]api.Entry{{Path: "xy", Body: "z"}}, 1000), 3000},
	} {
		if got := Size(x.l); got != x.want {
			t.Errorf("Size(%s) = %d, want %d", show(x.l), got, x.want)
		}
	}
}

// P6.3

func TestEncodeOfKnown(t *testing.T) {
	for _, x := range []struct {
		l    []api.Entry
		want string
	}{
		{nil, "VL\x01\x00"},
		{[]api.Entry{file("a/b", "hi")}, "VL\x01\x01\x01\x01\xa4\x03a/b\x02hi"},
		{[]api.Entry{{Path: "a", Kind: 1}}, "VL\x01\x01\x01\x00\x00\x01a\x00"},
		{[]api.Entry{{Path: "a", Kind: 2, Mode: 511}}, "VL\x01\x01\x02\x01\xff\x01a"},
		{[]api.Entry{white("a"), {Path: "b", Kind: 4, Mode: 255}}, "VL\x01\x02\x03\x00\x00\x01a\x04\x00\xff\x01b"},
		{[]api.Entry{file(rows("aa", 8), strings.Repeat("x", 256))}, "VL\x01\x01\x01\x01\xa4\x17" + rows("aa", 8) + "\x80\x02" + strings.Repeat("x", 256)},
		{[]api.Entry{dir(rows(strings.Repeat("z", 24), 8))}, "VL\x01\x01\x02\x01\xed\xc7\x01" + rows(strings.Repeat("z", 24), 8)},
	} {
		if b, e := Encode(x.l); string(b) != x.want || e != api.OK {
			t.Errorf("Encode(%s) = %q, %d", show(x.l), b, int(e))
		}
		if l, e := Decode([]byte(x.want)); !slices.Equal(l, x.l) || e != api.OK {
			t.Errorf("Decode(%.300q) = %s, %d", x.want, show(l), int(e))
		}
		if d, e := Id(x.l); d != sha256.Sum256([]byte(x.want)) || e != api.OK {
			t.Errorf("Id(%s) = % x, %d", show(x.l), d, int(e))
		}
	}
}

func TestAllOfLayers(t *testing.T) {
	for _, l := range layers() {
		isChecked(t, l, 0, api.OK)
	}
}

func TestDecodeOfHeads(t *testing.T) {
	rest := "\x01\x02\x00\x00\x01a"
	for at := range 3 {
		for c := range 256 {
			head := []byte{'V', 'L', 1}
			isRight := head[at] == byte(c)
			head[at] = byte(c)
			b := append(head, rest...)
			if isOne(t, b) != isRight {
				t.Errorf("Decode(% x) is %v", b, !isRight)
			}
		}
	}
	for _, s := range []string{"", "V", "VL", "VL\x01", "L", "\x01", "vl\x01\x00", "LV\x01\x00", "VL\x00", "VL\x02\x00", "VL1\x00", " VL\x01\x00", "\x00VL\x01\x00", "VVL\x01\x00", "VL\x00\x01\x00"} {
		isRefused(t, []byte(s))
	}
	isRefused(t, nil)
}

func TestDecodeOfCutAndLongerRows(t *testing.T) {
	for _, l := range layers() {
		b := bytesOf(l)
		for n := range len(b) {
			isRefused(t, b[:n])
		}
		for c := range 256 {
			isRefused(t, append(slices.Clone(b), byte(c)))
		}
		isRefused(t, append(slices.Clone(b), b...))
		isRefused(t, append(slices.Clone(b), b[3:]...))
	}
}

// row is a row of bytes out of parts: texts, and numbers of one byte.
func row(parts ...any) []byte {
	out := []byte("VL\x01")
	for _, p := range parts {
		switch x := p.(type) {
		case int:
			out = append(out, byte(x))
		case string:
			out = append(out, x...)
		case []byte:
			out = append(out, x...)
		}
	}
	return out
}

func TestDecodeOfLongerNumbers(t *testing.T) {
	for _, longer := range []struct{ zero, one, two string }{
		{"\x80\x00", "\x81\x00", "\x82\x00"},
		{"\x80\x80\x00", "\x81\x80\x00", "\x82\x80\x00"},
		{"\x80\x80\x80\x80\x80\x80\x80\x80\x80\x00", "\x81\x80\x80\x80\x80\x80\x80\x80\x80\x00", "\x82\x80\x80\x80\x80\x80\x80\x80\x80\x00"},
	} {
		isRefused(t, row(longer.zero))
		isRefused(t, row(longer.one, 2, 0, 0, 1, "a"))
		isRefused(t, row(1, 2, 0, 0, longer.one, "a"))
		isRefused(t, row(1, 2, 0, 0, longer.zero))
		isRefused(t, row(1, 1, 0, 0, longer.one, "a", 0))
		isRefused(t, row(1, 1, 0, 0, 1, "a", longer.zero))
		isRefused(t, row(1, 1, 0, 0, 1, "a", longer.two, "xy"))
		isRefused(t, row(longer.two, 2, 0, 0, 1, "a", 2, 0, 0, 1, "b"))
	}
	isRefused(t, row(1, 2, 0, 0, "\xb2\x80\x80\x80\x80\x80\x80\x80\x80\x02", strings.Repeat("a", 50)))
	isRefused(t, row(1, 1, 0, 0, 1, "a", "\x80\x82\x00", strings.Repeat("x", 256)))
}

func TestDecodeOfTooGreatNumbers(t *testing.T) {
	body := strings.Repeat("a", 20)
	numbers := []uint64{21, 22, 24, 64, 127, 128, 255, 256, 257, 1 << 16, 1<<31 - 1, 1 << 31, 1<<32 - 1, 1 << 32, 1<<32 + 1, 1<<32 + 20, 1 << 62, 1<<63 - 1, 1 << 63, 1<<63 + 1, 1<<63 + 20, 1<<64 - 20, 1<<64 - 1}
	for _, v := range numbers {
		n := binary.AppendUvarint(nil, v)
		isRefused(t, row(1, 2, 0, 0, n, body))
		isRefused(t, row(1, 1, 0, 0, n, body))
		isRefused(t, row(1, 1, 0, 0, n, body, 0))
		isRefused(t, row(1, 1, 0, 0, 1, "a", n, body))
		isRefused(t, row(n, 2, 0, 0, 1, "a"))
		isRefused(t, row(n))
		isRefused(t, row(2, 2, 0, 0, 1, "a", 2, 0, 0, n, body))
	}
	if !isOne(t, row(1, 2, 0, 0, 20, body)) || !isOne(t, row(1, 1, 0, 0, 1, "a", 20, body)) {
		t.Error("just as many as are left are refused")
	}
	isRefused(t, row(1, 2, 0, 0, 19, body))
	isRefused(t, row(1, 1, 0, 0, 1, "a", 19, body))
	isRefused(t, row(2, 2, 0, 0, 1, "a"))
	isRefused(t, row(0, 2, 0, 0, 1, "a"))
	isRefused(t, row(1, 2, 0, 0, 1, "a", 2, 0, 0, 1, "b"))
}

func TestDecodeOfEntriesThatMayNotBe(t *testing.T) {
	for _, l := range [][]api.Entry{
		many(65),
		many(100),
		many(300),
		make([]api.Entry, 1),
		make([]api.Entry, 65),
		{dir("")},
		{dir("A")},
		{dir("a/")},
		{dir("/a")},
		{dir("a/../b")},
		{dir(strings.Repeat("a", 25))},
		{dir(rows("a", 9))},
		{{Path: "a", Kind: 0}},
		{{Path: "a", Kind: 5}},
		{{Path: "a", Kind: 255}},
		{{Path: "a", Kind: 1, Mode: 512}},
		{{Path: "a", Kind: 2, Mode: 512}},
		{{Path: "a", Kind: 4, Mode: 65535}},
		{{Path: "a", Kind: 2, Mode: 32768}},
		{{Path: "a", Kind: 3, Mode: 1}},
		{{Path: "a", Kind: 3, Mode: 511}},
		{{Path: "a", Kind: 3, Mode: 512}},
		{file("a", strings.Repeat("x", 257))},
		{dir("a"), dir("a")},
		{dir("b"), dir("a")},
		{dir("a-b"), dir("a/b")},
		{file("a", ""), dir("a/b")},
		{white("a"), dir("a/b")},
		{dir("a"), file("a/b", "x"), file("a/b/c", "y")},
	} {
		isRefused(t, bytesOf(l))
	}
	for _, kind := range []int{2, 3, 4} { // a body of what is no file
		isRefused(t, row(1, kind, 0, 0, 1, "a", 0))
		isRefused(t, row(1, kind, 0, 0, 1, "a", 1, "x"))
	}
	isRefused(t, row(1, 1, 0, 0, 1, "a")) // a file without one
	isRefused(t, row(2, 1, 0, 0, 1, "a", 2, 0, 0, 1, "b"))
}

func TestDecodeOfAllShort(t *testing.T) {
	alphabet := []byte{0, 1, 2, 3, 'a', 0x80, 0x81}
	found := 0
	var behind func(b []byte, left int)
	behind = func(b []byte, left int) {
		if isOne(t, b) {
			found++
		}
		if left == 0 {
			return
		}
		for _, c := range alphabet {
			behind(append(b[:len(b):len(b)], c), left-1)
		}
	}
	behind([]byte("VL\x01"), 7)
	// no entries; with 14 modes a directory at a, and at aa, and a file at a without bytes; a whiteout at a, and at aa
	if want := 1 + 3*14 + 2; found != want {
		t.Errorf("%d rows are a layer's, not %d", found, want)
	}
}

func TestDecodeOfChangedRows(t *testing.T) {
	for _, l := range layers() {
		b := bytesOf(l)
		if len(b) > 500 { // the many entries of a longer one are like those of the shorter ones
			continue
		}
		for i := range b {
			for c := range 256 {
				changed := slices.Clone(b)
				changed[i] = byte(c)
				isOne(t, changed)
			}
		}
	}
}

func TestDecodeByChance(t *testing.T) {
	r := rand.New(rand.NewSource(2))
	right, wrong := 0, 0
	for range 40000 {
		b := bytesOf(someLayer(r, 30))
		for range r.Intn(3) {
			switch i := r.Intn(len(b)); r.Intn(4) {
			case 0:
				b[i] = byte(r.Intn(256))
			case 1:
				b = slices.Delete(b, i, i+r.Intn(len(b)-i))
			case 2:
				b = slices.Insert(b, i, byte(r.Intn(5)))
			case 3:
				b[i] ^= 1 << r.Intn(8)
			}
			if len(b) == 0 {
				break
			}
		}
		if isOne(t, b) {
			right++
		} else {
			wrong++
		}
	}
	if right < 1000 || wrong < 1000 {
		t.Error("too few of a kind:", right, wrong)
	}
	for range 20000 {
		b := make([]byte, r.Intn(40))
		r.Read(b)
		isOne(t, append([]byte("VL\x01"), b...))
		isOne(t, b)
	}
}

// P6.4

func TestEachLayerHasOneRow(t *testing.T) {
	r := rand.New(rand.NewSource(3))
	all := layers()
	for _, x := range some([]string{"a", "b", "a/b", "a-b"}, []int{1, 2, 3, 4}, []int{0, 1, 256}, []string{"", "x", "\x00", "xy"}) {
		all = append(all, []api.Entry{x}, []api.Entry{x, dir("c")}, []api.Entry{dir("0"), x})
	}
	for range 2000 {
		all = append(all, someLayer(r, 1000))
	}
	rowsOf := map[string][]api.Entry{}
	for _, l := range all {
		b, e := Encode(l)
		if e != api.OK {
			continue
		}
		if again, ok := rowsOf[string(b)]; ok && !slices.Equal(again, l) {
			t.Fatalf("%s and %s have one row", show(l), show(again))
		}
		rowsOf[string(b)] = l
	}
	if len(rowsOf) < 1000 {
		t.Error("too few:", len(rowsOf))
	}
	for b := range rowsOf {
		for n := range len(b) {
			if _, ok := rowsOf[b[:n]]; ok {
				t.Fatalf("%.300q begins with the row of another one", b)
			}
		}
	}
}

// Memory

func TestWhatIsHandedInStays(t *testing.T) {
	hidden := []api.Entry{dir("a"), file("a/b", "x"), {Path: "A", Kind: 9, Mode: -1, Body: "y"}}
	l := hidden[:2]
	before := slices.Clone(hidden)
	b, e := Encode(l)
	if at, why := Check(l); at != 0 || why != api.OK || e != api.OK || Size(l) != 5 {
		t.Error("what lies behind the list is read:", at, int(why), int(e), Size(l))
	}
	if !slices.Equal(hidden, before) {
		t.Errorf("changed: %s", show(hidden))
	}
	rest := append(slices.Clone(b), "\x02\x00\x00\x01b"...)
	again := slices.Clone(rest)
	got, e := Decode(rest[:len(b)])
	if !slices.Equal(got, l) || e != api.OK || !bytes.Equal(rest, again) {
		t.Errorf("Decode of what has more behind it: %s, %d", show(got), int(e))
	}
	for n := range len(b) {
		isRefused(t, rest[:n])
	}
	for i := range rest {
		rest[i] = 'z'
	}
	if !slices.Equal(got, l) {
		t.Errorf("what was told has changed: %s", show(got))
	}
}

func TestWhatIsHandedOutIsNew(t *testing.T) {
	l := []api.Entry{dir("a"), file("a/b", "x")}
	first, _ := Encode(l)
	second, _ := Encode(l)
	kept := slices.Clone(second)
	_ = append(first, "more"...)
	for i := range first {
		first[i] = 0
	}
	if !bytes.Equal(second, kept) {
		t.Errorf("% x", second)
	}
	one, _ := Decode(second)
	two, _ := Decode(second)
	one[0], one[1] = api.Entry{}, api.Entry{}
	if !slices.Equal(two, l) || !bytes.Equal(second, kept) {
		t.Errorf("%s % x", show(two), second)
	}
	if none, e := Encode(nil); string(none) != "VL\x01\x00" || e != api.OK {
		t.Errorf("%q, %d", none, int(e))
	}
}
