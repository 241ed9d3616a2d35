package trail

import (
	"math/rand"
	"slices"
	"strings"
	"testing"

	"veneer/api"
)

const letters = "abcdefghijklmnopqrstuvwxyz0123456789_-." // the bytes that a part may have

// texts is every text of at most n of these bytes.
func texts(bytes string, n int) []string {
	out := []string{""}
	for from := 0; n > 0; n-- {
		to := len(out)
		for _, s := range out[from:to] {
			for i := range len(bytes) {
				out = append(out, s+bytes[i:i+1])
			}
		}
		from = to
	}
	return out
}

// rows is n pieces alike, with a stroke between.
func rows(piece string, n int) string {
	return strings.Join(slices.Repeat([]string{piece}, n), "/")
}

// isPart is a part as the chapter tells it.
func isPart(s string) bool {
	return s != "" && s != "." && s != ".." && len(s) <= 24 && strings.Trim(s, letters) == ""
}

// partsOf is the parts of a path as the chapter tells it; false of what is none.
func partsOf(p string) ([]string, bool) {
	if p == "" {
		return nil, true
	}
	parts := strings.Split(p, "/")
	return parts, len(parts) <= 8 && !slices.ContainsFunc(parts, func(s string) bool { return !isPart(s) })
}

// cleanOf is what P5.1 says of s, word by word.
func cleanOf(s string) (string, api.Errno) {
	var parts []string
	for _, piece := range strings.Split(s, "/") {
		switch {
		case piece == "", piece == ".":
		case piece == "..":
			if len(parts) == 0 {
				return "", api.ErrPath
			}
			parts = parts[:len(parts)-1]
		case isPart(piece):
			parts = append(parts, piece)
		default:
			return "", api.ErrPath
		}
	}
	if len(parts) > 8 {
		return "", api.ErrBig
	}
	return strings.Join(parts, "/"), api.OK
}

// someText is a text out of pieces of all kinds, mostly right ones.
func someText(r *rand.Rand) string {
	right := []string{"a", "b", "a-b", "a.b", "...", ".a", "a.", "usr", strings.Repeat("x", 24), "0", "_"}
	other := []string{"", "", ".", ".", "..", "..", "..", strings.Repeat("x", 25), "A", "a b", "\x00", "\xff", "é"}
	var out []string
	for range r.Intn(14) {
		from := right
		if r.Intn(3) == 0 {
			from = other[:7]
			if r.Intn(8) == 0 {
				from = other
			}
		}
		out = append(out, from[r.Intn(len(from))])
	}
	return strings.Join(out, "/")
}

// noPaths are texts of which each is wrong by one thing.
func noPaths() []string {
	return []string{"/", "//", "///", "/a", "a/", "a//b", "//a", "a//", ".", "..", "./a", "a/.", "a/./b", "../a", "a/..", "a/../b", "a/b/..",
		"A", "a/B", "a/B/c", "a b", "a\\b", "a\x00", "\x00", "a\n", "é", "\xff", " ", "a/ ", "*", "a:b", "~", "a/\x80/b", "+", ",", "a,b",
		strings.Repeat("a", 25), "a/" + strings.Repeat("a", 25), strings.Repeat("a", 25) + "/a", rows("a", 9), rows("a", 10), rows("a", 1000), rows("a", 8) + "/"}
}

// paths are paths of each depth, with parts of all kinds.
func paths() []string {
	out := []string{"", "...", "....", ".a", "a.", "..a", "a..", "._.", "-", "_", "0", "9", "a-b", "a.b", strings.Repeat("z", 24), strings.Repeat(".", 24), rows(strings.Repeat("y", 24), 8)}
	for n := range 8 {
		out = append(out, rows("a", n+1), rows("bin", n+1), rows("...", n+1), strings.Join(strings.Split("usr/lib/go/x_1/y-2/z.3/0/9", "/")[:n+1], "/"))
	}
	return out
}

// isClean fails where Clean of s is not that path, or that error.
func isClean(t *testing.T, s, want string, why api.Errno) {
	t.Helper()
	if got, e := Clean(s); got != want || e != why {
		t.Fatalf("Clean(%.60q), %d bytes, = %.60q, %d, want %.60q, %d", s, len(s), got, int(e), want, int(why))
	}
}

// P5.1

func TestCleanOfKnown(t *testing.T) {
	for _, x := range []struct {
		s, want string
		why     api.Errno
	}{
		{"/usr//./lib/../bin/", "usr/bin", api.OK},
		{"", "", api.OK},
		{"usr", "usr", api.OK},
		{"usr/lib/x.so-1_2", "usr/lib/x.so-1_2", api.OK},
		{"/", "", api.OK},
		{"//", "", api.OK},
		{"////////////", "", api.OK},
		{"/a", "a", api.OK},
		{"///a", "a", api.OK},
		{"a/", "a", api.OK},
		{"a///", "a", api.OK},
		{"a///b", "a/b", api.OK},
		{"//a//b//", "a/b", api.OK},
		{".", "", api.OK},
		{"./.", "", api.OK},
		{"/./", "", api.OK},
		{"a/.", "a", api.OK},
		{"./a", "a", api.OK},
		{"a/./b", "a/b", api.OK},
		{"a/..", "", api.OK},
		{"a/../", "", api.OK},
		{"a/b/..", "a", api.OK},
		{"a/b/../..", "", api.OK},
		{"a/../b", "b", api.OK},
		{"a/.././/../..", "", api.ErrPath},
		{"a/b/../../c/d", "c/d", api.OK},
		{"a/b/c/../../d", "a/d", api.OK},
		{"..", "", api.ErrPath},
		{"/..", "", api.ErrPath},
		{"../", "", api.ErrPath},
		{"./..", "", api.ErrPath},
		{"../a", "", api.ErrPath},
		{"a/../..", "", api.ErrPath},
		{"a/../../a", "", api.ErrPath},
		{"a/b/../../../c", "", api.ErrPath},
		{"...", "...", api.OK},
		{"a/...", "a/...", api.OK},
		{"..a", "..a", api.OK},
		{"a/b..", "a/b..", api.OK},
		{".a/.b", ".a/.b", api.OK},
		{"A", "", api.ErrPath},
		{"a/A", "", api.ErrPath},
		{"A/..", "", api.ErrPath},
		{"A/a", "", api.ErrPath},
		{"a b", "", api.ErrPath},
		{". ", "", api.ErrPath},
		{".. ", "", api.ErrPath},
		{"é", "", api.ErrPath},
		{"a\x00", "", api.ErrPath},
	} {
		isClean(t, x.s, x.want, x.why)
	}
}

func TestCleanOfEachByte(t *testing.T) {
	for b := range 256 {
		in := string([]byte{byte(b)})
		for _, s := range []string{in + "xy", "x" + in + "y", "xy" + in, "a/x" + in, "a/" + in + "y/b", strings.Repeat("z", 23) + in, in + strings.Repeat("z", 23)} {
			switch {
			case b == '/':
				want, why := cleanOf(s)
				isClean(t, s, want, why)
			case strings.Contains(letters, in):
				isClean(t, s, s, api.OK)
			default:
				isClean(t, s, "", api.ErrPath)
				isClean(t, s+"/..", "", api.ErrPath)
				isClean(t, rows("a", 9)+"/"+s, "", api.ErrPath)
			}
		}
	}
}

func TestCleanOfOneByte(t *testing.T) {
	for b := range 256 {
		s := string([]byte{byte(b)})
		want, why := cleanOf(s)
		isClean(t, s, want, why)
	}
}

func TestCleanOfLongParts(t *testing.T) {
	for n := 1; n < 60; n++ {
		part := strings.Repeat("q", n)
		for _, s := range []string{part, "a/" + part, part + "/a", rows("a", 7) + "/" + part} {
			if n <= 24 {
				isClean(t, s, s, api.OK)
				isClean(t, "/"+s+"//", s, api.OK)
			} else {
				isClean(t, s, "", api.ErrPath)
				isClean(t, s+"/..", "", api.ErrPath)
			}
		}
	}
	isClean(t, strings.Repeat(".", 24), strings.Repeat(".", 24), api.OK)
	isClean(t, strings.Repeat(".", 25), "", api.ErrPath)
	isClean(t, strings.Repeat("a", 1<<20), "", api.ErrPath)
}

func TestCleanOfManyParts(t *testing.T) {
	for n := 1; n < 40; n++ {
		for _, part := range []string{"a", "...", strings.Repeat("x", 24)} {
			s := rows(part, n)
			want, why := s, api.OK
			if n > 8 {
				want, why = "", api.ErrBig
			}
			isClean(t, s, want, why)
			isClean(t, "//./"+s+"/.///", want, why)
			isClean(t, s+"/b/..", want, why)
			isClean(t, s+"/b/c/../..", want, why)
			isClean(t, s+"/"+rows("..", n), "", api.OK)
			isClean(t, s+"/"+rows("..", n)+"/"+s, want, why)
			isClean(t, s+"/"+rows("..", n+1), "", api.ErrPath)
			isClean(t, s+"/A", "", api.ErrPath)
			isClean(t, s+"/"+strings.Repeat("x", 25), "", api.ErrPath)
		}
	}
}

func TestCleanTakesAwayPartsBelowTheDeepest(t *testing.T) {
	eight := "a/b/c/d/e/f/g/h"
	isClean(t, eight, eight, api.OK)
	isClean(t, eight+"/i", "", api.ErrBig)
	isClean(t, eight+"/i/..", eight, api.OK)
	isClean(t, eight+"/i/j/..", "", api.ErrBig)
	isClean(t, eight+"/i/j/../..", eight, api.OK)
	isClean(t, eight+"/i/../j", "", api.ErrBig)
	isClean(t, eight+"/i/../../j", "a/b/c/d/e/f/g/j", api.OK)
	isClean(t, eight+"/i/../../../j", "a/b/c/d/e/f/j", api.OK)
	isClean(t, eight+"/i/../../../j/k", "a/b/c/d/e/f/j/k", api.OK)
	isClean(t, eight+"/i/"+rows("..", 9), "", api.OK)
	isClean(t, eight+"/i/"+rows("..", 10), "", api.ErrPath)
}

func TestCleanOfVeryMany(t *testing.T) {
	const n = 300000
	isClean(t, strings.Repeat("/", n), "", api.OK)
	isClean(t, rows(".", n), "", api.OK)
	isClean(t, rows("a", n), "", api.ErrBig)
	isClean(t, rows("a", n)+"/"+rows("..", n), "", api.OK)
	isClean(t, rows("a", n)+"/"+rows("..", n-8), rows("a", 8), api.OK)
	isClean(t, rows("a", n)+"/"+rows("..", n-9), "", api.ErrBig)
	isClean(t, rows("a", n)+"/"+rows("..", n+1), "", api.ErrPath)
	isClean(t, rows("a", n)+"/A", "", api.ErrPath)
}

func TestCleanOfAllShort(t *testing.T) {
	for _, s := range texts("a./-A", 7) {
		want, why := cleanOf(s)
		isClean(t, s, want, why)
	}
}

func TestCleanByChance(t *testing.T) {
	r := rand.New(rand.NewSource(1))
	told := map[api.Errno]int{}
	for range 100000 {
		s := someText(r)
		want, why := cleanOf(s)
		isClean(t, s, want, why)
		told[why]++
	}
	if told[api.OK] < 1000 || told[api.ErrPath] < 1000 || told[api.ErrBig] < 300 {
		t.Error("too few of a kind:", told)
	}
}

func TestJoin(t *testing.T) {
	for _, x := range []struct {
		p, q, want string
		why        api.Errno
	}{
		{"", "", "", api.OK},
		{"a", "", "a", api.OK},
		{"", "a", "a", api.OK},
		{"a", "b", "a/b", api.OK},
		{"a/b", "c/d", "a/b/c/d", api.OK},
		{"a", "../b", "b", api.OK},
		{"a", "..", "", api.OK},
		{"a", "../..", "", api.ErrPath},
		{"", "..", "", api.ErrPath},
		{"..", "a", "", api.ErrPath},
		{"a/", "/b", "a/b", api.OK},
		{"/", "/", "", api.OK},
		{"/a", "/b/", "a/b", api.OK},
		{".", ".", "", api.OK},
		{".", "./a", "a", api.OK},
		{"A", "..", "", api.ErrPath},
		{"a", "B", "", api.ErrPath},
		{"B", "a", "", api.ErrPath},
		{strings.Repeat("a", 24), strings.Repeat("b", 24), strings.Repeat("a", 24) + "/" + strings.Repeat("b", 24), api.OK},
		{strings.Repeat("a", 25), "", "", api.ErrPath},
		{"", strings.Repeat("a", 25), "", api.ErrPath},
		{rows("a", 4), rows("b", 4), rows("a", 4) + "/" + rows("b", 4), api.OK},
		{rows("a", 4), rows("b", 5), "", api.ErrBig},
		{rows("a", 8), "b", "", api.ErrBig},
		{rows("a", 9), "", "", api.ErrBig},
		{rows("a", 9), "..", rows("a", 8), api.OK},
		{rows("a", 9), "../../b", rows("a", 7) + "/b", api.OK},
		{rows("a", 9), "B", "", api.ErrPath},
		{"", rows("a", 9), "", api.ErrBig},
		{"", rows("a", 9) + "/..", rows("a", 8), api.OK},
	} {
		if got, e := Join(x.p, x.q); got != x.want || e != x.why {
			t.Errorf("Join(%q, %q) = %q, %d, want %q, %d", x.p, x.q, got, int(e), x.want, int(x.why))
		}
	}
}

func TestJoinByChance(t *testing.T) {
	r := rand.New(rand.NewSource(2))
	for range 50000 {
		p, q := someText(r), someText(r)
		want, why := cleanOf(p + "/" + q)
		if got, e := Join(p, q); got != want || e != why {
			t.Fatalf("Join(%q, %q) = %q, %d, want %q, %d", p, q, got, int(e), want, int(why))
		}
	}
}

// P5.2

func TestPartsAndUpOfKnown(t *testing.T) {
	for _, x := range []struct {
		p     string
		parts []string
		up    string
	}{
		{"a", []string{"a"}, ""},
		{"a/b", []string{"a", "b"}, "a"},
		{"usr/lib/go", []string{"usr", "lib", "go"}, "usr/lib"},
		{".../..a/b..", []string{"...", "..a", "b.."}, ".../..a"},
		{"a/b/c/d/e/f/g/h", []string{"a", "b", "c", "d", "e", "f", "g", "h"}, "a/b/c/d/e/f/g"},
	} {
		if got := Parts(x.p); !slices.Equal(got, x.parts) {
			t.Errorf("Parts(%q) = %q", x.p, got)
		}
		if up, ok := Up(x.p); up != x.up || !ok {
			t.Errorf("Up(%q) = %q, %v", x.p, up, ok)
		}
	}
}

// areNone fails where Parts or Up tell something.
func areNone(t *testing.T, p string) {
	t.Helper()
	if got := Parts(p); len(got) != 0 {
		t.Fatalf("Parts(%.60q) = %q", p, got)
	}
	if up, ok := Up(p); up != "" || ok {
		t.Fatalf("Up(%.60q) = %q, %v", p, up, ok)
	}
}

func TestPartsAndUpOfTheRoot(t *testing.T) {
	areNone(t, "")
}

func TestPartsAndUpOfNoPath(t *testing.T) {
	for _, p := range noPaths() {
		areNone(t, p)
	}
}

// areParts fails where Parts and Up tell otherwise than the chapter does.
func areParts(t *testing.T, p string) {
	t.Helper()
	parts, ok := partsOf(p)
	if !ok || len(parts) == 0 {
		areNone(t, p)
		return
	}
	if got := Parts(p); !slices.Equal(got, parts) {
		t.Fatalf("Parts(%q) = %q", p, got)
	}
	if up, ok := Up(p); up != strings.Join(parts[:len(parts)-1], "/") || !ok {
		t.Fatalf("Up(%q) = %q, %v", p, up, ok)
	}
}

func TestPartsAndUpOfPaths(t *testing.T) {
	for _, p := range paths() {
		areParts(t, p)
	}
}

func TestPartsAndUpOfAllShort(t *testing.T) {
	for _, p := range texts("a./-A", 7) {
		areParts(t, p)
	}
}

func TestPartsAndUpByChance(t *testing.T) {
	r := rand.New(rand.NewSource(3))
	for range 50000 {
		s := someText(r)
		areParts(t, s)
		if p, e := Clean(s); e == api.OK {
			areParts(t, p)
		}
	}
}

func TestUpEndsAtTheRoot(t *testing.T) {
	for _, p := range paths() {
		depth := len(Parts(p))
		for at, more := p, true; more; depth-- {
			if at, more = Up(at); more != (depth > 0) {
				t.Fatalf("Up on the way from %q: %q, %v, with %d parts left", p, at, more, depth)
			}
		}
	}
}

func TestPartsAreNewMemory(t *testing.T) {
	p := "a/b/c"
	first, second := Parts(p), Parts(p)
	first[0], first[1] = "x", "y"
	_ = append(first[:2], "z")
	if !slices.Equal(second, []string{"a", "b", "c"}) || !slices.Equal(Parts(p), second) || p != "a/b/c" {
		t.Errorf("%q %q %q", second, Parts(p), p)
	}
}

// P5.3

// lessOf is what P5.3 says, by the pieces of both.
func lessOf(p, q string) bool {
	return slices.Compare(strings.Split(p, "/"), strings.Split(q, "/")) < 0
}

// inOf is the other form of In: the pieces of a text that is not empty begin those of the other one.
func inOf(p, q string) bool {
	of, all := strings.Split(p, "/"), strings.Split(q, "/")
	return p == "" || len(of) <= len(all) && slices.Equal(of, all[:len(of)])
}

// anyTexts are short texts, of which most are no paths: with bytes below and above the stroke, the least and the greatest one.
func anyTexts() []string {
	return texts("a/.-\x00\xff", 3)
}

func TestLessOfKnown(t *testing.T) {
	for _, x := range [][2]string{
		{"", "a"}, {"", "/"}, {"", "\x00"}, {"", "//"}, {"", "-"}, {"", "A"},
		{"a", "b"}, {"a", "aa"}, {"a", "ab"}, {"aa", "b"}, {"a", "a0"}, {"0", "a"}, {"-", "."}, {"9", "_"}, {"_", "a"},
		{"a", "a/b"}, {"a", "a/"}, {"a/", "a//"}, {"a/", "a/a"}, {"a//", "a/\x00"}, {"a/b", "a/b/c"},
		{"a/b", "a-b"}, {"a/b", "a.b"}, {"a/z/z", "a-"}, {"a/b", "a\x00"}, {"a/\xff", "a\x00"}, {"a/b", "a b"}, {"a/b", "ab"}, {"a", "a-b"},
		{"a/b/c", "a/b-c"}, {"a/b/c", "a/c"}, {"a/b", "b"}, {"a/c", "b/a"}, {"a/z", "b"},
		{"/", "/a"}, {"/", "\x00"}, {"/", "a"}, {"/b", "a"}, {"//", "/a"}, {"//z", "/a"}, {"///", "-"},
		{"A", "a"}, {"a", "é"}, {"z", "\xff"}, {"a\x7f", "a\x80"}, {"usr", "usr/bin"}, {"usr/bin", "usrx"},
		{rows("a", 20), rows("a", 21)}, {strings.Repeat("a", 99), strings.Repeat("a", 100)},
	} {
		if !Less(x[0], x[1]) || Less(x[1], x[0]) || Less(x[0], x[0]) || Less(x[1], x[1]) {
			t.Errorf("%.60q is not ahead of %.60q", x[0], x[1])
		}
	}
}

func TestInOfKnown(t *testing.T) {
	for _, x := range []struct {
		p, q string
		want bool
	}{
		{"", "", true}, {"", "a", true}, {"", "a/b", true}, {"", "/", true}, {"", "/a", true}, {"", "..", true}, {"", "\x00A", true},
		{"a", "", false}, {"/", "", false}, {"a", "a", true}, {"A b", "A b", true}, {"/", "/", true}, {"..", "..", true},
		{"usr", "usr/bin", true}, {"usr", "usr/bin/x", true}, {"usr/bin", "usr/bin/x", true}, {"usr", "usrx", false}, {"usr", "usrx/bin", false},
		{"usr", "us", false}, {"usr/bin", "usr", false}, {"usr", "bin/usr", false}, {"usr", "/usr", false}, {"usr", "x/usr/bin", false},
		{"a", "a/", true}, {"a", "a//", true}, {"a/", "a", false}, {"a/", "a/b", false}, {"a/", "a//b", true}, {"a/", "a//", true},
		{"/", "//", true}, {"/", "/a", false}, {"/", "//a", true}, {"/a", "/a/b", true}, {"/a", "a/b", false},
		{"a", "a-b", false}, {"a", "a.b", false}, {"a", "a\x00", false}, {"a", "a-/b", false}, {"a", "A", false}, {"A", "A/b", true}, {"..", "../..", true}, {"a", "b", false},
		{rows("a", 20), rows("a", 21), true}, {rows("a", 21), rows("a", 20), false},
	} {
		if got := In(x.p, x.q); got != x.want {
			t.Errorf("In(%.60q, %.60q) = %v", x.p, x.q, got)
		}
	}
}

// standWell fails where Less or In of p and q, either way, are not as the chapter tells.
func standWell(t *testing.T, p, q string) {
	t.Helper()
	for _, x := range [][2]string{{p, q}, {q, p}} {
		if got := Less(x[0], x[1]); got != lessOf(x[0], x[1]) {
			t.Fatalf("Less(%q, %q) = %v", x[0], x[1], got)
		}
		if got := In(x[0], x[1]); got != inOf(x[0], x[1]) {
			t.Fatalf("In(%q, %q) = %v", x[0], x[1], got)
		}
	}
}

func TestLessAndInOfAnyTexts(t *testing.T) {
	all := anyTexts()
	for i, p := range all {
		for _, q := range all[i:] {
			standWell(t, p, q)
		}
	}
}

func TestLessAndInByChance(t *testing.T) {
	r := rand.New(rand.NewSource(4))
	for range 50000 {
		p, q := someText(r), someText(r)
		cut := r.Intn(len(p) + 1)
		for _, other := range []string{q, p, p[:cut], p[:cut] + "/" + q, p[:cut] + q, p + "/" + q, p + "/", p + "-"} {
			standWell(t, p, other)
		}
	}
}

func TestLessOfLong(t *testing.T) {
	long := rows("abc", 200000)
	for _, q := range []string{long + "/", long + "/a", long + "\x00", long[:len(long)-1] + "d"} {
		if !Less(long, q) || Less(q, long) || Less(q, q) {
			t.Errorf("a text of %d bytes is not ahead of one of %d", len(long), len(q))
		}
	}
}

// P5.4

// wayTo is what P5.4 says of p.
func wayTo(p string) []string {
	parts, ok := partsOf(p)
	if !ok {
		return nil
	}
	out := []string{""}
	for n := range parts {
		out = append(out, strings.Join(parts[:n+1], "/"))
	}
	return out
}

func TestWalkOfKnown(t *testing.T) {
	for _, x := range []struct {
		p    string
		want []string
	}{
		{"", []string{""}},
		{"a", []string{"", "a"}},
		{"a/b", []string{"", "a", "a/b"}},
		{"usr/lib/go", []string{"", "usr", "usr/lib", "usr/lib/go"}},
		{"a/b/c/d/e/f/g/h", []string{"", "a", "a/b", "a/b/c", "a/b/c/d", "a/b/c/d/e", "a/b/c/d/e/f", "a/b/c/d/e/f/g", "a/b/c/d/e/f/g/h"}},
	} {
		if got := slices.Collect(Walk(x.p)); !slices.Equal(got, x.want) {
			t.Errorf("Walk(%q) = %q", x.p, got)
		}
	}
}

func TestWalkOfNoPath(t *testing.T) {
	for _, p := range noPaths() {
		for q := range Walk(p) {
			t.Errorf("Walk(%.60q) goes over %q", p, q)
		}
	}
}

func TestWalkOfAllShort(t *testing.T) {
	for _, p := range texts("a./-A", 7) {
		if got := slices.Collect(Walk(p)); !slices.Equal(got, wayTo(p)) {
			t.Fatalf("Walk(%q) = %q", p, got)
		}
	}
}

func TestWalkByChance(t *testing.T) {
	r := rand.New(rand.NewSource(5))
	for range 50000 {
		s := someText(r)
		p, _ := Clean(s)
		for _, p := range []string{s, p} {
			if got := slices.Collect(Walk(p)); !slices.Equal(got, wayTo(p)) {
				t.Fatalf("Walk(%q) = %q", p, got)
			}
		}
	}
}

func TestWalkIsLeftAtEachPlace(t *testing.T) {
	for _, p := range paths() {
		way, walk := wayTo(p), Walk(p)
		for stop := range way {
			var got []string
			walk(func(q string) bool {
				got = append(got, q)
				return len(got) != stop+1
			})
			if !slices.Equal(got, way[:stop+1]) {
				t.Fatalf("Walk(%q), left behind %d, went over %q", p, stop+1, got)
			}
		}
		if got := slices.Collect(walk); !slices.Equal(got, way) {
			t.Fatalf("Walk(%q), left before and gone over again, = %q", p, got)
		}
	}
}

func TestWalkWithinWalk(t *testing.T) {
	walk := Walk("a/b/c")
	var got []string
outer:
	for p := range walk {
		for q := range walk {
			got = append(got, p+":"+q)
			if p == "a/b" && q == "a" {
				break outer
			}
			if p == q {
				continue outer
			}
		}
	}
	if want := []string{":", "a:", "a:a", "a/b:", "a/b:a"}; !slices.Equal(got, want) {
		t.Errorf("%q", got)
	}
}

func TestWalkByNobody(t *testing.T) {
	for _, p := range []string{"", "a/b", "A"} {
		Walk(p)(nil) // it must not panic
	}
}

// P5.5

func TestCleanOfAPathIsIt(t *testing.T) {
	for _, p := range append(paths(), texts("a./-A", 7)...) {
		if _, ok := partsOf(p); ok {
			isClean(t, p, p, api.OK)
		}
	}
}

func TestCleanAnswersPaths(t *testing.T) {
	r := rand.New(rand.NewSource(6))
	for range 50000 {
		if p, e := Clean(someText(r)); e == api.OK {
			if _, ok := partsOf(p); !ok {
				t.Fatalf("%q is no path", p)
			}
			isClean(t, p, p, api.OK)
		}
	}
}

func TestLessIsOneOrder(t *testing.T) {
	all := anyTexts()
	for _, p := range all {
		for _, q := range all {
			if p == q && Less(p, q) || p != q && Less(p, q) == Less(q, p) {
				t.Fatalf("%q and %q: %v, %v", p, q, Less(p, q), Less(q, p))
			}
		}
	}
	slices.SortFunc(all, byLess)
	for i, p := range all {
		for j, q := range all {
			if Less(p, q) != (i < j) { // so that what is ahead of one is ahead of all behind it
				t.Fatalf("%q is number %d, %q is number %d: Less = %v", p, i, q, j, Less(p, q))
			}
		}
	}
}

func byLess(p, q string) int {
	if Less(p, q) {
		return -1
	}
	if Less(q, p) {
		return 1
	}
	return 0
}

func TestWhatLiesBelowStandsTogether(t *testing.T) {
	all := append(texts("a/.-", 5), anyTexts()...)
	r := rand.New(rand.NewSource(7))
	for range 300 {
		p, _ := Clean(someText(r))
		all = append(all, slices.Collect(Walk(p))...)
	}
	slices.SortFunc(all, byLess)
	all = slices.Compact(all)
	for i, p := range all {
		below := true
		for j, q := range all {
			below = below && (j < i || In(p, q))
			if In(p, q) != (j >= i && below) {
				t.Fatalf("%q is number %d, %q is number %d, and there is a gap between", p, i, q, j)
			}
		}
	}
}
