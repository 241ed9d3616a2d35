package overlay

import (
	"fmt"
	"maps"
	"math"
	"math/rand"
	"slices"
	"strconv"
	"strings"
	"testing"

	"veneer/api"
	"veneer/layer"
	"veneer/trail"
)

const letters = "abcdefghijklmnopqrstuvwxyz0123456789_-." // the bytes that a part may have

// Short hands for entries that may be, and for lists and stacks of them.

func file(path, body string) api.Entry    { return api.Entry{Path: path, Kind: 1, Mode: 420, Body: body} }
func dir(path string, mode int) api.Entry { return api.Entry{Path: path, Kind: 2, Mode: mode} }
func white(path string) api.Entry         { return api.Entry{Path: path, Kind: 3} }
func blind(path string, mode int) api.Entry {
	return api.Entry{Path: path, Kind: 4, Mode: mode}
}
func list(l ...api.Entry) []api.Entry      { return l }
func stack(s ...[]api.Entry) [][]api.Entry { return s }
func over(s [][]api.Entry, l ...api.Entry) [][]api.Entry {
	return append(slices.Clone(s), l)
}

// show is entries as a text that is not too long.
func show(l []api.Entry) string {
	out := ""
	for _, x := range l {
		out += fmt.Sprintf(" %d:%.60q:%d:%.20q", x.Kind, x.Path, x.Mode, x.Body)
	}
	return fmt.Sprintf("(%.600s )", out)
}

func showAll(s [][]api.Entry) string {
	out := ""
	for _, l := range s {
		out += show(l)
	}
	return fmt.Sprintf("%.1200s", out)
}

// rows is n parts alike, with a stroke between.
func rows(part string, n int) string {
	return strings.Join(slices.Repeat([]string{part}, n), "/")
}

// many is n files that rise.
func many(n int) []api.Entry {
	l := make([]api.Entry, n)
	for i := range l {
		l[i] = file("f"+strconv.Itoa(1000000+i), strconv.Itoa(i))
	}
	return l
}

// piecewise is the order of paths: by their first unlike pieces.
func piecewise(p, q string) int {
	return slices.Compare(strings.Split(p, "/"), strings.Split(q, "/"))
}

// aboveOf is the path without its last part.
func aboveOf(path string) string {
	return path[:max(0, strings.LastIndex(path, "/"))]
}

// find is the first entry with that path.
func find(l []api.Entry, path string) (api.Entry, bool) {
	at := slices.IndexFunc(l, func(x api.Entry) bool { return x.Path == path })
	if at < 0 {
		return api.Entry{}, false
	}
	return l[at], true
}

// isDir tells whether a path is the root's, or that of a directory of the list.
func isDir(l []api.Entry, path string) bool {
	return path == "" || slices.ContainsFunc(l, func(x api.Entry) bool { return x.Path == path && x.Kind == 2 })
}

// isPath tells whether a path may be an entry's, as chapters 5 and 6 tell it.
func isPath(p string) bool {
	parts := strings.Split(p, "/")
	return len(parts) <= 8 && !slices.ContainsFunc(parts, func(s string) bool {
		return s == "" || s == "." || s == ".." || len(s) > 24 || strings.Trim(s, letters) != ""
	})
}

// treeOf is what the chapter calls a tree, word by word.
func treeOf(l []api.Entry) bool {
	for i, x := range l {
		switch {
		case !isPath(x.Path), x.Kind != 1 && x.Kind != 2, x.Mode < 0, x.Mode > 511, x.Kind == 2 && x.Body != "", len(x.Body) > 256:
			return false
		case i > 0 && piecewise(l[i-1].Path, x.Path) >= 0:
			return false
		case !isDir(l, aboveOf(x.Path)):
			return false
		}
	}
	return true
}

// node is what is at a path: of a directory also what lies in it, by its parts.
type node struct {
	isFile bool
	mode   int
	body   string
	in     map[string]*node
}

// put puts an entry over the root, part by part.
func (n *node) put(x api.Entry) {
	parts := strings.Split(x.Path, "/")
	last := len(parts) - 1
	for _, part := range parts[:last] {
		next := n.in[part]
		if next == nil || next.isFile {
			if x.Kind == 3 {
				return
			}
			next = &node{in: map[string]*node{}}
			n.in[part] = next
		}
		n = next
	}
	was := n.in[parts[last]]
	switch x.Kind {
	case 1:
		n.in[parts[last]] = &node{isFile: true, mode: x.Mode, body: x.Body}
	case 2:
		if was == nil || was.isFile {
			was = &node{in: map[string]*node{}}
		}
		was.mode = x.Mode
		n.in[parts[last]] = was
	case 3:
		delete(n.in, parts[last])
	case 4:
		n.in[parts[last]] = &node{mode: x.Mode, in: map[string]*node{}}
	}
}

// seen is all that lies below a directory, part by part.
func (n *node) seen(path string) []api.Entry {
	var out []api.Entry
	for _, part := range slices.Sorted(maps.Keys(n.in)) {
		next := n.in[part]
		x := api.Entry{Path: path + part, Kind: 2, Mode: next.mode, Body: next.body}
		if next.isFile {
			x.Kind = 1
		}
		out = append(append(out, x), next.seen(path+part+"/")...)
	}
	return out
}

// mergeOf is what P8.1 says of a stack, by nodes instead of paths.
func mergeOf(s [][]api.Entry) ([]api.Entry, api.Errno) {
	if len(s) > 16 {
		return nil, api.ErrBig
	}
	root := &node{in: map[string]*node{}}
	for _, l := range s {
		if _, e := layer.Check(l); e != api.OK {
			return nil, api.ErrForm
		}
		for _, x := range l {
			root.put(x)
		}
	}
	return root.seen(""), api.OK
}

// lookupOf is what P8.2 says of Lookup.
func lookupOf(l []api.Entry, s string) (api.Entry, api.Errno) {
	path, e := trail.Clean(s)
	if e != api.OK {
		return api.Entry{}, e
	}
	if path == "" {
		return api.Entry{Kind: 2}, api.OK
	}
	x, ok := find(l, path)
	if !ok {
		return api.Entry{}, api.ErrNone
	}
	return x, api.OK
}

// listOf is what P8.2 says of List.
func listOf(l []api.Entry, s string) ([]string, api.Errno) {
	x, e := lookupOf(l, s)
	if e != api.OK {
		return nil, e
	}
	if x.Kind != 2 {
		return nil, api.ErrKind
	}
	var names []string
	for _, y := range l {
		if isPath(y.Path) && aboveOf(y.Path) == x.Path {
			names = append(names, y.Path[strings.LastIndex(y.Path, "/")+1:])
		}
	}
	return names, api.OK
}

// diffOf is what P8.3 says, path by path.
func diffOf(a, b []api.Entry) ([]api.Entry, api.Errno) {
	if !treeOf(a) || !treeOf(b) {
		return nil, api.ErrForm
	}
	var paths []string
	for _, x := range slices.Concat(a, b) {
		paths = append(paths, x.Path)
	}
	slices.SortFunc(paths, piecewise)
	var out []api.Entry
	for _, p := range slices.Compact(paths) {
		x, inA := find(a, p)
		y, inB := find(b, p)
		switch {
		case inB && y.Kind == 1 && inA && x == y:
		case inB && y.Kind == 2 && inA && x.Kind == 2 && x.Mode == y.Mode:
		case inB:
			out = append(out, y)
		case isDir(b, aboveOf(p)):
			out = append(out, api.Entry{Path: p, Kind: 3})
		}
	}
	if len(out) > 64 {
		return nil, api.ErrBig
	}
	return out, api.OK
}

// isTree fails where Tree of l is not as wanted, or not as the chapter tells.
func isTree(t *testing.T, l []api.Entry, want bool) {
	t.Helper()
	if got := Tree(l); got != want || treeOf(l) != want {
		t.Fatalf("Tree%s = %v, want %v; the words tell %v", show(l), got, want, treeOf(l))
	}
}

// isMerged fails where Merge of s is not as the chapter tells.
func isMerged(t *testing.T, s [][]api.Entry) []api.Entry {
	t.Helper()
	want, why := mergeOf(s)
	got, e := Merge(s)
	if !slices.Equal(got, want) || e != why {
		t.Fatalf("Merge of %s = %s, %d, want %s, %d", showAll(s), show(got), int(e), show(want), int(why))
	}
	return got
}

// isFound fails where Lookup or List of s is not as the chapter tells.
func isFound(t *testing.T, l []api.Entry, s string) {
	t.Helper()
	want, why := lookupOf(l, s)
	if x, e := Lookup(l, s); x != want || e != why {
		t.Fatalf("Lookup(%s, %q) = %s, %d, want %s, %d", show(l), s, show(list(x)), int(e), show(list(want)), int(why))
	}
	names, why := listOf(l, s)
	if got, e := List(l, s); !slices.Equal(got, names) || e != why {
		t.Fatalf("List(%s, %q) = %q, %d, want %q, %d", show(l), s, got, int(e), names, int(why))
	}
}

// isDiff fails where Diff is not as the chapter tells.
func isDiff(t *testing.T, a, b []api.Entry) ([]api.Entry, api.Errno) {
	t.Helper()
	want, why := diffOf(a, b)
	got, e := Diff(a, b)
	if !slices.Equal(got, want) || e != why {
		t.Fatalf("Diff(%s, %s) = %s, %d, want %s, %d", show(a), show(b), show(got), int(e), show(want), int(why))
	}
	return got, e
}

// wrong are entries that no layer may have, each by itself: one at least for each error.
func wrong() []api.Entry {
	out := list(api.Entry{})
	for _, p := range []string{"", "/", "/b", "b/", "b//c", ".", "..", "./b", "b/.", "b/../c", "B", "b c", "b\x00", "é", "\xff", strings.Repeat("b", 25), rows("b", 9)} {
		out = append(out, file(p, ""), dir(p, 0))
	}
	for _, kind := range []int{-1, 0, 5, 6, 255, 256, 257, 258, 1<<32 + 1, 1<<32 + 2, math.MaxInt, math.MinInt} {
		out = append(out, api.Entry{Path: "b", Kind: kind})
	}
	for _, mode := range []int{-1, 512, 1 << 16, 1 << 32, 1<<32 + 1, math.MaxInt, math.MinInt} {
		out = append(out, api.Entry{Path: "b", Kind: 1, Mode: mode}, dir("b", mode))
	}
	for _, n := range []int{1, 256, 257} {
		out = append(out, api.Entry{Path: "b", Kind: 2, Body: strings.Repeat("x", n)})
	}
	return append(out, file("b", strings.Repeat("x", 257)), file("b", strings.Repeat("x", 1<<16)))
}

// P8.1: Tree

func TestTreeOfKnown(t *testing.T) {
	long := strings.Repeat("z", 24)
	deep := list()
	for n := 1; n <= 8; n++ {
		deep = append(deep, dir(rows(long, n), 511))
	}
	for _, l := range [][]api.Entry{
		nil,
		{},
		{file("a", "")},
		{file("a", strings.Repeat("\xff", 256))},
		{{Path: "a", Kind: 1}},
		{{Path: "a", Kind: 1, Mode: 511}},
		{dir("a", 0)},
		{dir("a", 511)},
		{dir(long, 1)},
		{dir("a", 0), dir("b", 0)},
		{dir("a", 0), file("a/b", "x")},
		{dir("a", 0), dir("a/b", 0), file("a/b/c", "x"), file("a/b/d", "x"), file("a/c", "x"), file("b", "")},
		{dir("a", 0), file("a/b", ""), file("a-b", "")},
		{dir("a", 0), dir("a/a", 0), file("a/a/a", ""), file("a0", ""), dir("aa", 0), file("aa/a", "")},
		{file("a", ""), dir("a-b", 0), file("a-b/c", ""), file("ab", "")},
		deep,
		append(slices.Clone(deep[:7]), file(rows(long, 8), "x")),
	} {
		isTree(t, l, true)
	}
	for _, l := range [][]api.Entry{
		{file("b", ""), file("a", "")}, // out of order
		{file("a-b", ""), dir("a", 0)},
		{dir("a", 0), file("a-b", ""), file("a/b", "")},
		{dir("a", 0), dir("b", 0), file("a/b", "")},
		{file("a/b", ""), dir("a", 0)},
		{dir("a", 0), file("a/c", ""), file("a/b", "")},
		{dir("a", 0), file("a/b", ""), dir("a", 0)},
		{file("a", ""), file("c", ""), file("b", "")},
		{file("a", ""), file("a", "")}, // a path twice
		{dir("a", 0), dir("a", 0)},
		{dir("a", 0), dir("a", 1)},
		{file("a", ""), dir("a", 0)},
		{dir("a", 0), file("a", "")},
		{dir("a", 0), file("a/b", ""), file("a/b", "")},
		{file("a", ""), file("b", ""), file("b", ""), file("c", "")},
		{white("a")}, // kinds that are not seen
		{blind("a", 0)},
		{dir("a", 0), white("a/b")},
		{dir("a", 0), blind("a/b", 0)},
		{blind("a", 0), file("a/b", "")},
		{white("a"), file("b", "")},
		{file("a", ""), white("b")},
		{file("a", ""), file("a/b", "")}, // below a file
		{dir("a", 0), file("a/b", ""), file("a/b/c", "")},
		{file("a", ""), dir("a/b", 0), file("a/b/c", "")},
		{file("a/b", "")}, // below nothing
		{dir("a", 0), file("a/b/c", "")},
		{dir("a/b", 0), file("a/b/c", "")},
		{dir("a", 0), file("b/c", "")},
		{dir("a", 0), file("aa/c", "")},
		{dir("a", 0), file("a/b", ""), file("a-/b", "")},
		append(slices.Clone(deep[:6]), file(rows(long, 8), "x")),
		append(slices.Clone(deep), file(rows(long, 9), "x")),
	} {
		isTree(t, l, false)
	}
}

func TestTreeOfWrongEntries(t *testing.T) {
	for _, x := range wrong() {
		isTree(t, list(x), false)
		isTree(t, list(x, x), false)
		isTree(t, list(file("a", ""), x), false)
		isTree(t, list(x, file("c", "")), false)
		isTree(t, list(dir("a", 0), file("a/b", ""), x, file("c", "")), false)
	}
}

func TestTreeOfAnyLength(t *testing.T) {
	for _, n := range []int{1, 2, 63, 64, 65, 66, 128, 129, 1000, 20000} {
		l := many(n)
		if !Tree(l) {
			t.Errorf("%d files are no tree", n)
		}
		in := list(dir("d", 7))
		for _, x := range l {
			x.Path = "d/" + x.Path
			in = append(in, x)
		}
		if !Tree(in) || Tree(in[1:]) || Tree(append(in, white("e"))) || Tree(append(in, file("a", ""))) || Tree(append(in, file(in[n].Path+"/x", ""))) {
			t.Errorf("%d files in a directory are not told", n)
		}
	}
}

// some are entries out of all that these may have.
func some(paths []string, kinds, modes []int, bodies []string) []api.Entry {
	var out []api.Entry
	for _, p := range paths {
		for _, k := range kinds {
			for _, m := range modes {
				for _, b := range bodies {
					out = append(out, api.Entry{Path: p, Kind: k, Mode: m, Body: b})
				}
			}
		}
	}
	return out
}

// lists goes over all lists of n entries out of those given.
func lists(of []api.Entry, n int, each func(l []api.Entry)) {
	var behind func(l []api.Entry)
	behind = func(l []api.Entry) {
		if len(l) == n {
			each(l)
			return
		}
		for _, x := range of {
			behind(append(l[:len(l):len(l)], x))
		}
	}
	behind(nil)
}

func TestTreeOfShortLists(t *testing.T) {
	told := map[bool]int{}
	each := func(l []api.Entry) {
		want := treeOf(l)
		isTree(t, l, want)
		told[want]++
	}
	lists(some([]string{"", "A", "a", "a/b", "a/", rows("a", 8), rows("a", 9)}, []int{-1, 0, 1, 2, 3, 4, 5, 257, 258}, []int{-1, 0, 1, 511, 512}, []string{"", "x", strings.Repeat("x", 256), strings.Repeat("x", 257)}), 1, each)
	lists(some([]string{"", "a", "a/b", "a-b", "b"}, []int{0, 1, 2, 3, 4}, []int{-1, 0, 511}, []string{"", "x"}), 2, each)
	lists(some([]string{"a", "a/b", "a/b/c", "a-b", "b", "b/a"}, []int{1, 2, 3, 4}, []int{0, 512}, []string{""}), 3, each)
	lists(some([]string{"a", "a/b", "a/b/c", "a/c", "a-b", "b"}, []int{1, 2}, []int{0}, []string{""}), 4, each)
	if told[true] < 100 || told[false] < 1000 {
		t.Error(told)
	}
}

// P8.1: Merge

func TestMergeOfKnown(t *testing.T) {
	fileA, fileB := api.Entry{Path: "a", Kind: 1, Mode: 1, Body: "x"}, api.Entry{Path: "a", Kind: 1, Mode: 2, Body: "y"}
	full := list(dir("a", 5), dir("a/b", 6), file("a/b/c", "c"), file("a/d", "d"), file("a-b", "e"), file("ab", "f"))
	for _, x := range []struct {
		s    [][]api.Entry
		want []api.Entry
	}{
		{nil, nil},
		{stack(), nil},
		{stack(nil), nil},
		{stack(nil, list(), nil), nil},
		{stack(nil, list(fileA), nil), list(fileA)},
		{stack(full), full},
		// the chapter's own
		{stack(list(file("a/b", "x")), list(white("a")), list(file("a/c", "y"))), list(dir("a", 0), file("a/c", "y"))},
		{stack(list(dir("a", 5), file("a/b", "")), list(blind("a", 7))), list(dir("a", 7))},
		// a whiteout
		{stack(list(fileA), list(white("a"))), nil},
		{stack(full, list(white("a"))), list(file("a-b", "e"), file("ab", "f"))},
		{stack(full, list(white("a/b"))), list(dir("a", 5), file("a/d", "d"), file("a-b", "e"), file("ab", "f"))},
		{stack(full, list(white("a/b/c"))), list(dir("a", 5), dir("a/b", 6), file("a/d", "d"), file("a-b", "e"), file("ab", "f"))},
		{stack(full, list(white("a/d"), white("a-b"))), list(dir("a", 5), dir("a/b", 6), file("a/b/c", "c"), file("ab", "f"))},
		{stack(full, list(white("b"))), full},
		{stack(full, list(white("a/c"), white("a/d/e"), white("b/c/d"))), full},
		{stack(list(white("a"))), nil},
		{stack(list(white("a/b/c"))), nil},
		{stack(list(white("a")), list(fileA)), list(fileA)},
		// a file
		{stack(list(fileA), list(fileB)), list(fileB)},
		{stack(list(fileB), list(fileA)), list(fileA)},
		{stack(full, list(fileA)), list(fileA, file("a-b", "e"), file("ab", "f"))},
		{stack(full, list(file("a/b", "x"))), list(dir("a", 5), file("a/b", "x"), file("a/d", "d"), file("a-b", "e"), file("ab", "f"))},
		{stack(list(fileA), list(file("a/b", "x"))), list(dir("a", 0), file("a/b", "x"))},
		{stack(list(fileA), list(file("a/b/c", "x"))), list(dir("a", 0), dir("a/b", 0), file("a/b/c", "x"))},
		{stack(full, list(file("a/d/e", "x"))), list(dir("a", 5), dir("a/b", 6), file("a/b/c", "c"), dir("a/d", 0), file("a/d/e", "x"), file("a-b", "e"), file("ab", "f"))},
		{stack(list(file("a/b/c", "x"))), list(dir("a", 0), dir("a/b", 0), file("a/b/c", "x"))},
		// a directory
		{stack(list(fileA), list(dir("a", 7))), list(dir("a", 7))},
		{stack(list(fileA), list(dir("a/b", 7))), list(dir("a", 0), dir("a/b", 7))},
		{stack(list(dir("a", 5)), list(dir("a", 7))), list(dir("a", 7))},
		{stack(list(dir("a", 5)), list(dir("a", 0))), list(dir("a", 0))},
		{stack(list(dir("a", 5), file("a/b", "x")), list(dir("a", 7))), list(dir("a", 7), file("a/b", "x"))},
		{stack(list(dir("a", 5)), list(dir("a/b", 7))), list(dir("a", 5), dir("a/b", 7))},
		{stack(list(dir("a/b/c", 7))), list(dir("a", 0), dir("a/b", 0), dir("a/b/c", 7))},
		// an opaque directory
		{stack(list(blind("a", 7))), list(dir("a", 7))},
		{stack(list(blind("a/b", 7))), list(dir("a", 0), dir("a/b", 7))},
		{stack(list(fileA), list(blind("a", 7))), list(dir("a", 7))},
		{stack(list(fileA), list(blind("a/b", 7))), list(dir("a", 0), dir("a/b", 7))},
		{stack(list(dir("a", 5)), list(blind("a", 7))), list(dir("a", 7))},
		{stack(full, list(blind("a", 7))), list(dir("a", 7), file("a-b", "e"), file("ab", "f"))},
		{stack(full, list(blind("a/b", 7))), list(dir("a", 5), dir("a/b", 7), file("a/d", "d"), file("a-b", "e"), file("ab", "f"))},
		{stack(full, list(blind("a/d", 7))), list(dir("a", 5), dir("a/b", 6), file("a/b/c", "c"), dir("a/d", 7), file("a-b", "e"), file("ab", "f"))},
		{stack(full, list(blind("a", 7), file("a/b", "x"))), list(dir("a", 7), file("a/b", "x"), file("a-b", "e"), file("ab", "f"))},
		{stack(full, list(blind("a", 7), blind("a/b", 8), white("a/c"), file("a/e/f", "x"))), list(dir("a", 7), dir("a/b", 8), dir("a/e", 0), file("a/e/f", "x"), file("a-b", "e"), file("ab", "f"))},
		{stack(list(blind("a", 5)), list(dir("a/b", 7))), list(dir("a", 5), dir("a/b", 7))},
		// what went does not come again
		{stack(list(dir("a", 5), file("a/b", "x")), list(fileA), list(dir("a", 7))), list(dir("a", 7))},
		{stack(list(dir("a", 5), file("a/b", "x")), list(white("a")), list(dir("a", 7))), list(dir("a", 7))},
		{stack(list(dir("a", 5), file("a/b", "x")), list(white("a")), list(file("a/c", "y"))), list(dir("a", 0), file("a/c", "y"))},
	} {
		got, e := Merge(x.s)
		if !slices.Equal(got, x.want) || e != api.OK {
			t.Errorf("Merge of %s = %s, %d, want %s", showAll(x.s), show(got), int(e), show(x.want))
		}
		isMerged(t, x.s)
	}
}

func TestMergeOfDirectoriesOnTheWay(t *testing.T) {
	path := rows("x", 8)
	for kind := 1; kind <= 4; kind++ {
		l := list(api.Entry{Path: path, Kind: kind})
		isMerged(t, stack(l))
		for n := 1; n <= 8; n++ { // a file, or a directory, somewhere on the way, or there
			for _, below := range [][]api.Entry{
				{file(rows("x", n), "y")},
				{dir(rows("x", n), 5)},
				{dir(rows("x", n), 5), file(rows("x", n)+"-", "beside")},
			} {
				got := isMerged(t, stack(below, l))
				want := 8
				if kind == 3 {
					want = n
					if n == 8 {
						want = 7
					}
				}
				if len(below) > 1 {
					want++
				}
				if len(got) != want {
					t.Errorf("%d entries of kind %d over %s", len(got), kind, show(below))
				}
			}
		}
	}
}

func TestMergeCountsLayers(t *testing.T) {
	for n := range 17 {
		s := make([][]api.Entry, n)
		if got, e := Merge(s); len(got) != 0 || e != api.OK {
			t.Errorf("Merge of %d empty layers = %s, %d", n, show(got), int(e))
		}
		for i := range s {
			s[i] = list(file("f"+strconv.Itoa(100+i), ""))
		}
		if got, e := Merge(s); len(got) != n || e != api.OK {
			t.Errorf("Merge of %d layers = %s, %d", n, show(got), int(e))
		}
	}
	for _, n := range []int{17, 18, 32, 33, 256, 1 << 16} {
		s := make([][]api.Entry, n)
		for range 2 {
			if got, e := Merge(s); len(got) != 0 || e != api.ErrBig {
				t.Errorf("Merge of %d layers = %s, %d", n, show(got), int(e))
			}
			s[0], s[n-1] = list(file("A", "")), many(65) // what is wrong with them is told behind it
		}
	}
}

func TestMergeOfLayersThatMayNotBe(t *testing.T) {
	bad := [][]api.Entry{
		many(65),
		make([]api.Entry, 1),
		make([]api.Entry, 65),
		{file("b", ""), file("a", "")},
		{file("a", ""), file("a", "")},
		{file("a", ""), file("a/b", "")},
		{white("a"), file("a/b", "")},
		{{Path: "a", Kind: 3, Mode: 1}},
		{{Path: "a", Kind: 3, Body: "x"}},
		{{Path: "a", Kind: 4, Mode: 512}},
		{{Path: "a", Kind: 4, Body: "x"}},
		{file("a", ""), {Path: "b", Kind: 5}},
	}
	for _, x := range wrong() {
		bad = append(bad, list(x))
	}
	for _, l := range bad {
		for n := 1; n <= 16; n++ {
			for _, at := range []int{0, n / 2, n - 1} {
				s := make([][]api.Entry, n)
				for i := range s {
					s[i] = list(dir("a", i), file("a/b", "x"))
				}
				s[at] = l
				if got, e := Merge(s); len(got) != 0 || e != api.ErrForm {
					t.Fatalf("Merge of %s = %s, %d", showAll(s), show(got), int(e))
				}
			}
		}
	}
}

func TestMergeOfManyEntries(t *testing.T) {
	full := make([][]api.Entry, 16) // all that a stack may have, and each as deep as can be
	for i := range full {
		for k := range 64 {
			path := fmt.Sprintf("%02d/%02d/", k, i) + rows("d", 5) + "/f"
			full[i] = append(full[i], api.Entry{Path: path, Kind: 1, Mode: i, Body: strings.Repeat("x", k)})
		}
	}
	if got := isMerged(t, full); len(got) != 64+16*64*7 || !Tree(got) {
		t.Errorf("%d entries", len(got))
	}
	for _, kind := range []int{1, 2, 3, 4} {
		l := list()
		for k := range 64 {
			l = append(l, api.Entry{Path: fmt.Sprintf("%02d", k), Kind: kind})
		}
		full[15] = l
		isMerged(t, full)
		full[7] = l
		isMerged(t, full)
	}
}

// ones are single entries of each kind over a few paths.
func ones(paths ...string) []api.Entry {
	var out []api.Entry
	for _, p := range paths {
		out = append(out, api.Entry{Path: p, Kind: 1, Mode: 1, Body: "x"}, dir(p, 2), white(p), blind(p, 3))
	}
	return out
}

func TestMergeOfAllShortStacks(t *testing.T) {
	for n, paths := range [][]string{
		1: {"a", "a/b", "a/b/c", rows("a", 8)},
		2: {"a", "a/b", "a/b/c", "a-b", "ab", "b", "b/a", "a/a", rows("a", 8)},
		3: {"a", "a/b", "a/b/c", "a/c", "a-b", "ab", "b"},
		4: {"a", "a/b", "a/b/c", "a-b"},
	} {
		lists(ones(paths...), n, func(l []api.Entry) {
			var s [][]api.Entry
			for _, x := range l {
				s = append(s, list(x))
			}
			if got := isMerged(t, s); !Tree(got) {
				t.Fatalf("Merge of %s is no tree: %s", showAll(s), show(got))
			}
		})
	}
}

// layersOf are all layers that may be of up to n entries out of those given, which rise.
func layersOf(of []api.Entry, n int) [][]api.Entry {
	var out [][]api.Entry
	for k := range n + 1 {
		lists(of, k, func(l []api.Entry) {
			if _, e := layer.Check(l); e == api.OK {
				out = append(out, l)
			}
		})
	}
	return out
}

func TestMergeOfAllPairsOfShortLayers(t *testing.T) {
	all := layersOf(ones("a", "a/b", "a/b/c", "a-b"), 3)
	if len(all) < 200 {
		t.Fatal(len(all))
	}
	for _, low := range all {
		for _, high := range all {
			isMerged(t, stack(low, high))
		}
	}
}

// somePath is one by chance, that others may have too, or may lie below.
func somePath(r *rand.Rand, deep int) string {
	parts := []string{"a", "b", "a-b", "ab", "...", strings.Repeat("x", 24)}
	path := make([]string, 1+r.Intn(deep))
	for k := range path {
		path[k] = parts[r.Intn(len(parts))]
	}
	return strings.Join(path, "/")
}

// someLayer is one that may be, by chance.
func someLayer(r *rand.Rand, most int) []api.Entry {
	var l []api.Entry
	for range r.Intn(most + 1) {
		x := api.Entry{Path: somePath(r, 4), Kind: []int{1, 2, 2, 3, 4}[r.Intn(5)]}
		if r.Intn(30) == 0 {
			x.Path = somePath(r, 8)
		}
		if x.Kind == 1 {
			x.Body = strings.Repeat(string(byte(r.Intn(256))), []int{0, 1, 5, 256}[r.Intn(4)])
		}
		if x.Kind != 3 {
			x.Mode = r.Intn(512)
		}
		l = append(l, x)
	}
	slices.SortFunc(l, func(x, y api.Entry) int { return piecewise(x.Path, y.Path) })
	for {
		at, e := layer.Check(l)
		if e == api.OK {
			return l
		}
		l = slices.Delete(l, at, at+1)
	}
}

func someStack(r *rand.Rand, most int) [][]api.Entry {
	var s [][]api.Entry
	for range r.Intn(most + 1) {
		s = append(s, someLayer(r, 12))
	}
	return s
}

func TestMergeByChance(t *testing.T) {
	r := rand.New(rand.NewSource(1))
	for range 3000 {
		s := someStack(r, 16)
		if got := isMerged(t, s); !Tree(got) {
			t.Fatalf("Merge of %s is no tree: %s", showAll(s), show(got))
		}
	}
}

// P8.2

func TestLookupAndListOfKnown(t *testing.T) {
	tree := list(dir("a", 5), dir("a/b", 6), file("a/b/c", "x"), file("a/d", "y"), file("a-b", "z"), dir("e", 7))
	for _, x := range []struct {
		s     string
		found api.Entry
		why   api.Errno
		names string
		whyIn api.Errno
	}{
		{"", api.Entry{Kind: 2}, api.OK, "a a-b e", api.OK},
		{"/", api.Entry{Kind: 2}, api.OK, "a a-b e", api.OK},
		{".", api.Entry{Kind: 2}, api.OK, "a a-b e", api.OK},
		{"//./", api.Entry{Kind: 2}, api.OK, "a a-b e", api.OK},
		{"a/..", api.Entry{Kind: 2}, api.OK, "a a-b e", api.OK},
		{"nowhere/../", api.Entry{Kind: 2}, api.OK, "a a-b e", api.OK},
		{"a", dir("a", 5), api.OK, "b d", api.OK},
		{"/a/", dir("a", 5), api.OK, "b d", api.OK},
		{"a/b/../../a/.", dir("a", 5), api.OK, "b d", api.OK},
		{"x/../a", dir("a", 5), api.OK, "b d", api.OK},
		{"a/b", dir("a/b", 6), api.OK, "c", api.OK},
		{"a//b", dir("a/b", 6), api.OK, "c", api.OK},
		{"e", dir("e", 7), api.OK, "", api.OK},
		{"./e", dir("e", 7), api.OK, "", api.OK},
		{"a/d", file("a/d", "y"), api.OK, "", api.ErrKind},
		{"/a/d/", file("a/d", "y"), api.OK, "", api.ErrKind},
		{"a-b", file("a-b", "z"), api.OK, "", api.ErrKind},
		{"a/b/c", file("a/b/c", "x"), api.OK, "", api.ErrKind},
		{"b", api.Entry{}, api.ErrNone, "", api.ErrNone},
		{"c", api.Entry{}, api.ErrNone, "", api.ErrNone},
		{"a/c", api.Entry{}, api.ErrNone, "", api.ErrNone},
		{"a/d/e", api.Entry{}, api.ErrNone, "", api.ErrNone},
		{"e/a", api.Entry{}, api.ErrNone, "", api.ErrNone},
		{"a-", api.Entry{}, api.ErrNone, "", api.ErrNone},
		{rows("a", 8), api.Entry{}, api.ErrNone, "", api.ErrNone},
		{"..", api.Entry{}, api.ErrPath, "", api.ErrPath},
		{"a/../..", api.Entry{}, api.ErrPath, "", api.ErrPath},
		{"A", api.Entry{}, api.ErrPath, "", api.ErrPath},
		{"a/B/../d", api.Entry{}, api.ErrPath, "", api.ErrPath},
		{"a b", api.Entry{}, api.ErrPath, "", api.ErrPath},
		{"a\x00", api.Entry{}, api.ErrPath, "", api.ErrPath},
		{strings.Repeat("a", 25), api.Entry{}, api.ErrPath, "", api.ErrPath},
		{rows("a", 9), api.Entry{}, api.ErrBig, "", api.ErrBig},
		{rows("a", 9) + "/B", api.Entry{}, api.ErrPath, "", api.ErrPath},
	} {
		if got, e := Lookup(tree, x.s); got != x.found || e != x.why {
			t.Errorf("Lookup(%q) = %s, %d", x.s, show(list(got)), int(e))
		}
		if got, e := List(tree, x.s); strings.Join(got, " ") != x.names || e != x.whyIn {
			t.Errorf("List(%q) = %q, %d", x.s, got, int(e))
		}
		isFound(t, tree, x.s)
		isFound(t, nil, x.s)
		isFound(t, list(), x.s)
	}
}

func TestLookupAndListOfNoTrees(t *testing.T) {
	twice := list(dir("a", 5), file("b", "first"), file("a/x", "1"), dir("a", 7), file("b", "second"), file("a/x", "2"), white("a/w"), blind("c", 1), file("c/d", ""), white("w"), file("w/x", ""), file("e/f", ""), file("0", ""))
	for _, x := range []struct {
		s     string
		found api.Entry
		why   api.Errno
		names string
		whyIn api.Errno
	}{
		{"", api.Entry{Kind: 2}, api.OK, "a b a b c w 0", api.OK}, // each in the list's order, twice where the path is
		{"a", dir("a", 5), api.OK, "x x w", api.OK},
		{"b", file("b", "first"), api.OK, "", api.ErrKind},
		{"a/x", file("a/x", "1"), api.OK, "", api.ErrKind},
		{"a/w", white("a/w"), api.OK, "", api.ErrKind},
		{"w", white("w"), api.OK, "", api.ErrKind},
		{"w/x", file("w/x", ""), api.OK, "", api.ErrKind},
		{"c", blind("c", 1), api.OK, "", api.ErrKind},
		{"c/d", file("c/d", ""), api.OK, "", api.ErrKind},
		{"e", api.Entry{}, api.ErrNone, "", api.ErrNone}, // a path above one of the list, but not in it
		{"e/f", file("e/f", ""), api.OK, "", api.ErrKind},
	} {
		if got, e := Lookup(twice, x.s); got != x.found || e != x.why {
			t.Errorf("Lookup(%q) = %s, %d", x.s, show(list(got)), int(e))
		}
		if got, e := List(twice, x.s); strings.Join(got, " ") != x.names || e != x.whyIn {
			t.Errorf("List(%q) = %q, %d", x.s, got, int(e))
		}
		isFound(t, twice, x.s)
	}
	kinds := list(file("a", ""), dir("a", 1)) // the first one is told, whatever stands behind it
	if x, e := Lookup(kinds, "a"); x != kinds[0] || e != api.OK {
		t.Error(show(list(x)), int(e))
	}
	if got, e := List(kinds, "a"); len(got) != 0 || e != api.ErrKind {
		t.Error(got, int(e))
	}
	slices.Reverse(kinds)
	if got, e := List(kinds, "a"); len(got) != 0 || e != api.OK {
		t.Error(got, int(e))
	}
}

func TestLookupAndListOfWrongEntries(t *testing.T) {
	l := wrong()
	for _, x := range wrong() {
		isFound(t, list(x), x.Path)
		isFound(t, l, x.Path)
		isFound(t, list(x, dir("a", 0)), "")
		isFound(t, list(x, dir("a", 0)), "b")
		isFound(t, list(x, dir("a", 0)), "a")
	}
	// what is no path lies nowhere, and nobody finds it
	none := list(dir("", 9), dir("A", 0), dir("/", 0), dir("/a", 0), dir("a/", 0), dir(".", 0), dir("..", 0), dir("a//b", 0), dir(rows("a", 9), 0))
	for _, s := range []string{"", "/", "."} {
		if x, e := Lookup(none, s); x != (api.Entry{Kind: 2}) || e != api.OK {
			t.Errorf("Lookup(%q) = %s, %d", s, show(list(x)), int(e))
		}
		if got, e := List(none, s); len(got) != 0 || e != api.OK {
			t.Errorf("List(%q) = %q, %d", s, got, int(e))
		}
	}
	for _, s := range []string{"a", "a/", "/a", "a/b", "a//b", rows("a", 8)} {
		if x, e := Lookup(none, s); x != (api.Entry{}) || e != api.ErrNone {
			t.Errorf("Lookup(%q) = %s, %d", s, show(list(x)), int(e))
		}
		if got, e := List(none, s); len(got) != 0 || e != api.ErrNone {
			t.Errorf("List(%q) = %q, %d", s, got, int(e))
		}
	}
	// an entry is told as it stands in the list
	odd := api.Entry{Path: "a", Kind: math.MinInt, Mode: math.MaxInt, Body: strings.Repeat("x", 1000)}
	if x, e := Lookup(list(odd), "a"); x != odd || e != api.OK {
		t.Error(show(list(x)), int(e))
	}
	if got, e := List(list(odd), "a"); len(got) != 0 || e != api.ErrKind {
		t.Error(got, int(e))
	}
	if got, e := List(list(api.Entry{Path: "a", Kind: 2, Mode: -1, Body: "x"}, file("a/b", "")), "a"); !slices.Equal(got, []string{"b"}) || e != api.OK {
		t.Error(got, int(e))
	}
}

func TestLookupAndListOfAllShortLists(t *testing.T) {
	texts := []string{"", "/", "a", "/a/", "a/b", "a/b/c", "a-b", "b", "..", "A", "a/../b", rows("a", 8), rows("a", 9)}
	for n, paths := range [][]string{
		0: nil,
		1: {"", "a", "a/b", "A", "a/", rows("a", 8), rows("a", 9)},
		2: {"", "a", "a/b", "a/b/c", "A", "a/", "a-b", "b"},
		3: {"a", "a/b", "a/b/c", "/a", "b"},
	} {
		lists(some(paths, []int{0, 1, 2, 3, 4}, []int{7}, []string{""}), n, func(l []api.Entry) {
			for _, s := range texts {
				isFound(t, l, s)
			}
		})
	}
}

func TestLookupAndListByChance(t *testing.T) {
	r := rand.New(rand.NewSource(2))
	for range 1000 {
		l, _ := mergeOf(someStack(r, 3))
		if r.Intn(2) == 0 {
			l = append(l, someLayer(r, 12)...)
			r.Shuffle(len(l), func(i, k int) { l[i], l[k] = l[k], l[i] })
		}
		for _, x := range l {
			isFound(t, l, x.Path)
			isFound(t, l, "/"+x.Path+"//.")
			isFound(t, l, x.Path+"/..")
		}
		for range 20 {
			isFound(t, l, somePath(r, 4))
		}
	}
}

func TestLookupAndListOfLongLists(t *testing.T) {
	l := append(many(20000), dir("a", 1), file("a/z", ""), file("a/b", ""))
	if x, e := Lookup(l, "a"); x != dir("a", 1) || e != api.OK {
		t.Error(show(list(x)), int(e))
	}
	if got, e := List(l, "a"); !slices.Equal(got, []string{"z", "b"}) || e != api.OK {
		t.Error(got, int(e))
	}
	if got, e := List(l, "/"); len(got) != 20001 || got[19999] != l[19999].Path || e != api.OK {
		t.Error(len(got), int(e))
	}
}

// P8.3

func TestDiffOfKnown(t *testing.T) {
	full := list(dir("a", 5), dir("a/b", 6), file("a/b/c", "c"), file("a/d", "d"), file("a-b", "e"), file("ab", "f"))
	for _, x := range []struct{ a, b, want []api.Entry }{
		{nil, nil, nil},
		{list(), nil, nil},
		{full, full, nil},
		{nil, full, full},
		{full, nil, list(white("a"), white("a-b"), white("ab"))},
		// the chapter's own
		{list(dir("a", 0), file("a/b", "")), list(file("a", "")), list(file("a", ""))},
		// a file against a file
		{list(file("a", "x")), list(file("a", "x")), nil},
		{list(file("a", "x")), list(file("a", "y")), list(file("a", "y"))},
		{list(file("a", "x")), list(file("a", "")), list(file("a", ""))},
		{list(file("a", "x")), list(api.Entry{Path: "a", Kind: 1, Mode: 421, Body: "x"}), list(api.Entry{Path: "a", Kind: 1, Mode: 421, Body: "x"})},
		{list(file("a", "x")), list(file("b", "x")), list(white("a"), file("b", "x"))},
		{list(file("b", "x")), list(file("a", "x")), list(file("a", "x"), white("b"))},
		// a directory against a directory
		{list(dir("a", 5)), list(dir("a", 5)), nil},
		{list(dir("a", 5)), list(dir("a", 6)), list(dir("a", 6))},
		{list(dir("a", 5), file("a/b", "x")), list(dir("a", 6), file("a/b", "x")), list(dir("a", 6))},
		{list(dir("a", 5), file("a/b", "x")), list(dir("a", 5)), list(white("a/b"))},
		{list(dir("a", 5)), list(dir("a", 5), file("a/b", "x")), list(file("a/b", "x"))},
		// a file against a directory, and the other way about
		{list(api.Entry{Path: "a", Kind: 1, Mode: 5}), list(dir("a", 5)), list(dir("a", 5))},
		{list(dir("a", 5)), list(api.Entry{Path: "a", Kind: 1, Mode: 5}), list(api.Entry{Path: "a", Kind: 1, Mode: 5})},
		{list(file("a", "x")), list(dir("a", 5), file("a/b", "y")), list(dir("a", 5), file("a/b", "y"))},
		{full, list(file("a", "x")), list(file("a", "x"), white("a-b"), white("ab"))},
		{full, list(dir("a", 5), file("a/b", "x"), file("a/d", "d"), file("a-b", "e")), list(file("a/b", "x"), white("ab"))},
		{list(file("a", "x"), dir("b", 1), file("b/c", "y")), list(dir("a", 1), file("a/c", "y"), file("b", "x")), list(dir("a", 1), file("a/c", "y"), file("b", "x"))},
		// a directory that is gone with all below it
		{full, list(file("a-b", "e"), file("ab", "f")), list(white("a"))},
		{full, list(dir("a", 5), file("a/d", "d"), file("a-b", "e"), file("ab", "f")), list(white("a/b"))},
		{full, list(dir("a", 5), dir("a/b", 6)), list(white("a/b/c"), white("a/d"), white("a-b"), white("ab"))},
		{full, list(dir("a", 5), file("a/e", "d"), file("b", "f")), list(white("a/b"), white("a/d"), file("a/e", "d"), white("a-b"), white("ab"), file("b", "f"))},
	} {
		got, e := Diff(x.a, x.b)
		if !slices.Equal(got, x.want) || e != api.OK {
			t.Errorf("Diff(%s, %s) = %s, %d, want %s", show(x.a), show(x.b), show(got), int(e), show(x.want))
		}
		isDiff(t, x.a, x.b)
	}
}

func TestDiffOfNoTrees(t *testing.T) {
	good := [][]api.Entry{nil, {file("a", "")}, {dir("a", 0), file("a/b", "")}, many(65), many(200)}
	bad := [][]api.Entry{
		{file("b", ""), file("a", "")},
		{file("a", ""), file("a", "")},
		{white("a")},
		{blind("a", 0)},
		{file("a/b", "")},
		{file("a", ""), file("a/b", "")},
		{dir("a", 0), file("a/b/c", "")},
		append(many(200), white("z")),
	}
	for _, x := range wrong() {
		bad = append(bad, list(x))
	}
	isForm := func(a, b []api.Entry) {
		t.Helper()
		if got, e := Diff(a, b); len(got) != 0 || e != api.ErrForm {
			t.Fatalf("Diff(%s, %s) = %s, %d", show(a), show(b), show(got), int(e))
		}
	}
	for _, x := range bad {
		for _, y := range good {
			isForm(x, y)
			isForm(y, x)
		}
		for _, y := range bad {
			isForm(x, y)
		}
		isForm(x, x)
	}
}

func TestDiffCountsEntries(t *testing.T) {
	dirs := make([]api.Entry, 200)
	modes := make([]api.Entry, 200)
	for i := range dirs {
		dirs[i] = dir("d"+strconv.Itoa(1000+i), 5)
		modes[i] = dir(dirs[i].Path, 6)
	}
	in := list(dir("e", 1))
	for _, x := range many(200) {
		in = append(in, file("e/"+x.Path, ""))
	}
	is := func(a, b []api.Entry, n int) {
		t.Helper()
		got, e := isDiff(t, a, b)
		if n <= 64 && (len(got) != n || e != api.OK) || n > 64 && e != api.ErrBig {
			t.Fatalf("a layer of %d: %d, %d", n, len(got), int(e))
		}
	}
	for _, n := range []int{0, 1, 2, 62, 63, 64, 65, 66, 67, 128, 199} {
		is(nil, many(n), n)
		is(many(n), nil, n)
		is(nil, dirs[:n], n)
		is(dirs[:n], nil, n)
		is(dirs[:n], modes[:n], n)
		is(dirs, slices.Concat(modes[:n], dirs[n:]), n)
		is(many(200), many(200-n), n)
		is(many(200-n), many(200), n)
		is(dirs[:n/2], many(n-n/2), n)
		is(in, in[:201-n], n)
		is(in[:201-n], in, n)
		is(in[:n+1], nil, 1) // all below it goes with it
		is(in[:n+1], list(file("e", "")), 1)
		is(many(n), many(n), 0)
	}
	is(many(5000), many(5000), 0)
	is(many(5000), many(4936), 64)
	is(many(5000), many(4935), 65)
}

// treesOf are all trees with these paths alone, which rise: at each one of the entries, or nothing.
func treesOf(paths []string, of ...api.Entry) [][]api.Entry {
	out := stack(nil)
	for _, p := range paths {
		for _, l := range slices.Clone(out) {
			for _, x := range of {
				x.Path = p
				if with := append(l[:len(l):len(l)], x); treeOf(with) {
					out = append(out, with)
				}
			}
		}
	}
	return out
}

func TestDiffOfAllPairsOfShortTrees(t *testing.T) {
	of := list(api.Entry{Kind: 1}, api.Entry{Kind: 1, Mode: 1}, api.Entry{Kind: 1, Body: "x"}, api.Entry{Kind: 2}, api.Entry{Kind: 2, Mode: 1})
	for _, x := range []struct {
		paths []string
		of    []api.Entry
	}{
		{[]string{"a", "b"}, of},
		{[]string{"a", "a/b", "a-b"}, of},
		{[]string{"a", "a/b", "a/b/c", "b"}, []api.Entry{of[0], of[2], of[3], of[4]}},
		{[]string{"a", "a/a", "a/b", "a/b/c", "a-b", "b", "b/a"}, []api.Entry{of[0], of[3]}},
	} {
		all := treesOf(x.paths, x.of...)
		if len(all) < 30 {
			t.Fatal(len(all))
		}
		for _, a := range all {
			for _, b := range all {
				got, _ := isDiff(t, a, b)
				if _, e := layer.Check(got); e != api.OK {
					t.Fatalf("Diff(%s, %s) = %s may not be: %d", show(a), show(b), show(got), int(e))
				}
				if back, e := Merge(stack(a, got)); !slices.Equal(back, b) || e != api.OK {
					t.Fatalf("Diff(%s, %s) = %s, put over: %s, %d", show(a), show(b), show(got), show(back), int(e))
				}
			}
		}
	}
}

func TestDiffByChance(t *testing.T) {
	r := rand.New(rand.NewSource(3))
	told := map[api.Errno]int{}
	for range 2500 {
		s := someStack(r, 6)
		a, _ := mergeOf(s)
		b, _ := mergeOf(someStack(r, 6))
		if r.Intn(2) == 0 { // trees that are near each other
			b, _ = mergeOf(over(s, someLayer(r, 6)...))
		}
		if r.Intn(20) == 0 && len(b) > 0 {
			b = slices.Delete(slices.Clone(b), 0, 1) // mostly what is below it lies below nothing then
		}
		if r.Intn(20) == 0 {
			b = append(b, many(50+r.Intn(30))...)
			slices.SortFunc(b, func(x, y api.Entry) int { return piecewise(x.Path, y.Path) })
		}
		_, e := isDiff(t, a, b)
		told[e]++
	}
	for _, why := range []api.Errno{api.OK, api.ErrForm, api.ErrBig} {
		if told[why] < 50 {
			t.Errorf("only %d are told %d", told[why], int(why))
		}
	}
}

// P8.4

// isLawful fails where Merge and Diff do not stand to each other as P8.4 says. (A tree with more entries than a layer may have is not put into a stack.)
func isLawful(t *testing.T, s [][]api.Entry, l []api.Entry) {
	t.Helper()
	merge := func(s ...[]api.Entry) []api.Entry {
		t.Helper()
		out, e := Merge(s)
		if e != api.OK || !Tree(out) {
			t.Fatalf("Merge of %s = %s, %d", showAll(s), show(out), int(e))
		}
		return out
	}
	a := merge(s...)
	b := merge(over(s, l...)...)
	if got := merge(over(over(s, l...), l...)...); !slices.Equal(got, b) {
		t.Fatalf("%s twice over %s: %s, once: %s", show(l), showAll(s), show(got), show(b))
	}
	for i := range len(s) + 1 {
		if got := merge(slices.Insert(slices.Clone(s), i, list())...); !slices.Equal(got, a) {
			t.Fatalf("an empty layer at %d of %s: %s, not %s", i, showAll(s), show(got), show(a))
		}
		begin := merge(s[:i]...)
		if len(begin) > 64 {
			continue
		}
		if got := merge(append(stack(begin), s[i:]...)...); !slices.Equal(got, a) {
			t.Fatalf("%s for the first %d of %s: %s, not %s", show(begin), i, showAll(s), show(got), show(a))
		}
	}
	for _, x := range [][2][]api.Entry{{a, b}, {b, a}, {a, nil}, {nil, b}} {
		d, e := Diff(x[0], x[1])
		if e == api.ErrBig || len(x[0]) > 64 {
			continue
		}
		if got := merge(x[0], d); !slices.Equal(got, x[1]) || e != api.OK {
			t.Fatalf("Diff(%s, %s) = %s, %d; put over: %s", show(x[0]), show(x[1]), show(d), int(e), show(got))
		}
		if d, e := Diff(x[1], x[1]); len(d) != 0 || e != api.OK {
			t.Fatalf("Diff of %s and itself: %s, %d", show(x[1]), show(d), int(e))
		}
	}
}

func TestLawsOfShortStacks(t *testing.T) {
	all := layersOf(ones("a", "a/b", "a/b/c", "a-b"), 2)
	for _, low := range all {
		for _, high := range all {
			isLawful(t, stack(low), high)
		}
	}
	lists(ones("a", "a/b", "b"), 3, func(l []api.Entry) {
		isLawful(t, stack(list(l[0]), list(l[1])), list(l[2]))
	})
}

func TestLawsByChance(t *testing.T) {
	r := rand.New(rand.NewSource(4))
	for range 800 {
		isLawful(t, someStack(r, 6), someLayer(r, 12))
	}
}

// A tree of more entries than one layer may have is made by several: Diff of it goes on all the same.
func TestDiffOverGreatTrees(t *testing.T) {
	var low [][]api.Entry
	for i := range 10 {
		var l []api.Entry
		for k := range 50 {
			l = append(l, file(fmt.Sprintf("d%d/f%02d", i, k), "x"))
		}
		low = append(low, l)
	}
	a := isMerged(t, low)
	b := isMerged(t, over(low, white("d0"), file("d1", "y"), blind("d2", 5), dir("d3", 7), file("d4/f00/x", ""), white("d5/f01")))
	d, e := isDiff(t, a, b)
	if e != api.OK || len(d) != 1+1+51+1+2+1 {
		t.Fatal(len(d), int(e))
	}
	if got := isMerged(t, over(low, d...)); !slices.Equal(got, b) {
		t.Error(show(got))
	}
	if _, e := isDiff(t, b, a); e != api.ErrBig {
		t.Error(int(e))
	}
}

// Rules that hold everywhere

// hide is a list with entries behind its length that would change each answer if they were read.
func hide(l []api.Entry) []api.Entry {
	out := make([]api.Entry, 0, len(l)+3)
	out = append(out, l...)
	copy(out[len(l):cap(out)], list(white("a"), api.Entry{Path: "A", Kind: 9}, file("zz", "hidden")))
	return out
}

func whole(l []api.Entry) []api.Entry { return slices.Clone(l[:cap(l)]) }

func TestWhatIsHandedInStays(t *testing.T) {
	r := rand.New(rand.NewSource(5))
	for range 500 {
		a, _ := mergeOf(someStack(r, 2))
		b, _ := mergeOf(someStack(r, 2))
		a, b = hide(a), hide(b)
		s := make([][]api.Entry, 0, 20)
		var was [][]api.Entry
		for range r.Intn(5) {
			s = append(s, hide(someLayer(r, 12)))
		}
		behind := hide(list(white("a")))
		s[:cap(s)][len(s)] = behind
		for _, l := range s[:len(s)+1] {
			was = append(was, whole(l))
		}
		wasA, wasB := whole(a), whole(b)
		isTree(t, a, true)
		isFound(t, a, "a")
		isFound(t, a, "zz")
		isFound(t, a, "/")
		isDiff(t, a, b)
		isMerged(t, s)
		if !slices.Equal(a[:cap(a)], wasA) || !slices.Equal(b[:cap(b)], wasB) {
			t.Fatal("a tree is changed")
		}
		for i, l := range s[:len(s)+1] {
			if !slices.Equal(l[:cap(l)], was[i]) {
				t.Fatal("a layer is changed")
			}
		}
		if s[:cap(s)][len(s)+1] != nil {
			t.Fatal("something is written behind the stack")
		}
	}
}

func TestWrongStaysToo(t *testing.T) {
	for _, x := range wrong() {
		l := hide(list(dir("c", 1), file("a", ""), x))
		was := whole(l)
		Tree(l)
		Merge(stack(l, l))
		Lookup(l, x.Path)
		List(l, x.Path)
		Diff(l, l)
		if !slices.Equal(l[:cap(l)], was) {
			t.Fatalf("%s is changed", show(was))
		}
	}
}

func TestWhatIsHandedOutIsNew(t *testing.T) {
	spoil := func(l []api.Entry) {
		for i := range l[:cap(l)] {
			l[:cap(l)][i] = api.Entry{Path: "spoilt", Kind: 9, Mode: -1, Body: "spoilt"}
		}
	}
	tree := list(dir("a", 5), file("a/b", "x"), file("c", "y"))
	other := list(dir("a", 6), file("a/d", "x"))
	s := stack(slices.Clone(tree))
	first, _ := Merge(s)
	second, _ := Merge(s)
	spoil(first)
	if !slices.Equal(second, tree) || !slices.Equal(s[0], tree) {
		t.Error("Merge shares its memory")
	}
	want := list(dir("a", 6), white("a/b"), file("a/d", "x"), white("c"))
	a, b := slices.Clone(tree), slices.Clone(other)
	first, _ = Diff(a, b)
	second, _ = Diff(a, b)
	spoil(first)
	if !slices.Equal(second, want) || !slices.Equal(a, tree) || !slices.Equal(b, other) {
		t.Error("Diff shares its memory")
	}
	first, _ = Diff(nil, b)
	spoil(first)
	if !slices.Equal(b, other) {
		t.Error("Diff against nothing shares its memory")
	}
	names, _ := List(a, "")
	again, _ := List(a, "")
	names[0], names[1] = "spoilt", "spoilt"
	if !slices.Equal(again, []string{"a", "c"}) || !slices.Equal(a, tree) {
		t.Error("List shares its memory")
	}
	a[0] = file("z", "") // and what is handed in is not kept
	if got, e := List(tree, ""); !slices.Equal(got, again) || e != api.OK {
		t.Error(got, int(e))
	}
}

func TestTheSameIsToldAgain(t *testing.T) {
	r := rand.New(rand.NewSource(6))
	for range 100 {
		s := someStack(r, 8)
		first, _ := Merge(s)
		other, _ := Merge(someStack(r, 8))
		d, why := Diff(first, other)
		for range 10 {
			if got, e := Merge(s); !slices.Equal(got, first) || e != api.OK {
				t.Fatalf("Merge of %s tells %s, then %s", showAll(s), show(first), show(got))
			}
			if got, e := Diff(first, other); !slices.Equal(got, d) || e != why {
				t.Fatalf("Diff(%s, %s) tells %s, then %s", show(first), show(other), show(d), show(got))
			}
		}
	}
}
