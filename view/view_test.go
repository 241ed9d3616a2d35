package view

import (
	"crypto/sha256"
	"fmt"
	"iter"
	"math"
	"math/rand"
	"slices"
	"strings"
	"testing"

	"veneer/api"
	"veneer/blob"
	"veneer/disk"
	"veneer/layer"
	"veneer/manifest"
	"veneer/overlay"
	"veneer/rootdb"
)

// Entries, and layers of them.

func file(path, body string) api.Entry    { return api.Entry{Path: path, Kind: 1, Mode: 420, Body: body} }
func dir(path string, mode int) api.Entry { return api.Entry{Path: path, Kind: 2, Mode: mode} }
func white(path string) api.Entry         { return api.Entry{Path: path, Kind: 3} }
func blind(path string, mode int) api.Entry {
	return api.Entry{Path: path, Kind: 4, Mode: mode}
}
func list(l ...api.Entry) []api.Entry { return l }

// by is who laid a package, and the entries of its layers.
type by struct {
	owner  int
	layers [][]api.Entry
}

func lay(owner int, layers ...[]api.Entry) by { return by{owner, layers} }

func packs(l ...by) []by { return l }

func long(n int) string { return strings.Repeat("x", n) }

// deep is a path of that many parts.
func deep(n int) string { return strings.TrimSuffix(strings.Repeat("a/", n), "/") }

// shop is a store and its disk.
type shop struct {
	d *disk.Disk
	s *blob.Store
}

func newShop(t *testing.T, blocks int) *shop {
	t.Helper()
	d, e := disk.New(blocks)
	if e != 0 {
		t.Fatal(int(e))
	}
	s, e := blob.Open(d)
	if e != 0 {
		t.Fatal(int(e))
	}
	return &shop{d, s}
}

// put stores bytes, and tells how a manifest names them.
func (x *shop) put(t *testing.T, data string) api.Ref {
	t.Helper()
	sum, e := x.s.Put(data)
	if e != 0 {
		t.Fatal("Put:", int(e))
	}
	return api.Ref{Sum: sum}
}

func (x *shop) layer(t *testing.T, l ...api.Entry) api.Ref {
	t.Helper()
	return x.put(t, encoded(t, l...))
}

func encoded(t *testing.T, l ...api.Entry) string {
	t.Helper()
	b, e := layer.Encode(l)
	if e != 0 {
		t.Fatalf("%s is no layer: %d", show(l), int(e))
	}
	return string(b)
}

// lost is a layer that no store has.
func lost(name string) api.Ref {
	return api.Ref{Sum: sha256.Sum256([]byte("lost " + name))}
}

func pack(owner int, name string, refs ...api.Ref) api.Pack {
	return api.Pack{Owner: owner, Man: api.Manifest{Name: name, Version: "1", Layers: refs}}
}

// stack stores all layers, and tells the stack of the packages.
func (x *shop) stack(t *testing.T, l ...by) []api.Pack {
	t.Helper()
	var out []api.Pack
	for i, b := range l {
		var refs []api.Ref
		for _, entries := range b.layers {
			refs = append(refs, x.layer(t, entries...))
		}
		out = append(out, pack(b.owner, fmt.Sprint("p", i), refs...))
	}
	return out
}

func show(l []api.Entry) string {
	var out []string
	for _, x := range l {
		out = append(out, fmt.Sprintf("%s %s %d %q", []string{"?", "file", "dir", "white", "blind"}[x.Kind], x.Path, x.Mode, x.Body))
	}
	return "(" + strings.Join(out, "; ") + ")"
}

func showAll(l []by) string {
	var out []string
	for _, b := range l {
		var layers []string
		for _, entries := range b.layers {
			layers = append(layers, show(entries))
		}
		out = append(out, fmt.Sprint(b.owner, ": ", strings.Join(layers, ", ")))
	}
	return "[" + strings.Join(out, " | ") + "]"
}

// The model: the packages as they were laid, and their tree.

type model struct {
	l    []by
	tree []api.Entry
}

func modelOf(t *testing.T, l []by) model {
	t.Helper()
	var all [][]api.Entry
	for _, b := range l {
		all = append(all, b.layers...)
	}
	tree, e := overlay.Merge(all)
	if e != 0 {
		t.Fatalf("%s: Merge = %d", showAll(l), int(e))
	}
	return model{l, tree}
}

// has tells whether a layer has an entry, no whiteout, with such a path.
func (b by) has(isSo func(path string) bool) bool {
	for _, entries := range b.layers {
		for _, x := range entries {
			if x.Kind != 3 && isSo(x.Path) {
				return true
			}
		}
	}
	return false
}

// owner is what Owner must answer: it looks from the highest package down.
func (m model) owner(s string) (int, api.Errno) {
	x, e := overlay.Lookup(m.tree, s)
	if e != 0 {
		return 0, e
	}
	if x.Path == "" {
		return 0, 9
	}
	isIt := func(path string) bool { return path == x.Path }
	isBelow := func(path string) bool {
		return len(path) > len(x.Path) && path[:len(x.Path)+1] == x.Path+"/"
	}
	for _, isSo := range []func(string) bool{isIt, isBelow} {
		for _, b := range slices.Backward(m.l) {
			if b.has(isSo) {
				return b.owner, 0
			}
		}
	}
	return -1, -1 // the tree has a path out of nowhere
}

func (m model) files() int {
	n := 0
	for _, x := range m.tree {
		if x.Kind == 1 {
			n++
		}
	}
	return n
}

// probes are texts to ask for: all paths of the layers, those on the way to them, and some that are none of these.
func (m model) probes() []string {
	out := []string{"", "/", ".", "..", "a/..", "a/../..", "A", "zz", "zz/y", "a//./b/", "/a/b/../b", long(24), long(25), deep(8), deep(9)}
	for _, b := range m.l {
		for _, entries := range b.layers {
			for _, x := range entries {
				for end := range x.Path {
					if x.Path[end] == '/' {
						out = append(out, x.Path[:end])
					}
				}
				out = append(out, x.Path, x.Path+"/none", x.Path+"x", x.Path[1:], "/./"+x.Path+"/")
			}
		}
	}
	slices.Sort(out)
	return slices.Compact(out)
}

// isView fails where a view tells anything else than the model.
func isView(t *testing.T, v *View, m model) {
	t.Helper()
	if got := v.Tree(); !slices.Equal(got, m.tree) {
		t.Errorf("%s: Tree = %s, want %s", showAll(m.l), show(got), show(m.tree))
	}
	if got := slices.Collect(v.Each()); !slices.Equal(got, m.tree) {
		t.Errorf("%s: Each goes over %s, want %s", showAll(m.l), show(got), show(m.tree))
	}
	if got := v.Files(); got != m.files() {
		t.Errorf("%s: Files = %d, want %d", showAll(m.l), got, m.files())
	}
	for _, p := range m.probes() {
		isTold(t, v, m, p)
	}
}

// isTold fails where a view tells anything else of a path than the model.
func isTold(t *testing.T, v *View, m model, p string) {
	t.Helper()
	want, wantE := overlay.Lookup(m.tree, p)
	if got, e := v.Lookup(p); got != want || e != wantE {
		t.Errorf("%s: Lookup(%q) = %v, %d, want %v, %d", showAll(m.l), p, got, int(e), want, int(wantE))
	}
	names, namesE := overlay.List(m.tree, p)
	if got, e := v.List(p); !slices.Equal(got, names) || e != namesE {
		t.Errorf("%s: List(%q) = %q, %d, want %q, %d", showAll(m.l), p, got, int(e), names, int(namesE))
	}
	owner, ownerE := m.owner(p)
	if got, e := v.Owner(p); got != owner || e != ownerE {
		t.Errorf("%s: Owner(%q) = %d, %d, want %d, %d", showAll(m.l), p, got, int(e), owner, int(ownerE))
	}
}

// made is the view of packages whose layers are stored first; it is held against the model.
func (x *shop) made(t *testing.T, l ...by) *View {
	t.Helper()
	v, e := Make(x.stack(t, l...), x.s)
	if v == nil || e != 0 {
		t.Fatalf("%s: Make = %v, %d", showAll(l), v, int(e))
	}
	isView(t, v, modelOf(t, l))
	return v
}

// isRefused fails where Make does not answer nil and that error.
func isRefused(t *testing.T, what string, want api.Errno, stack []api.Pack, s *blob.Store) {
	t.Helper()
	if v, e := Make(stack, s); v != nil || e != want {
		t.Errorf("%s: Make = %v, %d, want nil, %d", what, v, int(e), int(want))
	}
}

// said is all that a view tells, and what it tells of some paths, as a text.
func said(v *View, paths ...string) string {
	out := []string{fmt.Sprint(show(v.Tree()), " ", v.Files())}
	for x := range v.Each() {
		out = append(out, show(list(x)))
	}
	for _, p := range paths {
		x, e := v.Lookup(p)
		names, namesE := v.List(p)
		owner, ownerE := v.Owner(p)
		out = append(out, fmt.Sprintf("%q: %s %d, %q %d, %d %d", p, show(list(x)), int(e), names, int(namesE), owner, int(ownerE)))
	}
	return strings.Join(out, "\n")
}

func TestTheExample(t *testing.T) {
	x := newShop(t, 100)
	v, e := Make(x.stack(t, lay(3, list(file("a/b", "hi")))), x.s)
	if e != 0 {
		t.Fatal(int(e))
	}
	if got := v.Tree(); !slices.Equal(got, list(dir("a", 0), file("a/b", "hi"))) {
		t.Error(show(got))
	}
	if owner, e := v.Owner("a"); owner != 3 || e != 0 {
		t.Error(owner, int(e))
	}
	if n := v.Files(); n != 1 {
		t.Error(n)
	}
}

// P19.1: Make

func TestMakeOfNoPackages(t *testing.T) {
	x := newShop(t, 100)
	for _, stack := range [][]api.Pack{nil, {}, make([]api.Pack, 0, 3)} {
		v, e := Make(stack, x.s)
		if v == nil || e != 0 {
			t.Fatal(v, int(e))
		}
		isView(t, v, model{})
		if names, e := v.List(""); len(names) != 0 || e != 0 {
			t.Error(names, int(e))
		}
		if got, e := v.Lookup("/"); got != dir("", 0) || e != 0 {
			t.Error(got, int(e))
		}
	}
	x.layer(t, file("a", "x"))
	x.made(t) // what the store has beside the stack's layers is not seen
}

func TestMakeOfEmptyLayers(t *testing.T) {
	x := newShop(t, 100)
	x.made(t, lay(1, list()))
	x.made(t, lay(1, list()), lay(2, list()))
	x.made(t, lay(1, list(), list(file("a", "x"))), lay(2, list()))
}

func TestMakeByEachOwner(t *testing.T) {
	x := newShop(t, 200)
	for owner := 1; owner <= 8; owner++ {
		v := x.made(t, lay(owner, list(file("a/b", "x"))))
		for _, p := range []string{"a", "a/b"} {
			if got, e := v.Owner(p); got != owner || e != 0 {
				t.Error(owner, p, got, int(e))
			}
		}
	}
}

// wrongStacks are stacks that rootdb.Check refuses, each by the one error that is told; the layers are those that are handed in, none of them twice.
func wrongStacks(l [17]api.Ref) map[string]struct {
	stack []api.Pack
	want  api.Errno
} {
	type wrong = struct {
		stack []api.Pack
		want  api.Errno
	}
	good := pack(1, "good", l[0])
	version, under, over := pack(1, "p", l[1]), l[1], l[1]
	version.Man.Version = "1_0"
	under.Size, over.Size = -1, 1<<31
	return map[string]wrong{
		"no owner":               {[]api.Pack{pack(0, "p", l[0])}, 2},
		"an owner too great":     {[]api.Pack{pack(9, "p", l[0])}, 2},
		"an owner below 0":       {[]api.Pack{pack(math.MinInt, "p", l[0])}, 2},
		"no owner, above":        {[]api.Pack{good, pack(0, "p", l[1])}, 2},
		"no name":                {[]api.Pack{good, pack(1, "", l[1])}, 2},
		"a name too long":        {[]api.Pack{good, pack(1, long(17), l[1])}, 2},
		"no version":             {[]api.Pack{good, version}, 2},
		"no layers":              {[]api.Pack{pack(1, "p")}, 9},
		"no layers, above":       {[]api.Pack{good, pack(1, "p")}, 9},
		"nine layers":            {[]api.Pack{pack(1, "p", l[:9]...)}, 3},
		"a size below 0":         {[]api.Pack{good, pack(1, "p", under)}, 2},
		"a size too great":       {[]api.Pack{good, pack(1, "p", over)}, 2},
		"a digest twice":         {[]api.Pack{good, pack(1, "p", l[1], l[2], l[1])}, 8},
		"a name twice":           {[]api.Pack{good, pack(2, "p", l[1]), pack(3, "good", l[2])}, 8},
		"seventeen layers":       {[]api.Pack{pack(1, "p", l[:8]...), pack(1, "q", l[8:16]...), pack(2, "r", l[16])}, 3},
		"seventeen of the same":  {[]api.Pack{pack(1, "p", l[:8]...), pack(1, "q", l[:8]...), pack(2, "r", l[0])}, 3},
		"no owner, and no name":  {[]api.Pack{pack(0, "", l[0])}, 2},
		"no layers, then a name": {[]api.Pack{pack(1, "p"), pack(1, "", l[0])}, 9},
	}
}

// What rootdb.Check says stands ahead of all else: whatever the store is, and whatever it has.
func TestMakeOfWrongStacks(t *testing.T) {
	x := newShop(t, 1000)
	var there, gone, others, mixed [17]api.Ref
	for i := range 17 {
		there[i] = x.layer(t, file(fmt.Sprint("f", i), "x"))
		gone[i] = lost(fmt.Sprint(i))
		others[i] = x.put(t, fmt.Sprint("no layer ", i))
		mixed[i] = []api.Ref{gone[i], others[i], there[i]}[i%3]
	}
	for _, l := range [][17]api.Ref{there, gone, others, mixed} {
		for what, w := range wrongStacks(l) {
			if e := rootdb.Check(w.stack); e != w.want {
				t.Fatalf("%s: rootdb.Check = %d, want %d", what, int(e), int(w.want))
			}
			isRefused(t, what, w.want, w.stack, x.s)
			isRefused(t, what+", no store", w.want, w.stack, nil)
			isRefused(t, what+", a plain store", w.want, w.stack, &blob.Store{})
		}
	}
}

func TestMakeOfNoStore(t *testing.T) {
	x := newShop(t, 100)
	there, other := x.layer(t, file("a", "x")), x.put(t, "no layer")
	for what, stack := range map[string][]api.Pack{
		"no packages":               nil,
		"an empty list of packages": {},
		"a layer":                   {pack(1, "p", there)},
		"a lost layer":              {pack(1, "p", lost("a"))},
		"what is no layer":          {pack(1, "p", other)},
		"a layer of noughts":        {pack(1, "p", api.Ref{})},
		"several":                   {pack(1, "p", lost("a"), there), pack(2, "q", other)},
	} {
		isRefused(t, what+", no store", 1, stack, nil)
		isRefused(t, what+", a plain store", 1, stack, &blob.Store{})
		isRefused(t, what+", a new store", 1, stack, new(blob.Store))
	}
}

// A store that a call made is one, whatever it has, and whatever became of its disk.
func TestMakeOfAnyStore(t *testing.T) {
	x := newShop(t, 100)
	if v, e := Make(nil, x.s); v == nil || e != 0 {
		t.Error("of a store without blobs:", v, int(e))
	}
	stack := x.stack(t, lay(2, list(file("a", "x"))))
	x.d.Fuse(0)
	if _, e := x.s.Put("y"); e != api.ErrDown {
		t.Fatal(int(e))
	}
	for _, l := range [][]api.Pack{nil, stack} {
		if v, e := Make(l, x.s); v == nil || e != 0 {
			t.Error("of a store that is down:", v, int(e))
		}
	}
	isRefused(t, "of a store that is down", 9, []api.Pack{pack(1, "p", lost("a"))}, x.s)
}

func TestMakeOfLayersThatAreNotStored(t *testing.T) {
	x := newShop(t, 200)
	noughts, one := api.Ref{}, x.layer(t, file("a", "x"))
	near := one
	near.Sum[31]++
	isRefused(t, "noughts", 9, []api.Pack{pack(1, "p", noughts)}, x.s)
	isRefused(t, "another digest", 9, []api.Pack{pack(1, "p", near)}, x.s)
	isRefused(t, "behind one that is there", 9, []api.Pack{pack(1, "p", one, near)}, x.s)
	isRefused(t, "ahead of one that is there", 9, []api.Pack{pack(1, "p", near, one)}, x.s)
	isRefused(t, "in another package", 9, []api.Pack{pack(1, "p", one), pack(1, "q", near)}, x.s)
	other := newShop(t, 200)
	isRefused(t, "of another store", 9, []api.Pack{pack(1, "p", one)}, other.s)
	if v, e := Make([]api.Pack{pack(1, "p", one)}, x.s); v == nil || e != 0 {
		t.Error(v, int(e))
	}
}

// noLayers are bytes that are no layer.
func noLayers(t *testing.T) map[string]string {
	good := encoded(t, dir("a", 5), file("a/b", "hi"))
	var many strings.Builder
	for i := range 65 {
		many.WriteString("\x02\x00\x00\x02" + fmt.Sprint(10+i))
	}
	m, e := manifest.Encode(pack(1, "p", lost("a")).Man)
	if e != 0 {
		t.Fatal(int(e))
	}
	out := map[string]string{
		"nothing":               "",
		"a letter":              "V",
		"a text":                "no layer",
		"a manifest":            string(m),
		"another version":       "VL\x02\x00",
		"a longer number":       "VL\x01\x80\x00",
		"more than it has":      "VL\x01\x03" + good[4:],
		"less than it has":      "VL\x01\x01" + good[4:],
		"sixty-five entries":    "VL\x01\x41" + many.String(),
		"no path":               "VL\x01\x01\x02\x00\x00\x01A",
		"the root's path":       "VL\x01\x01\x02\x00\x00\x00",
		"no kind":               "VL\x01\x01\x05\x00\x00\x01a",
		"a mode too great":      "VL\x01\x01\x02\x02\x00\x01a",
		"a whiteout's mode":     "VL\x01\x01\x03\x00\x01\x01a",
		"a body too long":       "VL\x01\x01\x01\x00\x00\x01a\x81\x02" + long(257),
		"one entry twice":       "VL\x01\x02\x02\x00\x00\x01a\x02\x00\x00\x01a",
		"falling":               "VL\x01\x02\x02\x00\x00\x01b\x02\x00\x00\x01a",
		"what lies below files": "VL\x01\x02\x01\x00\x00\x01a\x00\x02\x00\x00\x03a/b",
	}
	for n := range good {
		out[fmt.Sprint("cut at ", n)] = good[:n]
	}
	for _, more := range []string{"\x00", "V", good} {
		out["longer by "+more] = good + more
	}
	return out
}

func TestMakeOfWhatIsNoLayer(t *testing.T) {
	x := newShop(t, 2000)
	good := x.layer(t, file("a", "x"))
	for what, data := range noLayers(t) {
		if _, e := layer.Decode([]byte(data)); e != 5 {
			t.Fatalf("%s is a layer", what)
		}
		other := x.put(t, data)
		isRefused(t, what, 5, []api.Pack{pack(1, "p", other)}, x.s)
		isRefused(t, what+", behind a layer", 5, []api.Pack{pack(1, "p", good, other)}, x.s)
		isRefused(t, what+", in another package", 5, []api.Pack{pack(1, "p", good), pack(2, "q", other)}, x.s)
	}
}

// cuts calls f with each way to make packages of a row of layers, none of them empty.
func cuts(n int, f func(ends []int)) {
	if n == 0 {
		f(nil)
		return
	}
	for mask := range 1 << (n - 1) {
		var ends []int
		for i := 1; i < n; i++ {
			if mask>>(i-1)&1 == 1 {
				ends = append(ends, i)
			}
		}
		f(append(ends, n))
	}
}

// packed is the stack of a row of layers that are parted at these ends.
func packed(refs []api.Ref, ends []int) []api.Pack {
	var out []api.Pack
	from := 0
	for i, end := range ends {
		out = append(out, pack(1+i%8, fmt.Sprint("p", i), refs[from:end]...))
		from = end
	}
	return out
}

// Layer by layer: the first one that is not stored, or is none, tells the error, whatever comes behind it.
func TestMakeTellsTheFirstFault(t *testing.T) {
	x := newShop(t, 500)
	const most = 4
	var kinds [most][3]api.Ref
	for i := range most {
		kinds[i] = [3]api.Ref{x.layer(t, file(fmt.Sprint("f", i), "x")), lost(fmt.Sprint(i)), x.put(t, fmt.Sprint("no layer ", i))}
	}
	errs := [3]api.Errno{0, 9, 5}
	var rows func(refs []api.Ref, want api.Errno)
	rows = func(refs []api.Ref, want api.Errno) {
		cuts(len(refs), func(ends []int) {
			stack := packed(refs, ends)
			if v, e := Make(stack, x.s); e != want || (v != nil) != (want == 0) {
				t.Errorf("%v: Make = %v, %d, want %d", stack, v, int(e), int(want))
			}
		})
		if len(refs) == most {
			return
		}
		for kind, ref := range kinds[len(refs)] {
			next := want
			if want == 0 {
				next = errs[kind]
			}
			rows(append(slices.Clone(refs), ref), next)
		}
	}
	rows(nil, 0)
}

// What a layer is charged for is not held against it.
func TestMakeOfAnySize(t *testing.T) {
	x := newShop(t, 100)
	l := packs(lay(3, list(file("a/b", "x"))))
	for _, size := range []int{0, 1, 4, 5, 1<<31 - 1} {
		stack := x.stack(t, l...)
		stack[0].Man.Layers[0].Size = size
		v, e := Make(stack, x.s)
		if v == nil || e != 0 {
			t.Fatal(size, int(e))
		}
		isView(t, v, modelOf(t, l))
	}
}

// P19.2 and P19.3 by hand

type known struct {
	l      []by
	tree   []api.Entry
	owners []int // of each entry of the tree
	files  int
}

func knownByHand() map[string]known {
	return map[string]known{
		"the example":                   {packs(lay(3, list(file("a/b", "x")))), list(dir("a", 0), file("a/b", "x")), []int{3, 3}, 1},
		"a file":                        {packs(lay(8, list(file("a", "")))), list(file("a", "")), []int{8}, 1},
		"a directory":                   {packs(lay(1, list(dir("a", 511)))), list(dir("a", 511)), []int{1}, 0},
		"an opaque directory":           {packs(lay(2, list(blind("a", 7)))), list(dir("a", 7)), []int{2}, 0},
		"whiteouts of nothing":          {packs(lay(2, list(white("a"), white("b/c")))), nil, nil, 0},
		"several of one owner":          {packs(lay(3, list(dir("a", 5))), lay(3, list(file("a/b", "x")))), list(dir("a", 5), file("a/b", "x")), []int{3, 3}, 1},
		"several owners":                {packs(lay(3, list(dir("a", 5))), lay(5, list(file("a/b", "x")))), list(dir("a", 5), file("a/b", "x")), []int{3, 5}, 1},
		"several layers of a package":   {packs(lay(3, list(file("a", "1")), list(file("a", "2")), list(file("b", "3")))), list(file("a", "2"), file("b", "3")), []int{3, 3}, 2},
		"a file over a file":            {packs(lay(3, list(file("a", "1"))), lay(5, list(file("a", "2")))), list(file("a", "2")), []int{5}, 1},
		"the same file over itself":     {packs(lay(3, list(file("a", "1"))), lay(5, list(file("a", "1")))), list(file("a", "1")), []int{5}, 1},
		"the same file thrice":          {packs(lay(5, list(file("a", "1"))), lay(3, list(file("a", "1"))), lay(1, list(file("a", "1")))), list(file("a", "1")), []int{1}, 1},
		"a file over a directory":       {packs(lay(3, list(dir("a", 5), file("a/b", "x"))), lay(5, list(file("a", "y")))), list(file("a", "y")), []int{5}, 1},
		"a directory over a file":       {packs(lay(3, list(file("a", "x"))), lay(5, list(dir("a", 5)))), list(dir("a", 5)), []int{5}, 0},
		"a directory over its own":      {packs(lay(3, list(dir("a", 5), file("a/b", "x"))), lay(5, list(dir("a", 6)))), list(dir("a", 6), file("a/b", "x")), []int{5, 3}, 1},
		"an opaque one over a full one": {packs(lay(3, list(dir("a", 5), file("a/b", "x"))), lay(5, list(blind("a", 7), file("a/c", "y")))), list(dir("a", 7), file("a/c", "y")), []int{5, 5}, 1},
		"into an opaque one":            {packs(lay(3, list(blind("a", 7))), lay(5, list(file("a/b", "x")))), list(dir("a", 7), file("a/b", "x")), []int{3, 5}, 1},
		"a whiteout of a file":          {packs(lay(3, list(file("a", "x"), file("b", "y"))), lay(5, list(white("a")))), list(file("b", "y")), []int{3}, 1},
		"a whiteout of a directory":     {packs(lay(3, list(dir("a", 5), file("a/b", "x"), dir("c", 1))), lay(5, list(white("a")))), list(dir("c", 1)), []int{3}, 0},
		"a whiteout, and again":         {packs(lay(3, list(file("a", "x"))), lay(5, list(white("a"))), lay(2, list(file("a", "y")))), list(file("a", "y")), []int{2}, 1},

		// A directory that is there only on the way: whose layers have it below.
		"on the way of two":                   {packs(lay(3, list(file("a/b", "x"))), lay(5, list(file("a/c", "y")))), list(dir("a", 0), file("a/b", "x"), file("a/c", "y")), []int{5, 3, 5}, 2},
		"on the way of two, the lesser last":  {packs(lay(5, list(file("a/c", "y"))), lay(3, list(file("a/b", "x")))), list(dir("a", 0), file("a/b", "x"), file("a/c", "y")), []int{3, 3, 5}, 2},
		"on the way, at all heights":          {packs(lay(1, list(file("a/b/c/d/e/f/g/h", "x"))), lay(2, list(file("a/b/c/i", "y")))), list(dir("a", 0), dir("a/b", 0), dir("a/b/c", 0), dir("a/b/c/d", 0), dir("a/b/c/d/e", 0), dir("a/b/c/d/e/f", 0), dir("a/b/c/d/e/f/g", 0), file("a/b/c/d/e/f/g/h", "x"), file("a/b/c/i", "y")), []int{2, 2, 2, 1, 1, 1, 1, 1, 2}, 2},
		"on the way to what is gone":          {packs(lay(3, list(file("a/b", "x"))), lay(5, list(white("a/b")))), list(dir("a", 0)), []int{3}, 0},
		"on the way to what is gone of two":   {packs(lay(3, list(file("a/b", "x"))), lay(4, list(file("a/c", "x"))), lay(5, list(white("a/b"), white("a/c")))), list(dir("a", 0)), []int{4}, 0},
		"on the way, and a whiteout below":    {packs(lay(3, list(file("a/b", "x"))), lay(5, list(white("a/c")))), list(dir("a", 0), file("a/b", "x")), []int{3, 3}, 1},
		"on the way, and a whiteout beside":   {packs(lay(3, list(file("a/b", "x"))), lay(5, list(white("a/b"), file("c", "y")))), list(dir("a", 0), file("c", "y")), []int{3, 5}, 1},
		"on the way behind a whiteout":        {packs(lay(3, list(file("a/b", "x"))), lay(5, list(white("a"))), lay(4, list(file("a/c", "y")))), list(dir("a", 0), file("a/c", "y")), []int{4, 4}, 1},
		"on the way to directories":           {packs(lay(3, list(dir("a/b", 5))), lay(5, list(blind("a/c", 6)))), list(dir("a", 0), dir("a/b", 5), dir("a/c", 6)), []int{5, 3, 5}, 0},
		"the way deep, then by itself":        {packs(lay(3, list(file("a/b/c", "x"))), lay(5, list(dir("a", 6)))), list(dir("a", 6), dir("a/b", 0), file("a/b/c", "x")), []int{5, 3, 3}, 1},
		"by itself, then the way deep":        {packs(lay(5, list(dir("a", 6))), lay(3, list(file("a/b/c", "x")))), list(dir("a", 6), dir("a/b", 0), file("a/b/c", "x")), []int{5, 3, 3}, 1},
		"names that begin alike":              {packs(lay(1, list(file("a/b", ""))), lay(2, list(file("ab/c", ""))), lay(3, list(file("a-b/c", ""))), lay(4, list(file("a.b", "")))), list(dir("a", 0), file("a/b", ""), dir("a-b", 0), file("a-b/c", ""), file("a.b", ""), dir("ab", 0), file("ab/c", "")), []int{1, 1, 3, 3, 4, 2, 2}, 4},
		"a name that begins alike, far below": {packs(lay(1, list(file("x/a/b", ""))), lay(2, list(file("x/ab/c", "")))), list(dir("x", 0), dir("x/a", 0), file("x/a/b", ""), dir("x/ab", 0), file("x/ab/c", "")), []int{2, 1, 1, 2, 2}, 2},
		"the same part below":                 {packs(lay(1, list(file("a/a/a", ""))), lay(2, list(file("b/a", "")))), list(dir("a", 0), dir("a/a", 0), file("a/a/a", ""), dir("b", 0), file("b/a", "")), []int{1, 1, 1, 2, 2}, 2},

		// Who has an entry there counts, though it is seen no more.
		"a whiteout and an elder file":              {packs(lay(1, list(file("a", "x"))), lay(2, list(white("a"))), lay(4, list(file("a/b", "y")))), list(dir("a", 0), file("a/b", "y")), []int{1, 4}, 1},
		"a whiteout and an elder directory":         {packs(lay(1, list(dir("a", 7))), lay(2, list(white("a"))), lay(4, list(file("a/b", "y")))), list(dir("a", 0), file("a/b", "y")), []int{1, 4}, 1},
		"a whiteout and an elder opaque one":        {packs(lay(1, list(blind("a", 7))), lay(2, list(white("a"))), lay(4, list(file("a/b", "y")))), list(dir("a", 0), file("a/b", "y")), []int{1, 4}, 1},
		"a way over an elder file":                  {packs(lay(1, list(file("a", "x"))), lay(2, list(file("a/b", "y")))), list(dir("a", 0), file("a/b", "y")), []int{1, 2}, 1},
		"two elder ones":                            {packs(lay(1, list(file("a", "x"))), lay(2, list(dir("a", 5))), lay(3, list(white("a"))), lay(4, list(file("a/b", "y")))), list(dir("a", 0), file("a/b", "y")), []int{2, 4}, 1},
		"a whiteout above, an elder entry below":    {packs(lay(1, list(dir("a/b", 5))), lay(2, list(white("a"))), lay(3, list(file("a/b/c", "y")))), list(dir("a", 0), dir("a/b", 0), file("a/b/c", "y")), []int{3, 1, 3}, 1},
		"an opaque one above, an elder entry below": {packs(lay(1, list(dir("a/b", 5))), lay(2, list(blind("a", 6))), lay(3, list(file("a/b/c", "y")))), list(dir("a", 6), dir("a/b", 0), file("a/b/c", "y")), []int{2, 1, 3}, 1},
		"a whiteout within the package":             {packs(lay(1, list(file("a", "x")), list(white("a")), list(file("a/b", "y")))), list(dir("a", 0), file("a/b", "y")), []int{1, 1}, 1},
		"a whiteout in the last package":            {packs(lay(1, list(dir("a", 5), file("a/b", "x"))), lay(2, list(white("a"), file("c", "")), list(file("a/d", "y")))), list(dir("a", 0), file("a/d", "y"), file("c", "")), []int{1, 2, 2}, 2},

		// The same layer twice.
		"one layer of two owners":     {packs(lay(1, list(file("a/b", "x"))), lay(2, list(file("a/b", "x")))), list(dir("a", 0), file("a/b", "x")), []int{2, 2}, 1},
		"one layer around another":    {packs(lay(1, list(dir("a", 5))), lay(2, list(blind("a", 6), file("a/b", "x"))), lay(3, list(dir("a", 5)))), list(dir("a", 5), file("a/b", "x")), []int{3, 2}, 1},
		"one whiteout around another": {packs(lay(1, list(white("a"))), lay(2, list(file("a", "x"))), lay(3, list(white("a")))), nil, nil, 0},
		"one layer, whited out again": {packs(lay(1, list(file("a/b", "x"))), lay(2, list(white("a/b"))), lay(3, list(file("a/b", "x")))), list(dir("a", 0), file("a/b", "x")), []int{3, 3}, 1},
	}
}

func TestViewsByHand(t *testing.T) {
	x := newShop(t, 3000)
	for what, k := range knownByHand() {
		v := x.made(t, k.l...)
		if got := v.Tree(); !slices.Equal(got, k.tree) {
			t.Errorf("%s: Tree = %s, want %s", what, show(got), show(k.tree))
		}
		if n := v.Files(); n != k.files {
			t.Errorf("%s: Files = %d, want %d", what, n, k.files)
		}
		for i, y := range k.tree {
			if got, e := v.Lookup(y.Path); got != y || e != 0 {
				t.Errorf("%s: Lookup(%s) = %v, %d", what, y.Path, got, int(e))
			}
			if got, e := v.Owner(y.Path); got != k.owners[i] || e != 0 {
				t.Errorf("%s: Owner(%s) = %d, %d, want %d", what, y.Path, got, int(e), k.owners[i])
			}
		}
	}
}

// full is a view that has something of each kind.
func full(t *testing.T) (*shop, *View, []by) {
	t.Helper()
	x := newShop(t, 500)
	l := packs(
		lay(3, list(dir("a", 5), file("a/b", "x"), file("a/c/d", "y")), list(white("a/b"), file("e", "z"))),
		lay(5, list(blind("f", 7), file("f/g", ""), file("h/i", "w"))),
	)
	return x, x.made(t, l...), l
}

func TestLookupListAndOwnerByHand(t *testing.T) {
	_, v, _ := full(t)
	for _, y := range []struct {
		path   string
		x      api.Entry
		e      api.Errno
		names  string
		listE  api.Errno
		owner  int
		ownerE api.Errno
	}{
		{"", dir("", 0), 0, "a e f h", 0, 0, 9},
		{"/", dir("", 0), 0, "a e f h", 0, 0, 9},
		{".", dir("", 0), 0, "a e f h", 0, 0, 9},
		{"a/..", dir("", 0), 0, "a e f h", 0, 0, 9},
		{"nobody/..", dir("", 0), 0, "a e f h", 0, 0, 9},
		{"a", dir("a", 5), 0, "c", 0, 3, 0},
		{"//a//", dir("a", 5), 0, "c", 0, 3, 0},
		{"f/../a/c/..", dir("a", 5), 0, "c", 0, 3, 0},
		{"a/b", api.Entry{}, 9, "", 9, 0, 9},
		{"a/c", dir("a/c", 0), 0, "d", 0, 3, 0},
		{"a/./c/", dir("a/c", 0), 0, "d", 0, 3, 0},
		{"a/c/d", file("a/c/d", "y"), 0, "", 13, 3, 0},
		{"/a/b/../c/d", file("a/c/d", "y"), 0, "", 13, 3, 0},
		{"a/c/d/e", api.Entry{}, 9, "", 9, 0, 9},
		{"e", file("e", "z"), 0, "", 13, 3, 0},
		{"e/", file("e", "z"), 0, "", 13, 3, 0},
		{"f", dir("f", 7), 0, "g", 0, 5, 0},
		{"f/g", file("f/g", ""), 0, "", 13, 5, 0},
		{"h", dir("h", 0), 0, "i", 0, 5, 0},
		{"h/i", file("h/i", "w"), 0, "", 13, 5, 0},
		{"z", api.Entry{}, 9, "", 9, 0, 9},
		{"a/" + deep(7), api.Entry{}, 9, "", 9, 0, 9},
		{long(24), api.Entry{}, 9, "", 9, 0, 9},
		{long(25), api.Entry{}, 12, "", 12, 0, 12},
		{deep(9), api.Entry{}, 3, "", 3, 0, 3},
		{"..", api.Entry{}, 12, "", 12, 0, 12},
		{"a/../..", api.Entry{}, 12, "", 12, 0, 12},
		{"../a", api.Entry{}, 12, "", 12, 0, 12},
		{"A", api.Entry{}, 12, "", 12, 0, 12},
		{"a b", api.Entry{}, 12, "", 12, 0, 12},
		{"\x00", api.Entry{}, 12, "", 12, 0, 12},
		{"a\\c", api.Entry{}, 12, "", 12, 0, 12},
	} {
		if got, e := v.Lookup(y.path); got != y.x || e != y.e {
			t.Errorf("Lookup(%q) = %v, %d, want %v, %d", y.path, got, int(e), y.x, int(y.e))
		}
		if got, e := v.List(y.path); strings.Join(got, " ") != y.names || e != y.listE {
			t.Errorf("List(%q) = %q, %d, want %s, %d", y.path, got, int(e), y.names, int(y.listE))
		}
		if got, e := v.Owner(y.path); got != y.owner || e != y.ownerE {
			t.Errorf("Owner(%q) = %d, %d, want %d, %d", y.path, got, int(e), y.owner, int(y.ownerE))
		}
	}
}

// upTo goes over an iterator until it had n entries, by hand: whoever goes on behind that is told.
func upTo(t *testing.T, seq iter.Seq[api.Entry], n int) []api.Entry {
	t.Helper()
	var out []api.Entry
	seq(func(x api.Entry) bool {
		if len(out) >= n {
			t.Errorf("an iterator that was left behind %d entries goes on", n)
		}
		out = append(out, x)
		return len(out) < n
	})
	return out
}

func TestEachIsLeftAndGoneOverAgain(t *testing.T) {
	_, v, l := full(t)
	tree := modelOf(t, l).tree
	for n := 1; n <= len(tree)+1; n++ {
		seq := v.Each()
		want := tree[:min(n, len(tree))]
		for range 2 { // left, it begins anew
			if got := upTo(t, seq, n); !slices.Equal(got, want) {
				t.Errorf("Each up to %d goes over %s, want %s", n, show(got), show(want))
			}
		}
		for range 2 {
			if got := slices.Collect(seq); !slices.Equal(got, tree) {
				t.Errorf("Each, left behind %d, goes over %s", n, show(got))
			}
		}
	}
	for i, x := range slices.Collect(v.Each()) {
		if x != tree[i] {
			t.Error(i, x)
		}
	}
}

func TestEachWithinEach(t *testing.T) {
	_, v, l := full(t)
	tree := modelOf(t, l).tree
	seq := v.Each()
	var got []api.Entry
	for x := range seq {
		for y := range seq {
			if y.Path == x.Path {
				break
			}
			got = append(got, y)
		}
		got = append(got, x)
		isView(t, v, modelOf(t, l)) // the view may be asked in the midst
	}
	var want []api.Entry
	for i := range tree {
		want = append(want, tree[:i+1]...)
	}
	if !slices.Equal(got, want) {
		t.Errorf("Each within Each goes over %s, want %s", show(got), show(want))
	}
}

func TestEachWithoutAFunction(t *testing.T) {
	_, v, _ := full(t)
	v.Each()(nil)
	(&View{}).Each()(nil)
	(*View)(nil).Each()(nil)
}

func TestFiles(t *testing.T) {
	x := newShop(t, 500)
	var l []api.Entry
	for n := range 30 {
		v := x.made(t, lay(1, slices.Clone(l)))
		if got := v.Files(); got != n {
			t.Errorf("Files = %d, want %d", got, n)
		}
		l = append(l, dir(fmt.Sprintf("d%02d", n), n))
		l = append(l, file(fmt.Sprintf("d%02d/f", n), ""))
	}
	if v := x.made(t, lay(1, list(dir("a", 1), dir("a/b", 2), blind("c", 3)))); v.Files() != 0 {
		t.Error("of directories alone:", v.Files())
	}
}

// On many stacks, against the model

// singles are layers of one entry each, of all kinds.
func singles(paths ...string) [][]api.Entry {
	var out [][]api.Entry
	for i, p := range paths {
		out = append(out, list(file(p, fmt.Sprint(i))), list(dir(p, 1+i)), list(white(p)), list(blind(p, 101+i)))
	}
	return out
}

// groups are the ways to make packages of layers: owners, and how many layers each has.
func groups(n int) [][]by {
	var out [][]by
	cuts(n, func(ends []int) {
		var plain, other []by
		from := 0
		for i, end := range ends {
			plain = append(plain, by{owner: i + 1, layers: make([][]api.Entry, end-from)})
			other = append(other, by{owner: 8 - 5*(i%2), layers: make([][]api.Entry, end-from)})
			from = end
		}
		out = append(out, plain, other)
	})
	return out
}

// stored are layers, and how manifests name them.
type stored struct {
	layers [][]api.Entry
	refs   []api.Ref
}

func (x *shop) all(t *testing.T, layers [][]api.Entry) stored {
	t.Helper()
	out := stored{layers: layers}
	for _, l := range layers {
		out.refs = append(out.refs, x.layer(t, l...))
	}
	return out
}

// laid puts the chosen layers into packages of such sizes; the second is false where a package would have one twice.
func (y stored) laid(group []by, chosen []int) ([]by, []api.Pack, bool) {
	var l []by
	var stack []api.Pack
	for i, g := range group {
		p := pack(g.owner, fmt.Sprint("p", i))
		b := by{owner: g.owner}
		for range g.layers {
			ref := y.refs[chosen[0]]
			if slices.Contains(p.Man.Layers, ref) {
				return nil, nil, false
			}
			b.layers = append(b.layers, y.layers[chosen[0]])
			p.Man.Layers = append(p.Man.Layers, ref)
			chosen = chosen[1:]
		}
		l, stack = append(l, b), append(stack, p)
	}
	return l, stack, true
}

// isEach holds the views of all stacks of n layers out of these, in all packages, against the model.
func (x *shop) isEach(t *testing.T, y stored, n int) {
	t.Helper()
	ways := groups(n)
	chosen := make([]int, n)
	var from func(i int)
	from = func(i int) {
		if t.Failed() {
			return
		}
		if i < n {
			for k := range y.layers {
				chosen[i] = k
				from(i + 1)
			}
			return
		}
		for _, group := range ways {
			l, stack, may := y.laid(group, chosen)
			if !may {
				continue
			}
			v, e := Make(stack, x.s)
			if e != 0 {
				t.Fatalf("%s: Make = %d", showAll(l), int(e))
			}
			isQuick(t, v, modelOf(t, l), "", "a", "a/b", "a/b/c", "a/c", "ab", "ab/c")
		}
	}
	from(0)
}

// isQuick is isView of some paths alone.
func isQuick(t *testing.T, v *View, m model, paths ...string) {
	t.Helper()
	if got := v.Tree(); !slices.Equal(got, m.tree) {
		t.Errorf("%s: Tree = %s, want %s", showAll(m.l), show(got), show(m.tree))
	}
	if got := v.Files(); got != m.files() {
		t.Errorf("%s: Files = %d, want %d", showAll(m.l), got, m.files())
	}
	for _, p := range paths {
		isTold(t, v, m, p)
	}
}

func TestAllStacksOfSingleEntries(t *testing.T) {
	x := newShop(t, 500)
	y := x.all(t, singles("a", "a/b", "a/b/c", "ab/c"))
	for n := range 4 {
		x.isEach(t, y, n)
	}
	x.isEach(t, x.all(t, singles("a", "a/b")), 4)
}

// doubles are all layers of two entries that may be, out of single ones.
func doubles(l [][]api.Entry) [][]api.Entry {
	var out [][]api.Entry
	for _, p := range l {
		for _, q := range l {
			both := slices.Concat(p, q)
			if _, e := layer.Check(both); e == 0 {
				out = append(out, both)
			}
		}
	}
	return out
}

func TestAllPairsOfShortLayers(t *testing.T) {
	x := newShop(t, 1000)
	ones := singles("a", "a/b", "ab")
	x.isEach(t, x.all(t, slices.Concat(ones, doubles(ones))), 2)
}

// somePath is one by chance, that others may have too, or may lie below.
func somePath(r *rand.Rand, most int) string {
	parts := []string{"a", "b", "a-b", "ab", "..."}
	path := make([]string, 1+r.Intn(most))
	for k := range path {
		path[k] = parts[r.Intn(len(parts))]
	}
	return strings.Join(path, "/")
}

// someLayer is one that may be, by chance.
func someLayer(r *rand.Rand, most int) []api.Entry {
	var l []api.Entry
	for range r.Intn(most + 1) {
		x := api.Entry{Path: somePath(r, 4), Kind: []int{1, 1, 2, 3, 4}[r.Intn(5)]}
		if r.Intn(20) == 0 {
			x.Path = somePath(r, 8)
		}
		if x.Kind == 1 {
			x.Body = strings.Repeat(string([]byte{byte(r.Intn(256))}), r.Intn(6))
		}
		if x.Kind != 3 {
			x.Mode = r.Intn(512)
		}
		l = append(l, x)
	}
	slices.SortFunc(l, func(x, y api.Entry) int {
		return slices.Compare(strings.Split(x.Path, "/"), strings.Split(y.Path, "/"))
	})
	for {
		at, e := layer.Check(l)
		if e == 0 {
			return l
		}
		l = slices.Delete(l, at, at+1)
	}
}

// somePacks are packages by chance, of at most 16 layers together, at most eight each.
func somePacks(r *rand.Rand) []by {
	var l []by
	room := r.Intn(17)
	for room > 0 {
		b := by{owner: 1 + r.Intn(8)}
		for range 1 + r.Intn(min(room, 8)) {
			b.layers = append(b.layers, someLayer(r, 10))
			room--
		}
		l = append(l, b)
	}
	return l
}

// unlike leaves out what a package has twice.
func unlike(l []by) []by {
	for i, b := range l {
		var layers [][]api.Entry
		for _, y := range b.layers {
			if !slices.ContainsFunc(layers, func(z []api.Entry) bool { return slices.Equal(y, z) }) {
				layers = append(layers, y)
			}
		}
		l[i].layers = layers
	}
	return l
}

func TestViewsByChance(t *testing.T) {
	r := rand.New(rand.NewSource(19))
	for range 20 {
		x := newShop(t, 4096)
		for range 15 {
			x.made(t, unlike(somePacks(r))...)
		}
	}
}

// Stacks of some of which a layer is lost, or is none.
func TestFaultsByChance(t *testing.T) {
	r := rand.New(rand.NewSource(91))
	told := map[api.Errno]int{}
	for n := range 20 {
		x := newShop(t, 4096)
		for range 15 {
			l := unlike(somePacks(r))
			stack := x.stack(t, l...)
			want := api.OK
			for i, p := range stack {
				for k := range p.Man.Layers {
					e := api.OK
					switch r.Intn(25) {
					case 0:
						p.Man.Layers[k], e = lost(fmt.Sprint(i, k)), 9
					case 1:
						p.Man.Layers[k], e = x.put(t, fmt.Sprint(n, i, k)), 5
					}
					if want == 0 {
						want = e
					}
				}
			}
			v, e := Make(stack, x.s)
			if e != want || (v != nil) != (want == 0) {
				t.Fatalf("%s: Make = %d, want %d", showAll(l), int(e), int(want))
			}
			if e == 0 {
				isView(t, v, modelOf(t, l))
			}
			told[e]++
		}
	}
	for _, e := range []api.Errno{0, 5, 9} {
		if told[e] < 10 {
			t.Errorf("%d was told %d times alone", int(e), told[e])
		}
	}
}

// As much as a store and a stack hold: sixteen layers, each of nearly MaxBlob bytes.
func TestMakeOfGreatStacks(t *testing.T) {
	var wide, tall []by
	for i := range 16 {
		var many, far []api.Entry
		for k := range 64 {
			many = append(many, file(fmt.Sprintf("dir%02d/part%02d/file%02d", k%8*2+i%2, i, k), ""))
		}
		for k := range 9 {
			far = append(far, file(strings.Repeat(strings.Repeat("x", 24)+"/", 7)+fmt.Sprintf("%d-%02d", k, i), ""))
		}
		slices.SortFunc(many, func(x, y api.Entry) int { return strings.Compare(x.Path, y.Path) })
		wide = append(wide, lay(1+i%8, many))
		tall = append(tall, lay(8-i%8, far))
	}
	for _, l := range [][]by{wide, tall} {
		x := newShop(t, 4096)
		v := x.made(t, l...)
		if n := v.Files(); n != 16*len(l[0].layers[0]) {
			t.Error(n)
		}
	}
	x := newShop(t, 4096)
	x.made(t, lay(2, flat(tall[:8])...), lay(4, flat(tall[8:])...))
	data := encoded(t, list(file("a", long(256)), file("b", long(256)), file("c", long(256)), file("d", long(256)), file("e", long(256)), file("f", long(256)), file("g", long(256)), file("h", long(196)))...)
	if len(data) != api.MaxBlob {
		t.Fatal(len(data))
	}
	entries, _ := layer.Decode([]byte(data))
	x.made(t, lay(1, entries))
}

// flat is all layers of packages of one layer each.
func flat(l []by) [][]api.Entry {
	var out [][]api.Entry
	for _, b := range l {
		out = append(out, b.layers...)
	}
	return out
}

// P19.4: whatever becomes of the store

// deed is something that is done to a store; what it answers is not asked for.
type deed struct {
	name string
	do   func(x *shop)
}

// deeds are such, some of them with the digests of a stack.
func deeds(own []api.Digest) []deed {
	pin, root := api.Hold{Root: 1, Txn: 7}, api.Hold{Root: 1}
	return []deed{
		{"put another", func(x *shop) { x.s.Put("VL\x01\x01\x02\x00\x00\x01z") }},
		{"put no layer", func(x *shop) { x.s.Put("no layer") }},
		{"hold", func(x *shop) { x.s.Hold(pin, own) }},
		{"hold nothing", func(x *shop) { x.s.Hold(root, nil) }},
		{"drop", func(x *shop) { x.s.Free(root) }},
		{"turn", func(x *shop) { x.s.Turn(pin) }},
		{"sweep", func(x *shop) { x.s.Sweep() }},
		{"lose power", func(x *shop) { x.d.Fuse(1); x.s.Put("more"); x.d.Crash(nil); x.s, _ = blob.Open(x.d) }},
	}
}

func TestWhateverBecomesOfTheStore(t *testing.T) {
	l := packs(lay(3, list(dir("a", 5), file("a/b", "x")), list(file("c/d", "y"))), lay(5, list(white("a/b"), file("e", "z"))))
	m := modelOf(t, l)
	names := len(deeds(nil))
	swept := 0
	for first := range names {
		for second := range names {
			for third := range names {
				x := newShop(t, 60)
				stack := x.stack(t, l...)
				v, e := Make(stack, x.s)
				if e != 0 {
					t.Fatal(int(e))
				}
				was := said(v, m.probes()...)
				all := deeds(rootdb.Sums(stack))
				for _, k := range []int{first, second, third} {
					all[k].do(x)
					if now := said(v, m.probes()...); now != was {
						t.Fatalf("behind %s, %s and %s up to %s the view tells %s, ahead of it %s", all[first].name, all[second].name, all[third].name, all[k].name, now, was)
					}
				}
				if again, e := Make(stack, x.s); e == 9 && again == nil {
					swept++
				} else if e != 0 || said(again, m.probes()...) != was {
					t.Fatalf("Make behind it = %d", int(e))
				}
			}
		}
	}
	if swept < 50 {
		t.Error("swept away only", swept, "times")
	}
}

func TestAViewOutlivesItsLayers(t *testing.T) {
	x := newShop(t, 200)
	l := packs(lay(3, list(file("a/b", "x"))), lay(5, list(dir("a", 7), file("c", ""))))
	stack := x.stack(t, l...)
	v, e := Make(stack, x.s)
	if e != 0 {
		t.Fatal(int(e))
	}
	if n, e := x.s.Sweep(); n != 2 || e != 0 {
		t.Fatal(n, int(e))
	}
	isView(t, v, modelOf(t, l))
	isRefused(t, "behind a sweep", 9, stack, x.s)
	seq := v.Each()
	other := x.made(t, lay(1, list(file("a/b", "other")))) // and whatever other view is made
	isView(t, v, modelOf(t, l))
	isView(t, other, modelOf(t, packs(lay(1, list(file("a/b", "other"))))))
	if got := slices.Collect(seq); !slices.Equal(got, modelOf(t, l).tree) {
		t.Error(show(got))
	}
}

func noViews() map[string]*View {
	return map[string]*View{"nil": nil, "plain": {}, "new": new(View)}
}

func TestNoView(t *testing.T) {
	for what, v := range noViews() {
		if l := v.Tree(); len(l) != 0 {
			t.Errorf("%s: Tree = %s", what, show(l))
		}
		if n := v.Files(); n != 0 {
			t.Errorf("%s: Files = %d", what, n)
		}
		seq := v.Each()
		if seq == nil {
			t.Fatalf("%s: Each is nil", what)
		}
		for range 2 {
			for x := range seq {
				t.Errorf("%s: Each goes over %v", what, x)
			}
		}
		for _, p := range []string{"", "/", "a", "a/b", "..", "A", deep(9), long(25), "a/.."} {
			if x, e := v.Lookup(p); x != (api.Entry{}) || e != 1 {
				t.Errorf("%s: Lookup(%q) = %v, %d", what, p, x, int(e))
			}
			if l, e := v.List(p); len(l) != 0 || e != 1 {
				t.Errorf("%s: List(%q) = %q, %d", what, p, l, int(e))
			}
			if n, e := v.Owner(p); n != 0 || e != 1 {
				t.Errorf("%s: Owner(%q) = %d, %d", what, p, n, int(e))
			}
		}
	}
}

// Nobody else's memory

// spoil changes a list, and what lies behind it.
func spoil[T any](l []T, with T) {
	for i := range l[:cap(l)] {
		l[:cap(l)][i] = with
	}
}

func TestWhatIsToldIsNobodyElses(t *testing.T) {
	x, v, l := full(t)
	m := modelOf(t, l)
	wrong := api.Entry{Path: "spoilt", Kind: 1, Mode: -1, Body: "spoilt"}
	was := said(v, m.probes()...)
	twin, e := Make(x.stack(t, l...), x.s)
	if e != 0 {
		t.Fatal(int(e))
	}
	tree := v.Tree()
	spoil(v.Tree(), wrong)
	if !slices.Equal(tree, m.tree) || said(v, m.probes()...) != was {
		t.Error("a tree that was changed changes others")
	}
	for _, p := range []string{"", "a", "f", "h"} {
		names, _ := v.List(p)
		kept := slices.Clone(names)
		other, _ := v.List(p)
		spoil(other, "spoilt")
		if len(other) == 0 || !slices.Equal(names, kept) || said(v, m.probes()...) != was {
			t.Errorf("names of %q that were changed change others", p)
		}
	}
	var got []api.Entry
	for x := range v.Each() {
		got = append(got, x)
		spoil(v.Tree(), wrong)
		spoil(tree, wrong)
		x.Path = "spoilt"
	}
	if !slices.Equal(got, m.tree) || said(v, m.probes()...) != was || said(twin, m.probes()...) != was {
		t.Error("a tree that is changed in the midst of Each changes something")
	}
}

// What is handed in is neither changed nor kept, and what lies behind its lists is not read.
func TestWhatIsHandedInStays(t *testing.T) {
	x, _, l := full(t)
	m := modelOf(t, l)
	bad := api.Pack{Owner: -1, Man: api.Manifest{Name: "Wrong", Layers: []api.Ref{lost("a")}}}
	hidden := lost("hidden")
	build := func() []api.Pack {
		stack := x.stack(t, l...)
		for i, p := range stack {
			refs := append(slices.Clone(p.Man.Layers), hidden, hidden)
			stack[i].Man.Layers = refs[:len(refs)-2]
		}
		return append(slices.Clone(stack), bad, bad)[:len(stack)]
	}
	stack, same := build(), build()
	v, e := Make(stack, x.s)
	if e != 0 {
		t.Fatal(int(e))
	}
	behind := stack[:len(stack)+2]
	for i, p := range same[:len(same)+2] {
		refs := p.Man.Layers
		if i < len(same) {
			refs = refs[:len(refs)+2]
		}
		q := behind[i]
		if q.Owner != p.Owner || q.Man.Name != p.Man.Name || q.Man.Version != p.Man.Version || len(q.Man.Layers) != len(p.Man.Layers) || !slices.Equal(q.Man.Layers[:len(refs)], refs) {
			t.Errorf("package %d is changed", i)
		}
	}
	was := said(v, m.probes()...)
	for _, p := range stack {
		spoil(p.Man.Layers, hidden)
	}
	spoil(stack, bad)
	if said(v, m.probes()...) != was {
		t.Error("a stack that is changed changes the view")
	}
	isView(t, v, m)
}

// What was refused leaves the stack and the store as they were.
func TestARefusedMakeChangesNothing(t *testing.T) {
	x := newShop(t, 200)
	there, other := x.layer(t, file("a", "x")), x.put(t, "no layer")
	blobs, writes := x.s.Blobs(), x.d.Done()
	for _, refs := range [][]api.Ref{{there, other}, {there, lost("a")}, {other, there}, {there}} {
		stack := []api.Pack{pack(1, "p", refs...)}
		Make(stack, x.s)
		if !slices.Equal(stack[0].Man.Layers, refs) || !slices.Equal(x.s.Blobs(), blobs) || x.d.Done() != writes || len(x.s.Holds()) != 0 {
			t.Errorf("Make of %v changes something", refs)
		}
	}
}

// Rule 7: the same is told again.
func TestTheSameIsToldAgain(t *testing.T) {
	r := rand.New(rand.NewSource(4))
	x := newShop(t, 4096)
	for range 10 {
		l := unlike(somePacks(r))
		stack, paths := x.stack(t, l...), modelOf(t, l).probes()
		first, e := Make(stack, x.s)
		if e != 0 {
			t.Fatal(int(e))
		}
		was := said(first, paths...)
		for range 10 {
			v, e := Make(stack, x.s)
			if e != 0 || said(v, paths...) != was || said(first, paths...) != was {
				t.Fatalf("%s is told two things", showAll(l))
			}
		}
	}
}
